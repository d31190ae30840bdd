/-
  The law's look at marks of slices of ints: where what was marked lies, it tells how far it came; nothing is turned.
-/
import Derived.Test.YtempmfpnngbbeabIntsMk
namespace Go.Proofs.Ytempmfpnngbbeab.ints
open Go.RowKit Go.Proofs.Ytempmfpnngbbeab.rose Go.Proofs.Ytempmfpnngbbeab
set_option linter.unusedVariables false

set_option maxHeartbeats 1000000 in
theorem held_any (ks : List Int) (v : Value) (w : World) (k : Int) (hk1 : 1 ≤ k) (hk2 : k + (ks.length : Nat) ≤ 1152921504606846976) (h : intsSh.rep w (· < w.heap.size) [v] (mks k ks)) :
    Calls Try.prog 17 #[v, .int .i64 k] w fun e w' => e = .returned (.int .i64 (k + (ks.length : Nat))) ∧ Below w.heap.size w w' := by
  obtain ⟨a, cap, rfl, hcap, hmax, hat⟩ := ints_open h
  rw [mks_length] at hcap ⊢
  have hmx : (ks.length : Int) ≤ 9223372036854775807 := by omega
  have HA : Hid (∀ i, i < ks.length → ∃ b o, a = some ⟨b, o, none⟩ ∧ b < w.heap.size ∧ w.cell? ⟨b, o + i, none⟩ = some (.int .i64 (k + (i : Nat)))) := fun i hi => by
    obtain ⟨b, o, e, hS, hc, -⟩ := hat i (by rw [mks_length]; exact hi)
    rw [mks_get] at hc
    exact ⟨b, o, e, hS, hc⟩
  clear h hcap hmax hat
  go_enter Try.func17, Try.ntmps17
  go_wp2
  go_loopw [1, 5] (fun v1 v5 wr => ∃ i : Nat, i ≤ ks.length ∧ v5 = .int .i64 i ∧ v1 = .int .i64 (k + (i : Nat)) ∧ Hid (Below w.heap.size w wr)) (fun _ v5 _ => ks.length - (intOf v5).toNat)
  case atStart => exact ⟨0, Nat.zero_le _, rfl, by simp, Below.refl _ _⟩
  case round =>
    obtain ⟨i, hi, rfl, rfl, HB⟩ := hrel
    by_cases hlt : i < ks.length
    · obtain ⟨b, o, rfl, hS, hc⟩ := HA.out i hlt
      have e0 := (HB.out.cell (p := ⟨b, o + i, none⟩) hS).trans hc
      clear hc
      go_wp2
      go_round
      case rel => exact ⟨i + 1, by omega, by go_num, by go_num, HB.out⟩
      case measure => simp [intOf]; omega
    · obtain rfl : i = ks.length := by omega
      go_wp2
      go_ret
      exact ⟨rfl, HB.out⟩

end Go.Proofs.Ytempmfpnngbbeab.ints
