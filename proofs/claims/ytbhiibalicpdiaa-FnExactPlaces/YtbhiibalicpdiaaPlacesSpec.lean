/-
  The model's Places, at every list of functions; nothing that was there is turned.
-/
import Derived.Test.YtbhiibalicpdiaaFunSz
import Derived.WalkSmall
namespace Go.Proofs.Ytbhiibalicpdiaa.fun
open Go.RowKit Go.Proofs.Ytbhiibalicpdiaa.rose Go.Proofs.Ytbhiibalicpdiaa
set_option linter.unusedVariables false

theorem wt_get {ks : List FunD} {i : Nat} (h : i < ks.length) {x : Int} {y : List op.OpD} (e : ks[i] = (x, y)) : wts (ks.take (i + 1)) = wts (ks.take i) + y.length := by
  rw [wts_take h, e]; rfl
theorem wts_all (ks : List FunD) : wts (ks.take ks.length) = wts ks := by rw [List.take_length]

set_option maxRecDepth 100000 in
set_option maxHeartbeats 4000000 in
theorem specPlaces (ks : List FunD) (v : Value) (w : World) (hw : ks.length + wts ks ≤ 1048576) (h : funSh.slice.rep w (· < w.heap.size) [v] ks) :
    Calls Try.prog 5 #[v] w fun e w' => e = .returned (.int .i64 (wts ks : Nat)) ∧ Below w.heap.size w w' := by
  obtain ⟨a, cap, css, rfl, hcap, hmax, hrow, hk⟩ := funs_open h
  have HR : Hid (RowAt w (· < w.heap.size) 2 a ks.length css ∧ ∀ i (h : i < ks.length), funSh.rep w (· < w.heap.size) (css i) ks[i]) := ⟨hrow, hk⟩
  have hmx : (ks.length : Int) ≤ 9223372036854775807 := by omega
  clear h hcap hmax hrow hk
  go_enter Try.func5, Try.ntmps5
  go_wp2
  go_loopw [3, 4] (fun v3 v4 wr => ∃ i n : Nat, i ≤ ks.length ∧ v4 = .int .i64 i ∧ v3 = .int .i64 n ∧ n ≤ 1048576 ∧ Hid (n = wts (ks.take i)) ∧ wr = w) (fun _ v4 _ => ks.length - (intOf v4).toNat)
  case atStart => exact ⟨0, 0, Nat.zero_le _, rfl, rfl, by decide, rfl, rfl⟩
  case round =>
    obtain ⟨i, n, hi, rfl, rfl, hn, HA, hwr⟩ := hrel
    subst wr
    by_cases hlt : i < ks.length
    · obtain ⟨b', o', rfl, hS', hc⟩ := HR.out.1 i hlt
      obtain ⟨y0, y1, a2, c2, hT, hcs, g2, hrep⟩ := fun_open (HR.out.2 i hlt)
      rw [hcs] at hc
      have e1 : w.cell? ⟨b', o' + i * 2 + 1, none⟩ = some (.slice a2 y1.length c2) := hc 1 _ rfl
      have HW : Hid (n + y1.length = wts (ks.take (i + 1))) := by show _ = _; rw [wt_get hlt hT, HA.out]
      have hm : n + y1.length ≤ 1048576 := by have := wts_take_le ks (i + 1); have := HW.out; omega
      clear hc hcs hT hrep
      go_wp2
      go_round
      case rel => exact ⟨i + 1, n + y1.length, by omega, by go_num, by go_num, hm, HW, trivial⟩
      case measure => simp [intOf]; omega
    · obtain rfl : i = ks.length := by omega
      have HW : Hid (n = wts ks) := by show _ = _; rw [HA.out, wts_all]
      go_wp2
      go_ret
      exact ⟨by rw [HW.out]; rfl, Below.refl _ _⟩

end Go.Proofs.Ytbhiibalicpdiaa.fun
