/-
  The law's look at the marks in slices of Fun: where they are what was marked, it tells how far it came; nothing that was there is turned.
-/
import Derived.Test.YtlfchmmkaflglaaDoorFunMark
import Derived.Test.YtlfchmmkaflglaaDoorOpHeld
import Derived.Deep.RegionWith
namespace Go.Proofs.YtlfchmmkaflglaaDoor.fun
open Go.RowKit Go.Proofs.YtlfchmmkaflglaaDoor.rose Go.Proofs.YtlfchmmkaflglaaDoor
set_option linter.unusedVariables false

def HeldSays (ks : List FunD) : Prop := ∀ (v : Value) (w : World) (k : Int), 1 ≤ k → k + (cnts ks : Nat) ≤ 1152921504606846976 → funSh.slice.rep w (· < w.heap.size) [v] (mks k ks) →
  Calls Tryd.prog 17 #[v, .int .i64 k] w fun e w' => e = .returned (.int .i64 (k + (cnts ks : Nat))) ∧ Below w.heap.size w w'

set_option maxRecDepth 100000 in
set_option maxHeartbeats 4000000 in
theorem held_of (ks : List FunD) : HeldSays ks := by
  intro v w k hk1 hk2 h
  obtain ⟨a, cap, css, rfl, hcap, hmax, hrow, hk⟩ := funs_open h
  rw [mks_length] at hcap hrow ⊢
  have hmx : (ks.length : Int) ≤ 9223372036854775807 := by unfold maxLen at hmax; omega
  have HR : Hid (RowAt w (· < w.heap.size) 2 a ks.length css ∧ ∀ i (h : i < ks.length), funSh.rep w (· < w.heap.size) (css i) (mk (k + (cnts (ks.take i) : Nat)) ks[i])) := ⟨hrow, fun i h => by have := hk i (by rw [mks_length]; exact h); rwa [mks_get h] at this⟩
  have HK : Hid (k + (cnts ks : Nat) ≤ 1152921504606846976) := hk2
  clear h hcap hmax hrow hk hk2 
  go_enter Tryd.func17, Tryd.ntmps17
  go_wp2
  go_loopw [1, 5] (fun v1 v5 wr => ∃ (i : Nat), i ≤ ks.length ∧ v5 = .int .i64 i ∧ v1 = .int .i64 (k + (cnts (ks.take i) : Nat)) ∧ Hid (Below w.heap.size w wr)) (fun _ v5 _ => ks.length - (intOf v5).toNat)
  case atStart => exact ⟨0, Nat.zero_le _, rfl, by simp [cnts], Below.refl _ _⟩
  case round =>
    obtain ⟨i, hi, rfl, rfl, HB0⟩ := hrel
    by_cases hlt : i < ks.length
    · obtain ⟨b, o, rfl, hS, hc⟩ := HR.out.1 i hlt
      have hrep := HR.out.2 i hlt
      have W1 : Hid (cnts (ks.take (i + 1)) = cnts (ks.take i) + cnt ks[i]) := cnts_take hlt
      have W2 : Hid (cnts (ks.take (i + 1)) ≤ cnts ks) := cnts_take_le ks (i + 1)
      obtain ⟨k1, hk⟩ : ∃ k1 : Int, k1 = k + (cnts (ks.take i) : Nat) := ⟨_, rfl⟩
      have HK1 : Hid (k1 = k + (cnts (ks.take i) : Nat)) := hk
      rw [← hk] at hrep ⊢
      generalize ks[i] = T at W1 hrep
      obtain ⟨x0, x1⟩ := T
      rw [mk_eq] at hrep
      obtain ⟨y0, y1, ba1, bc1, hT, hcs, f0, f1⟩ := fun_open hrep
      cases hT
      rw [hcs] at hc
      have ce0_0 : wr.cell? ⟨b, o + i * 2, none⟩ = some (.int .i64 k1) := (HB0.out.cell (p := ⟨b, o + i * 2, none⟩) hS).trans (hc 0 _ rfl)
      have ce0_1 : wr.cell? ⟨b, o + i * 2 + 1, none⟩ = some (.slice ba1 (op.mks (k1 + 1) x1).length bc1) := (HB0.out.cell (p := ⟨b, o + i * 2 + 1, none⟩) hS).trans (hc 1 _ rfl)
      have W3 : Hid (cnt ((x0, x1)) = 1 + (op.cnts x1)) := by show _ = _; simp [cnt]
      have hb1 : 1 ≤ k1 := by omega
      have hb2 : k1 + 1 + (op.cnts x1 : Nat) ≤ 1152921504606846976 := by have := W1.out; have := W2.out; have := W3.out; have := HK.out; omega
      have R_1 : Hid (op.opSh.slice.rep w (· < w.heap.size) [.slice ba1 (op.mks (k1 + 1) x1).length bc1] (op.mks (k1 + 1) x1)) := f1
      have z0 : b < wr.heap.size := Nat.lt_of_lt_of_le hS HB0.out.size
      clear hk hrep hcs hc hS f0 f1
      have hcall := op.heldS_any x1 _ wr (k1 + 1) (by omega) (by omega) (op.opSh.slice.mono (op.opSh.slice.below R_1.out HB0.out) fun q hq => Nat.lt_of_lt_of_le hq HB0.out.size)
      have tt1 : decide (k1 + 1 + (op.cnts x1 : Nat) < 0) = false := by simp; omega
      go_wp2_with fail
      refine hcall.mono ?_
      rintro e w1 ⟨rfl, hb⟩
      have HB1 : Hid (Below w.heap.size w w1) := HB0.out.trans (hb.mono HB0.out.size)
      have z1 := Nat.lt_of_lt_of_le z0 hb.size
      clear hb hcall HB0 z0 ce0_0 ce0_1
      have hx : k1 + 1 + (op.cnts x1 : Nat) = k + (cnts (ks.take (i + 1)) : Nat) := by have := W1.out; have := W3.out; have := HK1.out; omega
      go_wp2
      go_round
      case rel => exact ⟨i + 1, by omega, by go_num, by first | rfl | rw [hx], HB1⟩
      case measure => simp [intOf]; omega
    · obtain rfl : i = ks.length := by omega
      go_wp2
      go_ret
      exact ⟨by rw [List.take_length]; rfl, HB0.out⟩

theorem heldS_any (ks : List FunD) : HeldSays ks := held_of ks


end Go.Proofs.YtlfchmmkaflglaaDoor.fun
