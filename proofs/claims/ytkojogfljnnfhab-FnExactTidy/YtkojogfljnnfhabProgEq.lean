/-
  The law's comparison of two Progs and of slices of them: of two that are the same it says true; nothing that was there is turned.
-/
import Derived.Test.YtkojogfljnnfhabProgSz
import Derived.Test.YtkojogfljnnfhabDataEq
import Derived.Test.YtkojogfljnnfhabNodeEq
import Derived.Deep.RegionWith
namespace Go.Proofs.Ytkojogfljnnfhab.prog
open Go.RowKit Go.Proofs.Ytkojogfljnnfhab.rose Go.Proofs.Ytkojogfljnnfhab
set_option linter.unusedVariables false

def EqSays (T : ProgD) : Prop := ∀ cs1 cs2 w, progSh.rep w (· < w.heap.size) cs1 T → progSh.rep w (· < w.heap.size) cs2 T →
  Calls Try.prog 9 #[.agg cs1.toArray, .agg cs2.toArray] w fun e w' => e = .returned (.bool true) ∧ Below w.heap.size w w'

set_option maxHeartbeats 1000000 in
theorem eq_any (T : ProgD) : EqSays T := by
  intro cs1 cs2 w h h'
  obtain ⟨x0, a0, c0, x1, u1_0, u1_1, u1_2, u1_3, u1_4, rfl, rfl, f0, f1⟩ := prog_open h
  obtain ⟨x0', a0', c0', x1', u1_0', u1_1', u1_2', u1_3', u1_4', hT, rfl, g0, g1⟩ := prog_open h'
  cases hT
  have ou1_0 := node.ndSh.one f1 u1_0 (by simp)
  have ou1_1 := node.ndSh.one f1 u1_1 (by simp)
  have ou1_2 := node.ndSh.one f1 u1_2 (by simp)
  have ou1_3 := node.ndSh.one f1 u1_3 (by simp)
  have ou1_4 := node.ndSh.one f1 u1_4 (by simp)
  have ou1_0' := node.ndSh.one g1 u1_0' (by simp)
  have ou1_1' := node.ndSh.one g1 u1_1' (by simp)
  have ou1_2' := node.ndSh.one g1 u1_2' (by simp)
  have ou1_3' := node.ndSh.one g1 u1_3' (by simp)
  have ou1_4' := node.ndSh.one g1 u1_4' (by simp)
  clear h h'
  have K0 : ∀ (w' : World), Below w.heap.size w w' → Calls Try.prog 24 #[.slice a0 x0.length c0, .slice a0' x0.length c0'] w' fun e w'' => e = .returned (.bool true) ∧ Below w'.heap.size w' w'' :=
    fun w' hb => data.eqS_any x0 _ _ w' (data.dataSh.slice.mono (data.dataSh.slice.below f0 hb) fun b hlt => Nat.lt_of_lt_of_le hlt hb.size) (data.dataSh.slice.mono (data.dataSh.slice.below g0 hb) fun b hlt => Nat.lt_of_lt_of_le hlt hb.size)
  have K1 : ∀ (w' : World), Below w.heap.size w w' → Calls Try.prog 14 #[.agg #[u1_0, u1_1, u1_2, u1_3, u1_4], .agg #[u1_0', u1_1', u1_2', u1_3', u1_4']] w' fun e w'' => e = .returned (.bool true) ∧ Below w'.heap.size w' w'' :=
    fun w' hb => node.eq_any x1 _ _ w' (node.ndSh.mono (node.ndSh.below f1 hb) fun b hlt => Nat.lt_of_lt_of_le hlt hb.size) (node.ndSh.mono (node.ndSh.below g1 hb) fun b hlt => Nat.lt_of_lt_of_le hlt hb.size)
  clear f0 g0 f1 g1
  go_enter Try.func9, Try.ntmps9
  go_wp2_with fail
  refine (K0 _ (((Below.refl _ _).alloc (Nat.le_refl _) _).alloc (by simp) _)).mono ?_
  rintro e w1 ⟨rfl, hb⟩
  have B1 : Hid (Below w.heap.size w w1) := (((Below.refl _ _).alloc (Nat.le_refl _) _).alloc (by simp) _).trans (hb.mono (by simp; omega))
  have z1 : w.heap.size + 2 ≤ w1.heap.size := Nat.le_trans (by simp) hb.size
  have ba1_1 : w1.cell? ⟨w.heap.size, 1, none⟩ = some (u1_0) := (hb.cell (p := ⟨w.heap.size, 1, none⟩) (by simp; omega)).trans (by simp)
  have bb1_1 : w1.cell? ⟨w.heap.size + 1, 1, none⟩ = some (u1_0') := (hb.cell (p := ⟨w.heap.size + 1, 1, none⟩) (by simp)).trans (by simp)
  have ba1_2 : w1.cell? ⟨w.heap.size, 2, none⟩ = some (u1_1) := (hb.cell (p := ⟨w.heap.size, 2, none⟩) (by simp; omega)).trans (by simp)
  have bb1_2 : w1.cell? ⟨w.heap.size + 1, 2, none⟩ = some (u1_1') := (hb.cell (p := ⟨w.heap.size + 1, 2, none⟩) (by simp)).trans (by simp)
  have ba1_3 : w1.cell? ⟨w.heap.size, 3, none⟩ = some (u1_2) := (hb.cell (p := ⟨w.heap.size, 3, none⟩) (by simp; omega)).trans (by simp)
  have bb1_3 : w1.cell? ⟨w.heap.size + 1, 3, none⟩ = some (u1_2') := (hb.cell (p := ⟨w.heap.size + 1, 3, none⟩) (by simp)).trans (by simp)
  have ba1_4 : w1.cell? ⟨w.heap.size, 4, none⟩ = some (u1_3) := (hb.cell (p := ⟨w.heap.size, 4, none⟩) (by simp; omega)).trans (by simp)
  have bb1_4 : w1.cell? ⟨w.heap.size + 1, 4, none⟩ = some (u1_3') := (hb.cell (p := ⟨w.heap.size + 1, 4, none⟩) (by simp)).trans (by simp)
  have ba1_5 : w1.cell? ⟨w.heap.size, 5, none⟩ = some (u1_4) := (hb.cell (p := ⟨w.heap.size, 5, none⟩) (by simp; omega)).trans (by simp)
  have bb1_5 : w1.cell? ⟨w.heap.size + 1, 5, none⟩ = some (u1_4') := (hb.cell (p := ⟨w.heap.size + 1, 5, none⟩) (by simp)).trans (by simp)
  clear hb K0
  go_wp2_with fail
  refine (K1 _ B1.out).mono ?_
  rintro e w2 ⟨rfl, hb⟩
  have B2 : Hid (Below w.heap.size w w2) := B1.out.trans (hb.mono B1.out.size)
  have z2 : w.heap.size + 2 ≤ w2.heap.size := Nat.le_trans z1 hb.size
  clear ba1_1 bb1_1 ba1_2 bb1_2 ba1_3 bb1_3 ba1_4 bb1_4 ba1_5 bb1_5 z1 B1
  clear hb K1
  go_wp2
  go_ret
  exact ⟨rfl, B2.out⟩


end Go.Proofs.Ytkojogfljnnfhab.prog
