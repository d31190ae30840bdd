/-
  The law's comparison of two Heaps and of slices of them: of two that are the same it says true; nothing that was there is turned.
-/
import Derived.Test.YtempmfpnngbbeabHeapSh
import Derived.Test.YtempmfpnngbbeabIntsMk
import Derived.Deep.RegionWith
namespace Go.Proofs.Ytempmfpnngbbeab.heap
open Go.RowKit Go.Proofs.Ytempmfpnngbbeab.rose Go.Proofs.Ytempmfpnngbbeab
set_option linter.unusedVariables false

def EqSays (T : HeapD) : Prop := ∀ cs1 cs2 w, heapSh.rep w (· < w.heap.size) cs1 T → heapSh.rep w (· < w.heap.size) cs2 T →
  Calls Try.prog 11 #[.agg cs1.toArray, .agg cs2.toArray] w fun e w' => e = .returned (.bool true) ∧ Below w.heap.size w w'

set_option maxHeartbeats 1000000 in
theorem eq_any (T : HeapD) : EqSays T := by
  intro cs1 cs2 w h h'
  obtain ⟨x0, a0, c0, x1, x2, x3, rfl, rfl, f0, f1, f2, f3⟩ := heap_open h
  obtain ⟨x0', a0', c0', x1', x2', x3', hT, rfl, g0, g1, g2, g3⟩ := heap_open h'
  cases hT
  clear h h'
  have K0 : ∀ (w' : World), Below w.heap.size w w' → Calls Try.prog 14 #[.slice a0 x0.length c0, .slice a0' x0.length c0'] w' fun e w'' => e = .returned (.bool true) ∧ Below w'.heap.size w' w'' :=
    fun w' hb => ints.eq_any x0 _ _ w' (Sh.int.slice.mono (Sh.int.slice.below f0 hb) fun b hlt => Nat.lt_of_lt_of_le hlt hb.size) (Sh.int.slice.mono (Sh.int.slice.below g0 hb) fun b hlt => Nat.lt_of_lt_of_le hlt hb.size)
  clear f0 g0
  go_enter Try.func11, Try.ntmps11
  go_wp2_with fail
  refine (K0 _ (((Below.refl _ _).alloc (Nat.le_refl _) _).alloc (by simp) _)).mono ?_
  rintro e w1 ⟨rfl, hb⟩
  have B1 : Hid (Below w.heap.size w w1) := (((Below.refl _ _).alloc (Nat.le_refl _) _).alloc (by simp) _).trans (hb.mono (by simp; omega))
  have z1 : w.heap.size + 2 ≤ w1.heap.size := Nat.le_trans (by simp) hb.size
  have ba1_1 : w1.cell? ⟨w.heap.size, 1, none⟩ = some (.int .i64 x1) := (hb.cell (p := ⟨w.heap.size, 1, none⟩) (by simp; omega)).trans (by simp)
  have bb1_1 : w1.cell? ⟨w.heap.size + 1, 1, none⟩ = some (.int .i64 x1) := (hb.cell (p := ⟨w.heap.size + 1, 1, none⟩) (by simp)).trans (by simp)
  have ba1_2 : w1.cell? ⟨w.heap.size, 2, none⟩ = some (.int .i64 x2) := (hb.cell (p := ⟨w.heap.size, 2, none⟩) (by simp; omega)).trans (by simp)
  have bb1_2 : w1.cell? ⟨w.heap.size + 1, 2, none⟩ = some (.int .i64 x2) := (hb.cell (p := ⟨w.heap.size + 1, 2, none⟩) (by simp)).trans (by simp)
  have ba1_3 : w1.cell? ⟨w.heap.size, 3, none⟩ = some (.int .i64 x3) := (hb.cell (p := ⟨w.heap.size, 3, none⟩) (by simp; omega)).trans (by simp)
  have bb1_3 : w1.cell? ⟨w.heap.size + 1, 3, none⟩ = some (.int .i64 x3) := (hb.cell (p := ⟨w.heap.size + 1, 3, none⟩) (by simp)).trans (by simp)
  clear hb K0
  go_wp2
  go_ret
  exact ⟨rfl, B1.out⟩


end Go.Proofs.Ytempmfpnngbbeab.heap
