/-
  The law's type Heap as it lies in memory, and the law's measure of it (szHeap and of slices): what is left of a number when the weight is taken off it, or -1; nothing that was there is turned.
-/
import Derived.Test.YtempmfpnngbbeabChecked
import Derived.Test.YtempmfpnngbbeabRose
import Derived.Test.YtempmfpnngbbeabHeapWt
import Derived.Test.YtempmfpnngbbeabIntsSz
import Derived.WalkKit
import Derived.WalkLawsBesides
import Derived.Deep.QuietTactic
import Derived.BigQuiet
namespace Go.Proofs.Ytempmfpnngbbeab.heap
open Go.RowKit Go.Proofs.Ytempmfpnngbbeab.rose Go.Proofs.Ytempmfpnngbbeab
set_option linter.unusedVariables false

def SzSays (T : HeapD) : Prop := ∀ cs w l, 0 ≤ l → l ≤ 1048576 → heapSh.rep w (· < w.heap.size) cs T →
  Calls Try.prog 7 #[.agg cs.toArray, .int .i64 l] w fun e w' => e = .returned (.int .i64 (left (wt T) l)) ∧ Below w.heap.size w w'

set_option maxHeartbeats 1000000 in
theorem sz_any (T : HeapD) : SzSays T := by
  intro cs w l h0 h1 h
  obtain ⟨x0, a0, c0, x1, x2, x3, rfl, rfl, f0, f1, f2, f3⟩ := heap_open h
  clear h
  have K0 : ∀ (l' : Int) (w' : World), 0 ≤ l' → l' ≤ 1048576 → Below w.heap.size w w' → Calls Try.prog 24 #[.slice a0 x0.length c0, .int .i64 l'] w' fun e w'' => e = .returned (.int .i64 (left (x0.length) l')) ∧ Below w'.heap.size w' w'' :=
    fun l' w' h2 h3 hb => ints.szS_any x0 _ w' l' h2 h3 (Sh.int.slice.mono (Sh.int.slice.below f0 hb) fun b hlt => Nat.lt_of_lt_of_le hlt hb.size)
  clear f0 f1 f2 f3
  have hw : wt ((x0, x1, x2, x3)) = x0.length := by simp [wt]
  rw [hw]
  clear hw
  go_enter Try.func7, Try.ntmps7
  go_wp2_with fail
  refine (K0 _ _ (by omega) (by omega) ((Below.refl _ _).alloc (Nat.le_refl _) _)).mono ?_
  rintro e w1 ⟨rfl, hb⟩
  have B1 : Hid (Below w.heap.size w w1) := ((Below.refl _ _).alloc (Nat.le_refl _) _).trans (hb.mono (by simp))
  have z1 : w.heap.size < w1.heap.size := Nat.lt_of_lt_of_le (by simp) hb.size
  clear hb K0
  by_cases h10 : ((x0.length : Nat) : Int) ≤ l
  · have hl : left x0.length (l) = l - (x0.length : Nat) := by unfold left; rw [if_pos (by omega)]
    rw [hl]
    clear hl
    have t0 : decide (l - (x0.length : Nat) < 0) = false := by simp; omega
    have hr : left (x0.length) l = l - (x0.length : Nat) := by unfold left; rw [if_pos (by omega)]; try omega
    go_wp2
    go_ret
    exact ⟨by first | rfl | (rw [hr]; rfl), B1.out⟩
  · have hl : left x0.length (l) = -1 := by unfold left; rw [if_neg (by omega)]
    have hr : left (x0.length) l = -1 := by unfold left; rw [if_neg (by omega)]
    rw [hl]
    clear hl
    go_wp2
    go_ret
    exact ⟨by first | rfl | (rw [hr]; rfl), B1.out⟩


end Go.Proofs.Ytempmfpnngbbeab.heap
