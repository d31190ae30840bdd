/-
  The law's look at the marks in one Heap: where its words are what was marked, it tells how far it came; nothing that was there is turned.
-/
import Derived.Test.YtempmfpnngbbeabInts
import Derived.Test.YtempmfpnngbbeabHeapMarkT
namespace Go.Proofs.Ytempmfpnngbbeab.heap
open Go.RowKit Go.Proofs.Ytempmfpnngbbeab.rose Go.Proofs.Ytempmfpnngbbeab
set_option linter.unusedVariables false

set_option maxHeartbeats 1000000 in
theorem heldT_any (T : HeapD) (cs : List Value) (w : World) (k : Int) (hk1 : 1 ≤ k) (hk2 : k + (cntT T : Nat) ≤ 1152921504606846976) (h : heapSh.rep w (· < w.heap.size) cs (mkT k T)) :
    Calls Try.prog 21 #[.agg cs.toArray, .int .i64 k] w fun e w' => e = .returned (.int .i64 (k + (cntT T : Nat))) ∧ Below w.heap.size w w' := by
  obtain ⟨x0, x1, x2, x3⟩ := T
  obtain ⟨y0, a, cap, y1, y2, y3, hT, rfl, hk, -, -, -⟩ := heap_open h
  simp only [mkT, Prod.mk.injEq] at hT
  obtain ⟨rfl, -, -, -⟩ := hT
  have hct : cntT (x0, x1, x2, x3) = x0.length := rfl
  rw [hct] at hk2 ⊢
  clear h hct
  have BA : Hid (Below w.heap.size w (w.alloc (.cells #[.slice a (ints.mks k x0).length cap, .int .i64 y1, .int .i64 y2, .int .i64 y3] 27))) := (Below.refl _ _).alloc (Nat.le_refl _) _
  have HK : Hid (ints.intsSh.rep w (· < w.heap.size) [.slice a (ints.mks k x0).length cap] (ints.mks k x0)) := hk
  have t0 : decide (k + (x0.length : Nat) < 0) = false := by simp; omega
  clear hk
  go_enter Try.func21, Try.ntmps21
  go_wp2_with fail
  refine (ints.held_any x0 _ _ k hk1 hk2 (ints.intsSh.mono (ints.intsSh.below HK.out BA.out) fun q hq => Nat.lt_of_lt_of_le hq BA.out.size)).mono ?_
  rintro e w1 ⟨rfl, hb⟩
  have B1 : Hid (Below w.heap.size w w1) := BA.out.trans (hb.mono BA.out.size)
  clear hb
  go_wp2
  go_ret
  exact ⟨rfl, B1.out⟩

end Go.Proofs.Ytempmfpnngbbeab.heap
