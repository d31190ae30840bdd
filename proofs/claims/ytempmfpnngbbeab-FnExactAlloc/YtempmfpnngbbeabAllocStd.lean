/-
  How much a heap can hold when a block was put into it.
-/
import Derived.Test.YtempmfpnngbbeabAllocSpec
import Derived.Test.YtempmfpnngbbeabAllocImpl
import Derived.Test.YtempmfpnngbbeabHeapMarkT
namespace Go.Proofs.Ytempmfpnngbbeab.heap
open Go Go.RowKit Go.Proofs.Ytempmfpnngbbeab.rose Go.Proofs.Ytempmfpnngbbeab Go.Proofs.Ytempmfpnngbbeab.fun Go.Proofs.Ytempmfpnngbbeab.words Go.Proofs.Ytempmfpnngbbeab.ints
theorem cntT_boundA (T : HeapD) (hw : wt T ≤ 1048576) : cntT T ≤ 1073741824 := by
  obtain ⟨W, a, b, c⟩ := T
  have h1 : wt (W, a, b, c) = W.length := rfl
  have h2 : cntT (W, a, b, c) = W.length := rfl
  omega
theorem alloc_bound (T : HeapD) (fn : Bool) (tag : Int) (kids : List Int) (hw : wt T ≤ 1048576) : cntT (allocF T fn tag kids).1 ≤ 1073741824 := by
  unfold allocF
  split
  · obtain ⟨W, a, b, c⟩ := T
    have h1 : wt (W, a, b, c) = W.length := rfl
    show (putW W c.toNat _).length ≤ _
    rw [putW_length]
    omega
  · exact cntT_boundA T hw
end Go.Proofs.Ytempmfpnngbbeab.heap
