/-
  How much a heap and a block can hold.
-/
import Derived.Test.YtempmfpnngbbeabBlockAtSpec
import Derived.Test.YtempmfpnngbbeabBlockAtImpl
import Derived.Test.YtempmfpnngbbeabHeapMarkT
namespace Go.Proofs.Ytempmfpnngbbeab.heap
open Go Go.RowKit Go.Proofs.Ytempmfpnngbbeab.rose Go.Proofs.Ytempmfpnngbbeab Go.Proofs.Ytempmfpnngbbeab.fun Go.Proofs.Ytempmfpnngbbeab.words Go.Proofs.Ytempmfpnngbbeab.ints
theorem cntT_bound (T : HeapD) (hw : wt T ≤ 1048576) : cntT T ≤ 1073741824 := by
  obtain ⟨W, a, b, c⟩ := T
  have h1 : wt (W, a, b, c) = W.length := rfl
  have h2 : cntT (W, a, b, c) = W.length := rfl
  omega
theorem block_bound (T : HeapD) (p : Int) : (blockF T p).2.2.1.length ≤ 1073741824 := by
  unfold blockF
  split
  · have := many_in (T.1.getD p.toNat 0)
    simp only [List.length_take]
    omega
  · simp
end Go.Proofs.Ytempmfpnngbbeab.heap
