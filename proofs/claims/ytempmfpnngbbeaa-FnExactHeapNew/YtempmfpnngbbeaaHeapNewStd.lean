/-
  How much a new heap can hold.
-/
import Derived.Test.YtempmfpnngbbeaaHeapNewSpec
import Derived.Test.YtempmfpnngbbeaaHeapNewImpl
import Derived.Test.YtempmfpnngbbeaaHeapMarkT
namespace Go.Proofs.Ytempmfpnngbbeaa.heap
open Go Go.RowKit Go.Proofs.Ytempmfpnngbbeaa.rose Go.Proofs.Ytempmfpnngbbeaa Go.Proofs.Ytempmfpnngbbeaa.fun Go.Proofs.Ytempmfpnngbbeaa.ints
theorem new_bound (n : Int) : cntT (newF n).1 ≤ 1073741824 := by
  unfold newF
  split
  · rename_i h
    have := inB_yes h
    show (List.replicate (2 * n).toNat (0 : Int)).length ≤ _
    rw [List.length_replicate]
    omega
  · show ([] : List Int).length ≤ _
    simp
end Go.Proofs.Ytempmfpnngbbeaa.heap
