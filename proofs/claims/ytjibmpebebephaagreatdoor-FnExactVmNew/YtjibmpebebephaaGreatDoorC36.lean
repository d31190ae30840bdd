/-
  How much a new machine can hold.
-/
import Derived.Test.YtjibmpebebephaaGreatDoorC1
import Derived.Test.YtjibmpebebephaaGreatDoorC2
import Derived.Test.YtjibmpebebephaaGreatDoorC3
import Derived.Test.YtjibmpebebephaaGreatDoorC4
import Derived.Test.YtjibmpebebephaaGreatDoorC5
import Derived.Test.YtjibmpebebephaaGreatDoorC6
import Derived.Test.YtjibmpebebephaaGreatDoorC7
import Derived.Test.YtjibmpebebephaaGreatDoorC8
import Derived.Test.YtjibmpebebephaaGreatDoorC9
import Derived.Test.YtjibmpebebephaaGreatDoorC10
import Derived.Test.YtjibmpebebephaaGreatDoorC11
import Derived.Test.YtjibmpebebephaaGreatDoorC12
import Derived.Test.YtjibmpebebephaaGreatDoorC13
import Derived.Test.YtjibmpebebephaaGreatDoorC14
import Derived.Test.YtjibmpebebephaaGreatDoorC15
import Derived.Test.YtjibmpebebephaaGreatDoorC16
import Derived.Test.YtjibmpebebephaaGreatDoorC17
import Derived.Test.YtjibmpebebephaaGreatDoorC18
import Derived.Test.YtjibmpebebephaaGreatDoorC19
import Derived.Test.YtjibmpebebephaaGreatDoorC20
import Derived.Test.YtjibmpebebephaaGreatDoorC21
import Derived.Test.YtjibmpebebephaaGreatDoorC22
import Derived.Test.YtjibmpebebephaaGreatDoorC23
import Derived.Test.YtjibmpebebephaaGreatDoorC24
import Derived.Test.YtjibmpebebephaaGreatDoorC25
import Derived.Test.YtjibmpebebephaaGreatDoorC26
import Derived.Test.YtjibmpebebephaaGreatDoorC27
import Derived.Test.YtjibmpebebephaaGreatDoorC28
import Derived.Test.YtjibmpebebephaaGreatDoorC29
import Derived.Test.YtjibmpebebephaaGreatDoorC30
import Derived.Test.YtjibmpebebephaaGreatDoorC31
import Derived.Test.YtjibmpebebephaaGreatDoorC32
import Derived.Test.YtjibmpebebephaaGreatDoorC33
import Derived.Test.YtjibmpebebephaaGreatDoorC34
import Derived.Test.YtjibmpebebephaaGreatDoorC35
namespace Go.Proofs.YtjibmpebebephaaGreatDoor.fun
theorem cnts_boundN (ks : List FunD) (hw : ks.length + wts ks ≤ 1048576) : cnts ks ≤ 1073741824 := by have := cnts_le ks; omega
end Go.Proofs.YtjibmpebebephaaGreatDoor.fun
namespace Go.Proofs.YtjibmpebebephaaGreatDoor.vm
open Go Go.RowKit Go.Proofs.YtjibmpebebephaaGreatDoor.rose Go.Proofs.YtjibmpebebephaaGreatDoor Go.Proofs.YtjibmpebebephaaGreatDoor.fun Go.Proofs.YtjibmpebebephaaGreatDoor.heap
theorem heap_new_bound (n : Int) : heap.cntT (newF n).1 ≤ 6000 := by
  unfold newF
  split
  · rename_i h
    have := inB_yes h
    show (List.replicate (2 * n).toNat (0 : Int)).length ≤ _
    rw [List.length_replicate]
    omega
  · show ([] : List Int).length ≤ _
    simp
theorem new_bound (ks : List FunD) (n : Int) (each : Bool) (hw : ks.length + fun.wts ks ≤ 1048576) : cntT (newV ks n each).1 ≤ 1073741824 := by
  have h1 := fun.cnts_le ks
  have h2 := heap_new_bound n
  unfold newV
  split
  · show fun.cnts ks + (heap.cntT (newF n).1 + (2 + (3 + 0 + 0))) ≤ _
    omega
  · show 0 + (0 + (0 + (0 + 0))) ≤ _
    omega
end Go.Proofs.YtjibmpebebephaaGreatDoor.vm
