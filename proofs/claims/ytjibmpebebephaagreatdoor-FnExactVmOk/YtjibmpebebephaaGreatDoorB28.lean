/-
  VmOk's contracts as the law's frame asks for them.
-/
import Derived.Test.YtjibmpebebephaaGreatDoorB1
import Derived.Test.YtjibmpebebephaaGreatDoorB2
import Derived.Test.YtjibmpebebephaaGreatDoorB3
import Derived.Test.YtjibmpebebephaaGreatDoorB4
import Derived.Test.YtjibmpebebephaaGreatDoorB5
import Derived.Test.YtjibmpebebephaaGreatDoorB6
import Derived.Test.YtjibmpebebephaaGreatDoorB7
import Derived.Test.YtjibmpebebephaaGreatDoorB8
import Derived.Test.YtjibmpebebephaaGreatDoorB9
import Derived.Test.YtjibmpebebephaaGreatDoorB10
import Derived.Test.YtjibmpebebephaaGreatDoorB11
import Derived.Test.YtjibmpebebephaaGreatDoorB12
import Derived.Test.YtjibmpebebephaaGreatDoorB13
import Derived.Test.YtjibmpebebephaaGreatDoorB14
import Derived.Test.YtjibmpebebephaaGreatDoorB15
import Derived.Test.YtjibmpebebephaaGreatDoorB16
import Derived.Test.YtjibmpebebephaaGreatDoorB17
import Derived.Test.YtjibmpebebephaaGreatDoorB18
import Derived.Test.YtjibmpebebephaaGreatDoorB19
import Derived.Test.YtjibmpebebephaaGreatDoorB20
import Derived.Test.YtjibmpebebephaaGreatDoorB21
import Derived.Test.YtjibmpebebephaaGreatDoorB22
import Derived.Test.YtjibmpebebephaaGreatDoorB23
import Derived.Test.YtjibmpebebephaaGreatDoorB24
import Derived.Test.YtjibmpebebephaaGreatDoorB25
import Derived.Test.YtjibmpebebephaaGreatDoorB26
import Derived.Test.YtjibmpebebephaaGreatDoorB27
namespace Go.Proofs.YtjibmpebebephaaGreatDoor.vm
open Go Go.RowKit Go.Proofs.YtjibmpebebephaaGreatDoor.rose Go.Proofs.YtjibmpebebephaaGreatDoor Go.Proofs.YtjibmpebebephaaGreatDoor.fun Go.Proofs.YtjibmpebebephaaGreatDoor.heap
set_option linter.unusedVariables false

theorem wt_parts {T : VmD} (h : wt T ≤ 1048576) : T.1.length + fun.wts T.1 ≤ 1048576 ∧ T.2.2.1.length ≤ 1048576 := by
  obtain ⟨x0, x1, x2, x3, x4, x5, x6⟩ := T
  simp only [wt] at h
  dsimp only
  omega
theorem specVmOk_std (T : VmD) (cs : List Value) (w : World) (hw : wt T ≤ 1048576) (h : vmSh.rep w (· < w.heap.size) cs T) :
    Calls Tryz.prog 6 #[.agg cs.toArray] w fun e w' => e = .returned (.bool (vmB T)) ∧ Below w.heap.size w w' := specVmOk T cs w (wt_parts hw).1 h
theorem implVmOk_std (T : VmD) (cs : List Value) (w : World) (hw : wt T ≤ 1048576) (hN : fun.Names w) (h : vmSh.rep w (· < w.heap.size) cs T) :
    Calls Tryz.prog 8 #[.agg cs.toArray] w fun e w' => e = .returned (.bool (vmB T)) ∧ Below w.heap.size w w' := implVmOk T cs w (wt_parts hw).1 (wt_parts hw).2 hN h

end Go.Proofs.YtjibmpebebephaaGreatDoor.vm
