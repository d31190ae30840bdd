/-
  The program's Fits, at every pattern and value that lie in rows of cells which nothing froze.
-/
import Derived.Test.YtlnpfnglphdaiaaGreatDoorB1
import Derived.Test.YtlnpfnglphdaiaaGreatDoorB2
import Derived.Test.YtlnpfnglphdaiaaGreatDoorB3
import Derived.Test.YtlnpfnglphdaiaaGreatDoorB4
import Derived.Test.YtlnpfnglphdaiaaGreatDoorB5
import Derived.Test.YtlnpfnglphdaiaaGreatDoorB6
import Derived.Test.YtlnpfnglphdaiaaGreatDoorB7
import Derived.Test.YtlnpfnglphdaiaaGreatDoorB8
import Derived.Test.YtlnpfnglphdaiaaGreatDoorB9
import Derived.Test.YtlnpfnglphdaiaaGreatDoorB10
import Derived.Test.YtlnpfnglphdaiaaGreatDoorB11
import Derived.Test.YtlnpfnglphdaiaaGreatDoorB12
import Derived.Test.YtlnpfnglphdaiaaGreatDoorB13
import Derived.Test.YtlnpfnglphdaiaaGreatDoorB14
import Derived.Test.YtlnpfnglphdaiaaGreatDoorB15
import Derived.Test.YtlnpfnglphdaiaaGreatDoorB16
import Derived.Test.YtlnpfnglphdaiaaGreatDoorB17
import Derived.Test.YtlnpfnglphdaiaaGreatDoorB18
import Derived.Test.YtlnpfnglphdaiaaGreatDoorB19
import Derived.Test.YtlnpfnglphdaiaaGreatDoorB20
import Derived.Test.YtlnpfnglphdaiaaGreatDoorB21
import Derived.Test.YtlnpfnglphdaiaaGreatDoorB22
import Derived.Test.YtlnpfnglphdaiaaGreatDoorB23
import Derived.Test.YtlnpfnglphdaiaaGreatDoorB24
import Derived.Test.YtlnpfnglphdaiaaGreatDoorB25
import Derived.Test.YtlnpfnglphdaiaaGreatDoorB26
import Derived.Test.YtlnpfnglphdaiaaGreatDoorB27
import Derived.Test.YtlnpfnglphdaiaaGreatDoorB28
import Derived.Test.YtlnpfnglphdaiaaGreatDoorB29
import Derived.Test.YtlnpfnglphdaiaaGreatDoorB30
import Derived.Test.YtlnpfnglphdaiaaGreatDoorB31
import Derived.Test.YtlnpfnglphdaiaaGreatDoorB32
import Derived.Test.YtlnpfnglphdaiaaGreatDoorB33
import Derived.Test.YtlnpfnglphdaiaaGreatDoorB34
import Derived.Test.YtlnpfnglphdaiaaGreatDoorB35
import Derived.Test.YtlnpfnglphdaiaaGreatDoorB36
import Derived.Test.YtlnpfnglphdaiaaGreatDoorB37
import Derived.Test.YtlnpfnglphdaiaaGreatDoorB38
import Derived.Test.YtlnpfnglphdaiaaGreatDoorB39
import Derived.Test.YtlnpfnglphdaiaaGreatDoorB40
import Derived.Test.YtlnpfnglphdaiaaGreatDoorB41
import Derived.Test.YtlnpfnglphdaiaaGreatDoorB42
import Derived.Test.YtlnpfnglphdaiaaGreatDoorB43
import Derived.Test.YtlnpfnglphdaiaaGreatDoorB44
namespace Go.Proofs.YtlnpfnglphdaiaaGreatDoor.fits
open Go Go.RowKit Go.Proofs.YtlnpfnglphdaiaaGreatDoor.rose Go.Proofs.YtlnpfnglphdaiaaGreatDoor
set_option linter.unusedVariables false

set_option maxRecDepth 100000 in
set_option maxHeartbeats 2000000 in
theorem implFits (T : Nd) (T' : ValueD) (cs1 cs2 : List Value) (w : World) (hw : node.wt T ≤ 1048576) (_hw' : value.wt T' ≤ 1048576) (h : ndSh.rep w (fun b => b < w.heap.size ∧ Plain w b) cs1 T) (h' : valueSh.rep w (fun b => b < w.heap.size ∧ Plain w b) cs2 T') :
    Calls Tryz.prog 11 #[.agg cs1.toArray, .agg cs2.toArray] w fun e w' => e = .returned (.bool (fitsB T T')) ∧ Below w.heap.size w w' := by
  have one := ndSh.one h
  have one' := valueSh.one h'
  obtain ⟨v0, v1, v2, v3, v4, rfl⟩ := node.nd_list h
  obtain ⟨u0, u1, u2, u3, rfl⟩ := value.value_list h'
  have o0 := one v0 (by simp)
  have o1 := one v1 (by simp)
  have o2 := one v2 (by simp)
  have o3 := one v3 (by simp)
  have o4 := one v4 (by simp)
  have p0 := one' u0 (by simp)
  have p1 := one' u1 (by simp)
  have p2 := one' u2 (by simp)
  have p3 := one' u3 (by simp)
  obtain ⟨w0, hw0⟩ : ∃ w0, w0 = (w.alloc (.cells #[v0, v1, v2, v3, v4] 36)).alloc (.cells #[u0, u1, u2, u3] 26) := ⟨_, rfl⟩
  have B0 : Hid (Below w.heap.size w w0) := by show Below _ _ _; rw [hw0]; exact ((Below.refl _ _).alloc (Nat.le_refl _) _).alloc (by simp) _
  have HW0 : Hid (w0 = (w.alloc (.cells #[v0, v1, v2, v3, v4] 36)).alloc (.cells #[u0, u1, u2, u3] 26)) := hw0
  have hcall := fits_any T T' _ _ w0 hw (ndSh.mono (ndSh.on h fun b hb => B0.out.block b hb.1) fun b hb => ⟨Nat.lt_of_lt_of_le hb.1 B0.out.size, hb.2.on (B0.out.block b hb.1)⟩) (valueSh.mono (valueSh.on h' fun b hb => B0.out.block b hb.1) fun b hb => ⟨Nat.lt_of_lt_of_le hb.1 B0.out.size, hb.2.on (B0.out.block b hb.1)⟩)
  clear h h' one one' hw0
  go_enter Tryz.func11, Tryz.ntmps11
  go_wp2_with fail
  rw [← HW0.out]
  refine hcall.mono ?_
  rintro e w1 ⟨rfl, hb⟩
  go_wp2
  go_ret
  exact ⟨rfl, B0.out.trans (hb.mono B0.out.size)⟩

end Go.Proofs.YtlnpfnglphdaiaaGreatDoor.fits
