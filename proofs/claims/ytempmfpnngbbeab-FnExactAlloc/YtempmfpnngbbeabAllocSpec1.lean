/-
  The model's l1Bit and l17Head.
-/
import Derived.Test.YtempmfpnngbbeabAllocDefs
import Derived.Test.YtempmfpnngbbeabRoomSpec
import Derived.Test.YtempmfpnngbbeabCopyHeap
import Derived.Test.YtempmfpnngbbeabGrown
import Derived.Deep.RegionLaw
import Derived.Deep.RegionHeld3
namespace Go.Proofs.Ytempmfpnngbbeab.heap
open Go Go.RowKit Go.Deep Go.Proofs.Ytempmfpnngbbeab.rose Go.Proofs.Ytempmfpnngbbeab Go.Proofs.Ytempmfpnngbbeab.fun Go.Proofs.Ytempmfpnngbbeab.words Go.Proofs.Ytempmfpnngbbeab.ints
set_option linter.unusedVariables false
set_option linter.unusedSimpArgs false
set_option linter.unnecessarySimpa false

set_option maxHeartbeats 1000000 in
theorem bit_is (b : Bool) (w : World) : Calls Try.prog 64 #[.bool b] w fun e w' => e = .returned (.int .i64 (if b then 1 else 0)) ∧ w' = w := by
  cases b
  all_goals
    go_enter Try.func64, Try.ntmps64
    go_wp2
    go_ret
    exact ⟨rfl, rfl⟩
set_option maxHeartbeats 1000000 in
theorem head_is (b : Bool) (tag : Int) (m : Nat) (w : World) (h1 : 0 ≤ tag ∧ tag ≤ 3000) (h2 : m ≤ 20) : Calls Try.prog 50 #[.bool b, .int .i64 tag, .int .i64 m] w fun e w' => e = .returned (.int .i64 (headW b tag m)) ∧ w' = w := by
  have hb := bit_is b w
  obtain ⟨z, hz⟩ : ∃ z : Int, z = (if b then 1 else 0) := ⟨_, rfl⟩
  have hz1 : 0 ≤ z ∧ z ≤ 1 := by rw [hz]; split <;> omega
  have HZ : Hid (headW b tag m = 2 * (2 * (64 * tag + m) + z) + 1) := by show _ = _; unfold headW; rw [hz]
  rw [← hz] at hb
  clear hz
  go_enter Try.func50, Try.ntmps50
  go_wp2_with fail
  refine hb.mono ?_
  rintro e w1 ⟨rfl, hx⟩
  subst w1
  clear hb
  go_wp2
  go_ret
  exact ⟨ret_i HZ.out.symm, rfl⟩

end Go.Proofs.Ytempmfpnngbbeab.heap
