/-
  The model's l1DrawAny: some number; but for the cursor nothing that was there is turned.
-/
import Derived.Test.YtphbbacpeojmlaaDrawNew
import Derived.Deep.RegionWith
namespace Go.Proofs.Ytphbbacpeojmlaa.cur
open Go.RowKit
set_option linter.unusedVariables false

set_option maxHeartbeats 400000 in
theorem drawAny_any (B p : Nat) (w : World) (hc : Cur B w p) :
    Calls Try.prog 21 #[.pointer (some ⟨p, 0, none⟩)] w fun e w' => ∃ x : Int, e = .returned (.int .i64 x) ∧ -9223372036854775808 ≤ x ∧ x ≤ 9223372036854775807 ∧ Cur B w' p ∧ w.grownBy w' (some p) := by
  have hlt := hc.lt
  have HC : Hid (Cur B w p) := hc
  clear hc
  go_enter Try.func21, Try.ntmps21
  go_wp2_with fail
  refine (pickInt_any B p w.heap.size 10 _ (HC.out.on (World.grownBy_alloc _ _ none)) (by decide) (by decide) (by omega) (by simp)
    (ints_new w [0, 1, -1, 5, 1073741823, 1073741824, -1073741824, -1073741825, 9223372036854775807, -9223372036854775808] 3 (by decide))).mono ?_
  rintro e w1 ⟨x, rfl, hx0, hx1, hc1, hg1⟩
  have H1 : Hid (Cur B w1 p) := hc1
  have G1 : Hid (w.grownBy w1 (some p)) := (World.grownBy_alloc w _ (some p)).trans hg1
  clear hc1 hg1
  go_wp2
  go_ret
  exact ⟨x, rfl, hx0, hx1, H1.out, G1.out⟩

end Go.Proofs.Ytphbbacpeojmlaa.cur
