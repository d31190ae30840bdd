/-
  The program's isBelow; nothing is turned.
-/
import Derived.Test.YtjoaiaeohlhbkaaDoorChecked
import Derived.Test.YtjoaiaeohlhbkaaDoorInB
import Derived.WalkKit
import Derived.WalkLawsBesides
namespace Go.Proofs.YtjoaiaeohlhbkaaDoor.fun
open Go.RowKit Go.Proofs.YtjoaiaeohlhbkaaDoor
set_option linter.unusedVariables false
set_option linter.unusedSimpArgs false

theorem ret_boolI {a b : Bool} (h : a = b) : Ending.returned (.bool a) = Ending.returned (.bool b) := by rw [h]

set_option maxHeartbeats 1000000 in
theorem bel_is {n e f : Int} {b : Bool} {w : World} (h : inB n 0 f = b) (he : e = f + 1) :
    Calls Tryd.prog 20 #[.int .i64 n, .int .i64 e] w fun e w' => e = .returned (.bool b) ∧ w' = w := by
  subst he
  by_cases h1 : 0 ≤ n
  · have h6 : decide (0 ≤ n) = true := decide_eq_true h1
    rcases h4 : decide (n < f + 1) with _ | _
    · have h5 : decide (n ≤ f) = false := decide_eq_false (by have := of_decide_eq_false h4; omega)
      have h7 : inB n 0 f = false := by simp only [inB, h5, Bool.and_false]
      obtain rfl : b = false := by rw [← h, h7]
      go_enter Tryd.func20, Tryd.ntmps20
      go_wp2
      go_ret
      exact ⟨ret_boolI (by first | rfl | exact h4), rfl⟩
    · have h5 : decide (n ≤ f) = true := decide_eq_true (by have := of_decide_eq_true h4; omega)
      have h7 : inB n 0 f = true := by simp only [inB, h5, h6, Bool.and_true]
      obtain rfl : b = true := by rw [← h, h7]
      go_enter Tryd.func20, Tryd.ntmps20
      go_wp2
      go_ret
      exact ⟨ret_boolI (by first | rfl | exact h4), rfl⟩
  · have h2 : decide (0 ≤ n) = false := decide_eq_false h1
    go_enter Tryd.func20, Tryd.ntmps20
    go_wp2
    go_ret
    exact ⟨ret_boolI (by rw [← h]; simp only [inB, h2, Bool.false_and]), rfl⟩

end Go.Proofs.YtjoaiaeohlhbkaaDoor.fun
