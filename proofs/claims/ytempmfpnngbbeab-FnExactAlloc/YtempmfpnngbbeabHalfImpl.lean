/-
  The program's okHalf; nothing is turned.
-/
import Derived.Test.YtempmfpnngbbeabWordImpl
namespace Go.Proofs.Ytempmfpnngbbeab.heap
open Go Go.RowKit Go.Proofs.Ytempmfpnngbbeab Go.Proofs.Ytempmfpnngbbeab.fun
set_option linter.unusedVariables false
set_option linter.unusedSimpArgs false

set_option maxHeartbeats 1000000 in
theorem half_is {n : Int} {b : Bool} {w : World} (h : inB n 1 3000 = b) :
    Calls Try.prog 57 #[.int .i64 n] w fun e w' => e = .returned (.bool b) ∧ w' = w := by
  by_cases h1 : 1 ≤ n
  · have h6 : decide (1 ≤ n) = true := decide_eq_true h1
    go_enter Try.func57, Try.ntmps57
    go_wp2
    go_ret
    exact ⟨words.ret_bW (by rw [← h]; simp only [inB, h6, Bool.true_and]), rfl⟩
  · have h2 : decide (1 ≤ n) = false := decide_eq_false h1
    go_enter Try.func57, Try.ntmps57
    go_wp2
    go_ret
    exact ⟨words.ret_bW (by rw [← h]; simp only [inB, h2, Bool.false_and]), rfl⟩

end Go.Proofs.Ytempmfpnngbbeab.heap
