/-
  Whether a number lies between two; no program named.
-/
import Derived.RowKit
namespace Go.Proofs.Ytempmfpnngbbeab.fun
open Go.RowKit
set_option linter.unusedVariables false

/-- Whether a number lies between two. -/
def inB (n lo hi : Int) : Bool := decide (lo ≤ n) && decide (n ≤ hi)
theorem inB_yes {n lo hi : Int} (h : inB n lo hi = true) : lo ≤ n ∧ n ≤ hi := by
  unfold inB at h; simpa using h
theorem inB_no {n lo hi : Int} (h : inB n lo hi = false) : n < lo ∨ hi < n := by
  unfold inB at h
  by_cases h1 : lo ≤ n
  · right; simp [h1] at h; exact h
  · left; omega

end Go.Proofs.Ytempmfpnngbbeab.fun
