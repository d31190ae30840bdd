/-
  How many values a place takes, and how many it puts (chapter 15): told in plain data; no program named.
-/
import Derived.Test.YtjoaiaeohlhbkaaDoorChecked
namespace Go.Proofs.YtjoaiaeohlhbkaaDoor.fun
open Go
set_option linter.unusedVariables false

/-- How many values a place takes. -/
def takesB (c m : Int) : Int :=
  if c = 5 ∨ c = 8 then m
  else if c = 7 ∨ c = 9 ∨ c = 10 ∨ c = 11 ∨ c = 17 ∨ c = 18 then 1
  else if c = 6 ∨ (12 ≤ c ∧ c ≤ 16) ∨ c = 20 then 2
  else 0
/-- How many values a place puts. -/
def putsB (c : Int) : Int := if (1 ≤ c ∧ c ≤ 6) ∨ c = 8 ∨ c = 9 ∨ (12 ≤ c ∧ c ≤ 17) ∨ c = 20 then 1 else 0
theorem puts_pos (c : Int) : 0 ≤ putsB c ∧ putsB c ≤ 1 := by unfold putsB; split <;> omega

end Go.Proofs.YtjoaiaeohlhbkaaDoor.fun
