/-
  The model's Effect, at every place.
-/
import Derived.Test.YtjoaiaeohlhbkaaDoorEffectDefs
import Derived.WalkKit
import Derived.WalkLawsBesides
import Derived.WalkSmall
namespace Go.Proofs.YtjoaiaeohlhbkaaDoor.fun
open Go Go.RowKit Go.Proofs.YtjoaiaeohlhbkaaDoor
set_option linter.unusedVariables false
set_option linter.unusedSimpArgs false

set_option maxRecDepth 100000 in
set_option maxHeartbeats 4000000 in
theorem effect_any (c n m : Int) (w : World) :
    Calls Tryd.prog 26 #[.agg #[.int .i64 c, .int .i64 n, .int .i64 m]] w fun e w' => e = .returned (.tuple #[.int .i64 (takesB c m), .int .i64 (putsB c)]) ∧ Below w.heap.size w w' := by
  by_cases h : 1 ≤ c ∧ c ≤ 20 ∧ c ≠ 19
  · rcases (by omega : c = 1 ∨ c = 2 ∨ c = 3 ∨ c = 4 ∨ c = 5 ∨ c = 6 ∨ c = 7 ∨ c = 8 ∨ c = 9 ∨ c = 10 ∨ c = 11 ∨ c = 12 ∨ c = 13 ∨ c = 14 ∨ c = 15 ∨ c = 16 ∨ c = 17 ∨ c = 18 ∨ c = 20) with rfl | rfl | rfl | rfl | rfl | rfl | rfl | rfl | rfl | rfl | rfl | rfl | rfl | rfl | rfl | rfl | rfl | rfl | rfl
    all_goals
      go_enter Tryd.func26, Tryd.ntmps26
      go_wp2
      go_ret2
      exact ⟨by simp [takesB, putsB], (Below.refl _ _).alloc (Nat.le_refl _) _⟩
  · have e1 : (c == 1) = false := by simp; omega
    have e2 : (c == 2) = false := by simp; omega
    have e3 : (c == 3) = false := by simp; omega
    have e4 : (c == 4) = false := by simp; omega
    have e5 : (c == 5) = false := by simp; omega
    have e6 : (c == 6) = false := by simp; omega
    have e7 : (c == 7) = false := by simp; omega
    have e8 : (c == 8) = false := by simp; omega
    have e9 : (c == 9) = false := by simp; omega
    have e10 : (c == 10) = false := by simp; omega
    have e11 : (c == 11) = false := by simp; omega
    have e12 : (c == 12) = false := by simp; omega
    have e13 : (c == 13) = false := by simp; omega
    have e14 : (c == 14) = false := by simp; omega
    have e15 : (c == 15) = false := by simp; omega
    have e16 : (c == 16) = false := by simp; omega
    have e17 : (c == 17) = false := by simp; omega
    have e18 : (c == 18) = false := by simp; omega
    have e20 : (c == 20) = false := by simp; omega
    have ht : takesB c m = 0 := by unfold takesB; rw [if_neg (by omega), if_neg (by omega), if_neg (by omega)]
    have hp : putsB c = 0 := by unfold putsB; rw [if_neg (by omega)]
    rw [ht, hp]
    clear h ht hp
    go_enter Tryd.func26, Tryd.ntmps26
    go_wp2
    go_ret2
    exact ⟨rfl, (Below.refl _ _).alloc (Nat.le_refl _) _⟩

end Go.Proofs.YtjoaiaeohlhbkaaDoor.fun
