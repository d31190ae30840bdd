/-
  A type that is tidy and has at most so many storeys.
-/
import Derived.Test.YtpdmdcoaaboikaaGreatDoorTyTidy
namespace Go.Proofs.YtpdmdcoaaboikaaGreatDoor.ty
open Go.RowKit Go.Proofs.YtpdmdcoaaboikaaGreatDoor.rose Go.Proofs.YtpdmdcoaaboikaaGreatDoor words4
set_option linter.unusedVariables false

/-- Tidy, and at most so many storeys. -/
def tidyL (vars : Int) : Nat → TyD → Bool
  | 0, _ => false
  | L + 1, .mk (op, n, s) ks => aloneB vars op n s ks.length && ks.all (tidyL vars L)

theorem tidyL_eq (vars : Int) (L : Nat) (T : TyD) : tidyL vars L T = (decide (dp T ≤ L) && okTy vars T) := by
  induction L generalizing T with
  | zero =>
    obtain ⟨x, ks⟩ := T
    simp [tidyL, dp]
  | succ L ih =>
    obtain ⟨⟨op, n, s⟩, ks⟩ := T
    have key : ks.all (tidyL vars L) = (decide (dps ks ≤ L) && okTys vars ks) := by
      induction ks with
      | nil => simp [dps, okTys]
      | cons k ks ih2 =>
        rw [List.all_cons, ih2, ih, dps, okTys]
        by_cases h1 : dp k ≤ L <;> by_cases h2 : dps ks ≤ L <;> simp [h1, h2, Nat.max_le] <;> cases okTy vars k <;> simp
    rw [tidyL, key, dp, okTy]
    cases okTys vars ks <;> cases aloneB vars op n s ks.length <;> simp

theorem all_take {p : TyD → Bool} {ks : List TyD} {i : Nat} (h : i < ks.length) : (ks.take (i + 1)).all p = ((ks.take i).all p && p ks[i]) := by
  rw [List.take_add_one, List.getElem?_eq_getElem h, List.all_append]; simp
theorem all_no {p : TyD → Bool} {ks : List TyD} {i : Nat} (h : i < ks.length) (hk : p ks[i] = false) : ks.all p = false := by
  rw [List.all_eq_false]; exact ⟨ks[i], List.getElem_mem h, by simp [hk]⟩

end Go.Proofs.YtpdmdcoaaboikaaGreatDoor.ty
