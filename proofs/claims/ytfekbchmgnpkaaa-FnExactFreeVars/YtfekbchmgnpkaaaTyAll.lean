/-
  A type and all that is within it; the vars among types: pure.
-/
import Derived.Test.YtfekbchmgnpkaaaTySz
namespace Go.Proofs.Ytfekbchmgnpkaaa.ty
open Go.RowKit Go.Proofs.Ytfekbchmgnpkaaa.rose Go.Proofs.Ytfekbchmgnpkaaa
set_option linter.unusedVariables false

mutual
/-- A type and all that is within it, as they are handed over. -/
def allT : TyD → List TyD
  | .mk x ks => .mk x ks :: allS ks
def allS : List TyD → List TyD
  | [] => []
  | k :: ks => allT k ++ allS ks
end

theorem allS_append (xs ys : List TyD) : allS (xs ++ ys) = allS xs ++ allS ys := by
  induction xs with
  | nil => simp [allS]
  | cons k ks ih => simp [allS, ih]
theorem allS_pop (st : List TyD) (t : TyD) : allS (st ++ [t]).reverse = t :: allS (st ++ t.kids.reverse).reverse := by
  cases t with
  | mk x ks => simp [allS, allT, Rose.kids, allS_append]
theorem allS_rev_length (st : List TyD) : (allS st.reverse).length = (allS st).length := by
  induction st with
  | nil => rfl
  | cons k ks ih => rw [List.reverse_cons, allS_append]; simp [allS, ih]; omega
theorem allS_one (t : TyD) : allS [t] = allT t := by simp [allS]

theorem all_le (T : TyD) : (allT T).length ≤ wt T + 1 := by
  induction T using ind with
  | h x ks ih =>
    obtain ⟨x0, x1, x2⟩ := x
    have : (allS ks).length ≤ ks.length + wts ks := by
      clear x0 x1 x2
      induction ks with
      | nil => simp [allS]
      | cons k ks ih2 =>
        have h1 := ih k (by simp)
        have h2 := ih2 fun q hq => ih q (by simp [hq])
        simp [allS, wts]
        omega
    simp [allT, wt]
    omega

/-- The vars among types, at their roots. -/
def varsL (l : List TyD) : List Int := (l.filter fun t => decide (t.x.1 = 2)).map fun t => t.x.2.1

theorem varsL_yes {l : List TyD} {t : TyD} (h : t.x.1 = 2) : varsL (l ++ [t]) = varsL l ++ [t.x.2.1] := by simp [varsL, List.filter_append, h]
theorem varsL_no {l : List TyD} {t : TyD} (h : t.x.1 ≠ 2) : varsL (l ++ [t]) = varsL l := by simp [varsL, List.filter_append, h]


end Go.Proofs.Ytfekbchmgnpkaaa.ty
