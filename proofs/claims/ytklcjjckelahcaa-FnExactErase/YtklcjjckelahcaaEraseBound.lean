/-
  How many marks a typed tree, and the tree without its types, take: few enough.
-/
import Derived.Test.YtklcjjckelahcaaTypedMarkT
import Derived.Test.YtklcjjckelahcaaNodeMarkT
import Derived.Test.YtklcjjckelahcaaEraseSpec
namespace Go.Proofs.Ytklcjjckelahcaa.typed
open Go.RowKit Go.Proofs.Ytklcjjckelahcaa.rose Go.Proofs.Ytklcjjckelahcaa
set_option linter.unusedVariables false

theorem cntT_le (T : TypedD) (hw : wt T ≤ 1048576) : cntT T ≤ 1152921504606846975 - 1 := by
  obtain ⟨⟨x0, x1, x2, x3, ⟨⟨y0, y1, y2⟩, y3⟩, x5, x6⟩, x7⟩ := T
  have h1 := ty.cnts_le y3
  have h2 := ty.cnts_le x5
  have h3 := cnts_le x7
  simp only [wt, ty.wt] at hw
  simp only [cntT, ty.cntT, Rose.kids]
  omega
theorem er_le (T : TypedD) : node.cnt (er T) ≤ 4 + 4 * wt T := by
  induction T using ind with
  | h x ks ih =>
    have key : ∀ l : List TypedD, (∀ k ∈ l, node.cnt (er k) ≤ 4 + 4 * wt k) → node.cnts (ers l) ≤ 4 * (l.length + wts l) := by
      intro l
      induction l with
      | nil => intro _; simp [ers, node.cnts]
      | cons a l ih2 =>
        intro h
        have h1 := h a (by simp)
        have h2 := ih2 fun k hk => h k (by simp [hk])
        simp only [ers, node.cnts, wts, List.length_cons]
        omega
    have := key ks ih
    obtain ⟨x0, x1, x2, x3, x4, x5, x6⟩ := x
    simp only [er, node.cnt, wt]
    omega
theorem er_cnt (T : TypedD) (hw : wt T ≤ 1048576) : node.cntT (er T) ≤ 1152921504606846974 := by
  have h := er_le T
  obtain ⟨⟨x0, x1, x2, x3, x4, x5, x6⟩, x7⟩ := T
  simp only [er, node.cnt] at h
  simp only [er, node.cntT]
  omega

end Go.Proofs.Ytklcjjckelahcaa.typed
