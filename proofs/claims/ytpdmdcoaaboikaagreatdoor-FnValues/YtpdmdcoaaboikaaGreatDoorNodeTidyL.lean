/-
  A node that is tidy, of a sort, and has at most so many storeys.
-/
import Derived.Test.YtpdmdcoaaboikaaGreatDoorNodeTidyD
namespace Go.Proofs.YtpdmdcoaaboikaaGreatDoor.node
open Go.RowKit Go.Proofs.YtpdmdcoaaboikaaGreatDoor.rose Go.Proofs.YtpdmdcoaaboikaaGreatDoor words4
set_option linter.unusedVariables false
set_option linter.unusedSimpArgs false

/-- All kids, each by its sort. -/
def goK (f : Int → Nd → Bool) (op : Int) : Nat → List Nd → Bool
  | _, [] => true
  | i, k :: ks => f (kidSortB op i) k && goK f op (i + 1) ks

/-- Tidy, and at most so many storeys. -/
def tidyN : Nat → Int → Nd → Bool
  | 0, _, _ => false
  | L + 1, sort, .mk (op, n, s, t) ks => decide (sortB op = sort) && (labelB op n s t && (fitB op ks.length && goK (tidyN L) op 0 ks))

theorem tidyN_eq (L : Nat) (sort : Int) (T : Nd) : tidyN L sort T = (decide (dp T ≤ L) && okN sort T) := by
  induction L generalizing sort T with
  | zero =>
    obtain ⟨x, ks⟩ := T
    simp [tidyN, dp]
  | succ L ih =>
    obtain ⟨⟨op, n, s, t⟩, ks⟩ := T
    have key : ∀ (ks : List Nd) (i : Nat), goK (tidyN L) op i ks = (decide (dps ks ≤ L) && okNs op i ks) := by
      intro ks
      induction ks with
      | nil => intro i; simp [goK, dps, okNs]
      | cons k ks ih2 =>
        intro i
        rw [goK, ih2, ih, dps, okNs]
        by_cases h1 : dp k ≤ L <;> by_cases h2 : dps ks ≤ L <;> simp [h1, h2, Nat.max_le] <;> cases okN (kidSortB op i) k <;> simp
    rw [tidyN, key, dp, okN]
    by_cases h1 : dps ks ≤ L
    · have h2 : dps ks + 1 ≤ L + 1 := by omega
      simp [h1, h2]
    · have h2 : ¬ dps ks + 1 ≤ L + 1 := by omega
      simp [h1, h2]

theorem goK_take {f : Int → Nd → Bool} {op : Int} {ks : List Nd} {j : Nat} (h : j < ks.length) (i : Nat) : goK f op i (ks.take (j + 1)) = (goK f op i (ks.take j) && f (kidSortB op (i + j)) ks[j]) := by
  induction ks generalizing i j with
  | nil => simp at h
  | cons k ks ih =>
    cases j with
    | zero => simp [goK]
    | succ j =>
      simp only [List.take_succ_cons, goK, List.getElem_cons_succ]
      rw [ih (by simpa using h), Bool.and_assoc, show i + 1 + j = i + (j + 1) by omega]
theorem goK_no {f : Int → Nd → Bool} {op : Int} {ks : List Nd} {j : Nat} (h : j < ks.length) (i : Nat) (hk : f (kidSortB op (i + j)) ks[j] = false) : goK f op i ks = false := by
  induction ks generalizing i j with
  | nil => simp at h
  | cons k ks ih =>
    cases j with
    | zero => simp only [Nat.add_zero, List.getElem_cons_zero] at hk; simp [goK, hk]
    | succ j =>
      simp only [List.getElem_cons_succ] at hk
      rw [goK, ih (by simpa using h) (i + 1) (by rw [show i + 1 + j = i + (j + 1) by omega]; exact hk)]
      simp

end Go.Proofs.YtpdmdcoaaboikaaGreatDoor.node
