/-
  What l5Vars makes of the empty list ascends, and has the vars of the type; a list that ascends is told by what is in it.
-/
import Derived.Test.YtfekbchmgnpkaaaFreeVarsSpec
import Derived.Test.YtfekbchmgnpkaaaTyAll
namespace Go.Proofs.Ytfekbchmgnpkaaa.ints
open Go.RowKit Go.Proofs.Ytfekbchmgnpkaaa.rose Go.Proofs.Ytfekbchmgnpkaaa
set_option linter.unusedVariables false

def insR (n : Int) : List Int → List Int
  | [] => [n]
  | x :: xs => if x < n then x :: insR n xs else if x = n then x :: xs else n :: x :: xs

theorem ins_eq (l : List Int) (n : Int) : ins l n = insR n l := by
  induction l with
  | nil => simp [ins, insR, cut]
  | cons x xs ih =>
    unfold ins at ih ⊢
    by_cases h : x < n
    · simp only [cut, if_pos h, insR, List.getElem?_cons_succ, List.take_succ_cons, List.drop_succ_cons]
      rw [← ih]
      split <;> simp
    · by_cases h2 : x = n
      · subst h2; simp [cut, insR]
      · simp [cut, insR, h, h2]
theorem mem_insR {n y : Int} {l : List Int} : y ∈ insR n l ↔ y = n ∨ y ∈ l := by
  induction l with
  | nil => simp [insR]
  | cons x xs ih =>
    simp only [insR]
    split
    · rw [List.mem_cons, ih, List.mem_cons]
      constructor
      · rintro (h | h | h)
        · exact Or.inr (Or.inl h)
        · exact Or.inl h
        · exact Or.inr (Or.inr h)
      · rintro (h | h | h)
        · exact Or.inr (Or.inl h)
        · exact Or.inl h
        · exact Or.inr (Or.inr h)
    · split
      · rename_i h1 h2
        subst h2
        simp
      · simp
theorem insR_sorted {n : Int} {l : List Int} (h : l.Pairwise (· < ·)) : (insR n l).Pairwise (· < ·) := by
  induction l with
  | nil => simp [insR]
  | cons x xs ih =>
    rw [List.pairwise_cons] at h
    simp only [insR]
    split
    · rename_i hx
      rw [List.pairwise_cons]
      refine ⟨fun y hy => ?_, ih h.2⟩
      rcases mem_insR.1 hy with rfl | hy
      · exact hx
      · exact h.1 y hy
    · split
      · exact List.pairwise_cons.2 h
      · rename_i h1 h2
        rw [List.pairwise_cons]
        refine ⟨fun y hy => ?_, List.pairwise_cons.2 h⟩
        rcases List.mem_cons.1 hy with rfl | hy
        · omega
        · have := h.1 y hy; omega

theorem vrs_sorted (T : ty.TyD) : ∀ l : List Int, l.Pairwise (· < ·) → (vrs T l).Pairwise (· < ·) := by
  induction T using ind with
  | h x ks ih =>
    intro l hl
    obtain ⟨x0, x1, x2⟩ := x
    have key : ∀ (q : List ty.TyD), (∀ k ∈ q, ∀ l : List Int, l.Pairwise (· < ·) → (vrs k l).Pairwise (· < ·)) → ∀ l : List Int, l.Pairwise (· < ·) → (vrsS q l).Pairwise (· < ·) := by
      intro q
      induction q with
      | nil => intro _ l h; simpa [vrsS] using h
      | cons a q ih2 =>
        intro h l hl
        simp only [vrsS]
        exact ih2 (fun k hk => h k (by simp [hk])) _ (h a (by simp) l hl)
    simp only [vrs]
    refine key ks ih _ ?_
    split
    · rw [ins_eq]; exact insR_sorted hl
    · exact hl

theorem varsL_append (a b : List ty.TyD) : ty.varsL (a ++ b) = ty.varsL a ++ ty.varsL b := by simp [ty.varsL]
theorem mem_vrs (T : ty.TyD) : ∀ (l : List Int) (y : Int), y ∈ vrs T l ↔ y ∈ l ∨ y ∈ ty.varsL (ty.allT T) := by
  induction T using ind with
  | h x ks ih =>
    intro l y
    obtain ⟨x0, x1, x2⟩ := x
    have key : ∀ (q : List ty.TyD), (∀ k ∈ q, ∀ (l : List Int) (y : Int), y ∈ vrs k l ↔ y ∈ l ∨ y ∈ ty.varsL (ty.allT k)) → ∀ (l : List Int) (y : Int), y ∈ vrsS q l ↔ y ∈ l ∨ y ∈ ty.varsL (ty.allS q) := by
      intro q
      induction q with
      | nil => intro _ l y; simp [vrsS, ty.allS, ty.varsL]
      | cons a q ih2 =>
        intro h l y
        simp only [vrsS]
        rw [ih2 (fun k hk => h k (by simp [hk])), h a (by simp)]
        simp only [ty.allS]
        rw [varsL_append, List.mem_append]
        constructor
        · rintro ((h | h) | h)
          · exact Or.inl h
          · exact Or.inr (by first | exact Or.inl h | exact Or.inr h)
          · exact Or.inr (by first | exact Or.inr h | exact Or.inl h)
        · rintro (h | h | h)
          · exact Or.inl (Or.inl h)
          · first | exact Or.inl (Or.inr h) | exact Or.inr h
          · first | exact Or.inr h | exact Or.inl (Or.inr h)
    simp only [vrs]
    rw [key ks ih]
    have hA : ty.varsL (ty.allT (.mk (x0, x1, x2) ks)) = (if x0 = 2 then [x1] else []) ++ ty.varsL (ty.allS ks) := by
      simp only [ty.allT]
      by_cases h2 : x0 = 2 <;> simp [ty.varsL, Rose.x, h2]
    rw [hA]
    split
    · rw [ins_eq, mem_insR]
      simp only [List.mem_append, List.mem_singleton]
      constructor
      · rintro ((h | h) | h)
        · exact Or.inr (Or.inl h)
        · exact Or.inl h
        · exact Or.inr (Or.inr h)
      · rintro (h | h | h)
        · exact Or.inl (Or.inr h)
        · exact Or.inl (Or.inl h)
        · exact Or.inr h
    · simp

theorem sorted_unique {a b : List Int} (ha : a.Pairwise (· < ·)) (hb : b.Pairwise (· < ·)) (h : ∀ x, x ∈ a ↔ x ∈ b) : a = b := by
  induction a generalizing b with
  | nil =>
    cases b with
    | nil => rfl
    | cons y ys => exact absurd ((h y).2 (by simp)) (by simp)
  | cons x xs ih =>
    cases b with
    | nil => exact absurd ((h x).1 (by simp)) (by simp)
    | cons y ys =>
      rw [List.pairwise_cons] at ha hb
      have hxy : x = y := by
        have h1 := (h x).1 (by simp)
        have h2 := (h y).2 (by simp)
        rcases List.mem_cons.1 h1 with e | e
        · exact e
        · rcases List.mem_cons.1 h2 with e2 | e2
          · exact e2.symm
          · have := ha.1 y e2; have := hb.1 x e; omega
      subst hxy
      rw [ih ha.2 hb.2 fun z => ?_]
      constructor
      · intro hz
        have := (h z).1 (by simp [hz])
        rcases List.mem_cons.1 this with e | e
        · subst e; have := ha.1 z hz; omega
        · exact e
      · intro hz
        have := (h z).2 (by simp [hz])
        rcases List.mem_cons.1 this with e | e
        · subst e; have := hb.1 z hz; omega
        · exact e

theorem sorted_vars {T : ty.TyD} {d : List Int} (hn : d.Nodup) (hm : ∀ x, x ∈ d ↔ x ∈ ty.varsL (ty.allT T)) : (d.mergeSort fun x y => decide (x ≤ y)) = vrs T [] := by
  refine sorted_unique ?_ (vrs_sorted T [] List.Pairwise.nil) fun x => ?_
  · have h1 : (d.mergeSort fun x y => decide (x ≤ y)).Pairwise (fun x y => decide (x ≤ y) = true) := List.pairwise_mergeSort (fun a b c h1 h2 => by simp at *; omega) (fun a b => by simp; omega) d
    have h2 : (d.mergeSort fun x y => decide (x ≤ y)).Nodup := (List.mergeSort_perm d _).nodup_iff.2 hn
    refine (h1.and h2).imp ?_
    rintro a b ⟨q1, q2⟩
    simp at q1
    omega
  · rw [(List.mergeSort_perm d _).mem_iff, hm, mem_vrs]
    simp

end Go.Proofs.Ytfekbchmgnpkaaa.ints
