/-
  The keys of a map of ints, as a list of numbers: as it is made, as a key comes to it, as one goes.
-/
import Derived.Maps.OwnSet
import Derived.Maps.Views
namespace Go.Proofs.Ytfekbchmgnpkaaa.keys
open Go Go.Maps
set_option linter.unusedVariables false

/-- The map D has just those keys. -/
structure Keys (D : DataW Unit) (ks : List Int) : Prop where
  nodup : ks.Nodup
  has : ∀ x : Int, Maps.has D (.int .i64 x) = decide (x ∈ ks)
  size : Maps.size D = ks.length

theorem lit_ne {x y : Int} (h : x ≠ y) : (Lit.int .i64 x) ≠ Lit.int .i64 y := fun e => h (by injection e)

theorem Keys.made : Keys (.map []) [] := ⟨List.nodup_nil, fun x => by simp [Maps.has], rfl⟩

theorem Keys.put {D : DataW Unit} {ks : List Int} (h : Keys D ks) (hT : Tidy D) (hM : IsMap D) {x : Int} (hx : x ∉ ks) (d : DataW Unit) : Keys (D.put (.int .i64 x) d) (ks ++ [x]) := by
  refine ⟨?_, fun y => ?_, ?_⟩
  · rw [List.nodup_append]
    exact ⟨h.nodup, by simp, fun a ha b hb => by simp at hb; subst hb; intro e; subst e; exact hx ha⟩
  · by_cases e : y = x
    · subst e; rw [has_put_same (k := .int .i64 y) hM trivial]; simp
    · rw [has_put_other (lit_ne e), h.has]; simp [e]
  · rw [size_put hT, h.has, decide_eq_false hx, h.size]; simp

theorem Keys.again {D : DataW Unit} {ks : List Int} (h : Keys D ks) (hT : Tidy D) (hM : IsMap D) {x : Int} (hx : x ∈ ks) (d : DataW Unit) : Keys (D.put (.int .i64 x) d) ks := by
  refine ⟨h.nodup, fun y => ?_, ?_⟩
  · by_cases e : y = x
    · subst e; rw [has_put_same (k := .int .i64 y) hM trivial]; simp [hx]
    · rw [has_put_other (lit_ne e), h.has]
  · rw [size_put hT, h.has, decide_eq_true hx, h.size]; simp

theorem Keys.del {D : DataW Unit} {ks : List Int} (h : Keys D ks) (hT : Tidy D) (x : Int) : Keys (D.del (.int .i64 x)) (ks.erase x) := by
  refine ⟨h.nodup.erase x, fun y => ?_, ?_⟩
  · by_cases e : y = x
    · subst e
      rw [has_del_same, decide_eq_false (by rw [h.nodup.mem_erase_iff]; simp)]
    · rw [has_del_other (lit_ne e), h.has]
      by_cases hy : y ∈ ks
      · rw [decide_eq_true hy, decide_eq_true (by rw [h.nodup.mem_erase_iff]; exact ⟨e, hy⟩)]
      · rw [decide_eq_false hy, decide_eq_false (by rw [h.nodup.mem_erase_iff]; exact fun q => hy q.2)]
  · have := size_del (k := .int .i64 x) hT
    rw [h.has, h.size] at this
    by_cases hx : x ∈ ks
    · rw [decide_eq_true hx] at this
      rw [List.length_erase_of_mem hx]
      simp at this
      omega
    · rw [decide_eq_false hx] at this
      rw [List.erase_of_not_mem hx]
      simpa using this

theorem len_strike (x : Int) : ∀ ks : List Int, ks.Nodup → (ks.filter fun y => !decide (y = x)).length + (if x ∈ ks then 1 else 0) = ks.length
  | [], _ => by simp
  | k :: ks, h => by
    rw [List.nodup_cons] at h
    have ih := len_strike x ks h.2
    by_cases e : k = x
    · subst e
      rw [if_neg h.1] at ih
      rw [List.filter_cons_of_neg (by simp), if_pos (by simp), List.length_cons]
      omega
    · rw [List.filter_cons_of_pos (by simp [e]), List.length_cons, List.length_cons]
      have : (x ∈ k :: ks) = (x ∈ ks) := by simp [Ne.symm e]
      simp only [this]
      omega

theorem Keys.strike {D : DataW Unit} {ks : List Int} (h : Keys D ks) (hT : Tidy D) (x : Int) : Keys (D.del (.int .i64 x)) (ks.filter fun y => !decide (y = x)) := by
  refine ⟨h.nodup.filter _, fun y => ?_, ?_⟩
  · by_cases e : y = x
    · subst e
      rw [has_del_same, decide_eq_false (by simp)]
    · rw [has_del_other (lit_ne e), h.has]
      simp [e]
  · have := size_del (k := .int .i64 x) hT
    have h2 := len_strike x ks h.nodup
    rw [h.has, h.size] at this
    by_cases hx : x ∈ ks
    · rw [decide_eq_true hx] at this
      rw [if_pos hx] at h2
      simp at this
      omega
    · rw [decide_eq_false hx] at this
      rw [if_neg hx] at h2
      simp at this
      omega

/-- The numbers of a list, each once, as they come. -/
def once : List Int → List Int → List Int
  | ks, [] => ks
  | ks, x :: xs => if x ∈ ks then once ks xs else once (ks ++ [x]) xs

theorem once_snoc (ks xs : List Int) (x : Int) : once ks (xs ++ [x]) = if x ∈ once ks xs then once ks xs else once ks xs ++ [x] := by
  induction xs generalizing ks with
  | nil => by_cases h : x ∈ ks <;> simp [once, h]
  | cons y xs ih =>
    simp only [List.cons_append, once]
    split <;> exact ih _
theorem mem_once {ks xs : List Int} {y : Int} : y ∈ once ks xs ↔ y ∈ ks ∨ y ∈ xs := by
  induction xs generalizing ks with
  | nil => simp [once]
  | cons x xs ih =>
    simp only [once]
    split
    · rename_i h
      rw [ih, List.mem_cons]
      constructor
      · rintro (h1 | h1)
        · exact Or.inl h1
        · exact Or.inr (Or.inr h1)
      · rintro (h1 | rfl | h1)
        · exact Or.inl h1
        · exact Or.inl h
        · exact Or.inr h1
    · rw [ih]; simp [or_assoc]
theorem once_le (ks xs : List Int) : (once ks xs).length ≤ ks.length + xs.length := by
  induction xs generalizing ks with
  | nil => simp [once]
  | cons x xs ih =>
    simp only [once]
    split
    · have := ih ks; simp; omega
    · have := ih (ks ++ [x]); simp at this ⊢; omega
theorem once_full {ks xs : List Int} (h : (once ks xs).length = ks.length + xs.length) : (∀ x ∈ xs, x ∉ ks) ∧ xs.Nodup := by
  induction xs generalizing ks with
  | nil => simp
  | cons x xs ih =>
    simp only [once] at h
    split at h
    · have := once_le ks xs; simp at h; omega
    · rename_i hx
      obtain ⟨h1, h2⟩ := ih (ks := ks ++ [x]) (by simp at h ⊢; omega)
      refine ⟨fun y hy => ?_, ?_⟩
      · rcases List.mem_cons.1 hy with rfl | hy
        · exact hx
        · exact fun q => h1 y hy (by simp [q])
      · rw [List.nodup_cons]
        exact ⟨fun q => h1 x q (by simp), h2⟩
theorem once_nodup {ks xs : List Int} (h : xs.Nodup) (hd : ∀ x ∈ xs, x ∉ ks) : (once ks xs).length = ks.length + xs.length := by
  induction xs generalizing ks with
  | nil => simp [once]
  | cons x xs ih =>
    rw [List.nodup_cons] at h
    simp only [once]
    rw [if_neg (hd x (by simp))]
    have := ih (ks := ks ++ [x]) h.2 fun y hy => by
      have := hd y (by simp [hy])
      have hne : y ≠ x := fun e => h.1 (e ▸ hy)
      simp [this, hne]
    simp at this ⊢; omega

end Go.Proofs.Ytfekbchmgnpkaaa.keys
