/-
  What is still to be gone through of the types of all cons: pure.
-/
import Derived.Test.YtemcncmghnekdaaChecks
namespace Go.Proofs.Ytemcncmghnekdaa.data
open Go.RowKit Go.Proofs.Ytemcncmghnekdaa.rose Go.Proofs.Ytemcncmghnekdaa
set_option linter.unusedVariables false

/-- pre was handed over, st is still to be gone through, cur is being gone through. -/
structure Pend (ks : List DataD) (pre : List ty.TyD) (st : List (List ty.TyD)) (cur : Option (List ty.TyD)) : Prop where
  sub : ∀ y ∈ pre, y ∈ typesL ks
  subs : ∀ x ∈ st, ∀ t ∈ withS x, t ∈ typesL ks
  clo : ∀ y ∈ pre, (∀ k ∈ y.kids, k ∈ pre) ∨ y.kids ∈ st ∨ cur = some y.kids
  roots : ∀ s ∈ spots 0 0 ks, (∀ t ∈ s.c.2, t ∈ pre) ∨ s.c.2 ∈ st ∨ cur = some s.c.2

theorem mem_typesL {ks : List DataD} {t : ty.TyD} : t ∈ typesL ks ↔ ∃ s ∈ spots 0 0 ks, t ∈ withS s.c.2 := by
  unfold typesL typesP
  rw [List.mem_flatMap]

theorem Pend.start (ks : List DataD) : Pend ks [] ((spots 0 0 ks).map (·.c.2)) none :=
  ⟨fun y hy => (by cases hy), fun x hx t ht => (by
    obtain ⟨s, hs, rfl⟩ := List.mem_map.1 hx
    exact mem_typesL.2 ⟨s, hs, ht⟩), fun y hy => (by cases hy), fun s hs => .inr (.inl (List.mem_map.2 ⟨s, hs, rfl⟩))⟩
theorem Pend.pop {ks : List DataD} {pre : List ty.TyD} {st : List (List ty.TyD)} {ts : List ty.TyD} (h : Pend ks pre (st ++ [ts]) none) : Pend ks pre st (some ts) ∧ ∀ t ∈ withS ts, t ∈ typesL ks := by
  refine ⟨⟨h.sub, fun x hx => h.subs x (by simp [hx]), fun y hy => ?_, fun s hs => ?_⟩, h.subs ts (by simp)⟩
  · rcases h.clo y hy with h1 | h1 | h1
    · exact .inl h1
    · rcases List.mem_append.1 h1 with h2 | h2
      · exact .inr (.inl h2)
      · simp at h2; exact .inr (.inr (by rw [h2]))
    · cases h1
  · rcases h.roots s hs with h1 | h1 | h1
    · exact .inl h1
    · rcases List.mem_append.1 h1 with h2 | h2
      · exact .inr (.inl h2)
      · simp at h2; exact .inr (.inr (by rw [h2]))
    · cases h1
theorem Pend.skip {ks : List DataD} {pre : List ty.TyD} {st : List (List ty.TyD)} {ts : List ty.TyD} (h : Pend ks pre st (some ts)) (hd : ∀ t ∈ ts, t ∈ pre) : Pend ks pre st none := by
  refine ⟨h.sub, h.subs, fun y hy => ?_, fun s hs => ?_⟩
  · rcases h.clo y hy with h1 | h1 | h1
    · exact .inl h1
    · exact .inr (.inl h1)
    · cases h1; exact .inl hd
  · rcases h.roots s hs with h1 | h1 | h1
    · exact .inl h1
    · exact .inr (.inl h1)
    · simp only [Option.some.injEq] at h1; subst h1; exact .inl hd
theorem Pend.step {ks : List DataD} {pre : List ty.TyD} {st : List (List ty.TyD)} {ts : List ty.TyD} (h : Pend ks pre st (some ts)) {t : ty.TyD} (ht : t ∈ ts) (hs : ∀ t ∈ withS ts, t ∈ typesL ks) : Pend ks (pre ++ [t]) (st ++ [t.kids]) (some ts) := by
  refine ⟨fun y hy => ?_, fun x hx q hq => ?_, fun y hy => ?_, fun s hs => ?_⟩
  · rcases List.mem_append.1 hy with h1 | h1
    · exact h.sub y h1
    · simp at h1; subst h1; exact hs y (roots_mem ht)
  · rcases List.mem_append.1 hx with h1 | h1
    · exact h.subs x h1 q hq
    · simp at h1
      subst h1
      exact hs q (mem_withS.2 ⟨t, ht, by rw [withT_eq]; exact List.mem_cons_of_mem _ hq⟩)
  · rcases List.mem_append.1 hy with h1 | h1
    · rcases h.clo y h1 with h2 | h2 | h2
      · exact .inl fun k hk => by simp [h2 k hk]
      · exact .inr (.inl (by simp [h2]))
      · exact .inr (.inr h2)
    · simp at h1; subst h1; exact .inr (.inl (by simp))
  · rcases h.roots s hs with h2 | h2 | h2
    · exact .inl fun k hk => by simp [h2 k hk]
    · exact .inr (.inl (by simp [h2]))
    · exact .inr (.inr h2)
theorem Pend.done {ks : List DataD} {pre : List ty.TyD} (h : Pend ks pre [] none) (t : ty.TyD) : t ∈ pre ↔ t ∈ typesL ks := by
  constructor
  · exact h.sub t
  · intro ht
    obtain ⟨s, hs, hw⟩ := mem_typesL.1 ht
    obtain ⟨r, hr, hrt⟩ := mem_withS.1 hw
    have hcl : ∀ y, y ∈ pre → ∀ k ∈ y.kids, k ∈ pre := fun y hy => by
      rcases h.clo y hy with h1 | h1 | h1
      · exact h1
      · cases h1
      · cases h1
    have hrp : r ∈ pre := by
      rcases h.roots s hs with h1 | h1 | h1
      · exact h1 r hr
      · cases h1
      · cases h1
    exact closed (Y := fun y => y ∈ pre) hcl r hrp t hrt

/-- How much there is in lists. -/
def inside : List (List ty.TyD) → Nat
  | [] => 0
  | x :: st => (withS x).length + inside st
def weigh : List (List ty.TyD) → Nat
  | [] => 0
  | x :: st => (withS x).length + 1 + weigh st
theorem inside_append (a b : List (List ty.TyD)) : inside (a ++ b) = inside a + inside b := by
  induction a with
  | nil => simp [inside]
  | cons x a ih => simp [inside, ih]; omega
theorem weigh_append (a b : List (List ty.TyD)) : weigh (a ++ b) = weigh a + weigh b := by
  induction a with
  | nil => simp [weigh]
  | cons x a ih => simp [weigh, ih]; omega
theorem inside_start (l : List Spot) : inside (l.map (·.c.2)) = (typesP l).length := by
  induction l with
  | nil => simp [inside, typesP]
  | cons s l ih =>
    rw [List.map_cons, inside, ih, ← List.singleton_append, typesP_append, typesP_one, List.length_append]
theorem length_le_weigh (st : List (List ty.TyD)) : st.length ≤ weigh st := by
  induction st with
  | nil => simp
  | cons x st ih => simp [weigh]; omega
theorem weigh_eq (st : List (List ty.TyD)) : weigh st = inside st + st.length := by
  induction st with
  | nil => simp [weigh, inside]
  | cons x st ih => simp [weigh, inside]; omega
theorem withS_drop {ts : List ty.TyD} {j : Nat} (h : j < ts.length) : (withS (ts.drop j)).length = (withS ts[j].kids).length + 1 + (withS (ts.drop (j + 1))).length := by
  rw [List.drop_eq_getElem_cons h]
  simp only [withS, List.length_append]
  rw [withT_eq]
  simp

end Go.Proofs.Ytemcncmghnekdaa.data
