/-
  Types within types, and what is still to be gone through of lists of them: pure.
-/
import Derived.Test.YtfekbchmgnpkaaaTyAll
namespace Go.Proofs.Ytfekbchmgnpkaaa.tys
open Go.RowKit Go.Proofs.Ytfekbchmgnpkaaa.rose Go.Proofs.Ytfekbchmgnpkaaa
set_option linter.unusedVariables false

mutual
/-- A type and all that is within it. -/
def withT : ty.TyD → List ty.TyD
  | .mk x ks => .mk x ks :: withS ks
def withS : List ty.TyD → List ty.TyD
  | [] => []
  | k :: ks => withT k ++ withS ks
end

theorem withT_eq (t : ty.TyD) : withT t = t :: withS t.kids := by cases t; simp [withT, Rose.kids]
theorem withS_append (xs ys : List ty.TyD) : withS (xs ++ ys) = withS xs ++ withS ys := by
  induction xs with
  | nil => simp [withS]
  | cons x xs ih => simp [withS, ih]
theorem withS_one (t : ty.TyD) : withS [t] = withT t := by simp [withS]
theorem withS_take {ks : List ty.TyD} {i : Nat} (h : i < ks.length) : withS (ks.take (i + 1)) = withS (ks.take i) ++ withT ks[i] := by
  rw [List.take_succ_eq_append_getElem h, withS_append, withS_one]
theorem mem_withS {ts : List ty.TyD} {y : ty.TyD} : y ∈ withS ts ↔ ∃ t ∈ ts, y ∈ withT t := by
  induction ts with
  | nil => simp [withS]
  | cons t ts ih => simp [withS, ih]
theorem self_mem (t : ty.TyD) : t ∈ withT t := by rw [withT_eq]; simp
theorem roots_mem {ts : List ty.TyD} {t : ty.TyD} (h : t ∈ ts) : t ∈ withS ts := mem_withS.2 ⟨t, h, self_mem t⟩
theorem kid_mem (t : ty.TyD) : ∀ y ∈ withT t, ∀ k ∈ y.kids, k ∈ withT t := by
  induction t using ind with
  | h x ks ih =>
    intro y hy k hk
    rw [withT_eq] at hy ⊢
    rcases List.mem_cons.1 hy with rfl | hy
    · exact List.mem_cons_of_mem _ (roots_mem hk)
    · obtain ⟨t, ht, hyt⟩ := mem_withS.1 hy
      exact List.mem_cons_of_mem _ (mem_withS.2 ⟨t, ht, ih t ht y hyt k hk⟩)
theorem kid_memS {ts : List ty.TyD} {y k : ty.TyD} (hy : y ∈ withS ts) (hk : k ∈ y.kids) : k ∈ withS ts := by
  obtain ⟨t, ht, hyt⟩ := mem_withS.1 hy
  exact mem_withS.2 ⟨t, ht, kid_mem t y hyt k hk⟩
theorem closed {Y : ty.TyD → Prop} (h : ∀ y, Y y → ∀ k ∈ y.kids, Y k) (t : ty.TyD) : Y t → ∀ y ∈ withT t, Y y := by
  induction t using ind with
  | h x ks ih =>
    intro ht y hy
    rw [withT_eq] at hy
    rcases List.mem_cons.1 hy with rfl | hy
    · exact ht
    · obtain ⟨k, hk, hyk⟩ := mem_withS.1 hy
      exact ih k hk (h _ ht k hk) y hyk
theorem withT_le (t : ty.TyD) : (withT t).length ≤ ty.wt t + 1 := by
  induction t using ind with
  | h x ks ih =>
    obtain ⟨x0, x1, x2⟩ := x
    have : (withS ks).length ≤ ks.length + ty.wts ks := by
      clear x0 x1 x2
      induction ks with
      | nil => simp [withS]
      | cons k ks ih2 =>
        have h1 := ih k (by simp)
        have h2 := ih2 fun q hq => ih q (by simp [hq])
        simp [withS, ty.wts]
        omega
    simp [withT, ty.wt]
    omega
theorem withS_le (ks : List ty.TyD) : (withS ks).length ≤ ks.length + ty.wts ks := by
  induction ks with
  | nil => simp [withS]
  | cons k ks ih =>
    have h1 := withT_le k
    simp [withS, ty.wts]
    omega

/-- All that is within lists. -/
def allL (ls : List (List ty.TyD)) : List ty.TyD := ls.flatMap withS

/-- pre was handed over, st is still to be gone through, cur is being gone through. -/
structure Pend (ls : List (List ty.TyD)) (pre : List ty.TyD) (st : List (List ty.TyD)) (cur : Option (List ty.TyD)) : Prop where
  sub : ∀ y ∈ pre, y ∈ allL ls
  subs : ∀ x ∈ st, ∀ t ∈ withS x, t ∈ allL ls
  clo : ∀ y ∈ pre, (∀ k ∈ y.kids, k ∈ pre) ∨ y.kids ∈ st ∨ cur = some y.kids
  roots : ∀ s ∈ ls, (∀ t ∈ s, t ∈ pre) ∨ s ∈ st ∨ cur = some s

theorem mem_allL {ls : List (List ty.TyD)} {t : ty.TyD} : t ∈ allL ls ↔ ∃ s ∈ ls, t ∈ withS s := by
  unfold allL
  rw [List.mem_flatMap]

theorem Pend.start (ls : List (List ty.TyD)) : Pend ls [] ls none :=
  ⟨fun y hy => (by cases hy), fun x hx t ht => mem_allL.2 ⟨x, hx, ht⟩, fun y hy => (by cases hy), fun s hs => .inr (.inl hs)⟩
theorem Pend.pop {ls : List (List ty.TyD)} {pre : List ty.TyD} {st : List (List ty.TyD)} {ts : List ty.TyD} (h : Pend ls pre (st ++ [ts]) none) : Pend ls pre st (some ts) ∧ ∀ t ∈ withS ts, t ∈ allL ls := by
  refine ⟨⟨h.sub, fun x hx => h.subs x (by simp [hx]), fun y hy => ?_, fun s hs => ?_⟩, h.subs ts (by simp)⟩
  · rcases h.clo y hy with h1 | h1 | h1
    · exact .inl h1
    · rcases List.mem_append.1 h1 with h2 | h2
      · exact .inr (.inl h2)
      · simp at h2; exact .inr (.inr (by rw [h2]))
    · cases h1
  · rcases h.roots s hs with h1 | h1 | h1
    · exact .inl h1
    · rcases List.mem_append.1 h1 with h2 | h2
      · exact .inr (.inl h2)
      · simp at h2; exact .inr (.inr (by rw [h2]))
    · cases h1
theorem Pend.skip {ls : List (List ty.TyD)} {pre : List ty.TyD} {st : List (List ty.TyD)} {ts : List ty.TyD} (h : Pend ls pre st (some ts)) (hd : ∀ t ∈ ts, t ∈ pre) : Pend ls pre st none := by
  refine ⟨h.sub, h.subs, fun y hy => ?_, fun s hs => ?_⟩
  · rcases h.clo y hy with h1 | h1 | h1
    · exact .inl h1
    · exact .inr (.inl h1)
    · cases h1; exact .inl hd
  · rcases h.roots s hs with h1 | h1 | h1
    · exact .inl h1
    · exact .inr (.inl h1)
    · simp only [Option.some.injEq] at h1; subst h1; exact .inl hd
theorem Pend.step {ls : List (List ty.TyD)} {pre : List ty.TyD} {st : List (List ty.TyD)} {ts : List ty.TyD} (h : Pend ls pre st (some ts)) {t : ty.TyD} (ht : t ∈ ts) (hs : ∀ t ∈ withS ts, t ∈ allL ls) : Pend ls (pre ++ [t]) (st ++ [t.kids]) (some ts) := by
  refine ⟨fun y hy => ?_, fun x hx q hq => ?_, fun y hy => ?_, fun s hs => ?_⟩
  · rcases List.mem_append.1 hy with h1 | h1
    · exact h.sub y h1
    · simp at h1; subst h1; exact hs y (roots_mem ht)
  · rcases List.mem_append.1 hx with h1 | h1
    · exact h.subs x h1 q hq
    · simp at h1
      subst h1
      exact hs q (mem_withS.2 ⟨t, ht, by rw [withT_eq]; exact List.mem_cons_of_mem _ hq⟩)
  · rcases List.mem_append.1 hy with h1 | h1
    · rcases h.clo y h1 with h2 | h2 | h2
      · exact .inl fun k hk => by simp [h2 k hk]
      · exact .inr (.inl (by simp [h2]))
      · exact .inr (.inr h2)
    · simp at h1; subst h1; exact .inr (.inl (by simp))
  · rcases h.roots s hs with h2 | h2 | h2
    · exact .inl fun k hk => by simp [h2 k hk]
    · exact .inr (.inl (by simp [h2]))
    · exact .inr (.inr h2)
theorem Pend.done {ls : List (List ty.TyD)} {pre : List ty.TyD} (h : Pend ls pre [] none) (t : ty.TyD) : t ∈ pre ↔ t ∈ allL ls := by
  constructor
  · exact h.sub t
  · intro ht
    obtain ⟨s, hs, hw⟩ := mem_allL.1 ht
    obtain ⟨r, hr, hrt⟩ := mem_withS.1 hw
    have hcl : ∀ y, y ∈ pre → ∀ k ∈ y.kids, k ∈ pre := fun y hy => by
      rcases h.clo y hy with h1 | h1 | h1
      · exact h1
      · cases h1
      · cases h1
    have hrp : r ∈ pre := by
      rcases h.roots s hs with h1 | h1 | h1
      · exact h1 r hr
      · cases h1
      · cases h1
    exact closed (Y := fun y => y ∈ pre) hcl r hrp t hrt

/-- How much there is in lists. -/
def inside : List (List ty.TyD) → Nat
  | [] => 0
  | x :: st => (withS x).length + inside st
def weigh : List (List ty.TyD) → Nat
  | [] => 0
  | x :: st => (withS x).length + 1 + weigh st
theorem inside_append (a b : List (List ty.TyD)) : inside (a ++ b) = inside a + inside b := by
  induction a with
  | nil => simp [inside]
  | cons x a ih => simp [inside, ih]; omega
theorem weigh_append (a b : List (List ty.TyD)) : weigh (a ++ b) = weigh a + weigh b := by
  induction a with
  | nil => simp [weigh]
  | cons x a ih => simp [weigh, ih]; omega
theorem length_le_weigh (st : List (List ty.TyD)) : st.length ≤ weigh st := by
  induction st with
  | nil => simp
  | cons x st ih => simp [weigh]; omega
theorem weigh_eq (st : List (List ty.TyD)) : weigh st = inside st + st.length := by
  induction st with
  | nil => simp [weigh, inside]
  | cons x st ih => simp [weigh, inside]; omega
theorem withS_drop {ts : List ty.TyD} {j : Nat} (h : j < ts.length) : (withS (ts.drop j)).length = (withS ts[j].kids).length + 1 + (withS (ts.drop (j + 1))).length := by
  rw [List.drop_eq_getElem_cons h]
  simp only [withS, List.length_append]
  rw [withT_eq]
  simp

theorem inside_all (ls : List (List ty.TyD)) : inside ls = (allL ls).length := by
  induction ls with
  | nil => simp [inside, allL]
  | cons s l ih => simp only [inside, ih, allL, List.flatMap_cons, List.length_append]
theorem mem_with_all (T : ty.TyD) : ∀ t, t ∈ withT T ↔ t ∈ ty.allT T := by
  induction T using ind with
  | h x ks ih =>
    intro t
    have key : ∀ l : List ty.TyD, (∀ k ∈ l, ∀ t, t ∈ withT k ↔ t ∈ ty.allT k) → (t ∈ withS l ↔ t ∈ ty.allS l) := by
      intro l
      induction l with
      | nil => intro _; simp [withS, ty.allS]
      | cons a l ih2 =>
        intro h
        have h1 := h a (by simp) t
        have h2 := ih2 fun k hk => h k (by simp [hk])
        simp only [withS, ty.allS, List.mem_append, h1, h2]
    simp only [withT, ty.allT, List.mem_cons, key ks ih]
theorem withT_length (T : ty.TyD) : (withT T).length = (ty.allT T).length := by
  induction T using ind with
  | h x ks ih =>
    have key : ∀ l : List ty.TyD, (∀ k ∈ l, (withT k).length = (ty.allT k).length) → (withS l).length = (ty.allS l).length := by
      intro l
      induction l with
      | nil => intro _; simp [withS, ty.allS]
      | cons a l ih2 =>
        intro h
        have h1 := h a (by simp)
        have h2 := ih2 fun k hk => h k (by simp [hk])
        simp only [withS, ty.allS, List.length_append, h1, h2]
    simp only [withT, ty.allT, List.length_cons, key ks ih]

end Go.Proofs.Ytfekbchmgnpkaaa.tys
