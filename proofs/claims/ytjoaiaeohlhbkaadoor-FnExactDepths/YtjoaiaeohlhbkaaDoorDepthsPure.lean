/-
  The state of the model's finder of depths: what it does, and what stays known; no program named.
-/
import Derived.Test.YtjoaiaeohlhbkaaDoorDepthsDefs
namespace Go.Proofs.YtjoaiaeohlhbkaaDoor.fun
open Go.RowKit Go.Proofs.YtjoaiaeohlhbkaaDoor.rose Go.Proofs.YtjoaiaeohlhbkaaDoor
set_option linter.unusedVariables false
set_option linter.unusedSimpArgs false

/-- It comes to a place with so many values. -/
def goF (D T : List Int) (ok : Bool) (b : Nat) (d : Int) : List Int × List Int × Bool :=
  if D.length ≤ b ∨ 60 < d then (D, T, false)
  else if D.getD b 0 < 0 then (D.set b d, T ++ [(b : Int)], ok)
  else if D.getD b 0 = d then (D, T, ok) else (D, T, false)
/-- It comes to several. -/
def goL (D T : List Int) (ok : Bool) (ss : List Int) (d : Int) : List Int × List Int × Bool :=
  match ss with
  | [] => (D, T, ok)
  | s :: ss => goL (goF D T ok s.toNat d).1 (goF D T ok s.toNat d).2.1 (goF D T ok s.toNat d).2.2 ss d
/-- It goes on from a place. -/
def oneF (D T : List Int) (ok : Bool) (a : Nat) (o : op.OpD) : List Int × List Int × Bool :=
  if fineB o (D.getD a 0) = true then goL D T ok (leads a o) (nextD o (D.getD a 0)) else (D, T, false)

def unmet (D : List Int) : Nat := D.countP fun y => decide (y < 0)
def dmu (D T : List Int) : Nat := 2 * unmet D + T.length

theorem unmet_set {D : List Int} {b : Nat} {d : Int} (hb : b < D.length) (hl : D[b] < 0) (hd : 0 ≤ d) : unmet (D.set b d) + 1 = unmet D := by
  unfold unmet
  have hp : 0 < D.countP fun y => decide (y < 0) := List.countP_pos_iff.2 ⟨D[b], List.getElem_mem hb, by simpa using hl⟩
  rw [List.countP_set hb]
  simp [hl, hd, show ¬ d < 0 by omega]
  omega

/-- What stays known. -/
structure GInv (os : List op.OpD) (D T : List Int) (ok : Bool) (x : Nat → Prop) : Prop where
  len : D.length = os.length
  todo : ∀ t ∈ T, ∃ b : Nat, t = b ∧ b < D.length ∧ 0 ≤ D.getD b 0
  rng : ∀ y ∈ D, -1 ≤ y ∧ y ≤ 60
  met : ∀ b : Nat, b < D.length → 0 ≤ D.getD b 0 → Met os (b : Int) (D.getD b 0)
  inv : ok = true → DInv os D (fun a => (a : Int) ∈ T ∨ x a)
  bad : ok = false → ¬ Good os

theorem getD_set_ne {D : List Int} {a b : Nat} {d : Int} (h : b ≠ a) : (D.set b d).getD a 0 = D.getD a 0 := by
  rw [List.getD_eq_getElem?_getD, List.getD_eq_getElem?_getD, List.getElem?_set_ne h]
theorem getD_set_eq {D : List Int} {b : Nat} {d : Int} (h : b < D.length) : (D.set b d).getD b 0 = d := by
  rw [List.getD_eq_getElem?_getD, List.getElem?_set_self h]; rfl
theorem getD_get {D : List Int} {b : Nat} (h : b < D.length) : D.getD b 0 = D[b] := by
  rw [List.getD_eq_getElem?_getD, List.getElem?_eq_getElem h]; rfl
theorem getD_some {D : List Int} {b : Nat} (h : b < D.length) : D[b]? = some (D.getD b 0) := by
  rw [getD_get h, List.getElem?_eq_getElem h]

/-- What a step leaves: D2, T2, ok2 of D, T, ok. -/
structure Stp (os : List op.OpD) (D T : List Int) (ok : Bool) (D2 T2 : List Int) (ok2 : Bool) (x : Nat → Prop) (ss : List Int) (d : Int) : Prop where
  inv : GInv os D2 T2 ok2 x
  mu : dmu D2 T2 ≤ dmu D T
  was : ok2 = true → ok = true
  found : ok2 = true → ∀ s ∈ ss, ∃ b : Nat, s = b ∧ D2[b]? = some d
  keep : ∀ (a : Nat) (e : Int), D[a]? = some e → 0 ≤ e → D2[a]? = some e

theorem GInv.go {os : List op.OpD} {D T : List Int} {ok : Bool} {x : Nat → Prop} (h : GInv os D T ok x) {b : Nat} {d : Int} (hm : Met os (b : Int) d) :
    Stp os D T ok (goF D T ok b d).1 (goF D T ok b d).2.1 (goF D T ok b d).2.2 x [(b : Int)] d := by
  have hpos := hm.pos
  unfold goF
  split
  · rename_i hc
    refine ⟨⟨h.len, h.todo, h.rng, h.met, (fun e => by cases e), fun _ => bad_place hm (by have := h.len; omega)⟩, Nat.le_refl _, (fun e => by cases e), (fun e => by cases e), fun a e h1 _ => h1⟩
  · rename_i hc
    have hb : b < D.length := by omega
    have hd : d ≤ 60 := by omega
    split
    · rename_i hl
      have hl' : D[b] < 0 := by rw [← getD_get hb]; exact hl
      refine ⟨⟨by simpa using h.len, fun t ht => ?_, fun y hy => ?_, fun c hc1 hc2 => ?_, fun e => ?_, h.bad⟩, ?_, fun e => e, fun e s hs => ?_, fun a e h1 h2 => ?_⟩
      · rcases List.mem_append.1 ht with q | q
        · obtain ⟨c, rfl, h1, h2⟩ := h.todo t q
          refine ⟨c, rfl, by simpa using h1, ?_⟩
          by_cases e : b = c
          · subst e; rw [getD_set_eq hb]; omega
          · rw [getD_set_ne e]; exact h2
        · simp only [List.mem_singleton] at q
          subst q
          exact ⟨b, rfl, by simpa using hb, by show 0 ≤ (D.set b d).getD b 0; rw [getD_set_eq hb]; omega⟩
      · rcases List.mem_or_eq_of_mem_set hy with q | rfl
        · exact h.rng y q
        · omega
      · by_cases e : b = c
        · subst e
          show Met os (b : Int) ((D.set b d).getD b 0)
          rw [getD_set_eq hb]; exact hm
        · have hc2' : 0 ≤ (D.set b d).getD c 0 := hc2
          show Met os (c : Int) ((D.set b d).getD c 0)
          rw [getD_set_ne e] at hc2' ⊢
          exact h.met c (by simpa using hc1) hc2'
      · refine ((h.inv e).visit hm hb hl' hd).pend fun a hP => ?_
        rcases hP with (q | q) | q
        · exact .inl (List.mem_append_left _ q)
        · exact .inr q
        · exact .inl (by rw [q]; exact List.mem_append_right _ (List.mem_singleton.2 rfl))
      · have := unmet_set hb hl' (by omega : 0 ≤ d)
        show dmu (D.set b d) (T ++ [(b : Int)]) ≤ _
        unfold dmu
        simp only [List.length_append, List.length_singleton]
        omega
      · simp only [List.mem_singleton] at hs
        exact ⟨b, hs, List.getElem?_set_self hb⟩
      · by_cases e2 : b = a
        · subst e2
          rw [List.getElem?_eq_getElem hb] at h1
          simp only [Option.some.injEq] at h1
          omega
        · show (D.set b d)[a]? = some e
          rw [List.getElem?_set_ne e2]; exact h1
    · rename_i hl
      split
      · rename_i he
        refine ⟨h, Nat.le_refl _, fun e => e, fun e s hs => ?_, fun a e h1 _ => h1⟩
        simp only [List.mem_singleton] at hs
        exact ⟨b, hs, by show D[b]? = some d; rw [getD_some hb, he]⟩
      · rename_i he
        refine ⟨⟨h.len, h.todo, h.rng, h.met, (fun e => by cases e), fun _ => bad_two (h.met b hb (by omega)) hm he⟩, Nat.le_refl _, (fun e => by cases e), (fun e => by cases e), fun a e h1 _ => h1⟩

theorem GInv.gos {os : List op.OpD} {x : Nat → Prop} {d : Int} (ss : List Int) : ∀ {D T : List Int} {ok : Bool} (h : GInv os D T ok x) (hm : ∀ s ∈ ss, 0 ≤ s ∧ Met os s d),
    Stp os D T ok (goL D T ok ss d).1 (goL D T ok ss d).2.1 (goL D T ok ss d).2.2 x ss d := by
  induction ss with
  | nil => intro D T ok h hm; exact ⟨h, Nat.le_refl _, fun e => e, (fun e s hs => by cases hs), fun a e h1 _ => h1⟩
  | cons s ss ih =>
    intro D T ok h hm
    obtain ⟨hs0, hs1⟩ := hm s (List.mem_cons_self ..)
    have e : ((s.toNat : Nat) : Int) = s := by omega
    have h1 := h.go (b := s.toNat) (d := d) (by rw [e]; exact hs1)
    have h2 := ih h1.inv fun q hq => hm q (List.mem_cons_of_mem _ hq)
    unfold goL
    refine ⟨h2.inv, Nat.le_trans h2.mu h1.mu, fun e => h1.was (h2.was e), fun e2 q hq => ?_, fun a e2 q1 q2 => h2.keep a e2 (h1.keep a e2 q1 q2) q2⟩
    rcases List.mem_cons.1 hq with rfl | hq
    · obtain ⟨b, hb, hb2⟩ := h1.found (h2.was e2) ((q.toNat : Nat) : Int) (List.mem_singleton.2 rfl)
      exact ⟨b, by omega, h2.keep b d hb2 (by have := hs1.pos; omega)⟩
    · exact h2.found e2 q hq

/-- A place is gone on from: it was taken off what is to do. -/
theorem GInv.one {os : List op.OpD} {D T : List Int} {a : Nat} (h : GInv os D T true (fun y => y = a)) (ha : a < D.length) (h' : a < os.length) (h0 : 0 ≤ D.getD a 0) (hp : ∀ s ∈ leads a os[a], 0 ≤ s) :
    GInv os (oneF D T true a os[a]).1 (oneF D T true a os[a]).2.1 (oneF D T true a os[a]).2.2 (fun _ => False) ∧ dmu (oneF D T true a os[a]).1 (oneF D T true a os[a]).2.1 ≤ dmu D T := by
  have hm := h.met a ha h0
  unfold oneF
  split
  · rename_i hf
    have hs := GInv.gos (leads a os[a]) h (d := nextD os[a] (D.getD a 0)) fun s hs => ⟨hp s hs, met_on h' hm hf hs⟩
    refine ⟨⟨hs.inv.len, hs.inv.todo, hs.inv.rng, hs.inv.met, fun e => ?_, hs.inv.bad⟩, hs.mu⟩
    have hk := hs.keep a _ (getD_some ha) h0
    generalize goL D T true (leads a os[a]) (nextD os[a] (D.getD a 0)) = st at *
    have hal : a < st.1.length := by have := hs.inv.len; omega
    have he : st.1[a] = D.getD a 0 := by rw [List.getElem?_eq_getElem hal] at hk; simpa using hk
    refine (hs.inv.inv e).done hal h' (by rw [he]; exact hf) (fun s q => by rw [he]; exact hs.found e s q) fun y hP hne => ?_
    rcases hP with q | q
    · exact .inl q
    · exact absurd q hne
  · rename_i hf
    exact ⟨⟨h.len, h.todo, h.rng, h.met, (fun e => by cases e), fun _ => bad_fine h' hm (by simpa using hf)⟩, Nat.le_refl _⟩

/-- The last one is taken off. -/
theorem GInv.pop {os : List op.OpD} {D T : List Int} {a : Nat} (h : GInv os D (T ++ [(a : Int)]) true (fun _ => False)) : GInv os D T true (fun y => y = a) ∧ a < D.length ∧ 0 ≤ D.getD a 0 ∧ dmu D T + 1 = dmu D (T ++ [(a : Int)]) := by
  obtain ⟨b, e, h1, h2⟩ := h.todo a (List.mem_append_right _ (List.mem_singleton.2 rfl))
  have : b = a := by omega
  subst this
  refine ⟨⟨h.len, fun t ht => h.todo t (List.mem_append_left _ ht), h.rng, h.met, fun e => (h.inv e).pend fun y hP => ?_, h.bad⟩, h1, h2, by simp [dmu]; omega⟩
  rcases hP with q | q
  · rcases List.mem_append.1 q with q | q
    · exact .inl q
    · simp only [List.mem_singleton] at q
      exact .inr (by omega)
  · exact q.elim

theorem GInv.start {os : List op.OpD} (h0 : 0 < os.length) : GInv os ((List.replicate os.length (-1)).set 0 1) [0] true (fun _ => False) := by
  have hi := DInv.start h0
  refine ⟨by simp, fun t ht => ?_, fun y hy => ?_, fun b hb hl => ?_, fun _ => hi.pend fun a e => .inl (by rw [e]; simp), (fun e => by cases e)⟩
  · simp only [List.mem_singleton] at ht
    exact ⟨0, ht, by simpa using h0, by rw [getD_set_eq (by simpa using h0)]; decide⟩
  · rcases List.mem_or_eq_of_mem_set hy with q | rfl
    · rw [List.mem_replicate] at q; omega
    · omega
  · rw [getD_get hb] at hl ⊢
    exact (hi.met b hb hl).1
theorem go_first {n : Nat} (h0 : 0 < n) : goF (List.replicate n (-1)) [] true 0 1 = ((List.replicate n (-1)).set 0 1, [0], true) := by
  unfold goF
  rw [if_neg (by simp; omega), if_pos (by rw [getD_get (by simpa using h0)]; simp)]
  rfl
theorem dmu_start (n : Nat) : dmu ((List.replicate n (-1)).set 0 1) [0] ≤ 2 * n + 1 := by
  unfold dmu unmet
  have := List.countP_le_length (p := fun y : Int => decide (y < 0)) (l := (List.replicate n (-1)).set 0 1)
  simp only [List.length_set, List.length_replicate] at this
  simp only [List.length_singleton]
  omega
theorem GInv.fin {os : List op.OpD} {D : List Int} (h : GInv os D [] true (fun _ => False)) : Good os ∧ D = dOf os := by
  have hP : ∀ a : Nat, ¬ ((a : Int) ∈ ([] : List Int) ∨ False) := fun a q => by rcases q with q | q <;> cases q
  exact ⟨(h.inv rfl).good hP, (h.inv rfl).list hP⟩

theorem leads_pos {ks : List FunD} {i : Nat} {k : FunD} {o : op.OpD} {a : Nat} (h : opB ks i k o.1 o.2.1 o.2.2 = true) : ∀ s ∈ leads a o, 0 ≤ s := by
  obtain ⟨c, n, m⟩ := o
  rw [opB_both] at h
  simp only [Bool.and_eq_true] at h
  intro s hs
  unfold leads at hs
  dsimp only at h hs
  split at hs
  · cases hs
  · split at hs
    · rename_i e
      subst e
      have := inB_yes (show inB n 0 ((k.2.length : Int) - 1) = true from h.1.2)
      simp only [List.mem_singleton] at hs
      omega
    · split at hs
      · rename_i e
        subst e
        have := inB_yes (show inB n 0 ((k.2.length : Int) - 1) = true from h.1.2)
        simp only [List.mem_cons, List.mem_nil_iff, or_false] at hs
        omega
      · split at hs
        · rename_i e
          have h2 := h.2
          unfold secondB at h2
          rw [if_neg (by omega), if_neg (by omega), if_pos e] at h2
          have := inB_yes h2
          simp only [List.mem_cons, List.mem_nil_iff, or_false] at hs
          omega
        · simp only [List.mem_singleton] at hs
          omega
theorem takes_pos {ks : List FunD} {i : Nat} {k : FunD} {o : op.OpD} (hk : ∀ n : Int, 0 ≤ freeAt ks n ∧ freeAt ks n ≤ 20) (h : opB ks i k o.1 o.2.1 o.2.2 = true) : 0 ≤ takesB o.1 o.2.2 ∧ takesB o.1 o.2.2 ≤ 20 := by
  obtain ⟨c, n, m⟩ := o
  rw [opB_both] at h
  simp only [Bool.and_eq_true] at h
  dsimp only at h ⊢
  unfold takesB
  split
  · rename_i e
    rcases e with rfl | rfl
    · have : m = freeAt ks n := of_decide_eq_true h.2
      have := hk n
      omega
    · exact inB_yes (show inB m 0 20 = true from h.2)
  · split
    · omega
    · split <;> omega

end Go.Proofs.YtjoaiaeohlhbkaaDoor.fun
