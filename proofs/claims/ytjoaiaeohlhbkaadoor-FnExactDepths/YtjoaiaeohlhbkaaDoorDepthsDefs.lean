/-
  How many values there are ahead of each place (chapter 15): told in plain data; no program named.
-/
import Derived.Test.YtjoaiaeohlhbkaaDoorFunsDefs
import Derived.Test.YtjoaiaeohlhbkaaDoorEffectDefs
namespace Go.Proofs.YtjoaiaeohlhbkaaDoor.fun
open Go.RowKit Go.Proofs.YtjoaiaeohlhbkaaDoor.rose Go.Proofs.YtjoaiaeohlhbkaaDoor
set_option linter.unusedVariables false
set_option linter.unusedSimpArgs false

/-- Whether a place has what it asks for, when there are so many. -/
def fineB (o : op.OpD) (d : Int) : Bool := decide (takesB o.1 o.2.2 < d) && !(decide (o.1 = 2) && decide (d ≤ o.2.1)) && !(decide (o.1 = 7) && !decide (d = 2))
/-- How many there are behind it. -/
def nextD (o : op.OpD) (d : Int) : Int := d - takesB o.1 o.2.2 + putsB o.1
/-- Where it leads. -/
def leads (a : Int) (o : op.OpD) : List Int :=
  if o.1 = 7 ∨ o.1 = 21 then []
  else if o.1 = 19 then [o.2.1]
  else if o.1 = 18 then [o.2.1, a + 1]
  else if o.1 = 10 ∨ o.1 = 11 then [o.2.2, a + 1]
  else [a + 1]

/-- That a place is met with so many values. -/
inductive Met (os : List op.OpD) : Int → Int → Prop where
  | start : Met os 0 1
  | go {a d : Int} {o : op.OpD} {s : Int} : Met os a d → 0 ≤ a → os[a.toNat]? = some o → fineB o d = true → s ∈ leads a o → Met os s (nextD o d)

theorem fine_takes {o : op.OpD} {d : Int} (h : fineB o d = true) : takesB o.1 o.2.2 < d := by
  unfold fineB at h
  simp only [Bool.and_eq_true, decide_eq_true_eq] at h
  exact h.1.1
theorem next_pos {o : op.OpD} {d : Int} (h : fineB o d = true) : 1 ≤ nextD o d := by
  have h1 := fine_takes h
  have h2 := (puts_pos o.1).1
  unfold nextD
  omega
theorem Met.pos {os : List op.OpD} {a d : Int} (h : Met os a d) : 1 ≤ d := by
  cases h with
  | start => decide
  | go _ _ _ hf _ => exact next_pos hf

/-- Whether all goes well. -/
def Good (os : List op.OpD) : Prop := ∀ a d, Met os a d → d ≤ 60 ∧ (∃ (b : Nat) (h : b < os.length), a = b ∧ fineB os[b] d = true) ∧ ∀ d', Met os a d' → d' = d

open Classical in
/-- What is found at a place. -/
noncomputable def dAt (os : List op.OpD) (a : Nat) : Int := if h : ∃ d, Met os (a : Int) d then h.choose else -1
/-- What is found at each place. -/
noncomputable def dOf (os : List op.OpD) : List Int := (List.range os.length).map (dAt os)
open Classical in
/-- What is found of function i. -/
noncomputable def depthsF (ks : List FunD) (i : Int) : List Int × Bool :=
  if h : funsB ks = true ∧ 0 ≤ i ∧ i.toNat < ks.length then (if Good (ks[i.toNat]'h.2.2).2 then (dOf (ks[i.toNat]'h.2.2).2, true) else ([], false)) else ([], false)

theorem depthsF_off {ks : List FunD} {i : Int} (h : funsB ks = false ∨ i < 0 ∨ (ks.length : Int) ≤ i) : depthsF ks i = ([], false) := by
  unfold depthsF
  rw [dif_neg]
  rintro ⟨h1, h2, h3⟩
  rcases h with h | h | h
  · rw [h1] at h; cases h
  · omega
  · omega
theorem depthsF_bad {ks : List FunD} {i : Nat} (hi : i < ks.length) (h : ¬ Good ks[i].2) : depthsF ks i = ([], false) := by
  unfold depthsF
  split
  · simp only [Int.toNat_natCast]; rw [if_neg h]
  · rfl
theorem depthsF_good {ks : List FunD} {i : Nat} (hi : i < ks.length) (hf : funsB ks = true) (h : Good ks[i].2) : depthsF ks i = (dOf ks[i].2, true) := by
  unfold depthsF
  rw [dif_pos ⟨hf, by omega, by simpa using hi⟩]
  simp only [Int.toNat_natCast]
  rw [if_pos h]

/-- What is known on the way: D is what was found so far, P the places that are still to be gone on from. -/
structure DInv (os : List op.OpD) (D : List Int) (P : Nat → Prop) : Prop where
  len : D.length = os.length
  low : ∀ a (h : a < D.length), D[a] < 0 → D[a] = -1
  met : ∀ a (h : a < D.length), 0 ≤ D[a] → Met os (a : Int) D[a] ∧ D[a] ≤ 60
  closed : ∀ a (h : a < D.length) (h' : a < os.length), 0 ≤ D[a] → ¬ P a → fineB os[a] D[a] = true ∧ ∀ s ∈ leads a os[a], ∃ b : Nat, s = b ∧ D[b]? = some (nextD os[a] D[a])
  first : D[0]? = some 1

section
variable {os : List op.OpD} {D : List Int} {P : Nat → Prop}

theorem DInv.start (h0 : 0 < os.length) : DInv os ((List.replicate os.length (-1)).set 0 1) (fun a => a = 0) := by
  refine ⟨by simp, fun a h hl => ?_, fun a h hl => ?_, fun a h h' hl hP => ?_, by simp [h0]⟩
  · rw [List.getElem_set] at hl ⊢
    split at hl
    · omega
    · rename_i hne; rw [if_neg hne]; simp
  · by_cases ha : a = 0
    · subst ha
      simp only [List.getElem_set_self]
      exact ⟨Met.start, by decide⟩
    · rw [List.getElem_set_ne (by omega)] at hl
      simp at hl
  · rw [List.getElem_set_ne (by omega)] at hl
    simp at hl

/-- A place that was not met yet. -/
theorem DInv.visit (h : DInv os D P) {b : Nat} {d : Int} (hm : Met os (b : Int) d) (hb : b < D.length) (hl : D[b] < 0) (hd : d ≤ 60) : DInv os (D.set b d) (fun a => P a ∨ a = b) := by
  have hpos := hm.pos
  refine ⟨by simpa using h.len, fun a ha hx => ?_, fun a ha hx => ?_, fun a ha h' hx hP => ?_, ?_⟩
  · rw [List.getElem_set] at hx ⊢
    split at hx
    · omega
    · rename_i hne; rw [if_neg hne]; exact h.low a (by simpa using ha) hx
  · rw [List.getElem_set] at hx ⊢
    split at hx
    · rename_i e; subst e; simp only [if_true]; exact ⟨hm, hd⟩
    · rename_i hne; rw [if_neg hne]; exact h.met a (by simpa using ha) hx
  · have hne : a ≠ b := fun e => hP (.inr e)
    have hP' : ¬ P a := fun e => hP (.inl e)
    rw [List.getElem_set_ne (Ne.symm hne)] at hx ⊢
    obtain ⟨f1, f2⟩ := h.closed a (by simpa using ha) h' hx hP'
    refine ⟨f1, fun s hs => ?_⟩
    obtain ⟨q, rfl, hq⟩ := f2 s hs
    refine ⟨q, rfl, ?_⟩
    by_cases e : q = b
    · subst e
      rw [List.getElem?_eq_getElem hb] at hq
      have := next_pos f1
      simp only [Option.some.injEq] at hq
      omega
    · rw [List.getElem?_set_ne (Ne.symm e)]; exact hq
  · have hf := h.first
    by_cases e : b = 0
    · subst e
      rw [List.getElem?_eq_getElem hb] at hf
      simp only [Option.some.injEq] at hf
      omega
    · rw [List.getElem?_set_ne e]; exact hf

/-- A place from which all was gone on. -/
theorem DInv.done (h : DInv os D P) {a : Nat} (ha : a < D.length) (h' : a < os.length) (hf : fineB os[a] D[a] = true) (hs : ∀ s ∈ leads a os[a], ∃ b : Nat, s = b ∧ D[b]? = some (nextD os[a] D[a])) {P' : Nat → Prop} (hP : ∀ x, P x → x ≠ a → P' x) : DInv os D P' := by
  refine ⟨h.len, h.low, h.met, fun x hx hx' hl hn => ?_, h.first⟩
  by_cases e : x = a
  · subst e; exact ⟨hf, hs⟩
  · exact h.closed x hx hx' hl fun q => hn (hP x q e)
theorem DInv.pend (h : DInv os D P) {P' : Nat → Prop} (hP : ∀ x, P x → P' x) : DInv os D P' := ⟨h.len, h.low, h.met, fun x hx hx' hl hn => h.closed x hx hx' hl fun q => hn (hP x q), h.first⟩

/-- What is met was found, once nothing is left. -/
theorem DInv.all (h : DInv os D P) (hP : ∀ a, ¬ P a) {a d : Int} (hm : Met os a d) : ∃ b : Nat, a = b ∧ D[b]? = some d := by
  induction hm with
  | start => exact ⟨0, rfl, h.first⟩
  | @go a d o s hm ha ho hf hs ih =>
    obtain ⟨b, rfl, hb⟩ := ih
    have hbl : b < D.length := by
      rcases Nat.lt_or_ge b D.length with q | q
      · exact q
      · rw [List.getElem?_eq_none q] at hb; cases hb
    have hbo : b < os.length := by have := h.len; omega
    simp only [Int.toNat_natCast] at ho
    rw [List.getElem?_eq_getElem hbo] at ho
    rw [List.getElem?_eq_getElem hbl] at hb
    simp only [Option.some.injEq] at ho hb
    subst ho hb
    exact (h.closed b hbl hbo (by have := hm.pos; omega) (hP b)).2 s hs
theorem DInv.good (h : DInv os D P) (hP : ∀ a, ¬ P a) : Good os := by
  intro a d hm
  obtain ⟨b, rfl, hb⟩ := h.all hP hm
  have hbl : b < D.length := by
    rcases Nat.lt_or_ge b D.length with q | q
    · exact q
    · rw [List.getElem?_eq_none q] at hb; cases hb
  have hbo : b < os.length := by have := h.len; omega
  have hb' := hb
  rw [List.getElem?_eq_getElem hbl] at hb'
  simp only [Option.some.injEq] at hb'
  have hp := hm.pos
  refine ⟨?_, ⟨b, hbo, rfl, ?_⟩, fun d' hm' => ?_⟩
  · rw [← hb']; exact (h.met b hbl (by omega)).2
  · rw [← hb']; exact (h.closed b hbl hbo (by omega) (hP b)).1
  · obtain ⟨b2, e, hb2⟩ := h.all hP hm'
    have : b2 = b := by omega
    subst this
    rw [hb] at hb2
    simpa using hb2.symm
theorem DInv.list (h : DInv os D P) (hP : ∀ a, ¬ P a) : D = dOf os := by
  have hg := h.good hP
  refine List.ext_getElem (by simp [dOf, h.len]) fun a h1 h2 => ?_
  have ha : a < os.length := by rw [← h.len]; exact h1
  simp only [dOf, List.getElem_map, List.getElem_range]
  unfold dAt
  split
  · rename_i hex
    have hc := hex.choose_spec
    obtain ⟨b, e, hb⟩ := h.all hP hc
    have : b = a := by omega
    subst this
    rw [List.getElem?_eq_getElem h1] at hb
    simpa using hb
  · rename_i hex
    rcases Int.lt_or_le D[a] 0 with q | q
    · exact h.low a h1 q
    · exact absurd ⟨_, (h.met a h1 q).1⟩ hex

/-- What goes wrong. -/
theorem bad_place {a d : Int} (hm : Met os a d) (h : (os.length : Int) ≤ a ∨ 60 < d) : ¬ Good os := fun hg => by
  obtain ⟨h1, ⟨b, hb, rfl, -⟩, -⟩ := hg a d hm
  omega
theorem bad_two {a d d' : Int} (hm : Met os a d) (hm' : Met os a d') (h : d ≠ d') : ¬ Good os := fun hg => h ((hg a d' hm').2.2 d hm)
theorem bad_fine {a : Nat} (ha : a < os.length) {d : Int} (hm : Met os (a : Int) d) (h : fineB os[a] d = false) : ¬ Good os := fun hg => by
  obtain ⟨-, ⟨b, hb, e, hf⟩, -⟩ := hg a d hm
  have : b = a := by omega
  subst this
  rw [h] at hf; cases hf
theorem met_on {a : Nat} (ha : a < os.length) {d : Int} (hm : Met os (a : Int) d) (hf : fineB os[a] d = true) {s : Int} (hs : s ∈ leads a os[a]) : Met os s (nextD os[a] d) :=
  Met.go hm (by omega) (by simp [ha]) hf hs
end

end Go.Proofs.YtjoaiaeohlhbkaaDoor.fun
