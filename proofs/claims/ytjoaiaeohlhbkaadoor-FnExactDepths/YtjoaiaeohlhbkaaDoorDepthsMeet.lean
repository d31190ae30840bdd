/-
  A finder of depths that keeps ways: what is known of what it found and of the ways that it keeps; no program named.
-/
import Derived.Test.YtjoaiaeohlhbkaaDoorDepthsPure
namespace Go.Proofs.YtjoaiaeohlhbkaaDoor.fun
open Go.RowKit Go.Proofs.YtjoaiaeohlhbkaaDoor.rose Go.Proofs.YtjoaiaeohlhbkaaDoor
set_option linter.unusedVariables false
set_option linter.unusedSimpArgs false

/-- What is known on the way: D is what was found so far, W are the ways that are still to be gone. -/
structure MInv (os : List op.OpD) (D : List Int) (W : List (Int × Int)) : Prop where
  len : D.length = os.length
  low : ∀ a (h : a < D.length), D[a] < 0 → D[a] = -1
  met : ∀ a (h : a < D.length), 0 ≤ D[a] → Met os (a : Int) D[a] ∧ D[a] ≤ 60
  closed : ∀ a (h : a < D.length) (h' : a < os.length), 0 ≤ D[a] → fineB os[a] D[a] = true ∧ ∀ s ∈ leads a os[a], (∃ b : Nat, s = b ∧ D[b]? = some (nextD os[a] D[a])) ∨ (s, nextD os[a] D[a]) ∈ W
  first : D[0]? = some 1 ∨ ((0 : Int), (1 : Int)) ∈ W
  ways : ∀ x ∈ W, Met os x.1 x.2 ∧ 0 ≤ x.1 ∧ x.1 < os.length ∧ x.2 ≤ 60

section
variable {os : List op.OpD} {D : List Int} {W K : List (Int × Int)}

theorem MInv.start (h0 : 0 < os.length) : MInv os (List.replicate os.length (-1)) [(0, 1)] := by
  refine ⟨by simp, fun a h hl => by simp, fun a h hl => by simp at hl, fun a h h' hl => by simp at hl, .inr (by simp), fun x hx => ?_⟩
  simp only [List.mem_singleton] at hx
  subst hx
  exact ⟨Met.start, by decide, by simpa using h0, by decide⟩
/-- A way to where one has been. -/
theorem MInv.same {b : Nat} {d : Int} (h : MInv os D (((b : Int), d) :: K)) (hd : D[b]? = some d) : MInv os D K := by
  refine ⟨h.len, h.low, h.met, fun a ha h' hl => ?_, ?_, fun x hx => h.ways x (List.mem_cons_of_mem _ hx)⟩
  · obtain ⟨f1, f2⟩ := h.closed a ha h' hl
    refine ⟨f1, fun s hs => ?_⟩
    rcases f2 s hs with q | q
    · exact .inl q
    · rcases List.mem_cons.1 q with e | q
      · simp only [Prod.mk.injEq] at e
        exact .inl ⟨b, e.1, by rw [e.2]; exact hd⟩
      · exact .inr q
  · rcases h.first with q | q
    · exact .inl q
    · rcases List.mem_cons.1 q with e | q
      · simp only [Prod.mk.injEq] at e
        have : b = 0 := by omega
        subst this
        exact .inl (by rw [hd, e.2])
      · exact .inr q
/-- A place that was not met yet. -/
theorem MInv.visit {b : Nat} {d : Int} (h : MInv os D (((b : Int), d) :: K)) (hb : b < D.length) (hbo : b < os.length) (hl : D[b] < 0) (hf : fineB os[b] d = true) (hin : ∀ s ∈ leads b os[b], 0 ≤ s ∧ s < os.length) (hn : nextD os[b] d ≤ 60)
    (h1 : ∀ s ∈ leads b os[b], (s, nextD os[b] d) ∈ W) (h2 : ∀ x ∈ K, x ∈ W) (h3 : ∀ x ∈ W, x ∈ K ∨ ∃ s ∈ leads b os[b], x = (s, nextD os[b] d)) : MInv os (D.set b d) W := by
  obtain ⟨hm, -, -, hd60⟩ := h.ways _ List.mem_cons_self
  dsimp only at hm hd60
  have hpos := hm.pos
  refine ⟨by simpa using h.len, fun a ha hx => ?_, fun a ha hx => ?_, fun a ha h' hx => ?_, ?_, fun x hx => ?_⟩
  · rw [List.getElem_set] at hx ⊢
    split at hx
    · omega
    · rename_i hne; rw [if_neg hne]; exact h.low a (by simpa using ha) hx
  · rw [List.getElem_set] at hx ⊢
    split at hx
    · rename_i e; subst e; simp only [if_true]; exact ⟨hm, hd60⟩
    · rename_i hne; rw [if_neg hne]; exact h.met a (by simpa using ha) hx
  · by_cases e : a = b
    · subst e
      simp only [List.getElem_set_self]
      exact ⟨hf, fun s hs => .inr (h1 s hs)⟩
    · rw [List.getElem_set_ne (Ne.symm e)] at hx ⊢
      obtain ⟨f1, f2⟩ := h.closed a (by simpa using ha) h' hx
      refine ⟨f1, fun s hs => ?_⟩
      rcases f2 s hs with ⟨q, rfl, hq⟩ | q
      · refine .inl ⟨q, rfl, ?_⟩
        by_cases e2 : q = b
        · subst e2
          rw [List.getElem?_eq_getElem hb] at hq
          have := next_pos f1
          simp only [Option.some.injEq] at hq
          omega
        · rw [List.getElem?_set_ne (Ne.symm e2)]; exact hq
      · rcases List.mem_cons.1 q with e3 | q
        · simp only [Prod.mk.injEq] at e3
          exact .inl ⟨b, e3.1, by rw [List.getElem?_set_self hb, e3.2]⟩
        · exact .inr (h2 _ q)
  · rcases h.first with q | q
    · refine .inl ?_
      by_cases e : b = 0
      · subst e
        rw [List.getElem?_eq_getElem hb] at q
        simp only [Option.some.injEq] at q
        omega
      · rw [List.getElem?_set_ne e]; exact q
    · rcases List.mem_cons.1 q with e | q
      · simp only [Prod.mk.injEq] at e
        have : b = 0 := by omega
        subst this
        exact .inl (by rw [List.getElem?_set_self hb, e.2])
      · exact .inr (h2 _ q)
  · rcases h3 x hx with q | ⟨s, hs, rfl⟩
    · exact h.ways x (List.mem_cons_of_mem _ q)
    · exact ⟨met_on hbo hm hf hs, (hin s hs).1, (hin s hs).2, hn⟩
/-- It does not matter in which order the ways are kept. -/
theorem MInv.perm {W W' : List (Int × Int)} (h : MInv os D W) (h1 : ∀ x, x ∈ W → x ∈ W') (h2 : ∀ x, x ∈ W' → x ∈ W) : MInv os D W' := by
  refine ⟨h.len, h.low, h.met, fun a ha h' hl => ?_, ?_, fun x hx => h.ways x (h2 x hx)⟩
  · obtain ⟨f1, f2⟩ := h.closed a ha h' hl
    refine ⟨f1, fun s hs => ?_⟩
    rcases f2 s hs with q | q
    · exact .inl q
    · exact .inr (h1 _ q)
  · rcases h.first with q | q
    · exact .inl q
    · exact .inr (h1 _ q)
/-- The same, with the place written out. -/
theorem MInv.next {b : Nat} {d x : Int} {o : op.OpD} {ls : List Int} (h : MInv os D (((b : Int), d) :: K)) (hb : b < D.length) (hbo : b < os.length) (ho : os[b] = o) (hl : D[b] < 0) (hf : fineB o d = true) (hin : ∀ s ∈ leads b os[b], 0 ≤ s ∧ s < os.length) (hx : nextD o d = x) (hn : x ≤ 60) (hls : leads b o = ls) :
    MInv os (D.set b d) (ls.map (fun s => (s, x)) ++ K) := by
  subst ho hx hls
  refine h.visit hb hbo hl hf hin hn (fun s hs => List.mem_append_left _ (List.mem_map.2 ⟨s, hs, rfl⟩)) (fun x hx => List.mem_append_right _ hx) fun x hx => ?_
  rcases List.mem_append.1 hx with q | q
  · obtain ⟨s, hs, rfl⟩ := List.mem_map.1 q
    exact .inr ⟨s, hs, rfl⟩
  · exact .inl q
/-- Nothing is left. -/
theorem MInv.done (h : MInv os D []) : DInv os D (fun _ => False) := by
  refine ⟨h.len, h.low, h.met, fun a ha h' hl _ => ?_, ?_⟩
  · obtain ⟨f1, f2⟩ := h.closed a ha h' hl
    refine ⟨f1, fun s hs => ?_⟩
    rcases f2 s hs with q | q
    · exact q
    · cases q
  · rcases h.first with q | q
    · exact q
    · cases q
theorem MInv.bad_two {b : Nat} {d : Int} (h : MInv os D (((b : Int), d) :: K)) (hb : b < D.length) (h0 : 0 ≤ D[b]) (hne : D[b] ≠ d) : ¬ Good os :=
  Go.Proofs.YtjoaiaeohlhbkaaDoor.fun.bad_two (h.met b hb h0).1 (h.ways _ List.mem_cons_self).1 hne
theorem MInv.bad_fine {b : Nat} {d : Int} (h : MInv os D (((b : Int), d) :: K)) (hbo : b < os.length) (hf : fineB os[b] d = false) : ¬ Good os :=
  Go.Proofs.YtjoaiaeohlhbkaaDoor.fun.bad_fine hbo (h.ways _ List.mem_cons_self).1 hf
theorem lead_some {a d : Int} {o : op.OpD} (hf : fineB o d = true) (hd : d ≤ 60) (hn : 60 < nextD o d) : ∃ s, s ∈ leads a o := by
  obtain ⟨c, n, m⟩ := o
  by_cases h7 : c = 7
  · subst h7
    unfold fineB at hf
    simp at hf
    have : nextD (7, n, m) d = d - 1 := by simp [nextD, takesB, putsB]
    omega
  · by_cases h21 : c = 21
    · subst h21
      have : nextD (21, n, m) d = d := by simp [nextD, takesB, putsB]
      omega
    · unfold leads
      dsimp only
      rw [if_neg (by omega)]
      split
      · exact ⟨_, List.mem_singleton.2 rfl⟩
      · split
        · exact ⟨_, List.mem_cons_self⟩
        · split
          · exact ⟨_, List.mem_cons_self⟩
          · exact ⟨_, List.mem_singleton.2 rfl⟩
theorem MInv.bad_many {b : Nat} {d : Int} (h : MInv os D (((b : Int), d) :: K)) (hbo : b < os.length) (hf : fineB os[b] d = true) (hn : 60 < nextD os[b] d) : ¬ Good os := by
  obtain ⟨hm, -, -, hd60⟩ := h.ways _ List.mem_cons_self
  obtain ⟨s, hs⟩ := lead_some (a := (b : Int)) hf hd60 hn
  exact bad_place (met_on hbo hm hf hs) (.inr hn)
end

/-- Where a place of a right function leads, there is one. -/
theorem leads_in {ks : List FunD} {i : Nat} {k : FunD} (h : funB ks i k = true) {a : Nat} (ha : a < k.2.length) : ∀ s ∈ leads a k.2[a], 0 ≤ s ∧ s < k.2.length := by
  unfold funB at h
  simp only [Bool.and_eq_true] at h
  have hop := List.all_eq_true.1 h.1.2 _ (List.getElem_mem ha)
  have hlast := h.2
  rw [lastB_get (by omega)] at hlast
  have hend : a + 1 = k.2.length → endB k.2[a].1 = true := fun e => by
    have : k.2.length - 1 = a := by omega
    simpa only [this] using hlast
  generalize hgo : k.2[a] = o at hop hend ⊢
  obtain ⟨c, n, m⟩ := o
  unfold opB at hop
  unfold endB at hend
  dsimp only at hop hend
  intro s hs
  unfold leads at hs
  dsimp only at hs
  have hnx : ¬ (c = 7 ∨ c = 21) → c ≠ 19 → a + 1 < k.2.length := fun h1 h2 => by
    rcases Nat.lt_or_ge (a + 1) k.2.length with q | q
    · exact q
    · have := hend (by omega)
      simp only [Bool.or_eq_true, decide_eq_true_eq] at this
      omega
  by_cases h1 : c = 7 ∨ c = 21
  · rw [if_pos h1] at hs; cases hs
  · rw [if_neg h1] at hs
    by_cases h2 : c = 19
    · subst h2
      simp only [if_true, List.mem_singleton] at hs
      subst hs
      simp at hop
      have := inB_yes hop.1
      omega
    · rw [if_neg h2] at hs
      have hx := hnx h1 h2
      by_cases h3 : c = 18
      · subst h3
        simp only [if_true] at hs
        simp at hop
        have := inB_yes hop.1
        rcases List.mem_cons.1 hs with e | hs
        · omega
        · simp only [List.mem_singleton] at hs; omega
      · rw [if_neg h3] at hs
        by_cases h4 : c = 10 ∨ c = 11
        · rw [if_pos h4] at hs
          have hm : 0 ≤ m ∧ m ≤ (k.2.length : Int) - 1 := by
            rcases h4 with rfl | rfl
            · simp at hop; exact inB_yes hop.2
            · simp at hop; exact inB_yes hop.2
          rcases List.mem_cons.1 hs with e | hs
          · omega
          · simp only [List.mem_singleton] at hs; omega
        · rw [if_neg h4] at hs
          simp only [List.mem_singleton] at hs; omega

end Go.Proofs.YtjoaiaeohlhbkaaDoor.fun
