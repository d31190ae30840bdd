/-
  A copy of a tree that is made in rows that are gone through: whatever the rows that are still to be gone through will hold, the whole is there once they hold what belongs there. No program is named.
-/
import Derived.Test.YtdfpihnddclccaaSep2
import Derived.Test.YtdfpihnddclccaaOwnMore
namespace Go.Proofs.Ytdfpihnddclccaa.rose
open Go Go.RowKit Go.Deep Go.ChangeShapes Go.WideShapes
set_option linter.unusedVariables false

/-- A row that is still to be gone through: the trees that belong there, and the slice of it. -/
structure CT (α : Type) where
  ts : List (Rose α)
  v : Value

def CFill {α : Type} (A : Sh α) (w : World) : List (CT α) → List (Nat → Prop) → Prop
  | [], [] => True
  | k :: st, F :: Fs => A.srose.sslice.rep w F [k.v] k.ts ∧ CFill A w st Fs
  | _, _ => False

def CApart : List (Nat → Prop) → Prop
  | [] => True
  | F :: Fs => (∀ G ∈ Fs, ∀ b, F b → ¬ G b) ∧ CApart Fs

/-- The whole, once all rows of st are there: D's blocks are done. -/
def CWand {α : Type} (A : Sh α) (wr : World) (D : Nat → Prop) (st : List (CT α)) (v0 : Value) (Ts : List (Rose α)) : Prop :=
  ∀ w', (∀ b, D b → w'.heap[b]? = wr.heap[b]?) → ∀ Fs, CFill A w' st Fs → CApart Fs → (∀ F ∈ Fs, ∀ b, F b → ¬ D b) →
    A.srose.sslice.rep w' (fun b => D b ∨ ∃ F ∈ Fs, F b) [v0] Ts

/-- .. with the elements of one more row from i on. -/
def CWand2 {α : Type} (A : Sh α) (t : TypeId) (wr : World) (D : Nat → Prop) (st : List (CT α)) (ts : List (Rose α)) (g i : Nat) (v0 : Value) (Ts : List (Rose α)) : Prop :=
  ∀ w', (∀ b, D b → w'.heap[b]? = wr.heap[b]?) → (∀ q, q < i * (A.k + 1) → w'.cell? ⟨g, q, none⟩ = wr.cell? ⟨g, q, none⟩) → (∃ cur, w'.heap[g]? = some (.cells cur t)) →
    ∀ Fs, CFill A w' st Fs → CApart Fs → (∀ F ∈ Fs, ∀ b, F b → ¬ D b ∧ b ≠ g) →
    ∀ (css : Nat → List Value) (E : Nat → Nat → Prop), (∀ j (h : j < ts.length), i ≤ j → CellsAt w' g (j * (A.k + 1)) (css j) ∧ A.srose.rep w' (E j) (css j) ts[j]) →
      (∀ j, i ≤ j → j < ts.length → ∀ b, E j b → ¬ D b ∧ b ≠ g ∧ ∀ F ∈ Fs, ¬ F b) → (∀ j l, i ≤ j → j < ts.length → i ≤ l → l < ts.length → j ≠ l → ∀ b, E j b → ¬ E l b) →
    A.srose.sslice.rep w' (fun b => D b ∨ b = g ∨ (∃ F ∈ Fs, F b) ∨ ∃ j, i ≤ j ∧ j < ts.length ∧ E j b) [v0] Ts

section
variable {α : Type} {A : Sh α} {t : TypeId} {wr wr' : World} {D : Nat → Prop} {st : List (CT α)} {ts Ts : List (Rose α)} {g i cap : Nat} {v0 : Value} {k : CT α}

theorem CWand.on (h : CWand A wr D st v0 Ts) (hb : ∀ b, D b → wr'.heap[b]? = wr.heap[b]?) : CWand A wr' D st v0 Ts :=
  fun w' h1 => h w' fun b hD => (h1 b hD).trans (hb b hD)
theorem CWand2.on (h : CWand2 A t wr D st ts g i v0 Ts) (hb : ∀ b, D b → wr'.heap[b]? = wr.heap[b]?) (hc : ∀ q, q < i * (A.k + 1) → wr'.cell? ⟨g, q, none⟩ = wr.cell? ⟨g, q, none⟩) : CWand2 A t wr' D st ts g i v0 Ts :=
  fun w' h1 h2 => h w' (fun b hD => (h1 b hD).trans (hb b hD)) (fun q hq => (h2 q hq).trans (hc q hq))

theorem srose_nil (w : World) (F : Nat → Prop) : A.srose.sslice.rep w F [.slice none 0 0] [] :=
  ⟨none, 0, fun _ => [], fun _ _ => False, rfl, Nat.le_refl _, Nat.zero_le _, fun _ => rfl, fun h => absurd h (Nat.lt_irrefl _), fun i hi => absurd hi (Nat.not_lt_zero _), fun i j hi => absurd hi (Nat.not_lt_zero _), fun i hi => absurd hi (Nat.not_lt_zero _)⟩

/-- A row of none is taken off. -/
theorem CWand.skip (h : CWand A wr D (⟨[], .slice none 0 0⟩ :: st) v0 Ts) : CWand A wr D st v0 Ts := by
  intro w' h1 Fs hF hA hD
  have key := h w' h1 ((fun _ => False) :: Fs) ⟨srose_nil w' _, hF⟩ ⟨fun G _ b hb => hb.elim, hA⟩ (fun F hF' b hb => by
    rcases List.mem_cons.1 hF' with rfl | hF'
    · exact hb.elim
    · exact hD F hF' b hb)
  refine A.srose.sslice.mono key fun b hb => ?_
  rcases hb with hb | ⟨F, hF', hb⟩
  · exact Or.inl hb
  · rcases List.mem_cons.1 hF' with rfl | hF'
    · exact hb.elim
    · exact Or.inr ⟨F, hF', hb⟩

/-- A row is taken up. -/
theorem CWand.open (h : CWand A wr D (⟨ts, .slice (some ⟨g, 0, none⟩) ts.length cap⟩ :: st) v0 Ts) (hg : ¬ D g) (hl : ts.length ≤ cap) (hm : cap ≤ maxLen) : CWand2 A t wr D st ts g 0 v0 Ts := by
  intro w' h1 h2 ⟨cur, h3⟩ Fs hF hA hD css E hc hE hEE
  have key := h w' h1 ((fun b => b = g ∨ ∃ j, j < ts.length ∧ E j b) :: Fs) ⟨?_, hF⟩ ⟨?_, hA⟩ ?_
  · refine A.srose.sslice.mono key fun b hb => ?_
    rcases hb with hb | ⟨F, hF', hb⟩
    · exact Or.inl hb
    · rcases List.mem_cons.1 hF' with rfl | hF'
      · rcases hb with hb | ⟨j, hj, hb⟩
        · exact Or.inr (Or.inl hb)
        · exact Or.inr (Or.inr (Or.inr ⟨j, Nat.zero_le _, hj, hb⟩))
      · exact Or.inr (Or.inr (Or.inl ⟨F, hF', hb⟩))
  · refine ⟨some ⟨g, 0, none⟩, cap, css, E, rfl, hl, hm, (fun h => by cases h), ⟨fun _ => ⟨g, 0, cur, _, rfl, Or.inl rfl, h3, fun i hi q => ?_, fun i hi => ?_⟩, fun i hi b hb => Or.inr ⟨i, hi, hb⟩, fun i j hi hj hne => ?_, fun i hi => ?_⟩⟩
    · exact (hE i (Nat.zero_le _) hi g q).2.1 rfl
    · have := (hc i hi (Nat.zero_le _)).1
      rw [Nat.zero_add]
      exact this
    · exact hEE i j (Nat.zero_le _) hi (Nat.zero_le _) hj hne
    · exact (hc i hi (Nat.zero_le _)).2
  · intro G hG b hb hGb
    rcases hb with rfl | ⟨j, hj, hb⟩
    · exact (hD G hG _ hGb).2 rfl
    · exact (hE j (Nat.zero_le _) hj b hb).2.2 G hG hGb
  · intro F hF' b hb
    rcases List.mem_cons.1 hF' with rfl | hF'
    · rcases hb with rfl | ⟨j, hj, hb⟩
      · exact hg
      · exact (hE j (Nat.zero_le _) hj b hb).1
    · exact (hD F hF' b hb).1

/-- An element is put; its kids' row is still to be gone through. -/
theorem CWand2.more (h : CWand2 A t wr D st ts g i v0 Ts) (hi : i < ts.length) (hb : ∀ b, D b → wr'.heap[b]? = wr.heap[b]?) (hc : ∀ q, q < i * (A.k + 1) → wr'.cell? ⟨g, q, none⟩ = wr.cell? ⟨g, q, none⟩)
    {cs : List Value} (hx : CellsAt wr' g (i * (A.k + 1)) cs) (hl : cs.length = A.k + 1) (hr : ∀ w' F, A.srose.sslice.rep w' F [k.v] k.ts → A.srose.rep w' F cs ts[i]) : CWand2 A t wr' D (k :: st) ts g (i + 1) v0 Ts := by
  intro w' h1 h2 h3 Fs hF hA hD css E hce hE hEE
  match Fs, hF, hA, hD, hE with
  | [], hF, _, _, _ => exact hF.elim
  | F :: Fs, ⟨hF0, hF⟩, ⟨hA0, hA⟩, hD, hE =>
  have hsucc : (i + 1) * (A.k + 1) = i * (A.k + 1) + (A.k + 1) := Nat.succ_mul _ _
  have hc2 : CellsAt w' g (i * (A.k + 1)) cs := fun q v hq => by
    have hql : q < A.k + 1 := by
      rcases Nat.lt_or_ge q cs.length with h' | h'
      · omega
      · rw [List.getElem?_eq_none h'] at hq; cases hq
    rw [h2 _ (by omega)]
    exact hx q v hq
  have key := h w' (fun b hD => (h1 b hD).trans (hb b hD)) (fun q hq => (h2 q (by omega)).trans (hc q hq)) h3 Fs hF hA (fun G hG => hD G (List.mem_cons_of_mem _ hG)) (fun j => if j = i then cs else css j) (fun j => if j = i then F else E j) ?_ ?_ ?_
  · refine A.srose.sslice.mono key fun b hb => ?_
    rcases hb with hb | hb | ⟨G, hG, hb⟩ | ⟨j, h4, h5, hb⟩
    · exact Or.inl hb
    · exact Or.inr (Or.inl hb)
    · exact Or.inr (Or.inr (Or.inl ⟨G, List.mem_cons_of_mem _ hG, hb⟩))
    · by_cases e : j = i
      · simp only [if_pos e] at hb
        exact Or.inr (Or.inr (Or.inl ⟨F, List.mem_cons_self, hb⟩))
      · simp only [if_neg e] at hb
        exact Or.inr (Or.inr (Or.inr ⟨j, by omega, h5, hb⟩))
  · intro j hj hij
    by_cases e : j = i
    · subst e
      simp only [if_pos]
      exact ⟨hc2, hr w' F hF0⟩
    · simp only [if_neg e]
      exact hce j hj (by omega)
  · intro j hij hj b hb
    by_cases e : j = i
    · simp only [if_pos e] at hb
      have := hD F List.mem_cons_self b hb
      exact ⟨this.1, this.2, fun G hG => hA0 G hG b hb⟩
    · simp only [if_neg e] at hb
      have := hE j (by omega) hj b hb
      exact ⟨this.1, this.2.1, fun G hG => this.2.2 G (List.mem_cons_of_mem _ hG)⟩
  · intro j l hij hj hil hl hne b hb
    by_cases e : j = i
    · simp only [if_pos e] at hb
      have e2 : l ≠ i := by omega
      simp only [if_neg e2]
      exact fun hE' => (hE l (by omega) hl b hE').2.2 F List.mem_cons_self hb
    · simp only [if_neg e] at hb
      by_cases e2 : l = i
      · simp only [if_pos e2]
        exact (hE j (by omega) hj b hb).2.2 F List.mem_cons_self
      · simp only [if_neg e2]
        exact hEE j l (by omega) hj (by omega) hl hne b hb

/-- The row is gone through. -/
theorem CWand2.done (h : CWand2 A t wr D st ts g ts.length v0 Ts) (hg : ∃ cur, wr.heap[g]? = some (.cells cur t)) : CWand A wr (fun b => D b ∨ b = g) st v0 Ts := by
  intro w' h1 Fs hF hA hD
  obtain ⟨cur, hcur⟩ := hg
  have e := h1 g (Or.inr rfl)
  have key := h w' (fun b hb => h1 b (Or.inl hb)) (fun q _ => World.cell?_of_block (w := wr) (a := ⟨g, q, none⟩) e) ⟨cur, e.trans hcur⟩ Fs hF hA (fun F hF' b hb => ⟨fun hd => hD F hF' b hb (Or.inl hd), fun e => hD F hF' b hb (Or.inr e)⟩) (fun _ => []) (fun _ _ => False) (fun j hj hij => by omega) (fun j hij hj => by omega) (fun j l hij hj => by omega)
  refine A.srose.sslice.mono key fun b hb => ?_
  rcases hb with hb | hb | hb | ⟨j, h4, h5, hb⟩
  · exact Or.inl (Or.inl hb)
  · exact Or.inl (Or.inr hb)
  · exact Or.inr hb
  · exact hb.elim

/-- At first there is one row, and that is the whole. -/
theorem CWand.first (wr : World) (k : CT α) : CWand A wr (fun _ => False) [k] k.v k.ts := by
  intro w' _ Fs hF hA hD
  match Fs, hF with
  | [F], ⟨hF, _⟩ => exact A.srose.sslice.mono hF fun b hb => Or.inr ⟨F, List.mem_singleton.2 rfl, hb⟩
/-- At the end the whole is there. -/
theorem CWand.last (h : CWand A wr D [] v0 Ts) : A.srose.sslice.rep wr D [v0] Ts :=
  A.srose.sslice.mono (h wr (fun _ _ => rfl) [] trivial trivial (fun F hF => by cases hF)) fun b hb => by
    rcases hb with hb | ⟨F, hF, _⟩
    · exact hb
    · cases hF
end

/-! ### How many nodes -/

section
variable {α : Type}
mutual
def rn : Rose α → Nat
  | .mk _ ks => 1 + rns ks
def rns : List (Rose α) → Nat
  | [] => 0
  | k :: ks => rn k + rns ks
end
def cnodes : List (CT α) → Nat
  | [] => 0
  | k :: st => rns k.ts + cnodes st
theorem rns_len (l : List (Rose α)) : l.length ≤ rns l := by
  induction l with
  | nil => simp [rns]
  | cons a l ih =>
    obtain ⟨x, ks⟩ := a
    simp only [rns, rn, List.length_cons]
    omega
theorem rns_drop {ts : List (Rose α)} {i : Nat} (h : i < ts.length) : rns (ts.drop i) = 1 + rns ts[i].kids + rns (ts.drop (i + 1)) := by
  rw [List.drop_eq_getElem_cons h, rns]
  generalize ts[i] = t
  obtain ⟨x, ks⟩ := t
  simp [rn, Rose.kids]
theorem rns_mem {ts : List (Rose α)} {i : Nat} (h : i < ts.length) : rns ts[i].kids ≤ rns (ts.drop i) := by rw [rns_drop h]; omega
end

end Go.Proofs.Ytdfpihnddclccaa.rose
