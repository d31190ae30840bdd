/-
  What the program's Erase has made so far: whatever the rows that are still to be filled will hold, the whole is the tree without types once they hold what belongs there.
-/
import Derived.Test.YtklcjjckelahcaaEraseSpec
import Derived.Test.YtklcjjckelahcaaSep2
namespace Go.Proofs.Ytklcjjckelahcaa.typed
open Go.RowKit Go.Proofs.Ytklcjjckelahcaa.rose Go.Proofs.Ytklcjjckelahcaa
set_option linter.unusedVariables false

/-- A row that is to be filled: the trees that belong there, the row's block, and where the trees lie. -/
structure Tk where
  ts : List TypedD
  g : Nat
  vf : Value

def Tk.to (k : Tk) : Value := .slice (some ⟨k.g, 0, none⟩) k.ts.length k.ts.length
def Tk.cells (k : Tk) : List Value := [k.vf, k.to]

/-- It is filled, with blocks of F. -/
def Fd (w : World) (F : Nat → Prop) (k : Tk) : Prop := node.ndSp.sslice.rep w F [k.to] (ers k.ts)

def Fill (w : World) : List Tk → List (Nat → Prop) → Prop
  | [], [] => True
  | k :: st, F :: Fs => Fd w F k ∧ Fill w st Fs
  | _, _ => False

def Apart : List (Nat → Prop) → Prop
  | [] => True
  | F :: Fs => (∀ G ∈ Fs, ∀ b, F b → ¬ G b) ∧ Apart Fs

/-- The whole, once all rows of st are filled: D's blocks are done. -/
def Wand (wr : World) (D : Nat → Prop) (st : List Tk) (g0 : Nat) (T : TypedD) : Prop :=
  ∀ w', (∀ b, D b → w'.heap[b]? = wr.heap[b]?) → ∀ Fs, Fill w' st Fs → Apart Fs → (∀ F ∈ Fs, ∀ b, F b → ¬ D b) →
    node.ndSp.sslice.rep w' (fun b => D b ∨ ∃ F ∈ Fs, F b) [.slice (some ⟨g0, 0, none⟩) 1 1] [er T]

/-- .. with the elements of one more row from i on. -/
def Wand2 (wr : World) (D : Nat → Prop) (st : List Tk) (ts : List TypedD) (g i : Nat) (g0 : Nat) (T : TypedD) : Prop :=
  ∀ w', (∀ b, D b → w'.heap[b]? = wr.heap[b]?) → (∀ q, q < i * 5 → w'.cell? ⟨g, q, none⟩ = wr.cell? ⟨g, q, none⟩) → (∃ cur, w'.heap[g]? = some (.cells cur 32)) →
    ∀ Fs, Fill w' st Fs → Apart Fs → (∀ F ∈ Fs, ∀ b, F b → ¬ D b ∧ b ≠ g) →
    ∀ (css : Nat → List Value) (E : Nat → Nat → Prop), (∀ j (h : j < ts.length), i ≤ j → CellsAt w' g (j * 5) (css j) ∧ node.ndSp.rep w' (E j) (css j) (er ts[j])) →
      (∀ j, i ≤ j → j < ts.length → ∀ b, E j b → ¬ D b ∧ b ≠ g ∧ ∀ F ∈ Fs, ¬ F b) → (∀ j l, i ≤ j → j < ts.length → i ≤ l → l < ts.length → j ≠ l → ∀ b, E j b → ¬ E l b) →
    node.ndSp.sslice.rep w' (fun b => D b ∨ b = g ∨ (∃ F ∈ Fs, F b) ∨ ∃ j, i ≤ j ∧ j < ts.length ∧ E j b) [.slice (some ⟨g0, 0, none⟩) 1 1] [er T]

theorem Wand.on {wr wr' : World} {D : Nat → Prop} {st : List Tk} {g0 : Nat} {T : TypedD} (h : Wand wr D st g0 T) (hb : ∀ b, D b → wr'.heap[b]? = wr.heap[b]?) : Wand wr' D st g0 T :=
  fun w' h1 => h w' fun b hD => (h1 b hD).trans (hb b hD)
theorem Wand2.on {wr wr' : World} {D : Nat → Prop} {st : List Tk} {ts : List TypedD} {g i g0 : Nat} {T : TypedD} (h : Wand2 wr D st ts g i g0 T) (hb : ∀ b, D b → wr'.heap[b]? = wr.heap[b]?) (hc : ∀ q, q < i * 5 → wr'.cell? ⟨g, q, none⟩ = wr.cell? ⟨g, q, none⟩) : Wand2 wr' D st ts g i g0 T :=
  fun w' h1 h2 => h w' (fun b hD => (h1 b hD).trans (hb b hD)) (fun q hq => (h2 q hq).trans (hc q hq))

/-- A row is taken up. -/
theorem Wand.open {wr : World} {D : Nat → Prop} {st : List Tk} {ts : List TypedD} {g : Nat} {vf : Value} {g0 : Nat} {T : TypedD} (h : Wand wr D (⟨ts, g, vf⟩ :: st) g0 T) (hg : ¬ D g) (hl : ts.length ≤ maxLen) (h0 : 0 < ts.length) : Wand2 wr D st ts g 0 g0 T := by
  intro w' h1 h2 ⟨cur, h3⟩ Fs hF hA hD css E hc hE hEE
  have key := h w' h1 ((fun b => b = g ∨ ∃ j, j < ts.length ∧ E j b) :: Fs) ⟨?_, hF⟩ ⟨?_, hA⟩ ?_
  · refine node.ndSp.sslice.mono key fun b hb => ?_
    rcases hb with hb | ⟨F, hF', hb⟩
    · exact Or.inl hb
    · rcases List.mem_cons.1 hF' with rfl | hF'
      · rcases hb with hb | ⟨j, hj, hb⟩
        · exact Or.inr (Or.inl hb)
        · exact Or.inr (Or.inr (Or.inr ⟨j, Nat.zero_le _, hj, hb⟩))
      · exact Or.inr (Or.inr (Or.inl ⟨F, hF', hb⟩))
  · refine ⟨some ⟨g, 0, none⟩, ts.length, css, E, by rw [ers_length]; rfl, by rw [ers_length]; exact Nat.le_refl _, hl, (fun h => by cases h), ⟨fun _ => ⟨g, 0, cur, _, rfl, Or.inl rfl, h3, fun i hi q => ?_, fun i hi => ?_⟩, fun i hi b hb => Or.inr ⟨i, by rw [ers_length] at hi; exact hi, hb⟩, fun i j hi hj hne => ?_, fun i hi => ?_⟩⟩
    · rw [ers_length] at hi
      exact (hE i (Nat.zero_le _) hi g q).2.1 rfl
    · rw [ers_length] at hi
      have := (hc i hi (Nat.zero_le _)).1
      rw [Nat.zero_add]
      exact this
    · rw [ers_length] at hi hj
      exact hEE i j (Nat.zero_le _) hi (Nat.zero_le _) hj hne
    · have hi' : i < ts.length := by rw [ers_length] at hi; exact hi
      have := (hc i hi' (Nat.zero_le _)).2
      have e : (ers ts)[i] = er ts[i] := by simp [ers_map]
      rw [e]
      exact this
  · intro G hG b hb hGb
    rcases hb with rfl | ⟨j, hj, hb⟩
    · exact (hD G hG _ hGb).2 rfl
    · exact (hE j (Nat.zero_le _) hj b hb).2.2 G hG hGb
  · intro F hF' b hb
    rcases List.mem_cons.1 hF' with rfl | hF'
    · rcases hb with rfl | ⟨j, hj, hb⟩
      · exact hg
      · exact (hE j (Nat.zero_le _) hj b hb).1
    · exact (hD F hF' b hb).1

/-- An element without kids. -/
theorem Wand2.leaf {wr wr' : World} {D : Nat → Prop} {st : List Tk} {ts : List TypedD} {g i g0 : Nat} {T : TypedD} (h : Wand2 wr D st ts g i g0 T) (hi : i < ts.length) (hb : ∀ b, D b → wr'.heap[b]? = wr.heap[b]?) (hc : ∀ q, q < i * 5 → wr'.cell? ⟨g, q, none⟩ = wr.cell? ⟨g, q, none⟩)
    {cs : List Value} (hx : CellsAt wr' g (i * 5) cs) (hl : cs.length = 5) (hr : ∀ w', node.ndSp.rep w' (fun _ => False) cs (er ts[i])) : Wand2 wr' D st ts g (i + 1) g0 T := by
  intro w' h1 h2 h3 Fs hF hA hD css E hce hE hEE
  have hc2 : CellsAt w' g (i * 5) cs := fun q v hq => by
    have hql : q < 5 := by
      rcases Nat.lt_or_ge q cs.length with h' | h'
      · omega
      · rw [List.getElem?_eq_none h'] at hq; cases hq
    rw [h2 _ (by omega)]
    exact hx q v hq
  have key := h w' (fun b hD => (h1 b hD).trans (hb b hD)) (fun q hq => (h2 q (by omega)).trans (hc q hq)) h3 Fs hF hA hD (fun j => if j = i then cs else css j) (fun j => if j = i then (fun _ => False) else E j) ?_ ?_ ?_
  · refine node.ndSp.sslice.mono key fun b hb => ?_
    rcases hb with hb | hb | hb | ⟨j, h4, h5, hb⟩
    · exact Or.inl hb
    · exact Or.inr (Or.inl hb)
    · exact Or.inr (Or.inr (Or.inl hb))
    · by_cases e : j = i
      · simp only [if_pos e] at hb
      · simp only [if_neg e] at hb
        exact Or.inr (Or.inr (Or.inr ⟨j, by omega, h5, hb⟩))
  · intro j hj hij
    by_cases e : j = i
    · subst e
      simp only [if_pos]
      exact ⟨hc2, hr w'⟩
    · simp only [if_neg e]
      exact hce j hj (by omega)
  · intro j hij hj b hb
    by_cases e : j = i
    · simp only [if_pos e] at hb
    · simp only [if_neg e] at hb
      exact hE j (by omega) hj b hb
  · intro j l hij hj hil hl hne b hb
    by_cases e : j = i
    · simp only [if_pos e] at hb
    · by_cases e2 : l = i
      · simp only [if_pos e2]; exact fun h => h
      · simp only [if_neg e] at hb
        simp only [if_neg e2]
        exact hEE j l (by omega) hj (by omega) hl hne b hb

/-- An element with kids: their row is to be filled. -/
theorem Wand2.more {wr wr' : World} {D : Nat → Prop} {st : List Tk} {ts : List TypedD} {g i g0 : Nat} {T : TypedD} {k : Tk} (h : Wand2 wr D st ts g i g0 T) (hi : i < ts.length) (hb : ∀ b, D b → wr'.heap[b]? = wr.heap[b]?) (hc : ∀ q, q < i * 5 → wr'.cell? ⟨g, q, none⟩ = wr.cell? ⟨g, q, none⟩)
    {cs : List Value} (hx : CellsAt wr' g (i * 5) cs) (hl : cs.length = 5) (hr : ∀ w' F, Fd w' F k → node.ndSp.rep w' F cs (er ts[i])) : Wand2 wr' D (k :: st) ts g (i + 1) g0 T := by
  intro w' h1 h2 h3 Fs hF hA hD css E hce hE hEE
  match Fs, hF, hA, hD, hE with
  | [], hF, _, _, _ => exact hF.elim
  | F :: Fs, ⟨hF0, hF⟩, ⟨hA0, hA⟩, hD, hE =>
  have hc2 : CellsAt w' g (i * 5) cs := fun q v hq => by
    have hql : q < 5 := by
      rcases Nat.lt_or_ge q cs.length with h' | h'
      · omega
      · rw [List.getElem?_eq_none h'] at hq; cases hq
    rw [h2 _ (by omega)]
    exact hx q v hq
  have key := h w' (fun b hD => (h1 b hD).trans (hb b hD)) (fun q hq => (h2 q (by omega)).trans (hc q hq)) h3 Fs hF hA (fun G hG => hD G (List.mem_cons_of_mem _ hG)) (fun j => if j = i then cs else css j) (fun j => if j = i then F else E j) ?_ ?_ ?_
  · refine node.ndSp.sslice.mono key fun b hb => ?_
    rcases hb with hb | hb | ⟨G, hG, hb⟩ | ⟨j, h4, h5, hb⟩
    · exact Or.inl hb
    · exact Or.inr (Or.inl hb)
    · exact Or.inr (Or.inr (Or.inl ⟨G, List.mem_cons_of_mem _ hG, hb⟩))
    · by_cases e : j = i
      · simp only [if_pos e] at hb
        exact Or.inr (Or.inr (Or.inl ⟨F, List.mem_cons_self, hb⟩))
      · simp only [if_neg e] at hb
        exact Or.inr (Or.inr (Or.inr ⟨j, by omega, h5, hb⟩))
  · intro j hj hij
    by_cases e : j = i
    · subst e
      simp only [if_pos]
      exact ⟨hc2, hr w' F hF0⟩
    · simp only [if_neg e]
      exact hce j hj (by omega)
  · intro j hij hj b hb
    by_cases e : j = i
    · simp only [if_pos e] at hb
      have := hD F List.mem_cons_self b hb
      exact ⟨this.1, this.2, fun G hG => hA0 G hG b hb⟩
    · simp only [if_neg e] at hb
      have := hE j (by omega) hj b hb
      exact ⟨this.1, this.2.1, fun G hG => this.2.2 G (List.mem_cons_of_mem _ hG)⟩
  · intro j l hij hj hil hl hne b hb
    by_cases e : j = i
    · simp only [if_pos e] at hb
      have e2 : l ≠ i := by omega
      simp only [if_neg e2]
      exact fun hE' => (hE l (by omega) hl b hE').2.2 F List.mem_cons_self hb
    · simp only [if_neg e] at hb
      by_cases e2 : l = i
      · simp only [if_pos e2]
        exact (hE j (by omega) hj b hb).2.2 F List.mem_cons_self
      · simp only [if_neg e2]
        exact hEE j l (by omega) hj (by omega) hl hne b hb

/-- The row is filled. -/
theorem Wand2.done {wr : World} {D : Nat → Prop} {st : List Tk} {ts : List TypedD} {g g0 : Nat} {T : TypedD} (h : Wand2 wr D st ts g ts.length g0 T) (hg : ∃ cur, wr.heap[g]? = some (.cells cur 32)) : Wand wr (fun b => D b ∨ b = g) st g0 T := by
  intro w' h1 Fs hF hA hD
  obtain ⟨cur, hcur⟩ := hg
  have e := h1 g (Or.inr rfl)
  have key := h w' (fun b hb => h1 b (Or.inl hb)) (fun q _ => World.cell?_of_block (w := wr) (a := ⟨g, q, none⟩) e) ⟨cur, e.trans hcur⟩ Fs hF hA (fun F hF' b hb => ⟨fun hd => hD F hF' b hb (Or.inl hd), fun e => hD F hF' b hb (Or.inr e)⟩) (fun _ => []) (fun _ _ => False) (fun j hj hij => by omega) (fun j hij hj => by omega) (fun j l hij hj => by omega)
  refine node.ndSp.sslice.mono key fun b hb => ?_
  rcases hb with hb | hb | hb | ⟨j, h4, h5, hb⟩
  · exact Or.inl (Or.inl hb)
  · exact Or.inl (Or.inr hb)
  · exact Or.inr hb
  · exact hb.elim

/-- At first there is one row to be filled, and that is the whole. -/
theorem Wand.first (wr : World) (T : TypedD) (g0 : Nat) (vf : Value) : Wand wr (fun _ => False) [⟨[T], g0, vf⟩] g0 T := by
  intro w' _ Fs hF hA hD
  match Fs, hF with
  | [F], ⟨hF, _⟩ =>
    have : node.ndSp.sslice.rep w' F [.slice (some ⟨g0, 0, none⟩) 1 1] [er T] := by
      have := hF
      simpa [Fd, Tk.to, ers] using this
    exact node.ndSp.sslice.mono this fun b hb => Or.inr ⟨F, List.mem_singleton.2 rfl, hb⟩
/-- At the end the whole is there. -/
theorem Wand.last {wr : World} {D : Nat → Prop} {g0 : Nat} {T : TypedD} (h : Wand wr D [] g0 T) : node.ndSp.sslice.rep wr D [.slice (some ⟨g0, 0, none⟩) 1 1] [er T] :=
  node.ndSp.sslice.mono (h wr (fun _ _ => rfl) [] trivial trivial (fun F hF => by cases hF)) fun b hb => by
    rcases hb with hb | ⟨F, hF, _⟩
    · exact hb
    · cases hF

end Go.Proofs.Ytklcjjckelahcaa.typed
