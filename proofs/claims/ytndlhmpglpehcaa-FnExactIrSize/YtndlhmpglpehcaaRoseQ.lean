/-
  New memory that nothing froze: blocks that are rows of cells; a row that a loop fills with elements that lie in such blocks.
-/
import Derived.Test.YtndlhmpglpehcaaRose
namespace Go.Proofs.Ytndlhmpglpehcaa.rose
open Go.RowKit Go.Deep Go.ChangeShapes Go.WideShapes
set_option linter.unusedVariables false

/-- A block is a row of cells that nothing froze. -/
def Plain (w : World) (b : Nat) : Prop := ∃ cs t, w.heap[b]? = some (.cells cs t)
/-- The blocks from n on, all such. -/
def New (n : Nat) (w : World) (b : Nat) : Prop := n ≤ b ∧ b < w.heap.size ∧ Plain w b

theorem Plain.on {w w' : World} {b : Nat} (h : Plain w b) (hb : w'.heap[b]? = w.heap[b]?) : Plain w' b := by
  obtain ⟨cs, t, h⟩ := h
  exact ⟨cs, t, hb.trans h⟩

structure FillingQ {α : Type} (A : Sh α) (t : TypeId) (w : World) (g n i : Nat) (xs : List α) : Prop where
  blk : ∃ cur, w.heap[g]? = some (.cells cur t) ∧ cur.size = n * A.k
  laid : ∃ css : Nat → List Value, ∀ j (h : j < xs.length), j < i → CellsAt w g (0 + j * A.k) (css j) ∧ A.rep w (New (g + 1) w) (css j) xs[j]

theorem FillingQ.start {α : Type} {A : Sh α} {t : TypeId} {w : World} {z : Array Value} {n : Nat} {xs : List α} : FillingQ A t (w.alloc (.cells (madeCells z (n * A.k)) t)) w.heap.size n 0 xs :=
  ⟨⟨madeCells z (n * A.k), by show (w.heap.push _)[w.heap.size]? = _; simp, size_madeCells _ _⟩, fun _ => [], fun j _ hj => absurd hj (Nat.not_lt_zero _)⟩

theorem FillingQ.store {α : Type} {A : Sh α} {t : TypeId} {P : Program} {w w1 : World} {g n i : Nat} {xs : List α} (h : FillingQ A t w g n i xs) (hb : Below w.heap.size w w1) (hg : g < w.heap.size) (hi : i < n) {cs : List Value} (hl : cs.length = A.k) (h1 : ∀ v ∈ cs, v.oneCell' = true) :
    Sem.run P (storeCells ⟨g, i * A.k, none⟩ cs) w1 = .ok () (w1.setCells g (i * A.k) cs) := by
  obtain ⟨cur, hc, hs⟩ := h.blk
  rw [← hb.block g hg] at hc
  have hle : i * A.k + A.k ≤ n * A.k := by rw [← Nat.succ_mul]; exact Nat.mul_le_mul_right _ hi
  have := run_storeCells_cells (P := P) g (i * A.k) cs 0 w1 (fun j hj => by simp [World.cell?, hc]; omega) (fun j hj => by simp [World.frozen?, hc]) h1
  simpa using this

theorem FillingQ.step {α : Type} {A : Sh α} {t : TypeId} {w w1 : World} {g n i : Nat} {xs : List α} (h : FillingQ A t w g n i xs) (hb : Below w.heap.size w w1) (hg : g < w.heap.size) (hi : i < n) (hx : i < xs.length) {cs : List Value}
    (hr : A.rep w1 (New w.heap.size w1) cs xs[i]) : FillingQ A t (w1.setCells g (i * A.k) cs) g n (i + 1) xs := by
  obtain ⟨cur, hc, hs⟩ := h.blk
  rw [← hb.block g hg] at hc
  have hl := A.len hr
  have hle : i * A.k + A.k ≤ n * A.k := by rw [← Nat.succ_mul]; exact Nat.mul_le_mul_right _ hi
  obtain ⟨css, hcss⟩ := h.laid
  refine ⟨?_, fun j => if j = i then cs else css j, fun j hj hji => ?_⟩
  · obtain ⟨c, h1, h2⟩ := setCells_block g cs (i * A.k) w1 cur hc
    exact ⟨c, h1, by rw [h2, hs]⟩
  · by_cases he : j = i
    · subst he
      simp only [if_pos]
      refine ⟨fun q v hq => ?_, ?_⟩
      · have hql : q < cs.length := by
          rcases Nat.lt_or_ge q cs.length with h' | h'
          · exact h'
          · rw [List.getElem?_eq_none h'] at hq; cases hq
        have := World.cell?_setCells_in g cs (j * A.k) w1 (fun q' hq' => by simp [World.cell?, hc]; omega) q hql
        rw [Nat.zero_add, this]
        rw [List.getElem?_eq_getElem hql] at hq
        exact hq
      · refine A.mono (A.on hr fun b hS => setCells_other g (by have := hS.1; omega) _ _ _) fun b hS => ?_
        have h1 := hS.1
        exact ⟨by omega, by rw [setCells_size]; exact hS.2.1, hS.2.2.on (setCells_other g (by omega) _ _ _)⟩
    · simp only [if_neg he]
      obtain ⟨h1, h2⟩ := hcss j hj (by omega)
      have hjk : j * A.k + A.k ≤ i * A.k := by rw [← Nat.succ_mul]; exact Nat.mul_le_mul_right _ (by omega)
      refine ⟨fun q v hq => ?_, ?_⟩
      · have hql : q < A.k := by
          rcases Nat.lt_or_ge q A.k with h' | h'
          · exact h'
          · rw [List.getElem?_eq_none (by rw [A.len h2]; exact h')] at hq; cases hq
        rw [World.cell?_setCells_out g cs (i * A.k) w1 _ (fun _ _ => Or.inl (by simp; omega)), World.cell?_of_block (w := w) (a := ⟨g, 0 + j * A.k + q, none⟩) (hb.block g hg)]
        exact h1 q v hq
      · refine A.mono (A.on (A.on h2 fun b hS => hb.block b hS.2.1) fun b hS => setCells_other g (by have := hS.1; omega) _ _ _) fun b hS => ?_
        have h1 := hS.1
        exact ⟨h1, by rw [setCells_size]; exact Nat.lt_of_lt_of_le hS.2.1 hb.size, (hS.2.2.on (hb.block b hS.2.1)).on (setCells_other g (by omega) _ _ _)⟩

theorem FillingQ.done {α : Type} {A : Sh α} {t : TypeId} {w : World} {g : Nat} {xs : List α} (h : FillingQ A t w g xs.length xs.length xs) (hg : g < w.heap.size) (hm : xs.length ≤ maxLen) : A.slice.rep w (New g w) [.slice (some ⟨g, 0, none⟩) xs.length xs.length] xs := by
  obtain ⟨css, hcss⟩ := h.laid
  obtain ⟨cur, hc, -⟩ := h.blk
  exact ⟨_, _, css, rfl, Nat.le_refl _, hm, (fun h => by cases h), fun i hi => ⟨g, 0, rfl, ⟨Nat.le_refl _, hg, cur, t, hc⟩, (hcss i hi hi).1⟩, fun i hi => A.mono (hcss i hi hi).2 fun b hS => ⟨by have := hS.1; omega, hS.2⟩⟩

end Go.Proofs.Ytndlhmpglpehcaa.rose
