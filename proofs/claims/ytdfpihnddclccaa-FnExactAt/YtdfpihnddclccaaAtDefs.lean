/-
  What is at a path of a value, as it lies in memory.
-/
import Derived.Test.YtdfpihnddclccaaValueSp
import Derived.Test.YtdfpihnddclccaaIntsMk
namespace Go.Proofs.Ytdfpihnddclccaa.value
open Go.RowKit Go.Proofs.Ytdfpihnddclccaa.rose Go.Proofs.Ytdfpihnddclccaa
set_option linter.unusedVariables false

/-- The part at a path; none where it leads nowhere. -/
def atV : List Int → ValueD → Option ValueD
  | [], T => some T
  | i :: p, T => if h : 0 ≤ i ∧ i.toNat < T.kids.length then atV p T.kids[i.toNat] else none
def zeroV : ValueD := .mk (0, 0, ⟨#[]⟩) []
def atD (p : List Int) (T : ValueD) : ValueD × Bool := match atV p T with
  | some T' => (T', true)
  | none => (zeroV, false)

theorem atD_nil (T : ValueD) : atD [] T = (T, true) := rfl
theorem atD_low {i : Int} {p : List Int} {T : ValueD} (h : i < 0) : atD (i :: p) T = (zeroV, false) := by
  have : ¬ (0 ≤ i ∧ i.toNat < T.kids.length) := by omega
  simp [atD, atV, this]
theorem atD_high {i : Int} {p : List Int} {T : ValueD} (h : (T.kids.length : Int) ≤ i) : atD (i :: p) T = (zeroV, false) := by
  have : ¬ (0 ≤ i ∧ i.toNat < T.kids.length) := by omega
  simp [atD, atV, this]
theorem atD_in {q : Nat} {p : List Int} {T : ValueD} (h : q < T.kids.length) : atD ((q : Int) :: p) T = atD p T.kids[q] := by
  simp [atD, atV, h]
theorem wt_kid {T : ValueD} {q : Nat} (h : q < T.kids.length) : wt T.kids[q] ≤ wt T := by
  obtain ⟨⟨x0, x1, x2⟩, ks⟩ := T
  have := wt_mem (List.getElem_mem (l := ks) (n := q) h)
  simp only [Rose.kids, wt] at this ⊢
  omega
theorem wt_at (p : List Int) (T : ValueD) : wt (atD p T).1 ≤ wt T := by
  induction p generalizing T with
  | nil => exact Nat.le_refl _
  | cons i p ih =>
    by_cases h : 0 ≤ i ∧ i.toNat < T.kids.length
    · obtain ⟨q, rfl⟩ : ∃ q : Nat, i = q := ⟨i.toNat, by omega⟩
      rw [atD_in (by simpa using h.2)]
      exact Nat.le_trans (ih _) (wt_kid (by simpa using h.2))
    · have : (atD (i :: p) T).1 = zeroV := by simp [atD, atV, h]
      rw [this]
      exact Nat.zero_le _

theorem zero_rep (w : World) (S : Nat → Prop) : valueSp.rep w S [.int .i64 0, .int .i64 0, .string ⟨#[]⟩, .slice none 0 0] zeroV :=
  valuep_shutv (by omega) (by omega) (by simp [ByteArray.size]) ⟨none, 0, fun _ => [], fun _ _ => False, rfl, Nat.le_refl _, Nat.zero_le _, fun _ => rfl, fun h => absurd h (Nat.lt_irrefl _), fun i hi => absurd hi (Nat.not_lt_zero _), fun i j hi => absurd hi (Nat.not_lt_zero _), fun i hi => absurd hi (Nat.not_lt_zero _)⟩

/-- Where a walk down a path stands: the box holds the part that was come to. -/
structure AtS (w wr : World) (ks : List Int) (T : ValueD) (i : Nat) (T' : ValueD) (cs : List Value) : Prop where
  bel : Below w.heap.size w wr
  box : wr.heap[w.heap.size]? = some (.cells cs.toArray 29)
  res : wr.heap[w.heap.size + 1]? = some (.cells #[.int .i64 0, .int .i64 0, .string ⟨#[]⟩, .slice none 0 0] 29)
  rep : valueSh.rep w (· < w.heap.size) cs T'
  step : atD (ks.drop i) T' = atD ks T
  wt : wt T' ≤ 1048576

theorem AtS.drew {w wr : World} {ks : List Int} {T : ValueD} {i : Nat} {T' : ValueD} {cs : List Value} (h : AtS w wr ks T i T' cs) : AtS w wr.drew ks T i T' cs := ⟨h.bel.drew, h.box, h.res, h.rep, h.step, h.wt⟩

theorem set4_blk {wr : World} {b : Nat} {t : TypeId} {p0 p1 p2 p3 n0 n1 n2 n3 : Value} (h : wr.heap[b]? = some (.cells #[p0, p1, p2, p3] t)) :
    ((((wr.setCell ⟨b, 0, none⟩ n0).setCell ⟨b, 1, none⟩ n1).setCell ⟨b, 2, none⟩ n2).setCell ⟨b, 3, none⟩ n3).heap[b]? = some (.cells #[n0, n1, n2, n3] t) := by
  simp [World.setCell, Array.getElem?_modify, h]

/-- One step down. -/
theorem AtS.next {w wr wr' : World} {ks : List Int} {T : ValueD} {i q : Nat} {T' : ValueD} {cs cs' : List Value} (h : AtS w wr ks T i T' cs) (hi : i < ks.length) (hq : ks[i] = (q : Int)) (hk : q < T'.kids.length) (hr : valueSh.rep w (· < w.heap.size) cs' T'.kids[q])
    (hb : Below w.heap.size w wr') (hx : wr'.heap[w.heap.size]? = some (.cells cs'.toArray 29)) (hs : wr'.heap[w.heap.size + 1]? = wr.heap[w.heap.size + 1]?) : AtS w wr' ks T (i + 1) T'.kids[q] cs' := by
  refine ⟨hb, hx, hs.trans h.res, hr, ?_, Nat.le_trans (wt_kid hk) h.wt⟩
  have := h.step
  rw [List.drop_eq_getElem_cons hi, hq, atD_in hk] at this
  exact this

end Go.Proofs.Ytdfpihnddclccaa.value
