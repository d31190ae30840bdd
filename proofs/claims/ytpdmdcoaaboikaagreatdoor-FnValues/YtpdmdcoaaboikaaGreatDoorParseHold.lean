/-
  What a parsing function of the model holds while it goes on: its answer's block, trees in blocks of their own; a node of three kids.
-/
import Derived.Test.YtpdmdcoaaboikaaGreatDoorParseLet
namespace Go.Proofs.YtpdmdcoaaboikaaGreatDoor.tok
open Go Go.RowKit Go.Deep Go.Proofs.YtpdmdcoaaboikaaGreatDoor.rose Go.Proofs.YtpdmdcoaaboikaaGreatDoor
set_option linter.unusedVariables false
set_option linter.unusedSimpArgs false

/-- Where a parsing function stands: its answer's block is new and empty. -/
structure Cx (E : Env) (w wr : World) (at' : Nat) (bad' : Int) : Prop where
  st : St E wr at' bad'
  gr : w.grownBy wr (some E.cb)
  res : wr.heap[w.heap.size]? = some (.cells #[.int .i64 0, .int .i64 0, .string ⟨#[]⟩, .string ⟨#[]⟩, .slice none 0 0] 36)
  cb : E.cb < w.heap.size

section
variable {E : Env} {w wr w2 : World} {at' at2 : Nat} {bad' bad2 : Int}
theorem Cx.lt (h : Cx E w wr at' bad') : w.heap.size < wr.heap.size := (Array.getElem?_eq_some_iff.1 h.res).1
theorem Cx.by (h : Cx E w wr at' bad') (hg : wr.grownBy w2 (some E.cb)) (hs : St E w2 at2 bad2) : Cx E w w2 at2 bad2 := ⟨hs, grown_by_by h.gr hg, res_on h.res hg h.cb, h.cb⟩
theorem Cx.on (h : Cx E w wr at' bad') (hb : Below wr.heap.size wr w2) : Cx E w w2 at' bad' := h.by (grown_none _ hb) (h.st.on hb)
theorem Cx.start (h : St E w at' bad') (hw : w2 = w.alloc (.cells #[.int .i64 0, .int .i64 0, .string ⟨#[]⟩, .string ⟨#[]⟩, .slice none 0 0] 36)) : Cx E w w2 at' bad' := by
  have b0 : Below w.heap.size w w2 := by rw [hw]; exact (Below.refl _ _).alloc (Nat.le_refl _) _
  exact ⟨h.on b0, grown_none _ b0, by rw [hw]; exact alloc_top _ _, h.cblt⟩
end

/-- A tree in a block of its own, all of it from block lo on. -/
structure Hd (wr : World) (lo nb : Nat) (cs : List Value) (T : node.Nd) : Prop where
  blk : wr.heap[nb]? = some (.cells cs.toArray 36)
  le : lo ≤ nb
  rep : node.ndSh.rep wr (fun b => lo ≤ b ∧ b < wr.heap.size) cs T

section
variable {wr w2 : World} {lo nb c : Nat} {cs : List Value} {T : node.Nd}
theorem Hd.lt (h : Hd wr lo nb cs T) : nb < wr.heap.size := (Array.getElem?_eq_some_iff.1 h.blk).1
theorem Hd.by (h : Hd wr lo nb cs T) (hg : wr.grownBy w2 (some c)) (hc : c < lo) : Hd w2 lo nb cs T := by
  have := h.le
  exact ⟨(hg.block _ h.lt fun e => by simp only [Option.some.injEq] at e; omega).trans h.blk, h.le, node.ndSh.mono (node.ndSh.on h.rep fun b hS => hg.block b hS.2 fun e => by simp only [Option.some.injEq] at e; omega) fun b hS => ⟨hS.1, Nat.lt_of_lt_of_le hS.2 hg.size⟩⟩
theorem Hd.on (h : Hd wr lo nb cs T) (hb : Below wr.heap.size wr w2) : Hd w2 lo nb cs T :=
  ⟨(hb.block _ h.lt).trans h.blk, h.le, node.ndSh.mono (node.ndSh.on h.rep fun b hS => hb.block b hS.2) fun b hS => ⟨hS.1, Nat.lt_of_lt_of_le hS.2 hb.size⟩⟩
theorem Hd.new (hr : node.ndSh.rep wr (fun b => lo ≤ b ∧ b < wr.heap.size) cs T) (hl : lo ≤ wr.heap.size) (hw : w2 = wr.alloc (.cells cs.toArray 36)) : Hd w2 lo wr.heap.size cs T := by
  have b2 : Below wr.heap.size wr w2 := by rw [hw]; exact (Below.refl _ _).alloc (Nat.le_refl _) _
  exact ⟨by rw [hw]; exact alloc_top _ _, hl, node.ndSh.mono (node.ndSh.on hr fun b hS => b2.block b hS.2) fun b hS => ⟨hS.1, Nat.lt_of_lt_of_le hS.2 b2.size⟩⟩
end

theorem three_rep {W : World} {S : Nat → Prop} {q : Nat} {t : TypeId} {a0 a1 a2 a3 a4 b0 b1 b2 b3 b4 c0 c1 c2 c3 c4 : Value} {T T2 T3 : node.Nd} (hb : W.heap[q]? = some (.cells #[a0, a1, a2, a3, a4, b0, b1, b2, b3, b4, c0, c1, c2, c3, c4] t)) (hq : S q)
    (h1 : node.ndSh.rep W S [a0, a1, a2, a3, a4] T) (h2 : node.ndSh.rep W S [b0, b1, b2, b3, b4] T2) (h3 : node.ndSh.rep W S [c0, c1, c2, c3, c4] T3) : node.ndSh.slice.rep W S [.slice (some ⟨q, 0, none⟩) [T, T2, T3].length 3] [T, T2, T3] := by
  refine ⟨some ⟨q, 0, none⟩, 3, fun i => if i = 0 then [a0, a1, a2, a3, a4] else if i = 1 then [b0, b1, b2, b3, b4] else [c0, c1, c2, c3, c4], rfl, Nat.le_refl _, by decide, (fun h => by cases h), fun i hi => ⟨q, 0, rfl, hq, fun j u hj => ?_⟩, fun i hi => ?_⟩
  · match i, hi with
    | 0, _ =>
      match j, hj with
      | 0, hj | 1, hj | 2, hj | 3, hj | 4, hj => cases hj; simp [World.cell?, hb]
    | 1, _ =>
      match j, hj with
      | 0, hj => cases hj; show W.cell? ⟨q, 5, none⟩ = _; simp [World.cell?, hb]
      | 1, hj => cases hj; show W.cell? ⟨q, 6, none⟩ = _; simp [World.cell?, hb]
      | 2, hj => cases hj; show W.cell? ⟨q, 7, none⟩ = _; simp [World.cell?, hb]
      | 3, hj => cases hj; show W.cell? ⟨q, 8, none⟩ = _; simp [World.cell?, hb]
      | 4, hj => cases hj; show W.cell? ⟨q, 9, none⟩ = _; simp [World.cell?, hb]
    | 2, _ =>
      match j, hj with
      | 0, hj => cases hj; show W.cell? ⟨q, 10, none⟩ = _; simp [World.cell?, hb]
      | 1, hj => cases hj; show W.cell? ⟨q, 11, none⟩ = _; simp [World.cell?, hb]
      | 2, hj => cases hj; show W.cell? ⟨q, 12, none⟩ = _; simp [World.cell?, hb]
      | 3, hj => cases hj; show W.cell? ⟨q, 13, none⟩ = _; simp [World.cell?, hb]
      | 4, hj => cases hj; show W.cell? ⟨q, 14, none⟩ = _; simp [World.cell?, hb]
  · match i, hi with
    | 0, _ => exact h1
    | 1, _ => exact h2
    | 2, _ => exact h3

theorem three_wt (op : Int) (T T2 T3 : node.Nd) : node.wt (.mk (op, 0, ⟨#[]⟩, ⟨#[]⟩) [T, T2, T3]) = 3 + (node.wt T + node.wt T2 + node.wt T3) := by
  rw [node.wt, node.wts, node.wts, node.wts, node.wts]
  show 0 + 0 + 3 + (node.wt T + (node.wt T2 + (node.wt T3 + 0))) = _
  omega
theorem name_wt (op : Int) (s : ByteArray) (T : node.Nd) : node.wt (.mk (op, 0, s, ⟨#[]⟩) [T]) = s.size + 1 + node.wt T := by
  rw [node.wt, node.wts, node.wts]
  show s.size + 0 + 1 + (node.wt T + 0) = _
  omega

end Go.Proofs.YtpdmdcoaaboikaaGreatDoor.tok
