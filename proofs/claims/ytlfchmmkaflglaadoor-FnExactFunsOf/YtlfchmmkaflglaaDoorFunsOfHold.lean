/-
  What the model's FunsOf holds while it reads.
-/
import Derived.Test.YtlfchmmkaflglaaDoorFunsOfNum
import Derived.Test.YtlfchmmkaflglaaDoorFunsSpec
import Derived.Test.YtlfchmmkaflglaaDoorFunSp
import Derived.Test.YtlfchmmkaflglaaDoorGrown
import Derived.Test.YtlfchmmkaflglaaDoorRowSet
import Derived.Maps.AppendAt
namespace Go.Proofs.YtlfchmmkaflglaaDoor.fun
open Go Go.RowKit Go.Proofs.YtlfchmmkaflglaaDoor.rose Go.Proofs.YtlfchmmkaflglaaDoor Go.Proofs.YtlfchmmkaflglaaDoor.byts
set_option linter.unusedVariables false
set_option linter.unusedSimpArgs false

theorem infoFun : (Tryd.prog.info? 45).map (fun i => (i.zero, i.size, i.bytes)) = some (some (.agg #[.int .i64 0, .slice none 0 0]), 2, 32) := by kernel_rfl
theorem infoOpF : (Tryd.prog.info? 47).map (fun i => (i.zero, i.size, i.bytes)) = some (some (.agg #[.int .i64 0, .int .i64 0, .int .i64 0]), 3, 24) := by kernel_rfl

theorem grown_lit {α : Type} (A : Sh α) (t : TypeId) (w : World) {base : Nat} (h : base ≤ w.heap.size) : Grown A t (w.alloc (.cells #[] t)) base (.slice (some ⟨w.heap.size, 0, none⟩) 0 0) ([] : List α) :=
  ⟨fun _ => [], fun _ _ => False, ⟨by simp [flat], Or.inr ⟨w.heap.size, 0, #[], rfl, h, alloc_top _ _, Nat.le_refl _, Nat.zero_le _, by simp, by simp [flat]⟩⟩, fun i h => absurd h (Nat.not_lt_zero _), fun i h => absurd h (Nat.not_lt_zero _), fun i j h => absurd h (Nat.not_lt_zero _)⟩
/-- What is held while a function is read: the cursor, its block, its places so far; what was there ahead of it is as it was, but the cursor. -/
structure IS (wr wi : World) (cb : Nat) (v : Value) (p : Nat) (ok : Bool) (free : Int) (vl : Value) (os : List op.OpD) : Prop where
  cur : CB wi cb v p ok
  blk : wi.heap[wr.heap.size]? = some (.cells #[.int .i64 free, vl] 45)
  row : Grown op.opSp 47 wi (wr.heap.size + 1) vl os
  frm : Only (fun b => b = cb ∨ wr.heap.size ≤ b) wr wi
  cbl : cb < wr.heap.size

section
variable {wr wi w2 : World} {cb p p2 : Nat} {v vl : Value} {ok ok2 : Bool} {free : Int} {os : List op.OpD}
theorem IS.lt (h : IS wr wi cb v p ok free vl os) : wr.heap.size < wi.heap.size := (Array.getElem?_eq_some_iff.1 h.blk).1
theorem IS.num (h : IS wr wi cb v p ok free vl os) (hg : wi.grownBy w2 (some cb)) (hc : CB w2 cb v p2 ok2) : IS wr w2 cb v p2 ok2 free vl os := by
  have h1 := h.lt
  have h2 := h.cbl
  refine ⟨hc, (hg.block _ h1 fun e => by simp only [Option.some.injEq] at e; omega).trans h.blk, h.row.on hg.size fun b hb1 hb2 => hg.block b hb2 fun e => by simp only [Option.some.injEq] at e; omega, h.frm.trans ⟨hg.os, hg.tape, hg.output, hg.size, fun k hk hn => hg.block k hk fun e => by simp only [Option.some.injEq] at e; exact hn (.inl e)⟩, h.cbl⟩
theorem IS.new (h : IS wr wi cb v p ok free vl os) (X : Obj) : IS wr (wi.alloc X) cb v p ok free vl os := by
  have hb : Below wi.heap.size wi (wi.alloc X) := (Below.refl _ _).alloc (Nat.le_refl _) _
  exact ⟨(hb.block _ h.cur.lt).trans h.cur, (hb.block _ h.lt).trans h.blk, h.row.on hb.size fun b _ h2 => hb.block b h2, h.frm.trans (Only.ofBelow hb), h.cbl⟩
/-- How many it keeps is written. -/
theorem IS.setFree (h : IS wr wi cb v p ok free vl os) (x : Int) : IS wr (wi.setCell ⟨wr.heap.size, 0, none⟩ (.int .i64 x)) cb v p ok x vl os := by
  have h2 := h.cbl
  have hs : ∀ k, k ≠ wr.heap.size → (wi.setCell ⟨wr.heap.size, 0, none⟩ (.int .i64 x)).heap[k]? = wi.heap[k]? := fun k hk => Below.heap_setCell _ _ _ _ hk
  refine ⟨(hs cb (by omega)).trans h.cur, by simp [World.setCell, Array.getElem?_modify, h.blk], h.row.on (by simp [World.setCell]) fun b hb1 _ => hs b (by omega), h.frm.trans ⟨rfl, rfl, rfl, by simp [World.setCell], fun k hk hn => hs k fun e => hn (.inr (by omega))⟩, h.cbl⟩
/-- Another block of the call's own is turned. -/
theorem IS.setOther (h : IS wr wi cb v p ok free vl os) {ob j : Nat} (x : Value) (h1 : wr.heap.size < ob) (h2 : vl.ownBlock ≠ some ob) : IS wr (wi.setCell ⟨ob, j, none⟩ x) cb v p ok free vl os := by
  have h3 := h.cbl
  have hs : ∀ k, k ≠ ob → (wi.setCell ⟨ob, j, none⟩ x).heap[k]? = wi.heap[k]? := fun k hk => Below.heap_setCell _ _ _ _ hk
  refine ⟨(hs cb (by omega)).trans h.cur, (hs _ (by omega)).trans h.blk, ?_, h.frm.trans ⟨rfl, rfl, rfl, by simp [World.setCell], fun k hk hn => hs k fun e => hn (.inr (by omega))⟩, h.cbl⟩
  obtain ⟨css, F, hr, hp, hf, ha⟩ := h.row
  refine ⟨css, F, own_same hr fun q hq => hs q fun e => h2 (by rw [hq, e]), fun i hi => hp i hi, fun i hi b hb => by have := hf i hi b hb; exact ⟨this.1, by simpa [World.setCell] using this.2.1, this.2.2⟩, ha⟩
/-- A place was read: one more. -/
theorem IS.push {a3 : Option Addr} {l3 c3 : Nat} {w1 w3 : World} {css : Nat → List Value} {F : Nat → Nat → Prop} {c n m : Int} (h : IS wr w1 cb v p ok free vl os) (hcss : w1.ownsRow (wr.heap.size + 1) 47 3 vl os.length (flat css os.length) ∧ (∀ i (h : i < os.length), op.opSp.rep w1 (F i) (css i) os[i]) ∧ (∀ i, i < os.length → ∀ b, F i b → wr.heap.size + 1 ≤ b ∧ b < w1.heap.size ∧ vl.ownBlock ≠ some b) ∧ ∀ i j, i < os.length → j < os.length → i ≠ j → ∀ b, F i b → ¬ F j b)
    (hc : (-9223372036854775808 ≤ c ∧ c ≤ 9223372036854775807) ∧ (-9223372036854775808 ≤ n ∧ n ≤ 9223372036854775807) ∧ -9223372036854775808 ≤ m ∧ m ≤ 9223372036854775807)
    (o3 : w3.ownsRow (wr.heap.size + 1) 47 3 (.slice a3 l3 c3) (os.length + 1) (flat css os.length ++ [.int .i64 c, .int .i64 n, .int .i64 m])) (g3 : w1.grownBy w3 vl.ownBlock)
    (e3 : (Value.slice a3 l3 c3).ownBlock = vl.ownBlock ∨ (Value.slice a3 l3 c3).ownBlock = some w1.heap.size) :
    IS wr (w3.setCell ⟨wr.heap.size, 1, none⟩ (.slice a3 l3 c3)) cb v p ok free (.slice a3 l3 c3) (os ++ [(c, n, m)]) := by
  have h1 := h.lt
  have h2 := h.cbl
  obtain ⟨r1, r2, r3, r4⟩ := hcss
  have hv : ∀ g, vl.ownBlock = some g → wr.heap.size + 1 ≤ g ∧ g < w1.heap.size := fun g hg => r1.lt g hg
  have hb3 : w3.heap[wr.heap.size]? = some (.cells #[.int .i64 free, vl] 45) := (g3.block _ h1 fun e => by have := (hv _ e.symm).1; omega).trans h.blk
  have hs : ∀ k, k ≠ wr.heap.size → (w3.setCell ⟨wr.heap.size, 1, none⟩ (.slice a3 l3 c3)).heap[k]? = w3.heap[k]? := fun k hk => Below.heap_setCell _ _ _ _ hk
  have G : Grown op.opSp 47 w3 (wr.heap.size + 1) (.slice a3 l3 c3) (os ++ [(c, n, m)]) :=
    Grown.push (w := w1) (w1 := w1) (css := css) (F := F) (v := vl) (lo := w1.heap.size) (hi := w1.heap.size) (cs := [.int .i64 c, .int .i64 n, .int .i64 m]) r2 r3 r4 (fun g hg => (hv g hg).2) (op.opp_shut hc.1 hc.2.1 hc.2.2) (by omega) (Nat.le_refl _) (Nat.le_refl _) o3 g3 e3
  refine ⟨(hs cb (by omega)).trans ((g3.block _ h.cur.lt fun e => by have := (hv _ e.symm).1; omega).trans h.cur), by simp [World.setCell, Array.getElem?_modify, hb3], G.on (by simp [World.setCell]) fun b hb1 _ => hs b (by omega), ?_, h.cbl⟩
  refine (h.frm.trans ⟨g3.os, g3.tape, g3.output, g3.size, fun k hk hn => g3.block k hk fun e => hn (.inr (by have := (hv _ e.symm).1; omega))⟩).trans ⟨rfl, rfl, rfl, by simp [World.setCell], fun k hk hn => hs k fun e => hn (.inr (by omega))⟩
end

/-- A place in a block of its own. -/
structure PK (wi : World) (fb ob : Nat) (c n m : Int) (vl : Value) : Prop where
  blk : wi.heap[ob]? = some (.cells #[.int .i64 c, .int .i64 n, .int .i64 m] 47)
  own : vl.ownBlock ≠ some ob
  gt : fb < ob
section
variable {wi w2 : World} {fb ob cb : Nat} {c n m : Int} {vl : Value}
theorem PK.lt (h : PK wi fb ob c n m vl) : ob < wi.heap.size := (Array.getElem?_eq_some_iff.1 h.blk).1
theorem PK.num (h : PK wi fb ob c n m vl) (hg : wi.grownBy w2 (some cb)) (hc : cb < fb) : PK w2 fb ob c n m vl := ⟨(hg.block _ h.lt fun e => by simp only [Option.some.injEq] at e; have := h.gt; omega).trans h.blk, h.own, h.gt⟩
theorem PK.cell (h : PK wi fb ob c n m vl) (j : Nat) {u : Value} (hj : #[Value.int .i64 c, .int .i64 n, .int .i64 m][j]? = some u) : wi.cell? ⟨ob, j, none⟩ = some u := by simp [World.cell?, h.blk, hj]
theorem PK.free (h : PK wi fb ob c n m vl) (j : Nat) : wi.frozen? ⟨ob, j, none⟩ = false := by simp [World.frozen?, h.blk]
theorem PK.set0 (h : PK wi fb ob c n m vl) (x : Int) : PK (wi.setCell ⟨ob, 0, none⟩ (.int .i64 x)) fb ob x n m vl := ⟨by simp [World.setCell, Array.getElem?_modify, h.blk], h.own, h.gt⟩
theorem PK.set1 (h : PK wi fb ob c n m vl) (x : Int) : PK (wi.setCell ⟨ob, 1, none⟩ (.int .i64 x)) fb ob c x m vl := ⟨by simp [World.setCell, Array.getElem?_modify, h.blk], h.own, h.gt⟩
theorem PK.set2 (h : PK wi fb ob c n m vl) (x : Int) : PK (wi.setCell ⟨ob, 2, none⟩ (.int .i64 x)) fb ob c n x vl := ⟨by simp [World.setCell, Array.getElem?_modify, h.blk], h.own, h.gt⟩
end

end Go.Proofs.YtlfchmmkaflglaaDoor.fun
