/-
  The model's l3Product, from what l3Apply says.
-/
import Derived.Test.YtpdmdcoaaboikaaGreatDoorParseAtom
namespace Go.Proofs.YtpdmdcoaaboikaaGreatDoor.tok
open Go Go.RowKit Go.Deep Go.Proofs.YtpdmdcoaaboikaaGreatDoor.rose Go.Proofs.YtpdmdcoaaboikaaGreatDoor
set_option linter.unusedVariables false
set_option linter.unusedSimpArgs false

def atOf (E : Env) (w : World) : Nat := match w.cell? ⟨E.cb, 1, none⟩ with | some (.int _ z) => z.toNat | _ => 0
def badOf (E : Env) (w : World) : Int := match w.cell? ⟨E.cb, 2, none⟩ with | some (.int _ z) => z | _ => 0
theorem St.atOf {E : Env} {w : World} {at_ : Nat} {bad : Int} (h : St E w at_ bad) : tok.atOf E w = at_ := by
  obtain ⟨va, vc, names, nn, hblk, -, -⟩ := h.blk
  have : w.cell? ⟨E.cb, 1, none⟩ = some (.int .i64 at_) := blk_cellP (i := 1) hblk rfl
  simp [tok.atOf, this]
theorem St.badOf {E : Env} {w : World} {at_ : Nat} {bad : Int} (h : St E w at_ bad) : tok.badOf E w = bad := by
  obtain ⟨va, vc, names, nn, hblk, -, -⟩ := h.blk
  have : w.cell? ⟨E.cb, 2, none⟩ = some (.int .i64 bad) := blk_cellP (i := 2) hblk rfl
  simp [tok.badOf, this]
/-- What is left to do. -/
def msr (E : Env) (w : World) : Nat := 2 * (E.toks.length - atOf E w) + (if badOf E w < 0 then 1 else 0)
theorem St.msr {E : Env} {w : World} {at_ : Nat} {bad : Int} (h : St E w at_ bad) : tok.msr E w = 2 * (E.toks.length - at_) + (if bad < 0 then 1 else 0) := by
  unfold tok.msr; rw [h.atOf, h.badOf]

/-- Where a loop that gathers a tree stands: the answer's block is empty, the tree lies in block Ab. -/
structure Pr (E : Env) (w wr : World) (Ab : Nat) (cs : List Value) (T : node.Nd) (at_ : Nat) (bad : Int) (at' : Nat) (bad' : Int) : Prop where
  st : St E wr at' bad'
  gr : w.grownBy wr (some E.cb)
  res : wr.heap[w.heap.size]? = some (.cells #[.int .i64 0, .int .i64 0, .string ⟨#[]⟩, .string ⟨#[]⟩, .slice none 0 0] 36)
  acc : wr.heap[Ab]? = some (.cells cs.toArray 36)
  rep : node.ndSh.rep wr (fun b => w.heap.size < b ∧ b < wr.heap.size ∧ b ≠ Ab) cs T
  cb : E.cb < w.heap.size
  ab : w.heap.size < Ab
  top : E.B ≤ w.heap.size
  ns : ∀ b, E.NS b → b < w.heap.size
  le : at_ ≤ at'
  hx : 0 ≤ bad' ∨ (bad' = bad ∧ at_ < at' ∧ node.wt T + 2 ≤ 10 * (at' - at_))

theorem Pr.ablt {E : Env} {w wr : World} {Ab : Nat} {cs : List Value} {T : node.Nd} {at_ at' : Nat} {bad bad' : Int} (h : Pr E w wr Ab cs T at_ bad at' bad') : Ab < wr.heap.size := (Array.getElem?_eq_some_iff.1 h.acc).1

/-- The answer is written. -/
theorem Pr.done {E : Env} {w wr w' : World} {Ab : Nat} {cs : List Value} {T : node.Nd} {at_ at' : Nat} {bad bad' : Int} (h : Pr E w wr Ab cs T at_ bad at' bad') (hg : wr.grownBy w' (some w.heap.size)) : Nodes E w at_ bad (.returned (.agg cs.toArray)) w' := by
  have hc := h.cb
  have ht := h.top
  have ha := h.ab
  have hz := h.gr.size
  have h1 := (Array.getElem?_eq_some_iff.1 h.res).1
  refine ⟨at', bad', cs, T, rfl, node.ndSh.mono (node.ndSh.on h.rep fun b hS => hg.block b hS.2.1 fun e => by simp only [Option.some.injEq] at e; omega) fun b hS => ⟨by omega, Nat.lt_of_lt_of_le hS.2.1 hg.size⟩, h.st.keep hg.size fun b hS => hg.block b ?_ fun e => ?_, ⟨hg.os.trans h.gr.os, hg.tape.trans h.gr.tape, hg.output.trans h.gr.output, Nat.le_trans h.gr.size hg.size, fun q hq hn => (hg.block q (by omega) fun e => by simp only [Option.some.injEq] at e; omega).trans (h.gr.block q hq hn)⟩, h.le, h.hx⟩
  · rcases hS with hS | hS | rfl
    · have := h.ns b hS; omega
    · omega
    · omega
  · simp only [Option.some.injEq] at e
    rcases hS with hS | hS | hS
    · have := h.ns _ hS; omega
    · omega
    · omega

/-- The cursor goes on, nothing else is turned. -/
theorem Pr.step {E : Env} {w wr w2 : World} {Ab : Nat} {cs : List Value} {T : node.Nd} {at_ at' at2 : Nat} {bad bad' bad2 : Int} (h : Pr E w wr Ab cs T at_ bad at' bad') (hg : wr.grownBy w2 (some E.cb)) (hs : St E w2 at2 bad2) (hle : at' ≤ at2) (hx : 0 ≤ bad2 ∨ bad2 = bad') : Pr E w w2 Ab cs T at_ bad at2 bad2 := by
  have hc := h.cb
  have ha := h.ab
  have h1 := (Array.getElem?_eq_some_iff.1 h.res).1
  have h2 := h.ablt
  have h3 := h.le
  refine ⟨hs, grown_by_by h.gr hg, (hg.block _ h1 fun e => by simp only [Option.some.injEq] at e; omega).trans h.res, (hg.block _ h2 fun e => by simp only [Option.some.injEq] at e; omega).trans h.acc, node.ndSh.mono (node.ndSh.on h.rep fun b hS => hg.block b hS.2.1 fun e => by simp only [Option.some.injEq] at e; omega) fun b hS => ⟨hS.1, Nat.lt_of_lt_of_le hS.2.1 hg.size, hS.2.2⟩, h.cb, h.ab, h.top, h.ns, by omega, ?_⟩
  rcases hx with hx | rfl
  · exact .inl hx
  · rcases h.hx with h' | ⟨e, h', h''⟩
    · exact .inl h'
    · exact .inr ⟨e, by omega, by omega⟩

/-- Another tree is put in its place. -/
theorem Pr.put {E : Env} {w wr w' : World} {Ab : Nat} {cs cs' : List Value} {T T' : node.Nd} {at_ at' : Nat} {bad bad' : Int} (h : Pr E w wr Ab cs T at_ bad at' bad') (hg : wr.grownBy w' (some Ab)) (hacc : w'.heap[Ab]? = some (.cells cs'.toArray 36)) (hr : node.ndSh.rep wr (fun b => w.heap.size < b ∧ b < wr.heap.size ∧ b ≠ Ab) cs' T')
    (hx : 0 ≤ bad' ∨ (bad' = bad ∧ at_ < at' ∧ node.wt T' + 2 ≤ 10 * (at' - at_))) : Pr E w w' Ab cs' T' at_ bad at' bad' := by
  have hc := h.cb
  have ht := h.top
  have ha := h.ab
  have hz := h.gr.size
  have h1 := (Array.getElem?_eq_some_iff.1 h.res).1
  refine ⟨h.st.keep hg.size fun b hS => hg.block b ?_ fun e => ?_, ⟨hg.os.trans h.gr.os, hg.tape.trans h.gr.tape, hg.output.trans h.gr.output, Nat.le_trans h.gr.size hg.size, fun q hq hn => (hg.block q (by omega) fun e => by simp only [Option.some.injEq] at e; omega).trans (h.gr.block q hq hn)⟩, (hg.block _ h1 fun e => by simp only [Option.some.injEq] at e; omega).trans h.res, hacc, node.ndSh.mono (node.ndSh.on hr fun b hS => hg.block b hS.2.1 fun e => by simp only [Option.some.injEq] at e; omega) fun b hS => ⟨hS.1, Nat.lt_of_lt_of_le hS.2.1 hg.size, hS.2.2⟩, h.cb, h.ab, h.top, h.ns, h.le, hx⟩
  · rcases hS with hS | hS | rfl
    · have := h.ns b hS; omega
    · omega
    · omega
  · simp only [Option.some.injEq] at e
    rcases hS with hS | hS | hS
    · have := h.ns _ hS; omega
    · omega
    · omega

/-- A loop begins: the first tree, that a function gave, lies in a new block. -/
theorem Pr.first {E : Env} {w w0 w1 w2 : World} {cs : List Value} {T : node.Nd} {at_ at' : Nat} {bad bad' : Int} (hw0 : w0 = w.alloc (.cells #[.int .i64 0, .int .i64 0, .string ⟨#[]⟩, .string ⟨#[]⟩, .slice none 0 0] 36)) (h : St E w at_ bad)
    (hr : node.ndSh.rep w1 (fun b => w0.heap.size ≤ b ∧ b < w1.heap.size) cs T) (hs : St E w1 at' bad') (hg : w0.grownBy w1 (some E.cb)) (hle : at_ ≤ at') (hx : 0 ≤ bad' ∨ (bad' = bad ∧ at_ < at' ∧ node.wt T + 2 ≤ 10 * (at' - at_))) (hw2 : w2 = w1.alloc (.cells cs.toArray 36)) :
    Pr E w w2 w1.heap.size cs T at_ bad at' bad' := by
  have hcb := h.cblt
  have hz0 : w0.heap.size = w.heap.size + 1 := by rw [hw0]; simp
  have hz1 := hg.size
  have b0 : Below w.heap.size w w0 := by rw [hw0]; exact (Below.refl _ _).alloc (Nat.le_refl _) _
  have b2 : Below w1.heap.size w1 w2 := by rw [hw2]; exact (Below.refl _ _).alloc (Nat.le_refl _) _
  have hz2 : w2.heap.size = w1.heap.size + 1 := by rw [hw2]; simp
  have hp0 : w0.heap[w.heap.size]? = some (.cells #[.int .i64 0, .int .i64 0, .string ⟨#[]⟩, .string ⟨#[]⟩, .slice none 0 0] 36) := by rw [hw0]; exact alloc_top _ _
  exact ⟨hs.on b2, grown_by_below (grown_below_by b0 hg) b2, (b2.block _ (by omega)).trans ((hg.block _ (by omega) fun e => by simp only [Option.some.injEq] at e; omega).trans hp0), by rw [hw2]; exact alloc_top _ _, node.ndSh.mono (node.ndSh.on hr fun b hS => b2.block b hS.2) fun b hS => ⟨by omega, by omega, by omega⟩, hcb, by omega, h.top, fun b hb => (h.ns b hb).1, hle, hx⟩

end Go.Proofs.YtpdmdcoaaboikaaGreatDoor.tok
