/-
  A loop of the model's parsing that gathers kids by append: where it stands, and its step.
-/
import Derived.Test.YtpdmdcoaaboikaaGreatDoorParseCompare
import Derived.Test.YtpdmdcoaaboikaaGreatDoorGrown
namespace Go.Proofs.YtpdmdcoaaboikaaGreatDoor.tok
open Go Go.RowKit Go.Deep Go.Proofs.YtpdmdcoaaboikaaGreatDoor.rose Go.Proofs.YtpdmdcoaaboikaaGreatDoor
set_option linter.unusedVariables false
set_option linter.unusedSimpArgs false

structure Ks (E : Env) (w wr : World) (Ab : Nat) (op : Int) (s : ByteArray) (v : Value) (xs : List node.Nd) (at_ : Nat) (bad : Int) (at' : Nat) (bad' : Int) : Prop where
  st : St E wr at' bad'
  gr : w.grownBy wr (some E.cb)
  res : wr.heap[w.heap.size]? = some (.cells #[.int .i64 0, .int .i64 0, .string ⟨#[]⟩, .string ⟨#[]⟩, .slice none 0 0] 36)
  acc : wr.heap[Ab]? = some (.cells #[.int .i64 op, .int .i64 0, .string s, .string ⟨#[]⟩, v] 36)
  grown : Grown node.ndSh 36 wr (Ab + 1) v xs
  cb : E.cb < w.heap.size
  ab : w.heap.size < Ab
  top : E.B ≤ w.heap.size
  ns : ∀ b, E.NS b → b < w.heap.size
  le : at_ ≤ at'
  sz : s.size ≤ 8
  hx : 0 ≤ bad' ∨ (bad' = bad ∧ at_ < at' ∧ 8 + xs.length + node.wts xs + 2 ≤ 10 * (at' - at_))

theorem Ks.ablt {E : Env} {w wr : World} {Ab : Nat} {op : Int} {s : ByteArray} {v : Value} {xs : List node.Nd} {at_ at' : Nat} {bad bad' : Int} (h : Ks E w wr Ab op s v xs at_ bad at' bad') : Ab < wr.heap.size := (Array.getElem?_eq_some_iff.1 h.acc).1

theorem Ks.step {E : Env} {w wr w2 : World} {Ab : Nat} {op : Int} {s : ByteArray} {v : Value} {xs : List node.Nd} {at_ at' : Nat} {bad bad' : Int} (h : Ks E w wr Ab op s v xs at_ bad at' bad') (hb : Below wr.heap.size wr w2) : Ks E w w2 Ab op s v xs at_ bad at' bad' := by
  have hc := h.cb
  have ha := h.ab
  have h1 := (Array.getElem?_eq_some_iff.1 h.res).1
  exact ⟨h.st.on hb, grown_by_below h.gr hb, (hb.block _ h1).trans h.res, (hb.block _ h.ablt).trans h.acc, h.grown.on hb.size fun b _ hlt => hb.block b hlt, h.cb, h.ab, h.top, h.ns, h.le, h.sz, h.hx⟩

theorem wts_snoc (xs : List node.Nd) (x : node.Nd) : node.wts (xs ++ [x]) = node.wts xs + node.wt x := by
  induction xs with
  | nil => simp [node.wts]
  | cons a xs ih => simp [node.wts, ih]; omega

theorem Ks.push {E : Env} {w wr w1 w2 w3 w4 : World} {Ab : Nat} {op : Int} {s : ByteArray} {v : Value} {xs : List node.Nd} {at_ at' at5 : Nat} {bad bad' bad5 : Int} {cs : List Value} {T : node.Nd} {css : Nat → List Value} {F : Nat → Nat → Prop} {ua : Option Addr} {ul uc : Nat}
    (h : Ks E w wr Ab op s v xs at_ bad at' bad') (hbad : bad' < 0) (hg1 : wr.grownBy w1 (some E.cb)) (hs1 : St E w1 at5 bad5) (hle : at' ≤ at5) (hx5 : 0 ≤ bad5 ∨ (bad5 = bad' ∧ at' < at5 ∧ node.wt T + 2 ≤ 10 * (at5 - at')))
    (hr1 : node.ndSh.rep w1 (fun b => wr.heap.size ≤ b ∧ b < w1.heap.size) cs T) (hb2 : Below w1.heap.size w1 w2)
    (gr : ∀ i (h : i < xs.length), node.ndSh.rep wr (F i) (css i) xs[i]) (gf : ∀ i, i < xs.length → ∀ b, F i b → Ab + 1 ≤ b ∧ b < wr.heap.size ∧ v.ownBlock ≠ some b) (ga : ∀ i j, i < xs.length → j < xs.length → i ≠ j → ∀ b, F i b → ¬ F j b) (gv : ∀ g, v.ownBlock = some g → Ab + 1 ≤ g ∧ g < wr.heap.size)
    (ho : w3.ownsRow (Ab + 1) 36 5 (.slice ua ul uc) (xs.length + 1) (flat css xs.length ++ cs)) (hg3 : w2.grownBy w3 v.ownBlock) (hat : (Value.slice ua ul uc).ownBlock = v.ownBlock ∨ (Value.slice ua ul uc).ownBlock = some w2.heap.size)
    (hw4 : w4 = w3.setCell ⟨Ab, 4, none⟩ (.slice ua ul uc)) : Ks E w w4 Ab op s (.slice ua ul uc) (xs ++ [T]) at_ bad at5 bad5 := by
  have hc := h.cb
  have ha := h.ab
  have htop := h.top
  have h1 := (Array.getElem?_eq_some_iff.1 h.res).1
  have h2 := h.ablt
  have z1 := hg1.size
  have z2 := hb2.size
  have z3 := hg3.size
  have z4 : w4.heap.size = w3.heap.size := by rw [hw4]; simp [World.setCell]
  have hle0 := h.le
  have o4 : ∀ b, b ≠ Ab → w4.heap[b]? = w3.heap[b]? := fun b hb => by rw [hw4]; exact Below.heap_setCell _ _ _ _ hb
  have s3 : ∀ b, b < w2.heap.size → v.ownBlock ≠ some b → w3.heap[b]? = w2.heap[b]? := fun b hb hn => hg3.block b hb fun e => hn e.symm
  have nv : ∀ b, b ≤ Ab → v.ownBlock ≠ some b := fun b hb e => by have := (gv b e).1; omega
  have same : ∀ b, b < Ab → b < wr.heap.size → w4.heap[b]? = w1.heap[b]? := fun b hb hw => (o4 b (by omega)).trans ((s3 b (by omega) (nv b (by omega))).trans (hb2.block b (by omega)))
  have sameR : ∀ b, b < Ab → b < wr.heap.size → b ≠ E.cb → w4.heap[b]? = wr.heap[b]? := fun b hb hw hn => (same b hb hw).trans (hg1.block b hw fun e => hn (by simp only [Option.some.injEq] at e; omega))
  have acc3 : w3.heap[Ab]? = some (.cells #[.int .i64 op, .int .i64 0, .string s, .string ⟨#[]⟩, v] 36) := (s3 Ab (by omega) (nv Ab (Nat.le_refl _))).trans ((hb2.block Ab (by omega)).trans ((hg1.block Ab h2 fun e => by simp only [Option.some.injEq] at e; omega).trans h.acc))
  have acc4 : w4.heap[Ab]? = some (.cells #[.int .i64 op, .int .i64 0, .string s, .string ⟨#[]⟩, .slice ua ul uc] 36) := by
    rw [hw4]; simp [World.setCell, Array.getElem?_modify, acc3]
  have G3 : Grown node.ndSh 36 w3 (Ab + 1) (.slice ua ul uc) (xs ++ [T]) :=
    Grown.push (w := wr) (w1 := w2) (css := css) (F := F) (v := v) (lo := wr.heap.size) (hi := w1.heap.size) (cs := cs)
      (fun j hj => node.ndSh.on (gr j hj) fun q hq => (hb2.block q (by have := (gf j hj q hq).2.1; omega)).trans (hg1.block q (gf j hj q hq).2.1 fun e => by have := (gf j hj q hq).1; simp only [Option.some.injEq] at e; omega))
      gf ga (fun g hg => (gv g hg).2) (node.ndSh.on hr1 fun q hq => hb2.block q hq.2) (by omega) (by omega) (by omega) ho hg3 hat
  refine ⟨hs1.keep (by omega) fun b hS => ?_, ⟨?_, ?_, ?_, by have := h.gr.size; omega, fun q hq hn => ?_⟩, (sameR _ (by omega) h1 (by omega)).trans h.res, acc4, G3.on (by omega) fun b hb hlt => o4 b (by omega), h.cb, h.ab, h.top, h.ns, by omega, h.sz, ?_⟩
  · refine same b ?_ ?_
    all_goals
      rcases hS with hS | hS | rfl
      · have := h.ns b hS; omega
      · omega
      · omega
  · rw [hw4]; exact hg3.os.trans (hb2.os.trans (hg1.os.trans h.gr.os))
  · rw [hw4]; exact hg3.tape.trans (hb2.tape.trans (hg1.tape.trans h.gr.tape))
  · rw [hw4]; exact hg3.output.trans (hb2.output.trans (hg1.output.trans h.gr.output))
  · exact (sameR q (by omega) (by have := h.gr.size; omega) fun e => hn (by rw [e])).trans (h.gr.block q hq hn)
  · rcases hx5 with h5 | ⟨e5, h5, h5'⟩
    · exact .inl h5
    · rcases h.hx with h' | ⟨e', h', h''⟩
      · omega
      · refine .inr ⟨by omega, by omega, ?_⟩
        rw [wts_snoc, List.length_append, List.length_singleton]
        omega

/-- The kids' node is the answer. -/
theorem Ks.done {E : Env} {w wr w' : World} {Ab : Nat} {op : Int} {s : ByteArray} {v : Value} {xs : List node.Nd} {at_ at' : Nat} {bad bad' : Int} (h : Ks E w wr Ab op s v xs at_ bad at' bad') (hop : -9223372036854775808 ≤ op ∧ op ≤ 9223372036854775807) (hg : wr.grownBy w' (some w.heap.size)) :
    Nodes E w at_ bad (.returned (.agg #[.int .i64 op, .int .i64 0, .string s, .string ⟨#[]⟩, v])) w' := by
  have hz := h.sz
  have hab := h.ab
  have P : Pr E w wr Ab [.int .i64 op, .int .i64 0, .string s, .string ⟨#[]⟩, v] (.mk (op, 0, s, ⟨#[]⟩) xs) at_ bad at' bad' := by
    refine ⟨h.st, h.gr, h.res, h.acc, node.nd_shut hop (by omega) (by unfold maxLen; omega) (by decide) (node.ndSh.slice.mono (sslice_rep rfl (fun h => h) (h.grown.sslice (by decide))) fun b hS => ⟨by omega, hS.2, by omega⟩), h.cb, h.ab, h.top, h.ns, h.le, ?_⟩
    rcases h.hx with h' | ⟨e', h', h''⟩
    · exact .inl h'
    · refine .inr ⟨e', h', ?_⟩
      have : node.wt (.mk (op, 0, s, ⟨#[]⟩) xs) = s.size + xs.length + node.wts xs := by rw [node.wt]; show s.size + 0 + _ + _ = _; omega
      rw [this]
      omega
  exact P.done hg

end Go.Proofs.YtpdmdcoaaboikaaGreatDoor.tok
