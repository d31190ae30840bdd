/-
  What a parsing function of the model holds while it goes on, of any kind of data: its answer's block, data in blocks of their own, a block whose row of kids grows.
-/
import Derived.Test.YtpdmdcoaaboikaaGreatDoorParseLeaf2
import Derived.Test.YtpdmdcoaaboikaaGreatDoorOwnMore
import Derived.Test.YtpdmdcoaaboikaaGreatDoorGrown
import Derived.Test.YtpdmdcoaaboikaaGreatDoorPlainSh
namespace Go.Proofs.YtpdmdcoaaboikaaGreatDoor.tok
open Go Go.RowKit Go.Deep Go.Proofs.YtpdmdcoaaboikaaGreatDoor.rose Go.Proofs.YtpdmdcoaaboikaaGreatDoor
set_option linter.unusedVariables false
set_option linter.unusedSimpArgs false

theorem blk_cellG {w : World} {b i : Nat} {cur : Array Value} {t : TypeId} {v : Value} (h : w.heap[b]? = some (.cells cur t)) (hi : cur[i]? = some v) : w.cell? ⟨b, i, none⟩ = some v := by simp [World.cell?, h, hi]
theorem blk_freeG {w : World} {b i : Nat} {cur : Array Value} {t : TypeId} (h : w.heap[b]? = some (.cells cur t)) : w.frozen? ⟨b, i, none⟩ = false := by simp [World.frozen?, h]
theorem grown_noneG {w w' : World} (r : Option Nat) (h : Below w.heap.size w w') : w.grownBy w' r := ⟨h.os, h.tape, h.output, h.size, fun k hk _ => h.block k hk⟩
theorem grown_setG (w : World) (p o : Nat) (v : Value) : w.grownBy (w.setCell ⟨p, o, none⟩ v) (some p) :=
  ⟨rfl, rfl, rfl, by simp [World.setCell], fun k _ hne => Below.heap_setCell _ _ _ _ (fun e => hne (by rw [e]))⟩

/-- What a parsing function says: data in new memory; where nothing was wrong, it went on, and what it gives weighs no more than ten for each token that it took. -/
def Gives {α : Type} (A : Sh α) (wf : α → Nat) (E : Env) (w : World) (at_ : Nat) (bad : Int) (e : Ending) (w' : World) : Prop :=
  ∃ (at' : Nat) (bad' : Int) (cs : List Value) (T : α), e = .returned (.agg cs.toArray) ∧ A.rep w' (fun b => w.heap.size ≤ b ∧ b < w'.heap.size) cs T ∧ St E w' at' bad' ∧ w.grownBy w' (some E.cb) ∧ at_ ≤ at' ∧
    (0 ≤ bad' ∨ (bad' = bad ∧ at_ < at' ∧ wf T + 2 ≤ 10 * (at' - at_)))
def GTold {α : Type} (f : FuncId) (A : Sh α) (wf : α → Nat) (E : Env) (ok : Nat → Prop) : Prop := ∀ w at_ bad, St E w at_ bad → ok at_ → Calls Tryz.prog f #[.pointer (some ⟨E.cb, 0, none⟩)] w (Gives A wf E w at_ bad)

/-- Where a parsing function stands: its answer's block is new and empty. -/
structure Gx (Z : Obj) (E : Env) (w wr : World) (at' : Nat) (bad' : Int) : Prop where
  st : St E wr at' bad'
  gr : w.grownBy wr (some E.cb)
  res : wr.heap[w.heap.size]? = some Z
  cb : E.cb < w.heap.size

section
variable {Z : Obj} {E : Env} {w wr w2 : World} {at' at2 : Nat} {bad' bad2 : Int}
theorem Gx.lt (h : Gx Z E w wr at' bad') : w.heap.size < wr.heap.size := (Array.getElem?_eq_some_iff.1 h.res).1
theorem Gx.by (h : Gx Z E w wr at' bad') (hg : wr.grownBy w2 (some E.cb)) (hs : St E w2 at2 bad2) : Gx Z E w w2 at2 bad2 := by
  have hc := h.cb
  exact ⟨hs, grown_by_by h.gr hg, (hg.block _ h.lt fun e => by simp only [Option.some.injEq] at e; omega).trans h.res, h.cb⟩
theorem Gx.on (h : Gx Z E w wr at' bad') (hb : Below wr.heap.size wr w2) : Gx Z E w w2 at' bad' := h.by (grown_noneG _ hb) (h.st.on hb)
theorem Gx.start (h : St E w at' bad') (hw : w2 = w.alloc Z) : Gx Z E w w2 at' bad' := by
  have b0 : Below w.heap.size w w2 := by rw [hw]; exact (Below.refl _ _).alloc (Nat.le_refl _) _
  exact ⟨h.on b0, grown_noneG _ b0, by rw [hw]; exact alloc_top _ _, h.cblt⟩
end

/-- Data in a block of their own, all of it from block lo on. -/
structure Gh {α : Type} (A : Sh α) (t : TypeId) (wr : World) (lo nb : Nat) (cs : List Value) (T : α) : Prop where
  blk : wr.heap[nb]? = some (.cells cs.toArray t)
  le : lo ≤ nb
  rep : A.rep wr (fun b => lo ≤ b ∧ b < wr.heap.size) cs T

section
variable {α : Type} {A : Sh α} {t : TypeId} {wr w2 : World} {lo nb c : Nat} {cs : List Value} {T : α}
theorem Gh.lt (h : Gh A t wr lo nb cs T) : nb < wr.heap.size := (Array.getElem?_eq_some_iff.1 h.blk).1
theorem Gh.by (h : Gh A t wr lo nb cs T) (hg : wr.grownBy w2 (some c)) (hc : c < lo) : Gh A t w2 lo nb cs T := by
  have := h.le
  exact ⟨(hg.block _ h.lt fun e => by simp only [Option.some.injEq] at e; omega).trans h.blk, h.le, A.mono (A.on h.rep fun b hS => hg.block b hS.2 fun e => by simp only [Option.some.injEq] at e; omega) fun b hS => ⟨hS.1, Nat.lt_of_lt_of_le hS.2 hg.size⟩⟩
theorem Gh.on (h : Gh A t wr lo nb cs T) (hb : Below wr.heap.size wr w2) : Gh A t w2 lo nb cs T :=
  ⟨(hb.block _ h.lt).trans h.blk, h.le, A.mono (A.on h.rep fun b hS => hb.block b hS.2) fun b hS => ⟨hS.1, Nat.lt_of_lt_of_le hS.2 hb.size⟩⟩
theorem Gh.new (hr : A.rep wr (fun b => lo ≤ b ∧ b < wr.heap.size) cs T) (hl : lo ≤ wr.heap.size) (hw : w2 = wr.alloc (.cells cs.toArray t)) : Gh A t w2 lo wr.heap.size cs T := by
  have b2 : Below wr.heap.size wr w2 := by rw [hw]; exact (Below.refl _ _).alloc (Nat.le_refl _) _
  exact ⟨by rw [hw]; exact alloc_top _ _, hl, A.mono (A.on hr fun b hS => b2.block b hS.2) fun b hS => ⟨hS.1, Nat.lt_of_lt_of_le hS.2 b2.size⟩⟩
end

/-- The answer is written. -/
theorem answerG {α : Type} {A : Sh α} {wf : α → Nat} {E : Env} {w w1 w' : World} {cs : List Value} {T : α} {at_ at' : Nat} {bad bad' : Int} (h : St E w at_ bad) (hgw : w.grownBy w1 (some E.cb)) (hz : w.heap.size < w1.heap.size)
    (hr : A.rep w1 (fun b => w.heap.size < b ∧ b < w1.heap.size) cs T) (hs : St E w1 at' bad') (hle : at_ ≤ at') (hx : 0 ≤ bad' ∨ (bad' = bad ∧ at_ < at' ∧ wf T + 2 ≤ 10 * (at' - at_)))
    (hg' : w1.grownBy w' (some w.heap.size)) : Gives A wf E w at_ bad (.returned (.agg cs.toArray)) w' := by
  have hc := h.cblt
  have ht := h.top
  have z2 := hg'.size
  refine ⟨at', bad', cs, T, rfl, A.mono (A.on hr fun b hS => hg'.block b hS.2 fun e => by simp only [Option.some.injEq] at e; omega) fun b hS => ⟨by omega, by omega⟩, hs.keep z2 fun b hS => hg'.block b ?_ fun e => ?_, ⟨hg'.os.trans hgw.os, hg'.tape.trans hgw.tape, hg'.output.trans hgw.output, by omega, fun q hq hn => (hg'.block q (by omega) fun e => by simp only [Option.some.injEq] at e; omega).trans (hgw.block q hq hn)⟩, hle, hx⟩
  · rcases hS with hS | hS | rfl
    · have := (h.ns b hS).1; omega
    · omega
    · omega
  · simp only [Option.some.injEq] at e
    rcases hS with hS | hS | hS
    · have := (h.ns _ hS).1; omega
    · omega
    · omega

/-- The row v of these, its own; they lie in blocks behind w's, none of them Ab or the row. -/
def GKids {α : Type} (A : Sh α) (te : TypeId) (w wr : World) (Ab : Nat) (v : Value) (xs : List α) : Prop :=
  ∃ css : Nat → List Value, wr.ownsRow (w.heap.size + 1) te A.k v xs.length (flat css xs.length) ∧ ∀ i (h : i < xs.length), A.rep wr (fun b => w.heap.size < b ∧ b < wr.heap.size ∧ b ≠ Ab ∧ v.ownBlock ≠ some b) (css i) xs[i]

/-- A block whose row of kids grows. hd: the block, by the row; W: what these weigh. -/
structure Gc {α : Type} (A : Sh α) (te : TypeId) (Z : Obj) (hd : Value → Obj) (W : List α → Nat) (E : Env) (w wr : World) (Ab : Nat) (v : Value) (xs : List α) (at_ : Nat) (bad : Int) (at' : Nat) (bad' : Int) : Prop where
  cx : Gx Z E w wr at' bad'
  acc : wr.heap[Ab]? = some (hd v)
  ab : w.heap.size < Ab
  row : GKids A te w wr Ab v xs
  own : v.ownBlock ≠ some Ab
  top : E.B ≤ w.heap.size
  ns : ∀ b, E.NS b → b < w.heap.size ∨ (b ≠ Ab ∧ v.ownBlock ≠ some b ∧ b < wr.heap.size ∧ w.heap.size < b)
  le : at_ ≤ at'
  hx : 0 ≤ bad' ∨ (bad' = bad ∧ at_ < at' ∧ W xs + 2 ≤ 10 * (at' - at_))

section
variable {α : Type} {A : Sh α} {te : TypeId} {Z : Obj} {hd : Value → Obj} {W : List α → Nat} {E : Env} {w wr w2 : World} {Ab : Nat} {v : Value} {xs : List α} {at_ at' at2 : Nat} {bad bad' bad2 : Int}

theorem Gc.ablt (h : Gc A te Z hd W E w wr Ab v xs at_ bad at' bad') : Ab < wr.heap.size := (Array.getElem?_eq_some_iff.1 h.acc).1
theorem GKids.ownlt (h : GKids A te w wr Ab v xs) {g : Nat} (hg : v.ownBlock = some g) : w.heap.size < g ∧ g < wr.heap.size := by
  obtain ⟨css, hr, -⟩ := h
  have := World.ownsRow.lt hr g hg
  omega
theorem GKids.nil (w wr : World) (Ab : Nat) : GKids A te w wr Ab (.slice none 0 0) [] := ⟨fun _ => [], World.ownsRow_nil wr _ te A.k, fun i hi => absurd hi (Nat.not_lt_zero _)⟩
theorem GKids.keep (h : GKids A te w wr Ab v xs) (hz : wr.heap.size ≤ w2.heap.size) (hb : ∀ b, w.heap.size < b → b < wr.heap.size → b ≠ Ab → w2.heap[b]? = wr.heap[b]?) (ho : v.ownBlock ≠ some Ab) : GKids A te w w2 Ab v xs := by
  obtain ⟨css, hr, hk⟩ := h
  refine ⟨css, ?_, fun i hi => A.mono (A.on (hk i hi) fun b hS => hb b hS.1 hS.2.1 hS.2.2.1) fun b hS => ⟨hS.1, Nat.lt_of_lt_of_le hS.2.1 hz, hS.2.2⟩⟩
  obtain ⟨hl, hv⟩ := hr
  refine ⟨hl, ?_⟩
  rcases hv with h0 | ⟨g, cap, cur, h1, h2, h3, h4⟩
  · exact Or.inl h0
  · exact Or.inr ⟨g, cap, cur, h1, h2, by rw [hb g (by omega) (Array.getElem?_eq_some_iff.1 h3).1 (fun e => ho (by rw [h1, ← e]; rfl))]; exact h3, h4⟩

theorem Gc.by (h : Gc A te Z hd W E w wr Ab v xs at_ bad at' bad') (hg : wr.grownBy w2 (some E.cb)) (hs : St E w2 at2 bad2) (hle : at' ≤ at2) (hx : 0 ≤ bad2 ∨ bad2 = bad') : Gc A te Z hd W E w w2 Ab v xs at_ bad at2 bad2 := by
  have hc := h.cx.cb
  have ha := h.ab
  have hl := h.le
  have hz := hg.size
  refine ⟨h.cx.by hg hs, (hg.block _ h.ablt fun e => by simp only [Option.some.injEq] at e; omega).trans h.acc, h.ab, h.row.keep hg.size (fun b h1 h2 _ => hg.block b h2 fun e => by simp only [Option.some.injEq] at e; omega) h.own, h.own, h.top, fun b hS => (h.ns b hS).imp id fun hq => ⟨hq.1, hq.2.1, by omega, hq.2.2.2⟩, by omega, ?_⟩
  rcases hx with hx | rfl
  · exact .inl hx
  · rcases h.hx with h' | ⟨e, h', h''⟩
    · exact .inl h'
    · exact .inr ⟨e, by omega, by omega⟩
theorem Gc.on (h : Gc A te Z hd W E w wr Ab v xs at_ bad at' bad') (hb : Below wr.heap.size wr w2) : Gc A te Z hd W E w w2 Ab v xs at_ bad at' bad' := h.by (grown_noneG _ hb) (h.cx.st.on hb) (Nat.le_refl _) (.inr rfl)

/-- One more. -/
theorem Gc.push {w3 w4 : World} {cs : List Value} {T : α} {ua : Option Addr} {ul uc r0 : Nat} {css : Nat → List Value} (h : Gc A te Z hd W E w wr Ab v xs at_ bad at' bad')
    (hk : ∀ i (h : i < xs.length), A.rep wr (fun b => w.heap.size < b ∧ b < wr.heap.size ∧ b ≠ Ab ∧ v.ownBlock ≠ some b) (css i) xs[i])
    (hr : A.rep wr (fun b => r0 ≤ b ∧ b < wr.heap.size) cs T) (hr0 : Ab < r0) (hrw : w.heap.size < r0) (hro : ∀ g, v.ownBlock = some g → g < r0) (hb2 : Below wr.heap.size wr w2) (hx : 0 ≤ bad' ∨ (bad' = bad ∧ at_ < at' ∧ W (xs ++ [T]) + 2 ≤ 10 * (at' - at_)))
    (ho : w3.ownsRow (w.heap.size + 1) te A.k (.slice ua ul uc) (xs.length + 1) (flat css xs.length ++ cs)) (hg3 : w2.grownBy w3 v.ownBlock) (hat : (Value.slice ua ul uc).ownBlock = v.ownBlock ∨ (Value.slice ua ul uc).ownBlock = some w2.heap.size)
    (idx : Nat) (hw4 : w4 = w3.setCell ⟨Ab, idx, none⟩ (.slice ua ul uc)) (hset : w3.heap[Ab]? = some (hd v) → w4.heap[Ab]? = some (hd (.slice ua ul uc))) : Gc A te Z hd W E w w4 Ab (.slice ua ul uc) (xs ++ [T]) at_ bad at' bad' := by
  have hc := h.cx.cb
  have ha := h.ab
  have hal := h.ablt
  have z2 := hb2.size
  have z3 := hg3.size
  have z4 : w4.heap.size = w3.heap.size := by rw [hw4]; simp [World.setCell]
  have o4 : ∀ b, b ≠ Ab → w4.heap[b]? = w3.heap[b]? := fun b hb => by rw [hw4]; exact Below.heap_setCell _ _ _ _ hb
  have s3 : ∀ b, b < w2.heap.size → v.ownBlock ≠ some b → w3.heap[b]? = w2.heap[b]? := fun b hb hn => hg3.block b hb fun e => hn e.symm
  have nlo : ∀ b, b ≤ w.heap.size → v.ownBlock ≠ some b := fun b hb e => by have := (h.row.ownlt e).1; omega
  have same : ∀ b, b < wr.heap.size → b ≠ Ab → v.ownBlock ≠ some b → w4.heap[b]? = wr.heap[b]? := fun b h1 h2 h3 => (o4 b h2).trans ((s3 b (by omega) h3).trans (hb2.block b h1))
  have acc3 : w3.heap[Ab]? = some (hd v) := (s3 Ab (by omega) h.own).trans ((hb2.block Ab hal).trans h.acc)
  have nown : (Value.slice ua ul uc).ownBlock ≠ some Ab := by
    rcases hat with e | e
    · rw [e]; exact h.own
    · rw [e]; intro e'; simp only [Option.some.injEq] at e'; omega
  have newown : ∀ b, b < wr.heap.size → v.ownBlock ≠ some b → (Value.slice ua ul uc).ownBlock ≠ some b := fun b h1 h2 => by
    rcases hat with e | e
    · rw [e]; exact h2
    · rw [e]; intro e'; simp only [Option.some.injEq] at e'; omega
  have low : ∀ b, b ≤ w.heap.size → w4.heap[b]? = wr.heap[b]? := fun b hb => same b (by omega) (by omega) (nlo b hb)
  have htop := h.top
  have hcx : Gx Z E w w4 at' bad' := by
    refine ⟨h.cx.st.keep (by omega) fun b hS => ?_, ⟨?_, ?_, ?_, by have := h.cx.gr.size; omega, fun q hq hn => (low q (by omega)).trans (h.cx.gr.block q hq hn)⟩, (low _ (Nat.le_refl _)).trans h.cx.res, h.cx.cb⟩
    · rcases hS with hS | hS | rfl
      · rcases h.ns b hS with h' | ⟨h1, h2, h3, -⟩
        · exact low b (by omega)
        · exact same b h3 h1 h2
      · exact low b (by omega)
      · exact low _ (by omega)
    · rw [hw4]; exact hg3.os.trans (hb2.os.trans h.cx.gr.os)
    · rw [hw4]; exact hg3.tape.trans (hb2.tape.trans h.cx.gr.tape)
    · rw [hw4]; exact hg3.output.trans (hb2.output.trans h.cx.gr.output)
  refine ⟨hcx, hset acc3, h.ab, ⟨fun i => if i < xs.length then css i else (fun _ => cs) (i - xs.length), ?_, fun i hi => ?_⟩, nown, h.top, fun b hS => (h.ns b hS).imp id fun hq => ⟨hq.1, newown b hq.2.2.1 hq.2.1, by omega, hq.2.2.2⟩, h.le, hx⟩
  · rw [List.length_append, List.length_singleton, flat_append css (fun _ => cs) xs.length 1]
    have e1 : flat (fun _ => cs) 1 = cs := by simp [flat]
    rw [e1]
    obtain ⟨hl, hv⟩ := ho
    refine ⟨hl, ?_⟩
    rcases hv with h0 | ⟨g, cap, cur, h1, h2, h3, h4⟩
    · exact Or.inl h0
    · exact Or.inr ⟨g, cap, cur, h1, h2, by rw [o4 g fun e => nown (by rw [h1, ← e]; rfl)]; exact h3, h4⟩
  · rw [List.length_append, List.length_singleton] at hi
    by_cases hlt : i < xs.length
    · simp only [if_pos hlt]
      rw [List.getElem_append_left hlt]
      exact A.mono (A.on (hk i hlt) fun b hS => same b hS.2.1 hS.2.2.1 hS.2.2.2) fun b hS => ⟨hS.1, by omega, hS.2.2.1, newown b hS.2.1 hS.2.2.2⟩
    · simp only [if_neg hlt]
      rw [List.getElem_append_right (by omega)]
      have hno : ∀ b, r0 ≤ b → v.ownBlock ≠ some b := fun b hb e => by have := hro b e; omega
      have e0 : i - xs.length = 0 := by omega
      simp only [e0, List.getElem_cons_zero]
      exact A.mono (A.on hr fun b hS => same b hS.2 (by omega) (hno b hS.1)) fun b hS => ⟨by omega, by omega, by omega, newown b hS.2 (hno b hS.1)⟩

theorem GKids.slice (h : GKids A te w wr Ab v xs) : ∃ a c, v = .slice a xs.length c := by
  obtain ⟨css, hr, -⟩ := h
  rcases hr.2 with ⟨h1, h0⟩ | ⟨g, cap, cur, h1, -⟩
  · exact ⟨none, 0, by rw [h1, h0]⟩
  · exact ⟨_, _, h1⟩
theorem GKids.rep (h : GKids A te w wr Ab v xs) (hA : 0 < A.k) : A.slice.rep wr (fun b => w.heap.size < b ∧ b < wr.heap.size) [v] xs := by
  obtain ⟨css, hr, hk⟩ := h
  have := Own.slice (A := A) (t := te) (base := w.heap.size + 1) (S := fun b => w.heap.size < b ∧ b < wr.heap.size) (v := v) (xs := xs) (w := wr) ⟨css, hr, fun i hi => A.mono (hk i hi) fun b hS => ⟨hS.1, hS.2.1⟩⟩ hA
  exact A.slice.mono this fun b hS => by rcases hS with h | h <;> omega
theorem GKids.repP {B : Sh α} (h : GKids (Sh.plain B) te w wr Ab v xs) (hA : 0 < B.k) : (Sh.plain B.slice).rep wr (fun b => w.heap.size < b ∧ b < wr.heap.size) [v] xs := by
  obtain ⟨css, hr, hk⟩ := h
  exact Own.sliceP (A := B) (t := te) (base := w.heap.size + 1) (S := fun b => (w.heap.size < b ∧ b < wr.heap.size) ∧ Plain wr b) (v := v) (xs := xs) (w := wr) ⟨css, hr, fun i hi => B.mono (hk i hi) fun b hS => ⟨⟨hS.1.1, hS.1.2.1⟩, hS.2⟩⟩ hA fun b h1 h2 h3 => ⟨⟨by omega, h2⟩, h3⟩
end

abbrev tyP : Sh ty.TyD := ty.tySh.plain
abbrev conP : Sh con.ConD := con.conSh.plain
abbrev dataP : Sh data.DataD := data.dataSh.plain
abbrev tyPs : Sh (List ty.TyD) := ty.tySh.slice.plain
abbrev conPs : Sh (List con.ConD) := con.conSh.slice.plain
abbrev dataPs : Sh (List data.DataD) := data.dataSh.slice.plain

end Go.Proofs.YtpdmdcoaaboikaaGreatDoor.tok
