/-
  Where the model's Parse stands: the datas that it gathered lie in a block whose row grows.
-/
import Derived.Test.YtpdmdcoaaboikaaGreatDoorParseData
import Derived.Test.YtpdmdcoaaboikaaGreatDoorProgSh
namespace Go.Proofs.YtpdmdcoaaboikaaGreatDoor.tok
open Go Go.RowKit Go.Deep Go.Proofs.YtpdmdcoaaboikaaGreatDoor.rose Go.Proofs.YtpdmdcoaaboikaaGreatDoor
set_option linter.unusedVariables false
set_option linter.unusedSimpArgs false

theorem dwts_snoc (xs : List data.DataD) (x : data.DataD) : data.wts (xs ++ [x]) = data.wts xs + data.wt x := by
  induction xs with
  | nil => simp [data.wts]
  | cons a xs ih => simp [data.wts, ih]; omega

structure Pc (E : Env) (wB wr : World) (v : Value) (xs : List data.DataD) (at' : Nat) (bad' : Int) : Prop where
  st : St E wr at' bad'
  acc : wr.heap[wB.heap.size]? = some (.cells #[v, .int .i64 0, .int .i64 0, .string ⟨#[]⟩, .string ⟨#[]⟩, .slice none 0 0] 62)
  row : GKids dataP 97 wB wr wB.heap.size v xs
  gr : wB.grownBy wr (some E.cb)
  cb : E.cb < wB.heap.size
  top : E.B ≤ wB.heap.size
  ns : ∀ b, E.NS b → wB.heap.size < b ∧ v.ownBlock ≠ some b
  hx : 0 ≤ bad' ∨ (bad' = -1 ∧ xs.length + data.wts xs ≤ 10 * at')

section
variable {E : Env} {wB wr w2 : World} {v : Value} {xs : List data.DataD} {at' at2 : Nat} {bad' bad2 : Int}
theorem Pc.ablt (h : Pc E wB wr v xs at' bad') : wB.heap.size < wr.heap.size := (Array.getElem?_eq_some_iff.1 h.acc).1
theorem Pc.own (h : Pc E wB wr v xs at' bad') : v.ownBlock ≠ some wB.heap.size := fun e => by have := (h.row.ownlt e).1; omega
theorem Pc.by (h : Pc E wB wr v xs at' bad') (hg : wr.grownBy w2 (some E.cb)) (hs : St E w2 at2 bad2) (hle : at' ≤ at2) (hx : 0 ≤ bad2 ∨ bad2 = bad') : Pc E wB w2 v xs at2 bad2 := by
  have hc := h.cb
  refine ⟨hs, (hg.block _ h.ablt fun e => by simp only [Option.some.injEq] at e; omega).trans h.acc, h.row.keep hg.size (fun b h1 h2 _ => hg.block b h2 fun e => by simp only [Option.some.injEq] at e; omega) h.own, grown_by_by h.gr hg, h.cb, h.top, h.ns, ?_⟩
  rcases hx with hx | rfl
  · exact .inl hx
  · rcases h.hx with h' | ⟨e, h'⟩
    · exact .inl h'
    · exact .inr ⟨e, by omega⟩
theorem Pc.on (h : Pc E wB wr v xs at' bad') (hb : Below wr.heap.size wr w2) : Pc E wB w2 v xs at' bad' := h.by (grown_noneG _ hb) (h.st.on hb) (Nat.le_refl _) (.inr rfl)

/-- The names have turned. -/
theorem Pc.turn {E0 : Env} {NS : Nat → Prop} {nv : Value} (h : Pc E0 wB wr v xs at' bad') (hE : E0.cb = E.cb ∧ E0.B = E.B) (hg : wr.grownBy w2 (some E.cb)) (hs : St (E.at NS nv) w2 at2 bad2) (hle : at' ≤ at2) (hx : 0 ≤ bad2 ∨ bad2 = bad') (hns : ∀ b, NS b → wr.heap.size ≤ b ∧ b < w2.heap.size) : Pc (E.at NS nv) wB w2 v xs at2 bad2 := by
  obtain ⟨e1, e2⟩ := hE
  have hc := h.cb
  rw [e1] at hc
  have hal := h.ablt
  refine ⟨hs, (hg.block _ h.ablt fun e => by simp only [Option.some.injEq] at e; omega).trans h.acc, h.row.keep hg.size (fun b h1 h2 _ => hg.block b h2 fun e => by simp only [Option.some.injEq] at e; omega) h.own, ?_, hc, by show E.B ≤ _; rw [← e2]; exact h.top, fun b hS => ?_, ?_⟩
  · have := h.gr
    rw [e1] at this
    exact grown_by_by this hg
  · have := hns b hS
    exact ⟨by omega, fun e => by have := (h.row.ownlt e).2; omega⟩
  · rcases hx with hx | rfl
    · exact .inl hx
    · rcases h.hx with h' | ⟨e, h'⟩
      · exact .inl h'
      · exact .inr ⟨e, by omega⟩

/-- One data more. -/
theorem Pc.push {w3 w4 : World} {cs : List Value} {T : data.DataD} {ua : Option Addr} {ul uc r0 : Nat} {css : Nat → List Value} (h : Pc E wB wr v xs at' bad')
    (hk : ∀ i (h : i < xs.length), dataP.rep wr (fun b => wB.heap.size < b ∧ b < wr.heap.size ∧ b ≠ wB.heap.size ∧ v.ownBlock ≠ some b) (css i) xs[i])
    (hr : dataP.rep wr (fun b => r0 ≤ b ∧ b < wr.heap.size) cs T) (hr0 : wB.heap.size < r0) (hro : ∀ g, v.ownBlock = some g → g < r0) (hb2 : Below wr.heap.size wr w2) (hx : 0 ≤ bad' ∨ (bad' = -1 ∧ (xs ++ [T]).length + data.wts (xs ++ [T]) ≤ 10 * at'))
    (ho : w3.ownsRow (wB.heap.size + 1) 97 3 (.slice ua ul uc) (xs.length + 1) (flat css xs.length ++ cs)) (hg3 : w2.grownBy w3 v.ownBlock) (hat : (Value.slice ua ul uc).ownBlock = v.ownBlock ∨ (Value.slice ua ul uc).ownBlock = some w2.heap.size)
    (hw4 : w4 = w3.setCell ⟨wB.heap.size, 0, none⟩ (.slice ua ul uc)) : Pc E wB w4 (.slice ua ul uc) (xs ++ [T]) at' bad' := by
  have hc := h.cb
  have hal := h.ablt
  have z2 := hb2.size
  have z3 := hg3.size
  have z4 : w4.heap.size = w3.heap.size := by rw [hw4]; simp [World.setCell]
  have o4 : ∀ b, b ≠ wB.heap.size → w4.heap[b]? = w3.heap[b]? := fun b hb => by rw [hw4]; exact Below.heap_setCell _ _ _ _ hb
  have s3 : ∀ b, b < w2.heap.size → v.ownBlock ≠ some b → w3.heap[b]? = w2.heap[b]? := fun b hb hn => hg3.block b hb fun e => hn e.symm
  have nlo : ∀ b, b ≤ wB.heap.size → v.ownBlock ≠ some b := fun b hb e => by have := (h.row.ownlt e).1; omega
  have same : ∀ b, b < wr.heap.size → b ≠ wB.heap.size → v.ownBlock ≠ some b → w4.heap[b]? = wr.heap[b]? := fun b h1 h2 h3 => (o4 b h2).trans ((s3 b (by omega) h3).trans (hb2.block b h1))
  have acc3 := (s3 wB.heap.size (by omega) h.own).trans ((hb2.block wB.heap.size hal).trans h.acc)
  have newown : ∀ b, b < wr.heap.size → v.ownBlock ≠ some b → (Value.slice ua ul uc).ownBlock ≠ some b := fun b h1 h2 => by
    rcases hat with e | e
    · rw [e]; exact h2
    · rw [e]; intro e'; simp only [Option.some.injEq] at e'; omega
  have low : ∀ b, b < wB.heap.size → w4.heap[b]? = wr.heap[b]? := fun b hb => same b (by omega) (by omega) (nlo b (by omega))
  have htop := h.top
  have nown : (Value.slice ua ul uc).ownBlock ≠ some wB.heap.size := newown _ hal h.own
  refine ⟨h.st.keep (by omega) fun b hS => ?_, by rw [hw4]; simp [World.setCell, Array.getElem?_modify, acc3], ⟨fun i => if i < xs.length then css i else (fun _ => cs) (i - xs.length), ?_, fun i hi => ?_⟩, ⟨?_, ?_, ?_, by have := h.gr.size; omega, fun q hq hn => (low q hq).trans (h.gr.block q hq hn)⟩, h.cb, h.top, fun b hS => ⟨(h.ns b hS).1, newown b (h.st.ns b hS).1 (h.ns b hS).2⟩, hx⟩
  · rcases hS with hS | hS | rfl
    · have := h.ns b hS
      exact same b (h.st.ns b hS).1 (by omega) this.2
    · exact low b (by omega)
    · exact low _ (by omega)
  · rw [List.length_append, List.length_singleton, flat_append css (fun _ => cs) xs.length 1]
    have e1 : flat (fun _ => cs) 1 = cs := by simp [flat]
    rw [e1]
    obtain ⟨hl, hv⟩ := ho
    refine ⟨hl, ?_⟩
    rcases hv with h0 | ⟨g, cap, cur, h1, h2, h3, h4⟩
    · exact Or.inl h0
    · exact Or.inr ⟨g, cap, cur, h1, h2, by rw [o4 g (by omega)]; exact h3, h4⟩
  · rw [List.length_append, List.length_singleton] at hi
    by_cases hlt : i < xs.length
    · simp only [if_pos hlt]
      rw [List.getElem_append_left hlt]
      exact dataP.mono (dataP.on (hk i hlt) fun b hS => same b hS.2.1 hS.2.2.1 hS.2.2.2) fun b hS => ⟨hS.1, by omega, hS.2.2.1, newown b hS.2.1 hS.2.2.2⟩
    · simp only [if_neg hlt]
      rw [List.getElem_append_right (by omega)]
      have hno : ∀ b, r0 ≤ b → v.ownBlock ≠ some b := fun b hb e => by have := hro b e; omega
      have e0 : i - xs.length = 0 := by omega
      simp only [e0, List.getElem_cons_zero]
      exact dataP.mono (dataP.on hr fun b hS => same b hS.2 (by omega) (hno b hS.1)) fun b hS => ⟨by omega, by omega, by omega, newown b hS.2 (hno b hS.1)⟩
  · rw [hw4]; exact hg3.os.trans (hb2.os.trans h.gr.os)
  · rw [hw4]; exact hg3.tape.trans (hb2.tape.trans h.gr.tape)
  · rw [hw4]; exact hg3.output.trans (hb2.output.trans h.gr.output)
end

/-- The cursor begins. -/
theorem Pc.start {wA wB wC : World} {a : Option Addr} {c : Nat} {l : List TokD} {w0 : World} (hr : tokSh.slice.rep wA (fun b => w0.heap.size ≤ b ∧ b < wA.heap.size) [.slice a l.length c] l) (hf : Fine l) (hl : l.length ≤ 3001) (hlast : ∃ l0 t, l = l0 ++ [t] ∧ t.1 = 0)
    (hB : wB = wA.alloc (.cells #[.slice a l.length c, .int .i64 0, .int .i64 (-1), .slice none 0 0, .bool false] 120)) (hC : wC = wB.alloc (.cells #[.slice none 0 0, .int .i64 0, .int .i64 0, .string ⟨#[]⟩, .string ⟨#[]⟩, .slice none 0 0] 62)) :
    Pc ⟨wA.heap.size, a, c, l, wA.heap.size, fun _ => False, .slice none 0 0⟩ wB wC (.slice none 0 0) [] 0 (-1) := by
  have bB : Below wA.heap.size wA wB := by rw [hB]; exact (Below.refl _ _).alloc (Nat.le_refl _) _
  have bC : Below wB.heap.size wB wC := by rw [hC]; exact (Below.refl _ _).alloc (Nat.le_refl _) _
  have zB : wB.heap.size = wA.heap.size + 1 := by rw [hB]; simp
  have zC : wC.heap.size = wB.heap.size + 1 := by rw [hC]; simp
  obtain ⟨l0, t, e, ht⟩ := hlast
  refine ⟨⟨⟨none, 0, [], false, ?_, ?_, Nat.zero_le _, rfl⟩, fun b hS => hS.elim, tokSh.slice.mono (tokSh.slice.on (tokSh.slice.on hr fun b hS => bB.block b hS.2) fun b hS => bC.block b (by omega)) fun b hS => ⟨hS.2, by show b ≠ wA.heap.size; omega⟩, ?_, hl, hf, ⟨l0, t, e, ht⟩, by omega, by show wA.heap.size ≤ _; omega⟩, ?_, GKids.nil _ _ _, grown_noneG _ bC, by show wA.heap.size < _; omega, by show wA.heap.size ≤ _; omega, fun b hS => hS.elim, .inr ⟨rfl, by simp [data.wts]⟩⟩
  · show wC.heap[wA.heap.size]? = _
    rw [bC.block _ (by omega), hB]; exact alloc_top _ _
  · exact ⟨none, 0, fun _ => [], rfl, Nat.le_refl _, Nat.zero_le _, fun _ => rfl, fun i hi => absurd hi (Nat.not_lt_zero _), fun i hi => absurd hi (Nat.not_lt_zero _)⟩
  · show 0 < l.length
    rw [e]; simp
  · rw [hC]; exact alloc_top _ _

end Go.Proofs.YtpdmdcoaaboikaaGreatDoor.tok
