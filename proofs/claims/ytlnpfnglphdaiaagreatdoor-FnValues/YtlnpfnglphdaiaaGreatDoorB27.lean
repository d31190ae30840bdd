/-
  A loop of the model's parsing that gathers alternatives: where it stands, and its steps; a node whose kids' row is its own.
-/
import Derived.Test.YtlnpfnglphdaiaaGreatDoorB1
import Derived.Test.YtlnpfnglphdaiaaGreatDoorB2
import Derived.Test.YtlnpfnglphdaiaaGreatDoorB3
import Derived.Test.YtlnpfnglphdaiaaGreatDoorB4
import Derived.Test.YtlnpfnglphdaiaaGreatDoorB5
import Derived.Test.YtlnpfnglphdaiaaGreatDoorB6
import Derived.Test.YtlnpfnglphdaiaaGreatDoorB7
import Derived.Test.YtlnpfnglphdaiaaGreatDoorB8
import Derived.Test.YtlnpfnglphdaiaaGreatDoorB9
import Derived.Test.YtlnpfnglphdaiaaGreatDoorB10
import Derived.Test.YtlnpfnglphdaiaaGreatDoorB11
import Derived.Test.YtlnpfnglphdaiaaGreatDoorB12
import Derived.Test.YtlnpfnglphdaiaaGreatDoorB13
import Derived.Test.YtlnpfnglphdaiaaGreatDoorB14
import Derived.Test.YtlnpfnglphdaiaaGreatDoorB15
import Derived.Test.YtlnpfnglphdaiaaGreatDoorB16
import Derived.Test.YtlnpfnglphdaiaaGreatDoorB17
import Derived.Test.YtlnpfnglphdaiaaGreatDoorB18
import Derived.Test.YtlnpfnglphdaiaaGreatDoorB19
import Derived.Test.YtlnpfnglphdaiaaGreatDoorB20
import Derived.Test.YtlnpfnglphdaiaaGreatDoorB21
import Derived.Test.YtlnpfnglphdaiaaGreatDoorB22
import Derived.Test.YtlnpfnglphdaiaaGreatDoorB23
import Derived.Test.YtlnpfnglphdaiaaGreatDoorB24
import Derived.Test.YtlnpfnglphdaiaaGreatDoorB25
import Derived.Test.YtlnpfnglphdaiaaGreatDoorB26
namespace Go.Proofs.YtlnpfnglphdaiaaGreatDoor.tok
open Go Go.RowKit Go.Deep Go.Proofs.YtlnpfnglphdaiaaGreatDoor.rose Go.Proofs.YtlnpfnglphdaiaaGreatDoor
set_option linter.unusedVariables false
set_option linter.unusedSimpArgs false

/-- The row v of these trees, its own; they lie in blocks behind w's, none of them Ab or the row. -/
def Kids (w wr : World) (Ab : Nat) (v : Value) (xs : List node.Nd) : Prop :=
  ∃ css : Nat → List Value, wr.ownsRow (w.heap.size + 1) 36 5 v xs.length (flat css xs.length) ∧ ∀ i (h : i < xs.length), node.ndSh.rep wr (fun b => w.heap.size < b ∧ b < wr.heap.size ∧ b ≠ Ab ∧ v.ownBlock ≠ some b) (css i) xs[i]

structure Kc (E : Env) (w wr : World) (Ab : Nat) (v : Value) (xs : List node.Nd) (at_ : Nat) (bad : Int) (at' : Nat) (bad' : Int) : Prop where
  cx : Cx E w wr at' bad'
  acc : wr.heap[Ab]? = some (.cells #[.int .i64 7, .int .i64 0, .string ⟨#[]⟩, .string ⟨#[]⟩, v] 36)
  ab : w.heap.size < Ab
  row : Kids w wr Ab v xs
  own : v.ownBlock ≠ some Ab
  top : E.B ≤ w.heap.size
  ns : ∀ b, E.NS b → b < w.heap.size
  le : at_ ≤ at'
  hx : 0 ≤ bad' ∨ (bad' = bad ∧ at_ < at' ∧ xs.length + node.wts xs + 2 ≤ 10 * (at' - at_))

section
variable {E : Env} {w wr w2 : World} {Ab : Nat} {v : Value} {xs : List node.Nd} {at_ at' at2 : Nat} {bad bad' bad2 : Int}

theorem Kc.ablt (h : Kc E w wr Ab v xs at_ bad at' bad') : Ab < wr.heap.size := (Array.getElem?_eq_some_iff.1 h.acc).1
theorem Kids.ownlt (h : Kids w wr Ab v xs) {g : Nat} (hg : v.ownBlock = some g) : w.heap.size < g ∧ g < wr.heap.size := by
  obtain ⟨css, hr, -⟩ := h
  have := World.ownsRow.lt hr g hg
  omega

theorem Kids.keep (h : Kids w wr Ab v xs) (hz : wr.heap.size ≤ w2.heap.size) (hb : ∀ b, w.heap.size < b → b < wr.heap.size → b ≠ Ab → w2.heap[b]? = wr.heap[b]?) (ho : v.ownBlock ≠ some Ab) : Kids w w2 Ab v xs := by
  obtain ⟨css, hr, hk⟩ := h
  refine ⟨css, ?_, fun i hi => node.ndSh.mono (node.ndSh.on (hk i hi) fun b hS => hb b hS.1 hS.2.1 hS.2.2.1) fun b hS => ⟨hS.1, Nat.lt_of_lt_of_le hS.2.1 hz, hS.2.2⟩⟩
  obtain ⟨hl, hv⟩ := hr
  refine ⟨hl, ?_⟩
  rcases hv with h0 | ⟨g, cap, cur, h1, h2, h3, h4⟩
  · exact Or.inl h0
  · exact Or.inr ⟨g, cap, cur, h1, h2, by rw [hb g (by omega) (Array.getElem?_eq_some_iff.1 h3).1 (fun e => ho (by rw [h1, ← e]; rfl))]; exact h3, h4⟩

theorem Kc.by (h : Kc E w wr Ab v xs at_ bad at' bad') (hg : wr.grownBy w2 (some E.cb)) (hs : St E w2 at2 bad2) (hle : at' ≤ at2) (hx : 0 ≤ bad2 ∨ bad2 = bad') : Kc E w w2 Ab v xs at_ bad at2 bad2 := by
  have hc := h.cx.cb
  have ha := h.ab
  have hl := h.le
  refine ⟨h.cx.by hg hs, (hg.block _ h.ablt fun e => by simp only [Option.some.injEq] at e; omega).trans h.acc, h.ab, h.row.keep hg.size (fun b h1 h2 _ => hg.block b h2 fun e => by simp only [Option.some.injEq] at e; omega) h.own, h.own, h.top, h.ns, by omega, ?_⟩
  rcases hx with hx | rfl
  · exact .inl hx
  · rcases h.hx with h' | ⟨e, h', h''⟩
    · exact .inl h'
    · exact .inr ⟨e, by omega, by omega⟩
theorem Kc.on (h : Kc E w wr Ab v xs at_ bad at' bad') (hb : Below wr.heap.size wr w2) : Kc E w w2 Ab v xs at_ bad at' bad' := h.by (grown_none _ hb) (h.cx.st.on hb) (Nat.le_refl _) (.inr rfl)

/-- One more tree. -/
theorem Kc.push {w3 w4 : World} {cs : List Value} {T : node.Nd} {ua : Option Addr} {ul uc r0 : Nat} {css : Nat → List Value} (h : Kc E w wr Ab v xs at_ bad at' bad')
    (hk : ∀ i (h : i < xs.length), node.ndSh.rep wr (fun b => w.heap.size < b ∧ b < wr.heap.size ∧ b ≠ Ab ∧ v.ownBlock ≠ some b) (css i) xs[i])
    (hr : node.ndSh.rep wr (fun b => r0 ≤ b ∧ b < wr.heap.size) cs T) (hr0 : Ab < r0) (hrw : w.heap.size < r0) (hro : ∀ g, v.ownBlock = some g → g < r0) (hb2 : Below wr.heap.size wr w2) (hx : 0 ≤ bad' ∨ (bad' = bad ∧ at_ < at' ∧ (xs ++ [T]).length + node.wts (xs ++ [T]) + 2 ≤ 10 * (at' - at_)))
    (ho : w3.ownsRow (w.heap.size + 1) 36 5 (.slice ua ul uc) (xs.length + 1) (flat css xs.length ++ cs)) (hg3 : w2.grownBy w3 v.ownBlock) (hat : (Value.slice ua ul uc).ownBlock = v.ownBlock ∨ (Value.slice ua ul uc).ownBlock = some w2.heap.size)
    (hw4 : w4 = w3.setCell ⟨Ab, 4, none⟩ (.slice ua ul uc)) : Kc E w w4 Ab (.slice ua ul uc) (xs ++ [T]) at_ bad at' bad' := by
  have hc := h.cx.cb
  have ha := h.ab
  have hal := h.ablt
  have z2 := hb2.size
  have z3 := hg3.size
  have z4 : w4.heap.size = w3.heap.size := by rw [hw4]; simp [World.setCell]
  have o4 : ∀ b, b ≠ Ab → w4.heap[b]? = w3.heap[b]? := fun b hb => by rw [hw4]; exact Below.heap_setCell _ _ _ _ hb
  have s3 : ∀ b, b < w2.heap.size → v.ownBlock ≠ some b → w3.heap[b]? = w2.heap[b]? := fun b hb hn => hg3.block b hb fun e => hn e.symm
  have nlo : ∀ b, b ≤ w.heap.size → v.ownBlock ≠ some b := fun b hb e => by have := (h.row.ownlt e).1; omega
  have same : ∀ b, b < wr.heap.size → b ≠ Ab → v.ownBlock ≠ some b → w4.heap[b]? = wr.heap[b]? := fun b h1 h2 h3 => (o4 b h2).trans ((s3 b (by omega) h3).trans (hb2.block b h1))
  have acc3 : w3.heap[Ab]? = some (.cells #[.int .i64 7, .int .i64 0, .string ⟨#[]⟩, .string ⟨#[]⟩, v] 36) := (s3 Ab (by omega) h.own).trans ((hb2.block Ab hal).trans h.acc)
  have nown : (Value.slice ua ul uc).ownBlock ≠ some Ab := by
    rcases hat with e | e
    · rw [e]; exact h.own
    · rw [e]; intro e'; simp only [Option.some.injEq] at e'; omega
  have newown : ∀ b, b < wr.heap.size → v.ownBlock ≠ some b → (Value.slice ua ul uc).ownBlock ≠ some b := fun b h1 h2 => by
    rcases hat with e | e
    · rw [e]; exact h2
    · rw [e]; intro e'; simp only [Option.some.injEq] at e'; omega
  have low : ∀ b, b ≤ w.heap.size → w4.heap[b]? = wr.heap[b]? := fun b hb => same b (by omega) (by omega) (nlo b hb)
  have htop := h.top
  have hcx : Cx E w w4 at' bad' := by
    refine ⟨h.cx.st.keep (by omega) fun b hS => low b ?_, ⟨?_, ?_, ?_, by have := h.cx.gr.size; omega, fun q hq hn => (low q (by omega)).trans (h.cx.gr.block q hq hn)⟩, (low _ (Nat.le_refl _)).trans h.cx.res, h.cx.cb⟩
    · rcases hS with hS | hS | rfl
      · have := h.ns b hS; omega
      · omega
      · omega
    · rw [hw4]; exact hg3.os.trans (hb2.os.trans h.cx.gr.os)
    · rw [hw4]; exact hg3.tape.trans (hb2.tape.trans h.cx.gr.tape)
    · rw [hw4]; exact hg3.output.trans (hb2.output.trans h.cx.gr.output)
  refine ⟨hcx, by rw [hw4]; simp [World.setCell, Array.getElem?_modify, acc3], h.ab, ⟨fun i => if i < xs.length then css i else (fun _ => cs) (i - xs.length), ?_, fun i hi => ?_⟩, nown, h.top, h.ns, h.le, hx⟩
  · rw [List.length_append, List.length_singleton, flat_append css (fun _ => cs) xs.length 1]
    have e1 : flat (fun _ => cs) 1 = cs := by simp [flat]
    rw [e1]
    obtain ⟨hl, hv⟩ := ho
    refine ⟨hl, ?_⟩
    rcases hv with h0 | ⟨g, cap, cur, h1, h2, h3, h4⟩
    · exact Or.inl h0
    · exact Or.inr ⟨g, cap, cur, h1, h2, by rw [o4 g fun e => nown (by rw [h1, ← e]; rfl)]; exact h3, h4⟩
  · rw [List.length_append, List.length_singleton] at hi
    by_cases hlt : i < xs.length
    · simp only [if_pos hlt]
      rw [List.getElem_append_left hlt]
      exact node.ndSh.mono (node.ndSh.on (hk i hlt) fun b hS => same b hS.2.1 hS.2.2.1 hS.2.2.2) fun b hS => ⟨hS.1, by omega, hS.2.2.1, newown b hS.2.1 hS.2.2.2⟩
    · simp only [if_neg hlt]
      rw [List.getElem_append_right (by omega)]
      have hno : ∀ b, r0 ≤ b → v.ownBlock ≠ some b := fun b hb e => by have := hro b e; omega
      have e0 : i - xs.length = 0 := by omega
      simp only [e0, List.getElem_cons_zero]
      exact node.ndSh.mono (node.ndSh.on hr fun b hS => same b hS.2 (by omega) (hno b hS.1)) fun b hS => ⟨by omega, by omega, by omega, newown b hS.2 (hno b hS.1)⟩
end

theorem Kids.slice {w wr : World} {Ab : Nat} {v : Value} {xs : List node.Nd} (h : Kids w wr Ab v xs) : ∃ a c, v = .slice a xs.length c := by
  obtain ⟨css, hr, -⟩ := h
  rcases hr.2 with ⟨h1, h0⟩ | ⟨g, cap, cur, h1, -⟩
  · exact ⟨none, 0, by rw [h1, h0]⟩
  · exact ⟨_, _, h1⟩
theorem Kids.rep {w wr : World} {Ab : Nat} {v : Value} {xs : List node.Nd} (h : Kids w wr Ab v xs) : node.ndSh.slice.rep wr (fun b => w.heap.size < b ∧ b < wr.heap.size) [v] xs := by
  obtain ⟨css, hr, hk⟩ := h
  have := Own.slice (A := node.ndSh) (t := 36) (base := w.heap.size + 1) (S := fun b => w.heap.size < b ∧ b < wr.heap.size) (v := v) (xs := xs) (w := wr) ⟨css, hr, fun i hi => node.ndSh.mono (hk i hi) fun b hS => ⟨hS.1, hS.2.1⟩⟩ (by decide)
  exact node.ndSh.slice.mono this fun b hS => by rcases hS with h | h <;> omega

set_option maxRecDepth 100000 in
set_option maxHeartbeats 4000000 in
/-- l3Node, whose kids' row is its own. -/
theorem node3_own (op : Int) (hop : -9223372036854775808 ≤ op ∧ op ≤ 9223372036854775807) (ks : List node.Nd) (q o c : Nat) (w : World) (S : Nat → Prop) (hSS : ∀ b, S b → b < w.heap.size) (hl : 0 < ks.length ∧ ks.length ≤ 3)
    (h : node.ndSh.slice.rep w S [.slice (some ⟨q, o, none⟩) ks.length c] ks) :
    Calls Tryz.prog 66 #[.int .i64 op, .slice (some ⟨q, o, none⟩) ks.length c] w fun e w' => (∃ av cv css, e = .returned (.agg #[.int .i64 op, .int .i64 0, .string ⟨#[]⟩, .string ⟨#[]⟩, .slice av ks.length cv]) ∧ w'.ownsRow (w.heap.size + 1) 36 5 (.slice av ks.length cv) ks.length (flat css ks.length) ∧ ∀ i (h : i < ks.length), node.ndSh.rep w' S (css i) ks[i]) ∧ Below w.heap.size w w' := by
  obtain ⟨a, cap, css, e, hcap, hmax, hrow, hk⟩ := node.nds_open h
  cases e
  have hq : q < w.heap.size := by
    obtain ⟨b, o', e, hS, -⟩ := hrow 0 hl.1
    cases e
    exact hSS _ hS
  have hcells : CellsAt w q o (flat css ks.length) := flat_row (fun i hi => node.ndSh.len (hk i hi)) hrow
  have HK : Hid (∀ i (h : i < ks.length), node.ndSh.rep w S (css i) ks[i]) := hk
  obtain ⟨w0, hw0⟩ : ∃ w0, w0 = w.alloc (.cells #[.int .i64 0, .int .i64 0, .string ⟨#[]⟩, .string ⟨#[]⟩, .slice none 0 0] 36) := ⟨_, rfl⟩
  have HW0 : Hid (w0 = w.alloc (.cells #[.int .i64 0, .int .i64 0, .string ⟨#[]⟩, .string ⟨#[]⟩, .slice none 0 0] 36)) := hw0
  have hz0 : w0.heap.size = w.heap.size + 1 := by rw [hw0]; simp
  have hp0 : w0.heap[w.heap.size]? = some (.cells #[.int .i64 0, .int .i64 0, .string ⟨#[]⟩, .string ⟨#[]⟩, .slice none 0 0] 36) := by rw [hw0]; exact alloc_top _ _
  have b0 : Below w.heap.size w w0 := by rw [hw0]; exact (Below.refl _ _).alloc (Nat.le_refl _) _
  have b1 : Below w0.heap.size w0 (w0.alloc (.cells #[] 36)) := (Below.refl _ _).alloc (Nat.le_refl _) _
  have B1 : Hid (Below w.heap.size w (w0.alloc (.cells #[] 36))) := b0.trans (b1.mono (by omega))
  have NEW : Hid (∀ j u, (flat css ks.length)[j]? = some u → (w0.alloc (.cells #[] 36)).cell? ((⟨q, o, none⟩ : Addr).add j) = some u) := fun j u hu => by
    rw [add_plain, B1.out.cell (p := ⟨q, o + j, none⟩) hq]
    exact hcells j u hu
  have ONE : Hid (∀ u ∈ flat css ks.length, u.oneCell' = true) := fun u hu => by
    obtain ⟨i, hi, hm⟩ := flat_mem hu
    exact node.ndSh.one (HK.out i hi) u hm
  have LEN : Hid ((flat css ks.length).length = ks.length * 5) := flat_length fun i hi => node.ndSh.len (HK.out i hi)
  have L0 : Hid ((w0.alloc (.cells #[] 36)).ownsRow w0.heap.size 36 5 (.slice (some ⟨w0.heap.size, 0, none⟩) 0 0) 0 []) := World.ownsRow_lit w0 #[] 0 (Nat.le_refl _) (Nat.zero_le _) rfl
  obtain ⟨ti, hti, hzz⟩ := Option.map_eq_some_iff.1 infoNd
  simp only [Prod.mk.injEq] at hzz
  obtain ⟨hi0, hi1, hi2⟩ := hzz
  have TI : Hid (Tryz.prog.info? 36 = some ti ∧ ti.zero = some (.agg #[.int .i64 0, .int .i64 0, .string ⟨#[]⟩, .string ⟨#[]⟩, .slice none 0 0]) ∧ ti.size = 5 ∧ ti.bytes = 72) := ⟨hti, hi0, hi1, hi2⟩
  clear h hk hrow hcells hw0 b0 b1 hti hi0 hi1 hi2
  go_enter Tryz.func66, Tryz.ntmps66
  go_wp2_with (first
    | (at_builtin
       rw [← HW0.out]
       refine wpList_append_own_at _ rfl _ _ 34 rfl w0.heap.size 36 ti _ 5 72 Tryz.underlying34 TI.out.1 TI.out.2.1 TI.out.2.2.1 TI.out.2.2.2 rfl (by decide) (.slice (some ⟨w0.heap.size, 0, none⟩) 0 0) 0 [] (by simp [Act.eval, hz0]) L0.out ⟨q, o, none⟩ ks.length c (flat css ks.length) (by simp [Act.eval]) LEN.out NEW.out ONE.out (by unfold maxLen; omega) (by omega) (by simp) ?_
       intro v' w2 hown hgrow _ hat
       have OW : Hid (rose.Own node.ndSh 36 w2 w0.heap.size S v' ks ∧ Below w.heap.size w w2 ∧ w2.heap[w.heap.size]? = some (.cells #[.int .i64 0, .int .i64 0, .string ⟨#[]⟩, .string ⟨#[]⟩, .slice none 0 0] 36)) := own_kids hSS hz0 hp0 HK.out B1.out L0.out hown hgrow
       obtain ⟨av, cv, rfl⟩ : ∃ av cv, v' = .slice av ks.length cv := by
         obtain ⟨av, cv, e⟩ := slice_cells (OW.out.1.slice (by decide))
         exact ⟨av, cv, by simpa using e⟩
       have r0 : w2.cell? ⟨w.heap.size, 0, none⟩ = some (.int .i64 0) := blk_cellP (i := 0) OW.out.2.2 rfl
       have r1 : w2.cell? ⟨w.heap.size, 1, none⟩ = some (.int .i64 0) := blk_cellP (i := 1) OW.out.2.2 rfl
       have r2 : w2.cell? ⟨w.heap.size, 2, none⟩ = some (.string ⟨#[]⟩) := blk_cellP (i := 2) OW.out.2.2 rfl
       have r3 : w2.cell? ⟨w.heap.size, 3, none⟩ = some (.string ⟨#[]⟩) := blk_cellP (i := 3) OW.out.2.2 rfl
       have r4 : w2.cell? ⟨w.heap.size, 4, none⟩ = some (.slice none 0 0) := blk_cellP (i := 4) OW.out.2.2 rfl
       have fr : ∀ o, w2.frozen? ⟨w.heap.size, o, none⟩ = false := fun o => blk_freeP OW.out.2.2
       clear hown hgrow hat)
    | go_in)
  refine bodyPost_ret (v := .agg #[.int .i64 op, .int .i64 0, .string ⟨#[]⟩, .string ⟨#[]⟩, .slice av ks.length cv]) (by simp [results, Tryz.f66, go_sem, r0, r1, r2, r3, r4]) rfl ?_
  obtain ⟨hO, hB, -⟩ := OW.out
  have hsz := hB.size
  have hz2 : w.heap.size < w2.heap.size := cell_lt r0
  obtain ⟨cs2, hrow2, hk2⟩ := hO
  refine ⟨⟨av, cv, cs2, by rfl, ?_, fun i hi => node.ndSh.on (hk2 i hi) fun b hS => ?_⟩, ?_⟩
  · rw [hz0] at hrow2
    refine row_on hrow2 fun g hg _ => ?_
    repeat rw [Below.heap_setCell _ _ _ _ (by simp; omega)]
  · have := hSS b hS
    repeat rw [Below.heap_setCell _ _ _ _ (by simp; omega)]
  · repeat first | with_reducible exact hB | (refine Below.setCell ?_ (by first | (simp; done) | (simp; omega)) _)

end Go.Proofs.YtlnpfnglphdaiaaGreatDoor.tok
