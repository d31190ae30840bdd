/-
  The values that the model's laws draw (l10DrawValue, DrawValueText, DrawValueOk): some, in new memory, of a bounded weight.
  The model's Digits, at every int, returns the decimal numeral and turns nothing that was there. No condition beyond the int's own bounds.
  Plain facts on decimal numerals, no Go in sight: the number that a text spells, if it is a word from 0 on and the text is its numeral. No condition.
-/
import Derived.Test.YtlnpfnglphdaiaaGreatDoorChecked
import Derived.WalkKit
import Derived.WalkLawsBesides
import Derived.Lib.ItoaNum
import Derived.Laws.IdiomStrings
import Derived.Lib.ItoaLen
import Derived.Lib.Atoi
import Derived.Test.YtlnpfnglphdaiaaGreatDoorB1
import Derived.Test.YtlnpfnglphdaiaaGreatDoorB2
import Derived.Test.YtlnpfnglphdaiaaGreatDoorB3
import Derived.Test.YtlnpfnglphdaiaaGreatDoorB4
namespace Go.Proofs.YtlnpfnglphdaiaaGreatDoor.value
open Go Go.RowKit Go.Deep Go.Proofs.YtlnpfnglphdaiaaGreatDoor.rose Go.Proofs.YtlnpfnglphdaiaaGreatDoor Go.Proofs.YtlnpfnglphdaiaaGreatDoor.cur
set_option linter.unusedVariables false
set_option linter.unusedSimpArgs false

/-- A value in block Vb, its kids behind w's blocks and ahead of it. -/
structure Vh (w wr : World) (Vb : Nat) (k n : Int) (s : ByteArray) (a : Option Addr) (l c : Nat) (ks : List ValueD) : Prop where
  blk : wr.heap[Vb]? = some (.cells #[.int .i64 k, .int .i64 n, .string s, .slice a l c] 26)
  lo : w.heap.size < Vb
  hl : l = ks.length
  kids : valuePs.rep wr (fun b => w.heap.size < b ∧ b < Vb) [.slice a l c] ks
theorem Vh.lt {w wr : World} {Vb : Nat} {k n : Int} {s : ByteArray} {a : Option Addr} {l c : Nat} {ks : List ValueD} (h : Vh w wr Vb k n s a l c ks) : Vb < wr.heap.size := (Array.getElem?_eq_some_iff.1 h.blk).1
theorem Vh.by {w wr w2 : World} {Vb p : Nat} {k n : Int} {s : ByteArray} {a : Option Addr} {l c : Nat} {ks : List ValueD} (h : Vh w wr Vb k n s a l c ks) (hg : wr.grownBy w2 (some p)) (hp : p < w.heap.size) : Vh w w2 Vb k n s a l c ks := by
  have h1 := h.lt
  have h2 := h.lo
  exact ⟨(hg.block _ h1 fun e => by simp only [Option.some.injEq] at e; omega).trans h.blk, h.lo, h.hl, valuePs.on h.kids fun b hS => hg.block b (by omega) fun e => by simp only [Option.some.injEq] at e; omega⟩
/-- One of its own cells is turned. -/
theorem Vh.set {w wr w2 : World} {Vb o : Nat} {v : Value} {k n k2 n2 : Int} {s s2 : ByteArray} {a : Option Addr} {l c : Nat} {ks : List ValueD} (h : Vh w wr Vb k n s a l c ks) (hw : w2 = wr.setCell ⟨Vb, o, none⟩ v) (hv : (o = 0 ∧ v = .int .i64 k2 ∧ n2 = n ∧ s2 = s) ∨ (o = 1 ∧ v = .int .i64 n2 ∧ k2 = k ∧ s2 = s) ∨ (o = 2 ∧ v = .string s2 ∧ k2 = k ∧ n2 = n)) : Vh w w2 Vb k2 n2 s2 a l c ks := by
  have hb := h.blk
  refine ⟨?_, h.lo, h.hl, valuePs.on h.kids fun b hS => by rw [hw]; exact Below.heap_setCell _ _ _ _ (by simp; omega)⟩
  rw [hw]
  rcases hv with ⟨rfl, rfl, rfl, rfl⟩ | ⟨rfl, rfl, rfl, rfl⟩ | ⟨rfl, rfl, rfl, rfl⟩
  all_goals simp [World.setCell, Array.getElem?_modify, hb]
theorem Vh.rep {w wr : World} {Vb : Nat} {k n : Int} {s : ByteArray} {a : Option Addr} {l c : Nat} {ks : List ValueD} (h : Vh w wr Vb k n s a l c ks) (h1 : -9223372036854775808 ≤ k ∧ k ≤ 9223372036854775807) (h2 : -9223372036854775808 ≤ n ∧ n ≤ 9223372036854775807) (h3 : s.size ≤ maxLen) : valueP.rep wr (fun b => w.heap.size < b ∧ b < wr.heap.size) [.int .i64 k, .int .i64 n, .string s, .slice a l c] (.mk (k, n, s) ks) := by
  have hk := h.kids
  have hlt := h.lt
  obtain ⟨hb, hlo, hl, -⟩ := h
  subst hl
  exact Sh.of (value_shut h1 h2 h3 (Sh.bare (valuePs.mono hk fun b hS => ⟨hS.1, by omega⟩)))
theorem Vx.set {B p : Nat} {w wr w2 : World} {Vb o : Nat} {v : Value} (h : Vx B p w wr) (hV : w.heap.size < Vb) (hw : w2 = wr.setCell ⟨Vb, o, none⟩ v) : Vx B p w w2 := by
  have hl := h.lo
  have hB := h.cur.le
  have hoth : ∀ b, b ≠ Vb → w2.heap[b]? = wr.heap[b]? := fun b hb => by rw [hw]; exact Below.heap_setCell _ _ _ _ hb
  have hz : w2.heap.size = wr.heap.size := by rw [hw]; simp [World.setCell]
  refine ⟨?_, ⟨by rw [hw]; exact h.gr.os, by rw [hw]; exact h.gr.tape, by rw [hw]; exact h.gr.output, by have := h.gr.size; omega, fun q hq hn => (hoth q (by omega)).trans (h.gr.block q hq hn)⟩, (hoth _ (by omega)).trans h.res, h.lo⟩
  obtain ⟨a, len, cap, i, hh, hp, hi, hC, hB'⟩ := h.cur
  exact ⟨a, len, cap, i, hh, by rw [hoth p (by omega)]; exact hp, hi, hC.of_cells fun ad had => World.cell?_of_block (hoth ad.block (by omega)), hB'⟩

set_option maxRecDepth 100000 in
set_option maxHeartbeats 4000000 in
theorem v10_any (B p : Nat) (w : World) (hc : Cur B w p) : Calls Tryz.prog 12 #[.pointer (some ⟨p, 0, none⟩)] w (Drawn B p 80 w) := by
  obtain ⟨w0, hw0⟩ : ∃ w0, w0 = w.alloc (.cells #[.int .i64 0, .int .i64 0, .string ⟨#[]⟩, .slice none 0 0] 26) := ⟨_, rfl⟩
  have HW0 : Hid (w0 = w.alloc (.cells #[.int .i64 0, .int .i64 0, .string ⟨#[]⟩, .slice none 0 0] 26)) := hw0
  have V0 : Hid (Vx B p w w0) := Vx.start hc hw0
  have hpw := hc.lt
  clear hw0 hc
  have HX := v0_any 3 (by decide) B p w0 V0.out.cur
  go_enter Tryz.func12, Tryz.ntmps12
  go_wp2_with fail
  rw [← HW0.out]
  refine HX.mono ?_
  rintro e w1 ⟨cs, T, rfl, hr, hw, hc1, hg1⟩
  obtain ⟨x0, x1, x2, xk, xa, xc, rfl, rfl, f0, f1, f2, f3⟩ := value_open (Sh.bare hr)
  obtain ⟨xl, hxl⟩ : ∃ n, n = xk.length := ⟨_, rfl⟩
  have HXL : Hid (xl = xk.length) := hxl
  rw [← hxl] at hr f3 ⊢
  have V1 : Hid (Vx B p w w1) := V0.out.by hg1 hc1
  have HF : Hid ((-9223372036854775808 ≤ x0 ∧ x0 ≤ 9223372036854775807) ∧ (-9223372036854775808 ≤ x1 ∧ x1 ≤ 9223372036854775807) ∧ x2.size ≤ maxLen ∧ x2.size + (xk.length + wts xk) ≤ 63) := ⟨f0, f1, f2, by simp only [wt] at hw; omega⟩
  obtain ⟨w2, hw2⟩ : ∃ x, x = w1.alloc (.cells #[.int .i64 x0, .int .i64 x1, .string x2, .slice xa xl xc] 26) := ⟨_, rfl⟩
  have HW2 : Hid (w2 = w1.alloc (.cells #[.int .i64 x0, .int .i64 x1, .string x2, .slice xa xl xc] 26)) := hw2
  have hB : Below w1.heap.size w1 w2 := by rw [hw2]; exact (Below.refl _ _).alloc (Nat.le_refl _) _
  have V2 : Hid (Vx B p w w2) := V1.out.on hB
  have H2 : Hid (Vh w w2 w1.heap.size x0 x1 x2 xa xl xc xk) := ⟨by rw [hw2]; exact alloc_top _ _, V1.out.lt, hxl, valuePs.mono (valuePs.on (Sh.of f3) fun b hS => hB.block b hS.2) fun b hS => ⟨by have := V0.out.lt; omega, hS.2⟩⟩
  obtain ⟨Vb, hVb⟩ : ∃ n, n = w1.heap.size := ⟨_, rfl⟩
  have HVB : Hid (Vb = w1.heap.size) := hVb
  rw [← hVb] at H2
  clear HX hr hw hc1 hg1 f0 f1 f2 f3 hw2 hB hxl hVb
  have HX := below_small B p 12 w2 V2.out.cur (by decide) (by decide)
  go_wp2_with fail
  rw [← HW2.out, ← HVB.out]
  refine HX.mono ?_
  rintro e w3 ⟨x, rfl, hx0, hx1, hc3, hg3⟩
  have V3 : Hid (Vx B p w w3) := V2.out.by hg3 hc3
  have H3 : Hid (Vh w w3 Vb x0 x1 x2 xa xl xc xk) := H2.out.by hg3 hpw
  clear HX hc3 hg3 H2 V2
  have hVl := H3.out.lo
  by_cases hxc0 : x = 0
  · subst hxc0
    have HX := below_small B p 6 w3 V3.out.cur (by decide) (by decide)
    go_wp2_with fail
    refine HX.mono ?_
    rintro e w4 ⟨y, rfl, hy0, hy1, hc4, hg4⟩
    have V4 : Hid (Vx B p w w4) := V3.out.by hg4 hc4
    have H4 : Hid (Vh w w4 Vb x0 x1 x2 xa xl xc xk) := H3.out.by hg4 hpw
    clear HX hc4 hg4
    have a0 : w4.cell? ⟨Vb, 0, none⟩ = some (.int .i64 x0) := dblk (i := 0) H4.out.blk rfl
    have fa : ∀ o, w4.frozen? ⟨Vb, o, none⟩ = false := fun o => dfree H4.out.blk
    obtain ⟨w5, hw5⟩ : ∃ x, x = w4.setCell ⟨Vb, 0, none⟩ (.int .i64 (y - 1)) := ⟨_, rfl⟩
    have V5 : Hid (Vx B p w w5) := V4.out.set hVl hw5
    have H5 : Hid (Vh w w5 Vb (y - 1) x1 x2 xa xl xc xk) := H4.out.set hw5 (.inl ⟨rfl, rfl, rfl, rfl⟩)
    have HT : Hid (∀ w', w5.grownBy w' (some w.heap.size) → Drawn B p 80 w (.returned (.agg [.int .i64 (y - 1), .int .i64 x1, .string x2, .slice xa xl xc].toArray)) w') := fun w' hg' => V5.out.done (T := .mk ((y - 1), x1, x2) xk) (H5.out.rep (by omega) HF.out.2.1 HF.out.2.2.1) (by have h := HF.out.2.2.2; simp only [wt]; omega) hg'
    have y0 : w5.cell? ⟨Vb, 0, none⟩ = some (.int .i64 (y - 1)) := dblk (i := 0) H5.out.blk rfl
    have y1 : w5.cell? ⟨Vb, 1, none⟩ = some (.int .i64 x1) := dblk (i := 1) H5.out.blk rfl
    have y2 : w5.cell? ⟨Vb, 2, none⟩ = some (.string x2) := dblk (i := 2) H5.out.blk rfl
    have y3 : w5.cell? ⟨Vb, 3, none⟩ = some (.slice xa xl xc) := dblk (i := 3) H5.out.blk rfl
    have r0 : w5.cell? ⟨w.heap.size, 0, none⟩ = some (.int .i64 0) := dblk (i := 0) V5.out.res rfl
    have r1 : w5.cell? ⟨w.heap.size, 1, none⟩ = some (.int .i64 0) := dblk (i := 1) V5.out.res rfl
    have r2 : w5.cell? ⟨w.heap.size, 2, none⟩ = some (.string ⟨#[]⟩) := dblk (i := 2) V5.out.res rfl
    have r3 : w5.cell? ⟨w.heap.size, 3, none⟩ = some (.slice none 0 0) := dblk (i := 3) V5.out.res rfl
    have fr : ∀ o, w5.frozen? ⟨w.heap.size, o, none⟩ = false := fun o => dfree V5.out.res
    rw [hw5] at r0 r1 r2 r3 fr y0 y1 y2 y3 HT
    clear hw5 V5 H5
    go_wp2
    refine bodyPost_ret (v := .agg #[.int .i64 (y - 1), .int .i64 x1, .string x2, .slice xa xl xc]) (by simp [results, Tryz.f12, go_sem, r0, r1, r2, r3]) rfl ?_
    refine HT.out _ ?_
    repeat first | exact by_self _ _ | (refine by_by ?_ (by_set _ _ _ _))
  · have hn0 : ¬ x = 0 := hxc0
    clear hxc0
    by_cases hxc1 : x = 1
    · subst hxc1
      obtain ⟨w4, hw4⟩ : ∃ x, x = w3.alloc (.cells #[.string ⟨#[67, 111, 110, 115]⟩, .string ⟨#[81]⟩, .string ⟨#[]⟩] 9) := ⟨_, rfl⟩
      have HW4 : Hid (w4 = w3.alloc (.cells #[.string ⟨#[67, 111, 110, 115]⟩, .string ⟨#[81]⟩, .string ⟨#[]⟩] 9)) := hw4
      have hB : Below w3.heap.size w3 w4 := by rw [hw4]; exact (Below.refl _ _).alloc (Nat.le_refl _) _
      have V4 : Hid (Vx B p w w4) := V3.out.on hB
      have H4 : Hid (Vh w w4 Vb x0 x1 x2 xa xl xc xk) := H3.out.by (p := p) (by_below hB) hpw
      have hlt3 := V3.out.lt
      have hn3 := strs_new w3 [⟨#[67, 111, 110, 115]⟩, ⟨#[81]⟩, ⟨#[]⟩] 9 4 (by decide)
      have HX := pick_any B p w3.heap.size 3 4 w4 V4.out.cur (by decide) (by decide) (by omega) (by rw [hw4]; simp) (by rw [hw4]; exact hn3)
      clear hn3
      go_wp2_with fail
      rw [← HW4.out]
      refine HX.mono ?_
      rintro e w5 ⟨s, rfl, hs, hc5, hg5⟩
      have V5 : Hid (Vx B p w w5) := V4.out.by hg5 hc5
      have H5 : Hid (Vh w w5 Vb x0 x1 x2 xa xl xc xk) := H4.out.by hg5 hpw
      have HSS : Hid (s.size ≤ 4) := hs
      clear HX hc5 hg5 hB hw4 hs
      have a2 : w5.cell? ⟨Vb, 2, none⟩ = some (.string x2) := dblk (i := 2) H5.out.blk rfl
      have fa : ∀ o, w5.frozen? ⟨Vb, o, none⟩ = false := fun o => dfree H5.out.blk
      obtain ⟨w6, hw6⟩ : ∃ x, x = w5.setCell ⟨Vb, 2, none⟩ (.string s) := ⟨_, rfl⟩
      have V6 : Hid (Vx B p w w6) := V5.out.set hVl hw6
      have H6 : Hid (Vh w w6 Vb x0 x1 s xa xl xc xk) := H5.out.set hw6 (.inr (.inr ⟨rfl, rfl, rfl, rfl⟩))
      have HT : Hid (∀ w', w6.grownBy w' (some w.heap.size) → Drawn B p 80 w (.returned (.agg [.int .i64 x0, .int .i64 x1, .string s, .slice xa xl xc].toArray)) w') := fun w' hg' => V6.out.done (T := .mk (x0, x1, s) xk) (H6.out.rep HF.out.1 HF.out.2.1 (by have := HSS.out; unfold maxLen; omega)) (by have h := HF.out.2.2.2; have := HSS.out; simp only [wt]; omega) hg'
      have y0 : w6.cell? ⟨Vb, 0, none⟩ = some (.int .i64 x0) := dblk (i := 0) H6.out.blk rfl
      have y1 : w6.cell? ⟨Vb, 1, none⟩ = some (.int .i64 x1) := dblk (i := 1) H6.out.blk rfl
      have y2 : w6.cell? ⟨Vb, 2, none⟩ = some (.string s) := dblk (i := 2) H6.out.blk rfl
      have y3 : w6.cell? ⟨Vb, 3, none⟩ = some (.slice xa xl xc) := dblk (i := 3) H6.out.blk rfl
      have r0 : w6.cell? ⟨w.heap.size, 0, none⟩ = some (.int .i64 0) := dblk (i := 0) V6.out.res rfl
      have r1 : w6.cell? ⟨w.heap.size, 1, none⟩ = some (.int .i64 0) := dblk (i := 1) V6.out.res rfl
      have r2 : w6.cell? ⟨w.heap.size, 2, none⟩ = some (.string ⟨#[]⟩) := dblk (i := 2) V6.out.res rfl
      have r3 : w6.cell? ⟨w.heap.size, 3, none⟩ = some (.slice none 0 0) := dblk (i := 3) V6.out.res rfl
      have fr : ∀ o, w6.frozen? ⟨w.heap.size, o, none⟩ = false := fun o => dfree V6.out.res
      rw [hw6] at r0 r1 r2 r3 fr y0 y1 y2 y3 HT
      clear hw6 V6 H6
      go_wp2
      refine bodyPost_ret (v := .agg #[.int .i64 x0, .int .i64 x1, .string s, .slice xa xl xc]) (by simp [results, Tryz.f12, go_sem, r0, r1, r2, r3]) rfl ?_
      refine HT.out _ ?_
      repeat first | exact by_self _ _ | (refine by_by ?_ (by_set _ _ _ _))
    · have hn1 : ¬ x = 1 := hxc1
      clear hxc1
      by_cases hxc2 : x = 2
      · subst hxc2
        have HX := drawAny_any B p w3 V3.out.cur
        go_wp2_with fail
        refine HX.mono ?_
        rintro e w4 ⟨y, rfl, hy0, hy1, hc4, hg4⟩
        have V4 : Hid (Vx B p w w4) := V3.out.by hg4 hc4
        have H4 : Hid (Vh w w4 Vb x0 x1 x2 xa xl xc xk) := H3.out.by hg4 hpw
        clear HX hc4 hg4
        have a1 : w4.cell? ⟨Vb, 1, none⟩ = some (.int .i64 x1) := dblk (i := 1) H4.out.blk rfl
        have fa : ∀ o, w4.frozen? ⟨Vb, o, none⟩ = false := fun o => dfree H4.out.blk
        obtain ⟨w5, hw5⟩ : ∃ x, x = w4.setCell ⟨Vb, 1, none⟩ (.int .i64 y) := ⟨_, rfl⟩
        have V5 : Hid (Vx B p w w5) := V4.out.set hVl hw5
        have H5 : Hid (Vh w w5 Vb x0 y x2 xa xl xc xk) := H4.out.set hw5 (.inr (.inl ⟨rfl, rfl, rfl, rfl⟩))
        have HT : Hid (∀ w', w5.grownBy w' (some w.heap.size) → Drawn B p 80 w (.returned (.agg [.int .i64 x0, .int .i64 y, .string x2, .slice xa xl xc].toArray)) w') := fun w' hg' => V5.out.done (T := .mk (x0, y, x2) xk) (H5.out.rep HF.out.1 ⟨hy0, hy1⟩ HF.out.2.2.1) (by have h := HF.out.2.2.2; simp only [wt]; omega) hg'
        have y0 : w5.cell? ⟨Vb, 0, none⟩ = some (.int .i64 x0) := dblk (i := 0) H5.out.blk rfl
        have y1 : w5.cell? ⟨Vb, 1, none⟩ = some (.int .i64 y) := dblk (i := 1) H5.out.blk rfl
        have y2 : w5.cell? ⟨Vb, 2, none⟩ = some (.string x2) := dblk (i := 2) H5.out.blk rfl
        have y3 : w5.cell? ⟨Vb, 3, none⟩ = some (.slice xa xl xc) := dblk (i := 3) H5.out.blk rfl
        have r0 : w5.cell? ⟨w.heap.size, 0, none⟩ = some (.int .i64 0) := dblk (i := 0) V5.out.res rfl
        have r1 : w5.cell? ⟨w.heap.size, 1, none⟩ = some (.int .i64 0) := dblk (i := 1) V5.out.res rfl
        have r2 : w5.cell? ⟨w.heap.size, 2, none⟩ = some (.string ⟨#[]⟩) := dblk (i := 2) V5.out.res rfl
        have r3 : w5.cell? ⟨w.heap.size, 3, none⟩ = some (.slice none 0 0) := dblk (i := 3) V5.out.res rfl
        have fr : ∀ o, w5.frozen? ⟨w.heap.size, o, none⟩ = false := fun o => dfree V5.out.res
        rw [hw5] at r0 r1 r2 r3 fr y0 y1 y2 y3 HT
        clear hw5 V5 H5
        go_wp2
        refine bodyPost_ret (v := .agg #[.int .i64 x0, .int .i64 y, .string x2, .slice xa xl xc]) (by simp [results, Tryz.f12, go_sem, r0, r1, r2, r3]) rfl ?_
        refine HT.out _ ?_
        repeat first | exact by_self _ _ | (refine by_by ?_ (by_set _ _ _ _))
      · have hn2 : ¬ x = 2 := hxc2
        clear hxc2
        by_cases hxc3 : x = 3
        · subst hxc3
          have HX := drawAny_any B p w3 V3.out.cur
          go_wp2_with fail
          refine HX.mono ?_
          rintro e w4 ⟨y, rfl, hy0, hy1, hc4, hg4⟩
          have V4 : Hid (Vx B p w w4) := V3.out.by hg4 hc4
          clear HX hc4 hg4
          have HT : Hid (∀ w', w4.grownBy w' (some w.heap.size) → Drawn B p 80 w (.returned (.agg [.int .i64 1, .int .i64 y, .string ⟨#[]⟩, .slice none 0 0].toArray)) w') := fun w' hg' => V4.out.done (T := .mk (1, y, ⟨#[]⟩) []) (vleaf (by omega) ⟨hy0, hy1⟩ (by decide)) (by rw [vleaf_wt]; decide) hg'
          have r0 : w4.cell? ⟨w.heap.size, 0, none⟩ = some (.int .i64 0) := dblk (i := 0) V4.out.res rfl
          have r1 : w4.cell? ⟨w.heap.size, 1, none⟩ = some (.int .i64 0) := dblk (i := 1) V4.out.res rfl
          have r2 : w4.cell? ⟨w.heap.size, 2, none⟩ = some (.string ⟨#[]⟩) := dblk (i := 2) V4.out.res rfl
          have r3 : w4.cell? ⟨w.heap.size, 3, none⟩ = some (.slice none 0 0) := dblk (i := 3) V4.out.res rfl
          have fr : ∀ o, w4.frozen? ⟨w.heap.size, o, none⟩ = false := fun o => dfree V4.out.res
          go_wp2
          refine bodyPost_ret (v := .agg #[.int .i64 1, .int .i64 y, .string ⟨#[]⟩, .slice none 0 0]) (by simp [results, Tryz.f12, go_sem, r0, r1, r2, r3]) rfl ?_
          refine HT.out _ ?_
          repeat first | exact by_self _ _ | (refine by_by ?_ (by_set _ _ _ _))
        · have hn3 : ¬ x = 3 := hxc3
          clear hxc3
          by_cases hxc4 : x = 4
          · subst hxc4
            have HT : Hid (∀ w', w3.grownBy w' (some w.heap.size) → Drawn B p 80 w (.returned (.agg [.int .i64 3, .int .i64 0, .string ⟨#[]⟩, .slice none 0 0].toArray)) w') := fun w' hg' => V3.out.done (T := .mk (3, 0, ⟨#[]⟩) []) (vleaf (by omega) (by omega) (by decide)) (by rw [vleaf_wt]; decide) hg'
            have r0 : w3.cell? ⟨w.heap.size, 0, none⟩ = some (.int .i64 0) := dblk (i := 0) V3.out.res rfl
            have r1 : w3.cell? ⟨w.heap.size, 1, none⟩ = some (.int .i64 0) := dblk (i := 1) V3.out.res rfl
            have r2 : w3.cell? ⟨w.heap.size, 2, none⟩ = some (.string ⟨#[]⟩) := dblk (i := 2) V3.out.res rfl
            have r3 : w3.cell? ⟨w.heap.size, 3, none⟩ = some (.slice none 0 0) := dblk (i := 3) V3.out.res rfl
            have fr : ∀ o, w3.frozen? ⟨w.heap.size, o, none⟩ = false := fun o => dfree V3.out.res
            go_wp2
            refine bodyPost_ret (v := .agg #[.int .i64 3, .int .i64 0, .string ⟨#[]⟩, .slice none 0 0]) (by simp [results, Tryz.f12, go_sem, r0, r1, r2, r3]) rfl ?_
            refine HT.out _ ?_
            repeat first | exact by_self _ _ | (refine by_by ?_ (by_set _ _ _ _))
          · have hn4 : ¬ x = 4 := hxc4
            clear hxc4
            have HT : Hid (∀ w', w3.grownBy w' (some w.heap.size) → Drawn B p 80 w (.returned (.agg [.int .i64 x0, .int .i64 x1, .string x2, .slice xa xl xc].toArray)) w') := fun w' hg' => V3.out.done (T := .mk (x0, x1, x2) xk) (H3.out.rep HF.out.1 HF.out.2.1 HF.out.2.2.1) (by have h := HF.out.2.2.2; simp only [wt]; omega) hg'
            have y0 : w3.cell? ⟨Vb, 0, none⟩ = some (.int .i64 x0) := dblk (i := 0) H3.out.blk rfl
            have y1 : w3.cell? ⟨Vb, 1, none⟩ = some (.int .i64 x1) := dblk (i := 1) H3.out.blk rfl
            have y2 : w3.cell? ⟨Vb, 2, none⟩ = some (.string x2) := dblk (i := 2) H3.out.blk rfl
            have y3 : w3.cell? ⟨Vb, 3, none⟩ = some (.slice xa xl xc) := dblk (i := 3) H3.out.blk rfl
            have r0 : w3.cell? ⟨w.heap.size, 0, none⟩ = some (.int .i64 0) := dblk (i := 0) V3.out.res rfl
            have r1 : w3.cell? ⟨w.heap.size, 1, none⟩ = some (.int .i64 0) := dblk (i := 1) V3.out.res rfl
            have r2 : w3.cell? ⟨w.heap.size, 2, none⟩ = some (.string ⟨#[]⟩) := dblk (i := 2) V3.out.res rfl
            have r3 : w3.cell? ⟨w.heap.size, 3, none⟩ = some (.slice none 0 0) := dblk (i := 3) V3.out.res rfl
            have fr : ∀ o, w3.frozen? ⟨w.heap.size, o, none⟩ = false := fun o => dfree V3.out.res
            go_wp2
            refine bodyPost_ret (v := .agg #[.int .i64 x0, .int .i64 x1, .string x2, .slice xa xl xc]) (by simp [results, Tryz.f12, go_sem, r0, r1, r2, r3]) rfl ?_
            refine HT.out _ ?_
            repeat first | exact by_self _ _ | (refine by_by ?_ (by_set _ _ _ _))

end Go.Proofs.YtlnpfnglphdaiaaGreatDoor.value

namespace Go.Proofs.YtlnpfnglphdaiaaGreatDoor.walks
open Go.RowKit
set_option maxRecDepth 100000

/-- the digits of m, none of 0 -/
def dd (m : Nat) : List UInt8 := if m = 0 then [] else Lib.decDigits m

theorem dd_step (m : Nat) (h : m ≠ 0) : dd m = dd (m / 10) ++ [UInt8.ofNat (48 + m % 10)] := by
  unfold dd
  rw [if_neg h]
  by_cases h10 : m < 10
  · rw [Lib.decDigits_one h10, if_pos (by omega), Nat.mod_eq_of_lt h10]; rfl
  · rw [Lib.decDigits, dif_neg h10, if_neg (by omega)]

/-- 'string([]byte{c})': the one byte. -/
theorem conv_one (w : World) (c : Int) (h0 : 0 ≤ c) (h1 : c < 256) :
    (convert 22 9 (.slice (some ⟨w.heap.size, 0, none⟩) 1 1)).run Tryz.prog (w.alloc (.cells #[.int .u8 c] 5)) = .ok (.string ⟨#[UInt8.ofNat c.toNat]⟩) (w.alloc (.cells #[.int .u8 c] 5)) := by
  have hc : ∀ j (hj : j < [UInt8.ofNat c.toNat].length), (w.alloc (.cells #[.int .u8 c] 5)).cell? ((⟨w.heap.size, 0, none⟩ : Addr).add j) = some (.int .u8 ([UInt8.ofNat c.toNat][j].toNat : Int)) := by
    intro j hj
    obtain rfl : j = 0 := by simpa using hj
    have e : ((UInt8.ofNat c.toNat).toNat : Int) = c := by simp [UInt8.toNat_ofNat']; omega
    simp only [List.getElem_cons_zero, e]
    exact World.cell?_alloc_new w _ 5 0
  exact run_convert_bytes_back (P := Tryz.prog) _ 22 9 5 ⟨w.heap.size, 0, none⟩ 1 [UInt8.ofNat c.toNat] Tryz.underlying22 Tryz.underlying5 Tryz.underlying9 hc

theorem byte_eq (m : Nat) : (48 : UInt8) + UInt8.ofNat (m % 10) = UInt8.ofNat (48 + m % 10) := by
  rw [UInt8.ofNat_add]; rfl

theorem dd_next {m u : Nat} {acc : List UInt8} (h : m ≠ 0) (ha : dd m ++ acc = dd u) : dd (m / 10) ++ (UInt8.ofNat (48 + m % 10) :: acc) = dd u := by
  rw [← ha, dd_step m h]; simp

theorem str_cons (b : UInt8) (acc : List UInt8) : Value.string ({ data := #[b] } ++ { data := acc.toArray }) = .string ⟨(b :: acc).toArray⟩ := by
  congr 1

theorem acc_le {m u : Nat} {acc : List UInt8} (hu : (u : Int) ≤ 9223372036854775808) (ha : dd m ++ acc = dd u) : acc.length ≤ 20 := by
  have h : (dd u).length ≤ 20 := by
    unfold dd
    split
    · simp
    · rw [Lib.decDigits_length]; exact Lib.nDigits_le20 u (by omega)
  rw [← ha, List.length_append] at h
  omega

theorem ret_str {a b : ByteArray} (h : a = b) : Ending.returned (.string a) = .returned (.string b) := by rw [h]

set_option maxHeartbeats 400000 in
theorem digits_pos (u : Nat) (hn : 0 < u) (hn2 : (u : Int) ≤ 9223372036854775807) (w : World) :
    Calls Tryz.prog 16 #[.int .i64 u] w fun e w' => e = .returned (.string ⟨(dd u).toArray⟩) ∧ Below w.heap.size w w' := by
  have e0 : ((u : Int) == 0) = false := beq_eq_false_iff_ne.2 (by omega)
  have e1 : decide ((u : Int) < 0) = false := by simp
  go_enter Tryz.func16, Tryz.ntmps16
  go_wp2
  go_loopw [0, 4, 5] (fun x o _ wr => ∃ (m : Nat) (acc : List UInt8), m ≤ u ∧ x = .int .i64 m ∧ o = .string ⟨acc.toArray⟩ ∧ Hid (dd m ++ acc = dd u) ∧ Below w.heap.size w wr) (fun x _ _ _ => (intOf x).toNat)
  case atStart => exact ⟨u, [], Nat.le_refl _, rfl, rfl, List.append_nil _, Below.refl _ _⟩
  case round =>
    obtain ⟨m, acc, hm, rfl, rfl, ha, hb⟩ := hrel
    have hl := acc_le (by omega) ha.out
    by_cases hz : m = 0
    · subst hz
      go_wp2
      go_ret
      exact ⟨ret_str (by rw [← ha.out]; rfl), hb⟩
    · have hm0 : ((m : Int) != 0) = true := by rw [bne_iff_ne]; omega
      have hcv := conv_one wr (48 + (m : Int) % 10) (by omega) (by omega)
      go_wp2
      refine ⟨⟨m / 10, UInt8.ofNat (48 + m % 10) :: acc, by omega, by go_num, ?_, dd_next hz ha.out, ?_⟩, ?_⟩
      · first | rfl | rw [byte_eq, str_cons]
      · exact hb.alloc hb.size _
      · simp [intOf]; omega

set_option maxHeartbeats 400000 in
theorem digits_neg (u : Nat) (hn : 0 < u) (hn2 : (u : Int) ≤ 9223372036854775808) (w : World) :
    Calls Tryz.prog 16 #[.int .i64 (-(u : Int))] w fun e w' => e = .returned (.string ⟨(45 :: dd u).toArray⟩) ∧ Below w.heap.size w w' := by
  have e0 : ((-(u : Int)) == 0) = false := beq_eq_false_iff_ne.2 (by omega)
  have e1 : decide (-(u : Int) < 0) = true := by simp; omega
  go_enter Tryz.func16, Tryz.ntmps16
  go_wp2
  go_loopw [0, 4, 5] (fun x o _ wr => ∃ (m : Nat) (acc : List UInt8), m ≤ u ∧ x = .int .i64 (-(m : Int)) ∧ o = .string ⟨acc.toArray⟩ ∧ Hid (dd m ++ acc = dd u) ∧ Below w.heap.size w wr) (fun x _ _ _ => (-(intOf x)).toNat)
  case atStart => exact ⟨u, [], Nat.le_refl _, rfl, rfl, List.append_nil _, Below.refl _ _⟩
  case round =>
    obtain ⟨m, acc, hm, rfl, rfl, ha, hb⟩ := hrel
    have hl := acc_le (by omega) ha.out
    by_cases hz : m = 0
    · subst hz
      go_wp2
      go_ret
      exact ⟨ret_str (by rw [← ha.out]; apply ByteArray.ext; simp [ByteArray.data_append, dd]), hb⟩
    · have hm0 : ((-(m : Int)) != 0) = true := by rw [bne_iff_ne]; omega
      have hcv := conv_one wr (48 + (m : Int) % 10) (by omega) (by omega)
      have hcv2 := fun (h : (m : Int) % 10 ≤ 0) => conv_one wr (48 + -((m : Int) % 10)) (by omega) (by omega)
      by_cases hd : 0 < (m : Int) % 10
      · clear hcv2
        go_wp2
        refine ⟨⟨m / 10, UInt8.ofNat (48 + m % 10) :: acc, by omega, by go_num, ?_, dd_next hz ha.out, ?_⟩, ?_⟩
        · first | rfl | rw [byte_eq, str_cons]
        · exact hb.alloc hb.size _
        · simp [intOf]; omega
      · have hcv2 := hcv2 (by omega)
        have hby : (48 + -((m : Int) % 10)).toNat = 48 + m % 10 := by omega
        have HB : Hid ((48 + -((m : Int) % 10)).toNat = 48 + m % 10) := hby
        clear hby hcv
        go_wp2
        refine ⟨⟨m / 10, UInt8.ofNat (48 + m % 10) :: acc, by omega, by go_num, ?_, dd_next hz ha.out, ?_⟩, ?_⟩
        · rw [HB.out, str_cons]
        · exact hb.alloc hb.size _
        · simp [intOf]; omega

theorem digits_zero (w : World) : Calls Tryz.prog 16 #[.int .i64 0] w fun e w' => e = .returned (.string ⟨#[48]⟩) ∧ Below w.heap.size w w' := by
  go_enter Tryz.func16, Tryz.ntmps16
  go_wp2
  go_ret
  exact ⟨rfl, Below.refl _ _⟩

/-- spec.Digits, at every int: its decimal numeral; of what was there nothing has turned. -/
theorem digits_any (n : Int) (h0 : -9223372036854775808 ≤ n) (h1 : n ≤ 9223372036854775807) (w : World) :
    Calls Tryz.prog 16 #[.int .i64 n] w fun e w' => e = .returned (.string ⟨(Lib.itoa n).toArray⟩) ∧ Below w.heap.size w w' := by
  rcases Int.lt_trichotomy n 0 with h | h | h
  · obtain ⟨u, rfl⟩ : ∃ u : Nat, n = -(u : Int) := ⟨n.natAbs, by omega⟩
    have e : Lib.itoa (-(u : Int)) = 45 :: dd u := by
      unfold Lib.itoa dd; rw [if_pos h, if_neg (by omega)]; simp
    rw [e]
    exact digits_neg u (by omega) (by omega) w
  · subst h
    have e : Lib.itoa 0 = [48] := by unfold Lib.itoa; rw [if_neg (by omega)]; exact Lib.decDigits_one (by decide)
    rw [e]
    exact digits_zero w
  · obtain ⟨u, rfl⟩ : ∃ u : Nat, n = (u : Int) := ⟨n.toNat, by omega⟩
    have e : Lib.itoa (u : Int) = dd u := by
      unfold Lib.itoa dd; rw [if_neg (by omega), if_neg (by omega)]; simp
    rw [e]
    exact digits_pos u (by omega) (by omega) w
end Go.Proofs.YtlnpfnglphdaiaaGreatDoor.walks

namespace Go.Proofs.YtlnpfnglphdaiaaGreatDoor.plain
open Go

/-- The word from 0 on of which l is the numeral, and true; 0 and false. -/
def numRes (l : List UInt8) : Int × Bool :=
  match Lib.decNat l with
  | some n => if n ≤ 1073741823 ∧ Lib.decDigits n = l then ((n : Int), true) else (0, false)
  | none => (0, false)

theorem decFrom_snoc : ∀ (l : List UInt8) (acc n d : Nat) (b : UInt8), Lib.decFrom acc l = some n → Lib.digitVal b = some d → Lib.decFrom acc (l ++ [b]) = some (n * 10 + d)
  | [], acc, n, d, b, h, hd => by
    simp only [Lib.decFrom, Option.some.injEq] at h
    subst h
    simp [Lib.decFrom, hd]
  | a :: r, acc, n, d, b, h, hd => by
    simp only [Lib.decFrom, List.cons_append] at h ⊢
    cases ha : Lib.digitVal a with
    | none => simp [ha] at h
    | some e =>
      simp only [ha] at h ⊢
      exact decFrom_snoc r _ n d b h hd

theorem digitVal_of (d : Nat) (h : d < 10) : Lib.digitVal (UInt8.ofNat (48 + d)) = some d := by
  have e : (UInt8.ofNat (48 + d)).toNat = 48 + d := by simp [UInt8.toNat_ofNat']; omega
  unfold Lib.digitVal
  rw [e, if_pos (by omega)]
  simp

theorem decFrom_digits (n : Nat) : Lib.decFrom 0 (Lib.decDigits n) = some n := by
  induction n using Nat.strongRecOn with
  | ind n ih =>
    by_cases h : n < 10
    · rw [Lib.decDigits_one h]
      simp only [Lib.decFrom, digitVal_of n h, Nat.zero_mul, Nat.zero_add]
    · rw [Lib.decDigits, dif_neg h, decFrom_snoc _ _ _ _ _ (ih (n / 10) (by omega)) (digitVal_of (n % 10) (by omega))]
      congr 1
      omega

theorem digits_ne (n : Nat) : Lib.decDigits n ≠ [] := by
  intro h
  have := Lib.nDigits_pos n
  rw [← Lib.decDigits_length, h] at this
  simp at this

theorem decNat_digits (n : Nat) : Lib.decNat (Lib.decDigits n) = some n := by
  unfold Lib.decNat
  rw [if_neg (by simpa using digits_ne n), decFrom_digits]

theorem atoi_digits (n : Nat) : Lib.atoi (Lib.decDigits n) = some (n : Int) := by
  have hd := decFrom_digits n
  have hn := decNat_digits n
  revert hd hn
  cases Lib.decDigits n with
  | nil => intro h1 h2; simp [Lib.decNat] at h2
  | cons b r =>
    intro h1 h2
    obtain ⟨d, hb⟩ := Lib.digit_of_decFrom _ _ _ h1 0 b rfl
    unfold Lib.digitVal at hb
    split at hb
    · rename_i hh
      have h45 : (b == 45) = false := by
        rw [beq_eq_false_iff_ne]; intro e; subst e; revert hh; decide
      have h43 : (b == 43) = false := by
        rw [beq_eq_false_iff_ne]; intro e; subst e; revert hh; decide
      simp only [Lib.atoi, h45, h43, h2, Option.map_some, Bool.false_eq_true, if_false]
    · cases hb

theorem numRes_eq (n : Nat) (h : n ≤ 1073741823) : numRes (Lib.decDigits n) = ((n : Int), true) := by
  unfold numRes
  rw [decNat_digits]
  simp [h]

theorem numRes_no {l : List UInt8} (h : ∀ n : Nat, n ≤ 1073741823 → Lib.decDigits n ≠ l) : numRes l = (0, false) := by
  unfold numRes
  split
  · rename_i n _
    rw [if_neg]
    intro hh
    exact h n hh.1 hh.2
  · rfl

theorem nDigits_le : ∀ (k n : Nat), n < 10 ^ (k + 1) → Lib.nDigits n ≤ k + 1
  | 0, n, h => by rw [Lib.nDigits_small (by simpa using h)]; omega
  | k + 1, n, h => by
    by_cases h10 : n < 10
    · rw [Lib.nDigits_small h10]; omega
    · rw [Lib.nDigits_big h10]
      have := nDigits_le k (n / 10) (by rw [Nat.pow_succ] at h; omega)
      omega

theorem numRes_long {l : List UInt8} (h : 10 < l.length) : numRes l = (0, false) := by
  refine numRes_no fun n hn e => ?_
  have := nDigits_le 9 n (by omega)
  rw [← Lib.decDigits_length, e] at this
  omega

theorem numRes_nil : numRes [] = (0, false) := rfl

/-- a byte that is no digit -/
theorem numRes_byte {l : List UInt8} (k : Nat) (b : UInt8) (hb : l[k]? = some b) (hd : Lib.digitVal b = none) : numRes l = (0, false) := by
  refine numRes_no fun n _ e => ?_
  subst e
  obtain ⟨d, h⟩ := Lib.digit_of_decFrom _ _ _ (decFrom_digits n) k b hb
  rw [hd] at h
  cases h

/-- digits that spell x: too great -/
theorem numRes_great {l : List UInt8} {x : Nat} (h : Lib.decFrom 0 l = some x) (hx : 1073741823 < x) : numRes l = (0, false) := by
  refine numRes_no fun n hn e => ?_
  subst e
  rw [decFrom_digits] at h
  cases h
  omega

/-- digits that spell x, and are not its numeral -/
theorem numRes_other {l : List UInt8} {x : Nat} (h : Lib.decFrom 0 l = some x) (hx : Lib.decDigits x ≠ l) : numRes l = (0, false) := by
  refine numRes_no fun n _ e => ?_
  subst e
  rw [decFrom_digits] at h
  cases h
  exact hx rfl

theorem numRes_atoi_none {l : List UInt8} (h : Lib.atoi l = none) : numRes l = (0, false) := by
  refine numRes_no fun n _ e => ?_
  subst e
  rw [atoi_digits] at h
  cases h

theorem numRes_atoi_no {l : List UInt8} {v : Int} (h : Lib.atoi l = some v) (hv : v < 0 ∨ 1073741823 < v ∨ Lib.itoa v ≠ l) : numRes l = (0, false) := by
  refine numRes_no fun n hn e => ?_
  subst e
  rw [atoi_digits] at h
  cases h
  rcases hv with h1 | h1 | h1
  · omega
  · omega
  · apply h1
    unfold Lib.itoa
    rw [if_neg (by omega)]
    simp

theorem numRes_atoi_yes {l : List UInt8} {v : Int} (h0 : 0 ≤ v) (h1 : v ≤ 1073741823) (h : Lib.itoa v = l) : numRes l = (v, true) := by
  subst h
  obtain ⟨n, rfl⟩ := Int.eq_ofNat_of_zero_le h0
  have e : Lib.itoa (n : Int) = Lib.decDigits n := by unfold Lib.itoa; rw [if_neg (by omega)]; simp
  rw [e]
  exact numRes_eq n (by omega)
end Go.Proofs.YtlnpfnglphdaiaaGreatDoor.plain
