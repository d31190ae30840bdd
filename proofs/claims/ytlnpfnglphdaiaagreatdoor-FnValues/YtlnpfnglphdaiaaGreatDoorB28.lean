/-
  The model's l3Case, from what l3E says with fewer tokens left, and from what l3Pat says.
  What the model's parsing of expressions says, with any number of tokens left.
-/
import Derived.Test.YtlnpfnglphdaiaaGreatDoorB1
import Derived.Test.YtlnpfnglphdaiaaGreatDoorB2
import Derived.Test.YtlnpfnglphdaiaaGreatDoorB3
import Derived.Test.YtlnpfnglphdaiaaGreatDoorB4
import Derived.Test.YtlnpfnglphdaiaaGreatDoorB5
import Derived.Test.YtlnpfnglphdaiaaGreatDoorB6
import Derived.Test.YtlnpfnglphdaiaaGreatDoorB7
import Derived.Test.YtlnpfnglphdaiaaGreatDoorB8
import Derived.Test.YtlnpfnglphdaiaaGreatDoorB9
import Derived.Test.YtlnpfnglphdaiaaGreatDoorB10
import Derived.Test.YtlnpfnglphdaiaaGreatDoorB11
import Derived.Test.YtlnpfnglphdaiaaGreatDoorB12
import Derived.Test.YtlnpfnglphdaiaaGreatDoorB13
import Derived.Test.YtlnpfnglphdaiaaGreatDoorB14
import Derived.Test.YtlnpfnglphdaiaaGreatDoorB15
import Derived.Test.YtlnpfnglphdaiaaGreatDoorB16
import Derived.Test.YtlnpfnglphdaiaaGreatDoorB17
import Derived.Test.YtlnpfnglphdaiaaGreatDoorB18
import Derived.Test.YtlnpfnglphdaiaaGreatDoorB19
import Derived.Test.YtlnpfnglphdaiaaGreatDoorB20
import Derived.Test.YtlnpfnglphdaiaaGreatDoorB21
import Derived.Test.YtlnpfnglphdaiaaGreatDoorB22
import Derived.Test.YtlnpfnglphdaiaaGreatDoorB23
import Derived.Test.YtlnpfnglphdaiaaGreatDoorB24
import Derived.Test.YtlnpfnglphdaiaaGreatDoorB25
import Derived.Test.YtlnpfnglphdaiaaGreatDoorB26
import Derived.Test.YtlnpfnglphdaiaaGreatDoorB27
namespace Go.Proofs.YtlnpfnglphdaiaaGreatDoor.tok
open Go Go.RowKit Go.Deep Go.Proofs.YtlnpfnglphdaiaaGreatDoor.rose Go.Proofs.YtlnpfnglphdaiaaGreatDoor
set_option linter.unusedVariables false
set_option linter.unusedSimpArgs false

theorem entN : Enters Tryz.prog 66 := enters_of Tryz.func66 (by kernel_rfl) rfl

/-- The alternatives begin: the first kid's row is the node's own. -/
theorem Kc.first {E : Env} {w wq wn wa : World} {v : Value} {T : node.Nd} {css : Nat → List Value} {at_ at' : Nat} {bad bad' : Int} (h : St E w at_ bad) (hcx : Cx E w wq at' bad') (hb : Below wq.heap.size wq wn) (hw : wa = wn.alloc (.cells #[.int .i64 7, .int .i64 0, .string ⟨#[]⟩, .string ⟨#[]⟩, v] 36))
    (ho : wn.ownsRow (wq.heap.size + 1) 36 5 v 1 (flat css 1)) (hk : node.ndSh.rep wn (fun b => w.heap.size < b ∧ b < wq.heap.size) (css 0) T) (hle : at_ ≤ at') (hx : 0 ≤ bad' ∨ (bad' = bad ∧ at_ < at' ∧ 1 + node.wt T + 2 ≤ 10 * (at' - at_))) : Kc E w wa wn.heap.size v [T] at_ bad at' bad' := by
  have hb2 : Below wn.heap.size wn wa := by rw [hw]; exact (Below.refl _ _).alloc (Nat.le_refl _) _
  have z1 := hb.size
  have zl := hcx.lt
  have z2 : wa.heap.size = wn.heap.size + 1 := by rw [hw]; simp
  refine ⟨(hcx.on hb).on hb2, by rw [hw]; exact alloc_top _ _, by omega, ⟨css, ?_, fun i hi => ?_⟩, fun e => ?_, h.top, fun b hS => (h.ns b hS).1, hle, ?_⟩
  · obtain ⟨hl, hv⟩ := ho
    refine ⟨hl, ?_⟩
    rcases hv with h0 | ⟨g, cap, cur, h1, h2, h3, h4⟩
    · exact Or.inl h0
    · exact Or.inr ⟨g, cap, cur, h1, by omega, by rw [hb2.block g (Array.getElem?_eq_some_iff.1 h3).1]; exact h3, h4⟩
  · obtain rfl : i = 0 := by simpa using hi
    refine node.ndSh.mono (node.ndSh.on hk fun b hS => hb2.block b (by omega)) fun b hS => ⟨hS.1, by omega, by omega, fun e => ?_⟩
    have := (World.ownsRow.lt ho b e).1
    omega
  · have := (World.ownsRow.lt ho _ e).2
    omega
  · rcases hx with h' | ⟨e, h', h''⟩
    · exact .inl h'
    · exact .inr ⟨e, h', by simp [node.wts]; omega⟩

set_option maxRecDepth 100000 in
set_option maxHeartbeats 8000000 in
theorem case_of (E : Env) (N : Nat) (HE : Told 45 E fun at_ => E.toks.length - at_ < N) (HP : Told 87 E fun at_ => E.toks.length - at_ ≤ N) (w : World) (at_ : Nat) (bad : Int) (h : St E w at_ bad) (hN : E.toks.length - at_ ≤ N ∧ at_ + 1 < E.toks.length) :
    Calls Tryz.prog 65 #[.pointer (some ⟨E.cb, 0, none⟩)] w (Nodes E w at_ bad) := by
  have HE' : Hid _ := HE
  have HP' : Hid _ := HP
  have HS : Hid (St E w at_ bad) := h
  have HN : Hid (E.toks.length - at_ ≤ N ∧ at_ + 1 < E.toks.length ∧ E.toks.length ≤ 3001) := ⟨hN.1, hN.2, h.len⟩
  obtain ⟨w0, hw0⟩ : ∃ w0, w0 = w.alloc (.cells #[.int .i64 0, .int .i64 0, .string ⟨#[]⟩, .string ⟨#[]⟩, .slice none 0 0] 36) := ⟨_, rfl⟩
  have HW0 : Hid (w0 = w.alloc (.cells #[.int .i64 0, .int .i64 0, .string ⟨#[]⟩, .string ⟨#[]⟩, .slice none 0 0] 36)) := hw0
  have C0 : Hid (Cx E w w0 at_ bad) := Cx.start h hw0
  obtain ⟨ti, hti, hzz⟩ := Option.map_eq_some_iff.1 infoNd
  simp only [Prod.mk.injEq] at hzz
  obtain ⟨hi0, hi1, hi2⟩ := hzz
  have TI : Hid (Tryz.prog.info? 36 = some ti ∧ ti.zero = some (.agg #[.int .i64 0, .int .i64 0, .string ⟨#[]⟩, .string ⟨#[]⟩, .slice none 0 0]) ∧ ti.size = 5 ∧ ti.bytes = 72) := ⟨hti, hi0, hi1, hi2⟩
  clear hw0 HE HP h hN hti hi0 hi1 hi2
  have HX := next_any E w0 at_ bad C0.out.st HN.out.2.1
  go_enter Tryz.func65, Tryz.ntmps65
  go_wp2_with fail
  rw [← HW0.out]
  refine HX.mono ?_
  rintro e w1 ⟨rfl, S, g⟩
  have C1 : Hid (Cx E w w1 (at_ + 1) bad) := C0.out.by g S
  clear HX S g
  have HX := HE'.out w1 (at_ + 1) bad C1.out.st (by have := HN.out; omega)
  go_wp2_with fail
  refine HX.mono ?_
  rintro e w2 ⟨at2, bad2, cs, T, rfl, hrep, S, g, hle, hx⟩
  obtain ⟨x0, x1, x2, x3, xa, xc, xk, hTT, rfl, -, -, -⟩ := node.nd_open hrep
  clear hTT
  obtain ⟨xl, hxl⟩ : ∃ n, n = xk.length := ⟨_, rfl⟩
  rw [← hxl] at hrep ⊢
  clear hxl
  have C2 : Hid (Cx E w w2 at2 bad2) := C1.out.by g S
  have R2 : Hid (at_ + 1 ≤ at2 ∧ (0 ≤ bad2 ∨ (bad2 = bad ∧ at_ + 1 < at2 ∧ node.wt T + 2 ≤ 10 * (at2 - (at_ + 1))))) := ⟨hle, hx⟩
  obtain ⟨w3, hw3⟩ : ∃ x, x = w2.alloc (.cells #[.int .i64 x0, .int .i64 x1, .string x2, .string x3, .slice xa xl xc] 36) := ⟨_, rfl⟩
  have HW3 : Hid (w3 = w2.alloc (.cells #[.int .i64 x0, .int .i64 x1, .string x2, .string x3, .slice xa xl xc] 36)) := hw3
  have hB : Below w2.heap.size w2 w3 := by rw [hw3]; exact (Below.refl _ _).alloc (Nat.le_refl _) _
  have H3 : Hid (Hd w3 (w.heap.size + 1) w2.heap.size [.int .i64 x0, .int .i64 x1, .string x2, .string x3, .slice xa xl xc] T) := Hd.new (node.ndSh.mono hrep fun b hS => ⟨by have := C1.out.lt; omega, hS.2⟩) (by have := C2.out.lt; omega) hw3
  have C3 : Hid (Cx E w w3 at2 bad2) := C2.out.on hB
  clear HX hrep S g hle hx hB hw3
  have HX := word_any E w3 at2 bad2 C3.out.st ⟨#[111, 102]⟩
  go_wp2_with fail
  rw [← HW3.out]
  refine HX.mono ?_
  rintro e w4 ⟨at4, bad4, rfl, S, g, hle, hx⟩
  have C4 : Hid (Cx E w w4 at4 bad4) := C3.out.by g S
  have H4 : Hid (Hd w4 (w.heap.size + 1) w2.heap.size [.int .i64 x0, .int .i64 x1, .string x2, .string x3, .slice xa xl xc] T) := H3.out.by g (by have := C3.out.cb; omega)
  have R4 : Hid (at2 ≤ at4 ∧ ((at4 = at2 + 1 ∧ bad4 = bad2) ∨ 0 ≤ bad4)) := ⟨hle, hx⟩
  clear HX S g hle hx
  have HX := take_any E w4 at4 bad4 C4.out.st ⟨#[123]⟩
  go_wp2_with fail
  refine HX.mono ?_
  rintro e w5 ⟨at5, bad5, rfl, S, g, hle, hx⟩
  have C5 : Hid (Cx E w w5 at5 bad5) := C4.out.by g S
  have H5 : Hid (Hd w5 (w.heap.size + 1) w2.heap.size [.int .i64 x0, .int .i64 x1, .string x2, .string x3, .slice xa xl xc] T) := H4.out.by g (by have := C4.out.cb; omega)
  have R5 : Hid (at4 ≤ at5 ∧ ((at5 = at4 + 1 ∧ bad5 = bad4) ∨ 0 ≤ bad5)) := ⟨hle, hx⟩
  clear HX S g hle hx
  have y0 : w5.cell? ⟨w2.heap.size, 0, none⟩ = some (.int .i64 x0) := blk_cellP (i := 0) H5.out.blk rfl
  have y1 : w5.cell? ⟨w2.heap.size, 1, none⟩ = some (.int .i64 x1) := blk_cellP (i := 1) H5.out.blk rfl
  have y2 : w5.cell? ⟨w2.heap.size, 2, none⟩ = some (.string x2) := blk_cellP (i := 2) H5.out.blk rfl
  have y3 : w5.cell? ⟨w2.heap.size, 3, none⟩ = some (.string x3) := blk_cellP (i := 3) H5.out.blk rfl
  have y4 : w5.cell? ⟨w2.heap.size, 4, none⟩ = some (.slice xa xl xc) := blk_cellP (i := 4) H5.out.blk rfl
  obtain ⟨w6, hw6⟩ : ∃ x, x = w5.alloc (.cells #[.int .i64 x0, .int .i64 x1, .string x2, .string x3, .slice xa xl xc] 36) := ⟨_, rfl⟩
  have HW6 : Hid (w6 = w5.alloc (.cells #[.int .i64 x0, .int .i64 x1, .string x2, .string x3, .slice xa xl xc] 36)) := hw6
  have hB : Below w5.heap.size w5 w6 := by rw [hw6]; exact (Below.refl _ _).alloc (Nat.le_refl _) _
  have zz : w6.heap.size = w5.heap.size + 1 := by rw [hw6]; simp
  have SR : Hid (node.ndSh.slice.rep w6 (fun b => w.heap.size < b ∧ b < w6.heap.size) [.slice (some ⟨w5.heap.size, 0, none⟩) [T].length 1] [T]) := one_rep (by rw [hw6]; exact alloc_top _ _) ⟨by have := C5.out.lt; omega, by omega⟩ (node.ndSh.mono (H5.out.on hB).rep fun b hS => ⟨by omega, hS.2⟩)
  have C6 : Hid (Cx E w w6 at5 bad5) := C5.out.on hB
  have HX := node3_own 7 (by omega) [T] w5.heap.size 0 1 w6 (fun b => w.heap.size < b ∧ b < w6.heap.size) (fun b hS => hS.2) (by simp) SR.out
  simp only [List.length_cons, List.length_nil, Nat.zero_add] at HX
  go_wp2_with fail
  rw [← HW6.out]
  refine HX.mono ?_
  rintro e w7 ⟨⟨av, cv, css, rfl, ho, hk⟩, hb2⟩
  obtain ⟨w8, hw8⟩ : ∃ x, x = w7.alloc (.cells #[.int .i64 7, .int .i64 0, .string ⟨#[]⟩, .string ⟨#[]⟩, .slice av 1 cv] 36) := ⟨_, rfl⟩
  have HW8 : Hid (w8 = w7.alloc (.cells #[.int .i64 7, .int .i64 0, .string ⟨#[]⟩, .string ⟨#[]⟩, .slice av 1 cv] 36)) := hw8
  have K8 : Hid (Kc E w w8 w7.heap.size (.slice av 1 cv) [T] at_ bad at5 bad5) := by
    have r2 := R2.out; have r4 := R4.out; have r5 := R5.out
    refine Kc.first HS.out C6.out hb2 hw8 ho (hk 0 (by simp)) (by omega) ?_
    by_cases hb : 0 ≤ bad5
    · exact .inl hb
    · exact .inr ⟨by omega, by omega, by omega⟩
  clear HX ho hk hb2 hw8 hw6 hB zz SR C6 HW6 y0 y1 y2 y3 y4
  go_wp2
  rw [← HW8.out]
  obtain ⟨Ab, hAb⟩ : ∃ n, n = w7.heap.size := ⟨_, rfl⟩
  rw [← hAb] at K8 ⊢
  clear hAb HW8
  go_loopw [22] (fun _ wr => ∃ (v : Value) (xs : List node.Nd) (at' : Nat) (bad' : Int), Hid (Kc E w wr Ab v xs at_ bad at' bad')) (fun _ wr => msr E wr)
  case atStart => exact ⟨_, [T], at5, bad5, K8⟩
  case round =>
    clear K8
    obtain ⟨v, xs, at', bad', HK⟩ := hrel
    have HM : Hid (msr E wr = 2 * (E.toks.length - at') + (if bad' < 0 then 1 else 0)) := HK.out.cx.st.msr
    obtain ⟨va, vc, names, nn, hblk, -, -⟩ := HK.out.cx.st.blk
    have c2 : wr.cell? ⟨E.cb, 2, none⟩ = some (.int .i64 bad') := blk_cellP (i := 2) hblk rfl
    clear hblk
    by_cases hbn : bad' < 0
    · have HBN : Hid (bad' < 0) := hbn
      have HX := HP'.out wr at' bad' HK.out.cx.st (by have := HN.out; have := HK.out.le; omega)
      go_wp2_with fail
      refine HX.mono ?_
      have hcr : E.cb < wr.heap.size := by have := HK.out.cx.cb; have := HK.out.cx.lt; omega
      have hAr : Ab < wr.heap.size := HK.out.ablt
      have HOR : Hid (∀ g, v.ownBlock = some g → g < wr.heap.size) := fun g e => (HK.out.row.ownlt e).2
      rintro e wp ⟨atp, badp, cs, Tp, rfl, hrep, S, g, hle, hx⟩
      obtain ⟨up0, up1, up2, up3, upa, upc, uk, hTT, rfl, -, -, -⟩ := node.nd_open hrep
      clear hTT
      obtain ⟨upl, hul⟩ : ∃ n, n = uk.length := ⟨_, rfl⟩
      rw [← hul] at hrep ⊢
      clear hul
      have hz0 : wr.heap.size ≤ wr.heap.size := Nat.le_refl _
      have Kp : Hid (Kc E w wp Ab v xs at_ bad atp badp) := HK.out.by g S hle (by rcases hx with h | h; exact .inl h; exact .inr h.1)
      have Rp : Hid (at' ≤ atp ∧ (0 ≤ badp ∨ (badp = bad' ∧ at' < atp ∧ node.wt Tp + 2 ≤ 10 * (atp - at')))) := ⟨hle, hx⟩
      have zp : wr.heap.size ≤ wp.heap.size := by have := g.size; omega
      obtain ⟨wpb, hwpb⟩ : ∃ x, x = wp.alloc (.cells #[.int .i64 up0, .int .i64 up1, .string up2, .string up3, .slice upa upl upc] 36) := ⟨_, rfl⟩
      have HWpb : Hid (wpb = wp.alloc (.cells #[.int .i64 up0, .int .i64 up1, .string up2, .string up3, .slice upa upl upc] 36)) := hwpb
      have hB : Below wp.heap.size wp wpb := by rw [hwpb]; exact (Below.refl _ _).alloc (Nat.le_refl _) _
      have zbp : wpb.heap.size = wp.heap.size + 1 := by rw [hwpb]; simp
      have Qp : Hid (Hd wpb wr.heap.size wp.heap.size [.int .i64 up0, .int .i64 up1, .string up2, .string up3, .slice upa upl upc] Tp) := Hd.new (node.ndSh.mono hrep fun b hS => ⟨by omega, hS.2⟩) (by omega) hwpb
      have Kpb : Hid (Kc E w wpb Ab v xs at_ bad atp badp) := Kp.out.on hB
      clear HX hrep S g hle hx hB hwpb Kp
      have HX := take_any E wpb atp badp Kpb.out.cx.st ⟨#[45, 62]⟩
      go_wp2_with fail
      rw [← HWpb.out]
      refine HX.mono ?_
      rintro e wt ⟨att, badt, rfl, S, g, hle, hx⟩
      have Kt : Hid (Kc E w wt Ab v xs at_ bad att badt) := Kpb.out.by g S hle (by rcases hx with h | h; exact .inr h.2; exact .inl h)
      have Rt : Hid (atp ≤ att ∧ ((att = atp + 1 ∧ badt = badp) ∨ 0 ≤ badt)) := ⟨hle, hx⟩
      have Qt : Hid (Hd wt wr.heap.size wp.heap.size [.int .i64 up0, .int .i64 up1, .string up2, .string up3, .slice upa upl upc] Tp) := Qp.out.by g hcr
      have zt : wr.heap.size ≤ wt.heap.size := by have := g.size; omega
      clear HX S g hle hx
      have HX := HE'.out wt att badt Kt.out.cx.st (by have := HN.out; have h1 := Rp.out; have h2 := Rt.out; have h3 := HK.out.hx; have h4 := HK.out.le; have h5 := HBN.out; omega)
      go_wp2_with fail
      refine HX.mono ?_
      rintro e wb ⟨atb, badb, cs, Tb, rfl, hrep, S, g, hle, hx⟩
      obtain ⟨ub0, ub1, ub2, ub3, uba, ubc, uk, hTT, rfl, -, -, -⟩ := node.nd_open hrep
      clear hTT
      obtain ⟨ubl, hul⟩ : ∃ n, n = uk.length := ⟨_, rfl⟩
      rw [← hul] at hrep ⊢
      clear hul
      have Kb : Hid (Kc E w wb Ab v xs at_ bad atb badb) := Kt.out.by g S hle (by rcases hx with h | h; exact .inl h; exact .inr h.1)
      have Rb : Hid (att ≤ atb ∧ (0 ≤ badb ∨ (badb = badt ∧ att < atb ∧ node.wt Tb + 2 ≤ 10 * (atb - att)))) := ⟨hle, hx⟩
      have zb : wr.heap.size ≤ wb.heap.size := by have := g.size; omega
      obtain ⟨wbb, hwbb⟩ : ∃ x, x = wb.alloc (.cells #[.int .i64 ub0, .int .i64 ub1, .string ub2, .string ub3, .slice uba ubl ubc] 36) := ⟨_, rfl⟩
      have HWbb : Hid (wbb = wb.alloc (.cells #[.int .i64 ub0, .int .i64 ub1, .string ub2, .string ub3, .slice uba ubl ubc] 36)) := hwbb
      have hB : Below wb.heap.size wb wbb := by rw [hwbb]; exact (Below.refl _ _).alloc (Nat.le_refl _) _
      have zbb : wbb.heap.size = wb.heap.size + 1 := by rw [hwbb]; simp
      have Qb : Hid (Hd wbb wr.heap.size wb.heap.size [.int .i64 ub0, .int .i64 ub1, .string ub2, .string ub3, .slice uba ubl ubc] Tb) := Hd.new (node.ndSh.mono hrep fun b hS => ⟨by omega, hS.2⟩) (by omega) hwbb
      have Qq : Hid (Hd wbb wr.heap.size wp.heap.size [.int .i64 up0, .int .i64 up1, .string up2, .string up3, .slice upa upl upc] Tp) := (Qt.out.by g hcr).on hB
      have Kbb : Hid (Kc E w wbb Ab v xs at_ bad atb badb) := Kb.out.on hB
      clear HX hrep S g hle hx hB hwbb Kb
      obtain ⟨av, cv, hv⟩ := Kbb.out.row.slice
      have HV : Hid (v = .slice av xs.length cv) := hv
      clear hv
      obtain ⟨cssG, grow, gk⟩ := Kbb.out.row
      have GR : Hid (wbb.ownsRow (w.heap.size + 1) 36 5 v xs.length (flat cssG xs.length)) := grow
      have GK : Hid (∀ i (h : i < xs.length), node.ndSh.rep wbb (fun b => w.heap.size < b ∧ b < wbb.heap.size ∧ b ≠ Ab ∧ v.ownBlock ≠ some b) (cssG i) xs[i]) := gk
      have g4 : wbb.cell? ⟨Ab, 4, none⟩ = some v := blk_cellP (i := 4) Kbb.out.acc rfl
      have p0 : wbb.cell? ⟨wp.heap.size, 0, none⟩ = some (.int .i64 up0) := blk_cellP (i := 0) Qq.out.blk rfl
      have p1 : wbb.cell? ⟨wp.heap.size, 1, none⟩ = some (.int .i64 up1) := blk_cellP (i := 1) Qq.out.blk rfl
      have p2 : wbb.cell? ⟨wp.heap.size, 2, none⟩ = some (.string up2) := blk_cellP (i := 2) Qq.out.blk rfl
      have p3 : wbb.cell? ⟨wp.heap.size, 3, none⟩ = some (.string up3) := blk_cellP (i := 3) Qq.out.blk rfl
      have p4 : wbb.cell? ⟨wp.heap.size, 4, none⟩ = some (.slice upa upl upc) := blk_cellP (i := 4) Qq.out.blk rfl
      have q0 : wbb.cell? ⟨wb.heap.size, 0, none⟩ = some (.int .i64 ub0) := blk_cellP (i := 0) Qb.out.blk rfl
      have q1 : wbb.cell? ⟨wb.heap.size, 1, none⟩ = some (.int .i64 ub1) := blk_cellP (i := 1) Qb.out.blk rfl
      have q2 : wbb.cell? ⟨wb.heap.size, 2, none⟩ = some (.string ub2) := blk_cellP (i := 2) Qb.out.blk rfl
      have q3 : wbb.cell? ⟨wb.heap.size, 3, none⟩ = some (.string ub3) := blk_cellP (i := 3) Qb.out.blk rfl
      have q4 : wbb.cell? ⟨wb.heap.size, 4, none⟩ = some (.slice uba ubl ubc) := blk_cellP (i := 4) Qb.out.blk rfl
      have HLN : Hid (xs.length ≤ 30010) := by
        have h3 := HK.out.hx; have h5 := HBN.out; have h6 := HN.out.2.2; have h7 := HK.out.cx.st.lt; show _ ≤ _; omega
      obtain ⟨wy, hwy⟩ : ∃ x, x = (wbb.alloc (.cells #[.int .i64 up0, .int .i64 up1, .string up2, .string up3, .slice upa upl upc, .int .i64 ub0, .int .i64 ub1, .string ub2, .string ub3, .slice uba ubl ubc] 36)).drew := ⟨_, rfl⟩
      have HWY : Hid (wy = (wbb.alloc (.cells #[.int .i64 up0, .int .i64 up1, .string up2, .string up3, .slice upa upl upc, .int .i64 ub0, .int .i64 ub1, .string ub2, .string ub3, .slice uba ubl ubc] 36)).drew) := hwy
      have hBy : Below wbb.heap.size wbb wy := by rw [hwy]; exact ((Below.refl _ wbb).alloc (Nat.le_refl _) _).drew
      have zy : wy.heap.size = wbb.heap.size + 1 := by rw [hwy]; show (wbb.alloc _).heap.size = _; simp
      have SY : Hid (node.ndSh.slice.rep wy (fun b => wr.heap.size ≤ b ∧ b < wy.heap.size) [.slice (some ⟨wbb.heap.size, 0, none⟩) [Tp, Tb].length 2] [Tp, Tb]) := pair_rep (by rw [hwy]; exact alloc_top wbb _) ⟨by omega, by omega⟩ (node.ndSh.mono (Qq.out.on hBy).rep fun b hS => hS) (node.ndSh.mono (Qb.out.on hBy).rep fun b hS => hS)
      have hcall := node3_any 8 (by omega) [Tp, Tb] wbb.heap.size 0 2 wy (fun b => wr.heap.size ≤ b ∧ b < wy.heap.size) (fun b hS => hS.2) (by simp) SY.out
      simp only [List.length_cons, List.length_nil, Nat.zero_add, Nat.reduceAdd] at hcall
      have KY : Hid (Kc E w wy Ab v xs at_ bad atb badb) := Kbb.out.on hBy
      have g4a : (wbb.alloc (.cells #[.int .i64 up0, .int .i64 up1, .string up2, .string up3, .slice upa upl upc, .int .i64 ub0, .int .i64 ub1, .string ub2, .string ub3, .slice uba ubl ubc] 36)).cell? ⟨Ab, 4, none⟩ = some v := by have : wy.cell? ⟨Ab, 4, none⟩ = some v := blk_cellP (i := 4) KY.out.acc rfl; rw [hwy] at this; exact this
      rw [zbb] at hcall
      rw [hwy] at hcall
      have ZY : Hid (wy.heap.size = wbb.heap.size + 1) := zy
      have BY : Hid (Below wbb.heap.size wbb wy) := hBy
      clear grow gk hwy zy hBy
      go_wp2_with fail
      rw [← HWbb.out]
      go_region_law
        (first
          | (refine step_append_own rfl _ _ 34 rfl (w.heap.size + 1) 36 ti _ 5 72 Tryz.underlying34 TI.out.1 TI.out.2.1 TI.out.2.2.1 TI.out.2.2.2 rfl (by decide) v xs.length _ (by first | (simp [Act.eval, HV.out]; done) | (simp [Act.eval, Act.put, HV.out]; done)) RA.out ⟨w5.heap.size, 0, none⟩ 1 1 [.int .i64 n0, .int .i64 n1, .string n2, .string n3, .slice na nl nc] rfl rfl (cells_new _ _ _ _ rfl) (by simp [Value.oneCell']) (by unfold maxLen; have := HLN.out; omega) (by have := HLN.out; omega) (by have := Z5.out; simp; omega) ?_; intro qa ql qc w6 hown6 hgrow6 hat6
             have hO6 : w6.heap[Ab]? = some (.cells #[.int .i64 7, .int .i64 0, .string ⟨#[]⟩, .string ⟨#[]⟩, v] 36) := (hgrow6.block Ab (by have := Z5.out; simp; omega) (fun e => KY.out.own e.symm)).trans ((Below.heap_alloc _ _ _ (by have := Z5.out; omega)).trans O5.out)
             have y0 : w6.cell? ⟨Ab, 4, none⟩ = some v := blk_cellP (i := 4) hO6 rfl
             have y1 : w6.frozen? ⟨Ab, 4, none⟩ = false := blk_freeP (i := 4) hO6)
          | (refine step_call rfl 66 entN _ _ rfl _ _ hcall (by first | (simp [Act.eval]; done) | (simp [Act.eval, Act.put]; done) | rfl) ?_; rintro e w5 ⟨⟨cs, rfl, hr5⟩, hb5⟩
             obtain ⟨n0, n1, n2, n3, na, nc, nk, hTT, rfl, -, -, -⟩ := node.nd_open hr5
             clear hTT
             obtain ⟨nl, hnl⟩ : ∃ n, n = nk.length := ⟨_, rfl⟩
             rw [← hnl] at hr5 ⊢
             rw [← HWY.out] at hr5 hb5
             have K5 : Hid (Kc E w w5 Ab v xs at_ bad atb badb) := KY.out.on hb5
             have Z5 : Hid (wbb.heap.size + 1 ≤ w5.heap.size ∧ w.heap.size < w5.heap.size ∧ Ab < w5.heap.size ∧ wr.heap.size ≤ w5.heap.size) := by have := hb5.size; have := ZY.out; have := KY.out.cx.lt; have := K5.out.ablt; refine ⟨by omega, by omega, by omega, by omega⟩
             have O5 : Hid (w5.heap[Ab]? = some (.cells #[.int .i64 7, .int .i64 0, .string ⟨#[]⟩, .string ⟨#[]⟩, v] 36)) := K5.out.acc
             have g4b : w5.cell? ⟨Ab, 4, none⟩ = some v := blk_cellP (i := 4) O5.out rfl
             have g4c : ∀ o', (w5.alloc o').cell? ⟨Ab, 4, none⟩ = some v := fun o' => (((Below.refl _ w5).alloc (Nat.le_refl _) o').cell (p := ⟨Ab, 4, none⟩) (by have := Z5.out; show Ab < _; omega)).trans g4b
             have B5 : Hid (Below wbb.heap.size wbb w5) := BY.out.trans (hb5.mono (by have := ZY.out; omega))
             have RA : Hid ((w5.alloc (.cells #[.int .i64 n0, .int .i64 n1, .string n2, .string n3, .slice na nl nc] 36)).ownsRow (w.heap.size + 1) 36 5 v xs.length (flat cssG xs.length)) := by
               obtain ⟨hl, hv⟩ := GR.out
               refine ⟨hl, ?_⟩
               rcases hv with h0 | ⟨g, cap, cur, h1, h2, h3, h4⟩
               · exact Or.inl h0
               · have hg := (Array.getElem?_eq_some_iff.1 h3).1
                 exact Or.inr ⟨g, cap, cur, h1, h2, by rw [Below.heap_alloc _ _ _ (by have := Z5.out; omega), B5.out.block g hg]; exact h3, h4⟩
             have HR5 : Hid (node.ndSh.rep w5 (fun b => wr.heap.size ≤ b ∧ b < w5.heap.size) [.int .i64 n0, .int .i64 n1, .string n2, .string n3, .slice na nl nc] (.mk (8, 0, ⟨#[]⟩, ⟨#[]⟩) [Tp, Tb])) := node.ndSh.mono hr5 fun b hS => by have := hb5.size; have := ZY.out; omega
             clear hnl hr5 hb5
             refine ⟨_, rfl, ?_⟩))
      all_goals
        have NX : Hid (Kc E w (w6.setCell ⟨Ab, 4, none⟩ (.slice qa ql qc)) Ab (.slice qa ql qc) (xs ++ [(.mk (8, 0, ⟨#[]⟩, ⟨#[]⟩) [Tp, Tb] : node.Nd)]) at_ bad atb badb) := by
          refine K5.out.push (r0 := wr.heap.size) (w2 := w5.alloc (.cells #[.int .i64 n0, .int .i64 n1, .string n2, .string n3, .slice na nl nc] 36)) (css := cssG) (fun i hi => node.ndSh.mono (node.ndSh.on (GK.out i hi) fun b hS => B5.out.block b hS.2.1) fun b hS => ⟨hS.1, by have := Z5.out; omega, hS.2.2⟩) HR5.out hAr (by have := HK.out.cx.lt; omega) HOR.out ((Below.refl _ _).alloc (Nat.le_refl _) _) ?_ hown6 hgrow6 hat6 rfl
          have h1 := Rp.out; have h2 := Rt.out; have h3 := Rb.out; have h4 := HK.out.hx; have h5 := HBN.out; have h6 := HK.out.le
          by_cases hb : 0 ≤ badb
          · exact .inl hb
          · refine .inr ⟨by omega, by omega, ?_⟩
            rw [wts_snoc, List.length_append, List.length_singleton, pair_wt]
            omega
        have RZ : Hid (at' ≤ atb ∧ (0 ≤ badb ∨ at' < atb)) := by
          have h1 := Rp.out; have h2 := Rt.out; have h3 := Rb.out; have h5 := HBN.out
          refine ⟨by omega, ?_⟩
          by_cases hb : 0 ≤ badb
          · exact .inl hb
          · exact .inr (by omega)
        clear hown6 hgrow6 hat6 hO6 y0 y1 HR5 RA g4 g4a g4b g4c O5 K5 B5 Z5 hcall p0 p1 p2 p3 p4 q0 q1 q2 q3 q4 GR GK
        have HX := sign3_any E _ atb badb NX.out.cx.st ⟨#[59]⟩
        go_wp2_with fail
        refine HX.mono ?_
        rintro e ws ⟨⟨b, rfl, hb⟩, hB⟩
        have Ks : Hid (Kc E w ws Ab (.slice qa ql qc) (xs ++ [(.mk (8, 0, ⟨#[]⟩, ⟨#[]⟩) [Tp, Tb] : node.Nd)]) at_ bad atb badb) := NX.out.on hB
        clear hB HX NX
        cases b with
        | true =>
          have HB : Hid (badb < 0 ∧ atb + 1 < E.toks.length) := hb rfl
          clear hb
          have HX := next_any E ws atb badb Ks.out.cx.st HB.out.2
          go_wp2_with fail
          refine HX.mono ?_
          rintro e wn ⟨rfl, S, g⟩
          have Kn : Hid (Kc E w wn Ab (.slice qa ql qc) (xs ++ [(.mk (8, 0, ⟨#[]⟩, ⟨#[]⟩) [Tp, Tb] : node.Nd)]) at_ bad (atb + 1) badb) := Ks.out.by g S (by omega) (.inr rfl)
          clear HX S g
          go_wp2
          go_round
          case rel => exact ⟨_, _, atb + 1, badb, Kn⟩
          case measure =>
            rw [Kn.out.cx.st.msr, HM.out]
            have h1 := RZ.out; have h2 := HB.out; have h3 := HBN.out
            rw [if_pos h3, if_pos h2.1]; omega
        | false =>
          clear hb
          have HX := take_any E ws atb badb Ks.out.cx.st ⟨#[125]⟩
          go_wp2_with fail
          refine HX.mono ?_
          rintro e wz ⟨atz, badz, rfl, S, g, hle, hx⟩
          have KZ : Hid (Kc E w wz Ab (.slice qa ql qc) (xs ++ [(.mk (8, 0, ⟨#[]⟩, ⟨#[]⟩) [Tp, Tb] : node.Nd)]) at_ bad atz badz) := Ks.out.by g S hle (by rcases hx with h | h; exact .inr h.2; exact .inl h)
          clear HX S g hle hx
          obtain ⟨aq, cq, hv⟩ := KZ.out.row.slice
          rw [hv] at KZ
          clear hv
          have y0 : wz.cell? ⟨Ab, 0, none⟩ = some (.int .i64 7) := blk_cellP (i := 0) KZ.out.acc rfl
          have y1 : wz.cell? ⟨Ab, 1, none⟩ = some (.int .i64 0) := blk_cellP (i := 1) KZ.out.acc rfl
          have y2 : wz.cell? ⟨Ab, 2, none⟩ = some (.string ⟨#[]⟩) := blk_cellP (i := 2) KZ.out.acc rfl
          have y3 : wz.cell? ⟨Ab, 3, none⟩ = some (.string ⟨#[]⟩) := blk_cellP (i := 3) KZ.out.acc rfl
          have y4 : wz.cell? ⟨Ab, 4, none⟩ = some (.slice aq (xs ++ [(.mk (8, 0, ⟨#[]⟩, ⟨#[]⟩) [Tp, Tb] : node.Nd)]).length cq) := blk_cellP (i := 4) KZ.out.acc rfl
          have r0 : wz.cell? ⟨w.heap.size, 0, none⟩ = some (.int .i64 0) := blk_cellP (i := 0) KZ.out.cx.res rfl
          have r1 : wz.cell? ⟨w.heap.size, 1, none⟩ = some (.int .i64 0) := blk_cellP (i := 1) KZ.out.cx.res rfl
          have r2 : wz.cell? ⟨w.heap.size, 2, none⟩ = some (.string ⟨#[]⟩) := blk_cellP (i := 2) KZ.out.cx.res rfl
          have r3 : wz.cell? ⟨w.heap.size, 3, none⟩ = some (.string ⟨#[]⟩) := blk_cellP (i := 3) KZ.out.cx.res rfl
          have r4 : wz.cell? ⟨w.heap.size, 4, none⟩ = some (.slice none 0 0) := blk_cellP (i := 4) KZ.out.cx.res rfl
          have fr : ∀ o, wz.frozen? ⟨w.heap.size, o, none⟩ = false := fun o => blk_freeP KZ.out.cx.res
          have HT : Hid (∀ w', wz.grownBy w' (some w.heap.size) → Nodes E w at_ bad (.returned (.agg [.int .i64 7, .int .i64 0, .string ⟨#[]⟩, .string ⟨#[]⟩, .slice aq (xs ++ [(.mk (8, 0, ⟨#[]⟩, ⟨#[]⟩) [Tp, Tb] : node.Nd)]).length cq].toArray)) w') := fun w' hg' => answer (T := .mk (7, 0, ⟨#[]⟩, ⟨#[]⟩) (xs ++ [(.mk (8, 0, ⟨#[]⟩, ⟨#[]⟩) [Tp, Tb] : node.Nd)])) HS.out KZ.out.cx.gr KZ.out.cx.lt (node.nd_shut (by omega) (by omega) (by decide) (by decide) KZ.out.row.rep) KZ.out.cx.st KZ.out.le (by
            rcases KZ.out.hx with h' | ⟨e, h', h''⟩
            · exact .inl h'
            · refine .inr ⟨e, h', ?_⟩
              rw [node.wt]; show 0 + 0 + _ + _ + 2 ≤ _; omega) hg'
          clear HM KZ
          go_wp2
          refine bodyPost_ret (v := .agg #[.int .i64 7, .int .i64 0, .string ⟨#[]⟩, .string ⟨#[]⟩, .slice aq (xs ++ [(.mk (8, 0, ⟨#[]⟩, ⟨#[]⟩) [Tp, Tb] : node.Nd)]).length cq]) (by simp [results, Tryz.f65, go_sem, r0, r1, r2, r3, r4]) rfl ?_
          refine HT.out _ ?_
          repeat first | exact grown_self _ _ | (refine grown_by_by ?_ (grown_setP _ _ _ _))
    · have hbn2 : 0 ≤ bad' := by omega
      clear hbn
      have HX := take_any E wr at' bad' HK.out.cx.st ⟨#[125]⟩
      go_wp2_with fail
      refine HX.mono ?_
      rintro e wz ⟨atz, badz, rfl, S, g, hle, hx⟩
      have KZ : Hid (Kc E w wz Ab v xs at_ bad atz badz) := HK.out.by g S hle (by rcases hx with h | h; exact .inr h.2; exact .inl h)
      clear HX S g hle hx
      obtain ⟨aq, cq, hv⟩ := KZ.out.row.slice
      rw [hv] at KZ
      clear hv
      have y0 : wz.cell? ⟨Ab, 0, none⟩ = some (.int .i64 7) := blk_cellP (i := 0) KZ.out.acc rfl
      have y1 : wz.cell? ⟨Ab, 1, none⟩ = some (.int .i64 0) := blk_cellP (i := 1) KZ.out.acc rfl
      have y2 : wz.cell? ⟨Ab, 2, none⟩ = some (.string ⟨#[]⟩) := blk_cellP (i := 2) KZ.out.acc rfl
      have y3 : wz.cell? ⟨Ab, 3, none⟩ = some (.string ⟨#[]⟩) := blk_cellP (i := 3) KZ.out.acc rfl
      have y4 : wz.cell? ⟨Ab, 4, none⟩ = some (.slice aq (xs).length cq) := blk_cellP (i := 4) KZ.out.acc rfl
      have r0 : wz.cell? ⟨w.heap.size, 0, none⟩ = some (.int .i64 0) := blk_cellP (i := 0) KZ.out.cx.res rfl
      have r1 : wz.cell? ⟨w.heap.size, 1, none⟩ = some (.int .i64 0) := blk_cellP (i := 1) KZ.out.cx.res rfl
      have r2 : wz.cell? ⟨w.heap.size, 2, none⟩ = some (.string ⟨#[]⟩) := blk_cellP (i := 2) KZ.out.cx.res rfl
      have r3 : wz.cell? ⟨w.heap.size, 3, none⟩ = some (.string ⟨#[]⟩) := blk_cellP (i := 3) KZ.out.cx.res rfl
      have r4 : wz.cell? ⟨w.heap.size, 4, none⟩ = some (.slice none 0 0) := blk_cellP (i := 4) KZ.out.cx.res rfl
      have fr : ∀ o, wz.frozen? ⟨w.heap.size, o, none⟩ = false := fun o => blk_freeP KZ.out.cx.res
      have HT : Hid (∀ w', wz.grownBy w' (some w.heap.size) → Nodes E w at_ bad (.returned (.agg [.int .i64 7, .int .i64 0, .string ⟨#[]⟩, .string ⟨#[]⟩, .slice aq (xs).length cq].toArray)) w') := fun w' hg' => answer (T := .mk (7, 0, ⟨#[]⟩, ⟨#[]⟩) (xs)) HS.out KZ.out.cx.gr KZ.out.cx.lt (node.nd_shut (by omega) (by omega) (by decide) (by decide) KZ.out.row.rep) KZ.out.cx.st KZ.out.le (by
        rcases KZ.out.hx with h' | ⟨e, h', h''⟩
        · exact .inl h'
        · refine .inr ⟨e, h', ?_⟩
          rw [node.wt]; show 0 + 0 + _ + _ + 2 ≤ _; omega) hg'
      clear HM KZ
      go_wp2
      refine bodyPost_ret (v := .agg #[.int .i64 7, .int .i64 0, .string ⟨#[]⟩, .string ⟨#[]⟩, .slice aq (xs).length cq]) (by simp [results, Tryz.f65, go_sem, r0, r1, r2, r3, r4]) rfl ?_
      refine HT.out _ ?_
      repeat first | exact grown_self _ _ | (refine grown_by_by ?_ (grown_setP _ _ _ _))

end Go.Proofs.YtlnpfnglphdaiaaGreatDoor.tok

namespace Go.Proofs.YtlnpfnglphdaiaaGreatDoor.tok
open Go Go.RowKit Go.Deep Go.Proofs.YtlnpfnglphdaiaaGreatDoor.rose Go.Proofs.YtlnpfnglphdaiaaGreatDoor
set_option linter.unusedVariables false

theorem e_all (E : Env) : ∀ N, Told 45 E fun at_ => E.toks.length - at_ < N := by
  intro N
  induction N with
  | zero => exact fun w at_ bad h hN => absurd hN (Nat.not_lt_zero _)
  | succ N ih =>
    intro w at_ bad h hN
    have hat : Told 104 E fun at_ => E.toks.length - at_ ≤ N := fun w at_ bad h hN => atom_of E N ih w at_ bad h hN
    have hap : Told 102 E fun at_ => E.toks.length - at_ ≤ N := fun w at_ bad h hN => apply_of E N hat w at_ bad h hN
    have hpr : Told 99 E fun at_ => E.toks.length - at_ ≤ N := fun w at_ bad h hN => product_of E N hap w at_ bad h hN
    have hsu : Told 88 E fun at_ => E.toks.length - at_ ≤ N := fun w at_ bad h hN => sum_of E N hpr w at_ bad h hN
    have hco : Told 67 E fun at_ => E.toks.length - at_ ≤ N := fun w at_ bad h hN => compare_of E N hsu w at_ bad h hN
    have hpat : ∀ M, Told 87 E fun at_ => E.toks.length - at_ < M := by
      intro M
      induction M with
      | zero => exact fun w at_ bad h hN => absurd hN (Nat.not_lt_zero _)
      | succ M ihM =>
        intro w at_ bad h hN
        have hpa : Told 97 E fun at_ => E.toks.length - at_ ≤ M := fun w at_ bad h hN => patatom_of E M ihM w at_ bad h hN
        exact pat_of E M hpa w at_ bad h (by omega)
    exact e_of E N ih (fun w at_ bad h hN => let_of E N ih w at_ bad h hN.1 hN.2) (fun w at_ bad h hN => rec_of E N ih w at_ bad h hN.1 hN.2) (fun w at_ bad h hN => case_of E N ih (fun w at_ bad h hN => hpat (N + 1) w at_ bad h (by omega)) w at_ bad h hN) hco w at_ bad h (by omega)

theorem e_any (E : Env) : Told 45 E fun _ => True := fun w at_ bad h _ => e_all E (E.toks.length - at_ + 1) w at_ bad h (by omega)

end Go.Proofs.YtlnpfnglphdaiaaGreatDoor.tok
