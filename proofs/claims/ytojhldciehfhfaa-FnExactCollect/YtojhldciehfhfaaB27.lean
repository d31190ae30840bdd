/-
  The program's Collect, at every heap and all roots; nothing that was there is turned.
  The model's and the program's Collect, as the law's frame asks for them: the two answers in memory that is apart.
-/
import Derived.Test.YtojhldciehfhfaaB1
import Derived.Test.YtojhldciehfhfaaB2
import Derived.Test.YtojhldciehfhfaaB3
import Derived.Test.YtojhldciehfhfaaB4
import Derived.Test.YtojhldciehfhfaaB5
import Derived.Test.YtojhldciehfhfaaB6
import Derived.Test.YtojhldciehfhfaaB7
import Derived.Test.YtojhldciehfhfaaB8
import Derived.Test.YtojhldciehfhfaaB9
import Derived.Test.YtojhldciehfhfaaB10
import Derived.Test.YtojhldciehfhfaaB11
import Derived.Test.YtojhldciehfhfaaB12
import Derived.Test.YtojhldciehfhfaaB13
import Derived.Test.YtojhldciehfhfaaB14
import Derived.Test.YtojhldciehfhfaaB15
import Derived.Test.YtojhldciehfhfaaB16
import Derived.Test.YtojhldciehfhfaaB17
import Derived.Test.YtojhldciehfhfaaB18
import Derived.Test.YtojhldciehfhfaaB19
import Derived.Test.YtojhldciehfhfaaB20
import Derived.Test.YtojhldciehfhfaaB21
import Derived.Test.YtojhldciehfhfaaB22
import Derived.Test.YtojhldciehfhfaaB23
import Derived.Test.YtojhldciehfhfaaB24
import Derived.Test.YtojhldciehfhfaaB25
import Derived.Test.YtojhldciehfhfaaB26
namespace Go.Proofs.Ytojhldciehfhfaa.heap
open Go Go.RowKit Go.Deep Go.Proofs.Ytojhldciehfhfaa.rose Go.Proofs.Ytojhldciehfhfaa Go.Proofs.Ytojhldciehfhfaa.fun Go.Proofs.Ytojhldciehfhfaa.words Go.Proofs.Ytojhldciehfhfaa.ints
set_option linter.unusedVariables false
set_option linter.unusedSimpArgs false

/-- The heap's box and the answer's block. -/
structure CK (w : World) (v0 : Value) (half base next : Int) (X : World) : Prop where
  box : X.heap[w.heap.size]? = some (.cells #[v0, .int .i64 half, .int .i64 base, .int .i64 next] 26)
  res : X.heap[w.heap.size + 1]? = some (.cells #[.slice none 0 0, .int .i64 0, .int .i64 0, .int .i64 0] 26)
  bel : Below w.heap.size w X
theorem CK.low {w X Y : World} {v0 : Value} {half base next : Int} (h : CK w v0 half base next X) {n : Nat} (hn : w.heap.size + 2 ≤ n) (hB : Below n X Y) : CK w v0 half base next Y :=
  ⟨(hB.block _ (by omega)).trans h.box, (hB.block _ (by omega)).trans h.res, h.bel.trans (hB.mono (by omega))⟩
theorem CK.lt {w X : World} {v0 : Value} {half base next : Int} (h : CK w v0 half base next X) : w.heap.size + 2 ≤ X.heap.size := (Array.getElem?_eq_some_iff.1 h.res).1
theorem OW.row {g B : Nat} {X : List Int} {w : World} (h : OW g X w) (hl : X.length ≤ 1048576) (hb : B ≤ g) : IRow w B (.slice (some ⟨g, 0, none⟩) X.length X.length) X := (h.wb (by unfold maxLen; omega)).row hb
theorem OW.rep {g : Nat} {X : List Int} {w : World} (h : OW g X w) (hl : X.length ≤ 1048576) {S : Nat → Prop} (hS : S g) : intsSh.rep w S [.slice (some ⟨g, 0, none⟩) X.length X.length] X := (h.wb (by unfold maxLen; omega)).rep hS

set_option maxRecDepth 100000 in
set_option maxHeartbeats 16000000 in
theorem implCollect (T : HeapD) (rs : List Int) (cs : List Value) (v : Value) (w : World) (hw : (wt T) ≤ 1048576) (hrl : rs.length ≤ 1048576) (h : heapSh.rep w (· < w.heap.size) cs T) (hv : intsSh.rep w (· < w.heap.size) [v] rs) :
    Calls Try.prog 8 #[.agg cs.toArray, v] w fun e w' => ColOut w w' e (collectF T rs).1 (collectF T rs).2 ∧ Below w.heap.size w w' := by
  obtain ⟨W, a0, c0, half, base, next, rfl, rfl, f0, f1, f2, f3⟩ := heap_open h
  obtain ⟨ar, cr, hvv⟩ : ∃ a c, v = .slice a rs.length c := by obtain ⟨a, c, e⟩ := slice_cells hv; simp only [List.cons.injEq, and_true] at e; exact ⟨a, c, e⟩
  subst hvv
  have hw1 : W.length ≤ 1048576 := hw
  have HFR : Hid (InR half ∧ InR base ∧ InR next) := ⟨f1, f2, f3⟩
  obtain ⟨wa, hwa⟩ : ∃ wa, wa = (w.alloc (.cells #[.slice a0 W.length c0, .int .i64 half, .int .i64 base, .int .i64 next] 26)).alloc (.cells #[.slice none 0 0, .int .i64 0, .int .i64 0, .int .i64 0] 26) := ⟨_, rfl⟩
  have B0 : Below w.heap.size w wa := by rw [hwa]; exact ((Below.refl _ _).alloc (Nat.le_refl _) _).alloc (by simp) _
  have Z0 : wa.heap.size = w.heap.size + 2 := by rw [hwa]; simp
  have X0 : CK w (.slice a0 W.length c0) half base next wa := by rw [hwa]; exact ⟨(two_tops w _ _).1, (two_tops w _ _).2, by rw [← hwa]; exact B0⟩
  have k0 : wa.cell? ⟨w.heap.size, 0, none⟩ = some (.slice a0 W.length c0) := blk_cellH (i := 0) X0.box rfl
  have hcp1 := copied_is W a0 c0 wa (S := (· < w.heap.size)) (intsSh.below f0 B0) (fun b hb => by omega) hw1
  have HV2 : Hid (∀ X : World, Below w.heap.size w X → intsSh.rep X (· < w.heap.size) [.slice ar rs.length cr] rs) := fun X hX => intsSh.below hv hX
  rw [Z0] at hcp1
  have HWA : Hid (wa = (w.alloc (.cells #[.slice a0 W.length c0, .int .i64 half, .int .i64 base, .int .i64 next] 26)).alloc (.cells #[.slice none 0 0, .int .i64 0, .int .i64 0, .int .i64 0] 26)) := hwa
  have HX0 : Hid (CK w (.slice a0 W.length c0) half base next wa) := X0
  rw [hwa] at hcp1 k0
  clear h hv f0 f1 f2 f3 hw B0 Z0 X0 hwa
  obtain ⟨R, hR⟩ : ∃ R, R = collectF (W, half, base, next) rs := ⟨_, rfl⟩
  have HR : Hid (R = collectF (W, half, base, next) rs) := hR
  rw [← hR]
  clear hR
  go_enter Try.func8, Try.ntmps8
  go_wp2_with fail
  refine hcp1.mono ?_
  rintro e w1 ⟨rfl, hO1, hb1⟩
  rw [← HWA.out] at hb1
  have C1 : Hid (CK w (.slice a0 W.length c0) half base next w1) := HX0.out.low (Nat.le_refl _) hb1
  have hcp2 := copied_is rs ar cr w1 (S := (· < w.heap.size)) (HV2.out w1 C1.out.bel) (fun b hb => by have := C1.out.lt; omega) hrl
  have O1 : Hid (OW (w.heap.size + 2) W w1) := hO1
  clear hcp1 hO1 hb1 k0
  go_wp2_with fail
  refine hcp2.mono ?_
  rintro e w2 ⟨rfl, hO2, hb2⟩
  have C2 : Hid (CK w (.slice a0 W.length c0) half base next w2) := C1.out.low C1.out.lt hb2
  have O2 : Hid (OW w1.heap.size rs w2 ∧ OW (w.heap.size + 2) W w2 ∧ w.heap.size + 2 < w1.heap.size) := ⟨hO2, O1.out.on (hb2.block _ O1.out.lt), O1.out.lt⟩
  obtain ⟨gr, hgr⟩ : ∃ gr, gr = w1.heap.size := ⟨_, rfl⟩
  rw [← hgr] at O2 ⊢
  clear hcp2 hO2 hb2 hgr
  have k0 : w2.cell? ⟨w.heap.size, 0, none⟩ = some (.slice a0 W.length c0) := blk_cellH (i := 0) C2.out.box rfl
  have kf : ∀ j, w2.frozen? ⟨w.heap.size, j, none⟩ = false := fun j => blk_frzH C2.out.box
  have C3 : Hid (CK w (.slice (some ⟨w.heap.size + 2, 0, none⟩) W.length W.length) half base next (w2.setCell ⟨w.heap.size, 0, none⟩ (.slice (some ⟨w.heap.size + 2, 0, none⟩) W.length W.length))) := ⟨by simp [World.setCell, Array.getElem?_modify, C2.out.box], (Below.heap_setCell _ _ _ _ (by show w.heap.size + 1 ≠ w.heap.size; omega)).trans C2.out.res, C2.out.bel.setCell (Nat.le_refl _) _⟩
  have m0 := blk_cellH (i := 0) C3.out.box rfl
  have m1 := blk_cellH (i := 1) C3.out.box rfl
  have m2 := blk_cellH (i := 2) C3.out.box rfl
  have m3 := blk_cellH (i := 3) C3.out.box rfl
  have O3 : Hid (OW gr rs (w2.setCell ⟨w.heap.size, 0, none⟩ (.slice (some ⟨w.heap.size + 2, 0, none⟩) W.length W.length)) ∧ OW (w.heap.size + 2) W (w2.setCell ⟨w.heap.size, 0, none⟩ (.slice (some ⟨w.heap.size + 2, 0, none⟩) W.length W.length)) ∧ w.heap.size + 2 < gr) := ⟨O2.out.1.on (Below.heap_setCell _ _ _ _ (by have := O2.out.2.2; show gr ≠ w.heap.size; omega)), O2.out.2.1.on (Below.heap_setCell _ _ _ _ (by show w.heap.size + 2 ≠ w.heap.size; omega)), O2.out.2.2⟩
  have hmt := meetTop_is W (some ⟨w.heap.size + 2, 0, none⟩) W.length half base next rs (.slice (some ⟨gr, 0, none⟩) rs.length rs.length) (w2.setCell ⟨w.heap.size, 0, none⟩ (.slice (some ⟨w.heap.size + 2, 0, none⟩) W.length W.length)) hrl (heap_shut (O3.out.2.1.rep hw1 O3.out.2.1.lt) HFR.out.1 HFR.out.2.1 HFR.out.2.2) (O3.out.1.rep hrl O3.out.1.lt)
  go_wp2_with fail
  clear m0 m1 m2 m3 k0 kf
  have Z3 : Hid (w.heap.size + 2 < (w2.setCell ⟨w.heap.size, 0, none⟩ (.slice (some ⟨w.heap.size + 2, 0, none⟩) W.length W.length)).heap.size ∧ gr < (w2.setCell ⟨w.heap.size, 0, none⟩ (.slice (some ⟨w.heap.size + 2, 0, none⟩) W.length W.length)).heap.size) := ⟨O3.out.2.1.lt, O3.out.1.lt⟩
  generalize w2.setCell ⟨w.heap.size, 0, none⟩ (.slice (some ⟨w.heap.size + 2, 0, none⟩) W.length W.length) = w3 at *
  clear C2 O2 HX0 HWA C1 O1
  rcases q : rightB (W, half, base, next) rs with _ | _
  · have HF : Hid (R = ((W, half, base, next), rs)) := by show _ = _; rw [HR.out]; unfold collectF; rw [q]; rfl
    refine hmt.mono ?_
    rintro e w4 ⟨ho, hb4⟩
    obtain ⟨p, rfl⟩ := ho.1 q
    have C4 : Hid (CK w (.slice (some ⟨w.heap.size + 2, 0, none⟩) W.length W.length) half base next (w4.alloc (.cells #[.int .i64 0, .slice none 0 0, .slice none 0 0] 40))) := (C3.out.low C3.out.lt hb4).low (Nat.le_trans C3.out.lt hb4.size) ((Below.refl _ _).alloc (Nat.le_refl _) _)
    have O4 : Hid (OW gr rs (w4.alloc (.cells #[.int .i64 0, .slice none 0 0, .slice none 0 0] 40)) ∧ OW (w.heap.size + 2) W (w4.alloc (.cells #[.int .i64 0, .slice none 0 0, .slice none 0 0] 40)) ∧ w.heap.size + 2 < gr) := by
      have z := Z3.out
      have hs := hb4.size
      exact ⟨O3.out.1.on ((Below.heap_alloc _ _ _ (by omega)).trans (hb4.block _ z.2)), O3.out.2.1.on ((Below.heap_alloc _ _ _ (by omega)).trans (hb4.block _ z.1)), O3.out.2.2⟩
    clear hmt hb4 ho q
    have m0 := blk_cellH (i := 0) C4.out.box rfl
    have m1 := blk_cellH (i := 1) C4.out.box rfl
    have m2 := blk_cellH (i := 2) C4.out.box rfl
    have m3 := blk_cellH (i := 3) C4.out.box rfl
    have r0 := blk_cellH (i := 0) C4.out.res rfl
    have r1 := blk_cellH (i := 1) C4.out.res rfl
    have r2 := blk_cellH (i := 2) C4.out.res rfl
    have r3 := blk_cellH (i := 3) C4.out.res rfl
    have rf : ∀ j, (w4.alloc (.cells #[.int .i64 0, .slice none 0 0, .slice none 0 0] 40)).frozen? ⟨w.heap.size + 1, j, none⟩ = false := fun j => blk_frzH C4.out.res
    have HSET : Hid _ := res_set (x0 := .slice (some ⟨w.heap.size + 2, 0, none⟩) W.length W.length) (x1 := .int .i64 half) (x2 := .int .i64 base) (x3 := .int .i64 next) (B := w.heap.size) C4.out.bel (n0 := w.heap.size + 1) (by omega) ⟨_, _, _, _, C4.out.res⟩
    go_wp2
    obtain ⟨hs1, hs2, hs3⟩ := HSET.out
    clear m0 m1 m2 m3 r0 r1 r2 r3 rf
    generalize World.setCell _ _ _ = wE at hs1 hs2 hs3 ⊢
    have n0 : wE.cell? ⟨w.heap.size + 1, 0, none⟩ = some (.slice (some ⟨w.heap.size + 2, 0, none⟩) W.length W.length) := blk_cellH (i := 0) hs1 rfl
    have n1 : wE.cell? ⟨w.heap.size + 1, 1, none⟩ = some (.int .i64 half) := blk_cellH (i := 1) hs1 rfl
    have n2 : wE.cell? ⟨w.heap.size + 1, 2, none⟩ = some (.int .i64 base) := blk_cellH (i := 2) hs1 rfl
    have n3 : wE.cell? ⟨w.heap.size + 1, 3, none⟩ = some (.int .i64 next) := blk_cellH (i := 3) hs1 rfl
    refine bodyPost_ret (v := .tuple #[.agg #[.slice (some ⟨w.heap.size + 2, 0, none⟩) W.length W.length, .int .i64 half, .int .i64 base, .int .i64 next], .slice (some ⟨gr, 0, none⟩) rs.length rs.length]) (by simp [results, Try.f8, go_sem, n0, n1, n2, n3]) rfl ?_
    rw [HF.out]
    have hg := O4.out.2.2
    refine ⟨⟨_, _, _, rfl, (O4.out.2.1.on (hs3 _ (by omega))).row hw1 (by omega), (O4.out.1.on (hs3 _ (by omega))).row hrl (by omega), (fun k hk hk2 => ?_), HFR.out.1, HFR.out.2.1, HFR.out.2.2⟩, hs2⟩
    simp only [Value.ownBlock, Option.some.injEq] at hk hk2
    omega
  · have Q : Hid (rightB (W, half, base, next) rs = true) := q
    refine hmt.mono ?_
    rintro e w4 ⟨ho, hb4⟩
    obtain ⟨hb', hm, hf, bs, nx, nb, B2, M, v, e1, e2, e3, rfl, hH, hN, hz1, hz2⟩ := ho.2 q
    subst e1 e2 e3
    obtain ⟨O, hO⟩ : ∃ O, O = orderF (W, (hf : Int), (bs : Int), (nx : Int)) rs := ⟨_, rfl⟩
    rw [← hO] at hN
    obtain ⟨av, cv, hvv⟩ := own_form hN.plc.1
    subst hvv
    have K5 : Below w4.heap.size w4 (w4.alloc (.cells #[.int .i64 bs, .slice av O.length cv, .slice (some ⟨nb, 0, none⟩) hf hf] 40)) := (Below.refl _ _).alloc (Nat.le_refl _) _
    have C5 : Hid (CK w (.slice (some ⟨w.heap.size + 2, 0, none⟩) W.length W.length) hf bs nx (w4.alloc (.cells #[.int .i64 bs, .slice av O.length cv, .slice (some ⟨nb, 0, none⟩) hf hf] 40))) := (C3.out.low C3.out.lt hb4).low (Nat.le_trans C3.out.lt hb4.size) K5
    have z := Z3.out
    have hs := hb4.size
    have hg := O3.out.2.2
    have O5a : OW gr rs (w4.alloc (.cells #[.int .i64 bs, .slice av O.length cv, .slice (some ⟨nb, 0, none⟩) hf hf] 40)) := O3.out.1.on ((Below.heap_alloc _ _ _ (by omega)).trans (hb4.block _ z.2))
    have O5b : OW (w.heap.size + 2) W (w4.alloc (.cells #[.int .i64 bs, .slice av O.length cv, .slice (some ⟨nb, 0, none⟩) hf hf] 40)) := O3.out.2.1.on ((Below.heap_alloc _ _ _ (by omega)).trans (hb4.block _ z.1))
    have hlo := hH.lo
    have hmv := move_is (Bl := w.heap.size + 2) (hH.on K5) O5b (hN.on K5) O5a (by omega) ⟨by omega, by omega, by omega, by omega, by omega, by omega, by omega, by omega, by omega, hz1, hz2⟩ q hO hrl
    have hdn := done_is O5b.2 q hO hH.siz
    have HF : Hid (R = ((doneW W hf bs (hf - bs) O, (hf : Int), ((hf - bs : Nat) : Int), ((posO W (hf - bs) O O.length : Nat) : Int)), rs.map (turnM O (mvL W (hf - bs) O O.length)))) := by show _ = _; rw [HR.out]; exact hdn.2
    have HLM : Hid (w.heap.size + 2 ≤ hb' ∧ hf ≤ 3000 ∧ posO W (hf - bs) O O.length ≤ 6000) := ⟨by omega, hH.siz.2.2.2.1, by have := hdn.1; have := hH.siz; omega⟩
    have HGR : Hid (w.heap.size + 2 < gr ∧ gr < hb') := ⟨hg, by omega⟩
    clear hmt hb4 ho q hH hN hO K5 O5a O5b hdn hlo z hs hg hz1 hz2
    go_wp2_with fail
    refine hmv.mono ?_
    rintro e w6 ⟨rfl, ⟨t, ht1, ht2⟩, hO6, hb6⟩
    have C6 : Hid (CK w (.slice (some ⟨w.heap.size + 2, 0, none⟩) W.length W.length) hf bs nx w6) := C5.out.low (Nat.le_refl _) hb6
    have hhp := hheap_is (B := hb') ht2 ht1 (Nat.le_refl _)
    have O6 : Hid (OW gr (rs.map (turnM O (mvL W (hf - bs) O O.length))) w6 ∧ OW (w.heap.size + 2) (doneW W hf bs (hf - bs) O) w6) := ⟨hO6, ht2.wds⟩
    have L6 : Hid ((doneW W hf bs (hf - bs) O).length = W.length) := by show _ = _; unfold doneW; rw [putW_length, putW_length, tnW_len, cpW_len]
    obtain ⟨XD, hXD⟩ : ∃ XD, XD = doneW W hf bs (hf - bs) O := ⟨_, rfl⟩
    obtain ⟨RD, hRD⟩ : ∃ RD, RD = rs.map (turnM O (mvL W (hf - bs) O O.length)) := ⟨_, rfl⟩
    have RL : Hid (RD.length = rs.length) := by show _ = _; rw [hRD, List.length_map]
    obtain ⟨nn, hnn⟩ : ∃ nn, nn = posO W (hf - bs) O O.length := ⟨_, rfl⟩
    obtain ⟨b1, hb1⟩ : ∃ b1, b1 = hf - bs := ⟨_, rfl⟩
    rw [← hXD, ← hRD, ← hnn, ← hb1] at HF
    rw [← hXD] at O6 L6
    rw [← hRD] at O6
    rw [← hXD, ← hnn, ← hb1] at hhp
    have HLN : Hid (hf ≤ 3000 ∧ nn ≤ 6000 ∧ b1 ≤ 3000) := ⟨HLM.out.2.1, by rw [hnn]; exact HLM.out.2.2, by have := HLM.out.2.1; omega⟩
    clear hmv hO6 hb6 ht1 ht2 hXD hRD hnn hb1
    go_wp2_with fail
    refine hhp.mono ?_
    rintro e w7 ⟨rfl, hb7⟩
    have C7 : Hid (CK w (.slice (some ⟨w.heap.size + 2, 0, none⟩) W.length W.length) hf bs nx w7) := C6.out.low (by have := HLM.out.1; omega) hb7
    have O7 : Hid (OW gr RD w7 ∧ OW (w.heap.size + 2) XD w7) := ⟨O6.out.1.on (hb7.block _ HGR.out.2), O6.out.2.on (hb7.block _ (by have := HGR.out; omega))⟩
    have r0 := blk_cellH (i := 0) C7.out.res rfl
    have r1 := blk_cellH (i := 1) C7.out.res rfl
    have r2 := blk_cellH (i := 2) C7.out.res rfl
    have r3 := blk_cellH (i := 3) C7.out.res rfl
    have rf : ∀ j, w7.frozen? ⟨w.heap.size + 1, j, none⟩ = false := fun j => blk_frzH C7.out.res
    have HSET : Hid _ := res_set (x0 := .slice (some ⟨w.heap.size + 2, 0, none⟩) XD.length XD.length) (x1 := .int .i64 hf) (x2 := .int .i64 b1) (x3 := .int .i64 nn) (B := w.heap.size) C7.out.bel (n0 := w.heap.size + 1) (by omega) ⟨_, _, _, _, C7.out.res⟩
    clear hhp hb7
    go_wp2
    obtain ⟨hs1, hs2, hs3⟩ := HSET.out
    clear r0 r1 r2 r3 rf
    generalize World.setCell _ _ _ = wE at hs1 hs2 hs3 ⊢
    have n0 : wE.cell? ⟨w.heap.size + 1, 0, none⟩ = some (.slice (some ⟨w.heap.size + 2, 0, none⟩) XD.length XD.length) := blk_cellH (i := 0) hs1 rfl
    have n1 : wE.cell? ⟨w.heap.size + 1, 1, none⟩ = some (.int .i64 hf) := blk_cellH (i := 1) hs1 rfl
    have n2 : wE.cell? ⟨w.heap.size + 1, 2, none⟩ = some (.int .i64 b1) := blk_cellH (i := 2) hs1 rfl
    have n3 : wE.cell? ⟨w.heap.size + 1, 3, none⟩ = some (.int .i64 nn) := blk_cellH (i := 3) hs1 rfl
    refine bodyPost_ret (v := .tuple #[.agg #[.slice (some ⟨w.heap.size + 2, 0, none⟩) XD.length XD.length, .int .i64 hf, .int .i64 b1, .int .i64 nn], .slice (some ⟨gr, 0, none⟩) rs.length rs.length]) (by simp [results, Try.f8, go_sem, n0, n1, n2, n3]) rfl ?_
    rw [HF.out]
    have hg := HGR.out
    have hl := HLN.out
    have hrow := (O7.out.1.on (hs3 _ (by omega))).row (B := w.heap.size) (by rw [RL.out]; exact hrl) (by omega)
    rw [RL.out] at hrow
    refine ⟨⟨_, _, _, rfl, (O7.out.2.on (hs3 _ (by omega))).row (by rw [L6.out]; exact hw1) (by omega), hrow, (fun k hk hk2 => ?_), by unfold InR; show _ ≤ (hf : Int) ∧ (hf : Int) ≤ _; omega, by unfold InR; show _ ≤ (b1 : Int) ∧ (b1 : Int) ≤ _; omega, by unfold InR; show _ ≤ (nn : Int) ∧ (nn : Int) ≤ _; omega⟩, hs2⟩
    simp only [Value.ownBlock, Option.some.injEq] at hk hk2
    omega

end Go.Proofs.Ytojhldciehfhfaa.heap

namespace Go.Proofs.Ytojhldciehfhfaa.heap
open Go Go.RowKit Go.Proofs.Ytojhldciehfhfaa.rose Go.Proofs.Ytojhldciehfhfaa Go.Proofs.Ytojhldciehfhfaa.fun Go.Proofs.Ytojhldciehfhfaa.words Go.Proofs.Ytojhldciehfhfaa.ints
set_option linter.unusedVariables false

theorem irow_in {w : World} {base : Nat} {v : Value} {l : List Int} {S : Nat → Prop} (h : IRow w base v l) (hS : ∀ g, v.ownBlock = some g → S g) : intsSp.rep w S [v] l := by
  rcases h.open with ⟨rfl, rfl⟩ | ⟨g, cap, rfl, h2, h3, h4, h5, h6, cur, t, h7⟩
  · exact ⟨none, 0, fun _ => [], fun _ _ => False, rfl, Nat.le_refl _, Nat.zero_le _, fun _ => rfl, fun h0 => absurd h0 (Nat.not_lt_zero _), fun i hi => absurd hi (Nat.not_lt_zero _), fun i j hi => absurd hi (Nat.not_lt_zero _), fun i hi => absurd hi (Nat.not_lt_zero _)⟩
  · refine ⟨some ⟨g, 0, none⟩, cap, fun i => [.int .i64 (l.getD i 0)], fun _ _ => False, rfl, h4, h5, (fun h => by cases h), fun h0 => ⟨g, 0, cur, t, rfl, hS g rfl, h7, fun _ _ h => h, fun i hi q u hq => ?_⟩, fun i hi b h => h.elim, fun i j hi hj hne b h => h.elim, fun i hi => ⟨by simp [List.getD, hi], h.2 _ (List.getElem_mem hi)⟩⟩
    match q, hq with
    | 0, hq =>
      simp at hq; subst hq
      have := h6 i hi
      simpa [Sh.int, List.getD, hi] using this
    | _ + 1, hq => simp at hq
/-- A row lies between two numbers, whatever block it has. -/
theorem irow_span {w : World} {base : Nat} {v : Value} {l : List Int} (h : IRow w base v l) (hb : base ≤ w.heap.size) : ∃ lo hi, base ≤ lo ∧ hi ≤ w.heap.size ∧ (∀ g, v.ownBlock = some g → lo = g ∧ hi = g + 1) ∧ (v.ownBlock = none → lo = base ∧ hi = base) ∧ intsSp.rep w (fun b => lo ≤ b ∧ b < hi) [v] l := by
  cases hv : v.ownBlock with
  | none => exact ⟨base, base, Nat.le_refl _, hb, (fun g hg => by cases hg), (fun _ => ⟨rfl, rfl⟩), irow_in h fun g hg => by rw [hv] at hg; cases hg⟩
  | some g =>
    have hg := h.lt g hv
    refine ⟨g, g + 1, hg.1, hg.2, (fun k hk => by cases hk; exact ⟨rfl, rfl⟩), (fun hk => by cases hk), irow_in h fun k hk => ?_⟩
    rw [hv] at hk
    cases hk
    exact ⟨Nat.le_refl _, Nat.lt_succ_self _⟩
theorem two_apart {w w' : World} {a : Option Addr} {c : Nat} {v : Value} {T : HeapD} {rs : List Int} (hb : w.heap.size ≤ w'.heap.size) (h1 : IRow w' w.heap.size (.slice a T.1.length c) T.1) (h2 : IRow w' w.heap.size v rs) (hap : ∀ k, (Value.slice a T.1.length c).ownBlock = some k → v.ownBlock ≠ some k)
    (g1 : InR T.2.1) (g2 : InR T.2.2.1) (g3 : InR T.2.2.2) : ∃ lo0 hi0 lo1 hi1, heapSp.rep w' (fun b => lo0 ≤ b ∧ b < hi0) [.slice a T.1.length c, .int .i64 T.2.1, .int .i64 T.2.2.1, .int .i64 T.2.2.2] T ∧ intsSp.rep w' (fun b => lo1 ≤ b ∧ b < hi1) [v] rs ∧ w.heap.size ≤ lo0 ∧ hi0 ≤ w'.heap.size ∧ w.heap.size ≤ lo1 ∧ hi1 ≤ w'.heap.size ∧ (hi0 ≤ lo1 ∨ hi1 ≤ lo0) := by
  obtain ⟨W, half, base, next⟩ := T
  obtain ⟨lo0, hi0, a1, a2, a3, a4, a5⟩ := irow_span h1 hb
  obtain ⟨lo1, hi1, b1, b2, b3, b4, b5⟩ := irow_span h2 hb
  refine ⟨lo0, hi0, lo1, hi1, heapp_shut a5 g1 g2 g3, b5, a1, a2, b1, b2, ?_⟩
  cases e0 : (Value.slice a W.length c).ownBlock with
  | none => have := a4 e0; omega
  | some k =>
    have h3 := a3 k e0
    cases e1 : v.ownBlock with
    | none => have := b4 e1; omega
    | some m =>
      have h4 := b3 m e1
      have : k ≠ m := fun e => hap k e0 (by rw [e1, e])
      omega

theorem std_of {w w' : World} {e : Ending} {T : HeapD} {rs : List Int} (h : ColOut w w' e T rs ∧ Below w.heap.size w w') :
    (∃ cs' v' lo0 hi0 lo1 hi1, e = .returned (.tuple #[.agg cs'.toArray, v']) ∧ heapSp.rep w' (fun b => lo0 ≤ b ∧ b < hi0) cs' T ∧ intsSp.rep w' (fun b => lo1 ≤ b ∧ b < hi1) [v'] rs ∧ w.heap.size ≤ lo0 ∧ hi0 ≤ w'.heap.size ∧ w.heap.size ≤ lo1 ∧ hi1 ≤ w'.heap.size ∧ (hi0 ≤ lo1 ∨ hi1 ≤ lo0)) ∧ Below w.heap.size w w' := by
  obtain ⟨⟨a, c, v', he, h1, h2, hap, g1, g2, g3⟩, hb⟩ := h
  obtain ⟨lo0, hi0, lo1, hi1, r⟩ := two_apart hb.size h1 h2 hap g1 g2 g3
  exact ⟨⟨_, v', lo0, hi0, lo1, hi1, he, r⟩, hb⟩
theorem specCollect_std (T : HeapD) (rs : List Int) (cs : List Value) (v : Value) (w : World) (hw : (wt T) ≤ 1048576) (hl : rs.length ≤ 1048576) (h : heapSh.rep w (· < w.heap.size) cs T) (hv : intsSh.rep w (· < w.heap.size) [v] rs) :
    Calls Try.prog 5 #[.agg cs.toArray, v] w fun e w' => (∃ cs' v' lo0 hi0 lo1 hi1, e = .returned (.tuple #[.agg cs'.toArray, v']) ∧ heapSp.rep w' (fun b => lo0 ≤ b ∧ b < hi0) cs' (collectF T rs).1 ∧ intsSp.rep w' (fun b => lo1 ≤ b ∧ b < hi1) [v'] (collectF T rs).2 ∧ w.heap.size ≤ lo0 ∧ hi0 ≤ w'.heap.size ∧ w.heap.size ≤ lo1 ∧ hi1 ≤ w'.heap.size ∧ (hi0 ≤ lo1 ∨ hi1 ≤ lo0)) ∧ Below w.heap.size w w' :=
  (specCollect T rs cs v w hw hl h hv).mono fun e w' hh => std_of hh
theorem implCollect_std (T : HeapD) (rs : List Int) (cs : List Value) (v : Value) (w : World) (hw : (wt T) ≤ 1048576) (hl : rs.length ≤ 1048576) (h : heapSh.rep w (· < w.heap.size) cs T) (hv : intsSh.rep w (· < w.heap.size) [v] rs) :
    Calls Try.prog 8 #[.agg cs.toArray, v] w fun e w' => (∃ cs' v' lo0 hi0 lo1 hi1, e = .returned (.tuple #[.agg cs'.toArray, v']) ∧ heapSp.rep w' (fun b => lo0 ≤ b ∧ b < hi0) cs' (collectF T rs).1 ∧ intsSp.rep w' (fun b => lo1 ≤ b ∧ b < hi1) [v'] (collectF T rs).2 ∧ w.heap.size ≤ lo0 ∧ hi0 ≤ w'.heap.size ∧ w.heap.size ≤ lo1 ∧ hi1 ≤ w'.heap.size ∧ (hi0 ≤ lo1 ∨ hi1 ≤ lo0)) ∧ Below w.heap.size w w' :=
  (implCollect T rs cs v w hw hl h hv).mono fun e w' hh => std_of hh

theorem cntT_boundC (T : HeapD) (hw : wt T ≤ 1048576) : cntT T ≤ 1073741824 := by
  obtain ⟨W, a, b, c⟩ := T
  have h1 : wt (W, a, b, c) = W.length := rfl
  have h2 : cntT (W, a, b, c) = W.length := rfl
  omega
theorem mv_len (W : List Int) (s : CS) (x : Int) : (mvF W s x).1.1.length = s.1.length := by
  by_cases h1 : x % 2 = 0
  · by_cases h2 : x / 2 ∈ s.2.2.1
    · rw [mv_old h1 h2]
    · rw [mv_new h1 h2]; exact putW_length _ _ _
  · rw [mv_odd h1]
theorem roots_len (W : List Int) (rs : List Int) : ∀ (s : CS) (M : List Int), ((rs.foldl (fun a x => ((mvF W a.1 x).1, a.2 ++ [(mvF W a.1 x).2])) (s, M)).1.1.length = s.1.length) ∧ ((rs.foldl (fun a x => ((mvF W a.1 x).1, a.2 ++ [(mvF W a.1 x).2])) (s, M)).2.length = M.length + rs.length) := by
  induction rs with
  | nil => intro s M; exact ⟨rfl, rfl⟩
  | cons x rs ih =>
    intro s M
    simp only [List.foldl_cons]
    have := ih (mvF W s x).1 (M ++ [(mvF W s x).2])
    rw [mv_len] at this
    simp only [List.length_append, List.length_cons, List.length_nil] at this ⊢
    omega
theorem scanK_len (W : List Int) (p : Nat) : ∀ (r j : Nat) (s : CS), (scanK W p r j s).1.length = s.1.length := by
  intro r
  induction r with
  | zero => intro j s; rfl
  | succ r ih => intro j s; rw [scanK, ih]; simp only [List.length_set, mv_len]
theorem scanC_len (W : List Int) : ∀ (f p : Nat) (s : CS), (scanC W f p s).1.length = s.1.length := by
  intro f
  induction f with
  | zero => intro p s; rfl
  | succ f ih =>
    intro p s
    rw [scanC]
    split
    · rw [ih, scanK_len]
    · rfl
theorem collect_bound (T : HeapD) (rs : List Int) (hw : wt T ≤ 1048576) : cntT (collectF T rs).1 ≤ 1073741824 := by
  unfold collectF
  split
  · have h1 : (endC T rs).1.length = T.1.length := by
      unfold endC
      rw [scanC_len]
      unfold rootsC
      rw [(roots_len T.1 rs (startC T) []).1]
      simp [startC]
    have h2 : wt T = T.1.length := by obtain ⟨W, a, b, c⟩ := T; rfl
    show (endC T rs).1.length ≤ _
    omega
  · exact cntT_boundC T hw
theorem collect_bound2 (T : HeapD) (rs : List Int) (hl : rs.length ≤ 1048576) : (collectF T rs).2.length ≤ 1073741824 := by
  unfold collectF
  split
  · show (rootsC T.1 (startC T) rs).2.length ≤ _
    unfold rootsC
    rw [(roots_len T.1 rs (startC T) []).2]
    simp; omega
  · show rs.length ≤ _; omega

end Go.Proofs.Ytojhldciehfhfaa.heap
