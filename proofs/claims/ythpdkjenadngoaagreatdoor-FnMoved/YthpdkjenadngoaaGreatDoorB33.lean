/-
  The program's Collect, at every heap and all roots; nothing that was there is turned.
  The contracts of slices.Sort at slices of ints, laid at this program (the shelf's plain words): proved once over any program, applied here; no condition of our own.
  The program's Reach, at every heap and all roots; nothing that was there is turned.
  The contract of strconv.Itoa, laid at this program (the shelf's plain words): proved once over any program, applied here; no condition of our own.
-/
import Derived.Shelf.Sort.Plain
import Derived.Shelf.Slices.In.SortNone
import Derived.Test.YthpdkjenadngoaaGreatDoorProg
import Derived.Sort.OwnSortedInts
import Derived.Shelf.Strconv.Itoa0
import Derived.Shelf.Strconv.Itoa1
import Derived.Shelf.LaysM
import Derived.Shelf.Strconv.Itoa2
import Derived.Shelf.Strconv.Itoa3
import Derived.Test.YthpdkjenadngoaaGreatDoorB1
import Derived.Test.YthpdkjenadngoaaGreatDoorB2
import Derived.Test.YthpdkjenadngoaaGreatDoorB3
import Derived.Test.YthpdkjenadngoaaGreatDoorB4
import Derived.Test.YthpdkjenadngoaaGreatDoorB5
import Derived.Test.YthpdkjenadngoaaGreatDoorB6
import Derived.Test.YthpdkjenadngoaaGreatDoorB7
import Derived.Test.YthpdkjenadngoaaGreatDoorB8
import Derived.Test.YthpdkjenadngoaaGreatDoorB9
import Derived.Test.YthpdkjenadngoaaGreatDoorB10
import Derived.Test.YthpdkjenadngoaaGreatDoorB11
import Derived.Test.YthpdkjenadngoaaGreatDoorB12
import Derived.Test.YthpdkjenadngoaaGreatDoorB13
import Derived.Test.YthpdkjenadngoaaGreatDoorB14
import Derived.Test.YthpdkjenadngoaaGreatDoorB15
import Derived.Test.YthpdkjenadngoaaGreatDoorB16
import Derived.Test.YthpdkjenadngoaaGreatDoorB17
import Derived.Test.YthpdkjenadngoaaGreatDoorB18
import Derived.Test.YthpdkjenadngoaaGreatDoorB19
import Derived.Test.YthpdkjenadngoaaGreatDoorB20
import Derived.Test.YthpdkjenadngoaaGreatDoorB21
import Derived.Test.YthpdkjenadngoaaGreatDoorB22
import Derived.Test.YthpdkjenadngoaaGreatDoorB23
import Derived.Test.YthpdkjenadngoaaGreatDoorB24
import Derived.Test.YthpdkjenadngoaaGreatDoorB25
import Derived.Test.YthpdkjenadngoaaGreatDoorB26
import Derived.Test.YthpdkjenadngoaaGreatDoorB27
import Derived.Test.YthpdkjenadngoaaGreatDoorB28
import Derived.Test.YthpdkjenadngoaaGreatDoorB29
import Derived.Test.YthpdkjenadngoaaGreatDoorB30
import Derived.Test.YthpdkjenadngoaaGreatDoorB31
import Derived.Test.YthpdkjenadngoaaGreatDoorB32
namespace Go.Proofs.YthpdkjenadngoaaGreatDoor.heap
open Go Go.RowKit Go.Deep Go.Proofs.YthpdkjenadngoaaGreatDoor.rose Go.Proofs.YthpdkjenadngoaaGreatDoor Go.Proofs.YthpdkjenadngoaaGreatDoor.fun Go.Proofs.YthpdkjenadngoaaGreatDoor.words Go.Proofs.YthpdkjenadngoaaGreatDoor.ints
set_option linter.unusedVariables false
set_option linter.unusedSimpArgs false

/-- The heap's box and the answer's block. -/
structure CK (w : World) (v0 : Value) (half base next : Int) (X : World) : Prop where
  box : X.heap[w.heap.size]? = some (.cells #[v0, .int .i64 half, .int .i64 base, .int .i64 next] 26)
  res : X.heap[w.heap.size + 1]? = some (.cells #[.slice none 0 0, .int .i64 0, .int .i64 0, .int .i64 0] 26)
  bel : Below w.heap.size w X
theorem CK.low {w X Y : World} {v0 : Value} {half base next : Int} (h : CK w v0 half base next X) {n : Nat} (hn : w.heap.size + 2 ≤ n) (hB : Below n X Y) : CK w v0 half base next Y :=
  ⟨(hB.block _ (by omega)).trans h.box, (hB.block _ (by omega)).trans h.res, h.bel.trans (hB.mono (by omega))⟩
theorem CK.lt {w X : World} {v0 : Value} {half base next : Int} (h : CK w v0 half base next X) : w.heap.size + 2 ≤ X.heap.size := (Array.getElem?_eq_some_iff.1 h.res).1
theorem OW.row {g B : Nat} {X : List Int} {w : World} (h : OW g X w) (hl : X.length ≤ 1048576) (hb : B ≤ g) : IRow w B (.slice (some ⟨g, 0, none⟩) X.length X.length) X := (h.wb (by unfold maxLen; omega)).row hb
theorem OW.rep {g : Nat} {X : List Int} {w : World} (h : OW g X w) (hl : X.length ≤ 1048576) {S : Nat → Prop} (hS : S g) : intsSh.rep w S [.slice (some ⟨g, 0, none⟩) X.length X.length] X := (h.wb (by unfold maxLen; omega)).rep hS

set_option maxRecDepth 100000 in
set_option maxHeartbeats 16000000 in
theorem implCollect (T : HeapD) (rs : List Int) (cs : List Value) (v : Value) (w : World) (hw : (wt T) ≤ 1048576) (hrl : rs.length ≤ 1048576) (h : heapSh.rep w (· < w.heap.size) cs T) (hv : intsSh.rep w (· < w.heap.size) [v] rs) :
    Calls Tryz.prog 6 #[.agg cs.toArray, v] w fun e w' => ColOut w w' e (collectF T rs).1 (collectF T rs).2 ∧ Below w.heap.size w w' := by
  obtain ⟨W, a0, c0, half, base, next, rfl, rfl, f0, f1, f2, f3⟩ := heap_open h
  obtain ⟨ar, cr, hvv⟩ : ∃ a c, v = .slice a rs.length c := by obtain ⟨a, c, e⟩ := slice_cells hv; simp only [List.cons.injEq, and_true] at e; exact ⟨a, c, e⟩
  subst hvv
  have hw1 : W.length ≤ 1048576 := hw
  have HFR : Hid (InR half ∧ InR base ∧ InR next) := ⟨f1, f2, f3⟩
  obtain ⟨wa, hwa⟩ : ∃ wa, wa = (w.alloc (.cells #[.slice a0 W.length c0, .int .i64 half, .int .i64 base, .int .i64 next] 26)).alloc (.cells #[.slice none 0 0, .int .i64 0, .int .i64 0, .int .i64 0] 26) := ⟨_, rfl⟩
  have B0 : Below w.heap.size w wa := by rw [hwa]; exact ((Below.refl _ _).alloc (Nat.le_refl _) _).alloc (by simp) _
  have Z0 : wa.heap.size = w.heap.size + 2 := by rw [hwa]; simp
  have X0 : CK w (.slice a0 W.length c0) half base next wa := by rw [hwa]; exact ⟨(two_tops w _ _).1, (two_tops w _ _).2, by rw [← hwa]; exact B0⟩
  have k0 : wa.cell? ⟨w.heap.size, 0, none⟩ = some (.slice a0 W.length c0) := blk_cellH (i := 0) X0.box rfl
  have hcp1 := copied_is W a0 c0 wa (S := (· < w.heap.size)) (intsSh.below f0 B0) (fun b hb => by omega) hw1
  have HV2 : Hid (∀ X : World, Below w.heap.size w X → intsSh.rep X (· < w.heap.size) [.slice ar rs.length cr] rs) := fun X hX => intsSh.below hv hX
  rw [Z0] at hcp1
  have HWA : Hid (wa = (w.alloc (.cells #[.slice a0 W.length c0, .int .i64 half, .int .i64 base, .int .i64 next] 26)).alloc (.cells #[.slice none 0 0, .int .i64 0, .int .i64 0, .int .i64 0] 26)) := hwa
  have HX0 : Hid (CK w (.slice a0 W.length c0) half base next wa) := X0
  rw [hwa] at hcp1 k0
  clear h hv f0 f1 f2 f3 hw B0 Z0 X0 hwa
  obtain ⟨R, hR⟩ : ∃ R, R = collectF (W, half, base, next) rs := ⟨_, rfl⟩
  have HR : Hid (R = collectF (W, half, base, next) rs) := hR
  rw [← hR]
  clear hR
  go_enter Tryz.func6, Tryz.ntmps6
  go_wp2_with fail
  refine hcp1.mono ?_
  rintro e w1 ⟨rfl, hO1, hb1⟩
  rw [← HWA.out] at hb1
  have C1 : Hid (CK w (.slice a0 W.length c0) half base next w1) := HX0.out.low (Nat.le_refl _) hb1
  have hcp2 := copied_is rs ar cr w1 (S := (· < w.heap.size)) (HV2.out w1 C1.out.bel) (fun b hb => by have := C1.out.lt; omega) hrl
  have O1 : Hid (OW (w.heap.size + 2) W w1) := hO1
  clear hcp1 hO1 hb1 k0
  go_wp2_with fail
  refine hcp2.mono ?_
  rintro e w2 ⟨rfl, hO2, hb2⟩
  have C2 : Hid (CK w (.slice a0 W.length c0) half base next w2) := C1.out.low C1.out.lt hb2
  have O2 : Hid (OW w1.heap.size rs w2 ∧ OW (w.heap.size + 2) W w2 ∧ w.heap.size + 2 < w1.heap.size) := ⟨hO2, O1.out.on (hb2.block _ O1.out.lt), O1.out.lt⟩
  obtain ⟨gr, hgr⟩ : ∃ gr, gr = w1.heap.size := ⟨_, rfl⟩
  rw [← hgr] at O2 ⊢
  clear hcp2 hO2 hb2 hgr
  have k0 : w2.cell? ⟨w.heap.size, 0, none⟩ = some (.slice a0 W.length c0) := blk_cellH (i := 0) C2.out.box rfl
  have kf : ∀ j, w2.frozen? ⟨w.heap.size, j, none⟩ = false := fun j => blk_frzH C2.out.box
  have C3 : Hid (CK w (.slice (some ⟨w.heap.size + 2, 0, none⟩) W.length W.length) half base next (w2.setCell ⟨w.heap.size, 0, none⟩ (.slice (some ⟨w.heap.size + 2, 0, none⟩) W.length W.length))) := ⟨by simp [World.setCell, Array.getElem?_modify, C2.out.box], (Below.heap_setCell _ _ _ _ (by show w.heap.size + 1 ≠ w.heap.size; omega)).trans C2.out.res, C2.out.bel.setCell (Nat.le_refl _) _⟩
  have m0 := blk_cellH (i := 0) C3.out.box rfl
  have m1 := blk_cellH (i := 1) C3.out.box rfl
  have m2 := blk_cellH (i := 2) C3.out.box rfl
  have m3 := blk_cellH (i := 3) C3.out.box rfl
  have O3 : Hid (OW gr rs (w2.setCell ⟨w.heap.size, 0, none⟩ (.slice (some ⟨w.heap.size + 2, 0, none⟩) W.length W.length)) ∧ OW (w.heap.size + 2) W (w2.setCell ⟨w.heap.size, 0, none⟩ (.slice (some ⟨w.heap.size + 2, 0, none⟩) W.length W.length)) ∧ w.heap.size + 2 < gr) := ⟨O2.out.1.on (Below.heap_setCell _ _ _ _ (by have := O2.out.2.2; show gr ≠ w.heap.size; omega)), O2.out.2.1.on (Below.heap_setCell _ _ _ _ (by show w.heap.size + 2 ≠ w.heap.size; omega)), O2.out.2.2⟩
  have hmt := meetTop_is W (some ⟨w.heap.size + 2, 0, none⟩) W.length half base next rs (.slice (some ⟨gr, 0, none⟩) rs.length rs.length) (w2.setCell ⟨w.heap.size, 0, none⟩ (.slice (some ⟨w.heap.size + 2, 0, none⟩) W.length W.length)) hrl (heap_shut (O3.out.2.1.rep hw1 O3.out.2.1.lt) HFR.out.1 HFR.out.2.1 HFR.out.2.2) (O3.out.1.rep hrl O3.out.1.lt)
  go_wp2_with fail
  clear m0 m1 m2 m3 k0 kf
  have Z3 : Hid (w.heap.size + 2 < (w2.setCell ⟨w.heap.size, 0, none⟩ (.slice (some ⟨w.heap.size + 2, 0, none⟩) W.length W.length)).heap.size ∧ gr < (w2.setCell ⟨w.heap.size, 0, none⟩ (.slice (some ⟨w.heap.size + 2, 0, none⟩) W.length W.length)).heap.size) := ⟨O3.out.2.1.lt, O3.out.1.lt⟩
  generalize w2.setCell ⟨w.heap.size, 0, none⟩ (.slice (some ⟨w.heap.size + 2, 0, none⟩) W.length W.length) = w3 at *
  clear C2 O2 HX0 HWA C1 O1
  rcases q : rightB (W, half, base, next) rs with _ | _
  · have HF : Hid (R = ((W, half, base, next), rs)) := by show _ = _; rw [HR.out]; unfold collectF; rw [q]; rfl
    refine hmt.mono ?_
    rintro e w4 ⟨ho, hb4⟩
    obtain ⟨p, rfl⟩ := ho.1 q
    have C4 : Hid (CK w (.slice (some ⟨w.heap.size + 2, 0, none⟩) W.length W.length) half base next (w4.alloc (.cells #[.int .i64 0, .slice none 0 0, .slice none 0 0] 45))) := (C3.out.low C3.out.lt hb4).low (Nat.le_trans C3.out.lt hb4.size) ((Below.refl _ _).alloc (Nat.le_refl _) _)
    have O4 : Hid (OW gr rs (w4.alloc (.cells #[.int .i64 0, .slice none 0 0, .slice none 0 0] 45)) ∧ OW (w.heap.size + 2) W (w4.alloc (.cells #[.int .i64 0, .slice none 0 0, .slice none 0 0] 45)) ∧ w.heap.size + 2 < gr) := by
      have z := Z3.out
      have hs := hb4.size
      exact ⟨O3.out.1.on ((Below.heap_alloc _ _ _ (by omega)).trans (hb4.block _ z.2)), O3.out.2.1.on ((Below.heap_alloc _ _ _ (by omega)).trans (hb4.block _ z.1)), O3.out.2.2⟩
    clear hmt hb4 ho q
    have m0 := blk_cellH (i := 0) C4.out.box rfl
    have m1 := blk_cellH (i := 1) C4.out.box rfl
    have m2 := blk_cellH (i := 2) C4.out.box rfl
    have m3 := blk_cellH (i := 3) C4.out.box rfl
    have r0 := blk_cellH (i := 0) C4.out.res rfl
    have r1 := blk_cellH (i := 1) C4.out.res rfl
    have r2 := blk_cellH (i := 2) C4.out.res rfl
    have r3 := blk_cellH (i := 3) C4.out.res rfl
    have rf : ∀ j, (w4.alloc (.cells #[.int .i64 0, .slice none 0 0, .slice none 0 0] 45)).frozen? ⟨w.heap.size + 1, j, none⟩ = false := fun j => blk_frzH C4.out.res
    have HSET : Hid _ := res_set (x0 := .slice (some ⟨w.heap.size + 2, 0, none⟩) W.length W.length) (x1 := .int .i64 half) (x2 := .int .i64 base) (x3 := .int .i64 next) (B := w.heap.size) C4.out.bel (n0 := w.heap.size + 1) (by omega) ⟨_, _, _, _, C4.out.res⟩
    go_wp2
    obtain ⟨hs1, hs2, hs3⟩ := HSET.out
    clear m0 m1 m2 m3 r0 r1 r2 r3 rf
    generalize World.setCell _ _ _ = wE at hs1 hs2 hs3 ⊢
    have n0 : wE.cell? ⟨w.heap.size + 1, 0, none⟩ = some (.slice (some ⟨w.heap.size + 2, 0, none⟩) W.length W.length) := blk_cellH (i := 0) hs1 rfl
    have n1 : wE.cell? ⟨w.heap.size + 1, 1, none⟩ = some (.int .i64 half) := blk_cellH (i := 1) hs1 rfl
    have n2 : wE.cell? ⟨w.heap.size + 1, 2, none⟩ = some (.int .i64 base) := blk_cellH (i := 2) hs1 rfl
    have n3 : wE.cell? ⟨w.heap.size + 1, 3, none⟩ = some (.int .i64 next) := blk_cellH (i := 3) hs1 rfl
    refine bodyPost_ret (v := .tuple #[.agg #[.slice (some ⟨w.heap.size + 2, 0, none⟩) W.length W.length, .int .i64 half, .int .i64 base, .int .i64 next], .slice (some ⟨gr, 0, none⟩) rs.length rs.length]) (by simp [results, Tryz.f6, go_sem, n0, n1, n2, n3]) rfl ?_
    rw [HF.out]
    have hg := O4.out.2.2
    refine ⟨⟨_, _, _, rfl, (O4.out.2.1.on (hs3 _ (by omega))).row hw1 (by omega), (O4.out.1.on (hs3 _ (by omega))).row hrl (by omega), (fun k hk hk2 => ?_), HFR.out.1, HFR.out.2.1, HFR.out.2.2⟩, hs2⟩
    simp only [Value.ownBlock, Option.some.injEq] at hk hk2
    omega
  · have Q : Hid (rightB (W, half, base, next) rs = true) := q
    refine hmt.mono ?_
    rintro e w4 ⟨ho, hb4⟩
    obtain ⟨hb', hm, hf, bs, nx, nb, B2, M, v, e1, e2, e3, rfl, hH, hN, hz1, hz2⟩ := ho.2 q
    subst e1 e2 e3
    obtain ⟨O, hO⟩ : ∃ O, O = orderF (W, (hf : Int), (bs : Int), (nx : Int)) rs := ⟨_, rfl⟩
    rw [← hO] at hN
    obtain ⟨av, cv, hvv⟩ := own_form hN.plc.1
    subst hvv
    have K5 : Below w4.heap.size w4 (w4.alloc (.cells #[.int .i64 bs, .slice av O.length cv, .slice (some ⟨nb, 0, none⟩) hf hf] 45)) := (Below.refl _ _).alloc (Nat.le_refl _) _
    have C5 : Hid (CK w (.slice (some ⟨w.heap.size + 2, 0, none⟩) W.length W.length) hf bs nx (w4.alloc (.cells #[.int .i64 bs, .slice av O.length cv, .slice (some ⟨nb, 0, none⟩) hf hf] 45))) := (C3.out.low C3.out.lt hb4).low (Nat.le_trans C3.out.lt hb4.size) K5
    have z := Z3.out
    have hs := hb4.size
    have hg := O3.out.2.2
    have O5a : OW gr rs (w4.alloc (.cells #[.int .i64 bs, .slice av O.length cv, .slice (some ⟨nb, 0, none⟩) hf hf] 45)) := O3.out.1.on ((Below.heap_alloc _ _ _ (by omega)).trans (hb4.block _ z.2))
    have O5b : OW (w.heap.size + 2) W (w4.alloc (.cells #[.int .i64 bs, .slice av O.length cv, .slice (some ⟨nb, 0, none⟩) hf hf] 45)) := O3.out.2.1.on ((Below.heap_alloc _ _ _ (by omega)).trans (hb4.block _ z.1))
    have hlo := hH.lo
    have hmv := move_is (Bl := w.heap.size + 2) (hH.on K5) O5b (hN.on K5) O5a (by omega) ⟨by omega, by omega, by omega, by omega, by omega, by omega, by omega, by omega, by omega, hz1, hz2⟩ q hO hrl
    have hdn := done_is O5b.2 q hO hH.siz
    have HF : Hid (R = ((doneW W hf bs (hf - bs) O, (hf : Int), ((hf - bs : Nat) : Int), ((posO W (hf - bs) O O.length : Nat) : Int)), rs.map (turnM O (mvL W (hf - bs) O O.length)))) := by show _ = _; rw [HR.out]; exact hdn.2
    have HLM : Hid (w.heap.size + 2 ≤ hb' ∧ hf ≤ 3000 ∧ posO W (hf - bs) O O.length ≤ 6000) := ⟨by omega, hH.siz.2.2.2.1, by have := hdn.1; have := hH.siz; omega⟩
    have HGR : Hid (w.heap.size + 2 < gr ∧ gr < hb') := ⟨hg, by omega⟩
    clear hmt hb4 ho q hH hN hO K5 O5a O5b hdn hlo z hs hg hz1 hz2
    go_wp2_with fail
    refine hmv.mono ?_
    rintro e w6 ⟨rfl, ⟨t, ht1, ht2⟩, hO6, hb6⟩
    have C6 : Hid (CK w (.slice (some ⟨w.heap.size + 2, 0, none⟩) W.length W.length) hf bs nx w6) := C5.out.low (Nat.le_refl _) hb6
    have hhp := hheap_is (B := hb') ht2 ht1 (Nat.le_refl _)
    have O6 : Hid (OW gr (rs.map (turnM O (mvL W (hf - bs) O O.length))) w6 ∧ OW (w.heap.size + 2) (doneW W hf bs (hf - bs) O) w6) := ⟨hO6, ht2.wds⟩
    have L6 : Hid ((doneW W hf bs (hf - bs) O).length = W.length) := by show _ = _; unfold doneW; rw [putW_length, putW_length, tnW_len, cpW_len]
    obtain ⟨XD, hXD⟩ : ∃ XD, XD = doneW W hf bs (hf - bs) O := ⟨_, rfl⟩
    obtain ⟨RD, hRD⟩ : ∃ RD, RD = rs.map (turnM O (mvL W (hf - bs) O O.length)) := ⟨_, rfl⟩
    have RL : Hid (RD.length = rs.length) := by show _ = _; rw [hRD, List.length_map]
    obtain ⟨nn, hnn⟩ : ∃ nn, nn = posO W (hf - bs) O O.length := ⟨_, rfl⟩
    obtain ⟨b1, hb1⟩ : ∃ b1, b1 = hf - bs := ⟨_, rfl⟩
    rw [← hXD, ← hRD, ← hnn, ← hb1] at HF
    rw [← hXD] at O6 L6
    rw [← hRD] at O6
    rw [← hXD, ← hnn, ← hb1] at hhp
    have HLN : Hid (hf ≤ 3000 ∧ nn ≤ 6000 ∧ b1 ≤ 3000) := ⟨HLM.out.2.1, by rw [hnn]; exact HLM.out.2.2, by have := HLM.out.2.1; omega⟩
    clear hmv hO6 hb6 ht1 ht2 hXD hRD hnn hb1
    go_wp2_with fail
    refine hhp.mono ?_
    rintro e w7 ⟨rfl, hb7⟩
    have C7 : Hid (CK w (.slice (some ⟨w.heap.size + 2, 0, none⟩) W.length W.length) hf bs nx w7) := C6.out.low (by have := HLM.out.1; omega) hb7
    have O7 : Hid (OW gr RD w7 ∧ OW (w.heap.size + 2) XD w7) := ⟨O6.out.1.on (hb7.block _ HGR.out.2), O6.out.2.on (hb7.block _ (by have := HGR.out; omega))⟩
    have r0 := blk_cellH (i := 0) C7.out.res rfl
    have r1 := blk_cellH (i := 1) C7.out.res rfl
    have r2 := blk_cellH (i := 2) C7.out.res rfl
    have r3 := blk_cellH (i := 3) C7.out.res rfl
    have rf : ∀ j, w7.frozen? ⟨w.heap.size + 1, j, none⟩ = false := fun j => blk_frzH C7.out.res
    have HSET : Hid _ := res_set (x0 := .slice (some ⟨w.heap.size + 2, 0, none⟩) XD.length XD.length) (x1 := .int .i64 hf) (x2 := .int .i64 b1) (x3 := .int .i64 nn) (B := w.heap.size) C7.out.bel (n0 := w.heap.size + 1) (by omega) ⟨_, _, _, _, C7.out.res⟩
    clear hhp hb7
    go_wp2
    obtain ⟨hs1, hs2, hs3⟩ := HSET.out
    clear r0 r1 r2 r3 rf
    generalize World.setCell _ _ _ = wE at hs1 hs2 hs3 ⊢
    have n0 : wE.cell? ⟨w.heap.size + 1, 0, none⟩ = some (.slice (some ⟨w.heap.size + 2, 0, none⟩) XD.length XD.length) := blk_cellH (i := 0) hs1 rfl
    have n1 : wE.cell? ⟨w.heap.size + 1, 1, none⟩ = some (.int .i64 hf) := blk_cellH (i := 1) hs1 rfl
    have n2 : wE.cell? ⟨w.heap.size + 1, 2, none⟩ = some (.int .i64 b1) := blk_cellH (i := 2) hs1 rfl
    have n3 : wE.cell? ⟨w.heap.size + 1, 3, none⟩ = some (.int .i64 nn) := blk_cellH (i := 3) hs1 rfl
    refine bodyPost_ret (v := .tuple #[.agg #[.slice (some ⟨w.heap.size + 2, 0, none⟩) XD.length XD.length, .int .i64 hf, .int .i64 b1, .int .i64 nn], .slice (some ⟨gr, 0, none⟩) rs.length rs.length]) (by simp [results, Tryz.f6, go_sem, n0, n1, n2, n3]) rfl ?_
    rw [HF.out]
    have hg := HGR.out
    have hl := HLN.out
    have hrow := (O7.out.1.on (hs3 _ (by omega))).row (B := w.heap.size) (by rw [RL.out]; exact hrl) (by omega)
    rw [RL.out] at hrow
    refine ⟨⟨_, _, _, rfl, (O7.out.2.on (hs3 _ (by omega))).row (by rw [L6.out]; exact hw1) (by omega), hrow, (fun k hk hk2 => ?_), by unfold InR; show _ ≤ (hf : Int) ∧ (hf : Int) ≤ _; omega, by unfold InR; show _ ≤ (b1 : Int) ∧ (b1 : Int) ≤ _; omega, by unfold InR; show _ ≤ (nn : Int) ∧ (nn : Int) ≤ _; omega⟩, hs2⟩
    simp only [Value.ownBlock, Option.some.injEq] at hk hk2
    omega

end Go.Proofs.YthpdkjenadngoaaGreatDoor.heap

namespace Go.Proofs
open Go.Shelf
def Tryz.lays189_ren : Go.Shelf.Ren := ⟨fun | 189 => 29 | 125 => 57 | 257 => 56 | 128 => 98 | 129 => 99 | 294 => 89 | 295 => 90 | 296 => 91 | 297 => 92 | 298 => 93 | 299 => 94 | 216 => 95 | 300 => 96 | 301 => 97 | 328 => 118 | 329 => 119 | 330 => 120 | 331 => 121 | 332 => 122 | 215 => 123 | 343 => 137 | n => n, fun | 28 => 24 | 3 => 3 | 46 => 100 | 0 => 0 | 51 => 74 | 53 => 135 | 4 => 4 | 183 => 126 | 182 => 125 | 131 => 131 | 5 => 5 | 9 => 9 | 218 => 149 | 222 => 153 | 228 => 165 | 229 => 166 | n => n, fun | n => n⟩
theorem Tryz.lays189 : Go.Proofs.Lays.n189 Tryz.prog Tryz.lays189_ren := {
  mixed := by kernel_rfl
  f125 := Tryz.func57.trans (congrArg some (by kernel_rfl))
  f128 := Tryz.func98.trans (congrArg some (by kernel_rfl))
  f129 := Tryz.func99.trans (congrArg some (by kernel_rfl))
  f189 := Tryz.func29.trans (congrArg some (by kernel_rfl))
  f215 := Tryz.func123.trans (congrArg some (by kernel_rfl))
  f216 := Tryz.func95.trans (congrArg some (by kernel_rfl))
  f257 := Tryz.func56.trans (congrArg some (by kernel_rfl))
  f294 := Tryz.func89.trans (congrArg some (by kernel_rfl))
  f295 := Tryz.func90.trans (congrArg some (by kernel_rfl))
  f296 := Tryz.func91.trans (congrArg some (by kernel_rfl))
  f297 := Tryz.func92.trans (congrArg some (by kernel_rfl))
  f298 := Tryz.func93.trans (congrArg some (by kernel_rfl))
  f299 := Tryz.func94.trans (congrArg some (by kernel_rfl))
  f300 := Tryz.func96.trans (congrArg some (by kernel_rfl))
  f301 := Tryz.func97.trans (congrArg some (by kernel_rfl))
  f328 := Tryz.func118.trans (congrArg some (by kernel_rfl))
  f329 := Tryz.func119.trans (congrArg some (by kernel_rfl))
  f330 := Tryz.func120.trans (congrArg some (by kernel_rfl))
  f331 := Tryz.func121.trans (congrArg some (by kernel_rfl))
  f332 := Tryz.func122.trans (congrArg some (by kernel_rfl))
  f343 := Tryz.func137.trans (congrArg some (by kernel_rfl))
  t0 := Tryz.underlying0
  a0 := Tryz.isAgg0
  z0 := Tryz.sizeOf0
  v0 := Tryz.zeroValue0
  t3 := Tryz.underlying3
  a3 := Tryz.isAgg3
  z3 := Tryz.sizeOf3
  v3 := Tryz.zeroValue3
  t4 := Tryz.underlying4
  a4 := Tryz.isAgg4
  z4 := Tryz.sizeOf4
  v4 := Tryz.zeroValue4
  t5 := Tryz.underlying5
  a5 := Tryz.isAgg5
  z5 := Tryz.sizeOf5
  v5 := Tryz.zeroValue5
  t9 := Tryz.underlying9
  a9 := Tryz.isAgg9
  z9 := Tryz.sizeOf9
  v9 := Tryz.zeroValue9
  t28 := Tryz.underlying24
  a28 := Tryz.isAgg24
  z28 := Tryz.sizeOf24
  v28 := Tryz.zeroValue24
  t46 := Tryz.underlying100
  a46 := Tryz.isAgg100
  z46 := Tryz.sizeOf100
  v46 := Tryz.zeroValue100
  t51 := Tryz.underlying74
  a51 := Tryz.isAgg74
  z51 := Tryz.sizeOf74
  v51 := Tryz.zeroValue74
  t53 := Tryz.underlying135
  a53 := Tryz.isAgg135
  z53 := Tryz.sizeOf135
  v53 := Tryz.zeroValue135
  t131 := Tryz.underlying131
  a131 := Tryz.isAgg131
  z131 := Tryz.sizeOf131
  v131 := Tryz.zeroValue131
  t182 := Tryz.underlying125
  a182 := Tryz.isAgg125
  z182 := Tryz.sizeOf125
  v182 := Tryz.zeroValue125
  t183 := Tryz.underlying126
  a183 := Tryz.isAgg126
  z183 := Tryz.sizeOf126
  v183 := Tryz.zeroValue126
  t218 := Tryz.underlying149
  a218 := Tryz.isAgg149
  z218 := Tryz.sizeOf149
  v218 := Tryz.zeroValue149
  t222 := Tryz.underlying153
  a222 := Tryz.isAgg153
  z222 := Tryz.sizeOf153
  v222 := Tryz.zeroValue153
  t228 := Tryz.underlying165
  a228 := Tryz.isAgg165
  z228 := Tryz.sizeOf165
  v228 := Tryz.zeroValue165
  t229 := Tryz.underlying166
  a229 := Tryz.isAgg166
  z229 := Tryz.sizeOf166
  v229 := Tryz.zeroValue166 }
open Go.Sort Go.RowKit in
theorem Tryz.slices_Sort_int (blk off cap : Nat) (zs : List Int) (w : World) (hH : Holds (Value.int .i64) w blk off zs.toArray) (hblk : blk < w.heap.size) (hsz : zs.length < 4611686018427387904) :
    Calls Tryz.prog 29 #[.slice (some ⟨blk, off, none⟩) zs.length cap] w fun e w' =>
      e = .returned (.tuple #[]) ∧ ∃ n os, w' = grow (putRow (Value.int .i64) (Sort.ahead w n) blk off (zs.mergeSort fun x y => decide (x ≤ y)).toArray) os := Any.slices_Sort_int Tryz.lays189 blk off cap zs w hH hblk hsz
open Go.RowKit Go.Sort in
/-- .. and plain. (LAID: no walk: one application.) -/
theorem Tryz.slices_Sort_int_none (p : Option Addr) (cap : Nat) (w : World) :
    Calls Tryz.prog 29 #[.slice p 0 cap] w fun e w' => e = .returned (.tuple #[]) ∧ w' = w := Any.slices_Sort_int_none Tryz.lays189 p cap w
end Go.Proofs

namespace Go.Proofs.YthpdkjenadngoaaGreatDoor.heap
open Go Go.RowKit Go.Deep Go.Proofs.YthpdkjenadngoaaGreatDoor.rose Go.Proofs.YthpdkjenadngoaaGreatDoor Go.Proofs.YthpdkjenadngoaaGreatDoor.fun Go.Proofs.YthpdkjenadngoaaGreatDoor.words Go.Proofs.YthpdkjenadngoaaGreatDoor.ints
set_option linter.unusedVariables false
set_option linter.unusedSimpArgs false

set_option maxRecDepth 100000 in
set_option maxHeartbeats 8000000 in
theorem implReach (T : HeapD) (rs : List Int) (cs : List Value) (v : Value) (w : World) (hw : (wt T) ≤ 1048576) (hl : rs.length ≤ 1048576) (h : heapSh.rep w (· < w.heap.size) cs T) (hv : intsSh.rep w (· < w.heap.size) [v] rs) :
    Calls Tryz.prog 12 #[.agg cs.toArray, v] w fun e w' => (∃ v', e = .returned v' ∧ IRow w' w.heap.size v' (reachF T rs)) ∧ Below w.heap.size w w' := by
  obtain ⟨W, a0, c0, half, base, next, rfl, rfl, f0, f1, f2, f3⟩ := heap_open h
  have A0 : Hid (ArgK w (w.alloc (.cells #[.slice a0 W.length c0, .int .i64 half, .int .i64 base, .int .i64 next] 26)) [.slice a0 W.length c0, .int .i64 half, .int .i64 base, .int .i64 next] 26) := ArgK.new _ _ _ rfl
  have hcall := meetTop_is W a0 c0 half base next rs v _ hl (heapSh.mono (heapSh.below h A0.out.bel) fun b hlt => Nat.lt_of_lt_of_le hlt A0.out.bel.size) (intsSh.mono (intsSh.below hv A0.out.bel) fun b hlt => Nat.lt_of_lt_of_le hlt A0.out.bel.size)
  have Z0 : (w.alloc (.cells #[.slice a0 W.length c0, .int .i64 half, .int .i64 base, .int .i64 next] 26)).heap.size = w.heap.size + 1 := by simp
  rw [Z0] at hcall
  have BA : Hid (Below w.heap.size w (w.alloc (.cells #[.slice a0 W.length c0, .int .i64 half, .int .i64 base, .int .i64 next] 26))) := A0.out.bel
  clear h f0 f1 f2 f3 hw hv
  rcases q : rightB (W, half, base, next) rs with _ | _
  · have HF : Hid (reachF (W, half, base, next) rs = []) := by show _ = _; unfold reachF; rw [q]; rfl
    go_enter Tryz.func12, Tryz.ntmps12
    go_wp2_with fail
    refine hcall.mono ?_
    rintro e w1 ⟨ho, hb⟩
    obtain ⟨p, rfl⟩ := ho.1 q
    have B1 : Hid (Below w.heap.size w w1) := BA.out.trans (hb.mono (by omega))
    clear hcall hb ho q
    go_wp2
    go_ret
    rw [HF.out]
    exact ⟨⟨_, rfl, IRow.nil _ _⟩, B1.out.alloc B1.out.size _⟩
  · have HF : Hid (reachF (W, half, base, next) rs = (orderF (W, half, base, next) rs).mergeSort fun x y => decide (x ≤ y)) := by show _ = _; unfold reachF; rw [q, sort_ins (order_inv q).nodup]; rfl
    go_enter Tryz.func12, Tryz.ntmps12
    go_wp2_with fail
    refine hcall.mono ?_
    rintro e w1 ⟨ho, hb⟩
    obtain ⟨hb', hm, hf, bs, nx, nb, B2, M, v, e1, e2, e3, rfl, hH, hN, hz1, hz2⟩ := ho.2 q
    have HLO : Hid (w.heap.size + 2 < B2) := by have := hH.lo; show _ < _; omega
    obtain ⟨O, hO⟩ : ∃ O, O = orderF (W, half, base, next) rs := ⟨_, rfl⟩
    rw [← hO] at hN HF
    have B1 : Hid (Below w.heap.size w w1) := BA.out.trans (hb.mono (by omega))
    obtain ⟨av, cv, hvv⟩ := own_form hN.plc.1
    subst hvv
    have N1 : Hid (Met B2 nb (.slice av O.length cv) bs hf O w1) := hN
    have HL : Hid (O.length ≤ 3000) := by show _ ≤ _; have := hN.siz; omega
    clear hcall hb ho q hH hN hO e1 e2 e3
    have T2 : Hid ((w1.alloc (.cells #[.int .i64 bs, .slice av O.length cv, .slice (some ⟨nb, 0, none⟩) hf hf] 45)).heap[w1.heap.size]? = some (.cells #[.int .i64 bs, .slice av O.length cv, .slice (some ⟨nb, 0, none⟩) hf hf] 45)) := alloc_top _ _
    have I2 : Hid (IRow (w1.alloc (.cells #[.int .i64 bs, .slice av O.length cv, .slice (some ⟨nb, 0, none⟩) hf hf] 45)) B2 (.slice av O.length cv) O) := N1.out.plc.keep ((Below.refl _ _).alloc (Nat.le_refl _) _)
    have D2 : Hid (Below w.heap.size w (w1.alloc (.cells #[.int .i64 bs, .slice av O.length cv, .slice (some ⟨nb, 0, none⟩) hf hf] 45))) := B1.out.alloc B1.out.size _
    have hlt2 : Hid (∀ q, (Value.slice av O.length cv).ownBlock = some q → q < w1.heap.size) := fun q hq => (N1.out.plc.lt q hq).2
    go_wp2_with fail
    generalize w1.alloc (.cells #[.int .i64 bs, .slice av O.length cv, .slice (some ⟨nb, 0, none⟩) hf hf] 45) = w2 at *
    have Z2 : Hid (w.heap.size + 2 ≤ w2.heap.size) := by have := (Array.getElem?_eq_some_iff.1 T2.out).1; have := HLO.out; have := D2.out.size; have := N1.out.lt; have := N1.out.lo; show _ ≤ _; omega
    rcases I2.out.1.2 with ⟨hnil, -⟩ | ⟨g, cap, cur, hvv, hg1, hg2, hg3, hg4, hg5, hg6⟩
    · simp only [Value.slice.injEq] at hnil
      obtain ⟨rfl, hn0, rfl⟩ := hnil
      have hO : O = [] := List.eq_nil_of_length_eq_zero hn0
      subst hO
      refine (Tryz.slices_Sort_int_none none 0 w2).mono ?_
      rintro e w6 ⟨rfl, rfl⟩
      have t1 : w6.cell? ⟨w1.heap.size, 1, none⟩ = some (.slice none 0 0) := blk_cellH (i := 1) T2.out rfl
      go_wp2
      go_ret
      rw [HF.out]
      exact ⟨⟨_, rfl, by simpa using IRow.nil _ _⟩, D2.out⟩
    · simp only [Value.slice.injEq] at hvv
      obtain ⟨rfl, -, rfl⟩ := hvv
      have hgl : g < w2.heap.size := (Array.getElem?_eq_some_iff.1 hg2).1
      have hgw := hlt2.out g rfl
      have hH := holds_of_blockI hg2 (by simpa using hg6)
      have IRR : Hid (∀ x ∈ O, InR x) := I2.out.2
      have HB6 : Hid (B2 ≤ g ∧ w2.heap[g]? = some (.cells cur 3) ∧ O.length ≤ cv ∧ cv ≤ maxLen ∧ cur.size = cv * 1) := ⟨hg1, hg2, by omega, hg4, hg5⟩
      have hcall := Tryz.slices_Sort_int g 0 cv O w2 hH hgl (by have := HL.out; omega)
      refine hcall.mono ?_
      rintro e w6 ⟨rfl, n6, os6, hw6⟩
      obtain ⟨q1, q2, q3, q4, q5⟩ := HB6.out
      have hl6 : (O.mergeSort fun x y => decide (x ≤ y)).length = O.length := List.length_mergeSort _
      have own := ownsRow_sortedI (w := w2) (base := B2) (g := g) (cap := cv) (n := n6) (e := 3) (os := os6) (cur := cur) (ss := O) (ts := O.mergeSort fun x y => decide (x ≤ y)) hl6 q1 q2 q3 q4 q5
      have grw := grownBy_sortedI (w := w2) (g := g) (n := n6) (os := os6) (O.mergeSort fun x y => decide (x ≤ y)).toArray
      rw [← hw6] at own grw
      have T6 : w6.heap[w1.heap.size]? = some (.cells #[.int .i64 bs, .slice (some ⟨g, 0, none⟩) O.length cv, .slice (some ⟨nb, 0, none⟩) hf hf] 45) := (grw.block w1.heap.size (Array.getElem?_eq_some_iff.1 T2.out).1 (fun e => by injection e with e; omega)).trans T2.out
      have t1 : w6.cell? ⟨w1.heap.size, 1, none⟩ = some (.slice (some ⟨g, 0, none⟩) O.length cv) := blk_cellH (i := 1) T6 rfl
      have OWN : Hid _ := own
      have D6 : Hid (Below w.heap.size w w6) := D2.out.grown grw (by have := Z2.out; omega) (fun k hk => by cases hk; have := HLO.out; omega)
      clear own grw T6 hw6 hcall hH hg1 hg2 hg3 hg4 hg5 hg6 hgl hgw q1 q2 q3 q4 q5
      go_wp2
      go_ret
      rw [HF.out]
      refine ⟨⟨_, rfl, ?_, fun x hx => IRR.out x ((List.mergeSort_perm O _).mem_iff.1 hx)⟩, D6.out⟩
      rw [hl6]
      exact own_base OWN.out (by have := HLO.out; omega)

end Go.Proofs.YthpdkjenadngoaaGreatDoor.heap

namespace Go.Proofs
open Go.Shelf
def Tryz.laysM171_ren : Go.Shelf.Ren := ⟨fun | 171 => 138 | 243 => 140 | 246 => 141 | 283 => 142 | 284 => 143 | 285 => 144 | 286 => 145 | 129 => 99 | 317 => 146 | 318 => 147 | 319 => 148 | 320 => 149 | 337 => 150 | 338 => 151 | n => n, fun | 3 => 3 | 9 => 9 | 2 => 2 | 4 => 4 | 171 => 170 | 0 => 0 | 53 => 135 | 37 => 22 | 5 => 5 | 173 => 172 | 212 => 174 | 51 => 74 | 20 => 20 | 213 => 175 | 46 => 100 | 232 => 176 | 233 => 177 | n => n, fun | 17 => 0 | 18 => 1 | 19 => 2 | n => n⟩
theorem Tryz.laysM171 : Go.Proofs.LaysM.n171 Tryz.prog Tryz.laysM171_ren := {
  mixed := by kernel_rfl
  f129 := Tryz.func99.trans (congrArg some (by kernel_rfl))
  f171 := Tryz.func138.trans (congrArg some (by kernel_rfl))
  f243 := Tryz.func140.trans (congrArg some (by kernel_rfl))
  f246 := Tryz.func141.trans (congrArg some (by kernel_rfl))
  f283 := Tryz.func142.trans (congrArg some (by kernel_rfl))
  f284 := Tryz.func143.trans (congrArg some (by kernel_rfl))
  f285 := Tryz.func144.trans (congrArg some (by kernel_rfl))
  f286 := Tryz.func145.trans (congrArg some (by kernel_rfl))
  f317 := Tryz.func146.trans (congrArg some (by kernel_rfl))
  f318 := Tryz.func147.trans (congrArg some (by kernel_rfl))
  f319 := Tryz.func148.trans (congrArg some (by kernel_rfl))
  f320 := Tryz.func149.trans (congrArg some (by kernel_rfl))
  f337 := Tryz.func150.trans (congrArg some (by kernel_rfl))
  f338 := Tryz.func151.trans (congrArg some (by kernel_rfl))
  t0 := Tryz.underlying0
  a0 := Tryz.isAgg0
  z0 := Tryz.sizeOf0
  v0 := Tryz.zeroValue0
  t2 := Tryz.underlying2
  a2 := Tryz.isAgg2
  z2 := Tryz.sizeOf2
  v2 := Tryz.zeroValue2
  t3 := Tryz.underlying3
  a3 := Tryz.isAgg3
  z3 := Tryz.sizeOf3
  v3 := Tryz.zeroValue3
  t4 := Tryz.underlying4
  a4 := Tryz.isAgg4
  z4 := Tryz.sizeOf4
  v4 := Tryz.zeroValue4
  t5 := Tryz.underlying5
  a5 := Tryz.isAgg5
  z5 := Tryz.sizeOf5
  v5 := Tryz.zeroValue5
  t9 := Tryz.underlying9
  a9 := Tryz.isAgg9
  z9 := Tryz.sizeOf9
  v9 := Tryz.zeroValue9
  t20 := Tryz.underlying20
  a20 := Tryz.isAgg20
  z20 := Tryz.sizeOf20
  v20 := Tryz.zeroValue20
  t37 := Tryz.underlying22
  a37 := Tryz.isAgg22
  z37 := Tryz.sizeOf22
  v37 := Tryz.zeroValue22
  t46 := Tryz.underlying100
  a46 := Tryz.isAgg100
  z46 := Tryz.sizeOf100
  v46 := Tryz.zeroValue100
  t51 := Tryz.underlying74
  a51 := Tryz.isAgg74
  z51 := Tryz.sizeOf74
  v51 := Tryz.zeroValue74
  t53 := Tryz.underlying135
  a53 := Tryz.isAgg135
  z53 := Tryz.sizeOf135
  v53 := Tryz.zeroValue135
  t171 := Tryz.underlying170
  a171 := Tryz.isAgg170
  z171 := Tryz.sizeOf170
  v171 := Tryz.zeroValue170
  t173 := Tryz.underlying172
  a173 := Tryz.isAgg172
  z173 := Tryz.sizeOf172
  v173 := Tryz.zeroValue172
  t212 := Tryz.underlying174
  a212 := Tryz.isAgg174
  z212 := Tryz.sizeOf174
  v212 := Tryz.zeroValue174
  t213 := Tryz.underlying175
  a213 := Tryz.isAgg175
  z213 := Tryz.sizeOf175
  t232 := Tryz.underlying176
  a232 := Tryz.isAgg176
  z232 := Tryz.sizeOf176
  v232 := Tryz.zeroValue176
  t233 := Tryz.underlying177
  a233 := Tryz.isAgg177
  z233 := Tryz.sizeOf177
  v233 := Tryz.zeroValue177
  g17 := by kernel_rfl
  g18 := by kernel_rfl
  g19 := by kernel_rfl
  i0 := by kernel_rfl
  i2 := by kernel_rfl
  i3 := by kernel_rfl
  i4 := by kernel_rfl
  i5 := by kernel_rfl
  i9 := by kernel_rfl
  i20 := by kernel_rfl
  i37 := by kernel_rfl
  i46 := by kernel_rfl
  i51 := by kernel_rfl
  i53 := by kernel_rfl
  i171 := by kernel_rfl
  i173 := by kernel_rfl
  i212 := by kernel_rfl
  i232 := by kernel_rfl
  i233 := by kernel_rfl
  m17 := by kernel_rfl
  m18 := by kernel_rfl
  m19 := by kernel_rfl }
open Go.RowKit Go.Sort Go.Lib in
/-- strconv.Itoa: "Itoa is equivalent to FormatInt(int64(i), 10).": i's DECIMAL NUMERAL ('Lib.itoa': a '-' where i is negative, then the digits), FOR EVERY int. The world behind the call: the world before it, new blocks behind the heap (the library's 'var a [24]byte'), draws. (LAID: no walk: one application.) -/
theorem Tryz.strconv_Itoa (n : Int) (h0 : -9223372036854775808 ≤ n) (h1 : n ≤ 9223372036854775807) (w : World) (htab : Lib.TabIs Tryz.prog w "internal/strconv.uint64pow10" .u64 Lib.pow10Tab) :
    Calls Tryz.prog 138 #[.int .i64 n] w fun e w' => e = .returned (.string ⟨(Lib.itoa n).toArray⟩) ∧ ∃ k os, w' = grow (w.drewN k) os := Any.strconv_Itoa Tryz.laysM171 n h0 h1 w htab
end Go.Proofs
