/-
  The model's l17DrawRight: a heap and roots in new memory; but for the cursor nothing that was there is turned.
-/
import Derived.Maps.AppendAt
import Derived.Deep.RegionHeld3
import Derived.WalkSmall
import Derived.Test.YthpdkjenadngoaaGreatDoorB1
import Derived.Test.YthpdkjenadngoaaGreatDoorB2
import Derived.Test.YthpdkjenadngoaaGreatDoorB3
import Derived.Test.YthpdkjenadngoaaGreatDoorB4
import Derived.Test.YthpdkjenadngoaaGreatDoorB5
import Derived.Test.YthpdkjenadngoaaGreatDoorB6
import Derived.Test.YthpdkjenadngoaaGreatDoorB7
import Derived.Test.YthpdkjenadngoaaGreatDoorB8
import Derived.Test.YthpdkjenadngoaaGreatDoorB9
import Derived.Test.YthpdkjenadngoaaGreatDoorB10
import Derived.Test.YthpdkjenadngoaaGreatDoorB11
import Derived.Test.YthpdkjenadngoaaGreatDoorB12
import Derived.Test.YthpdkjenadngoaaGreatDoorB13
namespace Go.Proofs.YthpdkjenadngoaaGreatDoor.heap
open Go Go.RowKit Go.Deep Go.Proofs.YthpdkjenadngoaaGreatDoor.rose Go.Proofs.YthpdkjenadngoaaGreatDoor Go.Proofs.YthpdkjenadngoaaGreatDoor.fun Go.Proofs.YthpdkjenadngoaaGreatDoor.ints Go.Proofs.YthpdkjenadngoaaGreatDoor.cur Go.Proofs.YthpdkjenadngoaaGreatDoor.words
set_option linter.unusedVariables false
set_option linter.unusedSimpArgs false

/-- A heap and roots that were drawn. -/
structure DR (B p : Nat) (w w' : World) (a : Option Addr) (c : Nat) (W : List Int) (hf bs nx : Int) (ar : Option Addr) (cr : Nat) (rs : List Int) : Prop where
  cur : Cur B w' p
  grw : w.grownBy w' (some p)
  hp : heapSp.rep w' (fun b => w.heap.size ≤ b ∧ b < w'.heap.size ∧ (Value.slice ar rs.length cr).ownBlock ≠ some b) [.slice a W.length c, .int .i64 hf, .int .i64 bs, .int .i64 nx] (W, hf, bs, nx)
  row : IRow w' w.heap.size (.slice ar rs.length cr) rs
  wl : 2 ≤ W.length ∧ W.length ≤ 120
  rl : 2 ≤ rs.length ∧ rs.length ≤ 200
theorem hid_of {P : Prop} (h : P) : Hid P := h
theorem DI.done {B p r2 hb : Nat} {w wr : World} {a : Option Addr} {c : Nat} {W : List Int} {hf bs nx : Int} {ar : Option Addr} {cr : Nat} {rs : List Int} (h : DI B p r2 hb w wr a c W hf bs nx ar cr rs) : DR B p w (set4 wr r2 (.slice a W.length c) (.int .i64 hf) (.int .i64 bs) (.int .i64 nx)) a c W hf bs nx ar cr rs := by
  have hlt := h.lt
  obtain ⟨o1, o2, o3⟩ := h.ord
  have so := set4_other wr r2 (.slice a W.length c) (.int .i64 hf) (.int .i64 bs) (.int .i64 nx)
  refine ⟨cur_of h.cur fun k hk => so k (by omega), ⟨h.grw.os, h.grw.tape, h.grw.output, by rw [set4_size]; exact h.grw.size, fun k hk hn => (so k (by omega)).trans (h.grw.block k hk hn)⟩, ?_, ⟨own_same (own_base h.row.1 (by omega)) fun q hq => so q (by have := (h.row.lt q hq).1; omega), h.row.2⟩, h.wl, h.rl⟩
  exact heapSp.mono (heapSp.on h.hp fun b hb' => so b (by omega)) fun b hb' => ⟨by omega, by rw [set4_size]; exact hb'.2.2.1, hb'.2.2.2⟩
theorem cell_drewD (w : World) (ad : Addr) : w.drew.cell? ad = w.cell? ad := rfl

set_option maxRecDepth 100000 in
set_option maxHeartbeats 32000000 in
theorem drawRight_any (B p : Nat) (w : World) (hc : Cur B w p) :
    Calls Tryz.prog 39 #[.pointer (some ⟨p, 0, none⟩)] w fun e w' => ∃ a c W hf bs nx ar cr rs, e = .returned (.tuple #[.agg #[.slice a (W : List Int).length c, .int .i64 hf, .int .i64 bs, .int .i64 nx], .slice ar (rs : List Int).length cr]) ∧ DR B p w w' a c W hf bs nx ar cr rs := by
  have hplt := hc.lt
  have HC : Hid (Cur B w p) := hc
  obtain ⟨ti, hti, hz0, hz1, hz2⟩ := int_info
  have TI : Hid (Tryz.prog.info? 3 = some ti ∧ ti.zero = some (.int .i64 0) ∧ ti.size = 1 ∧ ti.bytes = 8) := ⟨hti, hz0, hz1, hz2⟩
  clear hc hti hz0 hz1 hz2
  obtain ⟨W0, hW0⟩ : ∃ W0, W0 = w.alloc (.cells #[.slice none 0 0, .int .i64 0, .int .i64 0, .int .i64 0] 26) := ⟨_, rfl⟩
  have HW0 : Hid (w.alloc (.cells #[.slice none 0 0, .int .i64 0, .int .i64 0, .int .i64 0] 26) = W0) := hW0.symm
  have G0 : Hid (w.grownBy W0 (some p) ∧ Cur B W0 p ∧ W0.heap.size = w.heap.size + 1 ∧ W0.heap[w.heap.size]? = some (.cells #[.slice none 0 0, .int .i64 0, .int .i64 0, .int .i64 0] 26)) := by
    rw [hW0]; exact ⟨World.grownBy_alloc _ _ _, HC.out.on (World.grownBy_alloc _ _ none), by simp, alloc_top _ _⟩
  clear hW0
  go_enter Tryz.func39, Tryz.ntmps39
  go_wp2_with fail
  rw [HW0.out]
  have hcall := pickInt_of (fun z => 1 ≤ z ∧ z ≤ 60) B p W0.heap.size 4 (W0.alloc (.cells #[.int .i64 1, .int .i64 6, .int .i64 20, .int .i64 60] 3)) (G0.out.2.1.on (World.grownBy_alloc _ _ none)) (by decide) (by decide) (by have := G0.out.2.2.1; omega) (by simp)
    (ints_of _ W0 [1, 6, 20, 60] 3 (by decide))
  rw [G0.out.2.2.1] at hcall
  refine hcall.mono ?_
  rintro e w1 ⟨x, rfl, ⟨hx1, hx2⟩, hc1, hg1⟩
  have G1 : Hid (w.grownBy w1 (some p) ∧ Cur B w1 p ∧ w.heap.size + 2 ≤ w1.heap.size ∧ w1.heap[w.heap.size]? = some (.cells #[.slice none 0 0, .int .i64 0, .int .i64 0, .int .i64 0] 26)) := by
    have ga := (World.grownBy_alloc W0 (.cells #[.int .i64 1, .int .i64 6, .int .i64 20, .int .i64 60] 3) (some p)).trans hg1
    have hz := hg1.size
    rw [World.size_alloc, G0.out.2.2.1] at hz
    exact ⟨G0.out.1.trans ga, hc1, hz, (ga.block _ (by rw [G0.out.2.2.1]; omega) (fun e => by simp only [Option.some.injEq] at e; omega)).trans G0.out.2.2.2⟩
  clear hcall hc1 hg1 HW0 G0
  have hcall2 := specHeapNew x w1 (by omega) (by omega)
  have hnew : newF x = ((List.replicate (2 * x).toNat 0, x, 0, 0), true) := by unfold newF; rw [if_pos (by simp [inB]; omega)]
  rw [hnew] at hcall2
  dsimp only at hcall2
  clear hnew
  go_wp2_with fail
  refine hcall2.mono ?_
  rintro e w2 ⟨⟨cs', rfl, hr2⟩, hb2⟩
  obtain ⟨W, a, c, y1, y2, y3, hT, rfl, f0, f1, f2, f3⟩ := heapp_open hr2
  simp only [Prod.mk.injEq] at hT
  obtain ⟨hWe, rfl, rfl, rfl⟩ := hT
  have hWl : 2 ≤ W.length ∧ W.length ≤ 120 := by rw [← hWe, List.length_replicate]; omega
  have hWe2 : W = List.replicate (2 * x).toNat 0 := hWe.symm
  rw [← hWe2] at hr2
  have R2 : Hid (heapSp.rep w2 (fun b => w1.heap.size ≤ b ∧ b < w2.heap.size) [.slice a W.length c, .int .i64 x, .int .i64 0, .int .i64 0] (W, x, 0, 0)) := hr2
  have B2 : Hid (Below w1.heap.size w1 w2) := hb2
  clear hcall2 hr2 hb2 f0 f1 f2 f3 hWe hWe2
  have hcall3 := specIntWord 5 (w2.alloc (.cells #[.slice a W.length c, .int .i64 x, .int .i64 0, .int .i64 0] 26)) (by decide) (by decide)
  rw [show intWordF 5 = 11 by decide] at hcall3
  go_wp2_with fail
  refine hcall3.mono ?_
  rintro e w3 ⟨rfl, hb3⟩
  have D0 : Hid (DI B p w.heap.size w2.heap.size w (w3.alloc (.cells #[.int .i64 1, .int .i64 11] 3)) a c W x 0 0 (some ⟨w3.heap.size, 0, none⟩) 2 [1, 11]) := by
    have hA : Below w2.heap.size w2 (w2.alloc (.cells #[.slice a W.length c, .int .i64 x, .int .i64 0, .int .i64 0] 26)) := (Below.refl _ _).alloc (Nat.le_refl _) _
    have hz3 := hb3.size
    rw [World.size_alloc] at hz3 hb3
    have hF : Below (w2.heap.size + 1) (w2.alloc (.cells #[.slice a W.length c, .int .i64 x, .int .i64 0, .int .i64 0] 26)) (w3.alloc (.cells #[.int .i64 1, .int .i64 11] 3)) := hb3.alloc (by omega) _
    have h12 := B2.out.size
    have hF1 : Below w1.heap.size w1 (w3.alloc (.cells #[.int .i64 1, .int .i64 11] 3)) := B2.out.trans ((hA.mono h12).trans (hF.mono (by omega)))
    have g1 := G1.out
    refine ⟨cur_of g1.2.1 fun k hk => hF1.block k (by omega), g1.1.trans ⟨hF1.os, hF1.tape, hF1.output, hF1.size, fun k hk _ => hF1.block k hk⟩, ⟨hplt, Nat.le_refl _, by omega⟩, (hF1.block _ (by omega)).trans g1.2.2.2, (hF.block _ (by omega)).trans (alloc_top _ _), ?_, irow_two w3 (by omega) (by unfold InR; omega) (by unfold InR; omega), hWl, by simp⟩
    refine heapSp.mono (heapSp.on R2.out fun b hb => (hF.block b (by omega)).trans (hA.block b hb.2)) fun b hb => ⟨by omega, by omega, by simp; omega, fun e => by simp only [Value.ownBlock, Option.some.injEq] at e; omega⟩
  clear hb3 hcall3 R2 B2 G1
  go_wp2
  go_loopw [6, 7] (fun v6 v7 wr => ∃ (i : Nat) (a : Option Addr) (c : Nat) (W : List Int) (hf bs nx : Int) (ar : Option Addr) (cr : Nat) (rs : List Int), i ≤ 14 ∧ v7 = .int .i64 i ∧ v6 = .slice ar rs.length cr ∧ rs.length ≤ 2 + i ∧ Hid (DI B p w.heap.size w2.heap.size w wr a c W hf bs nx ar cr rs)) (fun _ v7 _ => 14 - (intOf v7).toNat)
  case atStart => exact ⟨0, _, _, _, _, _, _, _, _, _, by omega, rfl, rfl, by simp, D0⟩
  case round =>
    clear D0 hWl
    obtain ⟨i, a, c, W, hf, bs, nx, ar, cr, rs, hi, rfl, rfl, hrl, HD⟩ := hrel
    have h4 := below_small B p 14 _ HD.out.cur (by decide) (by decide)
    go_wp2_with fail
    refine h4.mono ?_
    rintro e w4 ⟨x4, rfl, x40, x41, hc4, hg4⟩
    have D4 : Hid (DI B p w.heap.size w2.heap.size w w4 a c W hf bs nx ar cr rs) := HD.out.turn hc4 hg4
    clear hc4 hg4 h4 HD
    have hr2 : 2 ≤ rs.length := D4.out.rl.1
    have hw2 : W.length ≤ 120 := D4.out.wl.2
    by_cases hlt : (i : Int) < x4
    · have t4 : decide ((i : Int) < x4) = true := decide_eq_true hlt
      obtain ⟨g, rfl⟩ : ∃ g, ar = some ⟨g, 0, none⟩ := by
        rcases D4.out.row.open with ⟨-, h0⟩ | ⟨g, cap, hv, -⟩
        · rw [h0] at hr2; simp at hr2
        · simp only [Value.slice.injEq] at hv; exact ⟨g, hv.1⟩
      have RC : Hid (∀ wi, DI B p w.heap.size w2.heap.size w wi a c W hf bs nx (some ⟨g, 0, none⟩) cr rs → ∀ j (hj : j < rs.length), wi.cell? ⟨g, j, none⟩ = some (.int .i64 rs[j])) := fun wi hd j hj => by
        rcases hd.row.open with ⟨-, h0⟩ | ⟨g', cap, hv, -, -, -, -, h6, -⟩
        · rw [h0] at hj; simp at hj
        · simp only [Value.slice.injEq, Option.some.injEq, Addr.mk.injEq] at hv
          obtain ⟨⟨rfl, -⟩, -⟩ := hv
          exact h6 j hj
      have K0 : Hid (Cur B (w4.alloc (.cells #[] 3)) p ∧ w4.grownBy (w4.alloc (.cells #[] 3)) (some p) ∧ IRow (w4.alloc (.cells #[] 3)) w4.heap.size (.slice (some ⟨w4.heap.size, 0, none⟩) ([] : List Int).length 0) []) := ⟨(D4.out.new _).cur, World.grownBy_alloc _ _ _, irow_none w4 (Nat.le_refl _)⟩
      go_wp2
      go_loopw [8, 9] (fun v8 v9 wi => ∃ (k : Nat) (ak : Option Addr) (ck : Nat) (ks : List Int), k ≤ 4 ∧ v9 = .int .i64 k ∧ v8 = .slice ak ks.length ck ∧ ks.length ≤ k ∧ Hid (Cur B wi p ∧ w4.grownBy wi (some p) ∧ IRow wi w4.heap.size (.slice ak ks.length ck) ks)) (fun _ v9 _ => 4 - (intOf v9).toNat)
      case atStart => exact ⟨0, _, _, [], by omega, rfl, rfl, by simp, K0⟩
      case round =>
        obtain ⟨k, ak, ck, ks, hk, rfl, rfl, hkl, HK⟩ := hrel
        have h5 := below_small B p 4 _ HK.out.1 (by decide) (by decide)
        go_wp2_with fail
        refine h5.mono ?_
        rintro e w5 ⟨x5, rfl, x50, x51, hc5, hg5⟩
        have K5 : Hid (DI B p w.heap.size w2.heap.size w w5 a c W hf bs nx (some ⟨g, 0, none⟩) cr rs ∧ IRow w5 w4.heap.size (.slice ak ks.length ck) ks ∧ w4.grownBy w5 (some p)) := krow_turn D4.out HK.out.2.2 HK.out.2.1 hc5 hg5
        clear hc5 hg5 h5 HK
        by_cases hlk : (k : Int) < x5
        · have t5 : decide ((k : Int) < x5) = true := decide_eq_true hlk
          have h6 := below_small B p (rs.length : Int) w5 K5.out.1.cur (by omega) (by omega)
          go_wp2_with fail
          refine h6.mono ?_
          rintro e w6 ⟨x6, rfl, x60, x61, hc6, hg6⟩
          have K6 : Hid (DI B p w.heap.size w2.heap.size w w6 a c W hf bs nx (some ⟨g, 0, none⟩) cr rs ∧ IRow w6 w4.heap.size (.slice ak ks.length ck) ks ∧ w4.grownBy w6 (some p)) := krow_turn D4.out K5.out.2.1 K5.out.2.2 hc6 hg6
          clear hc6 hg6 h6 K5
          obtain ⟨z, rfl⟩ := Int.eq_ofNat_of_zero_le x60
          have hzl : z < rs.length := by omega
          have e6 := RC.out w6 K6.out.1 z hzl
          have hin : InR rs[z] := K6.out.1.row.2 _ (List.getElem_mem hzl)
          generalize rs[z] = y6 at e6 hin
          have HIN : Hid (InR y6) := hin
          clear hin
          have RD : Hid (∀ X, (w6.alloc X).ownsRow w4.heap.size 3 1 (.slice ak ks.length ck) ks.length (ks.map (Value.int .i64))) := fun X => (K6.out.2.1.keep ((Below.refl _ _).alloc (Nat.le_refl _) X)).1
          have HZ : Hid (w4.heap.size ≤ w6.heap.size) := K6.out.2.2.size
          go_wp2_with (first
            | (at_builtin; refine wpList_append_own_at _ rfl (.tmp 35) (.tmp 43) 24 rfl w4.heap.size 3 ti _ 1 8 Tryz.underlying24 TI.out.1 TI.out.2.1 TI.out.2.2.1 TI.out.2.2.2 rfl (by decide) (.slice ak ks.length ck) _ _ rfl (RD.out _) ⟨w6.heap.size, 0, none⟩ 1 1 [.int .i64 y6] rfl rfl (new_cell _ _ _) (by simp; rfl) (by unfold maxLen; omega) (by omega) (by have := HZ.out; simp; omega) ?_; intro v9 w9 o9 g9 n9 e9; obtain ⟨a9, c9, rfl⟩ := own_form o9))
          have NX : Hid (Cur B w9 p ∧ w4.grownBy w9 (some p) ∧ IRow w9 w4.heap.size (.slice a9 (ks ++ [y6]).length c9) (ks ++ [y6])) := by
            have hO : ∀ q, (Value.slice ak ks.length ck).ownBlock = some q → w4.heap.size ≤ q := fun q hq => (K6.out.2.1.lt q hq).1
            have hp4 : p < w4.heap.size := Nat.lt_of_lt_of_le K6.out.1.ord.1 D4.out.grw.size
            refine ⟨cur_of (K6.out.1.new (.cells #[.int .i64 y6] 3)).cur fun q hq => g9.block q (by simp; have := HZ.out; omega) fun e => by have := hO q e.symm; omega, ?_, irow_app o9 K6.out.2.1.2 HIN.out⟩
            exact ⟨g9.os.trans K6.out.2.2.os, g9.tape.trans K6.out.2.2.tape, g9.output.trans K6.out.2.2.output, by have := g9.size; simp at this; have := HZ.out; omega, fun q hq hn => (g9.block q (by simp; have := HZ.out; omega) fun e => by have := hO q e.symm; omega).trans ((Below.heap_alloc _ _ _ (by have := HZ.out; omega)).trans (K6.out.2.2.block q hq hn))⟩
          clear o9 g9 n9 e9 e6
          go_round
          case rel => exact ⟨k + 1, a9, c9, ks ++ [y6], by omega, by go_num, by simp, by simp; omega, NX⟩
          case measure => simp [intOf]; omega
        · have t5 : decide ((k : Int) < x5) = false := decide_eq_false hlk
          have KD : Hid (DI B p w.heap.size w2.heap.size w w5.drew a c W hf bs nx (some ⟨g, 0, none⟩) cr rs ∧ IRow w5.drew w4.heap.size (.slice ak ks.length ck) ks ∧ w4.grownBy w5.drew (some p)) := ⟨K5.out.1.on (Below.refl _ _).drew, K5.out.2.1, ⟨K5.out.2.2.os, K5.out.2.2.tape, K5.out.2.2.output, K5.out.2.2.size, K5.out.2.2.block⟩⟩
          have ca0 : w5.cell? ⟨w2.heap.size, 0, none⟩ = some (.slice a W.length c) := K5.out.1.cell 0 rfl
          have ca1 : w5.cell? ⟨w2.heap.size, 1, none⟩ = some (.int .i64 hf) := K5.out.1.cell 1 rfl
          have ca2 : w5.cell? ⟨w2.heap.size, 2, none⟩ = some (.int .i64 bs) := K5.out.1.cell 2 rfl
          have ca3 : w5.cell? ⟨w2.heap.size, 3, none⟩ = some (.int .i64 nx) := K5.out.1.cell 3 rfl
          have cA0 : ∀ Y : Obj, (w5.alloc Y).cell? ⟨w2.heap.size, 0, none⟩ = some (.slice a W.length c) := fun Y => (K5.out.1.new Y).cell 0 rfl
          have cA1 : ∀ Y : Obj, (w5.alloc Y).cell? ⟨w2.heap.size, 1, none⟩ = some (.int .i64 hf) := fun Y => (K5.out.1.new Y).cell 1 rfl
          have cA2 : ∀ Y : Obj, (w5.alloc Y).cell? ⟨w2.heap.size, 2, none⟩ = some (.int .i64 bs) := fun Y => (K5.out.1.new Y).cell 2 rfl
          have cA3 : ∀ Y : Obj, (w5.alloc Y).cell? ⟨w2.heap.size, 3, none⟩ = some (.int .i64 nx) := fun Y => (K5.out.1.new Y).cell 3 rfl
          have hp4 : p < w4.heap.size := Nat.lt_of_lt_of_le D4.out.ord.1 D4.out.grw.size
          have hh4 : w2.heap.size < w4.heap.size := D4.out.lt
          go_wp2
          clear K5
          go_region_held3 (fun X => X.cell? ⟨w2.heap.size, 0, none⟩ = some (.slice a W.length c) ∧ X.cell? ⟨w2.heap.size, 1, none⟩ = some (.int .i64 hf) ∧ X.cell? ⟨w2.heap.size, 2, none⟩ = some (.int .i64 bs) ∧ X.cell? ⟨w2.heap.size, 3, none⟩ = some (.int .i64 nx))
            (exact ⟨(by first | with_reducible exact ca0 | with_reducible exact cA0 _ | (rw [cell_drewD]; first | with_reducible exact ca0 | with_reducible exact cA0 _) | exact zb_keep KN.out hh4 ca0), (by first | with_reducible exact ca1 | with_reducible exact cA1 _ | (rw [cell_drewD]; first | with_reducible exact ca1 | with_reducible exact cA1 _) | exact zb_keep KN.out hh4 ca1), (by first | with_reducible exact ca2 | with_reducible exact cA2 _ | (rw [cell_drewD]; first | with_reducible exact ca2 | with_reducible exact cA2 _) | exact zb_keep KN.out hh4 ca2), (by first | with_reducible exact ca3 | with_reducible exact cA3 _ | (rw [cell_drewD]; first | with_reducible exact ca3 | with_reducible exact cA3 _) | exact zb_keep KN.out hh4 ca3)⟩)
            (first
              | (go_at_call 74; first | (refine (once_any B p 4 _ KD.out.1.cur (by decide) (by decide)).mono ?_; rintro e wn ⟨y, rfl, hcn, hgn⟩; replace KD : Hid (DI B p w.heap.size w2.heap.size w wn a c W hf bs nx (some ⟨g, 0, none⟩) cr rs ∧ IRow wn w4.heap.size (.slice ak ks.length ck) ks ∧ w4.grownBy wn (some p)) := krow_turn D4.out KD.out.2.1 KD.out.2.2 hcn hgn; (try replace KN := hid_of (zb_turn KN.out hp4 hgn)); clear hcn hgn; replace ca0 : wn.cell? ⟨w2.heap.size, 0, none⟩ = some (.slice a W.length c) := KD.out.1.cell 0 rfl; replace ca1 : wn.cell? ⟨w2.heap.size, 1, none⟩ = some (.int .i64 hf) := KD.out.1.cell 1 rfl; replace ca2 : wn.cell? ⟨w2.heap.size, 2, none⟩ = some (.int .i64 bs) := KD.out.1.cell 2 rfl; replace ca3 : wn.cell? ⟨w2.heap.size, 3, none⟩ = some (.int .i64 nx) := KD.out.1.cell 3 rfl; replace cA0 : ∀ Y : Obj, (wn.alloc Y).cell? ⟨w2.heap.size, 0, none⟩ = some (.slice a W.length c) := fun Y => (KD.out.1.new Y).cell 0 rfl; replace cA1 : ∀ Y : Obj, (wn.alloc Y).cell? ⟨w2.heap.size, 1, none⟩ = some (.int .i64 hf) := fun Y => (KD.out.1.new Y).cell 1 rfl; replace cA2 : ∀ Y : Obj, (wn.alloc Y).cell? ⟨w2.heap.size, 2, none⟩ = some (.int .i64 bs) := fun Y => (KD.out.1.new Y).cell 2 rfl; replace cA3 : ∀ Y : Obj, (wn.alloc Y).cell? ⟨w2.heap.size, 3, none⟩ = some (.int .i64 nx) := fun Y => (KD.out.1.new Y).cell 3 rfl) | (have KN : Hid (ZB w4 (w5.alloc (.cells #[.slice none 0 0, .int .i64 0, .int .i64 0, .int .i64 0] 26)).drew w5.heap.size) := zb_newD KD.out.2.2.size; replace KD : Hid (DI B p w.heap.size w2.heap.size w (w5.alloc (.cells #[.slice none 0 0, .int .i64 0, .int .i64 0, .int .i64 0] 26)).drew a c W hf bs nx (some ⟨g, 0, none⟩) cr rs ∧ IRow (w5.alloc (.cells #[.slice none 0 0, .int .i64 0, .int .i64 0, .int .i64 0] 26)).drew w4.heap.size (.slice ak ks.length ck) ks ∧ w4.grownBy (w5.alloc (.cells #[.slice none 0 0, .int .i64 0, .int .i64 0, .int .i64 0] 26)).drew (some p)) := krow_on KD.out ((Below.refl _ _).alloc (Nat.le_refl _) _); refine (once_any B p 4 _ KD.out.1.cur (by decide) (by decide)).mono ?_; rintro e wn ⟨y, rfl, hcn, hgn⟩; replace KD : Hid (DI B p w.heap.size w2.heap.size w wn a c W hf bs nx (some ⟨g, 0, none⟩) cr rs ∧ IRow wn w4.heap.size (.slice ak ks.length ck) ks ∧ w4.grownBy wn (some p)) := krow_turn D4.out KD.out.2.1 KD.out.2.2 hcn hgn; (try replace KN := hid_of (zb_turn KN.out hp4 hgn)); clear hcn hgn; replace ca0 : wn.cell? ⟨w2.heap.size, 0, none⟩ = some (.slice a W.length c) := KD.out.1.cell 0 rfl; replace ca1 : wn.cell? ⟨w2.heap.size, 1, none⟩ = some (.int .i64 hf) := KD.out.1.cell 1 rfl; replace ca2 : wn.cell? ⟨w2.heap.size, 2, none⟩ = some (.int .i64 bs) := KD.out.1.cell 2 rfl; replace ca3 : wn.cell? ⟨w2.heap.size, 3, none⟩ = some (.int .i64 nx) := KD.out.1.cell 3 rfl; replace cA0 : ∀ Y : Obj, (wn.alloc Y).cell? ⟨w2.heap.size, 0, none⟩ = some (.slice a W.length c) := fun Y => (KD.out.1.new Y).cell 0 rfl; replace cA1 : ∀ Y : Obj, (wn.alloc Y).cell? ⟨w2.heap.size, 1, none⟩ = some (.int .i64 hf) := fun Y => (KD.out.1.new Y).cell 1 rfl; replace cA2 : ∀ Y : Obj, (wn.alloc Y).cell? ⟨w2.heap.size, 2, none⟩ = some (.int .i64 bs) := fun Y => (KD.out.1.new Y).cell 2 rfl; replace cA3 : ∀ Y : Obj, (wn.alloc Y).cell? ⟨w2.heap.size, 3, none⟩ = some (.int .i64 nx) := fun Y => (KD.out.1.new Y).cell 3 rfl))
              | (go_at_call 21; first | (refine (below_small B p 5 _ KD.out.1.cur (by decide) (by decide)).mono ?_; rintro e wn ⟨z, rfl, z0, z1, hcn, hgn⟩; replace KD : Hid (DI B p w.heap.size w2.heap.size w wn a c W hf bs nx (some ⟨g, 0, none⟩) cr rs ∧ IRow wn w4.heap.size (.slice ak ks.length ck) ks ∧ w4.grownBy wn (some p)) := krow_turn D4.out KD.out.2.1 KD.out.2.2 hcn hgn; (try replace KN := hid_of (zb_turn KN.out hp4 hgn)); clear hcn hgn; replace ca0 : wn.cell? ⟨w2.heap.size, 0, none⟩ = some (.slice a W.length c) := KD.out.1.cell 0 rfl; replace ca1 : wn.cell? ⟨w2.heap.size, 1, none⟩ = some (.int .i64 hf) := KD.out.1.cell 1 rfl; replace ca2 : wn.cell? ⟨w2.heap.size, 2, none⟩ = some (.int .i64 bs) := KD.out.1.cell 2 rfl; replace ca3 : wn.cell? ⟨w2.heap.size, 3, none⟩ = some (.int .i64 nx) := KD.out.1.cell 3 rfl; replace cA0 : ∀ Y : Obj, (wn.alloc Y).cell? ⟨w2.heap.size, 0, none⟩ = some (.slice a W.length c) := fun Y => (KD.out.1.new Y).cell 0 rfl; replace cA1 : ∀ Y : Obj, (wn.alloc Y).cell? ⟨w2.heap.size, 1, none⟩ = some (.int .i64 hf) := fun Y => (KD.out.1.new Y).cell 1 rfl; replace cA2 : ∀ Y : Obj, (wn.alloc Y).cell? ⟨w2.heap.size, 2, none⟩ = some (.int .i64 bs) := fun Y => (KD.out.1.new Y).cell 2 rfl; replace cA3 : ∀ Y : Obj, (wn.alloc Y).cell? ⟨w2.heap.size, 3, none⟩ = some (.int .i64 nx) := fun Y => (KD.out.1.new Y).cell 3 rfl) | (have KN : Hid (ZB w4 (_ : World) _) := zb_new KD.out.2.2.size; replace KD := hid_of (krow_on KD.out ((Below.refl _ _).alloc (Nat.le_refl _) (.cells #[.slice none 0 0, .int .i64 0, .int .i64 0, .int .i64 0] 26))); refine (below_small B p 5 _ KD.out.1.cur (by decide) (by decide)).mono ?_; rintro e wn ⟨z, rfl, z0, z1, hcn, hgn⟩; replace KD : Hid (DI B p w.heap.size w2.heap.size w wn a c W hf bs nx (some ⟨g, 0, none⟩) cr rs ∧ IRow wn w4.heap.size (.slice ak ks.length ck) ks ∧ w4.grownBy wn (some p)) := krow_turn D4.out KD.out.2.1 KD.out.2.2 hcn hgn; (try replace KN := hid_of (zb_turn KN.out hp4 hgn)); clear hcn hgn; replace ca0 : wn.cell? ⟨w2.heap.size, 0, none⟩ = some (.slice a W.length c) := KD.out.1.cell 0 rfl; replace ca1 : wn.cell? ⟨w2.heap.size, 1, none⟩ = some (.int .i64 hf) := KD.out.1.cell 1 rfl; replace ca2 : wn.cell? ⟨w2.heap.size, 2, none⟩ = some (.int .i64 bs) := KD.out.1.cell 2 rfl; replace ca3 : wn.cell? ⟨w2.heap.size, 3, none⟩ = some (.int .i64 nx) := KD.out.1.cell 3 rfl; replace cA0 : ∀ Y : Obj, (wn.alloc Y).cell? ⟨w2.heap.size, 0, none⟩ = some (.slice a W.length c) := fun Y => (KD.out.1.new Y).cell 0 rfl; replace cA1 : ∀ Y : Obj, (wn.alloc Y).cell? ⟨w2.heap.size, 1, none⟩ = some (.int .i64 hf) := fun Y => (KD.out.1.new Y).cell 1 rfl; replace cA2 : ∀ Y : Obj, (wn.alloc Y).cell? ⟨w2.heap.size, 2, none⟩ = some (.int .i64 bs) := fun Y => (KD.out.1.new Y).cell 2 rfl; replace cA3 : ∀ Y : Obj, (wn.alloc Y).cell? ⟨w2.heap.size, 3, none⟩ = some (.int .i64 nx) := fun Y => (KD.out.1.new Y).cell 3 rfl))
              | (go_at_call 73; first | (refine (specAlloc (W, hf, bs, nx) y z ks _ _ _ (by show W.length ≤ _; omega) (by omega) (by omega) (by omega) KD.out.1.sh (intsSh.mono (intsp_rep KD.out.2.1.sp) fun b hb => hb.2)).mono ?_; rintro e wn ⟨⟨cs', rfl, hr⟩, hbn⟩; obtain ⟨W', a', c', y1, y2, y3, hT, rfl, -, f1, f2, f3⟩ := heapp_open hr; have KA := KD; (try have KNA := KN); replace KD : Hid (DI B p w.heap.size w2.heap.size w wn a c W hf bs nx (some ⟨g, 0, none⟩) cr rs ∧ IRow wn w4.heap.size (.slice ak ks.length ck) ks ∧ w4.grownBy wn (some p)) := krow_on KA.out hbn; (try replace KN := hid_of (zb_on KN.out hbn)); (try have n0 := zb_cell KN.out 0 rfl); (try have n1 := zb_cell KN.out 1 rfl); (try have n2 := zb_cell KN.out 2 rfl); (try have n3 := zb_cell KN.out 3 rfl); (try have nf := zb_free KN.out); replace ca0 : wn.cell? ⟨w2.heap.size, 0, none⟩ = some (.slice a W.length c) := KD.out.1.cell 0 rfl; replace ca1 : wn.cell? ⟨w2.heap.size, 1, none⟩ = some (.int .i64 hf) := KD.out.1.cell 1 rfl; replace ca2 : wn.cell? ⟨w2.heap.size, 2, none⟩ = some (.int .i64 bs) := KD.out.1.cell 2 rfl; replace ca3 : wn.cell? ⟨w2.heap.size, 3, none⟩ = some (.int .i64 nx) := KD.out.1.cell 3 rfl; replace cA0 : ∀ Y : Obj, (wn.alloc Y).cell? ⟨w2.heap.size, 0, none⟩ = some (.slice a W.length c) := fun Y => (KD.out.1.new Y).cell 0 rfl; replace cA1 : ∀ Y : Obj, (wn.alloc Y).cell? ⟨w2.heap.size, 1, none⟩ = some (.int .i64 hf) := fun Y => (KD.out.1.new Y).cell 1 rfl; replace cA2 : ∀ Y : Obj, (wn.alloc Y).cell? ⟨w2.heap.size, 2, none⟩ = some (.int .i64 bs) := fun Y => (KD.out.1.new Y).cell 2 rfl; replace cA3 : ∀ Y : Obj, (wn.alloc Y).cell? ⟨w2.heap.size, 3, none⟩ = some (.int .i64 nx) := fun Y => (KD.out.1.new Y).cell 3 rfl) | (have KN : Hid (ZB w4 (_ : World) _) := zb_new KD.out.2.2.size; replace KD := hid_of (krow_on KD.out ((Below.refl _ _).alloc (Nat.le_refl _) (.cells #[.slice none 0 0, .int .i64 0, .int .i64 0, .int .i64 0] 26))); refine (specAlloc (W, hf, bs, nx) y z ks _ _ _ (by show W.length ≤ _; omega) (by omega) (by omega) (by omega) KD.out.1.sh (intsSh.mono (intsp_rep KD.out.2.1.sp) fun b hb => hb.2)).mono ?_; rintro e wn ⟨⟨cs', rfl, hr⟩, hbn⟩; obtain ⟨W', a', c', y1, y2, y3, hT, rfl, -, f1, f2, f3⟩ := heapp_open hr; have KA := KD; (try have KNA := KN); replace KD : Hid (DI B p w.heap.size w2.heap.size w wn a c W hf bs nx (some ⟨g, 0, none⟩) cr rs ∧ IRow wn w4.heap.size (.slice ak ks.length ck) ks ∧ w4.grownBy wn (some p)) := krow_on KA.out hbn; (try replace KN := hid_of (zb_on KN.out hbn)); (try have n0 := zb_cell KN.out 0 rfl); (try have n1 := zb_cell KN.out 1 rfl); (try have n2 := zb_cell KN.out 2 rfl); (try have n3 := zb_cell KN.out 3 rfl); (try have nf := zb_free KN.out); replace ca0 : wn.cell? ⟨w2.heap.size, 0, none⟩ = some (.slice a W.length c) := KD.out.1.cell 0 rfl; replace ca1 : wn.cell? ⟨w2.heap.size, 1, none⟩ = some (.int .i64 hf) := KD.out.1.cell 1 rfl; replace ca2 : wn.cell? ⟨w2.heap.size, 2, none⟩ = some (.int .i64 bs) := KD.out.1.cell 2 rfl; replace ca3 : wn.cell? ⟨w2.heap.size, 3, none⟩ = some (.int .i64 nx) := KD.out.1.cell 3 rfl; replace cA0 : ∀ Y : Obj, (wn.alloc Y).cell? ⟨w2.heap.size, 0, none⟩ = some (.slice a W.length c) := fun Y => (KD.out.1.new Y).cell 0 rfl; replace cA1 : ∀ Y : Obj, (wn.alloc Y).cell? ⟨w2.heap.size, 1, none⟩ = some (.int .i64 hf) := fun Y => (KD.out.1.new Y).cell 1 rfl; replace cA2 : ∀ Y : Obj, (wn.alloc Y).cell? ⟨w2.heap.size, 2, none⟩ = some (.int .i64 bs) := fun Y => (KD.out.1.new Y).cell 2 rfl; replace cA3 : ∀ Y : Obj, (wn.alloc Y).cell? ⟨w2.heap.size, 3, none⟩ = some (.int .i64 nx) := fun Y => (KD.out.1.new Y).cell 3 rfl)))
          all_goals
            have hT2 : (allocF (W, hf, bs, nx) y z ks).1 = (W', y1, y2, y3) := hT
            have hWl' : W'.length = W.length := by have := alloc_len (W, hf, bs, nx) y z ks; rw [hT2] at this; exact this
            have hr' := hr
            rw [hT2] at hr'
            have hpl : InR (allocF (W, hf, bs, nx) y z ks).2.1 := alloc_place D4.out.inr
            first
              | (obtain ⟨wf, hwf, hF⟩ := fin_a' D4.out KD.out.1.cur KD.out.2.2 KA.out.2.2.size hr'; rw [← hwf])
              | (obtain ⟨wf, hwf, hF⟩ := fin_s' D4.out KD.out.1.cur KD.out.2.2 KA.out.2.2.size hr' KN.out (Array.getElem?_eq_some_iff.1 KNA.out.1).1; rw [← hwf])
            have F := hid_of hF
            have HWL := hid_of hWl'
            generalize (allocF (W, hf, bs, nx) y z ks).2.1 = pl at hpl ⊢
            generalize (allocF (W, hf, bs, nx) y z ks).2.2 = ok
            clear hwf hF hr hr' hT hT2 hWl' KA KD hbn ca0 ca1 ca2 ca3 cA0 cA1 cA2 cA3
            cases ok with
            | false =>
              have DX := hid_of F.out.di
              have RSL : rs.length ≤ 2 + (i + 1) := by omega
              clear F
              have h15 := once_any B p 9 _ DX.out.cur (by decide) (by decide)
              go_wp2_with fail
              refine h15.mono ?_
              rintro e w7 ⟨y7, rfl, hc7, hg7⟩
              have D7 : Hid (DI B p w.heap.size w2.heap.size w w7 a c W hf bs nx (some ⟨g, 0, none⟩) cr rs) := DX.out.turn hc7 hg7
              clear hc7 hg7 h15 DX
              cases y7 with
              | false =>
                go_wp2
                go_round
                case rel => exact ⟨i + 1, _, _, _, _, _, _, _, _, _, by omega, by go_num, rfl, RSL, D7⟩
                case measure => simp [intOf]; omega
              | true =>
                have d0 := D7.out.cell 0 rfl
                have d1 := D7.out.cell 1 rfl
                have d2 := D7.out.cell 2 rfl
                have d3 := D7.out.cell 3 rfl
                have h16 := specCollect _ _ _ _ w7 (by show (W : List Int).length ≤ _; have := D7.out.wl; omega) (by have := D7.out.rl; omega) D7.out.sh D7.out.rsh
                obtain ⟨hl1, hl2⟩ := collect_len (W, hf, bs, nx) rs
                generalize collectF (W, hf, bs, nx) rs = cf at h16 hl1 hl2
                obtain ⟨⟨W8, hf8, bs8, nx8⟩, rs8⟩ := cf
                dsimp only at hl1 hl2
                have HL1 := hid_of hl1
                have HL2 := hid_of hl2
                clear hl1 hl2
                go_wp2_with fail
                refine h16.mono ?_
                rintro e w8 ⟨⟨a8, c8, v8, rfl, i1, i2, hap, r1, r2, r3⟩, hb8⟩
                dsimp only at i1 hap r1 r2 r3
                have E8 := D7.out.on hb8
                obtain ⟨ar8, cr8, hv8, hD8⟩ := D7.out.both hb8 i1 i2 hap r1 r2 r3 HL1.out HL2.out
                subst hv8
                unfold set4 at hD8
                have D8 := hid_of hD8
                have f0 := E8.cell 0 rfl
                have f1 := E8.cell 1 rfl
                have f2 := E8.cell 2 rfl
                have f3 := E8.cell 3 rfl
                have fz := E8.free
                clear h16 i1 i2 hap hb8 hD8 E8 d0 d1 d2 d3
                go_wp2
                go_round
                case rel => exact ⟨i + 1, _, _, _, _, _, _, _, _, _, by omega, by go_num, rfl, by rw [HL2.out]; exact RSL, D8⟩
                case measure => simp [intOf]; omega
            | true =>
              have n0' := F.out.ncell 0 rfl
              have n1' := F.out.ncell 1 rfl
              have n2' := F.out.ncell 2 rfl
              have n3' := F.out.ncell 3 rfl
              have b0 := F.out.di.cell 0 rfl
              have b1 := F.out.di.cell 1 rfl
              have b2 := F.out.di.cell 2 rfl
              have b3 := F.out.di.cell 3 rfl
              have bz := F.out.di.free
              have hP6 := F.out.put HWL.out
              unfold set4 at hP6
              have P6 := hid_of hP6
              clear hP6
              have h14 := specRefWord pl (set4 wf w2.heap.size (.slice a' W'.length c') (.int .i64 y1) (.int .i64 y2) (.int .i64 y3)) hpl.1 hpl.2
              unfold set4 at h14
              go_wp2_with fail
              refine h14.mono ?_
              rintro e w6 ⟨rfl, hb6⟩
              have D6 := hid_of (P6.out.on hb6)
              have hri : InR (refWordF pl) := ref_in
              generalize refWordF pl = rw at hri ⊢
              have HRI := hid_of hri
              clear h14 hb6 P6 F n0' n1' n2' n3' b0 b1 b2 b3 bz hri
              have RD : Hid (∀ X, (w6.alloc X).ownsRow (w2.heap.size + 1) 3 1 (.slice (some ⟨g, 0, none⟩) rs.length cr) rs.length (rs.map (Value.int .i64))) := fun X => (D6.out.new X).row.1
              have HZ : Hid (w2.heap.size < w6.heap.size) := D6.out.lt
              go_wp2_with (first
                | (at_builtin; refine wpList_append_own_at _ rfl (.tmp 58) (.tmp 61) 24 rfl (w2.heap.size + 1) 3 ti _ 1 8 Tryz.underlying24 TI.out.1 TI.out.2.1 TI.out.2.2.1 TI.out.2.2.2 rfl (by decide) (.slice (some ⟨g, 0, none⟩) rs.length cr) _ _ rfl (RD.out _) ⟨w6.heap.size, 0, none⟩ 1 1 [.int .i64 rw] rfl rfl (new_cell _ _ _) (by simp; rfl) (by unfold maxLen; omega) (by omega) (by have := HZ.out; simp; omega) ?_; intro v9 w9 o9 g9 n9 e9; obtain ⟨a9, c9, rfl⟩ := own_form o9))
              have DX := hid_of ((D6.out.new _).app o9 g9 e9 HRI.out (by omega))
              have RSL : (rs ++ [rw]).length ≤ 2 + (i + 1) := by rw [List.length_append, List.length_singleton]; omega
              clear o9 g9 n9 e9 D6
              rw [show rs.length + 1 = (rs ++ [rw]).length by simp]
              generalize rs ++ [rw] = R9 at DX RSL ⊢
              have h15 := once_any B p 9 _ DX.out.cur (by decide) (by decide)
              go_wp2_with fail
              refine h15.mono ?_
              rintro e w7 ⟨y7, rfl, hc7, hg7⟩
              have D7 : Hid (DI B p w.heap.size w2.heap.size w w7 a' c' W' y1 y2 y3 a9 c9 R9) := DX.out.turn hc7 hg7
              clear hc7 hg7 h15 DX
              cases y7 with
              | false =>
                go_wp2
                go_round
                case rel => exact ⟨i + 1, _, _, _, _, _, _, _, _, _, by omega, by go_num, rfl, RSL, D7⟩
                case measure => simp [intOf]; omega
              | true =>
                have d0 := D7.out.cell 0 rfl
                have d1 := D7.out.cell 1 rfl
                have d2 := D7.out.cell 2 rfl
                have d3 := D7.out.cell 3 rfl
                have h16 := specCollect _ _ _ _ w7 (by show (W' : List Int).length ≤ _; have := D7.out.wl; omega) (by have := D7.out.rl; omega) D7.out.sh D7.out.rsh
                obtain ⟨hl1, hl2⟩ := collect_len (W', y1, y2, y3) R9
                generalize collectF (W', y1, y2, y3) R9 = cf at h16 hl1 hl2
                obtain ⟨⟨W8, hf8, bs8, nx8⟩, rs8⟩ := cf
                dsimp only at hl1 hl2
                have HL1 := hid_of hl1
                have HL2 := hid_of hl2
                clear hl1 hl2
                go_wp2_with fail
                refine h16.mono ?_
                rintro e w8 ⟨⟨a8, c8, v8, rfl, i1, i2, hap, r1, r2, r3⟩, hb8⟩
                dsimp only at i1 hap r1 r2 r3
                have E8 := D7.out.on hb8
                obtain ⟨ar8, cr8, hv8, hD8⟩ := D7.out.both hb8 i1 i2 hap r1 r2 r3 HL1.out HL2.out
                subst hv8
                unfold set4 at hD8
                have D8 := hid_of hD8
                have f0 := E8.cell 0 rfl
                have f1 := E8.cell 1 rfl
                have f2 := E8.cell 2 rfl
                have f3 := E8.cell 3 rfl
                have fz := E8.free
                clear h16 i1 i2 hap hb8 hD8 E8 d0 d1 d2 d3
                go_wp2
                go_round
                case rel => exact ⟨i + 1, _, _, _, _, _, _, _, _, _, by omega, by go_num, rfl, by rw [HL2.out]; exact RSL, D8⟩
                case measure => simp [intOf]; omega
    · have t4 : decide ((i : Int) < x4) = false := decide_eq_false hlt
      have d0 := D4.out.cell 0 rfl
      have d1 := D4.out.cell 1 rfl
      have d2 := D4.out.cell 2 rfl
      have d3 := D4.out.cell 3 rfl
      have r0 : w4.cell? ⟨w.heap.size, 0, none⟩ = some (.slice none 0 0) := by simp [World.cell?, D4.out.res]
      have r1 : w4.cell? ⟨w.heap.size, 1, none⟩ = some (.int .i64 0) := by simp [World.cell?, D4.out.res]
      have r2 : w4.cell? ⟨w.heap.size, 2, none⟩ = some (.int .i64 0) := by simp [World.cell?, D4.out.res]
      have r3 : w4.cell? ⟨w.heap.size, 3, none⟩ = some (.int .i64 0) := by simp [World.cell?, D4.out.res]
      have rz : ∀ j, w4.frozen? ⟨w.heap.size, j, none⟩ = false := fun j => by simp [World.frozen?, D4.out.res]
      have hE := D4.out.done
      unfold set4 at hE
      have E4 := hid_of hE
      clear hE
      go_wp2
      refine bodyPost_ret (v := .tuple #[.agg #[.slice a W.length c, .int .i64 hf, .int .i64 bs, .int .i64 nx], .slice ar rs.length cr]) (by simp [results, Tryz.f39, go_sem, r0, r1, r2, r3]) rfl ?_
      exact ⟨a, c, W, hf, bs, nx, ar, cr, rs, rfl, E4.out⟩

end Go.Proofs.YthpdkjenadngoaaGreatDoor.heap
