/-
  At every argument the program's function answers as its model, writes nothing into an argument, and its answer owns its memory; the law's call returns true, and the arguments read as they read before. No condition.
-/
import Derived.Test.YtibjpdchdopigaaRows
import Derived.ProofKit
import Derived.Deep.DeepHandedRow
import Derived.ChangeOld
import Derived.Carry
import Derived.Test.YtibjpdchdopigaaB1
import Derived.Test.YtibjpdchdopigaaB2
import Derived.Test.YtibjpdchdopigaaB3
import Derived.Test.YtibjpdchdopigaaB4
import Derived.Test.YtibjpdchdopigaaB5
import Derived.Test.YtibjpdchdopigaaB6
import Derived.Test.YtibjpdchdopigaaB7
import Derived.Test.YtibjpdchdopigaaB8
import Derived.Test.YtibjpdchdopigaaB9
import Derived.Test.YtibjpdchdopigaaB10
import Derived.Test.YtibjpdchdopigaaB11
import Derived.Test.YtibjpdchdopigaaB12
import Derived.Test.YtibjpdchdopigaaB13
import Derived.Test.YtibjpdchdopigaaB14
import Derived.Test.YtibjpdchdopigaaB15
import Derived.Test.YtibjpdchdopigaaB16
import Derived.Test.YtibjpdchdopigaaB17
import Derived.Test.YtibjpdchdopigaaB18
namespace Go.Proofs.Ytibjpdchdopigaa.fnExactReach
open Go.ChangeShapes Go.WideShapes Go.ChangeAt Go.RowKit Go.Proofs.Ytibjpdchdopigaa.rose Go.Proofs.Ytibjpdchdopigaa
open Go.ChangeMaps (open_string shut_string)
set_option linter.unusedVariables false

theorem own : ownKnob Try.prog.godebug = none := by kernel_rfl
theorem laidOut : laidOutB Try.prog = true := by kernel_rfl

set_option maxRecDepth 100000 in
set_option maxHeartbeats 8000000 in
theorem walk (T : heap.HeapD) (rs : List Int) (cs0 : List Value) (va1 : Value) (w : World) (h0 : heap.heapSh.rep w (· < w.heap.size) cs0 T) (h1 : ints.intsSh.rep w (· < w.heap.size) [va1] rs) :
    Calls Try.prog 3 #[.agg cs0.toArray, va1] w fun e w' => e = .returned (.bool true) ∧ Below w.heap.size w w' := by
  obtain ⟨a0_0, a0_1, a0_2, a0_3, rfl⟩ := heap.heap_list h0
  have oa0_0 := heap.heapSh.one h0 a0_0 (by simp)
  have oa0_1 := heap.heapSh.one h0 a0_1 (by simp)
  have oa0_2 := heap.heapSh.one h0 a0_2 (by simp)
  have oa0_3 := heap.heapSh.one h0 a0_3 (by simp)
  have AR0 : Hid (∀ W : World, Below w.heap.size w W → heap.heapSh.rep W (· < W.heap.size) [a0_0, a0_1, a0_2, a0_3] T) := fun W hb => heap.heapSh.mono (heap.heapSh.below h0 hb) fun b hlt => Nat.lt_of_lt_of_le hlt hb.size
  have AR1 : Hid (∀ W : World, Below w.heap.size w W → ints.intsSh.rep W (· < W.heap.size) [va1] rs) := fun W hb => ints.intsSh.mono (ints.intsSh.below h1 hb) fun b hlt => Nat.lt_of_lt_of_le hlt hb.size
  obtain ⟨ad1, cp1, hva1⟩ : ∃ a c, va1 = .slice a rs.length c := by obtain ⟨a, c, e⟩ := slice_cells h1; simp only [List.cons.injEq, and_true] at e; exact ⟨a, c, e⟩
  subst hva1
  clear h0
  clear h1
  have BB0 : Hid (Below w.heap.size w (w.alloc (.cells #[a0_0, a0_1, a0_2, a0_3] 24))) := (Below.refl _ w).alloc (by simp) _
  have K0_0 : Hid (BoxK (w.alloc (.cells #[a0_0, a0_1, a0_2, a0_3] 24)) (w.heap.size) [a0_0, a0_1, a0_2, a0_3] 24) := ⟨by exact alloc_top _ _⟩
  by_cases hl1 : (1048576 : Int) < (rs.length : Int)
  · go_enter Try.func3, Try.ntmps3
    go_wp2
    go_ret
    exact ⟨rfl, BB0.out⟩
  have hs1 : (rs.length : Int) ≤ 1048576 := by omega
  have HL1 : Hid (rs.length ≤ 1048576) := by show _ ≤ _; omega
  go_enter Try.func3, Try.ntmps3
  go_wp2_with fail
  refine (heap.sz_any T _ _ 1048576 (by decide) (by decide) (AR0.out _ BB0.out)).mono ?_
  rintro e w1 ⟨rfl, hb⟩
  have K0_1 : Hid (BoxK w1 (w.heap.size) [a0_0, a0_1, a0_2, a0_3] 24) := K0_0.out.on hb
  have BB1 : Hid (Below w.heap.size w w1) := BB0.out.trans (hb.mono BB0.out.size)
  have L0 : Hid (w.heap.size + 1 ≤ w1.heap.size) := by have := hb.size; (try simp at this); show _ ≤ _; omega
  clear hb K0_0 BB0
  obtain ⟨q0, hq0⟩ : ∃ nz : Nat, nz = heap.wt T := ⟨_, rfl⟩
  rw [← hq0]
  have HQ0 : Hid (q0 = heap.wt T) := hq0
  clear hq0
  by_cases hw0 : q0 ≤ 1048576
  · have hl : left q0 (1048576) = 1048576 - (q0 : Nat) := by unfold left; rw [if_pos (by omega)]
    rw [hl]
    have t1 : decide (((1048576 : Int) - (q0 : Nat) : Int) < 0) = false := by simp; omega
    clear hl
    have HW : Hid ((heap.wt T) ≤ 1048576) := by have := HQ0.out; show _ ≤ _; omega
    have cK00 : w1.cell? ⟨w.heap.size, 0, none⟩ = some a0_0 := K0_1.out.cell 0 rfl
    have cK01 : w1.cell? ⟨w.heap.size, 1, none⟩ = some a0_1 := K0_1.out.cell 1 rfl
    have cK02 : w1.cell? ⟨w.heap.size, 2, none⟩ = some a0_2 := K0_1.out.cell 2 rfl
    have cK03 : w1.cell? ⟨w.heap.size, 3, none⟩ = some a0_3 := K0_1.out.cell 3 rfl
    go_wp2_with fail
    refine (heap.toP_any T _ _ (by have := HW.out; omega) (AR0.out _ BB1.out)).mono ?_
    rintro e w2 ⟨⟨k2, rfl, r2⟩, hb⟩
    clear cK00 cK01 cK02 cK03
    have K0_2 : Hid (BoxK w2 (w.heap.size) [a0_0, a0_1, a0_2, a0_3] 24) := K0_1.out.on hb
    have BB2 : Hid (Below w.heap.size w w2) := BB1.out.trans (hb.mono BB1.out.size)
    have WC0_2 : Hid (ItmR heap.heapSp w2 k2 w1.heap.size w2.heap.size T) := ⟨Nat.le_refl _, r2⟩
    have L1 : Hid (w1.heap.size ≤ w2.heap.size) := hb.size
    clear hb r2 K0_1 BB1
    go_wp2_with fail
    refine (ints.toPS_any rs _ _ HL1.out (AR1.out _ BB2.out)).mono ?_
    rintro e w3 ⟨⟨k3, rfl, r3⟩, hb⟩
    have K0_3 : Hid (BoxK w3 (w.heap.size) [a0_0, a0_1, a0_2, a0_3] 24) := K0_2.out.on hb
    have WC0_3 : Hid (ItmR heap.heapSp w3 k2 w1.heap.size w2.heap.size T) := WC0_2.out.on hb
    have BB3 : Hid (Below w.heap.size w w3) := BB2.out.trans (hb.mono BB2.out.size)
    have WC1_3 : Hid (ItmR ints.intsSp w3 [k3] w2.heap.size w3.heap.size rs) := ⟨Nat.le_refl _, r3⟩
    have L2 : Hid (w2.heap.size ≤ w3.heap.size) := hb.size
    clear hb r3 K0_2 WC0_2 BB2
    go_wp2_with fail
    refine (heap.specReach_std T rs _ _ _ HW.out HL1.out (heap.heapSh.mono (heap.heapp_rep WC0_3.out.rep) fun b hb => by have := WC0_3.out.top; have := L0.out; have := L1.out; have := L2.out; omega) (ints.intsSh.mono (ints.intsp_rep WC1_3.out.rep) fun b hb => by have := WC1_3.out.top; have := L0.out; have := L1.out; have := L2.out; omega)).mono ?_
    rintro e w4 ⟨⟨u4_0, rfl, r4_0⟩, hb⟩
    have K0_4 : Hid (BoxK w4 (w.heap.size) [a0_0, a0_1, a0_2, a0_3] 24) := K0_3.out.on hb
    have BB4 : Hid (Below w.heap.size w w4) := BB3.out.trans (hb.mono BB3.out.size)
    have L3 : Hid (w3.heap.size ≤ w4.heap.size) := hb.size
    have WR0_4 : Hid (ItmR ints.intsSp w4 [u4_0] w3.heap.size w4.heap.size (heap.reachF T rs)) := ⟨Nat.le_refl _, r4_0⟩
    clear hb r4_0 K0_3 BB3
    have cK00 : w4.cell? ⟨w.heap.size, 0, none⟩ = some a0_0 := K0_4.out.cell 0 rfl
    have cK01 : w4.cell? ⟨w.heap.size, 1, none⟩ = some a0_1 := K0_4.out.cell 1 rfl
    have cK02 : w4.cell? ⟨w.heap.size, 2, none⟩ = some a0_2 := K0_4.out.cell 2 rfl
    have cK03 : w4.cell? ⟨w.heap.size, 3, none⟩ = some a0_3 := K0_4.out.cell 3 rfl
    go_wp2_with fail
    refine (heap.toP_any T _ _ (by have := HW.out; omega) (AR0.out _ BB4.out)).mono ?_
    rintro e w5 ⟨⟨k5, rfl, r5⟩, hb⟩
    clear cK00 cK01 cK02 cK03
    obtain ⟨x5_0, x5_1, x5_2, x5_3, rfl⟩ := heap.heap_list (heap.heapp_rep r5)
    have ox5_0 := heap.heapSp.one r5 x5_0 (by simp)
    have ox5_1 := heap.heapSp.one r5 x5_1 (by simp)
    have ox5_2 := heap.heapSp.one r5 x5_2 (by simp)
    have ox5_3 := heap.heapSp.one r5 x5_3 (by simp)
    have sox5_0 := fun (a : Addr) (m : Mode) (w : World) => run_store Try.prog w a x5_0 m ox5_0
    have sox5_1 := fun (a : Addr) (m : Mode) (w : World) => run_store Try.prog w a x5_1 m ox5_1
    have sox5_2 := fun (a : Addr) (m : Mode) (w : World) => run_store Try.prog w a x5_2 m ox5_2
    have sox5_3 := fun (a : Addr) (m : Mode) (w : World) => run_store Try.prog w a x5_3 m ox5_3
    obtain ⟨w5b, e5⟩ : ∃ x, x = w5.alloc (.cells #[x5_0, x5_1, x5_2, x5_3] 27) := ⟨_, rfl⟩
    have hA : Below w5.heap.size w5 w5b := by rw [e5]; exact (Below.refl _ _).alloc (Nat.le_refl _) _
    have z5 : w5b.heap.size = w5.heap.size + 1 := by rw [e5]; simp
    have K0_5 : Hid (BoxK w5b (w.heap.size) [a0_0, a0_1, a0_2, a0_3] 24) := (K0_4.out.on hb).on hA
    have WR0_5 : Hid (ItmR ints.intsSp w5b [u4_0] w3.heap.size w4.heap.size (heap.reachF T rs)) := (WR0_4.out.on hb).on hA
    have BB5 : Hid (Below w.heap.size w w5b) := (BB4.out.trans (hb.mono BB4.out.size)).trans (hA.mono (Nat.le_trans BB4.out.size hb.size))
    have L4 : Hid (w4.heap.size ≤ w5.heap.size) := hb.size
    have L5 : Hid (w5.heap.size + 1 ≤ w5b.heap.size) := by show _ ≤ _; omega
    have X0_5 : Hid (Itm heap.heapSp w5b w5.heap.size [x5_0, x5_1, x5_2, x5_3] 27 w4.heap.size w5.heap.size T) := by rw [e5]; exact Itm.new r5 (Nat.le_refl _) rfl
    clear hb hA z5 r5 K0_4 WR0_4 BB4
    go_wp2_with fail
    rw [← e5]
    refine (ints.toPS_any rs _ _ HL1.out (AR1.out _ BB5.out)).mono ?_
    rintro e w6 ⟨⟨k6, rfl, r6⟩, hb⟩
    clear e5
    have K0_6 : Hid (BoxK w6 (w.heap.size) [a0_0, a0_1, a0_2, a0_3] 24) := K0_5.out.on hb
    have WR0_6 : Hid (ItmR ints.intsSp w6 [u4_0] w3.heap.size w4.heap.size (heap.reachF T rs)) := WR0_5.out.on hb
    have X0_6 : Hid (Itm heap.heapSp w6 w5.heap.size [x5_0, x5_1, x5_2, x5_3] 27 w4.heap.size w5.heap.size T) := X0_5.out.on hb
    have BB6 : Hid (Below w.heap.size w w6) := BB5.out.trans (hb.mono BB5.out.size)
    have L6 : Hid (w5b.heap.size ≤ w6.heap.size) := hb.size
    have X1_6 : Hid (ItmR ints.intsSp w6 [k6] w5b.heap.size w6.heap.size rs) := ⟨Nat.le_refl _, r6⟩
    clear hb r6 K0_5 WR0_5 X0_5 BB5
    have cX00 : w6.cell? ⟨w5.heap.size, 0, none⟩ = some x5_0 := X0_6.out.cell 0 rfl
    have cX01 : w6.cell? ⟨w5.heap.size, 1, none⟩ = some x5_1 := X0_6.out.cell 1 rfl
    have cX02 : w6.cell? ⟨w5.heap.size, 2, none⟩ = some x5_2 := X0_6.out.cell 2 rfl
    have cX03 : w6.cell? ⟨w5.heap.size, 3, none⟩ = some x5_3 := X0_6.out.cell 3 rfl
    go_wp2_with fail
    refine (heap.implReach_std T rs _ _ _ HW.out HL1.out (heap.heapSh.mono (heap.heapp_rep X0_6.out.rep) fun b hb => by have := X0_6.out.top; have := L0.out; have := L1.out; have := L2.out; have := L3.out; have := L4.out; have := L5.out; have := L6.out; omega) (ints.intsSh.mono (ints.intsp_rep X1_6.out.rep) fun b hb => by have := X1_6.out.top; have := L0.out; have := L1.out; have := L2.out; have := L3.out; have := L4.out; have := L5.out; have := L6.out; omega)).mono ?_
    rintro e w7 ⟨⟨u7_0, rfl, r7_0⟩, hb⟩
    clear cX00 cX01 cX02 cX03
    have K0_7 : Hid (BoxK w7 (w.heap.size) [a0_0, a0_1, a0_2, a0_3] 24) := K0_6.out.on hb
    have WR0_7 : Hid (ItmR ints.intsSp w7 [u4_0] w3.heap.size w4.heap.size (heap.reachF T rs)) := WR0_6.out.on hb
    have X0_7 : Hid (Itm heap.heapSp w7 w5.heap.size [x5_0, x5_1, x5_2, x5_3] 27 w4.heap.size w5.heap.size T) := X0_6.out.on hb
    have X1_7 : Hid (ItmR ints.intsSp w7 [k6] w5b.heap.size w6.heap.size rs) := X1_6.out.on hb
    have BB7 : Hid (Below w.heap.size w w7) := BB6.out.trans (hb.mono BB6.out.size)
    have L7 : Hid (w6.heap.size ≤ w7.heap.size) := hb.size
    have GR0_7 : Hid (ItmR ints.intsSp w7 [u7_0] w6.heap.size w7.heap.size (heap.reachF T rs)) := ⟨Nat.le_refl _, r7_0⟩
    clear hb r7_0 K0_6 WR0_6 X0_6 X1_6 BB6
    go_wp2_with fail
    refine (ints.eq_any (heap.reachF T rs) _ _ _ (ints.intsSh.mono (ints.intsp_rep GR0_7.out.rep) fun b hb => by have := GR0_7.out.top; have := L0.out; have := L1.out; have := L2.out; have := L3.out; have := L4.out; have := L5.out; have := L6.out; have := L7.out; omega) (ints.intsSh.mono (ints.intsp_rep WR0_7.out.rep) fun b hb => by have := WR0_7.out.top; have := L0.out; have := L1.out; have := L2.out; have := L3.out; have := L4.out; have := L5.out; have := L6.out; have := L7.out; omega)).mono ?_
    rintro e w8 ⟨rfl, hb⟩
    have K0_8 : Hid (BoxK w8 (w.heap.size) [a0_0, a0_1, a0_2, a0_3] 24) := K0_7.out.on hb
    have WR0_8 : Hid (ItmR ints.intsSp w8 [u4_0] w3.heap.size w4.heap.size (heap.reachF T rs)) := WR0_7.out.on hb
    have X0_8 : Hid (Itm heap.heapSp w8 w5.heap.size [x5_0, x5_1, x5_2, x5_3] 27 w4.heap.size w5.heap.size T) := X0_7.out.on hb
    have X1_8 : Hid (ItmR ints.intsSp w8 [k6] w5b.heap.size w6.heap.size rs) := X1_7.out.on hb
    have GR0_8 : Hid (ItmR ints.intsSp w8 [u7_0] w6.heap.size w7.heap.size (heap.reachF T rs)) := GR0_7.out.on hb
    have BB8 : Hid (Below w.heap.size w w8) := BB7.out.trans (hb.mono BB7.out.size)
    have L8 : Hid (w7.heap.size ≤ w8.heap.size) := hb.size
    clear hb K0_7 WR0_7 X0_7 X1_7 GR0_7 BB7
    go_wp2
    have cK00 : w8.cell? ⟨w.heap.size, 0, none⟩ = some a0_0 := K0_8.out.cell 0 rfl
    have cK01 : w8.cell? ⟨w.heap.size, 1, none⟩ = some a0_1 := K0_8.out.cell 1 rfl
    have cK02 : w8.cell? ⟨w.heap.size, 2, none⟩ = some a0_2 := K0_8.out.cell 2 rfl
    have cK03 : w8.cell? ⟨w.heap.size, 3, none⟩ = some a0_3 := K0_8.out.cell 3 rfl
    have cX00 : w8.cell? ⟨w5.heap.size, 0, none⟩ = some x5_0 := X0_8.out.cell 0 rfl
    have cX01 : w8.cell? ⟨w5.heap.size, 1, none⟩ = some x5_1 := X0_8.out.cell 1 rfl
    have cX02 : w8.cell? ⟨w5.heap.size, 2, none⟩ = some x5_2 := X0_8.out.cell 2 rfl
    have cX03 : w8.cell? ⟨w5.heap.size, 3, none⟩ = some x5_3 := X0_8.out.cell 3 rfl
    have hcall := heap.toP_any T _ w8.drew (by have := HW.out; omega) (AR0.out _ BB8.out.drew)
    go_region_with (first | (go_at_call 7; refine hcall.mono ?_; rintro e w9 ⟨⟨k9, rfl, r9⟩, hb⟩; have cy0 := (hb.cell (p := ⟨w5.heap.size, 0, none⟩) (show w5.heap.size < w8.heap.size from X0_8.out.lt)).trans cX00; have cy1 := (hb.cell (p := ⟨w5.heap.size, 1, none⟩) (show w5.heap.size < w8.heap.size from X0_8.out.lt)).trans cX01; have cy2 := (hb.cell (p := ⟨w5.heap.size, 2, none⟩) (show w5.heap.size < w8.heap.size from X0_8.out.lt)).trans cX02; have cy3 := (hb.cell (p := ⟨w5.heap.size, 3, none⟩) (show w5.heap.size < w8.heap.size from X0_8.out.lt)).trans cX03) | (go_at_call 11; refine (heap.eq_any T [x5_0, x5_1, x5_2, x5_3] k9 _ (heap.heapSh.mono (heap.heapp_rep ((X0_8.out.on ((Below.refl _ w8).drew.trans hb)).rep)) (fun b hlt => by have := X0_8.out.top; have : w8.heap.size ≤ w9.heap.size := hb.size; omega)) (heap.heapSh.mono (heap.heapp_rep r9) fun b hlt => hlt.2)).mono ?_; rintro e w10 ⟨rfl, hb2⟩))
    all_goals
      have hbb : Below w8.heap.size w8 w10 := ((Below.refl _ w8).drew.trans hb).trans (hb2.mono hb.size)
      have K0_10 : Hid (BoxK w10 (w.heap.size) [a0_0, a0_1, a0_2, a0_3] 24) := K0_8.out.on hbb
      have WR0_10 : Hid (ItmR ints.intsSp w10 [u4_0] w3.heap.size w4.heap.size (heap.reachF T rs)) := WR0_8.out.on hbb
      have X0_10 : Hid (Itm heap.heapSp w10 w5.heap.size [x5_0, x5_1, x5_2, x5_3] 27 w4.heap.size w5.heap.size T) := X0_8.out.on hbb
      have X1_10 : Hid (ItmR ints.intsSp w10 [k6] w5b.heap.size w6.heap.size rs) := X1_8.out.on hbb
      have GR0_10 : Hid (ItmR ints.intsSp w10 [u7_0] w6.heap.size w7.heap.size (heap.reachF T rs)) := GR0_8.out.on hbb
      have BB10 : Hid (Below w.heap.size w w10) := BB8.out.trans (hbb.mono BB8.out.size)
      have L9 : Hid (w8.heap.size ≤ w10.heap.size) := hbb.size
      clear hb hb2 hbb r9 hcall cK00 cK01 cK02 cK03 cX00 cX01 cX02 cX03 cy0 cy1 cy2 cy3 K0_8 WR0_8 X0_8 X1_8 GR0_8 BB8
      go_wp2_with fail
      refine (ints.toPS_any rs _ _ HL1.out (AR1.out _ BB10.out)).mono ?_
      rintro e w11 ⟨⟨k11, rfl, r11⟩, hb⟩
      have K0_11 : Hid (BoxK w11 (w.heap.size) [a0_0, a0_1, a0_2, a0_3] 24) := K0_10.out.on hb
      have WR0_11 : Hid (ItmR ints.intsSp w11 [u4_0] w3.heap.size w4.heap.size (heap.reachF T rs)) := WR0_10.out.on hb
      have X0_11 : Hid (Itm heap.heapSp w11 w5.heap.size [x5_0, x5_1, x5_2, x5_3] 27 w4.heap.size w5.heap.size T) := X0_10.out.on hb
      have X1_11 : Hid (ItmR ints.intsSp w11 [k6] w5b.heap.size w6.heap.size rs) := X1_10.out.on hb
      have GR0_11 : Hid (ItmR ints.intsSp w11 [u7_0] w6.heap.size w7.heap.size (heap.reachF T rs)) := GR0_10.out.on hb
      have BB11 : Hid (Below w.heap.size w w11) := BB10.out.trans (hb.mono BB10.out.size)
      have L10 : Hid (w10.heap.size ≤ w11.heap.size) := hb.size
      have RT : Hid (ints.intsSh.rep w11 (· < w11.heap.size) [k11] rs) := ints.intsSh.mono (ints.intsp_rep r11) fun b hb => hb.2
      clear hb r11 K0_10 WR0_10 X0_10 X1_10 GR0_10 BB10
      go_wp2_with fail
      refine (ints.eq_any rs _ _ _ (ints.intsSh.mono (ints.intsp_rep X1_11.out.rep) fun b hb => by have := X1_11.out.top; have := L0.out; have := L1.out; have := L2.out; have := L3.out; have := L4.out; have := L5.out; have := L6.out; have := L7.out; have := L8.out; have := L9.out; have := L10.out; omega) RT.out).mono ?_
      rintro e w12 ⟨rfl, hb⟩
      have K0_12 : Hid (BoxK w12 (w.heap.size) [a0_0, a0_1, a0_2, a0_3] 24) := K0_11.out.on hb
      have WR0_12 : Hid (ItmR ints.intsSp w12 [u4_0] w3.heap.size w4.heap.size (heap.reachF T rs)) := WR0_11.out.on hb
      have X0_12 : Hid (Itm heap.heapSp w12 w5.heap.size [x5_0, x5_1, x5_2, x5_3] 27 w4.heap.size w5.heap.size T) := X0_11.out.on hb
      have X1_12 : Hid (ItmR ints.intsSp w12 [k6] w5b.heap.size w6.heap.size rs) := X1_11.out.on hb
      have GR0_12 : Hid (ItmR ints.intsSp w12 [u7_0] w6.heap.size w7.heap.size (heap.reachF T rs)) := GR0_11.out.on hb
      have BB12 : Hid (Below w.heap.size w w12) := BB11.out.trans (hb.mono BB11.out.size)
      have L11 : Hid (w11.heap.size ≤ w12.heap.size) := hb.size
      clear hb RT K0_11 WR0_11 X0_11 X1_11 GR0_11 BB11
      have hcn0 : heap.cntT T ≤ 1073741824 := heap.cntT_boundR T (by have := HW.out; omega)
      have cX00 : w12.cell? ⟨w5.heap.size, 0, none⟩ = some x5_0 := X0_12.out.cell 0 rfl
      have cX01 : w12.cell? ⟨w5.heap.size, 1, none⟩ = some x5_1 := X0_12.out.cell 1 rfl
      have cX02 : w12.cell? ⟨w5.heap.size, 2, none⟩ = some x5_2 := X0_12.out.cell 2 rfl
      have cX03 : w12.cell? ⟨w5.heap.size, 3, none⟩ = some x5_3 := X0_12.out.cell 3 rfl
      go_wp2_with fail
      refine (heap.markT_any T _ _ (1) (fun b => w4.heap.size ≤ b ∧ b < w5.heap.size) (by omega) (by omega) (fun b hb => by have := X0_12.out.top; have := L0.out; have := L1.out; have := L2.out; have := L3.out; have := L4.out; have := L5.out; have := L6.out; have := L7.out; have := L8.out; have := L9.out; have := L10.out; have := L11.out; omega) X0_12.out.rep).mono ?_
      rintro e w13 ⟨rfl, ho, -⟩
      clear cX00 cX01 cX02 cX03
      have K0_13 : Hid (BoxK w13 (w.heap.size) [a0_0, a0_1, a0_2, a0_3] 24) := K0_12.out.only ho (fun hq => by have := L0.out; have := L1.out; have := L2.out; have := L3.out; have := L4.out; have := L5.out; have := L6.out; have := L7.out; have := L8.out; have := L9.out; have := L10.out; have := L11.out; omega)
      have WR0_13 : Hid (ItmR ints.intsSp w13 [u4_0] w3.heap.size w4.heap.size (heap.reachF T rs)) := WR0_12.out.only ho (fun b h1 h2 hq => by have := L0.out; have := L1.out; have := L2.out; have := L3.out; have := L4.out; have := L5.out; have := L6.out; have := L7.out; have := L8.out; have := L9.out; have := L10.out; have := L11.out; omega)
      have X1_13 : Hid (ItmR ints.intsSp w13 [k6] w5b.heap.size w6.heap.size rs) := X1_12.out.only ho (fun b h1 h2 hq => by have := L0.out; have := L1.out; have := L2.out; have := L3.out; have := L4.out; have := L5.out; have := L6.out; have := L7.out; have := L8.out; have := L9.out; have := L10.out; have := L11.out; omega)
      have GR0_13 : Hid (ItmR ints.intsSp w13 [u7_0] w6.heap.size w7.heap.size (heap.reachF T rs)) := GR0_12.out.only ho (fun b h1 h2 hq => by have := L0.out; have := L1.out; have := L2.out; have := L3.out; have := L4.out; have := L5.out; have := L6.out; have := L7.out; have := L8.out; have := L9.out; have := L10.out; have := L11.out; omega)
      have BB13 : Hid (Below w.heap.size w w13) := BB12.out.trans (ho.below BB12.out.size fun b hb => by have := L0.out; have := L1.out; have := L2.out; have := L3.out; have := L4.out; have := L5.out; have := L6.out; have := L7.out; have := L8.out; have := L9.out; have := L10.out; have := L11.out; omega)
      have L12 : Hid (w12.heap.size ≤ w13.heap.size) := ho.size
      clear ho X0_12 K0_12 WR0_12 X1_12 GR0_12 BB12
      obtain ⟨n0, hn0⟩ : ∃ nz : Nat, nz = heap.cntT T := ⟨_, rfl⟩
      rw [← hn0] at hcn0 ⊢
      clear hn0
      go_wp2_with fail
      refine (ints.mark_any rs _ _ (1 + (n0 : Nat)) (fun b => w5b.heap.size ≤ b ∧ b < w6.heap.size) (by omega) (by omega) (fun b hb => by have := X1_13.out.top; have := L0.out; have := L1.out; have := L2.out; have := L3.out; have := L4.out; have := L5.out; have := L6.out; have := L7.out; have := L8.out; have := L9.out; have := L10.out; have := L11.out; have := L12.out; omega) X1_13.out.rep).mono ?_
      rintro e w14 ⟨rfl, -, ho⟩
      have K0_14 : Hid (BoxK w14 (w.heap.size) [a0_0, a0_1, a0_2, a0_3] 24) := K0_13.out.only ho (fun hq => by have := L0.out; have := L1.out; have := L2.out; have := L3.out; have := L4.out; have := L5.out; have := L6.out; have := L7.out; have := L8.out; have := L9.out; have := L10.out; have := L11.out; have := L12.out; omega)
      have WR0_14 : Hid (ItmR ints.intsSp w14 [u4_0] w3.heap.size w4.heap.size (heap.reachF T rs)) := WR0_13.out.only ho (fun b h1 h2 hq => by have := L0.out; have := L1.out; have := L2.out; have := L3.out; have := L4.out; have := L5.out; have := L6.out; have := L7.out; have := L8.out; have := L9.out; have := L10.out; have := L11.out; have := L12.out; omega)
      have GR0_14 : Hid (ItmR ints.intsSp w14 [u7_0] w6.heap.size w7.heap.size (heap.reachF T rs)) := GR0_13.out.only ho (fun b h1 h2 hq => by have := L0.out; have := L1.out; have := L2.out; have := L3.out; have := L4.out; have := L5.out; have := L6.out; have := L7.out; have := L8.out; have := L9.out; have := L10.out; have := L11.out; have := L12.out; omega)
      have BB14 : Hid (Below w.heap.size w w14) := BB13.out.trans (ho.below BB13.out.size fun b hb => by have := L0.out; have := L1.out; have := L2.out; have := L3.out; have := L4.out; have := L5.out; have := L6.out; have := L7.out; have := L8.out; have := L9.out; have := L10.out; have := L11.out; have := L12.out; omega)
      have L13 : Hid (w13.heap.size ≤ w14.heap.size) := ho.size
      clear ho X1_13 K0_13 WR0_13 GR0_13 BB13
      have t2 : decide (((1 : Int) + (n0 : Nat) + (rs.length : Nat) : Int) < 0) = false := by simp; omega
      go_wp2_with fail
      refine (ints.eq_any (heap.reachF T rs) _ _ _ (ints.intsSh.mono (ints.intsp_rep GR0_14.out.rep) fun b hb => by have := GR0_14.out.top; have := L0.out; have := L1.out; have := L2.out; have := L3.out; have := L4.out; have := L5.out; have := L6.out; have := L7.out; have := L8.out; have := L9.out; have := L10.out; have := L11.out; have := L12.out; have := L13.out; omega) (ints.intsSh.mono (ints.intsp_rep WR0_14.out.rep) fun b hb => by have := WR0_14.out.top; have := L0.out; have := L1.out; have := L2.out; have := L3.out; have := L4.out; have := L5.out; have := L6.out; have := L7.out; have := L8.out; have := L9.out; have := L10.out; have := L11.out; have := L12.out; have := L13.out; omega)).mono ?_
      rintro e w15 ⟨rfl, hb⟩
      have K0_15 : Hid (BoxK w15 (w.heap.size) [a0_0, a0_1, a0_2, a0_3] 24) := K0_14.out.on hb
      have WR0_15 : Hid (ItmR ints.intsSp w15 [u4_0] w3.heap.size w4.heap.size (heap.reachF T rs)) := WR0_14.out.on hb
      have GR0_15 : Hid (ItmR ints.intsSp w15 [u7_0] w6.heap.size w7.heap.size (heap.reachF T rs)) := GR0_14.out.on hb
      have BB15 : Hid (Below w.heap.size w w15) := BB14.out.trans (hb.mono BB14.out.size)
      have L14 : Hid (w14.heap.size ≤ w15.heap.size) := hb.size
      clear hb K0_14 WR0_14 GR0_14 BB14
      have hcg0 : (heap.reachF T rs).length ≤ 1073741824 := heap.reach_bound T rs
      go_wp2_with fail
      refine (ints.mark_any (heap.reachF T rs) _ _ (1) (fun b => w6.heap.size ≤ b ∧ b < w7.heap.size) (by omega) (by omega) (fun b hb => by have := GR0_15.out.top; have := L0.out; have := L1.out; have := L2.out; have := L3.out; have := L4.out; have := L5.out; have := L6.out; have := L7.out; have := L8.out; have := L9.out; have := L10.out; have := L11.out; have := L12.out; have := L13.out; have := L14.out; omega) GR0_15.out.rep).mono ?_
      rintro e w16 ⟨rfl, hr, ho⟩
      have K0_16 : Hid (BoxK w16 (w.heap.size) [a0_0, a0_1, a0_2, a0_3] 24) := K0_15.out.only ho (fun hq => by have := L0.out; have := L1.out; have := L2.out; have := L3.out; have := L4.out; have := L5.out; have := L6.out; have := L7.out; have := L8.out; have := L9.out; have := L10.out; have := L11.out; have := L12.out; have := L13.out; have := L14.out; omega)
      have WR0_16 : Hid (ItmR ints.intsSp w16 [u4_0] w3.heap.size w4.heap.size (heap.reachF T rs)) := WR0_15.out.only ho (fun b h1 h2 hq => by have := L0.out; have := L1.out; have := L2.out; have := L3.out; have := L4.out; have := L5.out; have := L6.out; have := L7.out; have := L8.out; have := L9.out; have := L10.out; have := L11.out; have := L12.out; have := L13.out; have := L14.out; omega)
      have BB16 : Hid (Below w.heap.size w w16) := BB15.out.trans (ho.below BB15.out.size fun b hb => by have := L0.out; have := L1.out; have := L2.out; have := L3.out; have := L4.out; have := L5.out; have := L6.out; have := L7.out; have := L8.out; have := L9.out; have := L10.out; have := L11.out; have := L12.out; have := L13.out; have := L14.out; omega)
      have L15 : Hid (w15.heap.size ≤ w16.heap.size) := ho.size
      have GR0_16 : Hid (ItmR ints.intsSh w16 [u7_0] w6.heap.size w7.heap.size (ints.mks 1 (heap.reachF T rs))) := ⟨Nat.le_trans GR0_15.out.top ho.size, ints.intsp_rep hr⟩
      clear ho hr GR0_15 K0_15 WR0_15 BB15
      obtain ⟨m0, hm0⟩ : ∃ nz : Nat, nz = (heap.reachF T rs).length := ⟨_, rfl⟩
      have HM0 : Hid (m0 = (heap.reachF T rs).length) := hm0
      rw [← hm0] at hcg0 ⊢
      clear hm0
      go_wp2_with fail
      refine (ints.held_any (heap.reachF T rs) _ _ (1) (by omega) (by rw [← HM0.out]; omega) (ints.intsSh.mono GR0_16.out.rep fun b hb => by have := GR0_16.out.top; have := L0.out; have := L1.out; have := L2.out; have := L3.out; have := L4.out; have := L5.out; have := L6.out; have := L7.out; have := L8.out; have := L9.out; have := L10.out; have := L11.out; have := L12.out; have := L13.out; have := L14.out; have := L15.out; omega)).mono ?_
      rw [← HM0.out]
      rintro e w17 ⟨rfl, hb⟩
      have K0_17 : Hid (BoxK w17 (w.heap.size) [a0_0, a0_1, a0_2, a0_3] 24) := K0_16.out.on hb
      have WR0_17 : Hid (ItmR ints.intsSp w17 [u4_0] w3.heap.size w4.heap.size (heap.reachF T rs)) := WR0_16.out.on hb
      have GR0_17 : Hid (ItmR ints.intsSh w17 [u7_0] w6.heap.size w7.heap.size (ints.mks 1 (heap.reachF T rs))) := GR0_16.out.on hb
      have BB17 : Hid (Below w.heap.size w w17) := BB16.out.trans (hb.mono BB16.out.size)
      have L16 : Hid (w16.heap.size ≤ w17.heap.size) := hb.size
      clear hb K0_16 WR0_16 GR0_16 BB16
      have t27 : decide (((1 : Int) + (m0 : Nat) : Int) < 0) = false := by simp; omega
      have cK00 : w17.cell? ⟨w.heap.size, 0, none⟩ = some a0_0 := K0_17.out.cell 0 rfl
      have cK01 : w17.cell? ⟨w.heap.size, 1, none⟩ = some a0_1 := K0_17.out.cell 1 rfl
      have cK02 : w17.cell? ⟨w.heap.size, 2, none⟩ = some a0_2 := K0_17.out.cell 2 rfl
      have cK03 : w17.cell? ⟨w.heap.size, 3, none⟩ = some a0_3 := K0_17.out.cell 3 rfl
      go_wp2_with fail
      refine (heap.toP_any T _ _ (by have := HW.out; omega) (AR0.out _ BB17.out)).mono ?_
      rintro e w18 ⟨⟨k18, rfl, r18⟩, hb⟩
      clear cK00 cK01 cK02 cK03
      have K0_18 : Hid (BoxK w18 (w.heap.size) [a0_0, a0_1, a0_2, a0_3] 24) := K0_17.out.on hb
      have WR0_18 : Hid (ItmR ints.intsSp w18 [u4_0] w3.heap.size w4.heap.size (heap.reachF T rs)) := WR0_17.out.on hb
      have GR0_18 : Hid (ItmR ints.intsSh w18 [u7_0] w6.heap.size w7.heap.size (ints.mks 1 (heap.reachF T rs))) := GR0_17.out.on hb
      have BB18 : Hid (Below w.heap.size w w18) := BB17.out.trans (hb.mono BB17.out.size)
      have HC0_18 : Hid (ItmR heap.heapSp w18 k18 w17.heap.size w18.heap.size T) := ⟨Nat.le_refl _, r18⟩
      have L17 : Hid (w17.heap.size ≤ w18.heap.size) := hb.size
      clear hb r18 K0_17 WR0_17 GR0_17 BB17
      go_wp2_with fail
      refine (ints.toPS_any rs _ _ HL1.out (AR1.out _ BB18.out)).mono ?_
      rintro e w19 ⟨⟨k19, rfl, r19⟩, hb⟩
      have K0_19 : Hid (BoxK w19 (w.heap.size) [a0_0, a0_1, a0_2, a0_3] 24) := K0_18.out.on hb
      have WR0_19 : Hid (ItmR ints.intsSp w19 [u4_0] w3.heap.size w4.heap.size (heap.reachF T rs)) := WR0_18.out.on hb
      have GR0_19 : Hid (ItmR ints.intsSh w19 [u7_0] w6.heap.size w7.heap.size (ints.mks 1 (heap.reachF T rs))) := GR0_18.out.on hb
      have HC0_19 : Hid (ItmR heap.heapSp w19 k18 w17.heap.size w18.heap.size T) := HC0_18.out.on hb
      have BB19 : Hid (Below w.heap.size w w19) := BB18.out.trans (hb.mono BB18.out.size)
      have HC1_19 : Hid (ItmR ints.intsSp w19 [k19] w18.heap.size w19.heap.size rs) := ⟨Nat.le_refl _, r19⟩
      have L18 : Hid (w18.heap.size ≤ w19.heap.size) := hb.size
      clear hb r19 K0_18 WR0_18 GR0_18 HC0_18 BB18
      go_wp2_with fail
      refine (heap.implReach_std T rs _ _ _ HW.out HL1.out (heap.heapSh.mono (heap.heapp_rep HC0_19.out.rep) fun b hb => by have := HC0_19.out.top; have := L0.out; have := L1.out; have := L2.out; have := L3.out; have := L4.out; have := L5.out; have := L6.out; have := L7.out; have := L8.out; have := L9.out; have := L10.out; have := L11.out; have := L12.out; have := L13.out; have := L14.out; have := L15.out; have := L16.out; have := L17.out; have := L18.out; omega) (ints.intsSh.mono (ints.intsp_rep HC1_19.out.rep) fun b hb => by have := HC1_19.out.top; have := L0.out; have := L1.out; have := L2.out; have := L3.out; have := L4.out; have := L5.out; have := L6.out; have := L7.out; have := L8.out; have := L9.out; have := L10.out; have := L11.out; have := L12.out; have := L13.out; have := L14.out; have := L15.out; have := L16.out; have := L17.out; have := L18.out; omega)).mono ?_
      rintro e w20 ⟨⟨u20_0, rfl, r20_0⟩, hb⟩
      have K0_20 : Hid (BoxK w20 (w.heap.size) [a0_0, a0_1, a0_2, a0_3] 24) := K0_19.out.on hb
      have WR0_20 : Hid (ItmR ints.intsSp w20 [u4_0] w3.heap.size w4.heap.size (heap.reachF T rs)) := WR0_19.out.on hb
      have GR0_20 : Hid (ItmR ints.intsSh w20 [u7_0] w6.heap.size w7.heap.size (ints.mks 1 (heap.reachF T rs))) := GR0_19.out.on hb
      have BB20 : Hid (Below w.heap.size w w20) := BB19.out.trans (hb.mono BB19.out.size)
      have L19 : Hid (w19.heap.size ≤ w20.heap.size) := hb.size
      have HR0_20 : Hid (ItmR ints.intsSp w20 [u20_0] w19.heap.size w20.heap.size (heap.reachF T rs)) := ⟨Nat.le_refl _, r20_0⟩
      clear hb r20_0 K0_19 WR0_19 GR0_19 BB19
      go_wp2_with fail
      refine (ints.eq_any (heap.reachF T rs) _ _ _ (ints.intsSh.mono (ints.intsp_rep HR0_20.out.rep) fun b hb => by have := HR0_20.out.top; have := L0.out; have := L1.out; have := L2.out; have := L3.out; have := L4.out; have := L5.out; have := L6.out; have := L7.out; have := L8.out; have := L9.out; have := L10.out; have := L11.out; have := L12.out; have := L13.out; have := L14.out; have := L15.out; have := L16.out; have := L17.out; have := L18.out; have := L19.out; omega) (ints.intsSh.mono (ints.intsp_rep WR0_20.out.rep) fun b hb => by have := WR0_20.out.top; have := L0.out; have := L1.out; have := L2.out; have := L3.out; have := L4.out; have := L5.out; have := L6.out; have := L7.out; have := L8.out; have := L9.out; have := L10.out; have := L11.out; have := L12.out; have := L13.out; have := L14.out; have := L15.out; have := L16.out; have := L17.out; have := L18.out; have := L19.out; omega)).mono ?_
      rintro e w21 ⟨rfl, hb⟩
      have K0_21 : Hid (BoxK w21 (w.heap.size) [a0_0, a0_1, a0_2, a0_3] 24) := K0_20.out.on hb
      have WR0_21 : Hid (ItmR ints.intsSp w21 [u4_0] w3.heap.size w4.heap.size (heap.reachF T rs)) := WR0_20.out.on hb
      have GR0_21 : Hid (ItmR ints.intsSh w21 [u7_0] w6.heap.size w7.heap.size (ints.mks 1 (heap.reachF T rs))) := GR0_20.out.on hb
      have HR0_21 : Hid (ItmR ints.intsSp w21 [u20_0] w19.heap.size w20.heap.size (heap.reachF T rs)) := HR0_20.out.on hb
      have BB21 : Hid (Below w.heap.size w w21) := BB20.out.trans (hb.mono BB20.out.size)
      have L20 : Hid (w20.heap.size ≤ w21.heap.size) := hb.size
      clear hb K0_20 WR0_20 GR0_20 HR0_20 BB20
      go_wp2_with fail
      refine (ints.held_any (heap.reachF T rs) _ _ (1) (by omega) (by rw [← HM0.out]; omega) (ints.intsSh.mono GR0_21.out.rep fun b hb => by have := GR0_21.out.top; have := L0.out; have := L1.out; have := L2.out; have := L3.out; have := L4.out; have := L5.out; have := L6.out; have := L7.out; have := L8.out; have := L9.out; have := L10.out; have := L11.out; have := L12.out; have := L13.out; have := L14.out; have := L15.out; have := L16.out; have := L17.out; have := L18.out; have := L19.out; have := L20.out; omega)).mono ?_
      rw [← HM0.out]
      rintro e w22 ⟨rfl, hb⟩
      have K0_22 : Hid (BoxK w22 (w.heap.size) [a0_0, a0_1, a0_2, a0_3] 24) := K0_21.out.on hb
      have WR0_22 : Hid (ItmR ints.intsSp w22 [u4_0] w3.heap.size w4.heap.size (heap.reachF T rs)) := WR0_21.out.on hb
      have GR0_22 : Hid (ItmR ints.intsSh w22 [u7_0] w6.heap.size w7.heap.size (ints.mks 1 (heap.reachF T rs))) := GR0_21.out.on hb
      have BB22 : Hid (Below w.heap.size w w22) := BB21.out.trans (hb.mono BB21.out.size)
      have L21 : Hid (w21.heap.size ≤ w22.heap.size) := hb.size
      clear hb K0_21 WR0_21 GR0_21 BB21
      have t32 : decide (((1 : Int) + (m0 : Nat) : Int) < 0) = false := by simp; omega
      go_wp2
      go_ret
      exact ⟨rfl, BB22.out⟩
  · have hl : left q0 (1048576) = -1 := by unfold left; rw [if_neg (by omega)]
    rw [hl]
    go_wp2
    go_ret
    exact ⟨rfl, BB1.out⟩

set_option maxRecDepth 100000 in
theorem lifted (os : Os) (started : os.Started) (H : Type) (enc : TypeId × Value → H) :
    ReturnsInHanded {} Try.checked os 3 .any (Rows.fnExactReachSpec.pre6 enc Try.prog Try.f3 Rows.fnExactReachRow.domain false) (Rows.fnExactReachSpec.post enc Try.prog Try.f3 false true false false) := by
  refine returnsInHanded_of_change (C := Try.checked) own started (by kernel_rfl) Try.func3
    (ChangeSpec.witness6 (enc := enc) (C := Try.checked) false ⟨#[], #[.agg #[.slice none 0 0, .int .i64 0, .int .i64 0, .int .i64 0], .slice none 0 0], []⟩ 8 (by kernel_rfl) (by kernel_rfl) (by kernel_rfl) (by kernel_rfl)) ?_
  intro W base args ds gs before hval0 hW hcnd _
  have hval : ∀ (j : Nat) t v, Try.f3.params[j]? = some t → args[j]? = some v → Value.okWide Try.prog W .any base t v := hval0
  have hW' := hW
  obtain ⟨p, q, hA0, hV, rfl, hfz, hnd⟩ := hW
  have hA : DataW.TrodAll enc Try.prog W 0 (fun _ => true) true Try.f3.params.toList args.toList ds p := hA0
  rw [Try.params3] at hA hval
  obtain ⟨v0, vs0, d0, ds0, p0, q0, hargs, rfl, rfl, h0, r0⟩ := trodAll_cons hA
  obtain ⟨v1, vs1, d1, ds1, p1, q1, rfl, rfl, rfl, h1, r1⟩ := trodAll_cons r0
  obtain ⟨rfl, rfl, rfl⟩ := trodAll_nil r1
  obtain rfl : args = #[v0, v1] := by cases args; simp_all
  obtain ⟨rfl, rfl⟩ := trodVars_none hV
  have k0 := h0
  have lt0 : ∀ x ∈ p0, x.block < W.heap.size := by obtain ⟨m, hm⟩ := k0; exact DataW.trod_lt m _ _ _ hm
  have k1 := h1
  have lt1 : ∀ x ∈ p1, x.block < W.heap.size := by obtain ⟨m, hm⟩ := k1; exact DataW.trod_lt m _ _ _ hm
  obtain ⟨cs0, T, rfl, hT0⟩ := heap.arg_heap (hval 0 24 v0 rfl rfl) h0
  obtain ⟨a1, len1, cap1, rfl⟩ := okWide_slice Try.underlying22 (hval 1 22 v1 rfl rfl)
  obtain ⟨rs, hT1⟩ : ∃ ks, ints.intsSh.rep W (· < W.heap.size) [.slice a1 len1 cap1] ks := by
    obtain ⟨fuel, hf⟩ := h1
    exact opens_ints (enc := enc) (w := W) fuel fuel _ _ (Nat.le_refl _) hf
  clear hA0 hval0
  refine (walk T rs cs0 _ W  hT0 hT1).mono fun e W' ⟨he, bel⟩ => ?_
  subst he
  exact ⟨_, rfl, _, _, _, [], _, [], hW', trodAll_mk1 (shut_bool Try.underlying4 _), (trodAll_cons_mk (Below.trod laidOut (by kernel_rfl) (of_decide_eq_true (by kernel_rfl)) k0 bel lt0) (trodAll_cons_mk (Below.trod laidOut (by kernel_rfl) (of_decide_eq_true (by kernel_rfl)) k1 bel lt1) trodAll_mk0)), rfl, bel.frame _, fun h => by cases h⟩

theorem over : Rows.fnExactReachRow.holds Try.pinned (OpenSpec.ofChange Rows.fnExactReachSpec) :=
  OpenClaim.holds_of_wide 3 Try.f3 rfl rfl rfl rfl rfl rfl rfl ⟨rfl, rfl, rfl, rfl, rfl⟩ rfl rfl rfl rfl rfl (by kernel_rfl) Try.func3 (by kernel_rfl)
    (of_decide_eq_true (by kernel_rfl)) (by unfold Func.isWrapper; first | (rw [if_pos (by decide +kernel)]; kernel_rfl) | (rw [if_neg (by decide +kernel)]; exact ⟨rfl, rfl⟩))
    (fun os started H enc _ => lifted os started H enc)

/-- THE STATEMENT. -/
theorem proved : Rows.FnExactReachSaid :=
  over
#print axioms proved
end Go.Proofs.Ytibjpdchdopigaa.fnExactReach
