/-
  At every argument the program's function answers as its model, writes nothing into an argument, and its answer owns its memory; the law's call returns true, and the arguments read as they read before. No condition.
-/
import Derived.Test.YtibjpdchdopigaaDoorCards
import Derived.Test.YtibjpdchdopigaaDoorTie
import Derived.WalkKit
import Derived.OpenShut
import Derived.LaidMore
import Derived.Stop.LaidErr
import Derived.OpenVars
import Derived.ProofKit
import Derived.Deep.DeepHandedRow
import Derived.ChangeOld
import Derived.Carry
import Derived.Test.YtibjpdchdopigaaDoorB1
import Derived.Test.YtibjpdchdopigaaDoorB2
import Derived.Test.YtibjpdchdopigaaDoorB3
import Derived.Test.YtibjpdchdopigaaDoorB4
import Derived.Test.YtibjpdchdopigaaDoorB5
import Derived.Test.YtibjpdchdopigaaDoorB6
import Derived.Test.YtibjpdchdopigaaDoorB7
import Derived.Test.YtibjpdchdopigaaDoorB8
import Derived.Test.YtibjpdchdopigaaDoorB9
import Derived.Test.YtibjpdchdopigaaDoorB10
import Derived.Test.YtibjpdchdopigaaDoorB11
import Derived.Test.YtibjpdchdopigaaDoorB12
import Derived.Test.YtibjpdchdopigaaDoorB13
import Derived.Test.YtibjpdchdopigaaDoorB14
import Derived.Test.YtibjpdchdopigaaDoorB15
import Derived.Test.YtibjpdchdopigaaDoorB16
import Derived.Test.YtibjpdchdopigaaDoorB17
import Derived.Test.YtibjpdchdopigaaDoorB18
import Derived.Test.YtibjpdchdopigaaDoorB19
import Derived.Test.YtibjpdchdopigaaDoorB20
import Derived.Test.YtibjpdchdopigaaDoorB21
import Derived.Test.YtibjpdchdopigaaDoorB22
namespace Go.Proofs.YtibjpdchdopigaaDoor.fnExactShape
open Go.ChangeShapes Go.WideShapes Go.ChangeAt Go.RowKit Go.Proofs.YtibjpdchdopigaaDoor.rose Go.Proofs.YtibjpdchdopigaaDoor
open Go.ChangeMaps (open_string shut_string)
set_option linter.unusedVariables false

theorem own : ownKnob Tryd.prog.godebug = none := by kernel_rfl
theorem laidOut : laidOutB Tryd.prog = true := by kernel_rfl

set_option maxRecDepth 100000 in
set_option maxHeartbeats 8000000 in
theorem walk (T : heap.HeapD) (rs : List Int) (cs0 : List Value) (va1 : Value) (w : World) (hN : «fun».Tab w) (h0 : heap.heapSh.rep w (· < w.heap.size) cs0 T) (h1 : ints.intsSh.rep w (· < w.heap.size) [va1] rs) :
    Calls Tryd.prog 3 #[.agg cs0.toArray, va1] w fun e w' => e = .returned (.bool true) ∧ Below w.heap.size w w' := by
  obtain ⟨a0_0, a0_1, a0_2, a0_3, rfl⟩ := heap.heap_list h0
  have oa0_0 := heap.heapSh.one h0 a0_0 (by simp)
  have oa0_1 := heap.heapSh.one h0 a0_1 (by simp)
  have oa0_2 := heap.heapSh.one h0 a0_2 (by simp)
  have oa0_3 := heap.heapSh.one h0 a0_3 (by simp)
  have AR0 : Hid (∀ W : World, Below w.heap.size w W → heap.heapSh.rep W (· < W.heap.size) [a0_0, a0_1, a0_2, a0_3] T) := fun W hb => heap.heapSh.mono (heap.heapSh.below h0 hb) fun b hlt => Nat.lt_of_lt_of_le hlt hb.size
  have AR1 : Hid (∀ W : World, Below w.heap.size w W → ints.intsSh.rep W (· < W.heap.size) [va1] rs) := fun W hb => ints.intsSh.mono (ints.intsSh.below h1 hb) fun b hlt => Nat.lt_of_lt_of_le hlt hb.size
  obtain ⟨ad1, cp1, hva1⟩ : ∃ a c, va1 = .slice a rs.length c := by obtain ⟨a, c, e⟩ := slice_cells h1; simp only [List.cons.injEq, and_true] at e; exact ⟨a, c, e⟩
  subst hva1
  clear h0
  clear h1
  have NS : Hid («fun».Tab w) := hN
  clear hN
  have BB0 : Hid (Below w.heap.size w (w.alloc (.cells #[a0_0, a0_1, a0_2, a0_3] 24))) := (Below.refl _ w).alloc (by simp) _
  have K0_0 : Hid (BoxK (w.alloc (.cells #[a0_0, a0_1, a0_2, a0_3] 24)) (w.heap.size) [a0_0, a0_1, a0_2, a0_3] 24) := ⟨by exact alloc_top _ _⟩
  by_cases hl1 : (1048576 : Int) < (rs.length : Int)
  · go_enter Tryd.func3, Tryd.ntmps3
    go_wp2
    go_ret
    exact ⟨rfl, BB0.out⟩
  have hs1 : (rs.length : Int) ≤ 1048576 := by omega
  have HL1 : Hid (rs.length ≤ 1048576) := by show _ ≤ _; omega
  go_enter Tryd.func3, Tryd.ntmps3
  go_wp2_with fail
  refine (heap.sz_any T _ _ 1048576 (by decide) (by decide) (AR0.out _ BB0.out)).mono ?_
  rintro e w1 ⟨rfl, hb⟩
  have K0_1 : Hid (BoxK w1 (w.heap.size) [a0_0, a0_1, a0_2, a0_3] 24) := K0_0.out.on hb
  have BB1 : Hid (Below w.heap.size w w1) := BB0.out.trans (hb.mono BB0.out.size)
  have L0 : Hid (w.heap.size + 1 ≤ w1.heap.size) := by have := hb.size; (try simp at this); show _ ≤ _; omega
  clear hb K0_0 BB0
  obtain ⟨q0, hq0⟩ : ∃ nz : Nat, nz = heap.wt T := ⟨_, rfl⟩
  rw [← hq0]
  have HQ0 : Hid (q0 = heap.wt T) := hq0
  clear hq0
  by_cases hw0 : q0 ≤ 1048576
  · have hl : left q0 (1048576) = 1048576 - (q0 : Nat) := by unfold left; rw [if_pos (by omega)]
    rw [hl]
    have t1 : decide (((1048576 : Int) - (q0 : Nat) : Int) < 0) = false := by simp; omega
    clear hl
    have HW : Hid ((heap.wt T) ≤ 1048576) := by have := HQ0.out; show _ ≤ _; omega
    have cK00 : w1.cell? ⟨w.heap.size, 0, none⟩ = some a0_0 := K0_1.out.cell 0 rfl
    have cK01 : w1.cell? ⟨w.heap.size, 1, none⟩ = some a0_1 := K0_1.out.cell 1 rfl
    have cK02 : w1.cell? ⟨w.heap.size, 2, none⟩ = some a0_2 := K0_1.out.cell 2 rfl
    have cK03 : w1.cell? ⟨w.heap.size, 3, none⟩ = some a0_3 := K0_1.out.cell 3 rfl
    go_wp2_with fail
    refine (heap.toP_any T _ _ (by have := HW.out; omega) (AR0.out _ BB1.out)).mono ?_
    rintro e w2 ⟨⟨k2, rfl, r2⟩, hb⟩
    clear cK00 cK01 cK02 cK03
    have K0_2 : Hid (BoxK w2 (w.heap.size) [a0_0, a0_1, a0_2, a0_3] 24) := K0_1.out.on hb
    have BB2 : Hid (Below w.heap.size w w2) := BB1.out.trans (hb.mono BB1.out.size)
    have WC0_2 : Hid (ItmR heap.heapSp w2 k2 w1.heap.size w2.heap.size T) := ⟨Nat.le_refl _, r2⟩
    have L1 : Hid (w1.heap.size ≤ w2.heap.size) := hb.size
    clear hb r2 K0_1 BB1
    go_wp2_with fail
    refine (ints.toPS_any rs _ _ HL1.out (AR1.out _ BB2.out)).mono ?_
    rintro e w3 ⟨⟨k3, rfl, r3⟩, hb⟩
    have K0_3 : Hid (BoxK w3 (w.heap.size) [a0_0, a0_1, a0_2, a0_3] 24) := K0_2.out.on hb
    have WC0_3 : Hid (ItmR heap.heapSp w3 k2 w1.heap.size w2.heap.size T) := WC0_2.out.on hb
    have BB3 : Hid (Below w.heap.size w w3) := BB2.out.trans (hb.mono BB2.out.size)
    have WC1_3 : Hid (ItmR ints.intsSp w3 [k3] w2.heap.size w3.heap.size rs) := ⟨Nat.le_refl _, r3⟩
    have L2 : Hid (w2.heap.size ≤ w3.heap.size) := hb.size
    clear hb r3 K0_2 WC0_2 BB2
    go_wp2_with fail
    refine (heap.specShape_std T rs _ _ _ HW.out HL1.out (heap.heapSh.mono (heap.heapp_rep WC0_3.out.rep) fun b hb => by have := WC0_3.out.top; have := L0.out; have := L1.out; have := L2.out; omega) (ints.intsSh.mono (ints.intsp_rep WC1_3.out.rep) fun b hb => by have := WC1_3.out.top; have := L0.out; have := L1.out; have := L2.out; omega)).mono ?_
    rintro e w4 ⟨rfl, hb⟩
    have K0_4 : Hid (BoxK w4 (w.heap.size) [a0_0, a0_1, a0_2, a0_3] 24) := K0_3.out.on hb
    have BB4 : Hid (Below w.heap.size w w4) := BB3.out.trans (hb.mono BB3.out.size)
    have L3 : Hid (w3.heap.size ≤ w4.heap.size) := hb.size
    clear hb K0_3 BB3
    have cK00 : w4.cell? ⟨w.heap.size, 0, none⟩ = some a0_0 := K0_4.out.cell 0 rfl
    have cK01 : w4.cell? ⟨w.heap.size, 1, none⟩ = some a0_1 := K0_4.out.cell 1 rfl
    have cK02 : w4.cell? ⟨w.heap.size, 2, none⟩ = some a0_2 := K0_4.out.cell 2 rfl
    have cK03 : w4.cell? ⟨w.heap.size, 3, none⟩ = some a0_3 := K0_4.out.cell 3 rfl
    go_wp2_with fail
    refine (heap.toP_any T _ _ (by have := HW.out; omega) (AR0.out _ BB4.out)).mono ?_
    rintro e w5 ⟨⟨k5, rfl, r5⟩, hb⟩
    clear cK00 cK01 cK02 cK03
    obtain ⟨x5_0, x5_1, x5_2, x5_3, rfl⟩ := heap.heap_list (heap.heapp_rep r5)
    have ox5_0 := heap.heapSp.one r5 x5_0 (by simp)
    have ox5_1 := heap.heapSp.one r5 x5_1 (by simp)
    have ox5_2 := heap.heapSp.one r5 x5_2 (by simp)
    have ox5_3 := heap.heapSp.one r5 x5_3 (by simp)
    have sox5_0 := fun (a : Addr) (m : Mode) (w : World) => run_store Tryd.prog w a x5_0 m ox5_0
    have sox5_1 := fun (a : Addr) (m : Mode) (w : World) => run_store Tryd.prog w a x5_1 m ox5_1
    have sox5_2 := fun (a : Addr) (m : Mode) (w : World) => run_store Tryd.prog w a x5_2 m ox5_2
    have sox5_3 := fun (a : Addr) (m : Mode) (w : World) => run_store Tryd.prog w a x5_3 m ox5_3
    obtain ⟨w5b, e5⟩ : ∃ x, x = w5.alloc (.cells #[x5_0, x5_1, x5_2, x5_3] 27) := ⟨_, rfl⟩
    have hA : Below w5.heap.size w5 w5b := by rw [e5]; exact (Below.refl _ _).alloc (Nat.le_refl _) _
    have z5 : w5b.heap.size = w5.heap.size + 1 := by rw [e5]; simp
    have K0_5 : Hid (BoxK w5b (w.heap.size) [a0_0, a0_1, a0_2, a0_3] 24) := (K0_4.out.on hb).on hA
    have BB5 : Hid (Below w.heap.size w w5b) := (BB4.out.trans (hb.mono BB4.out.size)).trans (hA.mono (Nat.le_trans BB4.out.size hb.size))
    have L4 : Hid (w4.heap.size ≤ w5.heap.size) := hb.size
    have L5 : Hid (w5.heap.size + 1 ≤ w5b.heap.size) := by show _ ≤ _; omega
    have X0_5 : Hid (Itm heap.heapSp w5b w5.heap.size [x5_0, x5_1, x5_2, x5_3] 27 w4.heap.size w5.heap.size T) := by rw [e5]; exact Itm.new r5 (Nat.le_refl _) rfl
    clear hb hA z5 r5 K0_4 BB4
    go_wp2_with fail
    rw [← e5]
    refine (ints.toPS_any rs _ _ HL1.out (AR1.out _ BB5.out)).mono ?_
    rintro e w6 ⟨⟨k6, rfl, r6⟩, hb⟩
    clear e5
    have K0_6 : Hid (BoxK w6 (w.heap.size) [a0_0, a0_1, a0_2, a0_3] 24) := K0_5.out.on hb
    have X0_6 : Hid (Itm heap.heapSp w6 w5.heap.size [x5_0, x5_1, x5_2, x5_3] 27 w4.heap.size w5.heap.size T) := X0_5.out.on hb
    have BB6 : Hid (Below w.heap.size w w6) := BB5.out.trans (hb.mono BB5.out.size)
    have L6 : Hid (w5b.heap.size ≤ w6.heap.size) := hb.size
    have X1_6 : Hid (ItmR ints.intsSp w6 [k6] w5b.heap.size w6.heap.size rs) := ⟨Nat.le_refl _, r6⟩
    clear hb r6 K0_5 X0_5 BB5
    have cX00 : w6.cell? ⟨w5.heap.size, 0, none⟩ = some x5_0 := X0_6.out.cell 0 rfl
    have cX01 : w6.cell? ⟨w5.heap.size, 1, none⟩ = some x5_1 := X0_6.out.cell 1 rfl
    have cX02 : w6.cell? ⟨w5.heap.size, 2, none⟩ = some x5_2 := X0_6.out.cell 2 rfl
    have cX03 : w6.cell? ⟨w5.heap.size, 3, none⟩ = some x5_3 := X0_6.out.cell 3 rfl
    go_wp2_with fail
    refine (heap.implShape T rs _ _ _ HW.out HL1.out (NS.out.on BB6.out) (heap.heapSh.mono (heap.heapp_rep X0_6.out.rep) fun b hb => by have := X0_6.out.top; have := L0.out; have := L1.out; have := L2.out; have := L3.out; have := L4.out; have := L5.out; have := L6.out; omega) (ints.intsSh.mono (ints.intsp_rep X1_6.out.rep) fun b hb => by have := X1_6.out.top; have := L0.out; have := L1.out; have := L2.out; have := L3.out; have := L4.out; have := L5.out; have := L6.out; omega)).mono ?_
    rintro e w7 ⟨rfl, hb⟩
    clear cX00 cX01 cX02 cX03
    have K0_7 : Hid (BoxK w7 (w.heap.size) [a0_0, a0_1, a0_2, a0_3] 24) := K0_6.out.on hb
    have X0_7 : Hid (Itm heap.heapSp w7 w5.heap.size [x5_0, x5_1, x5_2, x5_3] 27 w4.heap.size w5.heap.size T) := X0_6.out.on hb
    have X1_7 : Hid (ItmR ints.intsSp w7 [k6] w5b.heap.size w6.heap.size rs) := X1_6.out.on hb
    have BB7 : Hid (Below w.heap.size w w7) := BB6.out.trans (hb.mono BB6.out.size)
    have L7 : Hid (w6.heap.size ≤ w7.heap.size) := hb.size
    clear hb K0_6 X0_6 X1_6 BB6
    go_wp2
    have cK00 : w7.cell? ⟨w.heap.size, 0, none⟩ = some a0_0 := K0_7.out.cell 0 rfl
    have cK01 : w7.cell? ⟨w.heap.size, 1, none⟩ = some a0_1 := K0_7.out.cell 1 rfl
    have cK02 : w7.cell? ⟨w.heap.size, 2, none⟩ = some a0_2 := K0_7.out.cell 2 rfl
    have cK03 : w7.cell? ⟨w.heap.size, 3, none⟩ = some a0_3 := K0_7.out.cell 3 rfl
    have cX00 : w7.cell? ⟨w5.heap.size, 0, none⟩ = some x5_0 := X0_7.out.cell 0 rfl
    have cX01 : w7.cell? ⟨w5.heap.size, 1, none⟩ = some x5_1 := X0_7.out.cell 1 rfl
    have cX02 : w7.cell? ⟨w5.heap.size, 2, none⟩ = some x5_2 := X0_7.out.cell 2 rfl
    have cX03 : w7.cell? ⟨w5.heap.size, 3, none⟩ = some x5_3 := X0_7.out.cell 3 rfl
    have hcall := heap.toP_any T _ w7.drew (by have := HW.out; omega) (AR0.out _ BB7.out.drew)
    go_region_with (first | (go_at_call 6; refine hcall.mono ?_; rintro e w8 ⟨⟨k8, rfl, r8⟩, hb⟩; have cy0 := (hb.cell (p := ⟨w5.heap.size, 0, none⟩) (show w5.heap.size < w7.heap.size from X0_7.out.lt)).trans cX00; have cy1 := (hb.cell (p := ⟨w5.heap.size, 1, none⟩) (show w5.heap.size < w7.heap.size from X0_7.out.lt)).trans cX01; have cy2 := (hb.cell (p := ⟨w5.heap.size, 2, none⟩) (show w5.heap.size < w7.heap.size from X0_7.out.lt)).trans cX02; have cy3 := (hb.cell (p := ⟨w5.heap.size, 3, none⟩) (show w5.heap.size < w7.heap.size from X0_7.out.lt)).trans cX03) | (go_at_call 9; refine (heap.eq_any T [x5_0, x5_1, x5_2, x5_3] k8 _ (heap.heapSh.mono (heap.heapp_rep ((X0_7.out.on ((Below.refl _ w7).drew.trans hb)).rep)) (fun b hlt => by have := X0_7.out.top; have : w7.heap.size ≤ w8.heap.size := hb.size; omega)) (heap.heapSh.mono (heap.heapp_rep r8) fun b hlt => hlt.2)).mono ?_; rintro e w9 ⟨rfl, hb2⟩))
    all_goals
      have hbb : Below w7.heap.size w7 w9 := ((Below.refl _ w7).drew.trans hb).trans (hb2.mono hb.size)
      have K0_9 : Hid (BoxK w9 (w.heap.size) [a0_0, a0_1, a0_2, a0_3] 24) := K0_7.out.on hbb
      have X0_9 : Hid (Itm heap.heapSp w9 w5.heap.size [x5_0, x5_1, x5_2, x5_3] 27 w4.heap.size w5.heap.size T) := X0_7.out.on hbb
      have X1_9 : Hid (ItmR ints.intsSp w9 [k6] w5b.heap.size w6.heap.size rs) := X1_7.out.on hbb
      have BB9 : Hid (Below w.heap.size w w9) := BB7.out.trans (hbb.mono BB7.out.size)
      have L8 : Hid (w7.heap.size ≤ w9.heap.size) := hbb.size
      clear hb hb2 hbb r8 hcall cK00 cK01 cK02 cK03 cX00 cX01 cX02 cX03 cy0 cy1 cy2 cy3 K0_7 X0_7 X1_7 BB7
      go_wp2_with fail
      refine (ints.toPS_any rs _ _ HL1.out (AR1.out _ BB9.out)).mono ?_
      rintro e w10 ⟨⟨k10, rfl, r10⟩, hb⟩
      have K0_10 : Hid (BoxK w10 (w.heap.size) [a0_0, a0_1, a0_2, a0_3] 24) := K0_9.out.on hb
      have X0_10 : Hid (Itm heap.heapSp w10 w5.heap.size [x5_0, x5_1, x5_2, x5_3] 27 w4.heap.size w5.heap.size T) := X0_9.out.on hb
      have X1_10 : Hid (ItmR ints.intsSp w10 [k6] w5b.heap.size w6.heap.size rs) := X1_9.out.on hb
      have BB10 : Hid (Below w.heap.size w w10) := BB9.out.trans (hb.mono BB9.out.size)
      have L9 : Hid (w9.heap.size ≤ w10.heap.size) := hb.size
      have RT : Hid (ints.intsSh.rep w10 (· < w10.heap.size) [k10] rs) := ints.intsSh.mono (ints.intsp_rep r10) fun b hb => hb.2
      clear hb r10 K0_9 X0_9 X1_9 BB9
      go_wp2_with fail
      refine (ints.eq_any rs _ _ _ (ints.intsSh.mono (ints.intsp_rep X1_10.out.rep) fun b hb => by have := X1_10.out.top; have := L0.out; have := L1.out; have := L2.out; have := L3.out; have := L4.out; have := L5.out; have := L6.out; have := L7.out; have := L8.out; have := L9.out; omega) RT.out).mono ?_
      rintro e w11 ⟨rfl, hb⟩
      have K0_11 : Hid (BoxK w11 (w.heap.size) [a0_0, a0_1, a0_2, a0_3] 24) := K0_10.out.on hb
      have X0_11 : Hid (Itm heap.heapSp w11 w5.heap.size [x5_0, x5_1, x5_2, x5_3] 27 w4.heap.size w5.heap.size T) := X0_10.out.on hb
      have X1_11 : Hid (ItmR ints.intsSp w11 [k6] w5b.heap.size w6.heap.size rs) := X1_10.out.on hb
      have BB11 : Hid (Below w.heap.size w w11) := BB10.out.trans (hb.mono BB10.out.size)
      have L10 : Hid (w10.heap.size ≤ w11.heap.size) := hb.size
      clear hb RT K0_10 X0_10 X1_10 BB10
      go_wp2
      go_ret
      exact ⟨rfl, BB11.out⟩
  · have hl : left q0 (1048576) = -1 := by unfold left; rw [if_neg (by omega)]
    rw [hl]
    go_wp2
    go_ret
    exact ⟨rfl, BB1.out⟩

set_option maxRecDepth 100000 in
/-- WHAT THE WALKS GIVE, FOR EVERY ARGUMENT AND EVERY WORLD THAT HOLDS WHAT IS LISTED. -/
theorem contract (H : Type) (enc : TypeId × Value → H) (W : World) (base : Nat) (args : Array Value) (ds gs : List (DataW H)) (before : List MemPlace)
    (hval : ∀ (j : Nat) t v, Tryd.f3.params[j]? = some t → args[j]? = some v → Value.okWide Tryd.prog W .any base t v)
    (hW : DataW.Whole enc Tryd.prog Tryd.f3.params.toList Rows.fnExactShapeSpec.vars false W args.toList ds gs before) (hL : laidMetH Tryd.prog Rows.fnExactShapeRow.laid W) :
    Calls Tryd.prog 3 args W fun e W' => ∃ v, e = .returned v ∧ Rows.fnExactShapeSpec.post enc Tryd.prog Tryd.f3 false true false false W args v W' := by
  have hW' := hW
  obtain ⟨p, q, hA0, hV, rfl, hfz, hnd⟩ := hW
  have hA : DataW.TrodAll enc Tryd.prog W 0 (fun _ => true) true Tryd.f3.params.toList args.toList ds p := hA0
  rw [Tryd.params3] at hA hval
  obtain ⟨v0, vs0, d0, ds0, p0, q0, hargs, rfl, rfl, h0, r0⟩ := trodAll_cons hA
  obtain ⟨v1, vs1, d1, ds1, p1, q1, rfl, rfl, rfl, h1, r1⟩ := trodAll_cons r0
  obtain ⟨rfl, rfl, rfl⟩ := trodAll_nil r1
  obtain rfl : args = #[v0, v1] := by cases args; simp_all
  obtain ⟨rfl, rfl⟩ := trodVars_none hV
  have hN : «fun».Tab W := Lib.tabIs_of_head (rest := []) «fun».gPow «fun».gPowType Tryd.underlying126 Tryd.underlying113 «fun».cellsU64 «fun».cellsPow (laidMet.tail (laidMet.tail hL))
  have k0 := h0
  have lt0 : ∀ x ∈ p0, x.block < W.heap.size := by obtain ⟨m, hm⟩ := k0; exact DataW.trod_lt m _ _ _ hm
  have k1 := h1
  have lt1 : ∀ x ∈ p1, x.block < W.heap.size := by obtain ⟨m, hm⟩ := k1; exact DataW.trod_lt m _ _ _ hm
  obtain ⟨cs0, T, rfl, hT0⟩ := heap.arg_heap (hval 0 24 v0 rfl rfl) h0
  obtain ⟨a1, len1, cap1, rfl⟩ := okWide_slice Tryd.underlying22 (hval 1 22 v1 rfl rfl)
  obtain ⟨rs, hT1⟩ : ∃ ks, ints.intsSh.rep W (· < W.heap.size) [.slice a1 len1 cap1] ks := by
    obtain ⟨fuel, hf⟩ := h1
    exact opens_ints (enc := enc) (w := W) fuel fuel _ _ (Nat.le_refl _) hf
  clear hA0
  refine (walk T rs cs0 _ W hN hT0 hT1).mono fun e W' ⟨he, bel⟩ => ?_
  subst he
  exact ⟨_, rfl, _, _, _, [], _, [], hW', trodAll_mk1 (shut_bool Tryd.underlying4 _), (trodAll_cons_mk (Below.trod laidOut (by kernel_rfl) (of_decide_eq_true (by kernel_rfl)) k0 bel lt0) (trodAll_cons_mk (Below.trod laidOut (by kernel_rfl) (of_decide_eq_true (by kernel_rfl)) k1 bel lt1) trodAll_mk0)), rfl, bel.frame _, fun h => by cases h⟩

/-- A WORLD FOR THE WITNESS: the one that the program's own start leaves. -/
theorem laid_met (os : Os) : laidMet Tryd.prog Rows.fnExactShapeRow.laid ((World.doorLaid Tryd.prog 24 os).forCall (fun _ _ => 0) ⟨#[], #[.agg #[.slice none 0 0, .int .i64 0, .int .i64 0, .int .i64 0], .slice none 0 0], []⟩).memory :=
  laidMet_of_run' 8 (by kernel_rfl) (by kernel_rfl)
theorem reads (os : Os) {H : Type} (enc : TypeId × Value → H) : ∃ places, DataW.whole enc Tryd.prog ((World.doorLaid Tryd.prog 24 os).forCall (fun _ _ => 0) ⟨#[], #[.agg #[.slice none 0 0, .int .i64 0, .int .i64 0, .int .i64 0], .slice none 0 0], []⟩).memory Tryd.f3.params.toList Rows.fnExactShapeSpec.vars false #[Value.agg #[.slice none 0 0, .int .i64 0, .int .i64 0, .int .i64 0], Value.slice none 0 0].toList 8 = some ([.agg [.nil, .lit (.int .i64 0), .lit (.int .i64 0), .lit (.int .i64 0)], .nil], [], places) :=
  ⟨[], by kernel_rfl⟩

set_option maxRecDepth 100000 in
theorem lifted (os : Os) (started : os.Started) (H : Type) (enc : TypeId × Value → H) (F : Stop.Interp) :
    ReturnsInHanded {} Tryd.checked os 3 .any ((OpenSpec.ofChange Rows.fnExactShapeSpec).preRow enc Tryd.prog Tryd.f3 Rows.fnExactShapeRow.domain false Rows.fnExactShapeRow.laid) (((OpenSpec.ofChange Rows.fnExactShapeSpec).at F).post enc Tryd.prog Tryd.f3 false true false false) := by
  obtain ⟨places, hx⟩ := reads os enc
  refine returnsInHanded_of_row (C := Tryd.checked) (s := OpenSpec.ofChange Rows.fnExactShapeSpec) own started (by kernel_rfl) Tryd.func3
    (witness_row_at (enc := enc) (C := Tryd.checked) false (World.doorLaid Tryd.prog 24 os) #[.agg #[.slice none 0 0, .int .i64 0, .int .i64 0, .int .i64 0], .slice none 0 0] rfl (by kernel_rfl) (by kernel_rfl) (by kernel_rfl)
      (OpenSpec.preRow_of_cond 8 hx (by kernel_rfl) (fun k hk => by cases hk) (by kernel_rfl) (laid_met os))) ?_
  intro W base args ds gs before hval hW _ _ _ hL _ _
  exact contract H enc W base args ds gs before hval hW hL

theorem said : Rows.FnExactShapeSaid :=
  OpenClaim.holds_of_cond 3 Tryd.f3 rfl rfl rfl rfl rfl rfl rfl ⟨rfl, rfl, rfl, rfl, rfl⟩ rfl rfl rfl rfl rfl (by kernel_rfl) Tryd.func3 (by kernel_rfl)
    (of_decide_eq_true (by kernel_rfl)) (by unfold Func.isWrapper; first | (rw [if_pos (by decide +kernel)]; kernel_rfl) | (rw [if_neg (by decide +kernel)]; exact ⟨rfl, rfl⟩))
    (fun os started H enc _ F => by rw [OpenClaim.pre_eq_preRow]; exact lifted os started H enc F)

theorem plain (f : FuncId) (fn : Func) (hf : Tryd.pinned.checked.prog.funcNamed "loop.example/g00323/laws.FnExactShape" = some f) (hfn : Tryd.pinned.checked.prog.funcs[f]? = some fn) :
    false = Tryd.pinned.checked.prog.looks [] ∧ ∀ (j : Nat) t, fn.params[j]? = some t → Tryd.pinned.checked.prog.wantsStandIn t = false := by
  obtain rfl : f = 3 := Option.some.inj ((show Tryd.prog.funcNamed "loop.example/g00323/laws.FnExactShape" = some 3 by kernel_rfl).symm.trans hf) |>.symm
  obtain rfl : fn = Tryd.f3 := (Option.some.inj (Tryd.func3.symm.trans hfn)).symm
  refine ⟨by kernel_rfl, fun j t ht => ?_⟩
  rw [Tryd.params3] at ht
  have hm := Array.mem_of_getElem? ht
  simp only [List.mem_toArray, List.mem_cons, List.mem_nil_iff, or_false] at hm
  rcases hm with rfl | rfl
  · exact (show Tryd.prog.wantsStandIn 24 = false by kernel_rfl)
  · exact (show Tryd.prog.wantsStandIn 22 = false by kernel_rfl)

/-- THE CARD. -/
theorem card : Rows.FnExactShapeCardSaid :=
  Claim7.holds_tied_plain_at .later [] _ _ _ _ said (fun _ h => by cases h) (by kernel_rfl) (fun _ h => by cases h) fnExactShape_row_tie rfl ⟨rfl, rfl⟩ (by kernel_rfl) rfl plain (by kernel_rfl)
#print axioms card
end Go.Proofs.YtibjpdchdopigaaDoor.fnExactShape
