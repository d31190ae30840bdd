/-
  At every argument the program's function answers as its model, writes nothing into an argument, and its answer owns its memory; the law's call returns true, and the arguments read as they read before. No condition.
-/
import Derived.Test.YtempmfpnngbbeabRows
import Derived.ProofKit
import Derived.Deep.DeepHandedRow
import Derived.ChangeOld
import Derived.Carry
import Derived.Test.YtempmfpnngbbeabB1
import Derived.Test.YtempmfpnngbbeabB2
import Derived.Test.YtempmfpnngbbeabB3
import Derived.Test.YtempmfpnngbbeabB4
import Derived.Test.YtempmfpnngbbeabB5
import Derived.Test.YtempmfpnngbbeabB6
import Derived.Test.YtempmfpnngbbeabB7
import Derived.Test.YtempmfpnngbbeabB8
import Derived.Test.YtempmfpnngbbeabB9
import Derived.Test.YtempmfpnngbbeabB10
import Derived.Test.YtempmfpnngbbeabB11
import Derived.Test.YtempmfpnngbbeabB12
import Derived.Test.YtempmfpnngbbeabB13
import Derived.Test.YtempmfpnngbbeabB14
import Derived.Test.YtempmfpnngbbeabB15
import Derived.Test.YtempmfpnngbbeabB16
import Derived.Test.YtempmfpnngbbeabB17
import Derived.Test.YtempmfpnngbbeabB18
import Derived.Test.YtempmfpnngbbeabB19
import Derived.Test.YtempmfpnngbbeabB20
import Derived.Test.YtempmfpnngbbeabB21
import Derived.Test.YtempmfpnngbbeabB22
import Derived.Test.YtempmfpnngbbeabB23
import Derived.Test.YtempmfpnngbbeabB24
import Derived.Test.YtempmfpnngbbeabB25
import Derived.Test.YtempmfpnngbbeabB26
namespace Go.Proofs.Ytempmfpnngbbeab.fnExactAlloc
open Go.ChangeShapes Go.WideShapes Go.ChangeAt Go.RowKit Go.Proofs.Ytempmfpnngbbeab.rose Go.Proofs.Ytempmfpnngbbeab
open Go.ChangeMaps (open_string shut_string)
set_option linter.unusedVariables false

theorem own : ownKnob Try.prog.godebug = none := by kernel_rfl
theorem laidOut : laidOutB Try.prog = true := by kernel_rfl

set_option maxRecDepth 100000 in
set_option maxHeartbeats 8000000 in
theorem walk (T : heap.HeapD) (fn : Bool) (tag : Int) (kids : List Int) (cs0 : List Value) (va3 : Value) (w : World) (hi2 : -9223372036854775808 ≤ tag) (hj2 : tag ≤ 9223372036854775807) (h0 : heap.heapSh.rep w (· < w.heap.size) cs0 T) (h3 : ints.intsSh.rep w (· < w.heap.size) [va3] kids) :
    Calls Try.prog 5 #[.agg cs0.toArray, .bool fn, .int .i64 tag, va3] w fun e w' => e = .returned (.bool true) ∧ Below w.heap.size w w' := by
  obtain ⟨a0_0, a0_1, a0_2, a0_3, rfl⟩ := heap.heap_list h0
  have oa0_0 := heap.heapSh.one h0 a0_0 (by simp)
  have oa0_1 := heap.heapSh.one h0 a0_1 (by simp)
  have oa0_2 := heap.heapSh.one h0 a0_2 (by simp)
  have oa0_3 := heap.heapSh.one h0 a0_3 (by simp)
  have AR0 : Hid (∀ W : World, Below w.heap.size w W → heap.heapSh.rep W (· < W.heap.size) [a0_0, a0_1, a0_2, a0_3] T) := fun W hb => heap.heapSh.mono (heap.heapSh.below h0 hb) fun b hlt => Nat.lt_of_lt_of_le hlt hb.size
  have AR3 : Hid (∀ W : World, Below w.heap.size w W → ints.intsSh.rep W (· < W.heap.size) [va3] kids) := fun W hb => ints.intsSh.mono (ints.intsSh.below h3 hb) fun b hlt => Nat.lt_of_lt_of_le hlt hb.size
  obtain ⟨ad3, cp3, hva3⟩ : ∃ a c, va3 = .slice a kids.length c := by obtain ⟨a, c, e⟩ := slice_cells h3; simp only [List.cons.injEq, and_true] at e; exact ⟨a, c, e⟩
  subst hva3
  clear h0
  clear h3
  have BB0 : Hid (Below w.heap.size w (w.alloc (.cells #[a0_0, a0_1, a0_2, a0_3] 24))) := (Below.refl _ w).alloc (by simp) _
  have K0_0 : Hid (BoxK (w.alloc (.cells #[a0_0, a0_1, a0_2, a0_3] 24)) (w.heap.size) [a0_0, a0_1, a0_2, a0_3] 24) := ⟨by exact alloc_top _ _⟩
  by_cases hl3 : (1048576 : Int) < (kids.length : Int)
  · go_enter Try.func5, Try.ntmps5
    go_wp2
    go_ret
    exact ⟨rfl, BB0.out⟩
  have hs3 : (kids.length : Int) ≤ 1048576 := by omega
  have HL3 : Hid (kids.length ≤ 1048576) := by show _ ≤ _; omega
  go_enter Try.func5, Try.ntmps5
  go_wp2_with fail
  refine (heap.sz_any T _ _ 1048576 (by decide) (by decide) (AR0.out _ BB0.out)).mono ?_
  rintro e w1 ⟨rfl, hb⟩
  have K0_1 : Hid (BoxK w1 (w.heap.size) [a0_0, a0_1, a0_2, a0_3] 24) := K0_0.out.on hb
  have BB1 : Hid (Below w.heap.size w w1) := BB0.out.trans (hb.mono BB0.out.size)
  have L0 : Hid (w.heap.size + 1 ≤ w1.heap.size) := by have := hb.size; (try simp at this); show _ ≤ _; omega
  clear hb K0_0 BB0
  obtain ⟨q0, hq0⟩ : ∃ nz : Nat, nz = heap.wt T := ⟨_, rfl⟩
  rw [← hq0]
  have HQ0 : Hid (q0 = heap.wt T) := hq0
  clear hq0
  by_cases hw0 : q0 ≤ 1048576
  · have hl : left q0 (1048576) = 1048576 - (q0 : Nat) := by unfold left; rw [if_pos (by omega)]
    rw [hl]
    have t1 : decide (((1048576 : Int) - (q0 : Nat) : Int) < 0) = false := by simp; omega
    clear hl
    have HW : Hid ((heap.wt T) ≤ 1048576) := by have := HQ0.out; show _ ≤ _; omega
    have cK00 : w1.cell? ⟨w.heap.size, 0, none⟩ = some a0_0 := K0_1.out.cell 0 rfl
    have cK01 : w1.cell? ⟨w.heap.size, 1, none⟩ = some a0_1 := K0_1.out.cell 1 rfl
    have cK02 : w1.cell? ⟨w.heap.size, 2, none⟩ = some a0_2 := K0_1.out.cell 2 rfl
    have cK03 : w1.cell? ⟨w.heap.size, 3, none⟩ = some a0_3 := K0_1.out.cell 3 rfl
    go_wp2_with fail
    refine (heap.toP_any T _ _ (by have := HW.out; omega) (AR0.out _ BB1.out)).mono ?_
    rintro e w2 ⟨⟨k2, rfl, r2⟩, hb⟩
    clear cK00 cK01 cK02 cK03
    have K0_2 : Hid (BoxK w2 (w.heap.size) [a0_0, a0_1, a0_2, a0_3] 24) := K0_1.out.on hb
    have BB2 : Hid (Below w.heap.size w w2) := BB1.out.trans (hb.mono BB1.out.size)
    have WC0_2 : Hid (ItmR heap.heapSp w2 k2 w1.heap.size w2.heap.size T) := ⟨Nat.le_refl _, r2⟩
    have L1 : Hid (w1.heap.size ≤ w2.heap.size) := hb.size
    clear hb r2 K0_1 BB1
    go_wp2_with fail
    refine (ints.toPS_any kids _ _ HL3.out (AR3.out _ BB2.out)).mono ?_
    rintro e w3 ⟨⟨k3, rfl, r3⟩, hb⟩
    have K0_3 : Hid (BoxK w3 (w.heap.size) [a0_0, a0_1, a0_2, a0_3] 24) := K0_2.out.on hb
    have WC0_3 : Hid (ItmR heap.heapSp w3 k2 w1.heap.size w2.heap.size T) := WC0_2.out.on hb
    have BB3 : Hid (Below w.heap.size w w3) := BB2.out.trans (hb.mono BB2.out.size)
    have WC3_3 : Hid (ItmR ints.intsSp w3 [k3] w2.heap.size w3.heap.size kids) := ⟨Nat.le_refl _, r3⟩
    have L2 : Hid (w2.heap.size ≤ w3.heap.size) := hb.size
    clear hb r3 K0_2 WC0_2 BB2
    go_wp2_with fail
    refine (heap.specAlloc T fn tag kids _ _ _ HW.out HL3.out hi2 hj2 (heap.heapSh.mono (heap.heapp_rep WC0_3.out.rep) fun b hb => by have := WC0_3.out.top; have := L0.out; have := L1.out; have := L2.out; omega) (ints.intsSh.mono (ints.intsp_rep WC3_3.out.rep) fun b hb => by have := WC3_3.out.top; have := L0.out; have := L1.out; have := L2.out; omega)).mono ?_
    rintro e w4 ⟨⟨u4_0, rfl, r4_0⟩, hb⟩
    obtain ⟨w4_0, w4_1, w4_2, w4_3, rfl⟩ := heap.heap_list (heap.heapp_rep r4_0)
    have ow4_0 := heap.heapSp.one r4_0 w4_0 (by simp)
    have ow4_1 := heap.heapSp.one r4_0 w4_1 (by simp)
    have ow4_2 := heap.heapSp.one r4_0 w4_2 (by simp)
    have ow4_3 := heap.heapSp.one r4_0 w4_3 (by simp)
    have sow4_0 := fun (a : Addr) (m : Mode) (w : World) => run_store Try.prog w a w4_0 m ow4_0
    have sow4_1 := fun (a : Addr) (m : Mode) (w : World) => run_store Try.prog w a w4_1 m ow4_1
    have sow4_2 := fun (a : Addr) (m : Mode) (w : World) => run_store Try.prog w a w4_2 m ow4_2
    have sow4_3 := fun (a : Addr) (m : Mode) (w : World) => run_store Try.prog w a w4_3 m ow4_3
    obtain ⟨w4b, e4⟩ : ∃ x, x = w4.alloc (.cells #[w4_0, w4_1, w4_2, w4_3] 27) := ⟨_, rfl⟩
    have hA : Below w4.heap.size w4 w4b := by rw [e4]; exact (Below.refl _ _).alloc (Nat.le_refl _) _
    have z4 : w4b.heap.size = w4.heap.size + 1 := by rw [e4]; simp
    have K0_4 : Hid (BoxK w4b (w.heap.size) [a0_0, a0_1, a0_2, a0_3] 24) := (K0_3.out.on hb).on hA
    have BB4 : Hid (Below w.heap.size w w4b) := (BB3.out.trans (hb.mono BB3.out.size)).trans (hA.mono (Nat.le_trans BB3.out.size hb.size))
    have L3 : Hid (w3.heap.size ≤ w4.heap.size) := hb.size
    have L4 : Hid (w4.heap.size + 1 ≤ w4b.heap.size) := by show _ ≤ _; omega
    have WR0_4 : Hid (Itm heap.heapSp w4b w4.heap.size [w4_0, w4_1, w4_2, w4_3] 27 w3.heap.size w4.heap.size (heap.allocF T fn tag kids).1) := by rw [e4]; exact Itm.new r4_0 (Nat.le_refl _) rfl
    clear hb hA z4 r4_0 K0_3 BB3
    have cK00 : (w4.alloc (.cells #[w4_0, w4_1, w4_2, w4_3] 27)).cell? ⟨w.heap.size, 0, none⟩ = some a0_0 := by have := K0_4.out.cell 0 (v := a0_0) rfl; rwa [e4] at this
    have cK01 : (w4.alloc (.cells #[w4_0, w4_1, w4_2, w4_3] 27)).cell? ⟨w.heap.size, 1, none⟩ = some a0_1 := by have := K0_4.out.cell 1 (v := a0_1) rfl; rwa [e4] at this
    have cK02 : (w4.alloc (.cells #[w4_0, w4_1, w4_2, w4_3] 27)).cell? ⟨w.heap.size, 2, none⟩ = some a0_2 := by have := K0_4.out.cell 2 (v := a0_2) rfl; rwa [e4] at this
    have cK03 : (w4.alloc (.cells #[w4_0, w4_1, w4_2, w4_3] 27)).cell? ⟨w.heap.size, 3, none⟩ = some a0_3 := by have := K0_4.out.cell 3 (v := a0_3) rfl; rwa [e4] at this
    go_wp2_with fail
    rw [← e4]
    refine (heap.toP_any T _ _ (by have := HW.out; omega) (AR0.out _ BB4.out)).mono ?_
    rintro e w5 ⟨⟨k5, rfl, r5⟩, hb⟩
    clear cK00 cK01 cK02 cK03 e4
    obtain ⟨x5_0, x5_1, x5_2, x5_3, rfl⟩ := heap.heap_list (heap.heapp_rep r5)
    have ox5_0 := heap.heapSp.one r5 x5_0 (by simp)
    have ox5_1 := heap.heapSp.one r5 x5_1 (by simp)
    have ox5_2 := heap.heapSp.one r5 x5_2 (by simp)
    have ox5_3 := heap.heapSp.one r5 x5_3 (by simp)
    have sox5_0 := fun (a : Addr) (m : Mode) (w : World) => run_store Try.prog w a x5_0 m ox5_0
    have sox5_1 := fun (a : Addr) (m : Mode) (w : World) => run_store Try.prog w a x5_1 m ox5_1
    have sox5_2 := fun (a : Addr) (m : Mode) (w : World) => run_store Try.prog w a x5_2 m ox5_2
    have sox5_3 := fun (a : Addr) (m : Mode) (w : World) => run_store Try.prog w a x5_3 m ox5_3
    obtain ⟨w5b, e5⟩ : ∃ x, x = w5.alloc (.cells #[x5_0, x5_1, x5_2, x5_3] 27) := ⟨_, rfl⟩
    have hA : Below w5.heap.size w5 w5b := by rw [e5]; exact (Below.refl _ _).alloc (Nat.le_refl _) _
    have z5 : w5b.heap.size = w5.heap.size + 1 := by rw [e5]; simp
    have K0_5 : Hid (BoxK w5b (w.heap.size) [a0_0, a0_1, a0_2, a0_3] 24) := (K0_4.out.on hb).on hA
    have WR0_5 : Hid (Itm heap.heapSp w5b w4.heap.size [w4_0, w4_1, w4_2, w4_3] 27 w3.heap.size w4.heap.size (heap.allocF T fn tag kids).1) := (WR0_4.out.on hb).on hA
    have BB5 : Hid (Below w.heap.size w w5b) := (BB4.out.trans (hb.mono BB4.out.size)).trans (hA.mono (Nat.le_trans BB4.out.size hb.size))
    have L5 : Hid (w4b.heap.size ≤ w5.heap.size) := hb.size
    have L6 : Hid (w5.heap.size + 1 ≤ w5b.heap.size) := by show _ ≤ _; omega
    have X0_5 : Hid (Itm heap.heapSp w5b w5.heap.size [x5_0, x5_1, x5_2, x5_3] 27 w4b.heap.size w5.heap.size T) := by rw [e5]; exact Itm.new r5 (Nat.le_refl _) rfl
    clear hb hA z5 r5 K0_4 WR0_4 BB4
    go_wp2_with fail
    rw [← e5]
    refine (ints.toPS_any kids _ _ HL3.out (AR3.out _ BB5.out)).mono ?_
    rintro e w6 ⟨⟨k6, rfl, r6⟩, hb⟩
    clear e5
    have K0_6 : Hid (BoxK w6 (w.heap.size) [a0_0, a0_1, a0_2, a0_3] 24) := K0_5.out.on hb
    have WR0_6 : Hid (Itm heap.heapSp w6 w4.heap.size [w4_0, w4_1, w4_2, w4_3] 27 w3.heap.size w4.heap.size (heap.allocF T fn tag kids).1) := WR0_5.out.on hb
    have X0_6 : Hid (Itm heap.heapSp w6 w5.heap.size [x5_0, x5_1, x5_2, x5_3] 27 w4b.heap.size w5.heap.size T) := X0_5.out.on hb
    have BB6 : Hid (Below w.heap.size w w6) := BB5.out.trans (hb.mono BB5.out.size)
    have L7 : Hid (w5b.heap.size ≤ w6.heap.size) := hb.size
    have X3_6 : Hid (ItmR ints.intsSp w6 [k6] w5b.heap.size w6.heap.size kids) := ⟨Nat.le_refl _, r6⟩
    clear hb r6 K0_5 WR0_5 X0_5 BB5
    have cX00 : w6.cell? ⟨w5.heap.size, 0, none⟩ = some x5_0 := X0_6.out.cell 0 rfl
    have cX01 : w6.cell? ⟨w5.heap.size, 1, none⟩ = some x5_1 := X0_6.out.cell 1 rfl
    have cX02 : w6.cell? ⟨w5.heap.size, 2, none⟩ = some x5_2 := X0_6.out.cell 2 rfl
    have cX03 : w6.cell? ⟨w5.heap.size, 3, none⟩ = some x5_3 := X0_6.out.cell 3 rfl
    go_wp2_with fail
    refine (heap.implAlloc T fn tag kids _ _ _ HW.out HL3.out hi2 hj2 (heap.heapSh.mono (heap.heapp_rep X0_6.out.rep) fun b hb => by have := X0_6.out.top; have := L0.out; have := L1.out; have := L2.out; have := L3.out; have := L4.out; have := L5.out; have := L6.out; have := L7.out; omega) (ints.intsSh.mono (ints.intsp_rep X3_6.out.rep) fun b hb => by have := X3_6.out.top; have := L0.out; have := L1.out; have := L2.out; have := L3.out; have := L4.out; have := L5.out; have := L6.out; have := L7.out; omega)).mono ?_
    rintro e w7 ⟨⟨u7_0, rfl, r7_0⟩, hb⟩
    clear cX00 cX01 cX02 cX03
    obtain ⟨g7_0, g7_1, g7_2, g7_3, rfl⟩ := heap.heap_list (heap.heapp_rep r7_0)
    have og7_0 := heap.heapSp.one r7_0 g7_0 (by simp)
    have og7_1 := heap.heapSp.one r7_0 g7_1 (by simp)
    have og7_2 := heap.heapSp.one r7_0 g7_2 (by simp)
    have og7_3 := heap.heapSp.one r7_0 g7_3 (by simp)
    have sog7_0 := fun (a : Addr) (m : Mode) (w : World) => run_store Try.prog w a g7_0 m og7_0
    have sog7_1 := fun (a : Addr) (m : Mode) (w : World) => run_store Try.prog w a g7_1 m og7_1
    have sog7_2 := fun (a : Addr) (m : Mode) (w : World) => run_store Try.prog w a g7_2 m og7_2
    have sog7_3 := fun (a : Addr) (m : Mode) (w : World) => run_store Try.prog w a g7_3 m og7_3
    obtain ⟨w7b, e7⟩ : ∃ x, x = w7.alloc (.cells #[g7_0, g7_1, g7_2, g7_3] 27) := ⟨_, rfl⟩
    have hA : Below w7.heap.size w7 w7b := by rw [e7]; exact (Below.refl _ _).alloc (Nat.le_refl _) _
    have z7 : w7b.heap.size = w7.heap.size + 1 := by rw [e7]; simp
    have K0_7 : Hid (BoxK w7b (w.heap.size) [a0_0, a0_1, a0_2, a0_3] 24) := (K0_6.out.on hb).on hA
    have WR0_7 : Hid (Itm heap.heapSp w7b w4.heap.size [w4_0, w4_1, w4_2, w4_3] 27 w3.heap.size w4.heap.size (heap.allocF T fn tag kids).1) := (WR0_6.out.on hb).on hA
    have X0_7 : Hid (Itm heap.heapSp w7b w5.heap.size [x5_0, x5_1, x5_2, x5_3] 27 w4b.heap.size w5.heap.size T) := (X0_6.out.on hb).on hA
    have X3_7 : Hid (ItmR ints.intsSp w7b [k6] w5b.heap.size w6.heap.size kids) := (X3_6.out.on hb).on hA
    have BB7 : Hid (Below w.heap.size w w7b) := (BB6.out.trans (hb.mono BB6.out.size)).trans (hA.mono (Nat.le_trans BB6.out.size hb.size))
    have L8 : Hid (w6.heap.size ≤ w7.heap.size) := hb.size
    have L9 : Hid (w7.heap.size + 1 ≤ w7b.heap.size) := by show _ ≤ _; omega
    have GR0_7 : Hid (Itm heap.heapSp w7b w7.heap.size [g7_0, g7_1, g7_2, g7_3] 27 w6.heap.size w7.heap.size (heap.allocF T fn tag kids).1) := by rw [e7]; exact Itm.new r7_0 (Nat.le_refl _) rfl
    clear hb hA z7 r7_0 K0_6 WR0_6 X0_6 X3_6 BB6
    have cGR00 : (w7.alloc (.cells #[g7_0, g7_1, g7_2, g7_3] 27)).cell? ⟨w7.heap.size, 0, none⟩ = some g7_0 := by have := GR0_7.out.cell 0 (v := g7_0) rfl; rwa [e7] at this
    have cGR01 : (w7.alloc (.cells #[g7_0, g7_1, g7_2, g7_3] 27)).cell? ⟨w7.heap.size, 1, none⟩ = some g7_1 := by have := GR0_7.out.cell 1 (v := g7_1) rfl; rwa [e7] at this
    have cGR02 : (w7.alloc (.cells #[g7_0, g7_1, g7_2, g7_3] 27)).cell? ⟨w7.heap.size, 2, none⟩ = some g7_2 := by have := GR0_7.out.cell 2 (v := g7_2) rfl; rwa [e7] at this
    have cGR03 : (w7.alloc (.cells #[g7_0, g7_1, g7_2, g7_3] 27)).cell? ⟨w7.heap.size, 3, none⟩ = some g7_3 := by have := GR0_7.out.cell 3 (v := g7_3) rfl; rwa [e7] at this
    have cWR00 : (w7.alloc (.cells #[g7_0, g7_1, g7_2, g7_3] 27)).cell? ⟨w4.heap.size, 0, none⟩ = some w4_0 := by have := WR0_7.out.cell 0 (v := w4_0) rfl; rwa [e7] at this
    have cWR01 : (w7.alloc (.cells #[g7_0, g7_1, g7_2, g7_3] 27)).cell? ⟨w4.heap.size, 1, none⟩ = some w4_1 := by have := WR0_7.out.cell 1 (v := w4_1) rfl; rwa [e7] at this
    have cWR02 : (w7.alloc (.cells #[g7_0, g7_1, g7_2, g7_3] 27)).cell? ⟨w4.heap.size, 2, none⟩ = some w4_2 := by have := WR0_7.out.cell 2 (v := w4_2) rfl; rwa [e7] at this
    have cWR03 : (w7.alloc (.cells #[g7_0, g7_1, g7_2, g7_3] 27)).cell? ⟨w4.heap.size, 3, none⟩ = some w4_3 := by have := WR0_7.out.cell 3 (v := w4_3) rfl; rwa [e7] at this
    go_wp2_with fail
    rw [← e7]
    refine (heap.eq_any (heap.allocF T fn tag kids).1 _ _ _ (heap.heapSh.mono (heap.heapp_rep GR0_7.out.rep) fun b hb => by have := GR0_7.out.top; have := L0.out; have := L1.out; have := L2.out; have := L3.out; have := L4.out; have := L5.out; have := L6.out; have := L7.out; have := L8.out; have := L9.out; omega) (heap.heapSh.mono (heap.heapp_rep WR0_7.out.rep) fun b hb => by have := WR0_7.out.top; have := L0.out; have := L1.out; have := L2.out; have := L3.out; have := L4.out; have := L5.out; have := L6.out; have := L7.out; have := L8.out; have := L9.out; omega)).mono ?_
    rintro e w8 ⟨rfl, hb⟩
    clear cGR00 cGR01 cGR02 cGR03 cWR00 cWR01 cWR02 cWR03 e7
    have K0_8 : Hid (BoxK w8 (w.heap.size) [a0_0, a0_1, a0_2, a0_3] 24) := K0_7.out.on hb
    have WR0_8 : Hid (Itm heap.heapSp w8 w4.heap.size [w4_0, w4_1, w4_2, w4_3] 27 w3.heap.size w4.heap.size (heap.allocF T fn tag kids).1) := WR0_7.out.on hb
    have X0_8 : Hid (Itm heap.heapSp w8 w5.heap.size [x5_0, x5_1, x5_2, x5_3] 27 w4b.heap.size w5.heap.size T) := X0_7.out.on hb
    have X3_8 : Hid (ItmR ints.intsSp w8 [k6] w5b.heap.size w6.heap.size kids) := X3_7.out.on hb
    have GR0_8 : Hid (Itm heap.heapSp w8 w7.heap.size [g7_0, g7_1, g7_2, g7_3] 27 w6.heap.size w7.heap.size (heap.allocF T fn tag kids).1) := GR0_7.out.on hb
    have BB8 : Hid (Below w.heap.size w w8) := BB7.out.trans (hb.mono BB7.out.size)
    have L10 : Hid (w7b.heap.size ≤ w8.heap.size) := hb.size
    clear hb K0_7 WR0_7 X0_7 X3_7 GR0_7 BB7
    go_wp2
    have cK00 : w8.cell? ⟨w.heap.size, 0, none⟩ = some a0_0 := K0_8.out.cell 0 rfl
    have cK01 : w8.cell? ⟨w.heap.size, 1, none⟩ = some a0_1 := K0_8.out.cell 1 rfl
    have cK02 : w8.cell? ⟨w.heap.size, 2, none⟩ = some a0_2 := K0_8.out.cell 2 rfl
    have cK03 : w8.cell? ⟨w.heap.size, 3, none⟩ = some a0_3 := K0_8.out.cell 3 rfl
    have cX00 : w8.cell? ⟨w5.heap.size, 0, none⟩ = some x5_0 := X0_8.out.cell 0 rfl
    have cX01 : w8.cell? ⟨w5.heap.size, 1, none⟩ = some x5_1 := X0_8.out.cell 1 rfl
    have cX02 : w8.cell? ⟨w5.heap.size, 2, none⟩ = some x5_2 := X0_8.out.cell 2 rfl
    have cX03 : w8.cell? ⟨w5.heap.size, 3, none⟩ = some x5_3 := X0_8.out.cell 3 rfl
    have hcall := heap.toP_any T _ w8.drew (by have := HW.out; omega) (AR0.out _ BB8.out.drew)
    go_region_with (first | (go_at_call 9; refine hcall.mono ?_; rintro e w9 ⟨⟨k9, rfl, r9⟩, hb⟩; have cy0 := (hb.cell (p := ⟨w5.heap.size, 0, none⟩) (show w5.heap.size < w8.heap.size from X0_8.out.lt)).trans cX00; have cy1 := (hb.cell (p := ⟨w5.heap.size, 1, none⟩) (show w5.heap.size < w8.heap.size from X0_8.out.lt)).trans cX01; have cy2 := (hb.cell (p := ⟨w5.heap.size, 2, none⟩) (show w5.heap.size < w8.heap.size from X0_8.out.lt)).trans cX02; have cy3 := (hb.cell (p := ⟨w5.heap.size, 3, none⟩) (show w5.heap.size < w8.heap.size from X0_8.out.lt)).trans cX03) | (go_at_call 11; refine (heap.eq_any T [x5_0, x5_1, x5_2, x5_3] k9 _ (heap.heapSh.mono (heap.heapp_rep ((X0_8.out.on ((Below.refl _ w8).drew.trans hb)).rep)) (fun b hlt => by have := X0_8.out.top; have : w8.heap.size ≤ w9.heap.size := hb.size; omega)) (heap.heapSh.mono (heap.heapp_rep r9) fun b hlt => hlt.2)).mono ?_; rintro e w10 ⟨rfl, hb2⟩))
    all_goals
      have hbb : Below w8.heap.size w8 w10 := ((Below.refl _ w8).drew.trans hb).trans (hb2.mono hb.size)
      have K0_10 : Hid (BoxK w10 (w.heap.size) [a0_0, a0_1, a0_2, a0_3] 24) := K0_8.out.on hbb
      have WR0_10 : Hid (Itm heap.heapSp w10 w4.heap.size [w4_0, w4_1, w4_2, w4_3] 27 w3.heap.size w4.heap.size (heap.allocF T fn tag kids).1) := WR0_8.out.on hbb
      have X0_10 : Hid (Itm heap.heapSp w10 w5.heap.size [x5_0, x5_1, x5_2, x5_3] 27 w4b.heap.size w5.heap.size T) := X0_8.out.on hbb
      have X3_10 : Hid (ItmR ints.intsSp w10 [k6] w5b.heap.size w6.heap.size kids) := X3_8.out.on hbb
      have GR0_10 : Hid (Itm heap.heapSp w10 w7.heap.size [g7_0, g7_1, g7_2, g7_3] 27 w6.heap.size w7.heap.size (heap.allocF T fn tag kids).1) := GR0_8.out.on hbb
      have BB10 : Hid (Below w.heap.size w w10) := BB8.out.trans (hbb.mono BB8.out.size)
      have L11 : Hid (w8.heap.size ≤ w10.heap.size) := hbb.size
      clear hb hb2 hbb r9 hcall cK00 cK01 cK02 cK03 cX00 cX01 cX02 cX03 cy0 cy1 cy2 cy3 K0_8 WR0_8 X0_8 X3_8 GR0_8 BB8
      go_wp2_with fail
      refine (ints.toPS_any kids _ _ HL3.out (AR3.out _ BB10.out)).mono ?_
      rintro e w11 ⟨⟨k11, rfl, r11⟩, hb⟩
      have K0_11 : Hid (BoxK w11 (w.heap.size) [a0_0, a0_1, a0_2, a0_3] 24) := K0_10.out.on hb
      have WR0_11 : Hid (Itm heap.heapSp w11 w4.heap.size [w4_0, w4_1, w4_2, w4_3] 27 w3.heap.size w4.heap.size (heap.allocF T fn tag kids).1) := WR0_10.out.on hb
      have X0_11 : Hid (Itm heap.heapSp w11 w5.heap.size [x5_0, x5_1, x5_2, x5_3] 27 w4b.heap.size w5.heap.size T) := X0_10.out.on hb
      have X3_11 : Hid (ItmR ints.intsSp w11 [k6] w5b.heap.size w6.heap.size kids) := X3_10.out.on hb
      have GR0_11 : Hid (Itm heap.heapSp w11 w7.heap.size [g7_0, g7_1, g7_2, g7_3] 27 w6.heap.size w7.heap.size (heap.allocF T fn tag kids).1) := GR0_10.out.on hb
      have BB11 : Hid (Below w.heap.size w w11) := BB10.out.trans (hb.mono BB10.out.size)
      have L12 : Hid (w10.heap.size ≤ w11.heap.size) := hb.size
      have RT : Hid (ints.intsSh.rep w11 (· < w11.heap.size) [k11] kids) := ints.intsSh.mono (ints.intsp_rep r11) fun b hb => hb.2
      clear hb r11 K0_10 WR0_10 X0_10 X3_10 GR0_10 BB10
      go_wp2_with fail
      refine (ints.eq_any kids _ _ _ (ints.intsSh.mono (ints.intsp_rep X3_11.out.rep) fun b hb => by have := X3_11.out.top; have := L0.out; have := L1.out; have := L2.out; have := L3.out; have := L4.out; have := L5.out; have := L6.out; have := L7.out; have := L8.out; have := L9.out; have := L10.out; have := L11.out; have := L12.out; omega) RT.out).mono ?_
      rintro e w12 ⟨rfl, hb⟩
      have K0_12 : Hid (BoxK w12 (w.heap.size) [a0_0, a0_1, a0_2, a0_3] 24) := K0_11.out.on hb
      have WR0_12 : Hid (Itm heap.heapSp w12 w4.heap.size [w4_0, w4_1, w4_2, w4_3] 27 w3.heap.size w4.heap.size (heap.allocF T fn tag kids).1) := WR0_11.out.on hb
      have X0_12 : Hid (Itm heap.heapSp w12 w5.heap.size [x5_0, x5_1, x5_2, x5_3] 27 w4b.heap.size w5.heap.size T) := X0_11.out.on hb
      have X3_12 : Hid (ItmR ints.intsSp w12 [k6] w5b.heap.size w6.heap.size kids) := X3_11.out.on hb
      have GR0_12 : Hid (Itm heap.heapSp w12 w7.heap.size [g7_0, g7_1, g7_2, g7_3] 27 w6.heap.size w7.heap.size (heap.allocF T fn tag kids).1) := GR0_11.out.on hb
      have BB12 : Hid (Below w.heap.size w w12) := BB11.out.trans (hb.mono BB11.out.size)
      have L13 : Hid (w11.heap.size ≤ w12.heap.size) := hb.size
      clear hb RT K0_11 WR0_11 X0_11 X3_11 GR0_11 BB11
      have hcn0 : heap.cntT T ≤ 1073741824 := heap.cntT_boundA T (by have := HW.out; omega)
      have cX00 : w12.cell? ⟨w5.heap.size, 0, none⟩ = some x5_0 := X0_12.out.cell 0 rfl
      have cX01 : w12.cell? ⟨w5.heap.size, 1, none⟩ = some x5_1 := X0_12.out.cell 1 rfl
      have cX02 : w12.cell? ⟨w5.heap.size, 2, none⟩ = some x5_2 := X0_12.out.cell 2 rfl
      have cX03 : w12.cell? ⟨w5.heap.size, 3, none⟩ = some x5_3 := X0_12.out.cell 3 rfl
      go_wp2_with fail
      refine (heap.markT_any T _ _ (1) (fun b => w4b.heap.size ≤ b ∧ b < w5.heap.size) (by omega) (by omega) (fun b hb => by have := X0_12.out.top; have := L0.out; have := L1.out; have := L2.out; have := L3.out; have := L4.out; have := L5.out; have := L6.out; have := L7.out; have := L8.out; have := L9.out; have := L10.out; have := L11.out; have := L12.out; have := L13.out; omega) X0_12.out.rep).mono ?_
      rintro e w13 ⟨rfl, ho, -⟩
      clear cX00 cX01 cX02 cX03
      have K0_13 : Hid (BoxK w13 (w.heap.size) [a0_0, a0_1, a0_2, a0_3] 24) := K0_12.out.only ho (fun hq => by have := L0.out; have := L1.out; have := L2.out; have := L3.out; have := L4.out; have := L5.out; have := L6.out; have := L7.out; have := L8.out; have := L9.out; have := L10.out; have := L11.out; have := L12.out; have := L13.out; omega)
      have WR0_13 : Hid (Itm heap.heapSp w13 w4.heap.size [w4_0, w4_1, w4_2, w4_3] 27 w3.heap.size w4.heap.size (heap.allocF T fn tag kids).1) := WR0_12.out.only ho (fun hq => by have := L0.out; have := L1.out; have := L2.out; have := L3.out; have := L4.out; have := L5.out; have := L6.out; have := L7.out; have := L8.out; have := L9.out; have := L10.out; have := L11.out; have := L12.out; have := L13.out; omega) (fun b h1 h2 hq => by have := L0.out; have := L1.out; have := L2.out; have := L3.out; have := L4.out; have := L5.out; have := L6.out; have := L7.out; have := L8.out; have := L9.out; have := L10.out; have := L11.out; have := L12.out; have := L13.out; omega)
      have X3_13 : Hid (ItmR ints.intsSp w13 [k6] w5b.heap.size w6.heap.size kids) := X3_12.out.only ho (fun b h1 h2 hq => by have := L0.out; have := L1.out; have := L2.out; have := L3.out; have := L4.out; have := L5.out; have := L6.out; have := L7.out; have := L8.out; have := L9.out; have := L10.out; have := L11.out; have := L12.out; have := L13.out; omega)
      have GR0_13 : Hid (Itm heap.heapSp w13 w7.heap.size [g7_0, g7_1, g7_2, g7_3] 27 w6.heap.size w7.heap.size (heap.allocF T fn tag kids).1) := GR0_12.out.only ho (fun hq => by have := L0.out; have := L1.out; have := L2.out; have := L3.out; have := L4.out; have := L5.out; have := L6.out; have := L7.out; have := L8.out; have := L9.out; have := L10.out; have := L11.out; have := L12.out; have := L13.out; omega) (fun b h1 h2 hq => by have := L0.out; have := L1.out; have := L2.out; have := L3.out; have := L4.out; have := L5.out; have := L6.out; have := L7.out; have := L8.out; have := L9.out; have := L10.out; have := L11.out; have := L12.out; have := L13.out; omega)
      have BB13 : Hid (Below w.heap.size w w13) := BB12.out.trans (ho.below BB12.out.size fun b hb => by have := L0.out; have := L1.out; have := L2.out; have := L3.out; have := L4.out; have := L5.out; have := L6.out; have := L7.out; have := L8.out; have := L9.out; have := L10.out; have := L11.out; have := L12.out; have := L13.out; omega)
      have L14 : Hid (w12.heap.size ≤ w13.heap.size) := ho.size
      clear ho X0_12 K0_12 WR0_12 X3_12 GR0_12 BB12
      obtain ⟨n0, hn0⟩ : ∃ nz : Nat, nz = heap.cntT T := ⟨_, rfl⟩
      rw [← hn0] at hcn0 ⊢
      clear hn0
      go_wp2_with fail
      refine (ints.mark_any kids _ _ (1 + (n0 : Nat)) (fun b => w5b.heap.size ≤ b ∧ b < w6.heap.size) (by omega) (by omega) (fun b hb => by have := X3_13.out.top; have := L0.out; have := L1.out; have := L2.out; have := L3.out; have := L4.out; have := L5.out; have := L6.out; have := L7.out; have := L8.out; have := L9.out; have := L10.out; have := L11.out; have := L12.out; have := L13.out; have := L14.out; omega) X3_13.out.rep).mono ?_
      rintro e w14 ⟨rfl, -, ho⟩
      have K0_14 : Hid (BoxK w14 (w.heap.size) [a0_0, a0_1, a0_2, a0_3] 24) := K0_13.out.only ho (fun hq => by have := L0.out; have := L1.out; have := L2.out; have := L3.out; have := L4.out; have := L5.out; have := L6.out; have := L7.out; have := L8.out; have := L9.out; have := L10.out; have := L11.out; have := L12.out; have := L13.out; have := L14.out; omega)
      have WR0_14 : Hid (Itm heap.heapSp w14 w4.heap.size [w4_0, w4_1, w4_2, w4_3] 27 w3.heap.size w4.heap.size (heap.allocF T fn tag kids).1) := WR0_13.out.only ho (fun hq => by have := L0.out; have := L1.out; have := L2.out; have := L3.out; have := L4.out; have := L5.out; have := L6.out; have := L7.out; have := L8.out; have := L9.out; have := L10.out; have := L11.out; have := L12.out; have := L13.out; have := L14.out; omega) (fun b h1 h2 hq => by have := L0.out; have := L1.out; have := L2.out; have := L3.out; have := L4.out; have := L5.out; have := L6.out; have := L7.out; have := L8.out; have := L9.out; have := L10.out; have := L11.out; have := L12.out; have := L13.out; have := L14.out; omega)
      have GR0_14 : Hid (Itm heap.heapSp w14 w7.heap.size [g7_0, g7_1, g7_2, g7_3] 27 w6.heap.size w7.heap.size (heap.allocF T fn tag kids).1) := GR0_13.out.only ho (fun hq => by have := L0.out; have := L1.out; have := L2.out; have := L3.out; have := L4.out; have := L5.out; have := L6.out; have := L7.out; have := L8.out; have := L9.out; have := L10.out; have := L11.out; have := L12.out; have := L13.out; have := L14.out; omega) (fun b h1 h2 hq => by have := L0.out; have := L1.out; have := L2.out; have := L3.out; have := L4.out; have := L5.out; have := L6.out; have := L7.out; have := L8.out; have := L9.out; have := L10.out; have := L11.out; have := L12.out; have := L13.out; have := L14.out; omega)
      have BB14 : Hid (Below w.heap.size w w14) := BB13.out.trans (ho.below BB13.out.size fun b hb => by have := L0.out; have := L1.out; have := L2.out; have := L3.out; have := L4.out; have := L5.out; have := L6.out; have := L7.out; have := L8.out; have := L9.out; have := L10.out; have := L11.out; have := L12.out; have := L13.out; have := L14.out; omega)
      have L15 : Hid (w13.heap.size ≤ w14.heap.size) := ho.size
      clear ho X3_13 K0_13 WR0_13 GR0_13 BB13
      have t2 : decide (((1 : Int) + (n0 : Nat) + (kids.length : Nat) : Int) < 0) = false := by simp; omega
      have cGR00 : w14.cell? ⟨w7.heap.size, 0, none⟩ = some g7_0 := GR0_14.out.cell 0 rfl
      have cGR01 : w14.cell? ⟨w7.heap.size, 1, none⟩ = some g7_1 := GR0_14.out.cell 1 rfl
      have cGR02 : w14.cell? ⟨w7.heap.size, 2, none⟩ = some g7_2 := GR0_14.out.cell 2 rfl
      have cGR03 : w14.cell? ⟨w7.heap.size, 3, none⟩ = some g7_3 := GR0_14.out.cell 3 rfl
      have cWR00 : w14.cell? ⟨w4.heap.size, 0, none⟩ = some w4_0 := WR0_14.out.cell 0 rfl
      have cWR01 : w14.cell? ⟨w4.heap.size, 1, none⟩ = some w4_1 := WR0_14.out.cell 1 rfl
      have cWR02 : w14.cell? ⟨w4.heap.size, 2, none⟩ = some w4_2 := WR0_14.out.cell 2 rfl
      have cWR03 : w14.cell? ⟨w4.heap.size, 3, none⟩ = some w4_3 := WR0_14.out.cell 3 rfl
      go_wp2_with fail
      refine (heap.eq_any (heap.allocF T fn tag kids).1 _ _ _ (heap.heapSh.mono (heap.heapp_rep GR0_14.out.rep) fun b hb => by have := GR0_14.out.top; have := L0.out; have := L1.out; have := L2.out; have := L3.out; have := L4.out; have := L5.out; have := L6.out; have := L7.out; have := L8.out; have := L9.out; have := L10.out; have := L11.out; have := L12.out; have := L13.out; have := L14.out; have := L15.out; omega) (heap.heapSh.mono (heap.heapp_rep WR0_14.out.rep) fun b hb => by have := WR0_14.out.top; have := L0.out; have := L1.out; have := L2.out; have := L3.out; have := L4.out; have := L5.out; have := L6.out; have := L7.out; have := L8.out; have := L9.out; have := L10.out; have := L11.out; have := L12.out; have := L13.out; have := L14.out; have := L15.out; omega)).mono ?_
      rintro e w15 ⟨rfl, hb⟩
      clear cGR00 cGR01 cGR02 cGR03 cWR00 cWR01 cWR02 cWR03
      have K0_15 : Hid (BoxK w15 (w.heap.size) [a0_0, a0_1, a0_2, a0_3] 24) := K0_14.out.on hb
      have WR0_15 : Hid (Itm heap.heapSp w15 w4.heap.size [w4_0, w4_1, w4_2, w4_3] 27 w3.heap.size w4.heap.size (heap.allocF T fn tag kids).1) := WR0_14.out.on hb
      have GR0_15 : Hid (Itm heap.heapSp w15 w7.heap.size [g7_0, g7_1, g7_2, g7_3] 27 w6.heap.size w7.heap.size (heap.allocF T fn tag kids).1) := GR0_14.out.on hb
      have BB15 : Hid (Below w.heap.size w w15) := BB14.out.trans (hb.mono BB14.out.size)
      have L16 : Hid (w14.heap.size ≤ w15.heap.size) := hb.size
      clear hb K0_14 WR0_14 GR0_14 BB14
      have hcg0 : heap.cntT (heap.allocF T fn tag kids).1 ≤ 1073741824 := heap.alloc_bound T fn tag kids (by have := HW.out; omega)
      have cGR00 : w15.cell? ⟨w7.heap.size, 0, none⟩ = some g7_0 := GR0_15.out.cell 0 rfl
      have cGR01 : w15.cell? ⟨w7.heap.size, 1, none⟩ = some g7_1 := GR0_15.out.cell 1 rfl
      have cGR02 : w15.cell? ⟨w7.heap.size, 2, none⟩ = some g7_2 := GR0_15.out.cell 2 rfl
      have cGR03 : w15.cell? ⟨w7.heap.size, 3, none⟩ = some g7_3 := GR0_15.out.cell 3 rfl
      go_wp2_with fail
      refine (heap.markT_any (heap.allocF T fn tag kids).1 _ _ (1) (fun b => w6.heap.size ≤ b ∧ b < w7.heap.size) (by omega) (by omega) (fun b hb => by have := GR0_15.out.top; have := L0.out; have := L1.out; have := L2.out; have := L3.out; have := L4.out; have := L5.out; have := L6.out; have := L7.out; have := L8.out; have := L9.out; have := L10.out; have := L11.out; have := L12.out; have := L13.out; have := L14.out; have := L15.out; have := L16.out; omega) GR0_15.out.rep).mono ?_
      rintro e w16 ⟨rfl, ho, hr⟩
      clear cGR00 cGR01 cGR02 cGR03
      have K0_16 : Hid (BoxK w16 (w.heap.size) [a0_0, a0_1, a0_2, a0_3] 24) := K0_15.out.only ho (fun hq => by have := L0.out; have := L1.out; have := L2.out; have := L3.out; have := L4.out; have := L5.out; have := L6.out; have := L7.out; have := L8.out; have := L9.out; have := L10.out; have := L11.out; have := L12.out; have := L13.out; have := L14.out; have := L15.out; have := L16.out; omega)
      have WR0_16 : Hid (Itm heap.heapSp w16 w4.heap.size [w4_0, w4_1, w4_2, w4_3] 27 w3.heap.size w4.heap.size (heap.allocF T fn tag kids).1) := WR0_15.out.only ho (fun hq => by have := L0.out; have := L1.out; have := L2.out; have := L3.out; have := L4.out; have := L5.out; have := L6.out; have := L7.out; have := L8.out; have := L9.out; have := L10.out; have := L11.out; have := L12.out; have := L13.out; have := L14.out; have := L15.out; have := L16.out; omega) (fun b h1 h2 hq => by have := L0.out; have := L1.out; have := L2.out; have := L3.out; have := L4.out; have := L5.out; have := L6.out; have := L7.out; have := L8.out; have := L9.out; have := L10.out; have := L11.out; have := L12.out; have := L13.out; have := L14.out; have := L15.out; have := L16.out; omega)
      have BB16 : Hid (Below w.heap.size w w16) := BB15.out.trans (ho.below BB15.out.size fun b hb => by have := L0.out; have := L1.out; have := L2.out; have := L3.out; have := L4.out; have := L5.out; have := L6.out; have := L7.out; have := L8.out; have := L9.out; have := L10.out; have := L11.out; have := L12.out; have := L13.out; have := L14.out; have := L15.out; have := L16.out; omega)
      have L17 : Hid (w15.heap.size ≤ w16.heap.size) := ho.size
      have GR0_16 : Hid (Itm heap.heapSh w16 w7.heap.size [g7_0, g7_1, g7_2, g7_3] 27 w6.heap.size w7.heap.size (heap.mkT 1 (heap.allocF T fn tag kids).1)) := ⟨(ho.block _ GR0_15.out.lt (fun hq => by have := L0.out; have := L1.out; have := L2.out; have := L3.out; have := L4.out; have := L5.out; have := L6.out; have := L7.out; have := L8.out; have := L9.out; have := L10.out; have := L11.out; have := L12.out; have := L13.out; have := L14.out; have := L15.out; have := L16.out; have := L17.out; omega)).trans GR0_15.out.blk, Nat.le_trans GR0_15.out.top ho.size, heap.heapp_rep hr⟩
      clear ho hr GR0_15 K0_15 WR0_15 BB15
      obtain ⟨m0, hm0⟩ : ∃ nz : Nat, nz = heap.cntT (heap.allocF T fn tag kids).1 := ⟨_, rfl⟩
      have HM0 : Hid (m0 = heap.cntT (heap.allocF T fn tag kids).1) := hm0
      rw [← hm0] at hcg0 ⊢
      clear hm0
      have cGR00 : w16.cell? ⟨w7.heap.size, 0, none⟩ = some g7_0 := GR0_16.out.cell 0 rfl
      have cGR01 : w16.cell? ⟨w7.heap.size, 1, none⟩ = some g7_1 := GR0_16.out.cell 1 rfl
      have cGR02 : w16.cell? ⟨w7.heap.size, 2, none⟩ = some g7_2 := GR0_16.out.cell 2 rfl
      have cGR03 : w16.cell? ⟨w7.heap.size, 3, none⟩ = some g7_3 := GR0_16.out.cell 3 rfl
      go_wp2_with fail
      refine (heap.heldT_any (heap.allocF T fn tag kids).1 _ _ (1) (by omega) (by rw [← HM0.out]; omega) (heap.heapSh.mono GR0_16.out.rep fun b hb => by have := GR0_16.out.top; have := L0.out; have := L1.out; have := L2.out; have := L3.out; have := L4.out; have := L5.out; have := L6.out; have := L7.out; have := L8.out; have := L9.out; have := L10.out; have := L11.out; have := L12.out; have := L13.out; have := L14.out; have := L15.out; have := L16.out; have := L17.out; omega)).mono ?_
      rw [← HM0.out]
      rintro e w17 ⟨rfl, hb⟩
      clear cGR00 cGR01 cGR02 cGR03
      have K0_17 : Hid (BoxK w17 (w.heap.size) [a0_0, a0_1, a0_2, a0_3] 24) := K0_16.out.on hb
      have WR0_17 : Hid (Itm heap.heapSp w17 w4.heap.size [w4_0, w4_1, w4_2, w4_3] 27 w3.heap.size w4.heap.size (heap.allocF T fn tag kids).1) := WR0_16.out.on hb
      have GR0_17 : Hid (Itm heap.heapSh w17 w7.heap.size [g7_0, g7_1, g7_2, g7_3] 27 w6.heap.size w7.heap.size (heap.mkT 1 (heap.allocF T fn tag kids).1)) := GR0_16.out.on hb
      have BB17 : Hid (Below w.heap.size w w17) := BB16.out.trans (hb.mono BB16.out.size)
      have L18 : Hid (w16.heap.size ≤ w17.heap.size) := hb.size
      clear hb K0_16 WR0_16 GR0_16 BB16
      have t27 : decide (((1 : Int) + (m0 : Nat) : Int) < 0) = false := by simp; omega
      have cK00 : w17.cell? ⟨w.heap.size, 0, none⟩ = some a0_0 := K0_17.out.cell 0 rfl
      have cK01 : w17.cell? ⟨w.heap.size, 1, none⟩ = some a0_1 := K0_17.out.cell 1 rfl
      have cK02 : w17.cell? ⟨w.heap.size, 2, none⟩ = some a0_2 := K0_17.out.cell 2 rfl
      have cK03 : w17.cell? ⟨w.heap.size, 3, none⟩ = some a0_3 := K0_17.out.cell 3 rfl
      go_wp2_with fail
      refine (heap.toP_any T _ _ (by have := HW.out; omega) (AR0.out _ BB17.out)).mono ?_
      rintro e w18 ⟨⟨k18, rfl, r18⟩, hb⟩
      clear cK00 cK01 cK02 cK03
      have K0_18 : Hid (BoxK w18 (w.heap.size) [a0_0, a0_1, a0_2, a0_3] 24) := K0_17.out.on hb
      have WR0_18 : Hid (Itm heap.heapSp w18 w4.heap.size [w4_0, w4_1, w4_2, w4_3] 27 w3.heap.size w4.heap.size (heap.allocF T fn tag kids).1) := WR0_17.out.on hb
      have GR0_18 : Hid (Itm heap.heapSh w18 w7.heap.size [g7_0, g7_1, g7_2, g7_3] 27 w6.heap.size w7.heap.size (heap.mkT 1 (heap.allocF T fn tag kids).1)) := GR0_17.out.on hb
      have BB18 : Hid (Below w.heap.size w w18) := BB17.out.trans (hb.mono BB17.out.size)
      have HC0_18 : Hid (ItmR heap.heapSp w18 k18 w17.heap.size w18.heap.size T) := ⟨Nat.le_refl _, r18⟩
      have L19 : Hid (w17.heap.size ≤ w18.heap.size) := hb.size
      clear hb r18 K0_17 WR0_17 GR0_17 BB17
      go_wp2_with fail
      refine (ints.toPS_any kids _ _ HL3.out (AR3.out _ BB18.out)).mono ?_
      rintro e w19 ⟨⟨k19, rfl, r19⟩, hb⟩
      have K0_19 : Hid (BoxK w19 (w.heap.size) [a0_0, a0_1, a0_2, a0_3] 24) := K0_18.out.on hb
      have WR0_19 : Hid (Itm heap.heapSp w19 w4.heap.size [w4_0, w4_1, w4_2, w4_3] 27 w3.heap.size w4.heap.size (heap.allocF T fn tag kids).1) := WR0_18.out.on hb
      have GR0_19 : Hid (Itm heap.heapSh w19 w7.heap.size [g7_0, g7_1, g7_2, g7_3] 27 w6.heap.size w7.heap.size (heap.mkT 1 (heap.allocF T fn tag kids).1)) := GR0_18.out.on hb
      have HC0_19 : Hid (ItmR heap.heapSp w19 k18 w17.heap.size w18.heap.size T) := HC0_18.out.on hb
      have BB19 : Hid (Below w.heap.size w w19) := BB18.out.trans (hb.mono BB18.out.size)
      have HC3_19 : Hid (ItmR ints.intsSp w19 [k19] w18.heap.size w19.heap.size kids) := ⟨Nat.le_refl _, r19⟩
      have L20 : Hid (w18.heap.size ≤ w19.heap.size) := hb.size
      clear hb r19 K0_18 WR0_18 GR0_18 HC0_18 BB18
      go_wp2_with fail
      refine (heap.implAlloc T fn tag kids _ _ _ HW.out HL3.out hi2 hj2 (heap.heapSh.mono (heap.heapp_rep HC0_19.out.rep) fun b hb => by have := HC0_19.out.top; have := L0.out; have := L1.out; have := L2.out; have := L3.out; have := L4.out; have := L5.out; have := L6.out; have := L7.out; have := L8.out; have := L9.out; have := L10.out; have := L11.out; have := L12.out; have := L13.out; have := L14.out; have := L15.out; have := L16.out; have := L17.out; have := L18.out; have := L19.out; have := L20.out; omega) (ints.intsSh.mono (ints.intsp_rep HC3_19.out.rep) fun b hb => by have := HC3_19.out.top; have := L0.out; have := L1.out; have := L2.out; have := L3.out; have := L4.out; have := L5.out; have := L6.out; have := L7.out; have := L8.out; have := L9.out; have := L10.out; have := L11.out; have := L12.out; have := L13.out; have := L14.out; have := L15.out; have := L16.out; have := L17.out; have := L18.out; have := L19.out; have := L20.out; omega)).mono ?_
      rintro e w20 ⟨⟨u20_0, rfl, r20_0⟩, hb⟩
      obtain ⟨h20_0, h20_1, h20_2, h20_3, rfl⟩ := heap.heap_list (heap.heapp_rep r20_0)
      have oh20_0 := heap.heapSp.one r20_0 h20_0 (by simp)
      have oh20_1 := heap.heapSp.one r20_0 h20_1 (by simp)
      have oh20_2 := heap.heapSp.one r20_0 h20_2 (by simp)
      have oh20_3 := heap.heapSp.one r20_0 h20_3 (by simp)
      have soh20_0 := fun (a : Addr) (m : Mode) (w : World) => run_store Try.prog w a h20_0 m oh20_0
      have soh20_1 := fun (a : Addr) (m : Mode) (w : World) => run_store Try.prog w a h20_1 m oh20_1
      have soh20_2 := fun (a : Addr) (m : Mode) (w : World) => run_store Try.prog w a h20_2 m oh20_2
      have soh20_3 := fun (a : Addr) (m : Mode) (w : World) => run_store Try.prog w a h20_3 m oh20_3
      obtain ⟨w20b, e20⟩ : ∃ x, x = w20.alloc (.cells #[h20_0, h20_1, h20_2, h20_3] 27) := ⟨_, rfl⟩
      have hA : Below w20.heap.size w20 w20b := by rw [e20]; exact (Below.refl _ _).alloc (Nat.le_refl _) _
      have z20 : w20b.heap.size = w20.heap.size + 1 := by rw [e20]; simp
      have K0_20 : Hid (BoxK w20b (w.heap.size) [a0_0, a0_1, a0_2, a0_3] 24) := (K0_19.out.on hb).on hA
      have WR0_20 : Hid (Itm heap.heapSp w20b w4.heap.size [w4_0, w4_1, w4_2, w4_3] 27 w3.heap.size w4.heap.size (heap.allocF T fn tag kids).1) := (WR0_19.out.on hb).on hA
      have GR0_20 : Hid (Itm heap.heapSh w20b w7.heap.size [g7_0, g7_1, g7_2, g7_3] 27 w6.heap.size w7.heap.size (heap.mkT 1 (heap.allocF T fn tag kids).1)) := (GR0_19.out.on hb).on hA
      have BB20 : Hid (Below w.heap.size w w20b) := (BB19.out.trans (hb.mono BB19.out.size)).trans (hA.mono (Nat.le_trans BB19.out.size hb.size))
      have L21 : Hid (w19.heap.size ≤ w20.heap.size) := hb.size
      have L22 : Hid (w20.heap.size + 1 ≤ w20b.heap.size) := by show _ ≤ _; omega
      have HR0_20 : Hid (Itm heap.heapSp w20b w20.heap.size [h20_0, h20_1, h20_2, h20_3] 27 w19.heap.size w20.heap.size (heap.allocF T fn tag kids).1) := by rw [e20]; exact Itm.new r20_0 (Nat.le_refl _) rfl
      clear hb hA z20 r20_0 K0_19 WR0_19 GR0_19 BB19
      have cHR00 : (w20.alloc (.cells #[h20_0, h20_1, h20_2, h20_3] 27)).cell? ⟨w20.heap.size, 0, none⟩ = some h20_0 := by have := HR0_20.out.cell 0 (v := h20_0) rfl; rwa [e20] at this
      have cHR01 : (w20.alloc (.cells #[h20_0, h20_1, h20_2, h20_3] 27)).cell? ⟨w20.heap.size, 1, none⟩ = some h20_1 := by have := HR0_20.out.cell 1 (v := h20_1) rfl; rwa [e20] at this
      have cHR02 : (w20.alloc (.cells #[h20_0, h20_1, h20_2, h20_3] 27)).cell? ⟨w20.heap.size, 2, none⟩ = some h20_2 := by have := HR0_20.out.cell 2 (v := h20_2) rfl; rwa [e20] at this
      have cHR03 : (w20.alloc (.cells #[h20_0, h20_1, h20_2, h20_3] 27)).cell? ⟨w20.heap.size, 3, none⟩ = some h20_3 := by have := HR0_20.out.cell 3 (v := h20_3) rfl; rwa [e20] at this
      have cWR00 : (w20.alloc (.cells #[h20_0, h20_1, h20_2, h20_3] 27)).cell? ⟨w4.heap.size, 0, none⟩ = some w4_0 := by have := WR0_20.out.cell 0 (v := w4_0) rfl; rwa [e20] at this
      have cWR01 : (w20.alloc (.cells #[h20_0, h20_1, h20_2, h20_3] 27)).cell? ⟨w4.heap.size, 1, none⟩ = some w4_1 := by have := WR0_20.out.cell 1 (v := w4_1) rfl; rwa [e20] at this
      have cWR02 : (w20.alloc (.cells #[h20_0, h20_1, h20_2, h20_3] 27)).cell? ⟨w4.heap.size, 2, none⟩ = some w4_2 := by have := WR0_20.out.cell 2 (v := w4_2) rfl; rwa [e20] at this
      have cWR03 : (w20.alloc (.cells #[h20_0, h20_1, h20_2, h20_3] 27)).cell? ⟨w4.heap.size, 3, none⟩ = some w4_3 := by have := WR0_20.out.cell 3 (v := w4_3) rfl; rwa [e20] at this
      go_wp2_with fail
      rw [← e20]
      refine (heap.eq_any (heap.allocF T fn tag kids).1 _ _ _ (heap.heapSh.mono (heap.heapp_rep HR0_20.out.rep) fun b hb => by have := HR0_20.out.top; have := L0.out; have := L1.out; have := L2.out; have := L3.out; have := L4.out; have := L5.out; have := L6.out; have := L7.out; have := L8.out; have := L9.out; have := L10.out; have := L11.out; have := L12.out; have := L13.out; have := L14.out; have := L15.out; have := L16.out; have := L17.out; have := L18.out; have := L19.out; have := L20.out; have := L21.out; have := L22.out; omega) (heap.heapSh.mono (heap.heapp_rep WR0_20.out.rep) fun b hb => by have := WR0_20.out.top; have := L0.out; have := L1.out; have := L2.out; have := L3.out; have := L4.out; have := L5.out; have := L6.out; have := L7.out; have := L8.out; have := L9.out; have := L10.out; have := L11.out; have := L12.out; have := L13.out; have := L14.out; have := L15.out; have := L16.out; have := L17.out; have := L18.out; have := L19.out; have := L20.out; have := L21.out; have := L22.out; omega)).mono ?_
      rintro e w21 ⟨rfl, hb⟩
      clear cHR00 cHR01 cHR02 cHR03 cWR00 cWR01 cWR02 cWR03 e20
      have K0_21 : Hid (BoxK w21 (w.heap.size) [a0_0, a0_1, a0_2, a0_3] 24) := K0_20.out.on hb
      have WR0_21 : Hid (Itm heap.heapSp w21 w4.heap.size [w4_0, w4_1, w4_2, w4_3] 27 w3.heap.size w4.heap.size (heap.allocF T fn tag kids).1) := WR0_20.out.on hb
      have GR0_21 : Hid (Itm heap.heapSh w21 w7.heap.size [g7_0, g7_1, g7_2, g7_3] 27 w6.heap.size w7.heap.size (heap.mkT 1 (heap.allocF T fn tag kids).1)) := GR0_20.out.on hb
      have HR0_21 : Hid (Itm heap.heapSp w21 w20.heap.size [h20_0, h20_1, h20_2, h20_3] 27 w19.heap.size w20.heap.size (heap.allocF T fn tag kids).1) := HR0_20.out.on hb
      have BB21 : Hid (Below w.heap.size w w21) := BB20.out.trans (hb.mono BB20.out.size)
      have L23 : Hid (w20b.heap.size ≤ w21.heap.size) := hb.size
      clear hb K0_20 WR0_20 GR0_20 HR0_20 BB20
      have cGR00 : w21.cell? ⟨w7.heap.size, 0, none⟩ = some g7_0 := GR0_21.out.cell 0 rfl
      have cGR01 : w21.cell? ⟨w7.heap.size, 1, none⟩ = some g7_1 := GR0_21.out.cell 1 rfl
      have cGR02 : w21.cell? ⟨w7.heap.size, 2, none⟩ = some g7_2 := GR0_21.out.cell 2 rfl
      have cGR03 : w21.cell? ⟨w7.heap.size, 3, none⟩ = some g7_3 := GR0_21.out.cell 3 rfl
      go_wp2_with fail
      refine (heap.heldT_any (heap.allocF T fn tag kids).1 _ _ (1) (by omega) (by rw [← HM0.out]; omega) (heap.heapSh.mono GR0_21.out.rep fun b hb => by have := GR0_21.out.top; have := L0.out; have := L1.out; have := L2.out; have := L3.out; have := L4.out; have := L5.out; have := L6.out; have := L7.out; have := L8.out; have := L9.out; have := L10.out; have := L11.out; have := L12.out; have := L13.out; have := L14.out; have := L15.out; have := L16.out; have := L17.out; have := L18.out; have := L19.out; have := L20.out; have := L21.out; have := L22.out; have := L23.out; omega)).mono ?_
      rw [← HM0.out]
      rintro e w22 ⟨rfl, hb⟩
      clear cGR00 cGR01 cGR02 cGR03
      have K0_22 : Hid (BoxK w22 (w.heap.size) [a0_0, a0_1, a0_2, a0_3] 24) := K0_21.out.on hb
      have WR0_22 : Hid (Itm heap.heapSp w22 w4.heap.size [w4_0, w4_1, w4_2, w4_3] 27 w3.heap.size w4.heap.size (heap.allocF T fn tag kids).1) := WR0_21.out.on hb
      have GR0_22 : Hid (Itm heap.heapSh w22 w7.heap.size [g7_0, g7_1, g7_2, g7_3] 27 w6.heap.size w7.heap.size (heap.mkT 1 (heap.allocF T fn tag kids).1)) := GR0_21.out.on hb
      have BB22 : Hid (Below w.heap.size w w22) := BB21.out.trans (hb.mono BB21.out.size)
      have L24 : Hid (w21.heap.size ≤ w22.heap.size) := hb.size
      clear hb K0_21 WR0_21 GR0_21 BB21
      have t32 : decide (((1 : Int) + (m0 : Nat) : Int) < 0) = false := by simp; omega
      go_wp2
      go_ret
      exact ⟨rfl, BB22.out⟩
  · have hl : left q0 (1048576) = -1 := by unfold left; rw [if_neg (by omega)]
    rw [hl]
    go_wp2
    go_ret
    exact ⟨rfl, BB1.out⟩

set_option maxRecDepth 100000 in
theorem lifted (os : Os) (started : os.Started) (H : Type) (enc : TypeId × Value → H) :
    ReturnsInHanded {} Try.checked os 5 .any (Rows.fnExactAllocSpec.pre6 enc Try.prog Try.f5 Rows.fnExactAllocRow.domain false) (Rows.fnExactAllocSpec.post enc Try.prog Try.f5 false true false false) := by
  refine returnsInHanded_of_change (C := Try.checked) own started (by kernel_rfl) Try.func5
    (ChangeSpec.witness6 (enc := enc) (C := Try.checked) false ⟨#[], #[.agg #[.slice none 0 0, .int .i64 0, .int .i64 0, .int .i64 0], .bool false, .int .i64 0, .slice none 0 0], []⟩ 8 (by kernel_rfl) (by kernel_rfl) (by kernel_rfl) (by kernel_rfl)) ?_
  intro W base args ds gs before hval0 hW hcnd _
  have hval : ∀ (j : Nat) t v, Try.f5.params[j]? = some t → args[j]? = some v → Value.okWide Try.prog W .any base t v := hval0
  have hW' := hW
  obtain ⟨p, q, hA0, hV, rfl, hfz, hnd⟩ := hW
  have hA : DataW.TrodAll enc Try.prog W 0 (fun _ => true) true Try.f5.params.toList args.toList ds p := hA0
  rw [Try.params5] at hA hval
  obtain ⟨v0, vs0, d0, ds0, p0, q0, hargs, rfl, rfl, h0, r0⟩ := trodAll_cons hA
  obtain ⟨v1, vs1, d1, ds1, p1, q1, rfl, rfl, rfl, h1, r1⟩ := trodAll_cons r0
  obtain ⟨v2, vs2, d2, ds2, p2, q2, rfl, rfl, rfl, h2, r2⟩ := trodAll_cons r1
  obtain ⟨v3, vs3, d3, ds3, p3, q3, rfl, rfl, rfl, h3, r3⟩ := trodAll_cons r2
  obtain ⟨rfl, rfl, rfl⟩ := trodAll_nil r3
  obtain rfl : args = #[v0, v1, v2, v3] := by cases args; simp_all
  obtain ⟨rfl, rfl⟩ := trodVars_none hV
  have k0 := h0
  have lt0 : ∀ x ∈ p0, x.block < W.heap.size := by obtain ⟨m, hm⟩ := k0; exact DataW.trod_lt m _ _ _ hm
  have k3 := h3
  have lt3 : ∀ x ∈ p3, x.block < W.heap.size := by obtain ⟨m, hm⟩ := k3; exact DataW.trod_lt m _ _ _ hm
  obtain ⟨cs0, T, rfl, hT0⟩ := heap.arg_heap (hval 0 24 v0 rfl rfl) h0
  obtain ⟨fn, rfl, rfl, rfl⟩ := open_bool Try.underlying4 (hval 1 4 v1 rfl rfl) h1
  obtain ⟨tag, rfl, rfl, rfl, hx2⟩ := open_int Try.underlying3 (hval 2 3 v2 rfl rfl) h2
  obtain ⟨a3, len3, cap3, rfl⟩ := okWide_slice Try.underlying22 (hval 3 22 v3 rfl rfl)
  obtain ⟨kids, hT3⟩ : ∃ ks, ints.intsSh.rep W (· < W.heap.size) [.slice a3 len3 cap3] ks := by
    obtain ⟨fuel, hf⟩ := h3
    exact opens_ints (enc := enc) (w := W) fuel fuel _ _ (Nat.le_refl _) hf
  clear hA0 hval0
  refine (walk T fn tag kids cs0 _ W (by have := bounds_i64 hx2; omega) (by have := bounds_i64 hx2; omega) hT0 hT3).mono fun e W' ⟨he, bel⟩ => ?_
  subst he
  exact ⟨_, rfl, _, _, _, [], _, [], hW', trodAll_mk1 (shut_bool Try.underlying4 _), (trodAll_cons_mk (Below.trod laidOut (by kernel_rfl) (of_decide_eq_true (by kernel_rfl)) k0 bel lt0) (trodAll_cons_mk (shut_bool Try.underlying4 _) (trodAll_cons_mk (shut_int Try.underlying3 hx2) (trodAll_cons_mk (Below.trod laidOut (by kernel_rfl) (of_decide_eq_true (by kernel_rfl)) k3 bel lt3) trodAll_mk0)))), rfl, bel.frame _, fun h => by cases h⟩

theorem over : Rows.fnExactAllocRow.holds Try.pinned (OpenSpec.ofChange Rows.fnExactAllocSpec) :=
  OpenClaim.holds_of_wide 5 Try.f5 rfl rfl rfl rfl rfl rfl rfl ⟨rfl, rfl, rfl, rfl, rfl⟩ rfl rfl rfl rfl rfl (by kernel_rfl) Try.func5 (by kernel_rfl)
    (of_decide_eq_true (by kernel_rfl)) (by unfold Func.isWrapper; first | (rw [if_pos (by decide +kernel)]; kernel_rfl) | (rw [if_neg (by decide +kernel)]; exact ⟨rfl, rfl⟩))
    (fun os started H enc _ => lifted os started H enc)

/-- THE STATEMENT. -/
theorem proved : Rows.FnExactAllocSaid :=
  over
#print axioms proved
end Go.Proofs.Ytempmfpnngbbeab.fnExactAlloc
