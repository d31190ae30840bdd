/-
  At every argument the program's function answers as its model, writes nothing into an argument, and its answer owns its memory; the law's call returns true, and the arguments read as they read before. No condition.
-/
import Derived.Test.YtempmfpnngbbeabRows
import Derived.Test.YtempmfpnngbbeabItems2
import Derived.Test.YtempmfpnngbbeabHeapSz
import Derived.Test.YtempmfpnngbbeabHeapArg
import Derived.Test.YtempmfpnngbbeabHeapToP
import Derived.Test.YtempmfpnngbbeabHeapEq
import Derived.Test.YtempmfpnngbbeabHeapMarkT
import Derived.Test.YtempmfpnngbbeabIntsMk
import Derived.Test.YtempmfpnngbbeabInts
import Derived.Test.YtempmfpnngbbeabBlockAtStd
import Derived.ProofKit
import Derived.Deep.DeepHandedRow
import Derived.ChangeOld
import Derived.Carry
namespace Go.Proofs.Ytempmfpnngbbeab.fnExactBlockAt
open Go.ChangeShapes Go.WideShapes Go.ChangeAt Go.RowKit Go.Proofs.Ytempmfpnngbbeab.rose Go.Proofs.Ytempmfpnngbbeab
open Go.ChangeMaps (open_string shut_string)
set_option linter.unusedVariables false

theorem own : ownKnob Try.prog.godebug = none := by kernel_rfl
theorem laidOut : laidOutB Try.prog = true := by kernel_rfl

set_option maxRecDepth 100000 in
set_option maxHeartbeats 8000000 in
theorem walk (T : heap.HeapD) (p : Int) (cs0 : List Value) (w : World) (hi1 : -9223372036854775808 ≤ p) (hj1 : p ≤ 9223372036854775807) (h0 : heap.heapSh.rep w (· < w.heap.size) cs0 T) :
    Calls Try.prog 4 #[.agg cs0.toArray, .int .i64 p] w fun e w' => e = .returned (.bool true) ∧ Below w.heap.size w w' := by
  obtain ⟨a0_0, a0_1, a0_2, a0_3, rfl⟩ := heap.heap_list h0
  have oa0_0 := heap.heapSh.one h0 a0_0 (by simp)
  have oa0_1 := heap.heapSh.one h0 a0_1 (by simp)
  have oa0_2 := heap.heapSh.one h0 a0_2 (by simp)
  have oa0_3 := heap.heapSh.one h0 a0_3 (by simp)
  have AR0 : Hid (∀ W : World, Below w.heap.size w W → heap.heapSh.rep W (· < W.heap.size) [a0_0, a0_1, a0_2, a0_3] T) := fun W hb => heap.heapSh.mono (heap.heapSh.below h0 hb) fun b hlt => Nat.lt_of_lt_of_le hlt hb.size
  clear h0
  have BB0 : Hid (Below w.heap.size w (w.alloc (.cells #[a0_0, a0_1, a0_2, a0_3] 24))) := (Below.refl _ w).alloc (by simp) _
  have K0_0 : Hid (BoxK (w.alloc (.cells #[a0_0, a0_1, a0_2, a0_3] 24)) (w.heap.size) [a0_0, a0_1, a0_2, a0_3] 24) := ⟨by exact alloc_top _ _⟩
  go_enter Try.func4, Try.ntmps4
  go_wp2_with fail
  refine (heap.sz_any T _ _ 1048576 (by decide) (by decide) (AR0.out _ BB0.out)).mono ?_
  rintro e w1 ⟨rfl, hb⟩
  have K0_1 : Hid (BoxK w1 (w.heap.size) [a0_0, a0_1, a0_2, a0_3] 24) := K0_0.out.on hb
  have BB1 : Hid (Below w.heap.size w w1) := BB0.out.trans (hb.mono BB0.out.size)
  have L0 : Hid (w.heap.size + 1 ≤ w1.heap.size) := by have := hb.size; (try simp at this); show _ ≤ _; omega
  clear hb K0_0 BB0
  obtain ⟨q0, hq0⟩ : ∃ nz : Nat, nz = heap.wt T := ⟨_, rfl⟩
  rw [← hq0]
  have HQ0 : Hid (q0 = heap.wt T) := hq0
  clear hq0
  by_cases hw0 : q0 ≤ 1048576
  · have hl : left q0 (1048576) = 1048576 - (q0 : Nat) := by unfold left; rw [if_pos (by omega)]
    rw [hl]
    have t1 : decide (((1048576 : Int) - (q0 : Nat) : Int) < 0) = false := by simp; omega
    clear hl
    have HW : Hid ((heap.wt T) ≤ 1048576) := by have := HQ0.out; show _ ≤ _; omega
    have cK00 : w1.cell? ⟨w.heap.size, 0, none⟩ = some a0_0 := K0_1.out.cell 0 rfl
    have cK01 : w1.cell? ⟨w.heap.size, 1, none⟩ = some a0_1 := K0_1.out.cell 1 rfl
    have cK02 : w1.cell? ⟨w.heap.size, 2, none⟩ = some a0_2 := K0_1.out.cell 2 rfl
    have cK03 : w1.cell? ⟨w.heap.size, 3, none⟩ = some a0_3 := K0_1.out.cell 3 rfl
    go_wp2_with fail
    refine (heap.toP_any T _ _ (by have := HW.out; omega) (AR0.out _ BB1.out)).mono ?_
    rintro e w2 ⟨⟨k2, rfl, r2⟩, hb⟩
    clear cK00 cK01 cK02 cK03
    have K0_2 : Hid (BoxK w2 (w.heap.size) [a0_0, a0_1, a0_2, a0_3] 24) := K0_1.out.on hb
    have BB2 : Hid (Below w.heap.size w w2) := BB1.out.trans (hb.mono BB1.out.size)
    have WC0_2 : Hid (ItmR heap.heapSp w2 k2 w1.heap.size w2.heap.size T) := ⟨Nat.le_refl _, r2⟩
    have L1 : Hid (w1.heap.size ≤ w2.heap.size) := hb.size
    clear hb r2 K0_1 BB1
    go_wp2_with fail
    refine (heap.specBlockAt T p _ _ HW.out hi1 hj1 (heap.heapSh.mono (heap.heapp_rep WC0_2.out.rep) fun b hb => by have := WC0_2.out.top; have := L0.out; have := L1.out; omega)).mono ?_
    rintro e w3 ⟨⟨u3_2, rfl, r3_2⟩, hb⟩
    have K0_3 : Hid (BoxK w3 (w.heap.size) [a0_0, a0_1, a0_2, a0_3] 24) := K0_2.out.on hb
    have BB3 : Hid (Below w.heap.size w w3) := BB2.out.trans (hb.mono BB2.out.size)
    have L2 : Hid (w2.heap.size ≤ w3.heap.size) := hb.size
    have WR2_3 : Hid (ItmR ints.intsSp w3 [u3_2] w2.heap.size w3.heap.size (heap.blockF T p).2.2.1) := ⟨Nat.le_refl _, r3_2⟩
    clear hb r3_2 K0_2 BB2
    have cK00 : w3.cell? ⟨w.heap.size, 0, none⟩ = some a0_0 := K0_3.out.cell 0 rfl
    have cK01 : w3.cell? ⟨w.heap.size, 1, none⟩ = some a0_1 := K0_3.out.cell 1 rfl
    have cK02 : w3.cell? ⟨w.heap.size, 2, none⟩ = some a0_2 := K0_3.out.cell 2 rfl
    have cK03 : w3.cell? ⟨w.heap.size, 3, none⟩ = some a0_3 := K0_3.out.cell 3 rfl
    go_wp2_with fail
    refine (heap.toP_any T _ _ (by have := HW.out; omega) (AR0.out _ BB3.out)).mono ?_
    rintro e w4 ⟨⟨k4, rfl, r4⟩, hb⟩
    clear cK00 cK01 cK02 cK03
    obtain ⟨x4_0, x4_1, x4_2, x4_3, rfl⟩ := heap.heap_list (heap.heapp_rep r4)
    have ox4_0 := heap.heapSp.one r4 x4_0 (by simp)
    have ox4_1 := heap.heapSp.one r4 x4_1 (by simp)
    have ox4_2 := heap.heapSp.one r4 x4_2 (by simp)
    have ox4_3 := heap.heapSp.one r4 x4_3 (by simp)
    have sox4_0 := fun (a : Addr) (m : Mode) (w : World) => run_store Try.prog w a x4_0 m ox4_0
    have sox4_1 := fun (a : Addr) (m : Mode) (w : World) => run_store Try.prog w a x4_1 m ox4_1
    have sox4_2 := fun (a : Addr) (m : Mode) (w : World) => run_store Try.prog w a x4_2 m ox4_2
    have sox4_3 := fun (a : Addr) (m : Mode) (w : World) => run_store Try.prog w a x4_3 m ox4_3
    obtain ⟨w4b, e4⟩ : ∃ x, x = w4.alloc (.cells #[x4_0, x4_1, x4_2, x4_3] 27) := ⟨_, rfl⟩
    have hA : Below w4.heap.size w4 w4b := by rw [e4]; exact (Below.refl _ _).alloc (Nat.le_refl _) _
    have z4 : w4b.heap.size = w4.heap.size + 1 := by rw [e4]; simp
    have K0_4 : Hid (BoxK w4b (w.heap.size) [a0_0, a0_1, a0_2, a0_3] 24) := (K0_3.out.on hb).on hA
    have WR2_4 : Hid (ItmR ints.intsSp w4b [u3_2] w2.heap.size w3.heap.size (heap.blockF T p).2.2.1) := (WR2_3.out.on hb).on hA
    have BB4 : Hid (Below w.heap.size w w4b) := (BB3.out.trans (hb.mono BB3.out.size)).trans (hA.mono (Nat.le_trans BB3.out.size hb.size))
    have L3 : Hid (w3.heap.size ≤ w4.heap.size) := hb.size
    have L4 : Hid (w4.heap.size + 1 ≤ w4b.heap.size) := by show _ ≤ _; omega
    have X0_4 : Hid (Itm heap.heapSp w4b w4.heap.size [x4_0, x4_1, x4_2, x4_3] 27 w3.heap.size w4.heap.size T) := by rw [e4]; exact Itm.new r4 (Nat.le_refl _) rfl
    clear hb hA z4 r4 K0_3 WR2_3 BB3
    have cX00 : (w4.alloc (.cells #[x4_0, x4_1, x4_2, x4_3] 27)).cell? ⟨w4.heap.size, 0, none⟩ = some x4_0 := by have := X0_4.out.cell 0 (v := x4_0) rfl; rwa [e4] at this
    have cX01 : (w4.alloc (.cells #[x4_0, x4_1, x4_2, x4_3] 27)).cell? ⟨w4.heap.size, 1, none⟩ = some x4_1 := by have := X0_4.out.cell 1 (v := x4_1) rfl; rwa [e4] at this
    have cX02 : (w4.alloc (.cells #[x4_0, x4_1, x4_2, x4_3] 27)).cell? ⟨w4.heap.size, 2, none⟩ = some x4_2 := by have := X0_4.out.cell 2 (v := x4_2) rfl; rwa [e4] at this
    have cX03 : (w4.alloc (.cells #[x4_0, x4_1, x4_2, x4_3] 27)).cell? ⟨w4.heap.size, 3, none⟩ = some x4_3 := by have := X0_4.out.cell 3 (v := x4_3) rfl; rwa [e4] at this
    go_wp2_with fail
    rw [← e4]
    refine (heap.implBlockAt T p _ _ HW.out hi1 hj1 (heap.heapSh.mono (heap.heapp_rep X0_4.out.rep) fun b hb => by have := X0_4.out.top; have := L0.out; have := L1.out; have := L2.out; have := L3.out; have := L4.out; omega)).mono ?_
    rintro e w5 ⟨⟨u5_2, rfl, r5_2⟩, hb⟩
    clear cX00 cX01 cX02 cX03 e4
    have K0_5 : Hid (BoxK w5 (w.heap.size) [a0_0, a0_1, a0_2, a0_3] 24) := K0_4.out.on hb
    have WR2_5 : Hid (ItmR ints.intsSp w5 [u3_2] w2.heap.size w3.heap.size (heap.blockF T p).2.2.1) := WR2_4.out.on hb
    have X0_5 : Hid (Itm heap.heapSp w5 w4.heap.size [x4_0, x4_1, x4_2, x4_3] 27 w3.heap.size w4.heap.size T) := X0_4.out.on hb
    have BB5 : Hid (Below w.heap.size w w5) := BB4.out.trans (hb.mono BB4.out.size)
    have L5 : Hid (w4b.heap.size ≤ w5.heap.size) := hb.size
    have GR2_5 : Hid (ItmR ints.intsSp w5 [u5_2] w4b.heap.size w5.heap.size (heap.blockF T p).2.2.1) := ⟨Nat.le_refl _, r5_2⟩
    clear hb r5_2 K0_4 WR2_4 X0_4 BB4
    go_wp2_with fail
    refine (ints.eq_any (heap.blockF T p).2.2.1 _ _ _ (ints.intsSh.mono (ints.intsp_rep GR2_5.out.rep) fun b hb => by have := GR2_5.out.top; have := L0.out; have := L1.out; have := L2.out; have := L3.out; have := L4.out; have := L5.out; omega) (ints.intsSh.mono (ints.intsp_rep WR2_5.out.rep) fun b hb => by have := WR2_5.out.top; have := L0.out; have := L1.out; have := L2.out; have := L3.out; have := L4.out; have := L5.out; omega)).mono ?_
    rintro e w6 ⟨rfl, hb⟩
    have K0_6 : Hid (BoxK w6 (w.heap.size) [a0_0, a0_1, a0_2, a0_3] 24) := K0_5.out.on hb
    have WR2_6 : Hid (ItmR ints.intsSp w6 [u3_2] w2.heap.size w3.heap.size (heap.blockF T p).2.2.1) := WR2_5.out.on hb
    have X0_6 : Hid (Itm heap.heapSp w6 w4.heap.size [x4_0, x4_1, x4_2, x4_3] 27 w3.heap.size w4.heap.size T) := X0_5.out.on hb
    have GR2_6 : Hid (ItmR ints.intsSp w6 [u5_2] w4b.heap.size w5.heap.size (heap.blockF T p).2.2.1) := GR2_5.out.on hb
    have BB6 : Hid (Below w.heap.size w w6) := BB5.out.trans (hb.mono BB5.out.size)
    have L6 : Hid (w5.heap.size ≤ w6.heap.size) := hb.size
    clear hb K0_5 WR2_5 X0_5 GR2_5 BB5
    go_wp2
    have cK00 : w6.cell? ⟨w.heap.size, 0, none⟩ = some a0_0 := K0_6.out.cell 0 rfl
    have cK01 : w6.cell? ⟨w.heap.size, 1, none⟩ = some a0_1 := K0_6.out.cell 1 rfl
    have cK02 : w6.cell? ⟨w.heap.size, 2, none⟩ = some a0_2 := K0_6.out.cell 2 rfl
    have cK03 : w6.cell? ⟨w.heap.size, 3, none⟩ = some a0_3 := K0_6.out.cell 3 rfl
    have cX00 : w6.cell? ⟨w4.heap.size, 0, none⟩ = some x4_0 := X0_6.out.cell 0 rfl
    have cX01 : w6.cell? ⟨w4.heap.size, 1, none⟩ = some x4_1 := X0_6.out.cell 1 rfl
    have cX02 : w6.cell? ⟨w4.heap.size, 2, none⟩ = some x4_2 := X0_6.out.cell 2 rfl
    have cX03 : w6.cell? ⟨w4.heap.size, 3, none⟩ = some x4_3 := X0_6.out.cell 3 rfl
    have hcall := heap.toP_any T _ w6.drew (by have := HW.out; omega) (AR0.out _ BB6.out.drew)
    go_region_with (first | (go_at_call 9; refine hcall.mono ?_; rintro e w7 ⟨⟨k7, rfl, r7⟩, hb⟩; have cy0 := (hb.cell (p := ⟨w4.heap.size, 0, none⟩) (show w4.heap.size < w6.heap.size from X0_6.out.lt)).trans cX00; have cy1 := (hb.cell (p := ⟨w4.heap.size, 1, none⟩) (show w4.heap.size < w6.heap.size from X0_6.out.lt)).trans cX01; have cy2 := (hb.cell (p := ⟨w4.heap.size, 2, none⟩) (show w4.heap.size < w6.heap.size from X0_6.out.lt)).trans cX02; have cy3 := (hb.cell (p := ⟨w4.heap.size, 3, none⟩) (show w4.heap.size < w6.heap.size from X0_6.out.lt)).trans cX03) | (go_at_call 11; refine (heap.eq_any T [x4_0, x4_1, x4_2, x4_3] k7 _ (heap.heapSh.mono (heap.heapp_rep ((X0_6.out.on ((Below.refl _ w6).drew.trans hb)).rep)) (fun b hlt => by have := X0_6.out.top; have : w6.heap.size ≤ w7.heap.size := hb.size; omega)) (heap.heapSh.mono (heap.heapp_rep r7) fun b hlt => hlt.2)).mono ?_; rintro e w8 ⟨rfl, hb2⟩))
    all_goals
      have hbb : Below w6.heap.size w6 w8 := ((Below.refl _ w6).drew.trans hb).trans (hb2.mono hb.size)
      have K0_8 : Hid (BoxK w8 (w.heap.size) [a0_0, a0_1, a0_2, a0_3] 24) := K0_6.out.on hbb
      have WR2_8 : Hid (ItmR ints.intsSp w8 [u3_2] w2.heap.size w3.heap.size (heap.blockF T p).2.2.1) := WR2_6.out.on hbb
      have X0_8 : Hid (Itm heap.heapSp w8 w4.heap.size [x4_0, x4_1, x4_2, x4_3] 27 w3.heap.size w4.heap.size T) := X0_6.out.on hbb
      have GR2_8 : Hid (ItmR ints.intsSp w8 [u5_2] w4b.heap.size w5.heap.size (heap.blockF T p).2.2.1) := GR2_6.out.on hbb
      have BB8 : Hid (Below w.heap.size w w8) := BB6.out.trans (hbb.mono BB6.out.size)
      have L7 : Hid (w6.heap.size ≤ w8.heap.size) := hbb.size
      clear hb hb2 hbb r7 hcall cK00 cK01 cK02 cK03 cX00 cX01 cX02 cX03 cy0 cy1 cy2 cy3 K0_6 WR2_6 X0_6 GR2_6 BB6
      have hcn0 : heap.cntT T ≤ 1073741824 := heap.cntT_bound T (by have := HW.out; omega)
      have cX00 : w8.cell? ⟨w4.heap.size, 0, none⟩ = some x4_0 := X0_8.out.cell 0 rfl
      have cX01 : w8.cell? ⟨w4.heap.size, 1, none⟩ = some x4_1 := X0_8.out.cell 1 rfl
      have cX02 : w8.cell? ⟨w4.heap.size, 2, none⟩ = some x4_2 := X0_8.out.cell 2 rfl
      have cX03 : w8.cell? ⟨w4.heap.size, 3, none⟩ = some x4_3 := X0_8.out.cell 3 rfl
      go_wp2_with fail
      refine (heap.markT_any T _ _ (1) (fun b => w3.heap.size ≤ b ∧ b < w4.heap.size) (by omega) (by omega) (fun b hb => by have := X0_8.out.top; have := L0.out; have := L1.out; have := L2.out; have := L3.out; have := L4.out; have := L5.out; have := L6.out; have := L7.out; omega) X0_8.out.rep).mono ?_
      rintro e w9 ⟨rfl, ho, -⟩
      clear cX00 cX01 cX02 cX03
      have K0_9 : Hid (BoxK w9 (w.heap.size) [a0_0, a0_1, a0_2, a0_3] 24) := K0_8.out.only ho (fun hq => by have := L0.out; have := L1.out; have := L2.out; have := L3.out; have := L4.out; have := L5.out; have := L6.out; have := L7.out; omega)
      have WR2_9 : Hid (ItmR ints.intsSp w9 [u3_2] w2.heap.size w3.heap.size (heap.blockF T p).2.2.1) := WR2_8.out.only ho (fun b h1 h2 hq => by have := L0.out; have := L1.out; have := L2.out; have := L3.out; have := L4.out; have := L5.out; have := L6.out; have := L7.out; omega)
      have GR2_9 : Hid (ItmR ints.intsSp w9 [u5_2] w4b.heap.size w5.heap.size (heap.blockF T p).2.2.1) := GR2_8.out.only ho (fun b h1 h2 hq => by have := L0.out; have := L1.out; have := L2.out; have := L3.out; have := L4.out; have := L5.out; have := L6.out; have := L7.out; omega)
      have BB9 : Hid (Below w.heap.size w w9) := BB8.out.trans (ho.below BB8.out.size fun b hb => by have := L0.out; have := L1.out; have := L2.out; have := L3.out; have := L4.out; have := L5.out; have := L6.out; have := L7.out; omega)
      have L8 : Hid (w8.heap.size ≤ w9.heap.size) := ho.size
      clear ho X0_8 K0_8 WR2_8 GR2_8 BB8
      obtain ⟨n0, hn0⟩ : ∃ nz : Nat, nz = heap.cntT T := ⟨_, rfl⟩
      rw [← hn0] at hcn0 ⊢
      clear hn0
      have t2 : decide (((1 : Int) + (n0 : Nat) : Int) < 0) = false := by simp; omega
      go_wp2_with fail
      refine (ints.eq_any (heap.blockF T p).2.2.1 _ _ _ (ints.intsSh.mono (ints.intsp_rep GR2_9.out.rep) fun b hb => by have := GR2_9.out.top; have := L0.out; have := L1.out; have := L2.out; have := L3.out; have := L4.out; have := L5.out; have := L6.out; have := L7.out; have := L8.out; omega) (ints.intsSh.mono (ints.intsp_rep WR2_9.out.rep) fun b hb => by have := WR2_9.out.top; have := L0.out; have := L1.out; have := L2.out; have := L3.out; have := L4.out; have := L5.out; have := L6.out; have := L7.out; have := L8.out; omega)).mono ?_
      rintro e w10 ⟨rfl, hb⟩
      have K0_10 : Hid (BoxK w10 (w.heap.size) [a0_0, a0_1, a0_2, a0_3] 24) := K0_9.out.on hb
      have WR2_10 : Hid (ItmR ints.intsSp w10 [u3_2] w2.heap.size w3.heap.size (heap.blockF T p).2.2.1) := WR2_9.out.on hb
      have GR2_10 : Hid (ItmR ints.intsSp w10 [u5_2] w4b.heap.size w5.heap.size (heap.blockF T p).2.2.1) := GR2_9.out.on hb
      have BB10 : Hid (Below w.heap.size w w10) := BB9.out.trans (hb.mono BB9.out.size)
      have L9 : Hid (w9.heap.size ≤ w10.heap.size) := hb.size
      clear hb K0_9 WR2_9 GR2_9 BB9
      have hcg2 : (heap.blockF T p).2.2.1.length ≤ 1073741824 := heap.block_bound T p
      go_wp2_with fail
      refine (ints.mark_any (heap.blockF T p).2.2.1 _ _ (1) (fun b => w4b.heap.size ≤ b ∧ b < w5.heap.size) (by omega) (by omega) (fun b hb => by have := GR2_10.out.top; have := L0.out; have := L1.out; have := L2.out; have := L3.out; have := L4.out; have := L5.out; have := L6.out; have := L7.out; have := L8.out; have := L9.out; omega) GR2_10.out.rep).mono ?_
      rintro e w11 ⟨rfl, hr, ho⟩
      have K0_11 : Hid (BoxK w11 (w.heap.size) [a0_0, a0_1, a0_2, a0_3] 24) := K0_10.out.only ho (fun hq => by have := L0.out; have := L1.out; have := L2.out; have := L3.out; have := L4.out; have := L5.out; have := L6.out; have := L7.out; have := L8.out; have := L9.out; omega)
      have WR2_11 : Hid (ItmR ints.intsSp w11 [u3_2] w2.heap.size w3.heap.size (heap.blockF T p).2.2.1) := WR2_10.out.only ho (fun b h1 h2 hq => by have := L0.out; have := L1.out; have := L2.out; have := L3.out; have := L4.out; have := L5.out; have := L6.out; have := L7.out; have := L8.out; have := L9.out; omega)
      have BB11 : Hid (Below w.heap.size w w11) := BB10.out.trans (ho.below BB10.out.size fun b hb => by have := L0.out; have := L1.out; have := L2.out; have := L3.out; have := L4.out; have := L5.out; have := L6.out; have := L7.out; have := L8.out; have := L9.out; omega)
      have L10 : Hid (w10.heap.size ≤ w11.heap.size) := ho.size
      have GR2_11 : Hid (ItmR ints.intsSh w11 [u5_2] w4b.heap.size w5.heap.size (ints.mks 1 (heap.blockF T p).2.2.1)) := ⟨Nat.le_trans GR2_10.out.top ho.size, ints.intsp_rep hr⟩
      clear ho hr GR2_10 K0_10 WR2_10 BB10
      obtain ⟨m2, hm2⟩ : ∃ nz : Nat, nz = (heap.blockF T p).2.2.1.length := ⟨_, rfl⟩
      have HM2 : Hid (m2 = (heap.blockF T p).2.2.1.length) := hm2
      rw [← hm2] at hcg2 ⊢
      clear hm2
      go_wp2_with fail
      refine (ints.held_any (heap.blockF T p).2.2.1 _ _ (1) (by omega) (by rw [← HM2.out]; omega) (ints.intsSh.mono GR2_11.out.rep fun b hb => by have := GR2_11.out.top; have := L0.out; have := L1.out; have := L2.out; have := L3.out; have := L4.out; have := L5.out; have := L6.out; have := L7.out; have := L8.out; have := L9.out; have := L10.out; omega)).mono ?_
      rw [← HM2.out]
      rintro e w12 ⟨rfl, hb⟩
      have K0_12 : Hid (BoxK w12 (w.heap.size) [a0_0, a0_1, a0_2, a0_3] 24) := K0_11.out.on hb
      have WR2_12 : Hid (ItmR ints.intsSp w12 [u3_2] w2.heap.size w3.heap.size (heap.blockF T p).2.2.1) := WR2_11.out.on hb
      have GR2_12 : Hid (ItmR ints.intsSh w12 [u5_2] w4b.heap.size w5.heap.size (ints.mks 1 (heap.blockF T p).2.2.1)) := GR2_11.out.on hb
      have BB12 : Hid (Below w.heap.size w w12) := BB11.out.trans (hb.mono BB11.out.size)
      have L11 : Hid (w11.heap.size ≤ w12.heap.size) := hb.size
      clear hb K0_11 WR2_11 GR2_11 BB11
      have t22 : decide (((1 : Int) + (m2 : Nat) : Int) < 0) = false := by simp; omega
      have cK00 : w12.cell? ⟨w.heap.size, 0, none⟩ = some a0_0 := K0_12.out.cell 0 rfl
      have cK01 : w12.cell? ⟨w.heap.size, 1, none⟩ = some a0_1 := K0_12.out.cell 1 rfl
      have cK02 : w12.cell? ⟨w.heap.size, 2, none⟩ = some a0_2 := K0_12.out.cell 2 rfl
      have cK03 : w12.cell? ⟨w.heap.size, 3, none⟩ = some a0_3 := K0_12.out.cell 3 rfl
      go_wp2_with fail
      refine (heap.toP_any T _ _ (by have := HW.out; omega) (AR0.out _ BB12.out)).mono ?_
      rintro e w13 ⟨⟨k13, rfl, r13⟩, hb⟩
      clear cK00 cK01 cK02 cK03
      have K0_13 : Hid (BoxK w13 (w.heap.size) [a0_0, a0_1, a0_2, a0_3] 24) := K0_12.out.on hb
      have WR2_13 : Hid (ItmR ints.intsSp w13 [u3_2] w2.heap.size w3.heap.size (heap.blockF T p).2.2.1) := WR2_12.out.on hb
      have GR2_13 : Hid (ItmR ints.intsSh w13 [u5_2] w4b.heap.size w5.heap.size (ints.mks 1 (heap.blockF T p).2.2.1)) := GR2_12.out.on hb
      have BB13 : Hid (Below w.heap.size w w13) := BB12.out.trans (hb.mono BB12.out.size)
      have HC0_13 : Hid (ItmR heap.heapSp w13 k13 w12.heap.size w13.heap.size T) := ⟨Nat.le_refl _, r13⟩
      have L12 : Hid (w12.heap.size ≤ w13.heap.size) := hb.size
      clear hb r13 K0_12 WR2_12 GR2_12 BB12
      go_wp2_with fail
      refine (heap.implBlockAt T p _ _ HW.out hi1 hj1 (heap.heapSh.mono (heap.heapp_rep HC0_13.out.rep) fun b hb => by have := HC0_13.out.top; have := L0.out; have := L1.out; have := L2.out; have := L3.out; have := L4.out; have := L5.out; have := L6.out; have := L7.out; have := L8.out; have := L9.out; have := L10.out; have := L11.out; have := L12.out; omega)).mono ?_
      rintro e w14 ⟨⟨u14_2, rfl, r14_2⟩, hb⟩
      have K0_14 : Hid (BoxK w14 (w.heap.size) [a0_0, a0_1, a0_2, a0_3] 24) := K0_13.out.on hb
      have WR2_14 : Hid (ItmR ints.intsSp w14 [u3_2] w2.heap.size w3.heap.size (heap.blockF T p).2.2.1) := WR2_13.out.on hb
      have GR2_14 : Hid (ItmR ints.intsSh w14 [u5_2] w4b.heap.size w5.heap.size (ints.mks 1 (heap.blockF T p).2.2.1)) := GR2_13.out.on hb
      have BB14 : Hid (Below w.heap.size w w14) := BB13.out.trans (hb.mono BB13.out.size)
      have L13 : Hid (w13.heap.size ≤ w14.heap.size) := hb.size
      have HR2_14 : Hid (ItmR ints.intsSp w14 [u14_2] w13.heap.size w14.heap.size (heap.blockF T p).2.2.1) := ⟨Nat.le_refl _, r14_2⟩
      clear hb r14_2 K0_13 WR2_13 GR2_13 BB13
      go_wp2_with fail
      refine (ints.eq_any (heap.blockF T p).2.2.1 _ _ _ (ints.intsSh.mono (ints.intsp_rep HR2_14.out.rep) fun b hb => by have := HR2_14.out.top; have := L0.out; have := L1.out; have := L2.out; have := L3.out; have := L4.out; have := L5.out; have := L6.out; have := L7.out; have := L8.out; have := L9.out; have := L10.out; have := L11.out; have := L12.out; have := L13.out; omega) (ints.intsSh.mono (ints.intsp_rep WR2_14.out.rep) fun b hb => by have := WR2_14.out.top; have := L0.out; have := L1.out; have := L2.out; have := L3.out; have := L4.out; have := L5.out; have := L6.out; have := L7.out; have := L8.out; have := L9.out; have := L10.out; have := L11.out; have := L12.out; have := L13.out; omega)).mono ?_
      rintro e w15 ⟨rfl, hb⟩
      have K0_15 : Hid (BoxK w15 (w.heap.size) [a0_0, a0_1, a0_2, a0_3] 24) := K0_14.out.on hb
      have WR2_15 : Hid (ItmR ints.intsSp w15 [u3_2] w2.heap.size w3.heap.size (heap.blockF T p).2.2.1) := WR2_14.out.on hb
      have GR2_15 : Hid (ItmR ints.intsSh w15 [u5_2] w4b.heap.size w5.heap.size (ints.mks 1 (heap.blockF T p).2.2.1)) := GR2_14.out.on hb
      have HR2_15 : Hid (ItmR ints.intsSp w15 [u14_2] w13.heap.size w14.heap.size (heap.blockF T p).2.2.1) := HR2_14.out.on hb
      have BB15 : Hid (Below w.heap.size w w15) := BB14.out.trans (hb.mono BB14.out.size)
      have L14 : Hid (w14.heap.size ≤ w15.heap.size) := hb.size
      clear hb K0_14 WR2_14 GR2_14 HR2_14 BB14
      go_wp2_with fail
      refine (ints.held_any (heap.blockF T p).2.2.1 _ _ (1) (by omega) (by rw [← HM2.out]; omega) (ints.intsSh.mono GR2_15.out.rep fun b hb => by have := GR2_15.out.top; have := L0.out; have := L1.out; have := L2.out; have := L3.out; have := L4.out; have := L5.out; have := L6.out; have := L7.out; have := L8.out; have := L9.out; have := L10.out; have := L11.out; have := L12.out; have := L13.out; have := L14.out; omega)).mono ?_
      rw [← HM2.out]
      rintro e w16 ⟨rfl, hb⟩
      have K0_16 : Hid (BoxK w16 (w.heap.size) [a0_0, a0_1, a0_2, a0_3] 24) := K0_15.out.on hb
      have WR2_16 : Hid (ItmR ints.intsSp w16 [u3_2] w2.heap.size w3.heap.size (heap.blockF T p).2.2.1) := WR2_15.out.on hb
      have GR2_16 : Hid (ItmR ints.intsSh w16 [u5_2] w4b.heap.size w5.heap.size (ints.mks 1 (heap.blockF T p).2.2.1)) := GR2_15.out.on hb
      have BB16 : Hid (Below w.heap.size w w16) := BB15.out.trans (hb.mono BB15.out.size)
      have L15 : Hid (w15.heap.size ≤ w16.heap.size) := hb.size
      clear hb K0_15 WR2_15 GR2_15 BB15
      have t26 : decide (((1 : Int) + (m2 : Nat) : Int) < 0) = false := by simp; omega
      go_wp2
      go_ret
      exact ⟨rfl, BB16.out⟩
  · have hl : left q0 (1048576) = -1 := by unfold left; rw [if_neg (by omega)]
    rw [hl]
    go_wp2
    go_ret
    exact ⟨rfl, BB1.out⟩

set_option maxRecDepth 100000 in
theorem lifted (os : Os) (started : os.Started) (H : Type) (enc : TypeId × Value → H) :
    ReturnsInHanded {} Try.checked os 4 .any (Rows.fnExactBlockAtSpec.pre6 enc Try.prog Try.f4 Rows.fnExactBlockAtRow.domain false) (Rows.fnExactBlockAtSpec.post enc Try.prog Try.f4 false true false false) := by
  refine returnsInHanded_of_change (C := Try.checked) own started (by kernel_rfl) Try.func4
    (ChangeSpec.witness6 (enc := enc) (C := Try.checked) false ⟨#[], #[.agg #[.slice none 0 0, .int .i64 0, .int .i64 0, .int .i64 0], .int .i64 0], []⟩ 8 (by kernel_rfl) (by kernel_rfl) (by kernel_rfl) (by kernel_rfl)) ?_
  intro W base args ds gs before hval0 hW hcnd _
  have hval : ∀ (j : Nat) t v, Try.f4.params[j]? = some t → args[j]? = some v → Value.okWide Try.prog W .any base t v := hval0
  have hW' := hW
  obtain ⟨p, q, hA0, hV, rfl, hfz, hnd⟩ := hW
  have hA : DataW.TrodAll enc Try.prog W 0 (fun _ => true) true Try.f4.params.toList args.toList ds p := hA0
  rw [Try.params4] at hA hval
  obtain ⟨v0, vs0, d0, ds0, p0, q0, hargs, rfl, rfl, h0, r0⟩ := trodAll_cons hA
  obtain ⟨v1, vs1, d1, ds1, p1, q1, rfl, rfl, rfl, h1, r1⟩ := trodAll_cons r0
  obtain ⟨rfl, rfl, rfl⟩ := trodAll_nil r1
  obtain rfl : args = #[v0, v1] := by cases args; simp_all
  obtain ⟨rfl, rfl⟩ := trodVars_none hV
  have k0 := h0
  have lt0 : ∀ x ∈ p0, x.block < W.heap.size := by obtain ⟨m, hm⟩ := k0; exact DataW.trod_lt m _ _ _ hm
  obtain ⟨cs0, T, rfl, hT0⟩ := heap.arg_heap (hval 0 24 v0 rfl rfl) h0
  obtain ⟨p, rfl, rfl, rfl, hx1⟩ := open_int Try.underlying3 (hval 1 3 v1 rfl rfl) h1
  clear hA0 hval0
  refine (walk T p cs0 W (by have := bounds_i64 hx1; omega) (by have := bounds_i64 hx1; omega) hT0).mono fun e W' ⟨he, bel⟩ => ?_
  subst he
  exact ⟨_, rfl, _, _, _, [], _, [], hW', trodAll_mk1 (shut_bool Try.underlying4 _), (trodAll_cons_mk (Below.trod laidOut (by kernel_rfl) (of_decide_eq_true (by kernel_rfl)) k0 bel lt0) (trodAll_cons_mk (shut_int Try.underlying3 hx1) trodAll_mk0)), rfl, bel.frame _, fun h => by cases h⟩

theorem over : Rows.fnExactBlockAtRow.holds Try.pinned (OpenSpec.ofChange Rows.fnExactBlockAtSpec) :=
  OpenClaim.holds_of_wide 4 Try.f4 rfl rfl rfl rfl rfl rfl rfl ⟨rfl, rfl, rfl, rfl, rfl⟩ rfl rfl rfl rfl rfl (by kernel_rfl) Try.func4 (by kernel_rfl)
    (of_decide_eq_true (by kernel_rfl)) (by unfold Func.isWrapper; first | (rw [if_pos (by decide +kernel)]; kernel_rfl) | (rw [if_neg (by decide +kernel)]; exact ⟨rfl, rfl⟩))
    (fun os started H enc _ => lifted os started H enc)

/-- THE STATEMENT. -/
theorem proved : Rows.FnExactBlockAtSaid :=
  over
#print axioms proved
end Go.Proofs.Ytempmfpnngbbeab.fnExactBlockAt
