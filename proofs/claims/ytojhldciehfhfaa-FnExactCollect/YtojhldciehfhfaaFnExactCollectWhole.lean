/-
  At every argument the program's function answers as its model, writes nothing into an argument, and its answer owns its memory; the law's call returns true, and the arguments read as they read before. No condition.
-/
import Derived.Test.YtojhldciehfhfaaRows
import Derived.ProofKit
import Derived.Deep.DeepHandedRow
import Derived.ChangeOld
import Derived.Carry
import Derived.Test.YtojhldciehfhfaaB1
import Derived.Test.YtojhldciehfhfaaB2
import Derived.Test.YtojhldciehfhfaaB3
import Derived.Test.YtojhldciehfhfaaB4
import Derived.Test.YtojhldciehfhfaaB5
import Derived.Test.YtojhldciehfhfaaB6
import Derived.Test.YtojhldciehfhfaaB7
import Derived.Test.YtojhldciehfhfaaB8
import Derived.Test.YtojhldciehfhfaaB9
import Derived.Test.YtojhldciehfhfaaB10
import Derived.Test.YtojhldciehfhfaaB11
import Derived.Test.YtojhldciehfhfaaB12
import Derived.Test.YtojhldciehfhfaaB13
import Derived.Test.YtojhldciehfhfaaB14
import Derived.Test.YtojhldciehfhfaaB15
import Derived.Test.YtojhldciehfhfaaB16
import Derived.Test.YtojhldciehfhfaaB17
import Derived.Test.YtojhldciehfhfaaB18
import Derived.Test.YtojhldciehfhfaaB19
import Derived.Test.YtojhldciehfhfaaB20
import Derived.Test.YtojhldciehfhfaaB21
import Derived.Test.YtojhldciehfhfaaB22
import Derived.Test.YtojhldciehfhfaaB23
import Derived.Test.YtojhldciehfhfaaB24
import Derived.Test.YtojhldciehfhfaaB25
import Derived.Test.YtojhldciehfhfaaB26
import Derived.Test.YtojhldciehfhfaaB27
namespace Go.Proofs.Ytojhldciehfhfaa.fnExactCollect
open Go.ChangeShapes Go.WideShapes Go.ChangeAt Go.RowKit Go.Proofs.Ytojhldciehfhfaa.rose Go.Proofs.Ytojhldciehfhfaa
open Go.ChangeMaps (open_string shut_string)
set_option linter.unusedVariables false

theorem own : ownKnob Try.prog.godebug = none := by kernel_rfl
theorem laidOut : laidOutB Try.prog = true := by kernel_rfl

set_option maxRecDepth 100000 in
set_option maxHeartbeats 8000000 in
theorem walk (T : heap.HeapD) (rs : List Int) (cs0 : List Value) (va1 : Value) (w : World) (h0 : heap.heapSh.rep w (· < w.heap.size) cs0 T) (h1 : ints.intsSh.rep w (· < w.heap.size) [va1] rs) :
    Calls Try.prog 3 #[.agg cs0.toArray, va1] w fun e w' => e = .returned (.bool true) ∧ Below w.heap.size w w' := by
  obtain ⟨a0_0, a0_1, a0_2, a0_3, rfl⟩ := heap.heap_list h0
  have oa0_0 := heap.heapSh.one h0 a0_0 (by simp)
  have oa0_1 := heap.heapSh.one h0 a0_1 (by simp)
  have oa0_2 := heap.heapSh.one h0 a0_2 (by simp)
  have oa0_3 := heap.heapSh.one h0 a0_3 (by simp)
  have AR0 : Hid (∀ W : World, Below w.heap.size w W → heap.heapSh.rep W (· < W.heap.size) [a0_0, a0_1, a0_2, a0_3] T) := fun W hb => heap.heapSh.mono (heap.heapSh.below h0 hb) fun b hlt => Nat.lt_of_lt_of_le hlt hb.size
  have AR1 : Hid (∀ W : World, Below w.heap.size w W → ints.intsSh.rep W (· < W.heap.size) [va1] rs) := fun W hb => ints.intsSh.mono (ints.intsSh.below h1 hb) fun b hlt => Nat.lt_of_lt_of_le hlt hb.size
  obtain ⟨ad1, cp1, hva1⟩ : ∃ a c, va1 = .slice a rs.length c := by obtain ⟨a, c, e⟩ := slice_cells h1; simp only [List.cons.injEq, and_true] at e; exact ⟨a, c, e⟩
  subst hva1
  clear h0
  clear h1
  have BB0 : Hid (Below w.heap.size w (w.alloc (.cells #[a0_0, a0_1, a0_2, a0_3] 24))) := (Below.refl _ w).alloc (by simp) _
  have K0_0 : Hid (BoxK (w.alloc (.cells #[a0_0, a0_1, a0_2, a0_3] 24)) (w.heap.size) [a0_0, a0_1, a0_2, a0_3] 24) := ⟨by exact alloc_top _ _⟩
  by_cases hl1 : (1048576 : Int) < (rs.length : Int)
  · go_enter Try.func3, Try.ntmps3
    go_wp2
    go_ret
    exact ⟨rfl, BB0.out⟩
  have hs1 : (rs.length : Int) ≤ 1048576 := by omega
  have HL1 : Hid (rs.length ≤ 1048576) := by show _ ≤ _; omega
  go_enter Try.func3, Try.ntmps3
  go_wp2_with fail
  refine (heap.sz_any T _ _ 1048576 (by decide) (by decide) (AR0.out _ BB0.out)).mono ?_
  rintro e w1 ⟨rfl, hb⟩
  have K0_1 : Hid (BoxK w1 (w.heap.size) [a0_0, a0_1, a0_2, a0_3] 24) := K0_0.out.on hb
  have BB1 : Hid (Below w.heap.size w w1) := BB0.out.trans (hb.mono BB0.out.size)
  have L0 : Hid (w.heap.size + 1 ≤ w1.heap.size) := by have := hb.size; (try simp at this); show _ ≤ _; omega
  clear hb K0_0 BB0
  obtain ⟨q0, hq0⟩ : ∃ nz : Nat, nz = heap.wt T := ⟨_, rfl⟩
  rw [← hq0]
  have HQ0 : Hid (q0 = heap.wt T) := hq0
  clear hq0
  by_cases hw0 : q0 ≤ 1048576
  · have hl : left q0 (1048576) = 1048576 - (q0 : Nat) := by unfold left; rw [if_pos (by omega)]
    rw [hl]
    have t1 : decide (((1048576 : Int) - (q0 : Nat) : Int) < 0) = false := by simp; omega
    clear hl
    have HW : Hid ((heap.wt T) ≤ 1048576) := by have := HQ0.out; show _ ≤ _; omega
    have cK00 : w1.cell? ⟨w.heap.size, 0, none⟩ = some a0_0 := K0_1.out.cell 0 rfl
    have cK01 : w1.cell? ⟨w.heap.size, 1, none⟩ = some a0_1 := K0_1.out.cell 1 rfl
    have cK02 : w1.cell? ⟨w.heap.size, 2, none⟩ = some a0_2 := K0_1.out.cell 2 rfl
    have cK03 : w1.cell? ⟨w.heap.size, 3, none⟩ = some a0_3 := K0_1.out.cell 3 rfl
    go_wp2_with fail
    refine (heap.toP_any T _ _ (by have := HW.out; omega) (AR0.out _ BB1.out)).mono ?_
    rintro e w2 ⟨⟨k2, rfl, r2⟩, hb⟩
    clear cK00 cK01 cK02 cK03
    have K0_2 : Hid (BoxK w2 (w.heap.size) [a0_0, a0_1, a0_2, a0_3] 24) := K0_1.out.on hb
    have BB2 : Hid (Below w.heap.size w w2) := BB1.out.trans (hb.mono BB1.out.size)
    have WC0_2 : Hid (ItmR heap.heapSp w2 k2 w1.heap.size w2.heap.size T) := ⟨Nat.le_refl _, r2⟩
    have L1 : Hid (w1.heap.size ≤ w2.heap.size) := hb.size
    clear hb r2 K0_1 BB1
    go_wp2_with fail
    refine (ints.toPS_any rs _ _ HL1.out (AR1.out _ BB2.out)).mono ?_
    rintro e w3 ⟨⟨k3, rfl, r3⟩, hb⟩
    have K0_3 : Hid (BoxK w3 (w.heap.size) [a0_0, a0_1, a0_2, a0_3] 24) := K0_2.out.on hb
    have WC0_3 : Hid (ItmR heap.heapSp w3 k2 w1.heap.size w2.heap.size T) := WC0_2.out.on hb
    have BB3 : Hid (Below w.heap.size w w3) := BB2.out.trans (hb.mono BB2.out.size)
    have WC1_3 : Hid (ItmR ints.intsSp w3 [k3] w2.heap.size w3.heap.size rs) := ⟨Nat.le_refl _, r3⟩
    have L2 : Hid (w2.heap.size ≤ w3.heap.size) := hb.size
    clear hb r3 K0_2 WC0_2 BB2
    go_wp2_with fail
    refine (heap.specCollect_std T rs _ _ _ HW.out HL1.out (heap.heapSh.mono (heap.heapp_rep WC0_3.out.rep) fun b hb => by have := WC0_3.out.top; have := L0.out; have := L1.out; have := L2.out; omega) (ints.intsSh.mono (ints.intsp_rep WC1_3.out.rep) fun b hb => by have := WC1_3.out.top; have := L0.out; have := L1.out; have := L2.out; omega)).mono ?_
    rintro e w4 ⟨⟨u4_0, u4_1, lo4_0, hi4_0, lo4_1, hi4_1, rfl, r4_0, r4_1, pa0, pb0, pa1, pb1, dj⟩, hb⟩
    obtain ⟨w4_0, w4_1, w4_2, w4_3, rfl⟩ := heap.heap_list (heap.heapp_rep r4_0)
    have ow4_0 := heap.heapSp.one r4_0 w4_0 (by simp)
    have ow4_1 := heap.heapSp.one r4_0 w4_1 (by simp)
    have ow4_2 := heap.heapSp.one r4_0 w4_2 (by simp)
    have ow4_3 := heap.heapSp.one r4_0 w4_3 (by simp)
    have sow4_0 := fun (a : Addr) (m : Mode) (w : World) => run_store Try.prog w a w4_0 m ow4_0
    have sow4_1 := fun (a : Addr) (m : Mode) (w : World) => run_store Try.prog w a w4_1 m ow4_1
    have sow4_2 := fun (a : Addr) (m : Mode) (w : World) => run_store Try.prog w a w4_2 m ow4_2
    have sow4_3 := fun (a : Addr) (m : Mode) (w : World) => run_store Try.prog w a w4_3 m ow4_3
    obtain ⟨w4b, e4⟩ : ∃ x, x = w4.alloc (.cells #[w4_0, w4_1, w4_2, w4_3] 26) := ⟨_, rfl⟩
    have hA : Below w4.heap.size w4 w4b := by rw [e4]; exact (Below.refl _ _).alloc (Nat.le_refl _) _
    have z4 : w4b.heap.size = w4.heap.size + 1 := by rw [e4]; simp
    have K0_4 : Hid (BoxK w4b (w.heap.size) [a0_0, a0_1, a0_2, a0_3] 24) := (K0_3.out.on hb).on hA
    have BB4 : Hid (Below w.heap.size w w4b) := (BB3.out.trans (hb.mono BB3.out.size)).trans (hA.mono (Nat.le_trans BB3.out.size hb.size))
    have L3 : Hid (w3.heap.size ≤ w4.heap.size) := hb.size
    have L4 : Hid (w4.heap.size + 1 ≤ w4b.heap.size) := by show _ ≤ _; omega
    have L5 : Hid (w3.heap.size ≤ lo4_0) := pa0
    have L6 : Hid (hi4_0 ≤ w4.heap.size) := pb0
    have L7 : Hid (w3.heap.size ≤ lo4_1) := pa1
    have L8 : Hid (hi4_1 ≤ w4.heap.size) := pb1
    have L9 : Hid (hi4_0 ≤ lo4_1 ∨ hi4_1 ≤ lo4_0) := dj
    have WR0_4 : Hid (Itm heap.heapSp w4b w4.heap.size [w4_0, w4_1, w4_2, w4_3] 26 lo4_0 hi4_0 (heap.collectF T rs).1) := by rw [e4]; exact Itm.new r4_0 (pb0) rfl
    have WR1_4 : Hid (ItmR ints.intsSp w4b [u4_1] lo4_1 hi4_1 (heap.collectF T rs).2) := ItmR.on (wk := w4) ⟨pb1, r4_1⟩ hA
    clear hb hA z4 r4_0 r4_1 dj pa0 pb0 pa1 pb1 K0_3 BB3
    have cK00 : (w4.alloc (.cells #[w4_0, w4_1, w4_2, w4_3] 26)).cell? ⟨w.heap.size, 0, none⟩ = some a0_0 := by have := K0_4.out.cell 0 (v := a0_0) rfl; rwa [e4] at this
    have cK01 : (w4.alloc (.cells #[w4_0, w4_1, w4_2, w4_3] 26)).cell? ⟨w.heap.size, 1, none⟩ = some a0_1 := by have := K0_4.out.cell 1 (v := a0_1) rfl; rwa [e4] at this
    have cK02 : (w4.alloc (.cells #[w4_0, w4_1, w4_2, w4_3] 26)).cell? ⟨w.heap.size, 2, none⟩ = some a0_2 := by have := K0_4.out.cell 2 (v := a0_2) rfl; rwa [e4] at this
    have cK03 : (w4.alloc (.cells #[w4_0, w4_1, w4_2, w4_3] 26)).cell? ⟨w.heap.size, 3, none⟩ = some a0_3 := by have := K0_4.out.cell 3 (v := a0_3) rfl; rwa [e4] at this
    go_wp2_with fail
    rw [← e4]
    refine (heap.toP_any T _ _ (by have := HW.out; omega) (AR0.out _ BB4.out)).mono ?_
    rintro e w5 ⟨⟨k5, rfl, r5⟩, hb⟩
    clear cK00 cK01 cK02 cK03 e4
    obtain ⟨x5_0, x5_1, x5_2, x5_3, rfl⟩ := heap.heap_list (heap.heapp_rep r5)
    have ox5_0 := heap.heapSp.one r5 x5_0 (by simp)
    have ox5_1 := heap.heapSp.one r5 x5_1 (by simp)
    have ox5_2 := heap.heapSp.one r5 x5_2 (by simp)
    have ox5_3 := heap.heapSp.one r5 x5_3 (by simp)
    have sox5_0 := fun (a : Addr) (m : Mode) (w : World) => run_store Try.prog w a x5_0 m ox5_0
    have sox5_1 := fun (a : Addr) (m : Mode) (w : World) => run_store Try.prog w a x5_1 m ox5_1
    have sox5_2 := fun (a : Addr) (m : Mode) (w : World) => run_store Try.prog w a x5_2 m ox5_2
    have sox5_3 := fun (a : Addr) (m : Mode) (w : World) => run_store Try.prog w a x5_3 m ox5_3
    obtain ⟨w5b, e5⟩ : ∃ x, x = w5.alloc (.cells #[x5_0, x5_1, x5_2, x5_3] 26) := ⟨_, rfl⟩
    have hA : Below w5.heap.size w5 w5b := by rw [e5]; exact (Below.refl _ _).alloc (Nat.le_refl _) _
    have z5 : w5b.heap.size = w5.heap.size + 1 := by rw [e5]; simp
    have K0_5 : Hid (BoxK w5b (w.heap.size) [a0_0, a0_1, a0_2, a0_3] 24) := (K0_4.out.on hb).on hA
    have WR0_5 : Hid (Itm heap.heapSp w5b w4.heap.size [w4_0, w4_1, w4_2, w4_3] 26 lo4_0 hi4_0 (heap.collectF T rs).1) := (WR0_4.out.on hb).on hA
    have WR1_5 : Hid (ItmR ints.intsSp w5b [u4_1] lo4_1 hi4_1 (heap.collectF T rs).2) := (WR1_4.out.on hb).on hA
    have BB5 : Hid (Below w.heap.size w w5b) := (BB4.out.trans (hb.mono BB4.out.size)).trans (hA.mono (Nat.le_trans BB4.out.size hb.size))
    have L10 : Hid (w4b.heap.size ≤ w5.heap.size) := hb.size
    have L11 : Hid (w5.heap.size + 1 ≤ w5b.heap.size) := by show _ ≤ _; omega
    have X0_5 : Hid (Itm heap.heapSp w5b w5.heap.size [x5_0, x5_1, x5_2, x5_3] 26 w4b.heap.size w5.heap.size T) := by rw [e5]; exact Itm.new r5 (Nat.le_refl _) rfl
    clear hb hA z5 r5 K0_4 WR0_4 WR1_4 BB4
    go_wp2_with fail
    rw [← e5]
    refine (ints.toPS_any rs _ _ HL1.out (AR1.out _ BB5.out)).mono ?_
    rintro e w6 ⟨⟨k6, rfl, r6⟩, hb⟩
    clear e5
    have K0_6 : Hid (BoxK w6 (w.heap.size) [a0_0, a0_1, a0_2, a0_3] 24) := K0_5.out.on hb
    have WR0_6 : Hid (Itm heap.heapSp w6 w4.heap.size [w4_0, w4_1, w4_2, w4_3] 26 lo4_0 hi4_0 (heap.collectF T rs).1) := WR0_5.out.on hb
    have WR1_6 : Hid (ItmR ints.intsSp w6 [u4_1] lo4_1 hi4_1 (heap.collectF T rs).2) := WR1_5.out.on hb
    have X0_6 : Hid (Itm heap.heapSp w6 w5.heap.size [x5_0, x5_1, x5_2, x5_3] 26 w4b.heap.size w5.heap.size T) := X0_5.out.on hb
    have BB6 : Hid (Below w.heap.size w w6) := BB5.out.trans (hb.mono BB5.out.size)
    have L12 : Hid (w5b.heap.size ≤ w6.heap.size) := hb.size
    have X1_6 : Hid (ItmR ints.intsSp w6 [k6] w5b.heap.size w6.heap.size rs) := ⟨Nat.le_refl _, r6⟩
    clear hb r6 K0_5 WR0_5 WR1_5 X0_5 BB5
    have cX00 : w6.cell? ⟨w5.heap.size, 0, none⟩ = some x5_0 := X0_6.out.cell 0 rfl
    have cX01 : w6.cell? ⟨w5.heap.size, 1, none⟩ = some x5_1 := X0_6.out.cell 1 rfl
    have cX02 : w6.cell? ⟨w5.heap.size, 2, none⟩ = some x5_2 := X0_6.out.cell 2 rfl
    have cX03 : w6.cell? ⟨w5.heap.size, 3, none⟩ = some x5_3 := X0_6.out.cell 3 rfl
    go_wp2_with fail
    refine (heap.implCollect_std T rs _ _ _ HW.out HL1.out (heap.heapSh.mono (heap.heapp_rep X0_6.out.rep) fun b hb => by have := X0_6.out.top; have := L0.out; have := L1.out; have := L2.out; have := L3.out; have := L4.out; have := L5.out; have := L6.out; have := L7.out; have := L8.out; have := L9.out; have := L10.out; have := L11.out; have := L12.out; omega) (ints.intsSh.mono (ints.intsp_rep X1_6.out.rep) fun b hb => by have := X1_6.out.top; have := L0.out; have := L1.out; have := L2.out; have := L3.out; have := L4.out; have := L5.out; have := L6.out; have := L7.out; have := L8.out; have := L9.out; have := L10.out; have := L11.out; have := L12.out; omega)).mono ?_
    rintro e w7 ⟨⟨u7_0, u7_1, lo7_0, hi7_0, lo7_1, hi7_1, rfl, r7_0, r7_1, pa0, pb0, pa1, pb1, dj⟩, hb⟩
    clear cX00 cX01 cX02 cX03
    obtain ⟨g7_0, g7_1, g7_2, g7_3, rfl⟩ := heap.heap_list (heap.heapp_rep r7_0)
    have og7_0 := heap.heapSp.one r7_0 g7_0 (by simp)
    have og7_1 := heap.heapSp.one r7_0 g7_1 (by simp)
    have og7_2 := heap.heapSp.one r7_0 g7_2 (by simp)
    have og7_3 := heap.heapSp.one r7_0 g7_3 (by simp)
    have sog7_0 := fun (a : Addr) (m : Mode) (w : World) => run_store Try.prog w a g7_0 m og7_0
    have sog7_1 := fun (a : Addr) (m : Mode) (w : World) => run_store Try.prog w a g7_1 m og7_1
    have sog7_2 := fun (a : Addr) (m : Mode) (w : World) => run_store Try.prog w a g7_2 m og7_2
    have sog7_3 := fun (a : Addr) (m : Mode) (w : World) => run_store Try.prog w a g7_3 m og7_3
    obtain ⟨w7b, e7⟩ : ∃ x, x = w7.alloc (.cells #[g7_0, g7_1, g7_2, g7_3] 26) := ⟨_, rfl⟩
    have hA : Below w7.heap.size w7 w7b := by rw [e7]; exact (Below.refl _ _).alloc (Nat.le_refl _) _
    have z7 : w7b.heap.size = w7.heap.size + 1 := by rw [e7]; simp
    have K0_7 : Hid (BoxK w7b (w.heap.size) [a0_0, a0_1, a0_2, a0_3] 24) := (K0_6.out.on hb).on hA
    have WR0_7 : Hid (Itm heap.heapSp w7b w4.heap.size [w4_0, w4_1, w4_2, w4_3] 26 lo4_0 hi4_0 (heap.collectF T rs).1) := (WR0_6.out.on hb).on hA
    have WR1_7 : Hid (ItmR ints.intsSp w7b [u4_1] lo4_1 hi4_1 (heap.collectF T rs).2) := (WR1_6.out.on hb).on hA
    have X0_7 : Hid (Itm heap.heapSp w7b w5.heap.size [x5_0, x5_1, x5_2, x5_3] 26 w4b.heap.size w5.heap.size T) := (X0_6.out.on hb).on hA
    have X1_7 : Hid (ItmR ints.intsSp w7b [k6] w5b.heap.size w6.heap.size rs) := (X1_6.out.on hb).on hA
    have BB7 : Hid (Below w.heap.size w w7b) := (BB6.out.trans (hb.mono BB6.out.size)).trans (hA.mono (Nat.le_trans BB6.out.size hb.size))
    have L13 : Hid (w6.heap.size ≤ w7.heap.size) := hb.size
    have L14 : Hid (w7.heap.size + 1 ≤ w7b.heap.size) := by show _ ≤ _; omega
    have L15 : Hid (w6.heap.size ≤ lo7_0) := pa0
    have L16 : Hid (hi7_0 ≤ w7.heap.size) := pb0
    have L17 : Hid (w6.heap.size ≤ lo7_1) := pa1
    have L18 : Hid (hi7_1 ≤ w7.heap.size) := pb1
    have L19 : Hid (hi7_0 ≤ lo7_1 ∨ hi7_1 ≤ lo7_0) := dj
    have GR0_7 : Hid (Itm heap.heapSp w7b w7.heap.size [g7_0, g7_1, g7_2, g7_3] 26 lo7_0 hi7_0 (heap.collectF T rs).1) := by rw [e7]; exact Itm.new r7_0 (pb0) rfl
    have GR1_7 : Hid (ItmR ints.intsSp w7b [u7_1] lo7_1 hi7_1 (heap.collectF T rs).2) := ItmR.on (wk := w7) ⟨pb1, r7_1⟩ hA
    clear hb hA z7 r7_0 r7_1 dj pa0 pb0 pa1 pb1 K0_6 WR0_6 WR1_6 X0_6 X1_6 BB6
    have cGR00 : (w7.alloc (.cells #[g7_0, g7_1, g7_2, g7_3] 26)).cell? ⟨w7.heap.size, 0, none⟩ = some g7_0 := by have := GR0_7.out.cell 0 (v := g7_0) rfl; rwa [e7] at this
    have cGR01 : (w7.alloc (.cells #[g7_0, g7_1, g7_2, g7_3] 26)).cell? ⟨w7.heap.size, 1, none⟩ = some g7_1 := by have := GR0_7.out.cell 1 (v := g7_1) rfl; rwa [e7] at this
    have cGR02 : (w7.alloc (.cells #[g7_0, g7_1, g7_2, g7_3] 26)).cell? ⟨w7.heap.size, 2, none⟩ = some g7_2 := by have := GR0_7.out.cell 2 (v := g7_2) rfl; rwa [e7] at this
    have cGR03 : (w7.alloc (.cells #[g7_0, g7_1, g7_2, g7_3] 26)).cell? ⟨w7.heap.size, 3, none⟩ = some g7_3 := by have := GR0_7.out.cell 3 (v := g7_3) rfl; rwa [e7] at this
    have cWR00 : (w7.alloc (.cells #[g7_0, g7_1, g7_2, g7_3] 26)).cell? ⟨w4.heap.size, 0, none⟩ = some w4_0 := by have := WR0_7.out.cell 0 (v := w4_0) rfl; rwa [e7] at this
    have cWR01 : (w7.alloc (.cells #[g7_0, g7_1, g7_2, g7_3] 26)).cell? ⟨w4.heap.size, 1, none⟩ = some w4_1 := by have := WR0_7.out.cell 1 (v := w4_1) rfl; rwa [e7] at this
    have cWR02 : (w7.alloc (.cells #[g7_0, g7_1, g7_2, g7_3] 26)).cell? ⟨w4.heap.size, 2, none⟩ = some w4_2 := by have := WR0_7.out.cell 2 (v := w4_2) rfl; rwa [e7] at this
    have cWR03 : (w7.alloc (.cells #[g7_0, g7_1, g7_2, g7_3] 26)).cell? ⟨w4.heap.size, 3, none⟩ = some w4_3 := by have := WR0_7.out.cell 3 (v := w4_3) rfl; rwa [e7] at this
    go_wp2_with fail
    rw [← e7]
    refine (heap.eq_any (heap.collectF T rs).1 _ _ _ (heap.heapSh.mono (heap.heapp_rep GR0_7.out.rep) fun b hb => by have := GR0_7.out.top; have := L0.out; have := L1.out; have := L2.out; have := L3.out; have := L4.out; have := L5.out; have := L6.out; have := L7.out; have := L8.out; have := L9.out; have := L10.out; have := L11.out; have := L12.out; have := L13.out; have := L14.out; have := L15.out; have := L16.out; have := L17.out; have := L18.out; have := L19.out; omega) (heap.heapSh.mono (heap.heapp_rep WR0_7.out.rep) fun b hb => by have := WR0_7.out.top; have := L0.out; have := L1.out; have := L2.out; have := L3.out; have := L4.out; have := L5.out; have := L6.out; have := L7.out; have := L8.out; have := L9.out; have := L10.out; have := L11.out; have := L12.out; have := L13.out; have := L14.out; have := L15.out; have := L16.out; have := L17.out; have := L18.out; have := L19.out; omega)).mono ?_
    rintro e w8 ⟨rfl, hb⟩
    clear cGR00 cGR01 cGR02 cGR03 cWR00 cWR01 cWR02 cWR03 e7
    have K0_8 : Hid (BoxK w8 (w.heap.size) [a0_0, a0_1, a0_2, a0_3] 24) := K0_7.out.on hb
    have WR0_8 : Hid (Itm heap.heapSp w8 w4.heap.size [w4_0, w4_1, w4_2, w4_3] 26 lo4_0 hi4_0 (heap.collectF T rs).1) := WR0_7.out.on hb
    have WR1_8 : Hid (ItmR ints.intsSp w8 [u4_1] lo4_1 hi4_1 (heap.collectF T rs).2) := WR1_7.out.on hb
    have X0_8 : Hid (Itm heap.heapSp w8 w5.heap.size [x5_0, x5_1, x5_2, x5_3] 26 w4b.heap.size w5.heap.size T) := X0_7.out.on hb
    have X1_8 : Hid (ItmR ints.intsSp w8 [k6] w5b.heap.size w6.heap.size rs) := X1_7.out.on hb
    have GR0_8 : Hid (Itm heap.heapSp w8 w7.heap.size [g7_0, g7_1, g7_2, g7_3] 26 lo7_0 hi7_0 (heap.collectF T rs).1) := GR0_7.out.on hb
    have GR1_8 : Hid (ItmR ints.intsSp w8 [u7_1] lo7_1 hi7_1 (heap.collectF T rs).2) := GR1_7.out.on hb
    have BB8 : Hid (Below w.heap.size w w8) := BB7.out.trans (hb.mono BB7.out.size)
    have L20 : Hid (w7b.heap.size ≤ w8.heap.size) := hb.size
    clear hb K0_7 WR0_7 WR1_7 X0_7 X1_7 GR0_7 GR1_7 BB7
    go_wp2_with fail
    refine (ints.eq_any (heap.collectF T rs).2 _ _ _ (ints.intsSh.mono (ints.intsp_rep GR1_8.out.rep) fun b hb => by have := GR1_8.out.top; have := L0.out; have := L1.out; have := L2.out; have := L3.out; have := L4.out; have := L5.out; have := L6.out; have := L7.out; have := L8.out; have := L9.out; have := L10.out; have := L11.out; have := L12.out; have := L13.out; have := L14.out; have := L15.out; have := L16.out; have := L17.out; have := L18.out; have := L19.out; have := L20.out; omega) (ints.intsSh.mono (ints.intsp_rep WR1_8.out.rep) fun b hb => by have := WR1_8.out.top; have := L0.out; have := L1.out; have := L2.out; have := L3.out; have := L4.out; have := L5.out; have := L6.out; have := L7.out; have := L8.out; have := L9.out; have := L10.out; have := L11.out; have := L12.out; have := L13.out; have := L14.out; have := L15.out; have := L16.out; have := L17.out; have := L18.out; have := L19.out; have := L20.out; omega)).mono ?_
    rintro e w9 ⟨rfl, hb⟩
    have K0_9 : Hid (BoxK w9 (w.heap.size) [a0_0, a0_1, a0_2, a0_3] 24) := K0_8.out.on hb
    have WR0_9 : Hid (Itm heap.heapSp w9 w4.heap.size [w4_0, w4_1, w4_2, w4_3] 26 lo4_0 hi4_0 (heap.collectF T rs).1) := WR0_8.out.on hb
    have WR1_9 : Hid (ItmR ints.intsSp w9 [u4_1] lo4_1 hi4_1 (heap.collectF T rs).2) := WR1_8.out.on hb
    have X0_9 : Hid (Itm heap.heapSp w9 w5.heap.size [x5_0, x5_1, x5_2, x5_3] 26 w4b.heap.size w5.heap.size T) := X0_8.out.on hb
    have X1_9 : Hid (ItmR ints.intsSp w9 [k6] w5b.heap.size w6.heap.size rs) := X1_8.out.on hb
    have GR0_9 : Hid (Itm heap.heapSp w9 w7.heap.size [g7_0, g7_1, g7_2, g7_3] 26 lo7_0 hi7_0 (heap.collectF T rs).1) := GR0_8.out.on hb
    have GR1_9 : Hid (ItmR ints.intsSp w9 [u7_1] lo7_1 hi7_1 (heap.collectF T rs).2) := GR1_8.out.on hb
    have BB9 : Hid (Below w.heap.size w w9) := BB8.out.trans (hb.mono BB8.out.size)
    have L21 : Hid (w8.heap.size ≤ w9.heap.size) := hb.size
    clear hb K0_8 WR0_8 WR1_8 X0_8 X1_8 GR0_8 GR1_8 BB8
    go_wp2
    have cK00 : w9.cell? ⟨w.heap.size, 0, none⟩ = some a0_0 := K0_9.out.cell 0 rfl
    have cK01 : w9.cell? ⟨w.heap.size, 1, none⟩ = some a0_1 := K0_9.out.cell 1 rfl
    have cK02 : w9.cell? ⟨w.heap.size, 2, none⟩ = some a0_2 := K0_9.out.cell 2 rfl
    have cK03 : w9.cell? ⟨w.heap.size, 3, none⟩ = some a0_3 := K0_9.out.cell 3 rfl
    have cX00 : w9.cell? ⟨w5.heap.size, 0, none⟩ = some x5_0 := X0_9.out.cell 0 rfl
    have cX01 : w9.cell? ⟨w5.heap.size, 1, none⟩ = some x5_1 := X0_9.out.cell 1 rfl
    have cX02 : w9.cell? ⟨w5.heap.size, 2, none⟩ = some x5_2 := X0_9.out.cell 2 rfl
    have cX03 : w9.cell? ⟨w5.heap.size, 3, none⟩ = some x5_3 := X0_9.out.cell 3 rfl
    have hcall := heap.toP_any T _ w9.drew (by have := HW.out; omega) (AR0.out _ BB9.out.drew)
    go_region_with (first | (go_at_call 6; refine hcall.mono ?_; rintro e w10 ⟨⟨k10, rfl, r10⟩, hb⟩; have cy0 := (hb.cell (p := ⟨w5.heap.size, 0, none⟩) (show w5.heap.size < w9.heap.size from X0_9.out.lt)).trans cX00; have cy1 := (hb.cell (p := ⟨w5.heap.size, 1, none⟩) (show w5.heap.size < w9.heap.size from X0_9.out.lt)).trans cX01; have cy2 := (hb.cell (p := ⟨w5.heap.size, 2, none⟩) (show w5.heap.size < w9.heap.size from X0_9.out.lt)).trans cX02; have cy3 := (hb.cell (p := ⟨w5.heap.size, 3, none⟩) (show w5.heap.size < w9.heap.size from X0_9.out.lt)).trans cX03) | (go_at_call 9; refine (heap.eq_any T [x5_0, x5_1, x5_2, x5_3] k10 _ (heap.heapSh.mono (heap.heapp_rep ((X0_9.out.on ((Below.refl _ w9).drew.trans hb)).rep)) (fun b hlt => by have := X0_9.out.top; have : w9.heap.size ≤ w10.heap.size := hb.size; omega)) (heap.heapSh.mono (heap.heapp_rep r10) fun b hlt => hlt.2)).mono ?_; rintro e w11 ⟨rfl, hb2⟩))
    all_goals
      have hbb : Below w9.heap.size w9 w11 := ((Below.refl _ w9).drew.trans hb).trans (hb2.mono hb.size)
      have K0_11 : Hid (BoxK w11 (w.heap.size) [a0_0, a0_1, a0_2, a0_3] 24) := K0_9.out.on hbb
      have WR0_11 : Hid (Itm heap.heapSp w11 w4.heap.size [w4_0, w4_1, w4_2, w4_3] 26 lo4_0 hi4_0 (heap.collectF T rs).1) := WR0_9.out.on hbb
      have WR1_11 : Hid (ItmR ints.intsSp w11 [u4_1] lo4_1 hi4_1 (heap.collectF T rs).2) := WR1_9.out.on hbb
      have X0_11 : Hid (Itm heap.heapSp w11 w5.heap.size [x5_0, x5_1, x5_2, x5_3] 26 w4b.heap.size w5.heap.size T) := X0_9.out.on hbb
      have X1_11 : Hid (ItmR ints.intsSp w11 [k6] w5b.heap.size w6.heap.size rs) := X1_9.out.on hbb
      have GR0_11 : Hid (Itm heap.heapSp w11 w7.heap.size [g7_0, g7_1, g7_2, g7_3] 26 lo7_0 hi7_0 (heap.collectF T rs).1) := GR0_9.out.on hbb
      have GR1_11 : Hid (ItmR ints.intsSp w11 [u7_1] lo7_1 hi7_1 (heap.collectF T rs).2) := GR1_9.out.on hbb
      have BB11 : Hid (Below w.heap.size w w11) := BB9.out.trans (hbb.mono BB9.out.size)
      have L22 : Hid (w9.heap.size ≤ w11.heap.size) := hbb.size
      clear hb hb2 hbb r10 hcall cK00 cK01 cK02 cK03 cX00 cX01 cX02 cX03 cy0 cy1 cy2 cy3 K0_9 WR0_9 WR1_9 X0_9 X1_9 GR0_9 GR1_9 BB9
      go_wp2_with fail
      refine (ints.toPS_any rs _ _ HL1.out (AR1.out _ BB11.out)).mono ?_
      rintro e w12 ⟨⟨k12, rfl, r12⟩, hb⟩
      have K0_12 : Hid (BoxK w12 (w.heap.size) [a0_0, a0_1, a0_2, a0_3] 24) := K0_11.out.on hb
      have WR0_12 : Hid (Itm heap.heapSp w12 w4.heap.size [w4_0, w4_1, w4_2, w4_3] 26 lo4_0 hi4_0 (heap.collectF T rs).1) := WR0_11.out.on hb
      have WR1_12 : Hid (ItmR ints.intsSp w12 [u4_1] lo4_1 hi4_1 (heap.collectF T rs).2) := WR1_11.out.on hb
      have X0_12 : Hid (Itm heap.heapSp w12 w5.heap.size [x5_0, x5_1, x5_2, x5_3] 26 w4b.heap.size w5.heap.size T) := X0_11.out.on hb
      have X1_12 : Hid (ItmR ints.intsSp w12 [k6] w5b.heap.size w6.heap.size rs) := X1_11.out.on hb
      have GR0_12 : Hid (Itm heap.heapSp w12 w7.heap.size [g7_0, g7_1, g7_2, g7_3] 26 lo7_0 hi7_0 (heap.collectF T rs).1) := GR0_11.out.on hb
      have GR1_12 : Hid (ItmR ints.intsSp w12 [u7_1] lo7_1 hi7_1 (heap.collectF T rs).2) := GR1_11.out.on hb
      have BB12 : Hid (Below w.heap.size w w12) := BB11.out.trans (hb.mono BB11.out.size)
      have L23 : Hid (w11.heap.size ≤ w12.heap.size) := hb.size
      have RT : Hid (ints.intsSh.rep w12 (· < w12.heap.size) [k12] rs) := ints.intsSh.mono (ints.intsp_rep r12) fun b hb => hb.2
      clear hb r12 K0_11 WR0_11 WR1_11 X0_11 X1_11 GR0_11 GR1_11 BB11
      go_wp2_with fail
      refine (ints.eq_any rs _ _ _ (ints.intsSh.mono (ints.intsp_rep X1_12.out.rep) fun b hb => by have := X1_12.out.top; have := L0.out; have := L1.out; have := L2.out; have := L3.out; have := L4.out; have := L5.out; have := L6.out; have := L7.out; have := L8.out; have := L9.out; have := L10.out; have := L11.out; have := L12.out; have := L13.out; have := L14.out; have := L15.out; have := L16.out; have := L17.out; have := L18.out; have := L19.out; have := L20.out; have := L21.out; have := L22.out; have := L23.out; omega) RT.out).mono ?_
      rintro e w13 ⟨rfl, hb⟩
      have K0_13 : Hid (BoxK w13 (w.heap.size) [a0_0, a0_1, a0_2, a0_3] 24) := K0_12.out.on hb
      have WR0_13 : Hid (Itm heap.heapSp w13 w4.heap.size [w4_0, w4_1, w4_2, w4_3] 26 lo4_0 hi4_0 (heap.collectF T rs).1) := WR0_12.out.on hb
      have WR1_13 : Hid (ItmR ints.intsSp w13 [u4_1] lo4_1 hi4_1 (heap.collectF T rs).2) := WR1_12.out.on hb
      have X0_13 : Hid (Itm heap.heapSp w13 w5.heap.size [x5_0, x5_1, x5_2, x5_3] 26 w4b.heap.size w5.heap.size T) := X0_12.out.on hb
      have X1_13 : Hid (ItmR ints.intsSp w13 [k6] w5b.heap.size w6.heap.size rs) := X1_12.out.on hb
      have GR0_13 : Hid (Itm heap.heapSp w13 w7.heap.size [g7_0, g7_1, g7_2, g7_3] 26 lo7_0 hi7_0 (heap.collectF T rs).1) := GR0_12.out.on hb
      have GR1_13 : Hid (ItmR ints.intsSp w13 [u7_1] lo7_1 hi7_1 (heap.collectF T rs).2) := GR1_12.out.on hb
      have BB13 : Hid (Below w.heap.size w w13) := BB12.out.trans (hb.mono BB12.out.size)
      have L24 : Hid (w12.heap.size ≤ w13.heap.size) := hb.size
      clear hb RT K0_12 WR0_12 WR1_12 X0_12 X1_12 GR0_12 GR1_12 BB12
      have hcn0 : heap.cntT T ≤ 1073741824 := heap.cntT_boundC T (by have := HW.out; omega)
      have cX00 : w13.cell? ⟨w5.heap.size, 0, none⟩ = some x5_0 := X0_13.out.cell 0 rfl
      have cX01 : w13.cell? ⟨w5.heap.size, 1, none⟩ = some x5_1 := X0_13.out.cell 1 rfl
      have cX02 : w13.cell? ⟨w5.heap.size, 2, none⟩ = some x5_2 := X0_13.out.cell 2 rfl
      have cX03 : w13.cell? ⟨w5.heap.size, 3, none⟩ = some x5_3 := X0_13.out.cell 3 rfl
      go_wp2_with fail
      refine (heap.markT_any T _ _ (1) (fun b => w4b.heap.size ≤ b ∧ b < w5.heap.size) (by omega) (by omega) (fun b hb => by have := X0_13.out.top; have := L0.out; have := L1.out; have := L2.out; have := L3.out; have := L4.out; have := L5.out; have := L6.out; have := L7.out; have := L8.out; have := L9.out; have := L10.out; have := L11.out; have := L12.out; have := L13.out; have := L14.out; have := L15.out; have := L16.out; have := L17.out; have := L18.out; have := L19.out; have := L20.out; have := L21.out; have := L22.out; have := L23.out; have := L24.out; omega) X0_13.out.rep).mono ?_
      rintro e w14 ⟨rfl, ho, -⟩
      clear cX00 cX01 cX02 cX03
      have K0_14 : Hid (BoxK w14 (w.heap.size) [a0_0, a0_1, a0_2, a0_3] 24) := K0_13.out.only ho (fun hq => by have := L0.out; have := L1.out; have := L2.out; have := L3.out; have := L4.out; have := L5.out; have := L6.out; have := L7.out; have := L8.out; have := L9.out; have := L10.out; have := L11.out; have := L12.out; have := L13.out; have := L14.out; have := L15.out; have := L16.out; have := L17.out; have := L18.out; have := L19.out; have := L20.out; have := L21.out; have := L22.out; have := L23.out; have := L24.out; omega)
      have WR0_14 : Hid (Itm heap.heapSp w14 w4.heap.size [w4_0, w4_1, w4_2, w4_3] 26 lo4_0 hi4_0 (heap.collectF T rs).1) := WR0_13.out.only ho (fun hq => by have := L0.out; have := L1.out; have := L2.out; have := L3.out; have := L4.out; have := L5.out; have := L6.out; have := L7.out; have := L8.out; have := L9.out; have := L10.out; have := L11.out; have := L12.out; have := L13.out; have := L14.out; have := L15.out; have := L16.out; have := L17.out; have := L18.out; have := L19.out; have := L20.out; have := L21.out; have := L22.out; have := L23.out; have := L24.out; omega) (fun b h1 h2 hq => by have := L0.out; have := L1.out; have := L2.out; have := L3.out; have := L4.out; have := L5.out; have := L6.out; have := L7.out; have := L8.out; have := L9.out; have := L10.out; have := L11.out; have := L12.out; have := L13.out; have := L14.out; have := L15.out; have := L16.out; have := L17.out; have := L18.out; have := L19.out; have := L20.out; have := L21.out; have := L22.out; have := L23.out; have := L24.out; omega)
      have WR1_14 : Hid (ItmR ints.intsSp w14 [u4_1] lo4_1 hi4_1 (heap.collectF T rs).2) := WR1_13.out.only ho (fun b h1 h2 hq => by have := L0.out; have := L1.out; have := L2.out; have := L3.out; have := L4.out; have := L5.out; have := L6.out; have := L7.out; have := L8.out; have := L9.out; have := L10.out; have := L11.out; have := L12.out; have := L13.out; have := L14.out; have := L15.out; have := L16.out; have := L17.out; have := L18.out; have := L19.out; have := L20.out; have := L21.out; have := L22.out; have := L23.out; have := L24.out; omega)
      have X1_14 : Hid (ItmR ints.intsSp w14 [k6] w5b.heap.size w6.heap.size rs) := X1_13.out.only ho (fun b h1 h2 hq => by have := L0.out; have := L1.out; have := L2.out; have := L3.out; have := L4.out; have := L5.out; have := L6.out; have := L7.out; have := L8.out; have := L9.out; have := L10.out; have := L11.out; have := L12.out; have := L13.out; have := L14.out; have := L15.out; have := L16.out; have := L17.out; have := L18.out; have := L19.out; have := L20.out; have := L21.out; have := L22.out; have := L23.out; have := L24.out; omega)
      have GR0_14 : Hid (Itm heap.heapSp w14 w7.heap.size [g7_0, g7_1, g7_2, g7_3] 26 lo7_0 hi7_0 (heap.collectF T rs).1) := GR0_13.out.only ho (fun hq => by have := L0.out; have := L1.out; have := L2.out; have := L3.out; have := L4.out; have := L5.out; have := L6.out; have := L7.out; have := L8.out; have := L9.out; have := L10.out; have := L11.out; have := L12.out; have := L13.out; have := L14.out; have := L15.out; have := L16.out; have := L17.out; have := L18.out; have := L19.out; have := L20.out; have := L21.out; have := L22.out; have := L23.out; have := L24.out; omega) (fun b h1 h2 hq => by have := L0.out; have := L1.out; have := L2.out; have := L3.out; have := L4.out; have := L5.out; have := L6.out; have := L7.out; have := L8.out; have := L9.out; have := L10.out; have := L11.out; have := L12.out; have := L13.out; have := L14.out; have := L15.out; have := L16.out; have := L17.out; have := L18.out; have := L19.out; have := L20.out; have := L21.out; have := L22.out; have := L23.out; have := L24.out; omega)
      have GR1_14 : Hid (ItmR ints.intsSp w14 [u7_1] lo7_1 hi7_1 (heap.collectF T rs).2) := GR1_13.out.only ho (fun b h1 h2 hq => by have := L0.out; have := L1.out; have := L2.out; have := L3.out; have := L4.out; have := L5.out; have := L6.out; have := L7.out; have := L8.out; have := L9.out; have := L10.out; have := L11.out; have := L12.out; have := L13.out; have := L14.out; have := L15.out; have := L16.out; have := L17.out; have := L18.out; have := L19.out; have := L20.out; have := L21.out; have := L22.out; have := L23.out; have := L24.out; omega)
      have BB14 : Hid (Below w.heap.size w w14) := BB13.out.trans (ho.below BB13.out.size fun b hb => by have := L0.out; have := L1.out; have := L2.out; have := L3.out; have := L4.out; have := L5.out; have := L6.out; have := L7.out; have := L8.out; have := L9.out; have := L10.out; have := L11.out; have := L12.out; have := L13.out; have := L14.out; have := L15.out; have := L16.out; have := L17.out; have := L18.out; have := L19.out; have := L20.out; have := L21.out; have := L22.out; have := L23.out; have := L24.out; omega)
      have L25 : Hid (w13.heap.size ≤ w14.heap.size) := ho.size
      clear ho X0_13 K0_13 WR0_13 WR1_13 X1_13 GR0_13 GR1_13 BB13
      obtain ⟨n0, hn0⟩ : ∃ nz : Nat, nz = heap.cntT T := ⟨_, rfl⟩
      rw [← hn0] at hcn0 ⊢
      clear hn0
      go_wp2_with fail
      refine (ints.mark_any rs _ _ (1 + (n0 : Nat)) (fun b => w5b.heap.size ≤ b ∧ b < w6.heap.size) (by omega) (by omega) (fun b hb => by have := X1_14.out.top; have := L0.out; have := L1.out; have := L2.out; have := L3.out; have := L4.out; have := L5.out; have := L6.out; have := L7.out; have := L8.out; have := L9.out; have := L10.out; have := L11.out; have := L12.out; have := L13.out; have := L14.out; have := L15.out; have := L16.out; have := L17.out; have := L18.out; have := L19.out; have := L20.out; have := L21.out; have := L22.out; have := L23.out; have := L24.out; have := L25.out; omega) X1_14.out.rep).mono ?_
      rintro e w15 ⟨rfl, -, ho⟩
      have K0_15 : Hid (BoxK w15 (w.heap.size) [a0_0, a0_1, a0_2, a0_3] 24) := K0_14.out.only ho (fun hq => by have := L0.out; have := L1.out; have := L2.out; have := L3.out; have := L4.out; have := L5.out; have := L6.out; have := L7.out; have := L8.out; have := L9.out; have := L10.out; have := L11.out; have := L12.out; have := L13.out; have := L14.out; have := L15.out; have := L16.out; have := L17.out; have := L18.out; have := L19.out; have := L20.out; have := L21.out; have := L22.out; have := L23.out; have := L24.out; have := L25.out; omega)
      have WR0_15 : Hid (Itm heap.heapSp w15 w4.heap.size [w4_0, w4_1, w4_2, w4_3] 26 lo4_0 hi4_0 (heap.collectF T rs).1) := WR0_14.out.only ho (fun hq => by have := L0.out; have := L1.out; have := L2.out; have := L3.out; have := L4.out; have := L5.out; have := L6.out; have := L7.out; have := L8.out; have := L9.out; have := L10.out; have := L11.out; have := L12.out; have := L13.out; have := L14.out; have := L15.out; have := L16.out; have := L17.out; have := L18.out; have := L19.out; have := L20.out; have := L21.out; have := L22.out; have := L23.out; have := L24.out; have := L25.out; omega) (fun b h1 h2 hq => by have := L0.out; have := L1.out; have := L2.out; have := L3.out; have := L4.out; have := L5.out; have := L6.out; have := L7.out; have := L8.out; have := L9.out; have := L10.out; have := L11.out; have := L12.out; have := L13.out; have := L14.out; have := L15.out; have := L16.out; have := L17.out; have := L18.out; have := L19.out; have := L20.out; have := L21.out; have := L22.out; have := L23.out; have := L24.out; have := L25.out; omega)
      have WR1_15 : Hid (ItmR ints.intsSp w15 [u4_1] lo4_1 hi4_1 (heap.collectF T rs).2) := WR1_14.out.only ho (fun b h1 h2 hq => by have := L0.out; have := L1.out; have := L2.out; have := L3.out; have := L4.out; have := L5.out; have := L6.out; have := L7.out; have := L8.out; have := L9.out; have := L10.out; have := L11.out; have := L12.out; have := L13.out; have := L14.out; have := L15.out; have := L16.out; have := L17.out; have := L18.out; have := L19.out; have := L20.out; have := L21.out; have := L22.out; have := L23.out; have := L24.out; have := L25.out; omega)
      have GR0_15 : Hid (Itm heap.heapSp w15 w7.heap.size [g7_0, g7_1, g7_2, g7_3] 26 lo7_0 hi7_0 (heap.collectF T rs).1) := GR0_14.out.only ho (fun hq => by have := L0.out; have := L1.out; have := L2.out; have := L3.out; have := L4.out; have := L5.out; have := L6.out; have := L7.out; have := L8.out; have := L9.out; have := L10.out; have := L11.out; have := L12.out; have := L13.out; have := L14.out; have := L15.out; have := L16.out; have := L17.out; have := L18.out; have := L19.out; have := L20.out; have := L21.out; have := L22.out; have := L23.out; have := L24.out; have := L25.out; omega) (fun b h1 h2 hq => by have := L0.out; have := L1.out; have := L2.out; have := L3.out; have := L4.out; have := L5.out; have := L6.out; have := L7.out; have := L8.out; have := L9.out; have := L10.out; have := L11.out; have := L12.out; have := L13.out; have := L14.out; have := L15.out; have := L16.out; have := L17.out; have := L18.out; have := L19.out; have := L20.out; have := L21.out; have := L22.out; have := L23.out; have := L24.out; have := L25.out; omega)
      have GR1_15 : Hid (ItmR ints.intsSp w15 [u7_1] lo7_1 hi7_1 (heap.collectF T rs).2) := GR1_14.out.only ho (fun b h1 h2 hq => by have := L0.out; have := L1.out; have := L2.out; have := L3.out; have := L4.out; have := L5.out; have := L6.out; have := L7.out; have := L8.out; have := L9.out; have := L10.out; have := L11.out; have := L12.out; have := L13.out; have := L14.out; have := L15.out; have := L16.out; have := L17.out; have := L18.out; have := L19.out; have := L20.out; have := L21.out; have := L22.out; have := L23.out; have := L24.out; have := L25.out; omega)
      have BB15 : Hid (Below w.heap.size w w15) := BB14.out.trans (ho.below BB14.out.size fun b hb => by have := L0.out; have := L1.out; have := L2.out; have := L3.out; have := L4.out; have := L5.out; have := L6.out; have := L7.out; have := L8.out; have := L9.out; have := L10.out; have := L11.out; have := L12.out; have := L13.out; have := L14.out; have := L15.out; have := L16.out; have := L17.out; have := L18.out; have := L19.out; have := L20.out; have := L21.out; have := L22.out; have := L23.out; have := L24.out; have := L25.out; omega)
      have L26 : Hid (w14.heap.size ≤ w15.heap.size) := ho.size
      clear ho X1_14 K0_14 WR0_14 WR1_14 GR0_14 GR1_14 BB14
      have t2 : decide (((1 : Int) + (n0 : Nat) + (rs.length : Nat) : Int) < 0) = false := by simp; omega
      have cGR00 : w15.cell? ⟨w7.heap.size, 0, none⟩ = some g7_0 := GR0_15.out.cell 0 rfl
      have cGR01 : w15.cell? ⟨w7.heap.size, 1, none⟩ = some g7_1 := GR0_15.out.cell 1 rfl
      have cGR02 : w15.cell? ⟨w7.heap.size, 2, none⟩ = some g7_2 := GR0_15.out.cell 2 rfl
      have cGR03 : w15.cell? ⟨w7.heap.size, 3, none⟩ = some g7_3 := GR0_15.out.cell 3 rfl
      have cWR00 : w15.cell? ⟨w4.heap.size, 0, none⟩ = some w4_0 := WR0_15.out.cell 0 rfl
      have cWR01 : w15.cell? ⟨w4.heap.size, 1, none⟩ = some w4_1 := WR0_15.out.cell 1 rfl
      have cWR02 : w15.cell? ⟨w4.heap.size, 2, none⟩ = some w4_2 := WR0_15.out.cell 2 rfl
      have cWR03 : w15.cell? ⟨w4.heap.size, 3, none⟩ = some w4_3 := WR0_15.out.cell 3 rfl
      go_wp2_with fail
      refine (heap.eq_any (heap.collectF T rs).1 _ _ _ (heap.heapSh.mono (heap.heapp_rep GR0_15.out.rep) fun b hb => by have := GR0_15.out.top; have := L0.out; have := L1.out; have := L2.out; have := L3.out; have := L4.out; have := L5.out; have := L6.out; have := L7.out; have := L8.out; have := L9.out; have := L10.out; have := L11.out; have := L12.out; have := L13.out; have := L14.out; have := L15.out; have := L16.out; have := L17.out; have := L18.out; have := L19.out; have := L20.out; have := L21.out; have := L22.out; have := L23.out; have := L24.out; have := L25.out; have := L26.out; omega) (heap.heapSh.mono (heap.heapp_rep WR0_15.out.rep) fun b hb => by have := WR0_15.out.top; have := L0.out; have := L1.out; have := L2.out; have := L3.out; have := L4.out; have := L5.out; have := L6.out; have := L7.out; have := L8.out; have := L9.out; have := L10.out; have := L11.out; have := L12.out; have := L13.out; have := L14.out; have := L15.out; have := L16.out; have := L17.out; have := L18.out; have := L19.out; have := L20.out; have := L21.out; have := L22.out; have := L23.out; have := L24.out; have := L25.out; have := L26.out; omega)).mono ?_
      rintro e w16 ⟨rfl, hb⟩
      clear cGR00 cGR01 cGR02 cGR03 cWR00 cWR01 cWR02 cWR03
      have K0_16 : Hid (BoxK w16 (w.heap.size) [a0_0, a0_1, a0_2, a0_3] 24) := K0_15.out.on hb
      have WR0_16 : Hid (Itm heap.heapSp w16 w4.heap.size [w4_0, w4_1, w4_2, w4_3] 26 lo4_0 hi4_0 (heap.collectF T rs).1) := WR0_15.out.on hb
      have WR1_16 : Hid (ItmR ints.intsSp w16 [u4_1] lo4_1 hi4_1 (heap.collectF T rs).2) := WR1_15.out.on hb
      have GR0_16 : Hid (Itm heap.heapSp w16 w7.heap.size [g7_0, g7_1, g7_2, g7_3] 26 lo7_0 hi7_0 (heap.collectF T rs).1) := GR0_15.out.on hb
      have GR1_16 : Hid (ItmR ints.intsSp w16 [u7_1] lo7_1 hi7_1 (heap.collectF T rs).2) := GR1_15.out.on hb
      have BB16 : Hid (Below w.heap.size w w16) := BB15.out.trans (hb.mono BB15.out.size)
      have L27 : Hid (w15.heap.size ≤ w16.heap.size) := hb.size
      clear hb K0_15 WR0_15 WR1_15 GR0_15 GR1_15 BB15
      go_wp2_with fail
      refine (ints.eq_any (heap.collectF T rs).2 _ _ _ (ints.intsSh.mono (ints.intsp_rep GR1_16.out.rep) fun b hb => by have := GR1_16.out.top; have := L0.out; have := L1.out; have := L2.out; have := L3.out; have := L4.out; have := L5.out; have := L6.out; have := L7.out; have := L8.out; have := L9.out; have := L10.out; have := L11.out; have := L12.out; have := L13.out; have := L14.out; have := L15.out; have := L16.out; have := L17.out; have := L18.out; have := L19.out; have := L20.out; have := L21.out; have := L22.out; have := L23.out; have := L24.out; have := L25.out; have := L26.out; have := L27.out; omega) (ints.intsSh.mono (ints.intsp_rep WR1_16.out.rep) fun b hb => by have := WR1_16.out.top; have := L0.out; have := L1.out; have := L2.out; have := L3.out; have := L4.out; have := L5.out; have := L6.out; have := L7.out; have := L8.out; have := L9.out; have := L10.out; have := L11.out; have := L12.out; have := L13.out; have := L14.out; have := L15.out; have := L16.out; have := L17.out; have := L18.out; have := L19.out; have := L20.out; have := L21.out; have := L22.out; have := L23.out; have := L24.out; have := L25.out; have := L26.out; have := L27.out; omega)).mono ?_
      rintro e w17 ⟨rfl, hb⟩
      have K0_17 : Hid (BoxK w17 (w.heap.size) [a0_0, a0_1, a0_2, a0_3] 24) := K0_16.out.on hb
      have WR0_17 : Hid (Itm heap.heapSp w17 w4.heap.size [w4_0, w4_1, w4_2, w4_3] 26 lo4_0 hi4_0 (heap.collectF T rs).1) := WR0_16.out.on hb
      have WR1_17 : Hid (ItmR ints.intsSp w17 [u4_1] lo4_1 hi4_1 (heap.collectF T rs).2) := WR1_16.out.on hb
      have GR0_17 : Hid (Itm heap.heapSp w17 w7.heap.size [g7_0, g7_1, g7_2, g7_3] 26 lo7_0 hi7_0 (heap.collectF T rs).1) := GR0_16.out.on hb
      have GR1_17 : Hid (ItmR ints.intsSp w17 [u7_1] lo7_1 hi7_1 (heap.collectF T rs).2) := GR1_16.out.on hb
      have BB17 : Hid (Below w.heap.size w w17) := BB16.out.trans (hb.mono BB16.out.size)
      have L28 : Hid (w16.heap.size ≤ w17.heap.size) := hb.size
      clear hb K0_16 WR0_16 WR1_16 GR0_16 GR1_16 BB16
      have hcg0 : heap.cntT (heap.collectF T rs).1 ≤ 1073741824 := heap.collect_bound T rs (by have := HW.out; omega)
      have cGR00 : w17.cell? ⟨w7.heap.size, 0, none⟩ = some g7_0 := GR0_17.out.cell 0 rfl
      have cGR01 : w17.cell? ⟨w7.heap.size, 1, none⟩ = some g7_1 := GR0_17.out.cell 1 rfl
      have cGR02 : w17.cell? ⟨w7.heap.size, 2, none⟩ = some g7_2 := GR0_17.out.cell 2 rfl
      have cGR03 : w17.cell? ⟨w7.heap.size, 3, none⟩ = some g7_3 := GR0_17.out.cell 3 rfl
      go_wp2_with fail
      refine (heap.markT_any (heap.collectF T rs).1 _ _ (1) (fun b => lo7_0 ≤ b ∧ b < hi7_0) (by omega) (by omega) (fun b hb => by have := GR0_17.out.top; have := L0.out; have := L1.out; have := L2.out; have := L3.out; have := L4.out; have := L5.out; have := L6.out; have := L7.out; have := L8.out; have := L9.out; have := L10.out; have := L11.out; have := L12.out; have := L13.out; have := L14.out; have := L15.out; have := L16.out; have := L17.out; have := L18.out; have := L19.out; have := L20.out; have := L21.out; have := L22.out; have := L23.out; have := L24.out; have := L25.out; have := L26.out; have := L27.out; have := L28.out; omega) GR0_17.out.rep).mono ?_
      rintro e w18 ⟨rfl, ho, hr⟩
      clear cGR00 cGR01 cGR02 cGR03
      have K0_18 : Hid (BoxK w18 (w.heap.size) [a0_0, a0_1, a0_2, a0_3] 24) := K0_17.out.only ho (fun hq => by have := L0.out; have := L1.out; have := L2.out; have := L3.out; have := L4.out; have := L5.out; have := L6.out; have := L7.out; have := L8.out; have := L9.out; have := L10.out; have := L11.out; have := L12.out; have := L13.out; have := L14.out; have := L15.out; have := L16.out; have := L17.out; have := L18.out; have := L19.out; have := L20.out; have := L21.out; have := L22.out; have := L23.out; have := L24.out; have := L25.out; have := L26.out; have := L27.out; have := L28.out; omega)
      have WR0_18 : Hid (Itm heap.heapSp w18 w4.heap.size [w4_0, w4_1, w4_2, w4_3] 26 lo4_0 hi4_0 (heap.collectF T rs).1) := WR0_17.out.only ho (fun hq => by have := L0.out; have := L1.out; have := L2.out; have := L3.out; have := L4.out; have := L5.out; have := L6.out; have := L7.out; have := L8.out; have := L9.out; have := L10.out; have := L11.out; have := L12.out; have := L13.out; have := L14.out; have := L15.out; have := L16.out; have := L17.out; have := L18.out; have := L19.out; have := L20.out; have := L21.out; have := L22.out; have := L23.out; have := L24.out; have := L25.out; have := L26.out; have := L27.out; have := L28.out; omega) (fun b h1 h2 hq => by have := L0.out; have := L1.out; have := L2.out; have := L3.out; have := L4.out; have := L5.out; have := L6.out; have := L7.out; have := L8.out; have := L9.out; have := L10.out; have := L11.out; have := L12.out; have := L13.out; have := L14.out; have := L15.out; have := L16.out; have := L17.out; have := L18.out; have := L19.out; have := L20.out; have := L21.out; have := L22.out; have := L23.out; have := L24.out; have := L25.out; have := L26.out; have := L27.out; have := L28.out; omega)
      have WR1_18 : Hid (ItmR ints.intsSp w18 [u4_1] lo4_1 hi4_1 (heap.collectF T rs).2) := WR1_17.out.only ho (fun b h1 h2 hq => by have := L0.out; have := L1.out; have := L2.out; have := L3.out; have := L4.out; have := L5.out; have := L6.out; have := L7.out; have := L8.out; have := L9.out; have := L10.out; have := L11.out; have := L12.out; have := L13.out; have := L14.out; have := L15.out; have := L16.out; have := L17.out; have := L18.out; have := L19.out; have := L20.out; have := L21.out; have := L22.out; have := L23.out; have := L24.out; have := L25.out; have := L26.out; have := L27.out; have := L28.out; omega)
      have GR1_18 : Hid (ItmR ints.intsSp w18 [u7_1] lo7_1 hi7_1 (heap.collectF T rs).2) := GR1_17.out.only ho (fun b h1 h2 hq => by have := L0.out; have := L1.out; have := L2.out; have := L3.out; have := L4.out; have := L5.out; have := L6.out; have := L7.out; have := L8.out; have := L9.out; have := L10.out; have := L11.out; have := L12.out; have := L13.out; have := L14.out; have := L15.out; have := L16.out; have := L17.out; have := L18.out; have := L19.out; have := L20.out; have := L21.out; have := L22.out; have := L23.out; have := L24.out; have := L25.out; have := L26.out; have := L27.out; have := L28.out; omega)
      have BB18 : Hid (Below w.heap.size w w18) := BB17.out.trans (ho.below BB17.out.size fun b hb => by have := L0.out; have := L1.out; have := L2.out; have := L3.out; have := L4.out; have := L5.out; have := L6.out; have := L7.out; have := L8.out; have := L9.out; have := L10.out; have := L11.out; have := L12.out; have := L13.out; have := L14.out; have := L15.out; have := L16.out; have := L17.out; have := L18.out; have := L19.out; have := L20.out; have := L21.out; have := L22.out; have := L23.out; have := L24.out; have := L25.out; have := L26.out; have := L27.out; have := L28.out; omega)
      have L29 : Hid (w17.heap.size ≤ w18.heap.size) := ho.size
      have GR0_18 : Hid (Itm heap.heapSh w18 w7.heap.size [g7_0, g7_1, g7_2, g7_3] 26 lo7_0 hi7_0 (heap.mkT 1 (heap.collectF T rs).1)) := ⟨(ho.block _ GR0_17.out.lt (fun hq => by have := L0.out; have := L1.out; have := L2.out; have := L3.out; have := L4.out; have := L5.out; have := L6.out; have := L7.out; have := L8.out; have := L9.out; have := L10.out; have := L11.out; have := L12.out; have := L13.out; have := L14.out; have := L15.out; have := L16.out; have := L17.out; have := L18.out; have := L19.out; have := L20.out; have := L21.out; have := L22.out; have := L23.out; have := L24.out; have := L25.out; have := L26.out; have := L27.out; have := L28.out; have := L29.out; omega)).trans GR0_17.out.blk, Nat.le_trans GR0_17.out.top ho.size, heap.heapp_rep hr⟩
      clear ho hr GR0_17 K0_17 WR0_17 WR1_17 GR1_17 BB17
      obtain ⟨m0, hm0⟩ : ∃ nz : Nat, nz = heap.cntT (heap.collectF T rs).1 := ⟨_, rfl⟩
      have HM0 : Hid (m0 = heap.cntT (heap.collectF T rs).1) := hm0
      rw [← hm0] at hcg0 ⊢
      clear hm0
      have hcg1 : (heap.collectF T rs).2.length ≤ 1073741824 := heap.collect_bound2 T rs HL1.out
      go_wp2_with fail
      refine (ints.mark_any (heap.collectF T rs).2 _ _ (1 + (m0 : Nat)) (fun b => lo7_1 ≤ b ∧ b < hi7_1) (by omega) (by omega) (fun b hb => by have := GR1_18.out.top; have := L0.out; have := L1.out; have := L2.out; have := L3.out; have := L4.out; have := L5.out; have := L6.out; have := L7.out; have := L8.out; have := L9.out; have := L10.out; have := L11.out; have := L12.out; have := L13.out; have := L14.out; have := L15.out; have := L16.out; have := L17.out; have := L18.out; have := L19.out; have := L20.out; have := L21.out; have := L22.out; have := L23.out; have := L24.out; have := L25.out; have := L26.out; have := L27.out; have := L28.out; have := L29.out; omega) GR1_18.out.rep).mono ?_
      rintro e w19 ⟨rfl, hr, ho⟩
      have K0_19 : Hid (BoxK w19 (w.heap.size) [a0_0, a0_1, a0_2, a0_3] 24) := K0_18.out.only ho (fun hq => by have := L0.out; have := L1.out; have := L2.out; have := L3.out; have := L4.out; have := L5.out; have := L6.out; have := L7.out; have := L8.out; have := L9.out; have := L10.out; have := L11.out; have := L12.out; have := L13.out; have := L14.out; have := L15.out; have := L16.out; have := L17.out; have := L18.out; have := L19.out; have := L20.out; have := L21.out; have := L22.out; have := L23.out; have := L24.out; have := L25.out; have := L26.out; have := L27.out; have := L28.out; have := L29.out; omega)
      have WR0_19 : Hid (Itm heap.heapSp w19 w4.heap.size [w4_0, w4_1, w4_2, w4_3] 26 lo4_0 hi4_0 (heap.collectF T rs).1) := WR0_18.out.only ho (fun hq => by have := L0.out; have := L1.out; have := L2.out; have := L3.out; have := L4.out; have := L5.out; have := L6.out; have := L7.out; have := L8.out; have := L9.out; have := L10.out; have := L11.out; have := L12.out; have := L13.out; have := L14.out; have := L15.out; have := L16.out; have := L17.out; have := L18.out; have := L19.out; have := L20.out; have := L21.out; have := L22.out; have := L23.out; have := L24.out; have := L25.out; have := L26.out; have := L27.out; have := L28.out; have := L29.out; omega) (fun b h1 h2 hq => by have := L0.out; have := L1.out; have := L2.out; have := L3.out; have := L4.out; have := L5.out; have := L6.out; have := L7.out; have := L8.out; have := L9.out; have := L10.out; have := L11.out; have := L12.out; have := L13.out; have := L14.out; have := L15.out; have := L16.out; have := L17.out; have := L18.out; have := L19.out; have := L20.out; have := L21.out; have := L22.out; have := L23.out; have := L24.out; have := L25.out; have := L26.out; have := L27.out; have := L28.out; have := L29.out; omega)
      have WR1_19 : Hid (ItmR ints.intsSp w19 [u4_1] lo4_1 hi4_1 (heap.collectF T rs).2) := WR1_18.out.only ho (fun b h1 h2 hq => by have := L0.out; have := L1.out; have := L2.out; have := L3.out; have := L4.out; have := L5.out; have := L6.out; have := L7.out; have := L8.out; have := L9.out; have := L10.out; have := L11.out; have := L12.out; have := L13.out; have := L14.out; have := L15.out; have := L16.out; have := L17.out; have := L18.out; have := L19.out; have := L20.out; have := L21.out; have := L22.out; have := L23.out; have := L24.out; have := L25.out; have := L26.out; have := L27.out; have := L28.out; have := L29.out; omega)
      have GR0_19 : Hid (Itm heap.heapSh w19 w7.heap.size [g7_0, g7_1, g7_2, g7_3] 26 lo7_0 hi7_0 (heap.mkT 1 (heap.collectF T rs).1)) := GR0_18.out.only ho (fun hq => by have := L0.out; have := L1.out; have := L2.out; have := L3.out; have := L4.out; have := L5.out; have := L6.out; have := L7.out; have := L8.out; have := L9.out; have := L10.out; have := L11.out; have := L12.out; have := L13.out; have := L14.out; have := L15.out; have := L16.out; have := L17.out; have := L18.out; have := L19.out; have := L20.out; have := L21.out; have := L22.out; have := L23.out; have := L24.out; have := L25.out; have := L26.out; have := L27.out; have := L28.out; have := L29.out; omega) (fun b h1 h2 hq => by have := L0.out; have := L1.out; have := L2.out; have := L3.out; have := L4.out; have := L5.out; have := L6.out; have := L7.out; have := L8.out; have := L9.out; have := L10.out; have := L11.out; have := L12.out; have := L13.out; have := L14.out; have := L15.out; have := L16.out; have := L17.out; have := L18.out; have := L19.out; have := L20.out; have := L21.out; have := L22.out; have := L23.out; have := L24.out; have := L25.out; have := L26.out; have := L27.out; have := L28.out; have := L29.out; omega)
      have BB19 : Hid (Below w.heap.size w w19) := BB18.out.trans (ho.below BB18.out.size fun b hb => by have := L0.out; have := L1.out; have := L2.out; have := L3.out; have := L4.out; have := L5.out; have := L6.out; have := L7.out; have := L8.out; have := L9.out; have := L10.out; have := L11.out; have := L12.out; have := L13.out; have := L14.out; have := L15.out; have := L16.out; have := L17.out; have := L18.out; have := L19.out; have := L20.out; have := L21.out; have := L22.out; have := L23.out; have := L24.out; have := L25.out; have := L26.out; have := L27.out; have := L28.out; have := L29.out; omega)
      have L30 : Hid (w18.heap.size ≤ w19.heap.size) := ho.size
      have GR1_19 : Hid (ItmR ints.intsSh w19 [u7_1] lo7_1 hi7_1 (ints.mks (1 + (m0 : Nat)) (heap.collectF T rs).2)) := ⟨Nat.le_trans GR1_18.out.top ho.size, ints.intsp_rep hr⟩
      clear ho hr GR1_18 K0_18 WR0_18 WR1_18 GR0_18 BB18
      obtain ⟨m1, hm1⟩ : ∃ nz : Nat, nz = (heap.collectF T rs).2.length := ⟨_, rfl⟩
      have HM1 : Hid (m1 = (heap.collectF T rs).2.length) := hm1
      rw [← hm1] at hcg1 ⊢
      clear hm1
      have cGR00 : w19.cell? ⟨w7.heap.size, 0, none⟩ = some g7_0 := GR0_19.out.cell 0 rfl
      have cGR01 : w19.cell? ⟨w7.heap.size, 1, none⟩ = some g7_1 := GR0_19.out.cell 1 rfl
      have cGR02 : w19.cell? ⟨w7.heap.size, 2, none⟩ = some g7_2 := GR0_19.out.cell 2 rfl
      have cGR03 : w19.cell? ⟨w7.heap.size, 3, none⟩ = some g7_3 := GR0_19.out.cell 3 rfl
      go_wp2_with fail
      refine (heap.heldT_any (heap.collectF T rs).1 _ _ (1) (by omega) (by rw [← HM0.out]; omega) (heap.heapSh.mono GR0_19.out.rep fun b hb => by have := GR0_19.out.top; have := L0.out; have := L1.out; have := L2.out; have := L3.out; have := L4.out; have := L5.out; have := L6.out; have := L7.out; have := L8.out; have := L9.out; have := L10.out; have := L11.out; have := L12.out; have := L13.out; have := L14.out; have := L15.out; have := L16.out; have := L17.out; have := L18.out; have := L19.out; have := L20.out; have := L21.out; have := L22.out; have := L23.out; have := L24.out; have := L25.out; have := L26.out; have := L27.out; have := L28.out; have := L29.out; have := L30.out; omega)).mono ?_
      rw [← HM0.out]
      rintro e w20 ⟨rfl, hb⟩
      clear cGR00 cGR01 cGR02 cGR03
      have K0_20 : Hid (BoxK w20 (w.heap.size) [a0_0, a0_1, a0_2, a0_3] 24) := K0_19.out.on hb
      have WR0_20 : Hid (Itm heap.heapSp w20 w4.heap.size [w4_0, w4_1, w4_2, w4_3] 26 lo4_0 hi4_0 (heap.collectF T rs).1) := WR0_19.out.on hb
      have WR1_20 : Hid (ItmR ints.intsSp w20 [u4_1] lo4_1 hi4_1 (heap.collectF T rs).2) := WR1_19.out.on hb
      have GR0_20 : Hid (Itm heap.heapSh w20 w7.heap.size [g7_0, g7_1, g7_2, g7_3] 26 lo7_0 hi7_0 (heap.mkT 1 (heap.collectF T rs).1)) := GR0_19.out.on hb
      have GR1_20 : Hid (ItmR ints.intsSh w20 [u7_1] lo7_1 hi7_1 (ints.mks (1 + (m0 : Nat)) (heap.collectF T rs).2)) := GR1_19.out.on hb
      have BB20 : Hid (Below w.heap.size w w20) := BB19.out.trans (hb.mono BB19.out.size)
      have L31 : Hid (w19.heap.size ≤ w20.heap.size) := hb.size
      clear hb K0_19 WR0_19 WR1_19 GR0_19 GR1_19 BB19
      have t30 : decide (((1 : Int) + (m0 : Nat) : Int) < 0) = false := by simp; omega
      go_wp2_with fail
      refine (ints.held_any (heap.collectF T rs).2 _ _ (1 + (m0 : Nat)) (by omega) (by rw [← HM1.out]; omega) (ints.intsSh.mono GR1_20.out.rep fun b hb => by have := GR1_20.out.top; have := L0.out; have := L1.out; have := L2.out; have := L3.out; have := L4.out; have := L5.out; have := L6.out; have := L7.out; have := L8.out; have := L9.out; have := L10.out; have := L11.out; have := L12.out; have := L13.out; have := L14.out; have := L15.out; have := L16.out; have := L17.out; have := L18.out; have := L19.out; have := L20.out; have := L21.out; have := L22.out; have := L23.out; have := L24.out; have := L25.out; have := L26.out; have := L27.out; have := L28.out; have := L29.out; have := L30.out; have := L31.out; omega)).mono ?_
      rw [← HM1.out]
      rintro e w21 ⟨rfl, hb⟩
      have K0_21 : Hid (BoxK w21 (w.heap.size) [a0_0, a0_1, a0_2, a0_3] 24) := K0_20.out.on hb
      have WR0_21 : Hid (Itm heap.heapSp w21 w4.heap.size [w4_0, w4_1, w4_2, w4_3] 26 lo4_0 hi4_0 (heap.collectF T rs).1) := WR0_20.out.on hb
      have WR1_21 : Hid (ItmR ints.intsSp w21 [u4_1] lo4_1 hi4_1 (heap.collectF T rs).2) := WR1_20.out.on hb
      have GR0_21 : Hid (Itm heap.heapSh w21 w7.heap.size [g7_0, g7_1, g7_2, g7_3] 26 lo7_0 hi7_0 (heap.mkT 1 (heap.collectF T rs).1)) := GR0_20.out.on hb
      have GR1_21 : Hid (ItmR ints.intsSh w21 [u7_1] lo7_1 hi7_1 (ints.mks (1 + (m0 : Nat)) (heap.collectF T rs).2)) := GR1_20.out.on hb
      have BB21 : Hid (Below w.heap.size w w21) := BB20.out.trans (hb.mono BB20.out.size)
      have L32 : Hid (w20.heap.size ≤ w21.heap.size) := hb.size
      clear hb K0_20 WR0_20 WR1_20 GR0_20 GR1_20 BB20
      have t31 : decide (((1 : Int) + (m0 : Nat) + (m1 : Nat) : Int) < 0) = false := by simp; omega
      have cK00 : w21.cell? ⟨w.heap.size, 0, none⟩ = some a0_0 := K0_21.out.cell 0 rfl
      have cK01 : w21.cell? ⟨w.heap.size, 1, none⟩ = some a0_1 := K0_21.out.cell 1 rfl
      have cK02 : w21.cell? ⟨w.heap.size, 2, none⟩ = some a0_2 := K0_21.out.cell 2 rfl
      have cK03 : w21.cell? ⟨w.heap.size, 3, none⟩ = some a0_3 := K0_21.out.cell 3 rfl
      go_wp2_with fail
      refine (heap.toP_any T _ _ (by have := HW.out; omega) (AR0.out _ BB21.out)).mono ?_
      rintro e w22 ⟨⟨k22, rfl, r22⟩, hb⟩
      clear cK00 cK01 cK02 cK03
      have K0_22 : Hid (BoxK w22 (w.heap.size) [a0_0, a0_1, a0_2, a0_3] 24) := K0_21.out.on hb
      have WR0_22 : Hid (Itm heap.heapSp w22 w4.heap.size [w4_0, w4_1, w4_2, w4_3] 26 lo4_0 hi4_0 (heap.collectF T rs).1) := WR0_21.out.on hb
      have WR1_22 : Hid (ItmR ints.intsSp w22 [u4_1] lo4_1 hi4_1 (heap.collectF T rs).2) := WR1_21.out.on hb
      have GR0_22 : Hid (Itm heap.heapSh w22 w7.heap.size [g7_0, g7_1, g7_2, g7_3] 26 lo7_0 hi7_0 (heap.mkT 1 (heap.collectF T rs).1)) := GR0_21.out.on hb
      have GR1_22 : Hid (ItmR ints.intsSh w22 [u7_1] lo7_1 hi7_1 (ints.mks (1 + (m0 : Nat)) (heap.collectF T rs).2)) := GR1_21.out.on hb
      have BB22 : Hid (Below w.heap.size w w22) := BB21.out.trans (hb.mono BB21.out.size)
      have HC0_22 : Hid (ItmR heap.heapSp w22 k22 w21.heap.size w22.heap.size T) := ⟨Nat.le_refl _, r22⟩
      have L33 : Hid (w21.heap.size ≤ w22.heap.size) := hb.size
      clear hb r22 K0_21 WR0_21 WR1_21 GR0_21 GR1_21 BB21
      go_wp2_with fail
      refine (ints.toPS_any rs _ _ HL1.out (AR1.out _ BB22.out)).mono ?_
      rintro e w23 ⟨⟨k23, rfl, r23⟩, hb⟩
      have K0_23 : Hid (BoxK w23 (w.heap.size) [a0_0, a0_1, a0_2, a0_3] 24) := K0_22.out.on hb
      have WR0_23 : Hid (Itm heap.heapSp w23 w4.heap.size [w4_0, w4_1, w4_2, w4_3] 26 lo4_0 hi4_0 (heap.collectF T rs).1) := WR0_22.out.on hb
      have WR1_23 : Hid (ItmR ints.intsSp w23 [u4_1] lo4_1 hi4_1 (heap.collectF T rs).2) := WR1_22.out.on hb
      have GR0_23 : Hid (Itm heap.heapSh w23 w7.heap.size [g7_0, g7_1, g7_2, g7_3] 26 lo7_0 hi7_0 (heap.mkT 1 (heap.collectF T rs).1)) := GR0_22.out.on hb
      have GR1_23 : Hid (ItmR ints.intsSh w23 [u7_1] lo7_1 hi7_1 (ints.mks (1 + (m0 : Nat)) (heap.collectF T rs).2)) := GR1_22.out.on hb
      have HC0_23 : Hid (ItmR heap.heapSp w23 k22 w21.heap.size w22.heap.size T) := HC0_22.out.on hb
      have BB23 : Hid (Below w.heap.size w w23) := BB22.out.trans (hb.mono BB22.out.size)
      have HC1_23 : Hid (ItmR ints.intsSp w23 [k23] w22.heap.size w23.heap.size rs) := ⟨Nat.le_refl _, r23⟩
      have L34 : Hid (w22.heap.size ≤ w23.heap.size) := hb.size
      clear hb r23 K0_22 WR0_22 WR1_22 GR0_22 GR1_22 HC0_22 BB22
      go_wp2_with fail
      refine (heap.implCollect_std T rs _ _ _ HW.out HL1.out (heap.heapSh.mono (heap.heapp_rep HC0_23.out.rep) fun b hb => by have := HC0_23.out.top; have := L0.out; have := L1.out; have := L2.out; have := L3.out; have := L4.out; have := L5.out; have := L6.out; have := L7.out; have := L8.out; have := L9.out; have := L10.out; have := L11.out; have := L12.out; have := L13.out; have := L14.out; have := L15.out; have := L16.out; have := L17.out; have := L18.out; have := L19.out; have := L20.out; have := L21.out; have := L22.out; have := L23.out; have := L24.out; have := L25.out; have := L26.out; have := L27.out; have := L28.out; have := L29.out; have := L30.out; have := L31.out; have := L32.out; have := L33.out; have := L34.out; omega) (ints.intsSh.mono (ints.intsp_rep HC1_23.out.rep) fun b hb => by have := HC1_23.out.top; have := L0.out; have := L1.out; have := L2.out; have := L3.out; have := L4.out; have := L5.out; have := L6.out; have := L7.out; have := L8.out; have := L9.out; have := L10.out; have := L11.out; have := L12.out; have := L13.out; have := L14.out; have := L15.out; have := L16.out; have := L17.out; have := L18.out; have := L19.out; have := L20.out; have := L21.out; have := L22.out; have := L23.out; have := L24.out; have := L25.out; have := L26.out; have := L27.out; have := L28.out; have := L29.out; have := L30.out; have := L31.out; have := L32.out; have := L33.out; have := L34.out; omega)).mono ?_
      rintro e w24 ⟨⟨u24_0, u24_1, lo24_0, hi24_0, lo24_1, hi24_1, rfl, r24_0, r24_1, pa0, pb0, pa1, pb1, dj⟩, hb⟩
      obtain ⟨h24_0, h24_1, h24_2, h24_3, rfl⟩ := heap.heap_list (heap.heapp_rep r24_0)
      have oh24_0 := heap.heapSp.one r24_0 h24_0 (by simp)
      have oh24_1 := heap.heapSp.one r24_0 h24_1 (by simp)
      have oh24_2 := heap.heapSp.one r24_0 h24_2 (by simp)
      have oh24_3 := heap.heapSp.one r24_0 h24_3 (by simp)
      have soh24_0 := fun (a : Addr) (m : Mode) (w : World) => run_store Try.prog w a h24_0 m oh24_0
      have soh24_1 := fun (a : Addr) (m : Mode) (w : World) => run_store Try.prog w a h24_1 m oh24_1
      have soh24_2 := fun (a : Addr) (m : Mode) (w : World) => run_store Try.prog w a h24_2 m oh24_2
      have soh24_3 := fun (a : Addr) (m : Mode) (w : World) => run_store Try.prog w a h24_3 m oh24_3
      obtain ⟨w24b, e24⟩ : ∃ x, x = w24.alloc (.cells #[h24_0, h24_1, h24_2, h24_3] 26) := ⟨_, rfl⟩
      have hA : Below w24.heap.size w24 w24b := by rw [e24]; exact (Below.refl _ _).alloc (Nat.le_refl _) _
      have z24 : w24b.heap.size = w24.heap.size + 1 := by rw [e24]; simp
      have K0_24 : Hid (BoxK w24b (w.heap.size) [a0_0, a0_1, a0_2, a0_3] 24) := (K0_23.out.on hb).on hA
      have WR0_24 : Hid (Itm heap.heapSp w24b w4.heap.size [w4_0, w4_1, w4_2, w4_3] 26 lo4_0 hi4_0 (heap.collectF T rs).1) := (WR0_23.out.on hb).on hA
      have WR1_24 : Hid (ItmR ints.intsSp w24b [u4_1] lo4_1 hi4_1 (heap.collectF T rs).2) := (WR1_23.out.on hb).on hA
      have GR0_24 : Hid (Itm heap.heapSh w24b w7.heap.size [g7_0, g7_1, g7_2, g7_3] 26 lo7_0 hi7_0 (heap.mkT 1 (heap.collectF T rs).1)) := (GR0_23.out.on hb).on hA
      have GR1_24 : Hid (ItmR ints.intsSh w24b [u7_1] lo7_1 hi7_1 (ints.mks (1 + (m0 : Nat)) (heap.collectF T rs).2)) := (GR1_23.out.on hb).on hA
      have BB24 : Hid (Below w.heap.size w w24b) := (BB23.out.trans (hb.mono BB23.out.size)).trans (hA.mono (Nat.le_trans BB23.out.size hb.size))
      have L35 : Hid (w23.heap.size ≤ w24.heap.size) := hb.size
      have L36 : Hid (w24.heap.size + 1 ≤ w24b.heap.size) := by show _ ≤ _; omega
      have L37 : Hid (w23.heap.size ≤ lo24_0) := pa0
      have L38 : Hid (hi24_0 ≤ w24.heap.size) := pb0
      have L39 : Hid (w23.heap.size ≤ lo24_1) := pa1
      have L40 : Hid (hi24_1 ≤ w24.heap.size) := pb1
      have L41 : Hid (hi24_0 ≤ lo24_1 ∨ hi24_1 ≤ lo24_0) := dj
      have HR0_24 : Hid (Itm heap.heapSp w24b w24.heap.size [h24_0, h24_1, h24_2, h24_3] 26 lo24_0 hi24_0 (heap.collectF T rs).1) := by rw [e24]; exact Itm.new r24_0 (pb0) rfl
      have HR1_24 : Hid (ItmR ints.intsSp w24b [u24_1] lo24_1 hi24_1 (heap.collectF T rs).2) := ItmR.on (wk := w24) ⟨pb1, r24_1⟩ hA
      clear hb hA z24 r24_0 r24_1 dj pa0 pb0 pa1 pb1 K0_23 WR0_23 WR1_23 GR0_23 GR1_23 BB23
      have cHR00 : (w24.alloc (.cells #[h24_0, h24_1, h24_2, h24_3] 26)).cell? ⟨w24.heap.size, 0, none⟩ = some h24_0 := by have := HR0_24.out.cell 0 (v := h24_0) rfl; rwa [e24] at this
      have cHR01 : (w24.alloc (.cells #[h24_0, h24_1, h24_2, h24_3] 26)).cell? ⟨w24.heap.size, 1, none⟩ = some h24_1 := by have := HR0_24.out.cell 1 (v := h24_1) rfl; rwa [e24] at this
      have cHR02 : (w24.alloc (.cells #[h24_0, h24_1, h24_2, h24_3] 26)).cell? ⟨w24.heap.size, 2, none⟩ = some h24_2 := by have := HR0_24.out.cell 2 (v := h24_2) rfl; rwa [e24] at this
      have cHR03 : (w24.alloc (.cells #[h24_0, h24_1, h24_2, h24_3] 26)).cell? ⟨w24.heap.size, 3, none⟩ = some h24_3 := by have := HR0_24.out.cell 3 (v := h24_3) rfl; rwa [e24] at this
      have cWR00 : (w24.alloc (.cells #[h24_0, h24_1, h24_2, h24_3] 26)).cell? ⟨w4.heap.size, 0, none⟩ = some w4_0 := by have := WR0_24.out.cell 0 (v := w4_0) rfl; rwa [e24] at this
      have cWR01 : (w24.alloc (.cells #[h24_0, h24_1, h24_2, h24_3] 26)).cell? ⟨w4.heap.size, 1, none⟩ = some w4_1 := by have := WR0_24.out.cell 1 (v := w4_1) rfl; rwa [e24] at this
      have cWR02 : (w24.alloc (.cells #[h24_0, h24_1, h24_2, h24_3] 26)).cell? ⟨w4.heap.size, 2, none⟩ = some w4_2 := by have := WR0_24.out.cell 2 (v := w4_2) rfl; rwa [e24] at this
      have cWR03 : (w24.alloc (.cells #[h24_0, h24_1, h24_2, h24_3] 26)).cell? ⟨w4.heap.size, 3, none⟩ = some w4_3 := by have := WR0_24.out.cell 3 (v := w4_3) rfl; rwa [e24] at this
      go_wp2_with fail
      rw [← e24]
      refine (heap.eq_any (heap.collectF T rs).1 _ _ _ (heap.heapSh.mono (heap.heapp_rep HR0_24.out.rep) fun b hb => by have := HR0_24.out.top; have := L0.out; have := L1.out; have := L2.out; have := L3.out; have := L4.out; have := L5.out; have := L6.out; have := L7.out; have := L8.out; have := L9.out; have := L10.out; have := L11.out; have := L12.out; have := L13.out; have := L14.out; have := L15.out; have := L16.out; have := L17.out; have := L18.out; have := L19.out; have := L20.out; have := L21.out; have := L22.out; have := L23.out; have := L24.out; have := L25.out; have := L26.out; have := L27.out; have := L28.out; have := L29.out; have := L30.out; have := L31.out; have := L32.out; have := L33.out; have := L34.out; have := L35.out; have := L36.out; have := L37.out; have := L38.out; have := L39.out; have := L40.out; have := L41.out; omega) (heap.heapSh.mono (heap.heapp_rep WR0_24.out.rep) fun b hb => by have := WR0_24.out.top; have := L0.out; have := L1.out; have := L2.out; have := L3.out; have := L4.out; have := L5.out; have := L6.out; have := L7.out; have := L8.out; have := L9.out; have := L10.out; have := L11.out; have := L12.out; have := L13.out; have := L14.out; have := L15.out; have := L16.out; have := L17.out; have := L18.out; have := L19.out; have := L20.out; have := L21.out; have := L22.out; have := L23.out; have := L24.out; have := L25.out; have := L26.out; have := L27.out; have := L28.out; have := L29.out; have := L30.out; have := L31.out; have := L32.out; have := L33.out; have := L34.out; have := L35.out; have := L36.out; have := L37.out; have := L38.out; have := L39.out; have := L40.out; have := L41.out; omega)).mono ?_
      rintro e w25 ⟨rfl, hb⟩
      clear cHR00 cHR01 cHR02 cHR03 cWR00 cWR01 cWR02 cWR03 e24
      have K0_25 : Hid (BoxK w25 (w.heap.size) [a0_0, a0_1, a0_2, a0_3] 24) := K0_24.out.on hb
      have WR0_25 : Hid (Itm heap.heapSp w25 w4.heap.size [w4_0, w4_1, w4_2, w4_3] 26 lo4_0 hi4_0 (heap.collectF T rs).1) := WR0_24.out.on hb
      have WR1_25 : Hid (ItmR ints.intsSp w25 [u4_1] lo4_1 hi4_1 (heap.collectF T rs).2) := WR1_24.out.on hb
      have GR0_25 : Hid (Itm heap.heapSh w25 w7.heap.size [g7_0, g7_1, g7_2, g7_3] 26 lo7_0 hi7_0 (heap.mkT 1 (heap.collectF T rs).1)) := GR0_24.out.on hb
      have GR1_25 : Hid (ItmR ints.intsSh w25 [u7_1] lo7_1 hi7_1 (ints.mks (1 + (m0 : Nat)) (heap.collectF T rs).2)) := GR1_24.out.on hb
      have HR0_25 : Hid (Itm heap.heapSp w25 w24.heap.size [h24_0, h24_1, h24_2, h24_3] 26 lo24_0 hi24_0 (heap.collectF T rs).1) := HR0_24.out.on hb
      have HR1_25 : Hid (ItmR ints.intsSp w25 [u24_1] lo24_1 hi24_1 (heap.collectF T rs).2) := HR1_24.out.on hb
      have BB25 : Hid (Below w.heap.size w w25) := BB24.out.trans (hb.mono BB24.out.size)
      have L42 : Hid (w24b.heap.size ≤ w25.heap.size) := hb.size
      clear hb K0_24 WR0_24 WR1_24 GR0_24 GR1_24 HR0_24 HR1_24 BB24
      go_wp2_with fail
      refine (ints.eq_any (heap.collectF T rs).2 _ _ _ (ints.intsSh.mono (ints.intsp_rep HR1_25.out.rep) fun b hb => by have := HR1_25.out.top; have := L0.out; have := L1.out; have := L2.out; have := L3.out; have := L4.out; have := L5.out; have := L6.out; have := L7.out; have := L8.out; have := L9.out; have := L10.out; have := L11.out; have := L12.out; have := L13.out; have := L14.out; have := L15.out; have := L16.out; have := L17.out; have := L18.out; have := L19.out; have := L20.out; have := L21.out; have := L22.out; have := L23.out; have := L24.out; have := L25.out; have := L26.out; have := L27.out; have := L28.out; have := L29.out; have := L30.out; have := L31.out; have := L32.out; have := L33.out; have := L34.out; have := L35.out; have := L36.out; have := L37.out; have := L38.out; have := L39.out; have := L40.out; have := L41.out; have := L42.out; omega) (ints.intsSh.mono (ints.intsp_rep WR1_25.out.rep) fun b hb => by have := WR1_25.out.top; have := L0.out; have := L1.out; have := L2.out; have := L3.out; have := L4.out; have := L5.out; have := L6.out; have := L7.out; have := L8.out; have := L9.out; have := L10.out; have := L11.out; have := L12.out; have := L13.out; have := L14.out; have := L15.out; have := L16.out; have := L17.out; have := L18.out; have := L19.out; have := L20.out; have := L21.out; have := L22.out; have := L23.out; have := L24.out; have := L25.out; have := L26.out; have := L27.out; have := L28.out; have := L29.out; have := L30.out; have := L31.out; have := L32.out; have := L33.out; have := L34.out; have := L35.out; have := L36.out; have := L37.out; have := L38.out; have := L39.out; have := L40.out; have := L41.out; have := L42.out; omega)).mono ?_
      rintro e w26 ⟨rfl, hb⟩
      have K0_26 : Hid (BoxK w26 (w.heap.size) [a0_0, a0_1, a0_2, a0_3] 24) := K0_25.out.on hb
      have WR0_26 : Hid (Itm heap.heapSp w26 w4.heap.size [w4_0, w4_1, w4_2, w4_3] 26 lo4_0 hi4_0 (heap.collectF T rs).1) := WR0_25.out.on hb
      have WR1_26 : Hid (ItmR ints.intsSp w26 [u4_1] lo4_1 hi4_1 (heap.collectF T rs).2) := WR1_25.out.on hb
      have GR0_26 : Hid (Itm heap.heapSh w26 w7.heap.size [g7_0, g7_1, g7_2, g7_3] 26 lo7_0 hi7_0 (heap.mkT 1 (heap.collectF T rs).1)) := GR0_25.out.on hb
      have GR1_26 : Hid (ItmR ints.intsSh w26 [u7_1] lo7_1 hi7_1 (ints.mks (1 + (m0 : Nat)) (heap.collectF T rs).2)) := GR1_25.out.on hb
      have HR0_26 : Hid (Itm heap.heapSp w26 w24.heap.size [h24_0, h24_1, h24_2, h24_3] 26 lo24_0 hi24_0 (heap.collectF T rs).1) := HR0_25.out.on hb
      have HR1_26 : Hid (ItmR ints.intsSp w26 [u24_1] lo24_1 hi24_1 (heap.collectF T rs).2) := HR1_25.out.on hb
      have BB26 : Hid (Below w.heap.size w w26) := BB25.out.trans (hb.mono BB25.out.size)
      have L43 : Hid (w25.heap.size ≤ w26.heap.size) := hb.size
      clear hb K0_25 WR0_25 WR1_25 GR0_25 GR1_25 HR0_25 HR1_25 BB25
      have cGR00 : w26.cell? ⟨w7.heap.size, 0, none⟩ = some g7_0 := GR0_26.out.cell 0 rfl
      have cGR01 : w26.cell? ⟨w7.heap.size, 1, none⟩ = some g7_1 := GR0_26.out.cell 1 rfl
      have cGR02 : w26.cell? ⟨w7.heap.size, 2, none⟩ = some g7_2 := GR0_26.out.cell 2 rfl
      have cGR03 : w26.cell? ⟨w7.heap.size, 3, none⟩ = some g7_3 := GR0_26.out.cell 3 rfl
      go_wp2_with fail
      refine (heap.heldT_any (heap.collectF T rs).1 _ _ (1) (by omega) (by rw [← HM0.out]; omega) (heap.heapSh.mono GR0_26.out.rep fun b hb => by have := GR0_26.out.top; have := L0.out; have := L1.out; have := L2.out; have := L3.out; have := L4.out; have := L5.out; have := L6.out; have := L7.out; have := L8.out; have := L9.out; have := L10.out; have := L11.out; have := L12.out; have := L13.out; have := L14.out; have := L15.out; have := L16.out; have := L17.out; have := L18.out; have := L19.out; have := L20.out; have := L21.out; have := L22.out; have := L23.out; have := L24.out; have := L25.out; have := L26.out; have := L27.out; have := L28.out; have := L29.out; have := L30.out; have := L31.out; have := L32.out; have := L33.out; have := L34.out; have := L35.out; have := L36.out; have := L37.out; have := L38.out; have := L39.out; have := L40.out; have := L41.out; have := L42.out; have := L43.out; omega)).mono ?_
      rw [← HM0.out]
      rintro e w27 ⟨rfl, hb⟩
      clear cGR00 cGR01 cGR02 cGR03
      have K0_27 : Hid (BoxK w27 (w.heap.size) [a0_0, a0_1, a0_2, a0_3] 24) := K0_26.out.on hb
      have WR0_27 : Hid (Itm heap.heapSp w27 w4.heap.size [w4_0, w4_1, w4_2, w4_3] 26 lo4_0 hi4_0 (heap.collectF T rs).1) := WR0_26.out.on hb
      have WR1_27 : Hid (ItmR ints.intsSp w27 [u4_1] lo4_1 hi4_1 (heap.collectF T rs).2) := WR1_26.out.on hb
      have GR0_27 : Hid (Itm heap.heapSh w27 w7.heap.size [g7_0, g7_1, g7_2, g7_3] 26 lo7_0 hi7_0 (heap.mkT 1 (heap.collectF T rs).1)) := GR0_26.out.on hb
      have GR1_27 : Hid (ItmR ints.intsSh w27 [u7_1] lo7_1 hi7_1 (ints.mks (1 + (m0 : Nat)) (heap.collectF T rs).2)) := GR1_26.out.on hb
      have BB27 : Hid (Below w.heap.size w w27) := BB26.out.trans (hb.mono BB26.out.size)
      have L44 : Hid (w26.heap.size ≤ w27.heap.size) := hb.size
      clear hb K0_26 WR0_26 WR1_26 GR0_26 GR1_26 BB26
      have t37 : decide (((1 : Int) + (m0 : Nat) : Int) < 0) = false := by simp; omega
      go_wp2_with fail
      refine (ints.held_any (heap.collectF T rs).2 _ _ (1 + (m0 : Nat)) (by omega) (by rw [← HM1.out]; omega) (ints.intsSh.mono GR1_27.out.rep fun b hb => by have := GR1_27.out.top; have := L0.out; have := L1.out; have := L2.out; have := L3.out; have := L4.out; have := L5.out; have := L6.out; have := L7.out; have := L8.out; have := L9.out; have := L10.out; have := L11.out; have := L12.out; have := L13.out; have := L14.out; have := L15.out; have := L16.out; have := L17.out; have := L18.out; have := L19.out; have := L20.out; have := L21.out; have := L22.out; have := L23.out; have := L24.out; have := L25.out; have := L26.out; have := L27.out; have := L28.out; have := L29.out; have := L30.out; have := L31.out; have := L32.out; have := L33.out; have := L34.out; have := L35.out; have := L36.out; have := L37.out; have := L38.out; have := L39.out; have := L40.out; have := L41.out; have := L42.out; have := L43.out; have := L44.out; omega)).mono ?_
      rw [← HM1.out]
      rintro e w28 ⟨rfl, hb⟩
      have K0_28 : Hid (BoxK w28 (w.heap.size) [a0_0, a0_1, a0_2, a0_3] 24) := K0_27.out.on hb
      have WR0_28 : Hid (Itm heap.heapSp w28 w4.heap.size [w4_0, w4_1, w4_2, w4_3] 26 lo4_0 hi4_0 (heap.collectF T rs).1) := WR0_27.out.on hb
      have WR1_28 : Hid (ItmR ints.intsSp w28 [u4_1] lo4_1 hi4_1 (heap.collectF T rs).2) := WR1_27.out.on hb
      have GR0_28 : Hid (Itm heap.heapSh w28 w7.heap.size [g7_0, g7_1, g7_2, g7_3] 26 lo7_0 hi7_0 (heap.mkT 1 (heap.collectF T rs).1)) := GR0_27.out.on hb
      have GR1_28 : Hid (ItmR ints.intsSh w28 [u7_1] lo7_1 hi7_1 (ints.mks (1 + (m0 : Nat)) (heap.collectF T rs).2)) := GR1_27.out.on hb
      have BB28 : Hid (Below w.heap.size w w28) := BB27.out.trans (hb.mono BB27.out.size)
      have L45 : Hid (w27.heap.size ≤ w28.heap.size) := hb.size
      clear hb K0_27 WR0_27 WR1_27 GR0_27 GR1_27 BB27
      have t38 : decide (((1 : Int) + (m0 : Nat) + (m1 : Nat) : Int) < 0) = false := by simp; omega
      go_wp2
      go_ret
      exact ⟨rfl, BB28.out⟩
  · have hl : left q0 (1048576) = -1 := by unfold left; rw [if_neg (by omega)]
    rw [hl]
    go_wp2
    go_ret
    exact ⟨rfl, BB1.out⟩

set_option maxRecDepth 100000 in
theorem lifted (os : Os) (started : os.Started) (H : Type) (enc : TypeId × Value → H) :
    ReturnsInHanded {} Try.checked os 3 .any (Rows.fnExactCollectSpec.pre6 enc Try.prog Try.f3 Rows.fnExactCollectRow.domain false) (Rows.fnExactCollectSpec.post enc Try.prog Try.f3 false true false false) := by
  refine returnsInHanded_of_change (C := Try.checked) own started (by kernel_rfl) Try.func3
    (ChangeSpec.witness6 (enc := enc) (C := Try.checked) false ⟨#[], #[.agg #[.slice none 0 0, .int .i64 0, .int .i64 0, .int .i64 0], .slice none 0 0], []⟩ 8 (by kernel_rfl) (by kernel_rfl) (by kernel_rfl) (by kernel_rfl)) ?_
  intro W base args ds gs before hval0 hW hcnd _
  have hval : ∀ (j : Nat) t v, Try.f3.params[j]? = some t → args[j]? = some v → Value.okWide Try.prog W .any base t v := hval0
  have hW' := hW
  obtain ⟨p, q, hA0, hV, rfl, hfz, hnd⟩ := hW
  have hA : DataW.TrodAll enc Try.prog W 0 (fun _ => true) true Try.f3.params.toList args.toList ds p := hA0
  rw [Try.params3] at hA hval
  obtain ⟨v0, vs0, d0, ds0, p0, q0, hargs, rfl, rfl, h0, r0⟩ := trodAll_cons hA
  obtain ⟨v1, vs1, d1, ds1, p1, q1, rfl, rfl, rfl, h1, r1⟩ := trodAll_cons r0
  obtain ⟨rfl, rfl, rfl⟩ := trodAll_nil r1
  obtain rfl : args = #[v0, v1] := by cases args; simp_all
  obtain ⟨rfl, rfl⟩ := trodVars_none hV
  have k0 := h0
  have lt0 : ∀ x ∈ p0, x.block < W.heap.size := by obtain ⟨m, hm⟩ := k0; exact DataW.trod_lt m _ _ _ hm
  have k1 := h1
  have lt1 : ∀ x ∈ p1, x.block < W.heap.size := by obtain ⟨m, hm⟩ := k1; exact DataW.trod_lt m _ _ _ hm
  obtain ⟨cs0, T, rfl, hT0⟩ := heap.arg_heap (hval 0 24 v0 rfl rfl) h0
  obtain ⟨a1, len1, cap1, rfl⟩ := okWide_slice Try.underlying22 (hval 1 22 v1 rfl rfl)
  obtain ⟨rs, hT1⟩ : ∃ ks, ints.intsSh.rep W (· < W.heap.size) [.slice a1 len1 cap1] ks := by
    obtain ⟨fuel, hf⟩ := h1
    exact opens_ints (enc := enc) (w := W) fuel fuel _ _ (Nat.le_refl _) hf
  clear hA0 hval0
  refine (walk T rs cs0 _ W  hT0 hT1).mono fun e W' ⟨he, bel⟩ => ?_
  subst he
  exact ⟨_, rfl, _, _, _, [], _, [], hW', trodAll_mk1 (shut_bool Try.underlying4 _), (trodAll_cons_mk (Below.trod laidOut (by kernel_rfl) (of_decide_eq_true (by kernel_rfl)) k0 bel lt0) (trodAll_cons_mk (Below.trod laidOut (by kernel_rfl) (of_decide_eq_true (by kernel_rfl)) k1 bel lt1) trodAll_mk0)), rfl, bel.frame _, fun h => by cases h⟩

theorem over : Rows.fnExactCollectRow.holds Try.pinned (OpenSpec.ofChange Rows.fnExactCollectSpec) :=
  OpenClaim.holds_of_wide 3 Try.f3 rfl rfl rfl rfl rfl rfl rfl ⟨rfl, rfl, rfl, rfl, rfl⟩ rfl rfl rfl rfl rfl (by kernel_rfl) Try.func3 (by kernel_rfl)
    (of_decide_eq_true (by kernel_rfl)) (by unfold Func.isWrapper; first | (rw [if_pos (by decide +kernel)]; kernel_rfl) | (rw [if_neg (by decide +kernel)]; exact ⟨rfl, rfl⟩))
    (fun os started H enc _ => lifted os started H enc)

/-- THE STATEMENT. -/
theorem proved : Rows.FnExactCollectSaid :=
  over
#print axioms proved
end Go.Proofs.Ytojhldciehfhfaa.fnExactCollect
