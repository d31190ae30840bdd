/-
  At every argument the program's function answers as its model, writes nothing into an argument, and its answer owns its memory; the law's call returns true, and the arguments read as they read before. No condition.
-/
import Derived.Test.YtjibmpebebephaaGreatDoorCards
import Derived.Test.YtjibmpebebephaaGreatDoorTie
import Derived.WalkKit
import Derived.OpenShut
import Derived.LaidMore
import Derived.Stop.LaidErr
import Derived.OpenVars
import Derived.ProofKit
import Derived.Deep.DeepHandedRow
import Derived.ChangeOld
import Derived.Carry
import Derived.Test.YtjibmpebebephaaGreatDoorB1
import Derived.Test.YtjibmpebebephaaGreatDoorB2
import Derived.Test.YtjibmpebebephaaGreatDoorB3
import Derived.Test.YtjibmpebebephaaGreatDoorB4
import Derived.Test.YtjibmpebebephaaGreatDoorB5
import Derived.Test.YtjibmpebebephaaGreatDoorB6
import Derived.Test.YtjibmpebebephaaGreatDoorB7
import Derived.Test.YtjibmpebebephaaGreatDoorB8
import Derived.Test.YtjibmpebebephaaGreatDoorB9
import Derived.Test.YtjibmpebebephaaGreatDoorB10
import Derived.Test.YtjibmpebebephaaGreatDoorB11
import Derived.Test.YtjibmpebebephaaGreatDoorB12
import Derived.Test.YtjibmpebebephaaGreatDoorB13
import Derived.Test.YtjibmpebebephaaGreatDoorB14
import Derived.Test.YtjibmpebebephaaGreatDoorB15
import Derived.Test.YtjibmpebebephaaGreatDoorB16
import Derived.Test.YtjibmpebebephaaGreatDoorB17
import Derived.Test.YtjibmpebebephaaGreatDoorB18
import Derived.Test.YtjibmpebebephaaGreatDoorB19
import Derived.Test.YtjibmpebebephaaGreatDoorB20
import Derived.Test.YtjibmpebebephaaGreatDoorB21
import Derived.Test.YtjibmpebebephaaGreatDoorB22
import Derived.Test.YtjibmpebebephaaGreatDoorB23
import Derived.Test.YtjibmpebebephaaGreatDoorB24
import Derived.Test.YtjibmpebebephaaGreatDoorB25
import Derived.Test.YtjibmpebebephaaGreatDoorB26
import Derived.Test.YtjibmpebebephaaGreatDoorB27
import Derived.Test.YtjibmpebebephaaGreatDoorB28
namespace Go.Proofs.YtjibmpebebephaaGreatDoor.fnExactVmOk
open Go.ChangeShapes Go.WideShapes Go.ChangeAt Go.RowKit Go.Proofs.YtjibmpebebephaaGreatDoor.rose Go.Proofs.YtjibmpebebephaaGreatDoor
open Go.ChangeMaps (open_string shut_string)
set_option linter.unusedVariables false
set_option maxRecDepth 100000

theorem own : ownKnob Tryz.prog.godebug = none := by kernel_rfl
theorem laidOut : laidOutB Tryz.prog = true := by kernel_rfl

set_option maxRecDepth 100000 in
set_option maxHeartbeats 8000000 in
theorem walk (T : vm.VmD) (cs0 : List Value) (w : World) (hN : «fun».Names w) (h0 : vm.vmSh.rep w (· < w.heap.size) cs0 T) :
    Calls Tryz.prog 3 #[.agg cs0.toArray] w fun e w' => e = .returned (.bool true) ∧ Below w.heap.size w w' := by
  obtain ⟨a0_0, a0_1, a0_2, a0_3, a0_4, a0_5, a0_6, a0_7, a0_8, a0_9, rfl⟩ := vm.vm_list h0
  have oa0_0 := vm.vmSh.one h0 a0_0 (by simp)
  have oa0_1 := vm.vmSh.one h0 a0_1 (by simp)
  have oa0_2 := vm.vmSh.one h0 a0_2 (by simp)
  have oa0_3 := vm.vmSh.one h0 a0_3 (by simp)
  have oa0_4 := vm.vmSh.one h0 a0_4 (by simp)
  have oa0_5 := vm.vmSh.one h0 a0_5 (by simp)
  have oa0_6 := vm.vmSh.one h0 a0_6 (by simp)
  have oa0_7 := vm.vmSh.one h0 a0_7 (by simp)
  have oa0_8 := vm.vmSh.one h0 a0_8 (by simp)
  have oa0_9 := vm.vmSh.one h0 a0_9 (by simp)
  have AR0 : Hid (∀ W : World, Below w.heap.size w W → vm.vmSh.rep W (· < W.heap.size) [a0_0, a0_1, a0_2, a0_3, a0_4, a0_5, a0_6, a0_7, a0_8, a0_9] T) := fun W hb => vm.vmSh.mono (vm.vmSh.below h0 hb) fun b hlt => Nat.lt_of_lt_of_le hlt hb.size
  clear h0
  have NS : Hid («fun».Names w) := hN
  clear hN
  have BB0 : Hid (Below w.heap.size w (w.alloc (.cells #[a0_0, a0_1, a0_2, a0_3, a0_4, a0_5, a0_6, a0_7, a0_8, a0_9] 28))) := (Below.refl _ w).alloc (by simp) _
  have K0_0 : Hid (BoxK (w.alloc (.cells #[a0_0, a0_1, a0_2, a0_3, a0_4, a0_5, a0_6, a0_7, a0_8, a0_9] 28)) (w.heap.size) [a0_0, a0_1, a0_2, a0_3, a0_4, a0_5, a0_6, a0_7, a0_8, a0_9] 28) := ⟨by exact alloc_top _ _⟩
  go_enter Tryz.func3, Tryz.ntmps3
  go_wp2_with fail
  refine (vm.sz_any T _ _ 1048576 (by decide) (by decide) (AR0.out _ BB0.out)).mono ?_
  rintro e w1 ⟨rfl, hb⟩
  have K0_1 : Hid (BoxK w1 (w.heap.size) [a0_0, a0_1, a0_2, a0_3, a0_4, a0_5, a0_6, a0_7, a0_8, a0_9] 28) := K0_0.out.on hb
  have BB1 : Hid (Below w.heap.size w w1) := BB0.out.trans (hb.mono BB0.out.size)
  have L0 : Hid (w.heap.size + 1 ≤ w1.heap.size) := by have := hb.size; (try simp at this); show _ ≤ _; omega
  clear hb K0_0 BB0
  obtain ⟨q0, hq0⟩ : ∃ nz : Nat, nz = vm.wt T := ⟨_, rfl⟩
  rw [← hq0]
  have HQ0 : Hid (q0 = vm.wt T) := hq0
  clear hq0
  by_cases hw0 : q0 ≤ 1048576
  · have hl : left q0 (1048576) = 1048576 - (q0 : Nat) := by unfold left; rw [if_pos (by omega)]
    rw [hl]
    have t1 : decide (((1048576 : Int) - (q0 : Nat) : Int) < 0) = false := by simp; omega
    clear hl
    have HW : Hid ((vm.wt T) ≤ 1048576) := by have := HQ0.out; show _ ≤ _; omega
    have cK00 : w1.cell? ⟨w.heap.size, 0, none⟩ = some a0_0 := K0_1.out.cell 0 rfl
    have cK01 : w1.cell? ⟨w.heap.size, 1, none⟩ = some a0_1 := K0_1.out.cell 1 rfl
    have cK02 : w1.cell? ⟨w.heap.size, 2, none⟩ = some a0_2 := K0_1.out.cell 2 rfl
    have cK03 : w1.cell? ⟨w.heap.size, 3, none⟩ = some a0_3 := K0_1.out.cell 3 rfl
    have cK04 : w1.cell? ⟨w.heap.size, 4, none⟩ = some a0_4 := K0_1.out.cell 4 rfl
    have cK05 : w1.cell? ⟨w.heap.size, 5, none⟩ = some a0_5 := K0_1.out.cell 5 rfl
    have cK06 : w1.cell? ⟨w.heap.size, 6, none⟩ = some a0_6 := K0_1.out.cell 6 rfl
    have cK07 : w1.cell? ⟨w.heap.size, 7, none⟩ = some a0_7 := K0_1.out.cell 7 rfl
    have cK08 : w1.cell? ⟨w.heap.size, 8, none⟩ = some a0_8 := K0_1.out.cell 8 rfl
    have cK09 : w1.cell? ⟨w.heap.size, 9, none⟩ = some a0_9 := K0_1.out.cell 9 rfl
    go_wp2_with fail
    refine (vm.toP_any T _ _ (by have := HW.out; omega) (AR0.out _ BB1.out)).mono ?_
    rintro e w2 ⟨⟨k2, rfl, r2⟩, hb⟩
    clear cK00 cK01 cK02 cK03 cK04 cK05 cK06 cK07 cK08 cK09
    have K0_2 : Hid (BoxK w2 (w.heap.size) [a0_0, a0_1, a0_2, a0_3, a0_4, a0_5, a0_6, a0_7, a0_8, a0_9] 28) := K0_1.out.on hb
    have BB2 : Hid (Below w.heap.size w w2) := BB1.out.trans (hb.mono BB1.out.size)
    have WC0_2 : Hid (ItmR vm.vmSp w2 k2 w1.heap.size w2.heap.size T) := ⟨Nat.le_refl _, r2⟩
    have L1 : Hid (w1.heap.size ≤ w2.heap.size) := hb.size
    clear hb r2 K0_1 BB1
    go_wp2_with fail
    refine (vm.specVmOk_std T _ _ HW.out (vm.vmSh.mono (vm.vmp_rep WC0_2.out.rep) fun b hb => by have := WC0_2.out.top; have := L0.out; have := L1.out; omega)).mono ?_
    rintro e w3 ⟨rfl, hb⟩
    have K0_3 : Hid (BoxK w3 (w.heap.size) [a0_0, a0_1, a0_2, a0_3, a0_4, a0_5, a0_6, a0_7, a0_8, a0_9] 28) := K0_2.out.on hb
    have BB3 : Hid (Below w.heap.size w w3) := BB2.out.trans (hb.mono BB2.out.size)
    have L2 : Hid (w2.heap.size ≤ w3.heap.size) := hb.size
    clear hb K0_2 BB2
    have cK00 : w3.cell? ⟨w.heap.size, 0, none⟩ = some a0_0 := K0_3.out.cell 0 rfl
    have cK01 : w3.cell? ⟨w.heap.size, 1, none⟩ = some a0_1 := K0_3.out.cell 1 rfl
    have cK02 : w3.cell? ⟨w.heap.size, 2, none⟩ = some a0_2 := K0_3.out.cell 2 rfl
    have cK03 : w3.cell? ⟨w.heap.size, 3, none⟩ = some a0_3 := K0_3.out.cell 3 rfl
    have cK04 : w3.cell? ⟨w.heap.size, 4, none⟩ = some a0_4 := K0_3.out.cell 4 rfl
    have cK05 : w3.cell? ⟨w.heap.size, 5, none⟩ = some a0_5 := K0_3.out.cell 5 rfl
    have cK06 : w3.cell? ⟨w.heap.size, 6, none⟩ = some a0_6 := K0_3.out.cell 6 rfl
    have cK07 : w3.cell? ⟨w.heap.size, 7, none⟩ = some a0_7 := K0_3.out.cell 7 rfl
    have cK08 : w3.cell? ⟨w.heap.size, 8, none⟩ = some a0_8 := K0_3.out.cell 8 rfl
    have cK09 : w3.cell? ⟨w.heap.size, 9, none⟩ = some a0_9 := K0_3.out.cell 9 rfl
    go_wp2_with fail
    refine (vm.toP_any T _ _ (by have := HW.out; omega) (AR0.out _ BB3.out)).mono ?_
    rintro e w4 ⟨⟨k4, rfl, r4⟩, hb⟩
    clear cK00 cK01 cK02 cK03 cK04 cK05 cK06 cK07 cK08 cK09
    obtain ⟨x4_0, x4_1, x4_2, x4_3, x4_4, x4_5, x4_6, x4_7, x4_8, x4_9, rfl⟩ := vm.vm_list (vm.vmp_rep r4)
    have ox4_0 := vm.vmSp.one r4 x4_0 (by simp)
    have ox4_1 := vm.vmSp.one r4 x4_1 (by simp)
    have ox4_2 := vm.vmSp.one r4 x4_2 (by simp)
    have ox4_3 := vm.vmSp.one r4 x4_3 (by simp)
    have ox4_4 := vm.vmSp.one r4 x4_4 (by simp)
    have ox4_5 := vm.vmSp.one r4 x4_5 (by simp)
    have ox4_6 := vm.vmSp.one r4 x4_6 (by simp)
    have ox4_7 := vm.vmSp.one r4 x4_7 (by simp)
    have ox4_8 := vm.vmSp.one r4 x4_8 (by simp)
    have ox4_9 := vm.vmSp.one r4 x4_9 (by simp)
    have sox4_0 := fun (a : Addr) (m : Mode) (w : World) => run_store Tryz.prog w a x4_0 m ox4_0
    have sox4_1 := fun (a : Addr) (m : Mode) (w : World) => run_store Tryz.prog w a x4_1 m ox4_1
    have sox4_2 := fun (a : Addr) (m : Mode) (w : World) => run_store Tryz.prog w a x4_2 m ox4_2
    have sox4_3 := fun (a : Addr) (m : Mode) (w : World) => run_store Tryz.prog w a x4_3 m ox4_3
    have sox4_4 := fun (a : Addr) (m : Mode) (w : World) => run_store Tryz.prog w a x4_4 m ox4_4
    have sox4_5 := fun (a : Addr) (m : Mode) (w : World) => run_store Tryz.prog w a x4_5 m ox4_5
    have sox4_6 := fun (a : Addr) (m : Mode) (w : World) => run_store Tryz.prog w a x4_6 m ox4_6
    have sox4_7 := fun (a : Addr) (m : Mode) (w : World) => run_store Tryz.prog w a x4_7 m ox4_7
    have sox4_8 := fun (a : Addr) (m : Mode) (w : World) => run_store Tryz.prog w a x4_8 m ox4_8
    have sox4_9 := fun (a : Addr) (m : Mode) (w : World) => run_store Tryz.prog w a x4_9 m ox4_9
    obtain ⟨w4b, e4⟩ : ∃ x, x = w4.alloc (.cells #[x4_0, x4_1, x4_2, x4_3, x4_4, x4_5, x4_6, x4_7, x4_8, x4_9] 35) := ⟨_, rfl⟩
    have hA : Below w4.heap.size w4 w4b := by rw [e4]; exact (Below.refl _ _).alloc (Nat.le_refl _) _
    have z4 : w4b.heap.size = w4.heap.size + 1 := by rw [e4]; simp
    have K0_4 : Hid (BoxK w4b (w.heap.size) [a0_0, a0_1, a0_2, a0_3, a0_4, a0_5, a0_6, a0_7, a0_8, a0_9] 28) := (K0_3.out.on hb).on hA
    have BB4 : Hid (Below w.heap.size w w4b) := (BB3.out.trans (hb.mono BB3.out.size)).trans (hA.mono (Nat.le_trans BB3.out.size hb.size))
    have L3 : Hid (w3.heap.size ≤ w4.heap.size) := hb.size
    have L4 : Hid (w4.heap.size + 1 ≤ w4b.heap.size) := by show _ ≤ _; omega
    have X0_4 : Hid (Itm vm.vmSp w4b w4.heap.size [x4_0, x4_1, x4_2, x4_3, x4_4, x4_5, x4_6, x4_7, x4_8, x4_9] 35 w3.heap.size w4.heap.size T) := by rw [e4]; exact Itm.new r4 (Nat.le_refl _) rfl
    clear hb hA z4 r4 K0_3 BB3
    have cX00 : (w4.alloc (.cells #[x4_0, x4_1, x4_2, x4_3, x4_4, x4_5, x4_6, x4_7, x4_8, x4_9] 35)).cell? ⟨w4.heap.size, 0, none⟩ = some x4_0 := by have := X0_4.out.cell 0 (v := x4_0) rfl; rwa [e4] at this
    have cX01 : (w4.alloc (.cells #[x4_0, x4_1, x4_2, x4_3, x4_4, x4_5, x4_6, x4_7, x4_8, x4_9] 35)).cell? ⟨w4.heap.size, 1, none⟩ = some x4_1 := by have := X0_4.out.cell 1 (v := x4_1) rfl; rwa [e4] at this
    have cX02 : (w4.alloc (.cells #[x4_0, x4_1, x4_2, x4_3, x4_4, x4_5, x4_6, x4_7, x4_8, x4_9] 35)).cell? ⟨w4.heap.size, 2, none⟩ = some x4_2 := by have := X0_4.out.cell 2 (v := x4_2) rfl; rwa [e4] at this
    have cX03 : (w4.alloc (.cells #[x4_0, x4_1, x4_2, x4_3, x4_4, x4_5, x4_6, x4_7, x4_8, x4_9] 35)).cell? ⟨w4.heap.size, 3, none⟩ = some x4_3 := by have := X0_4.out.cell 3 (v := x4_3) rfl; rwa [e4] at this
    have cX04 : (w4.alloc (.cells #[x4_0, x4_1, x4_2, x4_3, x4_4, x4_5, x4_6, x4_7, x4_8, x4_9] 35)).cell? ⟨w4.heap.size, 4, none⟩ = some x4_4 := by have := X0_4.out.cell 4 (v := x4_4) rfl; rwa [e4] at this
    have cX05 : (w4.alloc (.cells #[x4_0, x4_1, x4_2, x4_3, x4_4, x4_5, x4_6, x4_7, x4_8, x4_9] 35)).cell? ⟨w4.heap.size, 5, none⟩ = some x4_5 := by have := X0_4.out.cell 5 (v := x4_5) rfl; rwa [e4] at this
    have cX06 : (w4.alloc (.cells #[x4_0, x4_1, x4_2, x4_3, x4_4, x4_5, x4_6, x4_7, x4_8, x4_9] 35)).cell? ⟨w4.heap.size, 6, none⟩ = some x4_6 := by have := X0_4.out.cell 6 (v := x4_6) rfl; rwa [e4] at this
    have cX07 : (w4.alloc (.cells #[x4_0, x4_1, x4_2, x4_3, x4_4, x4_5, x4_6, x4_7, x4_8, x4_9] 35)).cell? ⟨w4.heap.size, 7, none⟩ = some x4_7 := by have := X0_4.out.cell 7 (v := x4_7) rfl; rwa [e4] at this
    have cX08 : (w4.alloc (.cells #[x4_0, x4_1, x4_2, x4_3, x4_4, x4_5, x4_6, x4_7, x4_8, x4_9] 35)).cell? ⟨w4.heap.size, 8, none⟩ = some x4_8 := by have := X0_4.out.cell 8 (v := x4_8) rfl; rwa [e4] at this
    have cX09 : (w4.alloc (.cells #[x4_0, x4_1, x4_2, x4_3, x4_4, x4_5, x4_6, x4_7, x4_8, x4_9] 35)).cell? ⟨w4.heap.size, 9, none⟩ = some x4_9 := by have := X0_4.out.cell 9 (v := x4_9) rfl; rwa [e4] at this
    go_wp2_with fail
    rw [← e4]
    refine (vm.implVmOk_std T _ _ HW.out (NS.out.on BB4.out) (vm.vmSh.mono (vm.vmp_rep X0_4.out.rep) fun b hb => by have := X0_4.out.top; have := L0.out; have := L1.out; have := L2.out; have := L3.out; have := L4.out; omega)).mono ?_
    rintro e w5 ⟨rfl, hb⟩
    clear cX00 cX01 cX02 cX03 cX04 cX05 cX06 cX07 cX08 cX09 e4
    have K0_5 : Hid (BoxK w5 (w.heap.size) [a0_0, a0_1, a0_2, a0_3, a0_4, a0_5, a0_6, a0_7, a0_8, a0_9] 28) := K0_4.out.on hb
    have X0_5 : Hid (Itm vm.vmSp w5 w4.heap.size [x4_0, x4_1, x4_2, x4_3, x4_4, x4_5, x4_6, x4_7, x4_8, x4_9] 35 w3.heap.size w4.heap.size T) := X0_4.out.on hb
    have BB5 : Hid (Below w.heap.size w w5) := BB4.out.trans (hb.mono BB4.out.size)
    have L5 : Hid (w4b.heap.size ≤ w5.heap.size) := hb.size
    clear hb K0_4 X0_4 BB4
    go_wp2
    have cK00 : w5.cell? ⟨w.heap.size, 0, none⟩ = some a0_0 := K0_5.out.cell 0 rfl
    have cK01 : w5.cell? ⟨w.heap.size, 1, none⟩ = some a0_1 := K0_5.out.cell 1 rfl
    have cK02 : w5.cell? ⟨w.heap.size, 2, none⟩ = some a0_2 := K0_5.out.cell 2 rfl
    have cK03 : w5.cell? ⟨w.heap.size, 3, none⟩ = some a0_3 := K0_5.out.cell 3 rfl
    have cK04 : w5.cell? ⟨w.heap.size, 4, none⟩ = some a0_4 := K0_5.out.cell 4 rfl
    have cK05 : w5.cell? ⟨w.heap.size, 5, none⟩ = some a0_5 := K0_5.out.cell 5 rfl
    have cK06 : w5.cell? ⟨w.heap.size, 6, none⟩ = some a0_6 := K0_5.out.cell 6 rfl
    have cK07 : w5.cell? ⟨w.heap.size, 7, none⟩ = some a0_7 := K0_5.out.cell 7 rfl
    have cK08 : w5.cell? ⟨w.heap.size, 8, none⟩ = some a0_8 := K0_5.out.cell 8 rfl
    have cK09 : w5.cell? ⟨w.heap.size, 9, none⟩ = some a0_9 := K0_5.out.cell 9 rfl
    have cX00 : w5.cell? ⟨w4.heap.size, 0, none⟩ = some x4_0 := X0_5.out.cell 0 rfl
    have cX01 : w5.cell? ⟨w4.heap.size, 1, none⟩ = some x4_1 := X0_5.out.cell 1 rfl
    have cX02 : w5.cell? ⟨w4.heap.size, 2, none⟩ = some x4_2 := X0_5.out.cell 2 rfl
    have cX03 : w5.cell? ⟨w4.heap.size, 3, none⟩ = some x4_3 := X0_5.out.cell 3 rfl
    have cX04 : w5.cell? ⟨w4.heap.size, 4, none⟩ = some x4_4 := X0_5.out.cell 4 rfl
    have cX05 : w5.cell? ⟨w4.heap.size, 5, none⟩ = some x4_5 := X0_5.out.cell 5 rfl
    have cX06 : w5.cell? ⟨w4.heap.size, 6, none⟩ = some x4_6 := X0_5.out.cell 6 rfl
    have cX07 : w5.cell? ⟨w4.heap.size, 7, none⟩ = some x4_7 := X0_5.out.cell 7 rfl
    have cX08 : w5.cell? ⟨w4.heap.size, 8, none⟩ = some x4_8 := X0_5.out.cell 8 rfl
    have cX09 : w5.cell? ⟨w4.heap.size, 9, none⟩ = some x4_9 := X0_5.out.cell 9 rfl
    have hcall := vm.toP_any T _ w5.drew (by have := HW.out; omega) (AR0.out _ BB5.out.drew)
    go_region_with (first | (go_at_call 7; refine hcall.mono ?_; rintro e w6 ⟨⟨k6, rfl, r6⟩, hb⟩; have cy0 := (hb.cell (p := ⟨w4.heap.size, 0, none⟩) (show w4.heap.size < w5.heap.size from X0_5.out.lt)).trans cX00; have cy1 := (hb.cell (p := ⟨w4.heap.size, 1, none⟩) (show w4.heap.size < w5.heap.size from X0_5.out.lt)).trans cX01; have cy2 := (hb.cell (p := ⟨w4.heap.size, 2, none⟩) (show w4.heap.size < w5.heap.size from X0_5.out.lt)).trans cX02; have cy3 := (hb.cell (p := ⟨w4.heap.size, 3, none⟩) (show w4.heap.size < w5.heap.size from X0_5.out.lt)).trans cX03; have cy4 := (hb.cell (p := ⟨w4.heap.size, 4, none⟩) (show w4.heap.size < w5.heap.size from X0_5.out.lt)).trans cX04; have cy5 := (hb.cell (p := ⟨w4.heap.size, 5, none⟩) (show w4.heap.size < w5.heap.size from X0_5.out.lt)).trans cX05; have cy6 := (hb.cell (p := ⟨w4.heap.size, 6, none⟩) (show w4.heap.size < w5.heap.size from X0_5.out.lt)).trans cX06; have cy7 := (hb.cell (p := ⟨w4.heap.size, 7, none⟩) (show w4.heap.size < w5.heap.size from X0_5.out.lt)).trans cX07; have cy8 := (hb.cell (p := ⟨w4.heap.size, 8, none⟩) (show w4.heap.size < w5.heap.size from X0_5.out.lt)).trans cX08; have cy9 := (hb.cell (p := ⟨w4.heap.size, 9, none⟩) (show w4.heap.size < w5.heap.size from X0_5.out.lt)).trans cX09) | (go_at_call 9; refine (vm.eq_any T [x4_0, x4_1, x4_2, x4_3, x4_4, x4_5, x4_6, x4_7, x4_8, x4_9] k6 _ (vm.vmSh.mono (vm.vmp_rep ((X0_5.out.on ((Below.refl _ w5).drew.trans hb)).rep)) (fun b hlt => by have := X0_5.out.top; have : w5.heap.size ≤ w6.heap.size := hb.size; omega)) (vm.vmSh.mono (vm.vmp_rep r6) fun b hlt => hlt.2)).mono ?_; rintro e w7 ⟨rfl, hb2⟩))
    all_goals
      have hbb : Below w5.heap.size w5 w7 := ((Below.refl _ w5).drew.trans hb).trans (hb2.mono hb.size)
      have K0_7 : Hid (BoxK w7 (w.heap.size) [a0_0, a0_1, a0_2, a0_3, a0_4, a0_5, a0_6, a0_7, a0_8, a0_9] 28) := K0_5.out.on hbb
      have X0_7 : Hid (Itm vm.vmSp w7 w4.heap.size [x4_0, x4_1, x4_2, x4_3, x4_4, x4_5, x4_6, x4_7, x4_8, x4_9] 35 w3.heap.size w4.heap.size T) := X0_5.out.on hbb
      have BB7 : Hid (Below w.heap.size w w7) := BB5.out.trans (hbb.mono BB5.out.size)
      have L6 : Hid (w5.heap.size ≤ w7.heap.size) := hbb.size
      clear hb hb2 hbb r6 hcall cK00 cK01 cK02 cK03 cK04 cK05 cK06 cK07 cK08 cK09 cX00 cX01 cX02 cX03 cX04 cX05 cX06 cX07 cX08 cX09 cy0 cy1 cy2 cy3 cy4 cy5 cy6 cy7 cy8 cy9 K0_5 X0_5 BB5
      go_wp2
      go_ret
      exact ⟨rfl, BB7.out⟩
  · have hl : left q0 (1048576) = -1 := by unfold left; rw [if_neg (by omega)]
    rw [hl]
    go_wp2
    go_ret
    exact ⟨rfl, BB1.out⟩

/-- WHAT THE WALKS GIVE, FOR EVERY ARGUMENT AND EVERY WORLD THAT HOLDS WHAT IS LISTED. -/
theorem contract (H : Type) (enc : TypeId × Value → H) (W : World) (base : Nat) (args : Array Value) (ds gs : List (DataW H)) (before : List MemPlace)
    (hval : ∀ (j : Nat) t v, Tryz.f3.params[j]? = some t → args[j]? = some v → Value.okWide Tryz.prog W .any base t v)
    (hW : DataW.Whole enc Tryz.prog Tryz.f3.params.toList Rows.fnExactVmOkSpec.vars false W args.toList ds gs before) (hL : laidMetH Tryz.prog Rows.fnExactVmOkRow.laid W) :
    Calls Tryz.prog 3 args W fun e W' => ∃ v, e = .returned v ∧ Rows.fnExactVmOkSpec.post enc Tryz.prog Tryz.f3 false true false false W args v W' := by
  have hW' := hW
  obtain ⟨p, q, hA0, hV, rfl, hfz, hnd⟩ := hW
  have hA : DataW.TrodAll enc Tryz.prog W 0 (fun _ => true) true Tryz.f3.params.toList args.toList ds p := hA0
  rw [Tryz.params3] at hA hval
  obtain ⟨v0, vs0, d0, ds0, p0, q0, hargs, rfl, rfl, h0, r0⟩ := trodAll_cons hA
  obtain ⟨rfl, rfl, rfl⟩ := trodAll_nil r0
  obtain rfl : args = #[v0] := by cases args; simp_all
  have hV0 : DataW.TrodVars enc Tryz.prog W (fun _ => true) ["loop.example/g00323/impl.opNames"] gs q := hV
  obtain ⟨g1, rfl⟩ : ∃ g1, gs = [g1] := by
    obtain ⟨_, _, _, _, d, _, e, _⟩ := trodVars_one hV0
    exact ⟨d, e⟩
  have hN : «fun».Names W := «fun».names_of_laid (rest := []) hL
  have k0 := h0
  have lt0 : ∀ x ∈ p0, x.block < W.heap.size := by obtain ⟨m, hm⟩ := k0; exact DataW.trod_lt m _ _ _ hm
  obtain ⟨cs0, T, rfl, hT0⟩ := vm.arg_vm (hval 0 28 v0 rfl rfl) h0
  clear hA0
  refine (walk T cs0 W hN hT0).mono fun e W' ⟨he, bel⟩ => ?_
  subst he
  exact ⟨_, rfl, _, _, _, [], _, _, hW', trodAll_mk1 (shut_bool Tryz.underlying4 _), (trodAll_cons_mk (Below.trod laidOut (by kernel_rfl) (of_decide_eq_true (by kernel_rfl)) k0 bel lt0) trodAll_mk0), Below.trodVars laidOut bel (by kernel_rfl) hV0, bel.frame _, fun h => by cases h⟩

/-- A WORLD FOR THE WITNESS: the one that the program's own start leaves. -/
theorem laid_met (os : Os) : laidMet Tryz.prog Rows.fnExactVmOkRow.laid ((World.doorLaid Tryz.prog 35 os).forCall (fun _ _ => 0) ⟨#[], #[.agg #[.slice none 0 0, .slice none 0 0, .int .i64 0, .int .i64 0, .int .i64 0, .slice none 0 0, .slice none 0 0, .slice none 0 0, .int .i64 0, .bool false]], []⟩).memory :=
  laidMet_of_run' 8 (by kernel_rfl) (by kernel_rfl)
theorem reads (os : Os) {H : Type} (enc : TypeId × Value → H) : ∃ places, DataW.whole enc Tryz.prog ((World.doorLaid Tryz.prog 35 os).forCall (fun _ _ => 0) ⟨#[], #[.agg #[.slice none 0 0, .slice none 0 0, .int .i64 0, .int .i64 0, .int .i64 0, .slice none 0 0, .slice none 0 0, .slice none 0 0, .int .i64 0, .bool false]], []⟩).memory Tryz.f3.params.toList Rows.fnExactVmOkSpec.vars false #[Value.agg #[.slice none 0 0, .slice none 0 0, .int .i64 0, .int .i64 0, .int .i64 0, .slice none 0 0, .slice none 0 0, .slice none 0 0, .int .i64 0, .bool false]].toList 8 = some ([.agg [.nil, .agg [.nil, .lit (.int .i64 0), .lit (.int .i64 0), .lit (.int .i64 0)], .nil, .nil, .nil, .lit (.int .i64 0), .lit (.bool false)]], [«fun».nmData], places) :=
  ⟨MemPlace.row ⟨0, 0, none⟩ 110, by kernel_rfl⟩

set_option maxRecDepth 100000 in
theorem lifted (os : Os) (started : os.Started) (H : Type) (enc : TypeId × Value → H) (F : Stop.Interp) :
    ReturnsInHanded {} Tryz.checked os 3 .any ((OpenSpec.ofChange Rows.fnExactVmOkSpec).preRow enc Tryz.prog Tryz.f3 Rows.fnExactVmOkRow.domain false Rows.fnExactVmOkRow.laid) (((OpenSpec.ofChange Rows.fnExactVmOkSpec).at F).post enc Tryz.prog Tryz.f3 false true false false) := by
  obtain ⟨places, hx⟩ := reads os enc
  refine returnsInHanded_of_row (C := Tryz.checked) (s := OpenSpec.ofChange Rows.fnExactVmOkSpec) own started (by kernel_rfl) Tryz.func3
    (witness_row_at (enc := enc) (C := Tryz.checked) false (World.doorLaid Tryz.prog 35 os) #[.agg #[.slice none 0 0, .slice none 0 0, .int .i64 0, .int .i64 0, .int .i64 0, .slice none 0 0, .slice none 0 0, .slice none 0 0, .int .i64 0, .bool false]] rfl (by kernel_rfl) (by kernel_rfl) (by kernel_rfl)
      (OpenSpec.preRow_of_cond 8 hx (by kernel_rfl) (fun k hk => by cases hk) (by kernel_rfl) (laid_met os))) ?_
  intro W base args ds gs before hval hW _ _ _ hL _ _
  exact contract H enc W base args ds gs before hval hW hL

theorem said : Rows.FnExactVmOkSaid :=
  OpenClaim.holds_of_cond 3 Tryz.f3 rfl rfl rfl rfl rfl rfl rfl ⟨rfl, rfl, rfl, rfl, rfl⟩ rfl rfl rfl rfl rfl (by kernel_rfl) Tryz.func3 (by kernel_rfl)
    (of_decide_eq_true (by kernel_rfl)) (by unfold Func.isWrapper; first | (rw [if_pos (by decide +kernel)]; kernel_rfl) | (rw [if_neg (by decide +kernel)]; exact ⟨rfl, rfl⟩))
    (fun os started H enc _ F => by rw [OpenClaim.pre_eq_preRow]; exact lifted os started H enc F)

theorem plain (f : FuncId) (fn : Func) (hf : Tryz.pinned.checked.prog.funcNamed "loop.example/g00323/laws.FnExactVmOk" = some f) (hfn : Tryz.pinned.checked.prog.funcs[f]? = some fn) :
    false = Tryz.pinned.checked.prog.looks [] ∧ ∀ (j : Nat) t, fn.params[j]? = some t → Tryz.pinned.checked.prog.wantsStandIn t = false := by
  obtain rfl : f = 3 := Option.some.inj ((show Tryz.prog.funcNamed "loop.example/g00323/laws.FnExactVmOk" = some 3 by kernel_rfl).symm.trans hf) |>.symm
  obtain rfl : fn = Tryz.f3 := (Option.some.inj (Tryz.func3.symm.trans hfn)).symm
  refine ⟨by kernel_rfl, fun j t ht => ?_⟩
  rw [Tryz.params3] at ht
  have hm := Array.mem_of_getElem? ht
  simp only [List.mem_toArray, List.mem_cons, List.mem_nil_iff, or_false] at hm
  rcases hm with rfl
  exact (show Tryz.prog.wantsStandIn 28 = false by kernel_rfl)

/-- THE CARD. -/
theorem card : Rows.FnExactVmOkCardSaid :=
  Claim7.holds_tied_plain_at .later [] _ _ _ _ said (fun _ h => by cases h) (by kernel_rfl) (fun _ h => by cases h) fnExactVmOk_row_tie rfl ⟨rfl, rfl⟩ (by kernel_rfl) rfl plain (by kernel_rfl)
#print axioms card
end Go.Proofs.YtjibmpebebephaaGreatDoor.fnExactVmOk
