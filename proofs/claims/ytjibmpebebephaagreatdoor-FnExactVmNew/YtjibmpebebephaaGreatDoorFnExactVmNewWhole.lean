/-
  At every argument the program's function answers as its model, writes nothing into an argument, and its answer owns its memory; the law's call returns true, and the arguments read as they read before. No condition.
-/
import Derived.Test.YtjibmpebebephaaGreatDoorCards
import Derived.Test.YtjibmpebebephaaGreatDoorTie
import Derived.WalkKit
import Derived.OpenShut
import Derived.LaidMore
import Derived.Stop.LaidErr
import Derived.OpenVars
import Derived.ProofKit
import Derived.Deep.DeepHandedRow
import Derived.ChangeOld
import Derived.Carry
import Derived.Test.YtjibmpebebephaaGreatDoorC1
import Derived.Test.YtjibmpebebephaaGreatDoorC2
import Derived.Test.YtjibmpebebephaaGreatDoorC3
import Derived.Test.YtjibmpebebephaaGreatDoorC4
import Derived.Test.YtjibmpebebephaaGreatDoorC5
import Derived.Test.YtjibmpebebephaaGreatDoorC6
import Derived.Test.YtjibmpebebephaaGreatDoorC7
import Derived.Test.YtjibmpebebephaaGreatDoorC8
import Derived.Test.YtjibmpebebephaaGreatDoorC9
import Derived.Test.YtjibmpebebephaaGreatDoorC10
import Derived.Test.YtjibmpebebephaaGreatDoorC11
import Derived.Test.YtjibmpebebephaaGreatDoorC12
import Derived.Test.YtjibmpebebephaaGreatDoorC13
import Derived.Test.YtjibmpebebephaaGreatDoorC14
import Derived.Test.YtjibmpebebephaaGreatDoorC15
import Derived.Test.YtjibmpebebephaaGreatDoorC16
import Derived.Test.YtjibmpebebephaaGreatDoorC17
import Derived.Test.YtjibmpebebephaaGreatDoorC18
import Derived.Test.YtjibmpebebephaaGreatDoorC19
import Derived.Test.YtjibmpebebephaaGreatDoorC20
import Derived.Test.YtjibmpebebephaaGreatDoorC21
import Derived.Test.YtjibmpebebephaaGreatDoorC22
import Derived.Test.YtjibmpebebephaaGreatDoorC23
import Derived.Test.YtjibmpebebephaaGreatDoorC24
import Derived.Test.YtjibmpebebephaaGreatDoorC25
import Derived.Test.YtjibmpebebephaaGreatDoorC26
import Derived.Test.YtjibmpebebephaaGreatDoorC27
import Derived.Test.YtjibmpebebephaaGreatDoorC28
import Derived.Test.YtjibmpebebephaaGreatDoorC29
import Derived.Test.YtjibmpebebephaaGreatDoorC30
import Derived.Test.YtjibmpebebephaaGreatDoorC31
import Derived.Test.YtjibmpebebephaaGreatDoorC32
import Derived.Test.YtjibmpebebephaaGreatDoorC33
import Derived.Test.YtjibmpebebephaaGreatDoorC34
import Derived.Test.YtjibmpebebephaaGreatDoorC35
import Derived.Test.YtjibmpebebephaaGreatDoorC36
namespace Go.Proofs.YtjibmpebebephaaGreatDoor.fnExactVmNew
open Go.ChangeShapes Go.WideShapes Go.ChangeAt Go.RowKit Go.Proofs.YtjibmpebebephaaGreatDoor.rose Go.Proofs.YtjibmpebebephaaGreatDoor
open Go.ChangeMaps (open_string shut_string)
set_option linter.unusedVariables false
set_option maxRecDepth 100000

theorem own : ownKnob Tryz.prog.godebug = none := by kernel_rfl
theorem laidOut : laidOutB Tryz.prog = true := by kernel_rfl

set_option maxRecDepth 100000 in
set_option maxHeartbeats 8000000 in
theorem walk (ks : List «fun».FunD) (n : Int) (each : Bool) (va0 : Value) (w : World) (hi1 : -9223372036854775808 ≤ n) (hj1 : n ≤ 9223372036854775807) (hN : «fun».Names w) (h0 : «fun».funSh.slice.rep w (· < w.heap.size) [va0] ks) :
    Calls Tryz.prog 4 #[va0, .int .i64 n, .bool each] w fun e w' => e = .returned (.bool true) ∧ Below w.heap.size w w' := by
  have AR0 : Hid (∀ W : World, Below w.heap.size w W → «fun».funSh.slice.rep W (· < W.heap.size) [va0] ks) := fun W hb => «fun».funSh.slice.mono («fun».funSh.slice.below h0 hb) fun b hlt => Nat.lt_of_lt_of_le hlt hb.size
  obtain ⟨ad0, cp0, hva0⟩ : ∃ a c, va0 = .slice a ks.length c := by obtain ⟨a, c, e⟩ := slice_cells h0; simp only [List.cons.injEq, and_true] at e; exact ⟨a, c, e⟩
  subst hva0
  clear h0
  have NS : Hid («fun».Names w) := hN
  clear hN
  have BB0 : Hid (Below w.heap.size w w) := Below.refl _ w
  go_enter Tryz.func4, Tryz.ntmps4
  go_wp2_with fail
  refine («fun».szS_any ks _ _ 1048576 (by decide) (by decide) (AR0.out _ BB0.out)).mono ?_
  rintro e w1 ⟨rfl, hb⟩
  have BB1 : Hid (Below w.heap.size w w1) := BB0.out.trans (hb.mono BB0.out.size)
  have L0 : Hid (w.heap.size + 0 ≤ w1.heap.size) := by have := hb.size; (try simp at this); show _ ≤ _; omega
  clear hb BB0
  obtain ⟨q0, hq0⟩ : ∃ nz : Nat, nz = ks.length + «fun».wts ks := ⟨_, rfl⟩
  rw [← hq0]
  have HQ0 : Hid (q0 = ks.length + «fun».wts ks) := hq0
  clear hq0
  by_cases hw0 : q0 ≤ 1048576
  · have hl : left q0 (1048576) = 1048576 - (q0 : Nat) := by unfold left; rw [if_pos (by omega)]
    rw [hl]
    have t1 : decide (((1048576 : Int) - (q0 : Nat) : Int) < 0) = false := by simp; omega
    clear hl
    have HW : Hid ((ks.length + «fun».wts ks) ≤ 1048576) := by have := HQ0.out; show _ ≤ _; omega
    go_wp2_with fail
    refine («fun».toPS_any ks _ _ (by have := HW.out; omega) (AR0.out _ BB1.out)).mono ?_
    rintro e w2 ⟨⟨k2, rfl, r2⟩, hb⟩
    have BB2 : Hid (Below w.heap.size w w2) := BB1.out.trans (hb.mono BB1.out.size)
    have WC0_2 : Hid (ItmR «fun».funSp.sslice w2 [k2] w1.heap.size w2.heap.size ks) := ⟨Nat.le_refl _, r2⟩
    have L1 : Hid (w1.heap.size ≤ w2.heap.size) := hb.size
    clear hb r2 BB1
    go_wp2_with fail
    refine (vm.specVmNew ks n each _ _ HW.out hi1 hj1 («fun».funSh.slice.mono («fun».funps_rep WC0_2.out.rep) fun b hb => by have := WC0_2.out.top; have := L0.out; have := L1.out; omega)).mono ?_
    rintro e w3 ⟨⟨u3_0, rfl, r3_0⟩, hb⟩
    obtain ⟨w3_0, w3_1, w3_2, w3_3, w3_4, w3_5, w3_6, w3_7, w3_8, w3_9, rfl⟩ := vm.vm_list (vm.vmp_rep r3_0)
    have ow3_0 := vm.vmSp.one r3_0 w3_0 (by simp)
    have ow3_1 := vm.vmSp.one r3_0 w3_1 (by simp)
    have ow3_2 := vm.vmSp.one r3_0 w3_2 (by simp)
    have ow3_3 := vm.vmSp.one r3_0 w3_3 (by simp)
    have ow3_4 := vm.vmSp.one r3_0 w3_4 (by simp)
    have ow3_5 := vm.vmSp.one r3_0 w3_5 (by simp)
    have ow3_6 := vm.vmSp.one r3_0 w3_6 (by simp)
    have ow3_7 := vm.vmSp.one r3_0 w3_7 (by simp)
    have ow3_8 := vm.vmSp.one r3_0 w3_8 (by simp)
    have ow3_9 := vm.vmSp.one r3_0 w3_9 (by simp)
    have sow3_0 := fun (a : Addr) (m : Mode) (w : World) => run_store Tryz.prog w a w3_0 m ow3_0
    have sow3_1 := fun (a : Addr) (m : Mode) (w : World) => run_store Tryz.prog w a w3_1 m ow3_1
    have sow3_2 := fun (a : Addr) (m : Mode) (w : World) => run_store Tryz.prog w a w3_2 m ow3_2
    have sow3_3 := fun (a : Addr) (m : Mode) (w : World) => run_store Tryz.prog w a w3_3 m ow3_3
    have sow3_4 := fun (a : Addr) (m : Mode) (w : World) => run_store Tryz.prog w a w3_4 m ow3_4
    have sow3_5 := fun (a : Addr) (m : Mode) (w : World) => run_store Tryz.prog w a w3_5 m ow3_5
    have sow3_6 := fun (a : Addr) (m : Mode) (w : World) => run_store Tryz.prog w a w3_6 m ow3_6
    have sow3_7 := fun (a : Addr) (m : Mode) (w : World) => run_store Tryz.prog w a w3_7 m ow3_7
    have sow3_8 := fun (a : Addr) (m : Mode) (w : World) => run_store Tryz.prog w a w3_8 m ow3_8
    have sow3_9 := fun (a : Addr) (m : Mode) (w : World) => run_store Tryz.prog w a w3_9 m ow3_9
    obtain ⟨w3b, e3⟩ : ∃ x, x = w3.alloc (.cells #[w3_0, w3_1, w3_2, w3_3, w3_4, w3_5, w3_6, w3_7, w3_8, w3_9] 35) := ⟨_, rfl⟩
    have hA : Below w3.heap.size w3 w3b := by rw [e3]; exact (Below.refl _ _).alloc (Nat.le_refl _) _
    have z3 : w3b.heap.size = w3.heap.size + 1 := by rw [e3]; simp
    have BB3 : Hid (Below w.heap.size w w3b) := (BB2.out.trans (hb.mono BB2.out.size)).trans (hA.mono (Nat.le_trans BB2.out.size hb.size))
    have L2 : Hid (w2.heap.size ≤ w3.heap.size) := hb.size
    have L3 : Hid (w3.heap.size + 1 ≤ w3b.heap.size) := by show _ ≤ _; omega
    have WR0_3 : Hid (Itm vm.vmSp w3b w3.heap.size [w3_0, w3_1, w3_2, w3_3, w3_4, w3_5, w3_6, w3_7, w3_8, w3_9] 35 w2.heap.size w3.heap.size (vm.newV ks n each).1) := by rw [e3]; exact Itm.new r3_0 (Nat.le_refl _) rfl
    clear hb hA z3 r3_0 BB2
    go_wp2_with fail
    rw [← e3]
    refine («fun».toPS_any ks _ _ (by have := HW.out; omega) (AR0.out _ BB3.out)).mono ?_
    rintro e w4 ⟨⟨k4, rfl, r4⟩, hb⟩
    clear e3
    have WR0_4 : Hid (Itm vm.vmSp w4 w3.heap.size [w3_0, w3_1, w3_2, w3_3, w3_4, w3_5, w3_6, w3_7, w3_8, w3_9] 35 w2.heap.size w3.heap.size (vm.newV ks n each).1) := WR0_3.out.on hb
    have BB4 : Hid (Below w.heap.size w w4) := BB3.out.trans (hb.mono BB3.out.size)
    have L4 : Hid (w3b.heap.size ≤ w4.heap.size) := hb.size
    have X0_4 : Hid (ItmR «fun».funSp.sslice w4 [k4] w3b.heap.size w4.heap.size ks) := ⟨Nat.le_refl _, r4⟩
    clear hb r4 WR0_3 BB3
    go_wp2_with fail
    refine (vm.implVmNew ks n each _ _ HW.out hi1 hj1 (NS.out.on BB4.out) («fun».funSh.slice.mono («fun».funps_rep X0_4.out.rep) fun b hb => by have := X0_4.out.top; have := L0.out; have := L1.out; have := L2.out; have := L3.out; have := L4.out; omega)).mono ?_
    rintro e w5 ⟨⟨u5_0, rfl, r5_0⟩, hb⟩
    obtain ⟨g5_0, g5_1, g5_2, g5_3, g5_4, g5_5, g5_6, g5_7, g5_8, g5_9, rfl⟩ := vm.vm_list (vm.vmp_rep r5_0)
    have og5_0 := vm.vmSp.one r5_0 g5_0 (by simp)
    have og5_1 := vm.vmSp.one r5_0 g5_1 (by simp)
    have og5_2 := vm.vmSp.one r5_0 g5_2 (by simp)
    have og5_3 := vm.vmSp.one r5_0 g5_3 (by simp)
    have og5_4 := vm.vmSp.one r5_0 g5_4 (by simp)
    have og5_5 := vm.vmSp.one r5_0 g5_5 (by simp)
    have og5_6 := vm.vmSp.one r5_0 g5_6 (by simp)
    have og5_7 := vm.vmSp.one r5_0 g5_7 (by simp)
    have og5_8 := vm.vmSp.one r5_0 g5_8 (by simp)
    have og5_9 := vm.vmSp.one r5_0 g5_9 (by simp)
    have sog5_0 := fun (a : Addr) (m : Mode) (w : World) => run_store Tryz.prog w a g5_0 m og5_0
    have sog5_1 := fun (a : Addr) (m : Mode) (w : World) => run_store Tryz.prog w a g5_1 m og5_1
    have sog5_2 := fun (a : Addr) (m : Mode) (w : World) => run_store Tryz.prog w a g5_2 m og5_2
    have sog5_3 := fun (a : Addr) (m : Mode) (w : World) => run_store Tryz.prog w a g5_3 m og5_3
    have sog5_4 := fun (a : Addr) (m : Mode) (w : World) => run_store Tryz.prog w a g5_4 m og5_4
    have sog5_5 := fun (a : Addr) (m : Mode) (w : World) => run_store Tryz.prog w a g5_5 m og5_5
    have sog5_6 := fun (a : Addr) (m : Mode) (w : World) => run_store Tryz.prog w a g5_6 m og5_6
    have sog5_7 := fun (a : Addr) (m : Mode) (w : World) => run_store Tryz.prog w a g5_7 m og5_7
    have sog5_8 := fun (a : Addr) (m : Mode) (w : World) => run_store Tryz.prog w a g5_8 m og5_8
    have sog5_9 := fun (a : Addr) (m : Mode) (w : World) => run_store Tryz.prog w a g5_9 m og5_9
    obtain ⟨w5b, e5⟩ : ∃ x, x = w5.alloc (.cells #[g5_0, g5_1, g5_2, g5_3, g5_4, g5_5, g5_6, g5_7, g5_8, g5_9] 35) := ⟨_, rfl⟩
    have hA : Below w5.heap.size w5 w5b := by rw [e5]; exact (Below.refl _ _).alloc (Nat.le_refl _) _
    have z5 : w5b.heap.size = w5.heap.size + 1 := by rw [e5]; simp
    have WR0_5 : Hid (Itm vm.vmSp w5b w3.heap.size [w3_0, w3_1, w3_2, w3_3, w3_4, w3_5, w3_6, w3_7, w3_8, w3_9] 35 w2.heap.size w3.heap.size (vm.newV ks n each).1) := (WR0_4.out.on hb).on hA
    have X0_5 : Hid (ItmR «fun».funSp.sslice w5b [k4] w3b.heap.size w4.heap.size ks) := (X0_4.out.on hb).on hA
    have BB5 : Hid (Below w.heap.size w w5b) := (BB4.out.trans (hb.mono BB4.out.size)).trans (hA.mono (Nat.le_trans BB4.out.size hb.size))
    have L5 : Hid (w4.heap.size ≤ w5.heap.size) := hb.size
    have L6 : Hid (w5.heap.size + 1 ≤ w5b.heap.size) := by show _ ≤ _; omega
    have GR0_5 : Hid (Itm vm.vmSp w5b w5.heap.size [g5_0, g5_1, g5_2, g5_3, g5_4, g5_5, g5_6, g5_7, g5_8, g5_9] 35 w4.heap.size w5.heap.size (vm.newV ks n each).1) := by rw [e5]; exact Itm.new r5_0 (Nat.le_refl _) rfl
    clear hb hA z5 r5_0 WR0_4 X0_4 BB4
    have cGR00 : (w5.alloc (.cells #[g5_0, g5_1, g5_2, g5_3, g5_4, g5_5, g5_6, g5_7, g5_8, g5_9] 35)).cell? ⟨w5.heap.size, 0, none⟩ = some g5_0 := by have := GR0_5.out.cell 0 (v := g5_0) rfl; rwa [e5] at this
    have cGR01 : (w5.alloc (.cells #[g5_0, g5_1, g5_2, g5_3, g5_4, g5_5, g5_6, g5_7, g5_8, g5_9] 35)).cell? ⟨w5.heap.size, 1, none⟩ = some g5_1 := by have := GR0_5.out.cell 1 (v := g5_1) rfl; rwa [e5] at this
    have cGR02 : (w5.alloc (.cells #[g5_0, g5_1, g5_2, g5_3, g5_4, g5_5, g5_6, g5_7, g5_8, g5_9] 35)).cell? ⟨w5.heap.size, 2, none⟩ = some g5_2 := by have := GR0_5.out.cell 2 (v := g5_2) rfl; rwa [e5] at this
    have cGR03 : (w5.alloc (.cells #[g5_0, g5_1, g5_2, g5_3, g5_4, g5_5, g5_6, g5_7, g5_8, g5_9] 35)).cell? ⟨w5.heap.size, 3, none⟩ = some g5_3 := by have := GR0_5.out.cell 3 (v := g5_3) rfl; rwa [e5] at this
    have cGR04 : (w5.alloc (.cells #[g5_0, g5_1, g5_2, g5_3, g5_4, g5_5, g5_6, g5_7, g5_8, g5_9] 35)).cell? ⟨w5.heap.size, 4, none⟩ = some g5_4 := by have := GR0_5.out.cell 4 (v := g5_4) rfl; rwa [e5] at this
    have cGR05 : (w5.alloc (.cells #[g5_0, g5_1, g5_2, g5_3, g5_4, g5_5, g5_6, g5_7, g5_8, g5_9] 35)).cell? ⟨w5.heap.size, 5, none⟩ = some g5_5 := by have := GR0_5.out.cell 5 (v := g5_5) rfl; rwa [e5] at this
    have cGR06 : (w5.alloc (.cells #[g5_0, g5_1, g5_2, g5_3, g5_4, g5_5, g5_6, g5_7, g5_8, g5_9] 35)).cell? ⟨w5.heap.size, 6, none⟩ = some g5_6 := by have := GR0_5.out.cell 6 (v := g5_6) rfl; rwa [e5] at this
    have cGR07 : (w5.alloc (.cells #[g5_0, g5_1, g5_2, g5_3, g5_4, g5_5, g5_6, g5_7, g5_8, g5_9] 35)).cell? ⟨w5.heap.size, 7, none⟩ = some g5_7 := by have := GR0_5.out.cell 7 (v := g5_7) rfl; rwa [e5] at this
    have cGR08 : (w5.alloc (.cells #[g5_0, g5_1, g5_2, g5_3, g5_4, g5_5, g5_6, g5_7, g5_8, g5_9] 35)).cell? ⟨w5.heap.size, 8, none⟩ = some g5_8 := by have := GR0_5.out.cell 8 (v := g5_8) rfl; rwa [e5] at this
    have cGR09 : (w5.alloc (.cells #[g5_0, g5_1, g5_2, g5_3, g5_4, g5_5, g5_6, g5_7, g5_8, g5_9] 35)).cell? ⟨w5.heap.size, 9, none⟩ = some g5_9 := by have := GR0_5.out.cell 9 (v := g5_9) rfl; rwa [e5] at this
    have cWR00 : (w5.alloc (.cells #[g5_0, g5_1, g5_2, g5_3, g5_4, g5_5, g5_6, g5_7, g5_8, g5_9] 35)).cell? ⟨w3.heap.size, 0, none⟩ = some w3_0 := by have := WR0_5.out.cell 0 (v := w3_0) rfl; rwa [e5] at this
    have cWR01 : (w5.alloc (.cells #[g5_0, g5_1, g5_2, g5_3, g5_4, g5_5, g5_6, g5_7, g5_8, g5_9] 35)).cell? ⟨w3.heap.size, 1, none⟩ = some w3_1 := by have := WR0_5.out.cell 1 (v := w3_1) rfl; rwa [e5] at this
    have cWR02 : (w5.alloc (.cells #[g5_0, g5_1, g5_2, g5_3, g5_4, g5_5, g5_6, g5_7, g5_8, g5_9] 35)).cell? ⟨w3.heap.size, 2, none⟩ = some w3_2 := by have := WR0_5.out.cell 2 (v := w3_2) rfl; rwa [e5] at this
    have cWR03 : (w5.alloc (.cells #[g5_0, g5_1, g5_2, g5_3, g5_4, g5_5, g5_6, g5_7, g5_8, g5_9] 35)).cell? ⟨w3.heap.size, 3, none⟩ = some w3_3 := by have := WR0_5.out.cell 3 (v := w3_3) rfl; rwa [e5] at this
    have cWR04 : (w5.alloc (.cells #[g5_0, g5_1, g5_2, g5_3, g5_4, g5_5, g5_6, g5_7, g5_8, g5_9] 35)).cell? ⟨w3.heap.size, 4, none⟩ = some w3_4 := by have := WR0_5.out.cell 4 (v := w3_4) rfl; rwa [e5] at this
    have cWR05 : (w5.alloc (.cells #[g5_0, g5_1, g5_2, g5_3, g5_4, g5_5, g5_6, g5_7, g5_8, g5_9] 35)).cell? ⟨w3.heap.size, 5, none⟩ = some w3_5 := by have := WR0_5.out.cell 5 (v := w3_5) rfl; rwa [e5] at this
    have cWR06 : (w5.alloc (.cells #[g5_0, g5_1, g5_2, g5_3, g5_4, g5_5, g5_6, g5_7, g5_8, g5_9] 35)).cell? ⟨w3.heap.size, 6, none⟩ = some w3_6 := by have := WR0_5.out.cell 6 (v := w3_6) rfl; rwa [e5] at this
    have cWR07 : (w5.alloc (.cells #[g5_0, g5_1, g5_2, g5_3, g5_4, g5_5, g5_6, g5_7, g5_8, g5_9] 35)).cell? ⟨w3.heap.size, 7, none⟩ = some w3_7 := by have := WR0_5.out.cell 7 (v := w3_7) rfl; rwa [e5] at this
    have cWR08 : (w5.alloc (.cells #[g5_0, g5_1, g5_2, g5_3, g5_4, g5_5, g5_6, g5_7, g5_8, g5_9] 35)).cell? ⟨w3.heap.size, 8, none⟩ = some w3_8 := by have := WR0_5.out.cell 8 (v := w3_8) rfl; rwa [e5] at this
    have cWR09 : (w5.alloc (.cells #[g5_0, g5_1, g5_2, g5_3, g5_4, g5_5, g5_6, g5_7, g5_8, g5_9] 35)).cell? ⟨w3.heap.size, 9, none⟩ = some w3_9 := by have := WR0_5.out.cell 9 (v := w3_9) rfl; rwa [e5] at this
    go_wp2_with fail
    rw [← e5]
    refine (vm.eq_any (vm.newV ks n each).1 _ _ _ (vm.vmSh.mono (vm.vmp_rep GR0_5.out.rep) fun b hb => by have := GR0_5.out.top; have := L0.out; have := L1.out; have := L2.out; have := L3.out; have := L4.out; have := L5.out; have := L6.out; omega) (vm.vmSh.mono (vm.vmp_rep WR0_5.out.rep) fun b hb => by have := WR0_5.out.top; have := L0.out; have := L1.out; have := L2.out; have := L3.out; have := L4.out; have := L5.out; have := L6.out; omega)).mono ?_
    rintro e w6 ⟨rfl, hb⟩
    clear cGR00 cGR01 cGR02 cGR03 cGR04 cGR05 cGR06 cGR07 cGR08 cGR09 cWR00 cWR01 cWR02 cWR03 cWR04 cWR05 cWR06 cWR07 cWR08 cWR09 e5
    have WR0_6 : Hid (Itm vm.vmSp w6 w3.heap.size [w3_0, w3_1, w3_2, w3_3, w3_4, w3_5, w3_6, w3_7, w3_8, w3_9] 35 w2.heap.size w3.heap.size (vm.newV ks n each).1) := WR0_5.out.on hb
    have X0_6 : Hid (ItmR «fun».funSp.sslice w6 [k4] w3b.heap.size w4.heap.size ks) := X0_5.out.on hb
    have GR0_6 : Hid (Itm vm.vmSp w6 w5.heap.size [g5_0, g5_1, g5_2, g5_3, g5_4, g5_5, g5_6, g5_7, g5_8, g5_9] 35 w4.heap.size w5.heap.size (vm.newV ks n each).1) := GR0_5.out.on hb
    have BB6 : Hid (Below w.heap.size w w6) := BB5.out.trans (hb.mono BB5.out.size)
    have L7 : Hid (w5b.heap.size ≤ w6.heap.size) := hb.size
    clear hb WR0_5 X0_5 GR0_5 BB5
    go_wp2_with fail
    refine («fun».toPS_any ks _ _ (by have := HW.out; omega) (AR0.out _ BB6.out)).mono ?_
    rintro e w7 ⟨⟨k7, rfl, r7⟩, hb⟩
    have WR0_7 : Hid (Itm vm.vmSp w7 w3.heap.size [w3_0, w3_1, w3_2, w3_3, w3_4, w3_5, w3_6, w3_7, w3_8, w3_9] 35 w2.heap.size w3.heap.size (vm.newV ks n each).1) := WR0_6.out.on hb
    have X0_7 : Hid (ItmR «fun».funSp.sslice w7 [k4] w3b.heap.size w4.heap.size ks) := X0_6.out.on hb
    have GR0_7 : Hid (Itm vm.vmSp w7 w5.heap.size [g5_0, g5_1, g5_2, g5_3, g5_4, g5_5, g5_6, g5_7, g5_8, g5_9] 35 w4.heap.size w5.heap.size (vm.newV ks n each).1) := GR0_6.out.on hb
    have BB7 : Hid (Below w.heap.size w w7) := BB6.out.trans (hb.mono BB6.out.size)
    have L8 : Hid (w6.heap.size ≤ w7.heap.size) := hb.size
    have RT : Hid («fun».funSh.slice.rep w7 (· < w7.heap.size) [k7] ks) := «fun».funSh.slice.mono («fun».funps_rep r7) fun b hb => hb.2
    clear hb r7 WR0_6 X0_6 GR0_6 BB6
    go_wp2_with fail
    refine («fun».eqS_any ks _ _ _ («fun».funSh.slice.mono («fun».funps_rep X0_7.out.rep) fun b hb => by have := X0_7.out.top; have := L0.out; have := L1.out; have := L2.out; have := L3.out; have := L4.out; have := L5.out; have := L6.out; have := L7.out; have := L8.out; omega) RT.out).mono ?_
    rintro e w8 ⟨rfl, hb⟩
    have WR0_8 : Hid (Itm vm.vmSp w8 w3.heap.size [w3_0, w3_1, w3_2, w3_3, w3_4, w3_5, w3_6, w3_7, w3_8, w3_9] 35 w2.heap.size w3.heap.size (vm.newV ks n each).1) := WR0_7.out.on hb
    have X0_8 : Hid (ItmR «fun».funSp.sslice w8 [k4] w3b.heap.size w4.heap.size ks) := X0_7.out.on hb
    have GR0_8 : Hid (Itm vm.vmSp w8 w5.heap.size [g5_0, g5_1, g5_2, g5_3, g5_4, g5_5, g5_6, g5_7, g5_8, g5_9] 35 w4.heap.size w5.heap.size (vm.newV ks n each).1) := GR0_7.out.on hb
    have BB8 : Hid (Below w.heap.size w w8) := BB7.out.trans (hb.mono BB7.out.size)
    have L9 : Hid (w7.heap.size ≤ w8.heap.size) := hb.size
    clear hb RT WR0_7 X0_7 GR0_7 BB7
    have hcn0 : «fun».cnts ks ≤ 1073741824 := «fun».cnts_boundN ks (by have := HW.out; omega)
    go_wp2_with fail
    refine («fun».markS_any ks _ _ (1) (fun b => w3b.heap.size ≤ b ∧ b < w4.heap.size) (by omega) (by omega) (fun b hb => by have := X0_8.out.top; have := L0.out; have := L1.out; have := L2.out; have := L3.out; have := L4.out; have := L5.out; have := L6.out; have := L7.out; have := L8.out; have := L9.out; omega) X0_8.out.rep).mono ?_
    rintro e w9 ⟨rfl, -, ho⟩
    have WR0_9 : Hid (Itm vm.vmSp w9 w3.heap.size [w3_0, w3_1, w3_2, w3_3, w3_4, w3_5, w3_6, w3_7, w3_8, w3_9] 35 w2.heap.size w3.heap.size (vm.newV ks n each).1) := WR0_8.out.only ho (fun hq => by have := L0.out; have := L1.out; have := L2.out; have := L3.out; have := L4.out; have := L5.out; have := L6.out; have := L7.out; have := L8.out; have := L9.out; omega) (fun b h1 h2 hq => by have := L0.out; have := L1.out; have := L2.out; have := L3.out; have := L4.out; have := L5.out; have := L6.out; have := L7.out; have := L8.out; have := L9.out; omega)
    have GR0_9 : Hid (Itm vm.vmSp w9 w5.heap.size [g5_0, g5_1, g5_2, g5_3, g5_4, g5_5, g5_6, g5_7, g5_8, g5_9] 35 w4.heap.size w5.heap.size (vm.newV ks n each).1) := GR0_8.out.only ho (fun hq => by have := L0.out; have := L1.out; have := L2.out; have := L3.out; have := L4.out; have := L5.out; have := L6.out; have := L7.out; have := L8.out; have := L9.out; omega) (fun b h1 h2 hq => by have := L0.out; have := L1.out; have := L2.out; have := L3.out; have := L4.out; have := L5.out; have := L6.out; have := L7.out; have := L8.out; have := L9.out; omega)
    have BB9 : Hid (Below w.heap.size w w9) := BB8.out.trans (ho.below BB8.out.size fun b hb => by have := L0.out; have := L1.out; have := L2.out; have := L3.out; have := L4.out; have := L5.out; have := L6.out; have := L7.out; have := L8.out; have := L9.out; omega)
    have L10 : Hid (w8.heap.size ≤ w9.heap.size) := ho.size
    clear ho X0_8 WR0_8 GR0_8 BB8
    obtain ⟨n0, hn0⟩ : ∃ nz : Nat, nz = «fun».cnts ks := ⟨_, rfl⟩
    rw [← hn0] at hcn0 ⊢
    clear hn0
    have t2 : decide (((1 : Int) + (n0 : Nat) : Int) < 0) = false := by simp; omega
    have cGR00 : w9.cell? ⟨w5.heap.size, 0, none⟩ = some g5_0 := GR0_9.out.cell 0 rfl
    have cGR01 : w9.cell? ⟨w5.heap.size, 1, none⟩ = some g5_1 := GR0_9.out.cell 1 rfl
    have cGR02 : w9.cell? ⟨w5.heap.size, 2, none⟩ = some g5_2 := GR0_9.out.cell 2 rfl
    have cGR03 : w9.cell? ⟨w5.heap.size, 3, none⟩ = some g5_3 := GR0_9.out.cell 3 rfl
    have cGR04 : w9.cell? ⟨w5.heap.size, 4, none⟩ = some g5_4 := GR0_9.out.cell 4 rfl
    have cGR05 : w9.cell? ⟨w5.heap.size, 5, none⟩ = some g5_5 := GR0_9.out.cell 5 rfl
    have cGR06 : w9.cell? ⟨w5.heap.size, 6, none⟩ = some g5_6 := GR0_9.out.cell 6 rfl
    have cGR07 : w9.cell? ⟨w5.heap.size, 7, none⟩ = some g5_7 := GR0_9.out.cell 7 rfl
    have cGR08 : w9.cell? ⟨w5.heap.size, 8, none⟩ = some g5_8 := GR0_9.out.cell 8 rfl
    have cGR09 : w9.cell? ⟨w5.heap.size, 9, none⟩ = some g5_9 := GR0_9.out.cell 9 rfl
    have cWR00 : w9.cell? ⟨w3.heap.size, 0, none⟩ = some w3_0 := WR0_9.out.cell 0 rfl
    have cWR01 : w9.cell? ⟨w3.heap.size, 1, none⟩ = some w3_1 := WR0_9.out.cell 1 rfl
    have cWR02 : w9.cell? ⟨w3.heap.size, 2, none⟩ = some w3_2 := WR0_9.out.cell 2 rfl
    have cWR03 : w9.cell? ⟨w3.heap.size, 3, none⟩ = some w3_3 := WR0_9.out.cell 3 rfl
    have cWR04 : w9.cell? ⟨w3.heap.size, 4, none⟩ = some w3_4 := WR0_9.out.cell 4 rfl
    have cWR05 : w9.cell? ⟨w3.heap.size, 5, none⟩ = some w3_5 := WR0_9.out.cell 5 rfl
    have cWR06 : w9.cell? ⟨w3.heap.size, 6, none⟩ = some w3_6 := WR0_9.out.cell 6 rfl
    have cWR07 : w9.cell? ⟨w3.heap.size, 7, none⟩ = some w3_7 := WR0_9.out.cell 7 rfl
    have cWR08 : w9.cell? ⟨w3.heap.size, 8, none⟩ = some w3_8 := WR0_9.out.cell 8 rfl
    have cWR09 : w9.cell? ⟨w3.heap.size, 9, none⟩ = some w3_9 := WR0_9.out.cell 9 rfl
    go_wp2_with fail
    refine (vm.eq_any (vm.newV ks n each).1 _ _ _ (vm.vmSh.mono (vm.vmp_rep GR0_9.out.rep) fun b hb => by have := GR0_9.out.top; have := L0.out; have := L1.out; have := L2.out; have := L3.out; have := L4.out; have := L5.out; have := L6.out; have := L7.out; have := L8.out; have := L9.out; have := L10.out; omega) (vm.vmSh.mono (vm.vmp_rep WR0_9.out.rep) fun b hb => by have := WR0_9.out.top; have := L0.out; have := L1.out; have := L2.out; have := L3.out; have := L4.out; have := L5.out; have := L6.out; have := L7.out; have := L8.out; have := L9.out; have := L10.out; omega)).mono ?_
    rintro e w10 ⟨rfl, hb⟩
    clear cGR00 cGR01 cGR02 cGR03 cGR04 cGR05 cGR06 cGR07 cGR08 cGR09 cWR00 cWR01 cWR02 cWR03 cWR04 cWR05 cWR06 cWR07 cWR08 cWR09
    have WR0_10 : Hid (Itm vm.vmSp w10 w3.heap.size [w3_0, w3_1, w3_2, w3_3, w3_4, w3_5, w3_6, w3_7, w3_8, w3_9] 35 w2.heap.size w3.heap.size (vm.newV ks n each).1) := WR0_9.out.on hb
    have GR0_10 : Hid (Itm vm.vmSp w10 w5.heap.size [g5_0, g5_1, g5_2, g5_3, g5_4, g5_5, g5_6, g5_7, g5_8, g5_9] 35 w4.heap.size w5.heap.size (vm.newV ks n each).1) := GR0_9.out.on hb
    have BB10 : Hid (Below w.heap.size w w10) := BB9.out.trans (hb.mono BB9.out.size)
    have L11 : Hid (w9.heap.size ≤ w10.heap.size) := hb.size
    clear hb WR0_9 GR0_9 BB9
    have hcg0 : vm.cntT (vm.newV ks n each).1 ≤ 1073741824 := vm.new_bound ks n each (by have := HW.out; omega)
    have cGR00 : w10.cell? ⟨w5.heap.size, 0, none⟩ = some g5_0 := GR0_10.out.cell 0 rfl
    have cGR01 : w10.cell? ⟨w5.heap.size, 1, none⟩ = some g5_1 := GR0_10.out.cell 1 rfl
    have cGR02 : w10.cell? ⟨w5.heap.size, 2, none⟩ = some g5_2 := GR0_10.out.cell 2 rfl
    have cGR03 : w10.cell? ⟨w5.heap.size, 3, none⟩ = some g5_3 := GR0_10.out.cell 3 rfl
    have cGR04 : w10.cell? ⟨w5.heap.size, 4, none⟩ = some g5_4 := GR0_10.out.cell 4 rfl
    have cGR05 : w10.cell? ⟨w5.heap.size, 5, none⟩ = some g5_5 := GR0_10.out.cell 5 rfl
    have cGR06 : w10.cell? ⟨w5.heap.size, 6, none⟩ = some g5_6 := GR0_10.out.cell 6 rfl
    have cGR07 : w10.cell? ⟨w5.heap.size, 7, none⟩ = some g5_7 := GR0_10.out.cell 7 rfl
    have cGR08 : w10.cell? ⟨w5.heap.size, 8, none⟩ = some g5_8 := GR0_10.out.cell 8 rfl
    have cGR09 : w10.cell? ⟨w5.heap.size, 9, none⟩ = some g5_9 := GR0_10.out.cell 9 rfl
    go_wp2_with fail
    refine (vm.markT_any (vm.newV ks n each).1 _ _ (1) (fun b => w4.heap.size ≤ b ∧ b < w5.heap.size) (by omega) (by omega) (fun b hb => by have := GR0_10.out.top; have := L0.out; have := L1.out; have := L2.out; have := L3.out; have := L4.out; have := L5.out; have := L6.out; have := L7.out; have := L8.out; have := L9.out; have := L10.out; have := L11.out; omega) GR0_10.out.rep).mono ?_
    rintro e w11 ⟨rfl, ho, hr⟩
    clear cGR00 cGR01 cGR02 cGR03 cGR04 cGR05 cGR06 cGR07 cGR08 cGR09
    have WR0_11 : Hid (Itm vm.vmSp w11 w3.heap.size [w3_0, w3_1, w3_2, w3_3, w3_4, w3_5, w3_6, w3_7, w3_8, w3_9] 35 w2.heap.size w3.heap.size (vm.newV ks n each).1) := WR0_10.out.only ho (fun hq => by have := L0.out; have := L1.out; have := L2.out; have := L3.out; have := L4.out; have := L5.out; have := L6.out; have := L7.out; have := L8.out; have := L9.out; have := L10.out; have := L11.out; omega) (fun b h1 h2 hq => by have := L0.out; have := L1.out; have := L2.out; have := L3.out; have := L4.out; have := L5.out; have := L6.out; have := L7.out; have := L8.out; have := L9.out; have := L10.out; have := L11.out; omega)
    have BB11 : Hid (Below w.heap.size w w11) := BB10.out.trans (ho.below BB10.out.size fun b hb => by have := L0.out; have := L1.out; have := L2.out; have := L3.out; have := L4.out; have := L5.out; have := L6.out; have := L7.out; have := L8.out; have := L9.out; have := L10.out; have := L11.out; omega)
    have L12 : Hid (w10.heap.size ≤ w11.heap.size) := ho.size
    have GR0_11 : Hid (Itm vm.vmSh w11 w5.heap.size [g5_0, g5_1, g5_2, g5_3, g5_4, g5_5, g5_6, g5_7, g5_8, g5_9] 35 w4.heap.size w5.heap.size (vm.mkT 1 (vm.newV ks n each).1)) := ⟨(ho.block _ GR0_10.out.lt (fun hq => by have := L0.out; have := L1.out; have := L2.out; have := L3.out; have := L4.out; have := L5.out; have := L6.out; have := L7.out; have := L8.out; have := L9.out; have := L10.out; have := L11.out; have := L12.out; omega)).trans GR0_10.out.blk, Nat.le_trans GR0_10.out.top ho.size, vm.vmp_rep hr⟩
    clear ho hr GR0_10 WR0_10 BB10
    obtain ⟨m0, hm0⟩ : ∃ nz : Nat, nz = vm.cntT (vm.newV ks n each).1 := ⟨_, rfl⟩
    have HM0 : Hid (m0 = vm.cntT (vm.newV ks n each).1) := hm0
    rw [← hm0] at hcg0 ⊢
    clear hm0
    have cGR00 : w11.cell? ⟨w5.heap.size, 0, none⟩ = some g5_0 := GR0_11.out.cell 0 rfl
    have cGR01 : w11.cell? ⟨w5.heap.size, 1, none⟩ = some g5_1 := GR0_11.out.cell 1 rfl
    have cGR02 : w11.cell? ⟨w5.heap.size, 2, none⟩ = some g5_2 := GR0_11.out.cell 2 rfl
    have cGR03 : w11.cell? ⟨w5.heap.size, 3, none⟩ = some g5_3 := GR0_11.out.cell 3 rfl
    have cGR04 : w11.cell? ⟨w5.heap.size, 4, none⟩ = some g5_4 := GR0_11.out.cell 4 rfl
    have cGR05 : w11.cell? ⟨w5.heap.size, 5, none⟩ = some g5_5 := GR0_11.out.cell 5 rfl
    have cGR06 : w11.cell? ⟨w5.heap.size, 6, none⟩ = some g5_6 := GR0_11.out.cell 6 rfl
    have cGR07 : w11.cell? ⟨w5.heap.size, 7, none⟩ = some g5_7 := GR0_11.out.cell 7 rfl
    have cGR08 : w11.cell? ⟨w5.heap.size, 8, none⟩ = some g5_8 := GR0_11.out.cell 8 rfl
    have cGR09 : w11.cell? ⟨w5.heap.size, 9, none⟩ = some g5_9 := GR0_11.out.cell 9 rfl
    go_wp2_with fail
    refine (vm.heldT_any (vm.newV ks n each).1 _ _ (1) (by omega) (by rw [← HM0.out]; omega) (vm.vmSh.mono GR0_11.out.rep fun b hb => by have := GR0_11.out.top; have := L0.out; have := L1.out; have := L2.out; have := L3.out; have := L4.out; have := L5.out; have := L6.out; have := L7.out; have := L8.out; have := L9.out; have := L10.out; have := L11.out; have := L12.out; omega)).mono ?_
    rw [← HM0.out]
    rintro e w12 ⟨rfl, hb⟩
    clear cGR00 cGR01 cGR02 cGR03 cGR04 cGR05 cGR06 cGR07 cGR08 cGR09
    have WR0_12 : Hid (Itm vm.vmSp w12 w3.heap.size [w3_0, w3_1, w3_2, w3_3, w3_4, w3_5, w3_6, w3_7, w3_8, w3_9] 35 w2.heap.size w3.heap.size (vm.newV ks n each).1) := WR0_11.out.on hb
    have GR0_12 : Hid (Itm vm.vmSh w12 w5.heap.size [g5_0, g5_1, g5_2, g5_3, g5_4, g5_5, g5_6, g5_7, g5_8, g5_9] 35 w4.heap.size w5.heap.size (vm.mkT 1 (vm.newV ks n each).1)) := GR0_11.out.on hb
    have BB12 : Hid (Below w.heap.size w w12) := BB11.out.trans (hb.mono BB11.out.size)
    have L13 : Hid (w11.heap.size ≤ w12.heap.size) := hb.size
    clear hb WR0_11 GR0_11 BB11
    have t22 : decide (((1 : Int) + (m0 : Nat) : Int) < 0) = false := by simp; omega
    go_wp2_with fail
    refine («fun».toPS_any ks _ _ (by have := HW.out; omega) (AR0.out _ BB12.out)).mono ?_
    rintro e w13 ⟨⟨k13, rfl, r13⟩, hb⟩
    have WR0_13 : Hid (Itm vm.vmSp w13 w3.heap.size [w3_0, w3_1, w3_2, w3_3, w3_4, w3_5, w3_6, w3_7, w3_8, w3_9] 35 w2.heap.size w3.heap.size (vm.newV ks n each).1) := WR0_12.out.on hb
    have GR0_13 : Hid (Itm vm.vmSh w13 w5.heap.size [g5_0, g5_1, g5_2, g5_3, g5_4, g5_5, g5_6, g5_7, g5_8, g5_9] 35 w4.heap.size w5.heap.size (vm.mkT 1 (vm.newV ks n each).1)) := GR0_12.out.on hb
    have BB13 : Hid (Below w.heap.size w w13) := BB12.out.trans (hb.mono BB12.out.size)
    have HC0_13 : Hid (ItmR «fun».funSp.sslice w13 [k13] w12.heap.size w13.heap.size ks) := ⟨Nat.le_refl _, r13⟩
    have L14 : Hid (w12.heap.size ≤ w13.heap.size) := hb.size
    clear hb r13 WR0_12 GR0_12 BB12
    go_wp2_with fail
    refine (vm.implVmNew ks n each _ _ HW.out hi1 hj1 (NS.out.on BB13.out) («fun».funSh.slice.mono («fun».funps_rep HC0_13.out.rep) fun b hb => by have := HC0_13.out.top; have := L0.out; have := L1.out; have := L2.out; have := L3.out; have := L4.out; have := L5.out; have := L6.out; have := L7.out; have := L8.out; have := L9.out; have := L10.out; have := L11.out; have := L12.out; have := L13.out; have := L14.out; omega)).mono ?_
    rintro e w14 ⟨⟨u14_0, rfl, r14_0⟩, hb⟩
    obtain ⟨h14_0, h14_1, h14_2, h14_3, h14_4, h14_5, h14_6, h14_7, h14_8, h14_9, rfl⟩ := vm.vm_list (vm.vmp_rep r14_0)
    have oh14_0 := vm.vmSp.one r14_0 h14_0 (by simp)
    have oh14_1 := vm.vmSp.one r14_0 h14_1 (by simp)
    have oh14_2 := vm.vmSp.one r14_0 h14_2 (by simp)
    have oh14_3 := vm.vmSp.one r14_0 h14_3 (by simp)
    have oh14_4 := vm.vmSp.one r14_0 h14_4 (by simp)
    have oh14_5 := vm.vmSp.one r14_0 h14_5 (by simp)
    have oh14_6 := vm.vmSp.one r14_0 h14_6 (by simp)
    have oh14_7 := vm.vmSp.one r14_0 h14_7 (by simp)
    have oh14_8 := vm.vmSp.one r14_0 h14_8 (by simp)
    have oh14_9 := vm.vmSp.one r14_0 h14_9 (by simp)
    have soh14_0 := fun (a : Addr) (m : Mode) (w : World) => run_store Tryz.prog w a h14_0 m oh14_0
    have soh14_1 := fun (a : Addr) (m : Mode) (w : World) => run_store Tryz.prog w a h14_1 m oh14_1
    have soh14_2 := fun (a : Addr) (m : Mode) (w : World) => run_store Tryz.prog w a h14_2 m oh14_2
    have soh14_3 := fun (a : Addr) (m : Mode) (w : World) => run_store Tryz.prog w a h14_3 m oh14_3
    have soh14_4 := fun (a : Addr) (m : Mode) (w : World) => run_store Tryz.prog w a h14_4 m oh14_4
    have soh14_5 := fun (a : Addr) (m : Mode) (w : World) => run_store Tryz.prog w a h14_5 m oh14_5
    have soh14_6 := fun (a : Addr) (m : Mode) (w : World) => run_store Tryz.prog w a h14_6 m oh14_6
    have soh14_7 := fun (a : Addr) (m : Mode) (w : World) => run_store Tryz.prog w a h14_7 m oh14_7
    have soh14_8 := fun (a : Addr) (m : Mode) (w : World) => run_store Tryz.prog w a h14_8 m oh14_8
    have soh14_9 := fun (a : Addr) (m : Mode) (w : World) => run_store Tryz.prog w a h14_9 m oh14_9
    obtain ⟨w14b, e14⟩ : ∃ x, x = w14.alloc (.cells #[h14_0, h14_1, h14_2, h14_3, h14_4, h14_5, h14_6, h14_7, h14_8, h14_9] 35) := ⟨_, rfl⟩
    have hA : Below w14.heap.size w14 w14b := by rw [e14]; exact (Below.refl _ _).alloc (Nat.le_refl _) _
    have z14 : w14b.heap.size = w14.heap.size + 1 := by rw [e14]; simp
    have WR0_14 : Hid (Itm vm.vmSp w14b w3.heap.size [w3_0, w3_1, w3_2, w3_3, w3_4, w3_5, w3_6, w3_7, w3_8, w3_9] 35 w2.heap.size w3.heap.size (vm.newV ks n each).1) := (WR0_13.out.on hb).on hA
    have GR0_14 : Hid (Itm vm.vmSh w14b w5.heap.size [g5_0, g5_1, g5_2, g5_3, g5_4, g5_5, g5_6, g5_7, g5_8, g5_9] 35 w4.heap.size w5.heap.size (vm.mkT 1 (vm.newV ks n each).1)) := (GR0_13.out.on hb).on hA
    have BB14 : Hid (Below w.heap.size w w14b) := (BB13.out.trans (hb.mono BB13.out.size)).trans (hA.mono (Nat.le_trans BB13.out.size hb.size))
    have L15 : Hid (w13.heap.size ≤ w14.heap.size) := hb.size
    have L16 : Hid (w14.heap.size + 1 ≤ w14b.heap.size) := by show _ ≤ _; omega
    have HR0_14 : Hid (Itm vm.vmSp w14b w14.heap.size [h14_0, h14_1, h14_2, h14_3, h14_4, h14_5, h14_6, h14_7, h14_8, h14_9] 35 w13.heap.size w14.heap.size (vm.newV ks n each).1) := by rw [e14]; exact Itm.new r14_0 (Nat.le_refl _) rfl
    clear hb hA z14 r14_0 WR0_13 GR0_13 BB13
    have cHR00 : (w14.alloc (.cells #[h14_0, h14_1, h14_2, h14_3, h14_4, h14_5, h14_6, h14_7, h14_8, h14_9] 35)).cell? ⟨w14.heap.size, 0, none⟩ = some h14_0 := by have := HR0_14.out.cell 0 (v := h14_0) rfl; rwa [e14] at this
    have cHR01 : (w14.alloc (.cells #[h14_0, h14_1, h14_2, h14_3, h14_4, h14_5, h14_6, h14_7, h14_8, h14_9] 35)).cell? ⟨w14.heap.size, 1, none⟩ = some h14_1 := by have := HR0_14.out.cell 1 (v := h14_1) rfl; rwa [e14] at this
    have cHR02 : (w14.alloc (.cells #[h14_0, h14_1, h14_2, h14_3, h14_4, h14_5, h14_6, h14_7, h14_8, h14_9] 35)).cell? ⟨w14.heap.size, 2, none⟩ = some h14_2 := by have := HR0_14.out.cell 2 (v := h14_2) rfl; rwa [e14] at this
    have cHR03 : (w14.alloc (.cells #[h14_0, h14_1, h14_2, h14_3, h14_4, h14_5, h14_6, h14_7, h14_8, h14_9] 35)).cell? ⟨w14.heap.size, 3, none⟩ = some h14_3 := by have := HR0_14.out.cell 3 (v := h14_3) rfl; rwa [e14] at this
    have cHR04 : (w14.alloc (.cells #[h14_0, h14_1, h14_2, h14_3, h14_4, h14_5, h14_6, h14_7, h14_8, h14_9] 35)).cell? ⟨w14.heap.size, 4, none⟩ = some h14_4 := by have := HR0_14.out.cell 4 (v := h14_4) rfl; rwa [e14] at this
    have cHR05 : (w14.alloc (.cells #[h14_0, h14_1, h14_2, h14_3, h14_4, h14_5, h14_6, h14_7, h14_8, h14_9] 35)).cell? ⟨w14.heap.size, 5, none⟩ = some h14_5 := by have := HR0_14.out.cell 5 (v := h14_5) rfl; rwa [e14] at this
    have cHR06 : (w14.alloc (.cells #[h14_0, h14_1, h14_2, h14_3, h14_4, h14_5, h14_6, h14_7, h14_8, h14_9] 35)).cell? ⟨w14.heap.size, 6, none⟩ = some h14_6 := by have := HR0_14.out.cell 6 (v := h14_6) rfl; rwa [e14] at this
    have cHR07 : (w14.alloc (.cells #[h14_0, h14_1, h14_2, h14_3, h14_4, h14_5, h14_6, h14_7, h14_8, h14_9] 35)).cell? ⟨w14.heap.size, 7, none⟩ = some h14_7 := by have := HR0_14.out.cell 7 (v := h14_7) rfl; rwa [e14] at this
    have cHR08 : (w14.alloc (.cells #[h14_0, h14_1, h14_2, h14_3, h14_4, h14_5, h14_6, h14_7, h14_8, h14_9] 35)).cell? ⟨w14.heap.size, 8, none⟩ = some h14_8 := by have := HR0_14.out.cell 8 (v := h14_8) rfl; rwa [e14] at this
    have cHR09 : (w14.alloc (.cells #[h14_0, h14_1, h14_2, h14_3, h14_4, h14_5, h14_6, h14_7, h14_8, h14_9] 35)).cell? ⟨w14.heap.size, 9, none⟩ = some h14_9 := by have := HR0_14.out.cell 9 (v := h14_9) rfl; rwa [e14] at this
    have cWR00 : (w14.alloc (.cells #[h14_0, h14_1, h14_2, h14_3, h14_4, h14_5, h14_6, h14_7, h14_8, h14_9] 35)).cell? ⟨w3.heap.size, 0, none⟩ = some w3_0 := by have := WR0_14.out.cell 0 (v := w3_0) rfl; rwa [e14] at this
    have cWR01 : (w14.alloc (.cells #[h14_0, h14_1, h14_2, h14_3, h14_4, h14_5, h14_6, h14_7, h14_8, h14_9] 35)).cell? ⟨w3.heap.size, 1, none⟩ = some w3_1 := by have := WR0_14.out.cell 1 (v := w3_1) rfl; rwa [e14] at this
    have cWR02 : (w14.alloc (.cells #[h14_0, h14_1, h14_2, h14_3, h14_4, h14_5, h14_6, h14_7, h14_8, h14_9] 35)).cell? ⟨w3.heap.size, 2, none⟩ = some w3_2 := by have := WR0_14.out.cell 2 (v := w3_2) rfl; rwa [e14] at this
    have cWR03 : (w14.alloc (.cells #[h14_0, h14_1, h14_2, h14_3, h14_4, h14_5, h14_6, h14_7, h14_8, h14_9] 35)).cell? ⟨w3.heap.size, 3, none⟩ = some w3_3 := by have := WR0_14.out.cell 3 (v := w3_3) rfl; rwa [e14] at this
    have cWR04 : (w14.alloc (.cells #[h14_0, h14_1, h14_2, h14_3, h14_4, h14_5, h14_6, h14_7, h14_8, h14_9] 35)).cell? ⟨w3.heap.size, 4, none⟩ = some w3_4 := by have := WR0_14.out.cell 4 (v := w3_4) rfl; rwa [e14] at this
    have cWR05 : (w14.alloc (.cells #[h14_0, h14_1, h14_2, h14_3, h14_4, h14_5, h14_6, h14_7, h14_8, h14_9] 35)).cell? ⟨w3.heap.size, 5, none⟩ = some w3_5 := by have := WR0_14.out.cell 5 (v := w3_5) rfl; rwa [e14] at this
    have cWR06 : (w14.alloc (.cells #[h14_0, h14_1, h14_2, h14_3, h14_4, h14_5, h14_6, h14_7, h14_8, h14_9] 35)).cell? ⟨w3.heap.size, 6, none⟩ = some w3_6 := by have := WR0_14.out.cell 6 (v := w3_6) rfl; rwa [e14] at this
    have cWR07 : (w14.alloc (.cells #[h14_0, h14_1, h14_2, h14_3, h14_4, h14_5, h14_6, h14_7, h14_8, h14_9] 35)).cell? ⟨w3.heap.size, 7, none⟩ = some w3_7 := by have := WR0_14.out.cell 7 (v := w3_7) rfl; rwa [e14] at this
    have cWR08 : (w14.alloc (.cells #[h14_0, h14_1, h14_2, h14_3, h14_4, h14_5, h14_6, h14_7, h14_8, h14_9] 35)).cell? ⟨w3.heap.size, 8, none⟩ = some w3_8 := by have := WR0_14.out.cell 8 (v := w3_8) rfl; rwa [e14] at this
    have cWR09 : (w14.alloc (.cells #[h14_0, h14_1, h14_2, h14_3, h14_4, h14_5, h14_6, h14_7, h14_8, h14_9] 35)).cell? ⟨w3.heap.size, 9, none⟩ = some w3_9 := by have := WR0_14.out.cell 9 (v := w3_9) rfl; rwa [e14] at this
    go_wp2_with fail
    rw [← e14]
    refine (vm.eq_any (vm.newV ks n each).1 _ _ _ (vm.vmSh.mono (vm.vmp_rep HR0_14.out.rep) fun b hb => by have := HR0_14.out.top; have := L0.out; have := L1.out; have := L2.out; have := L3.out; have := L4.out; have := L5.out; have := L6.out; have := L7.out; have := L8.out; have := L9.out; have := L10.out; have := L11.out; have := L12.out; have := L13.out; have := L14.out; have := L15.out; have := L16.out; omega) (vm.vmSh.mono (vm.vmp_rep WR0_14.out.rep) fun b hb => by have := WR0_14.out.top; have := L0.out; have := L1.out; have := L2.out; have := L3.out; have := L4.out; have := L5.out; have := L6.out; have := L7.out; have := L8.out; have := L9.out; have := L10.out; have := L11.out; have := L12.out; have := L13.out; have := L14.out; have := L15.out; have := L16.out; omega)).mono ?_
    rintro e w15 ⟨rfl, hb⟩
    clear cHR00 cHR01 cHR02 cHR03 cHR04 cHR05 cHR06 cHR07 cHR08 cHR09 cWR00 cWR01 cWR02 cWR03 cWR04 cWR05 cWR06 cWR07 cWR08 cWR09 e14
    have WR0_15 : Hid (Itm vm.vmSp w15 w3.heap.size [w3_0, w3_1, w3_2, w3_3, w3_4, w3_5, w3_6, w3_7, w3_8, w3_9] 35 w2.heap.size w3.heap.size (vm.newV ks n each).1) := WR0_14.out.on hb
    have GR0_15 : Hid (Itm vm.vmSh w15 w5.heap.size [g5_0, g5_1, g5_2, g5_3, g5_4, g5_5, g5_6, g5_7, g5_8, g5_9] 35 w4.heap.size w5.heap.size (vm.mkT 1 (vm.newV ks n each).1)) := GR0_14.out.on hb
    have HR0_15 : Hid (Itm vm.vmSp w15 w14.heap.size [h14_0, h14_1, h14_2, h14_3, h14_4, h14_5, h14_6, h14_7, h14_8, h14_9] 35 w13.heap.size w14.heap.size (vm.newV ks n each).1) := HR0_14.out.on hb
    have BB15 : Hid (Below w.heap.size w w15) := BB14.out.trans (hb.mono BB14.out.size)
    have L17 : Hid (w14b.heap.size ≤ w15.heap.size) := hb.size
    clear hb WR0_14 GR0_14 HR0_14 BB14
    have cGR00 : w15.cell? ⟨w5.heap.size, 0, none⟩ = some g5_0 := GR0_15.out.cell 0 rfl
    have cGR01 : w15.cell? ⟨w5.heap.size, 1, none⟩ = some g5_1 := GR0_15.out.cell 1 rfl
    have cGR02 : w15.cell? ⟨w5.heap.size, 2, none⟩ = some g5_2 := GR0_15.out.cell 2 rfl
    have cGR03 : w15.cell? ⟨w5.heap.size, 3, none⟩ = some g5_3 := GR0_15.out.cell 3 rfl
    have cGR04 : w15.cell? ⟨w5.heap.size, 4, none⟩ = some g5_4 := GR0_15.out.cell 4 rfl
    have cGR05 : w15.cell? ⟨w5.heap.size, 5, none⟩ = some g5_5 := GR0_15.out.cell 5 rfl
    have cGR06 : w15.cell? ⟨w5.heap.size, 6, none⟩ = some g5_6 := GR0_15.out.cell 6 rfl
    have cGR07 : w15.cell? ⟨w5.heap.size, 7, none⟩ = some g5_7 := GR0_15.out.cell 7 rfl
    have cGR08 : w15.cell? ⟨w5.heap.size, 8, none⟩ = some g5_8 := GR0_15.out.cell 8 rfl
    have cGR09 : w15.cell? ⟨w5.heap.size, 9, none⟩ = some g5_9 := GR0_15.out.cell 9 rfl
    go_wp2_with fail
    refine (vm.heldT_any (vm.newV ks n each).1 _ _ (1) (by omega) (by rw [← HM0.out]; omega) (vm.vmSh.mono GR0_15.out.rep fun b hb => by have := GR0_15.out.top; have := L0.out; have := L1.out; have := L2.out; have := L3.out; have := L4.out; have := L5.out; have := L6.out; have := L7.out; have := L8.out; have := L9.out; have := L10.out; have := L11.out; have := L12.out; have := L13.out; have := L14.out; have := L15.out; have := L16.out; have := L17.out; omega)).mono ?_
    rw [← HM0.out]
    rintro e w16 ⟨rfl, hb⟩
    clear cGR00 cGR01 cGR02 cGR03 cGR04 cGR05 cGR06 cGR07 cGR08 cGR09
    have WR0_16 : Hid (Itm vm.vmSp w16 w3.heap.size [w3_0, w3_1, w3_2, w3_3, w3_4, w3_5, w3_6, w3_7, w3_8, w3_9] 35 w2.heap.size w3.heap.size (vm.newV ks n each).1) := WR0_15.out.on hb
    have GR0_16 : Hid (Itm vm.vmSh w16 w5.heap.size [g5_0, g5_1, g5_2, g5_3, g5_4, g5_5, g5_6, g5_7, g5_8, g5_9] 35 w4.heap.size w5.heap.size (vm.mkT 1 (vm.newV ks n each).1)) := GR0_15.out.on hb
    have BB16 : Hid (Below w.heap.size w w16) := BB15.out.trans (hb.mono BB15.out.size)
    have L18 : Hid (w15.heap.size ≤ w16.heap.size) := hb.size
    clear hb WR0_15 GR0_15 BB15
    have t26 : decide (((1 : Int) + (m0 : Nat) : Int) < 0) = false := by simp; omega
    go_wp2
    go_ret
    exact ⟨rfl, BB16.out⟩
  · have hl : left q0 (1048576) = -1 := by unfold left; rw [if_neg (by omega)]
    rw [hl]
    go_wp2
    go_ret
    exact ⟨rfl, BB1.out⟩

/-- WHAT THE WALKS GIVE, FOR EVERY ARGUMENT AND EVERY WORLD THAT HOLDS WHAT IS LISTED. -/
theorem contract (H : Type) (enc : TypeId × Value → H) (W : World) (base : Nat) (args : Array Value) (ds gs : List (DataW H)) (before : List MemPlace)
    (hval : ∀ (j : Nat) t v, Tryz.f4.params[j]? = some t → args[j]? = some v → Value.okWide Tryz.prog W .any base t v)
    (hW : DataW.Whole enc Tryz.prog Tryz.f4.params.toList Rows.fnExactVmNewSpec.vars false W args.toList ds gs before) (hL : laidMetH Tryz.prog Rows.fnExactVmNewRow.laid W) :
    Calls Tryz.prog 4 args W fun e W' => ∃ v, e = .returned v ∧ Rows.fnExactVmNewSpec.post enc Tryz.prog Tryz.f4 false true false false W args v W' := by
  have hW' := hW
  obtain ⟨p, q, hA0, hV, rfl, hfz, hnd⟩ := hW
  have hA : DataW.TrodAll enc Tryz.prog W 0 (fun _ => true) true Tryz.f4.params.toList args.toList ds p := hA0
  rw [Tryz.params4] at hA hval
  obtain ⟨v0, vs0, d0, ds0, p0, q0, hargs, rfl, rfl, h0, r0⟩ := trodAll_cons hA
  obtain ⟨v1, vs1, d1, ds1, p1, q1, rfl, rfl, rfl, h1, r1⟩ := trodAll_cons r0
  obtain ⟨v2, vs2, d2, ds2, p2, q2, rfl, rfl, rfl, h2, r2⟩ := trodAll_cons r1
  obtain ⟨rfl, rfl, rfl⟩ := trodAll_nil r2
  obtain rfl : args = #[v0, v1, v2] := by cases args; simp_all
  have hV0 : DataW.TrodVars enc Tryz.prog W (fun _ => true) ["loop.example/g00323/impl.opNames"] gs q := hV
  obtain ⟨g1, rfl⟩ : ∃ g1, gs = [g1] := by
    obtain ⟨_, _, _, _, d, _, e, _⟩ := trodVars_one hV0
    exact ⟨d, e⟩
  have hN : «fun».Names W := «fun».names_of_laid (rest := []) hL
  have k0 := h0
  have lt0 : ∀ x ∈ p0, x.block < W.heap.size := by obtain ⟨m, hm⟩ := k0; exact DataW.trod_lt m _ _ _ hm
  obtain ⟨a0, len0, cap0, rfl⟩ := okWide_slice Tryz.underlying22 (hval 0 22 v0 rfl rfl)
  obtain ⟨ks, hT0⟩ : ∃ ks, «fun».funSh.slice.rep W (· < W.heap.size) [.slice a0 len0 cap0] ks := by
    obtain ⟨fuel, hf⟩ := h0
    exact «fun».opens_funs (enc := enc) (w := W) fuel fuel _ _ (Nat.le_refl _) hf
  obtain ⟨n, rfl, rfl, rfl, hx1⟩ := open_int Tryz.underlying3 (hval 1 3 v1 rfl rfl) h1
  obtain ⟨each, rfl, rfl, rfl⟩ := open_bool Tryz.underlying4 (hval 2 4 v2 rfl rfl) h2
  clear hA0
  refine (walk ks n each _ W (by have := bounds_i64 hx1; omega) (by have := bounds_i64 hx1; omega) hN hT0).mono fun e W' ⟨he, bel⟩ => ?_
  subst he
  exact ⟨_, rfl, _, _, _, [], _, _, hW', trodAll_mk1 (shut_bool Tryz.underlying4 _), (trodAll_cons_mk (Below.trod laidOut (by kernel_rfl) (of_decide_eq_true (by kernel_rfl)) k0 bel lt0) (trodAll_cons_mk (shut_int Tryz.underlying3 hx1) (trodAll_cons_mk (shut_bool Tryz.underlying4 _) trodAll_mk0))), Below.trodVars laidOut bel (by kernel_rfl) hV0, bel.frame _, fun h => by cases h⟩

/-- A WORLD FOR THE WITNESS: the one that the program's own start leaves. -/
theorem laid_met (os : Os) : laidMet Tryz.prog Rows.fnExactVmNewRow.laid ((World.doorLaid Tryz.prog 35 os).forCall (fun _ _ => 0) ⟨#[], #[.slice none 0 0, .int .i64 0, .bool false], []⟩).memory :=
  laidMet_of_run' 8 (by kernel_rfl) (by kernel_rfl)
theorem reads (os : Os) {H : Type} (enc : TypeId × Value → H) : ∃ places, DataW.whole enc Tryz.prog ((World.doorLaid Tryz.prog 35 os).forCall (fun _ _ => 0) ⟨#[], #[.slice none 0 0, .int .i64 0, .bool false], []⟩).memory Tryz.f4.params.toList Rows.fnExactVmNewSpec.vars false #[Value.slice none 0 0, Value.int .i64 0, Value.bool false].toList 8 = some ([.nil, .lit (.int .i64 0), .lit (.bool false)], [«fun».nmData], places) :=
  ⟨MemPlace.row ⟨0, 0, none⟩ 110, by kernel_rfl⟩

set_option maxRecDepth 100000 in
theorem lifted (os : Os) (started : os.Started) (H : Type) (enc : TypeId × Value → H) (F : Stop.Interp) :
    ReturnsInHanded {} Tryz.checked os 4 .any ((OpenSpec.ofChange Rows.fnExactVmNewSpec).preRow enc Tryz.prog Tryz.f4 Rows.fnExactVmNewRow.domain false Rows.fnExactVmNewRow.laid) (((OpenSpec.ofChange Rows.fnExactVmNewSpec).at F).post enc Tryz.prog Tryz.f4 false true false false) := by
  obtain ⟨places, hx⟩ := reads os enc
  refine returnsInHanded_of_row (C := Tryz.checked) (s := OpenSpec.ofChange Rows.fnExactVmNewSpec) own started (by kernel_rfl) Tryz.func4
    (witness_row_at (enc := enc) (C := Tryz.checked) false (World.doorLaid Tryz.prog 35 os) #[.slice none 0 0, .int .i64 0, .bool false] rfl (by kernel_rfl) (by kernel_rfl) (by kernel_rfl)
      (OpenSpec.preRow_of_cond 8 hx (by kernel_rfl) (fun k hk => by cases hk) (by kernel_rfl) (laid_met os))) ?_
  intro W base args ds gs before hval hW _ _ _ hL _ _
  exact contract H enc W base args ds gs before hval hW hL

theorem said : Rows.FnExactVmNewSaid :=
  OpenClaim.holds_of_cond 4 Tryz.f4 rfl rfl rfl rfl rfl rfl rfl ⟨rfl, rfl, rfl, rfl, rfl⟩ rfl rfl rfl rfl rfl (by kernel_rfl) Tryz.func4 (by kernel_rfl)
    (of_decide_eq_true (by kernel_rfl)) (by unfold Func.isWrapper; first | (rw [if_pos (by decide +kernel)]; kernel_rfl) | (rw [if_neg (by decide +kernel)]; exact ⟨rfl, rfl⟩))
    (fun os started H enc _ F => by rw [OpenClaim.pre_eq_preRow]; exact lifted os started H enc F)

theorem plain (f : FuncId) (fn : Func) (hf : Tryz.pinned.checked.prog.funcNamed "loop.example/g00323/laws.FnExactVmNew" = some f) (hfn : Tryz.pinned.checked.prog.funcs[f]? = some fn) :
    false = Tryz.pinned.checked.prog.looks [] ∧ ∀ (j : Nat) t, fn.params[j]? = some t → Tryz.pinned.checked.prog.wantsStandIn t = false := by
  obtain rfl : f = 4 := Option.some.inj ((show Tryz.prog.funcNamed "loop.example/g00323/laws.FnExactVmNew" = some 4 by kernel_rfl).symm.trans hf) |>.symm
  obtain rfl : fn = Tryz.f4 := (Option.some.inj (Tryz.func4.symm.trans hfn)).symm
  refine ⟨by kernel_rfl, fun j t ht => ?_⟩
  rw [Tryz.params4] at ht
  have hm := Array.mem_of_getElem? ht
  simp only [List.mem_toArray, List.mem_cons, List.mem_nil_iff, or_false] at hm
  rcases hm with rfl | rfl | rfl
  · exact (show Tryz.prog.wantsStandIn 22 = false by kernel_rfl)
  · exact (show Tryz.prog.wantsStandIn 3 = false by kernel_rfl)
  · exact (show Tryz.prog.wantsStandIn 4 = false by kernel_rfl)

/-- THE CARD. -/
theorem card : Rows.FnExactVmNewCardSaid :=
  Claim7.holds_tied_plain_at .later [] _ _ _ _ said (fun _ h => by cases h) (by kernel_rfl) (fun _ h => by cases h) fnExactVmNew_row_tie rfl ⟨rfl, rfl⟩ (by kernel_rfl) rfl plain (by kernel_rfl)
#print axioms card
end Go.Proofs.YtjibmpebebephaaGreatDoor.fnExactVmNew
