/-
  At every argument the program's function answers as its model, writes nothing into an argument, and its answer owns its memory; the law's call returns true, and the arguments read as they read before. No condition.
-/
import Derived.Test.YtempmfpnngbbeaaRows
import Derived.Test.YtempmfpnngbbeaaItems2
import Derived.Test.YtempmfpnngbbeaaHeapSp
import Derived.Test.YtempmfpnngbbeaaHeapEq
import Derived.Test.YtempmfpnngbbeaaHeapMarkT
import Derived.Test.YtempmfpnngbbeaaHeapHeldT
import Derived.Test.YtempmfpnngbbeaaHeapNewStd
import Derived.ProofKit
import Derived.Deep.DeepHandedRow
import Derived.ChangeOld
import Derived.Carry
namespace Go.Proofs.Ytempmfpnngbbeaa.fnExactHeapNew
open Go.ChangeShapes Go.WideShapes Go.ChangeAt Go.RowKit Go.Proofs.Ytempmfpnngbbeaa.rose Go.Proofs.Ytempmfpnngbbeaa
open Go.ChangeMaps (open_string shut_string)
set_option linter.unusedVariables false

theorem own : ownKnob Try.prog.godebug = none := by kernel_rfl
theorem laidOut : laidOutB Try.prog = true := by kernel_rfl

set_option maxRecDepth 100000 in
set_option maxHeartbeats 8000000 in
theorem walk (n : Int) (w : World) (hi0 : -9223372036854775808 ≤ n) (hj0 : n ≤ 9223372036854775807) :
    Calls Try.prog 8 #[.int .i64 n] w fun e w' => e = .returned (.bool true) ∧ Below w.heap.size w w' := by
  have BB0 : Hid (Below w.heap.size w w) := Below.refl _ w
  go_enter Try.func8, Try.ntmps8
  go_wp2_with fail
  refine (heap.specHeapNew n  _ hi0 hj0).mono ?_
  rintro e w1 ⟨⟨u1_0, rfl, r1_0⟩, hb⟩
  obtain ⟨w1_0, w1_1, w1_2, w1_3, rfl⟩ := heap.heap_list (heap.heapp_rep r1_0)
  have ow1_0 := heap.heapSp.one r1_0 w1_0 (by simp)
  have ow1_1 := heap.heapSp.one r1_0 w1_1 (by simp)
  have ow1_2 := heap.heapSp.one r1_0 w1_2 (by simp)
  have ow1_3 := heap.heapSp.one r1_0 w1_3 (by simp)
  have sow1_0 := fun (a : Addr) (m : Mode) (w : World) => run_store Try.prog w a w1_0 m ow1_0
  have sow1_1 := fun (a : Addr) (m : Mode) (w : World) => run_store Try.prog w a w1_1 m ow1_1
  have sow1_2 := fun (a : Addr) (m : Mode) (w : World) => run_store Try.prog w a w1_2 m ow1_2
  have sow1_3 := fun (a : Addr) (m : Mode) (w : World) => run_store Try.prog w a w1_3 m ow1_3
  obtain ⟨w1b, e1⟩ : ∃ x, x = w1.alloc (.cells #[w1_0, w1_1, w1_2, w1_3] 26) := ⟨_, rfl⟩
  have hA : Below w1.heap.size w1 w1b := by rw [e1]; exact (Below.refl _ _).alloc (Nat.le_refl _) _
  have z1 : w1b.heap.size = w1.heap.size + 1 := by rw [e1]; simp
  have BB1 : Hid (Below w.heap.size w w1b) := (BB0.out.trans (hb.mono BB0.out.size)).trans (hA.mono (Nat.le_trans BB0.out.size hb.size))
  have L0 : Hid (w.heap.size + 0 ≤ w1b.heap.size) := by have := hb.size; (try simp at this); show _ ≤ _; omega
  have L1 : Hid (w.heap.size ≤ w1.heap.size) := hb.size
  have L2 : Hid (w1.heap.size + 1 ≤ w1b.heap.size) := by show _ ≤ _; omega
  have WR0_1 : Hid (Itm heap.heapSp w1b w1.heap.size [w1_0, w1_1, w1_2, w1_3] 26 w.heap.size w1.heap.size (heap.newF n).1) := by rw [e1]; exact Itm.new r1_0 (Nat.le_refl _) rfl
  clear hb hA z1 r1_0 BB0
  go_wp2_with fail
  rw [← e1]
  refine (heap.implHeapNew n  _ hi0 hj0).mono ?_
  rintro e w2 ⟨⟨u2_0, rfl, r2_0⟩, hb⟩
  clear e1
  obtain ⟨g2_0, g2_1, g2_2, g2_3, rfl⟩ := heap.heap_list (heap.heapp_rep r2_0)
  have og2_0 := heap.heapSp.one r2_0 g2_0 (by simp)
  have og2_1 := heap.heapSp.one r2_0 g2_1 (by simp)
  have og2_2 := heap.heapSp.one r2_0 g2_2 (by simp)
  have og2_3 := heap.heapSp.one r2_0 g2_3 (by simp)
  have sog2_0 := fun (a : Addr) (m : Mode) (w : World) => run_store Try.prog w a g2_0 m og2_0
  have sog2_1 := fun (a : Addr) (m : Mode) (w : World) => run_store Try.prog w a g2_1 m og2_1
  have sog2_2 := fun (a : Addr) (m : Mode) (w : World) => run_store Try.prog w a g2_2 m og2_2
  have sog2_3 := fun (a : Addr) (m : Mode) (w : World) => run_store Try.prog w a g2_3 m og2_3
  obtain ⟨w2b, e2⟩ : ∃ x, x = w2.alloc (.cells #[g2_0, g2_1, g2_2, g2_3] 26) := ⟨_, rfl⟩
  have hA : Below w2.heap.size w2 w2b := by rw [e2]; exact (Below.refl _ _).alloc (Nat.le_refl _) _
  have z2 : w2b.heap.size = w2.heap.size + 1 := by rw [e2]; simp
  have WR0_2 : Hid (Itm heap.heapSp w2b w1.heap.size [w1_0, w1_1, w1_2, w1_3] 26 w.heap.size w1.heap.size (heap.newF n).1) := (WR0_1.out.on hb).on hA
  have BB2 : Hid (Below w.heap.size w w2b) := (BB1.out.trans (hb.mono BB1.out.size)).trans (hA.mono (Nat.le_trans BB1.out.size hb.size))
  have L3 : Hid (w1b.heap.size ≤ w2.heap.size) := hb.size
  have L4 : Hid (w2.heap.size + 1 ≤ w2b.heap.size) := by show _ ≤ _; omega
  have GR0_2 : Hid (Itm heap.heapSp w2b w2.heap.size [g2_0, g2_1, g2_2, g2_3] 26 w1b.heap.size w2.heap.size (heap.newF n).1) := by rw [e2]; exact Itm.new r2_0 (Nat.le_refl _) rfl
  clear hb hA z2 r2_0 WR0_1 BB1
  have cGR00 : (w2.alloc (.cells #[g2_0, g2_1, g2_2, g2_3] 26)).cell? ⟨w2.heap.size, 0, none⟩ = some g2_0 := by have := GR0_2.out.cell 0 (v := g2_0) rfl; rwa [e2] at this
  have cGR01 : (w2.alloc (.cells #[g2_0, g2_1, g2_2, g2_3] 26)).cell? ⟨w2.heap.size, 1, none⟩ = some g2_1 := by have := GR0_2.out.cell 1 (v := g2_1) rfl; rwa [e2] at this
  have cGR02 : (w2.alloc (.cells #[g2_0, g2_1, g2_2, g2_3] 26)).cell? ⟨w2.heap.size, 2, none⟩ = some g2_2 := by have := GR0_2.out.cell 2 (v := g2_2) rfl; rwa [e2] at this
  have cGR03 : (w2.alloc (.cells #[g2_0, g2_1, g2_2, g2_3] 26)).cell? ⟨w2.heap.size, 3, none⟩ = some g2_3 := by have := GR0_2.out.cell 3 (v := g2_3) rfl; rwa [e2] at this
  have cWR00 : (w2.alloc (.cells #[g2_0, g2_1, g2_2, g2_3] 26)).cell? ⟨w1.heap.size, 0, none⟩ = some w1_0 := by have := WR0_2.out.cell 0 (v := w1_0) rfl; rwa [e2] at this
  have cWR01 : (w2.alloc (.cells #[g2_0, g2_1, g2_2, g2_3] 26)).cell? ⟨w1.heap.size, 1, none⟩ = some w1_1 := by have := WR0_2.out.cell 1 (v := w1_1) rfl; rwa [e2] at this
  have cWR02 : (w2.alloc (.cells #[g2_0, g2_1, g2_2, g2_3] 26)).cell? ⟨w1.heap.size, 2, none⟩ = some w1_2 := by have := WR0_2.out.cell 2 (v := w1_2) rfl; rwa [e2] at this
  have cWR03 : (w2.alloc (.cells #[g2_0, g2_1, g2_2, g2_3] 26)).cell? ⟨w1.heap.size, 3, none⟩ = some w1_3 := by have := WR0_2.out.cell 3 (v := w1_3) rfl; rwa [e2] at this
  go_wp2_with fail
  rw [← e2]
  refine (heap.eq_any (heap.newF n).1 _ _ _ (heap.heapSh.mono (heap.heapp_rep GR0_2.out.rep) fun b hb => by have := GR0_2.out.top; have := L0.out; have := L1.out; have := L2.out; have := L3.out; have := L4.out; omega) (heap.heapSh.mono (heap.heapp_rep WR0_2.out.rep) fun b hb => by have := WR0_2.out.top; have := L0.out; have := L1.out; have := L2.out; have := L3.out; have := L4.out; omega)).mono ?_
  rintro e w3 ⟨rfl, hb⟩
  clear cGR00 cGR01 cGR02 cGR03 cWR00 cWR01 cWR02 cWR03 e2
  have WR0_3 : Hid (Itm heap.heapSp w3 w1.heap.size [w1_0, w1_1, w1_2, w1_3] 26 w.heap.size w1.heap.size (heap.newF n).1) := WR0_2.out.on hb
  have GR0_3 : Hid (Itm heap.heapSp w3 w2.heap.size [g2_0, g2_1, g2_2, g2_3] 26 w1b.heap.size w2.heap.size (heap.newF n).1) := GR0_2.out.on hb
  have BB3 : Hid (Below w.heap.size w w3) := BB2.out.trans (hb.mono BB2.out.size)
  have L5 : Hid (w2b.heap.size ≤ w3.heap.size) := hb.size
  clear hb WR0_2 GR0_2 BB2
  have hcg0 : heap.cntT (heap.newF n).1 ≤ 1073741824 := heap.new_bound n
  have cGR00 : w3.cell? ⟨w2.heap.size, 0, none⟩ = some g2_0 := GR0_3.out.cell 0 rfl
  have cGR01 : w3.cell? ⟨w2.heap.size, 1, none⟩ = some g2_1 := GR0_3.out.cell 1 rfl
  have cGR02 : w3.cell? ⟨w2.heap.size, 2, none⟩ = some g2_2 := GR0_3.out.cell 2 rfl
  have cGR03 : w3.cell? ⟨w2.heap.size, 3, none⟩ = some g2_3 := GR0_3.out.cell 3 rfl
  go_wp2_with fail
  refine (heap.markT_any (heap.newF n).1 _ _ (1) (fun b => w1b.heap.size ≤ b ∧ b < w2.heap.size) (by omega) (by omega) (fun b hb => by have := GR0_3.out.top; have := L0.out; have := L1.out; have := L2.out; have := L3.out; have := L4.out; have := L5.out; omega) GR0_3.out.rep).mono ?_
  rintro e w4 ⟨rfl, ho, hr⟩
  clear cGR00 cGR01 cGR02 cGR03
  have WR0_4 : Hid (Itm heap.heapSp w4 w1.heap.size [w1_0, w1_1, w1_2, w1_3] 26 w.heap.size w1.heap.size (heap.newF n).1) := WR0_3.out.only ho (fun hq => by have := L0.out; have := L1.out; have := L2.out; have := L3.out; have := L4.out; have := L5.out; omega) (fun b h1 h2 hq => by have := L0.out; have := L1.out; have := L2.out; have := L3.out; have := L4.out; have := L5.out; omega)
  have BB4 : Hid (Below w.heap.size w w4) := BB3.out.trans (ho.below BB3.out.size fun b hb => by have := L0.out; have := L1.out; have := L2.out; have := L3.out; have := L4.out; have := L5.out; omega)
  have L6 : Hid (w3.heap.size ≤ w4.heap.size) := ho.size
  have GR0_4 : Hid (Itm heap.heapSh w4 w2.heap.size [g2_0, g2_1, g2_2, g2_3] 26 w1b.heap.size w2.heap.size (heap.mkT 1 (heap.newF n).1)) := ⟨(ho.block _ GR0_3.out.lt (fun hq => by have := L0.out; have := L1.out; have := L2.out; have := L3.out; have := L4.out; have := L5.out; have := L6.out; omega)).trans GR0_3.out.blk, Nat.le_trans GR0_3.out.top ho.size, heap.heapp_rep hr⟩
  clear ho hr GR0_3 WR0_3 BB3
  obtain ⟨m0, hm0⟩ : ∃ nz : Nat, nz = heap.cntT (heap.newF n).1 := ⟨_, rfl⟩
  have HM0 : Hid (m0 = heap.cntT (heap.newF n).1) := hm0
  rw [← hm0] at hcg0 ⊢
  clear hm0
  have cGR00 : w4.cell? ⟨w2.heap.size, 0, none⟩ = some g2_0 := GR0_4.out.cell 0 rfl
  have cGR01 : w4.cell? ⟨w2.heap.size, 1, none⟩ = some g2_1 := GR0_4.out.cell 1 rfl
  have cGR02 : w4.cell? ⟨w2.heap.size, 2, none⟩ = some g2_2 := GR0_4.out.cell 2 rfl
  have cGR03 : w4.cell? ⟨w2.heap.size, 3, none⟩ = some g2_3 := GR0_4.out.cell 3 rfl
  go_wp2_with fail
  refine (heap.heldT_any (heap.newF n).1 _ _ (1) (by omega) (by rw [← HM0.out]; omega) (heap.heapSh.mono GR0_4.out.rep fun b hb => by have := GR0_4.out.top; have := L0.out; have := L1.out; have := L2.out; have := L3.out; have := L4.out; have := L5.out; have := L6.out; omega)).mono ?_
  rw [← HM0.out]
  rintro e w5 ⟨rfl, hb⟩
  clear cGR00 cGR01 cGR02 cGR03
  have WR0_5 : Hid (Itm heap.heapSp w5 w1.heap.size [w1_0, w1_1, w1_2, w1_3] 26 w.heap.size w1.heap.size (heap.newF n).1) := WR0_4.out.on hb
  have GR0_5 : Hid (Itm heap.heapSh w5 w2.heap.size [g2_0, g2_1, g2_2, g2_3] 26 w1b.heap.size w2.heap.size (heap.mkT 1 (heap.newF n).1)) := GR0_4.out.on hb
  have BB5 : Hid (Below w.heap.size w w5) := BB4.out.trans (hb.mono BB4.out.size)
  have L7 : Hid (w4.heap.size ≤ w5.heap.size) := hb.size
  clear hb WR0_4 GR0_4 BB4
  have t15 : decide (((1 : Int) + (m0 : Nat) : Int) < 0) = false := by simp; omega
  go_wp2_with fail
  refine (heap.implHeapNew n  _ hi0 hj0).mono ?_
  rintro e w6 ⟨⟨u6_0, rfl, r6_0⟩, hb⟩
  obtain ⟨h6_0, h6_1, h6_2, h6_3, rfl⟩ := heap.heap_list (heap.heapp_rep r6_0)
  have oh6_0 := heap.heapSp.one r6_0 h6_0 (by simp)
  have oh6_1 := heap.heapSp.one r6_0 h6_1 (by simp)
  have oh6_2 := heap.heapSp.one r6_0 h6_2 (by simp)
  have oh6_3 := heap.heapSp.one r6_0 h6_3 (by simp)
  have soh6_0 := fun (a : Addr) (m : Mode) (w : World) => run_store Try.prog w a h6_0 m oh6_0
  have soh6_1 := fun (a : Addr) (m : Mode) (w : World) => run_store Try.prog w a h6_1 m oh6_1
  have soh6_2 := fun (a : Addr) (m : Mode) (w : World) => run_store Try.prog w a h6_2 m oh6_2
  have soh6_3 := fun (a : Addr) (m : Mode) (w : World) => run_store Try.prog w a h6_3 m oh6_3
  obtain ⟨w6b, e6⟩ : ∃ x, x = w6.alloc (.cells #[h6_0, h6_1, h6_2, h6_3] 26) := ⟨_, rfl⟩
  have hA : Below w6.heap.size w6 w6b := by rw [e6]; exact (Below.refl _ _).alloc (Nat.le_refl _) _
  have z6 : w6b.heap.size = w6.heap.size + 1 := by rw [e6]; simp
  have WR0_6 : Hid (Itm heap.heapSp w6b w1.heap.size [w1_0, w1_1, w1_2, w1_3] 26 w.heap.size w1.heap.size (heap.newF n).1) := (WR0_5.out.on hb).on hA
  have GR0_6 : Hid (Itm heap.heapSh w6b w2.heap.size [g2_0, g2_1, g2_2, g2_3] 26 w1b.heap.size w2.heap.size (heap.mkT 1 (heap.newF n).1)) := (GR0_5.out.on hb).on hA
  have BB6 : Hid (Below w.heap.size w w6b) := (BB5.out.trans (hb.mono BB5.out.size)).trans (hA.mono (Nat.le_trans BB5.out.size hb.size))
  have L8 : Hid (w5.heap.size ≤ w6.heap.size) := hb.size
  have L9 : Hid (w6.heap.size + 1 ≤ w6b.heap.size) := by show _ ≤ _; omega
  have HR0_6 : Hid (Itm heap.heapSp w6b w6.heap.size [h6_0, h6_1, h6_2, h6_3] 26 w5.heap.size w6.heap.size (heap.newF n).1) := by rw [e6]; exact Itm.new r6_0 (Nat.le_refl _) rfl
  clear hb hA z6 r6_0 WR0_5 GR0_5 BB5
  have cHR00 : (w6.alloc (.cells #[h6_0, h6_1, h6_2, h6_3] 26)).cell? ⟨w6.heap.size, 0, none⟩ = some h6_0 := by have := HR0_6.out.cell 0 (v := h6_0) rfl; rwa [e6] at this
  have cHR01 : (w6.alloc (.cells #[h6_0, h6_1, h6_2, h6_3] 26)).cell? ⟨w6.heap.size, 1, none⟩ = some h6_1 := by have := HR0_6.out.cell 1 (v := h6_1) rfl; rwa [e6] at this
  have cHR02 : (w6.alloc (.cells #[h6_0, h6_1, h6_2, h6_3] 26)).cell? ⟨w6.heap.size, 2, none⟩ = some h6_2 := by have := HR0_6.out.cell 2 (v := h6_2) rfl; rwa [e6] at this
  have cHR03 : (w6.alloc (.cells #[h6_0, h6_1, h6_2, h6_3] 26)).cell? ⟨w6.heap.size, 3, none⟩ = some h6_3 := by have := HR0_6.out.cell 3 (v := h6_3) rfl; rwa [e6] at this
  have cWR00 : (w6.alloc (.cells #[h6_0, h6_1, h6_2, h6_3] 26)).cell? ⟨w1.heap.size, 0, none⟩ = some w1_0 := by have := WR0_6.out.cell 0 (v := w1_0) rfl; rwa [e6] at this
  have cWR01 : (w6.alloc (.cells #[h6_0, h6_1, h6_2, h6_3] 26)).cell? ⟨w1.heap.size, 1, none⟩ = some w1_1 := by have := WR0_6.out.cell 1 (v := w1_1) rfl; rwa [e6] at this
  have cWR02 : (w6.alloc (.cells #[h6_0, h6_1, h6_2, h6_3] 26)).cell? ⟨w1.heap.size, 2, none⟩ = some w1_2 := by have := WR0_6.out.cell 2 (v := w1_2) rfl; rwa [e6] at this
  have cWR03 : (w6.alloc (.cells #[h6_0, h6_1, h6_2, h6_3] 26)).cell? ⟨w1.heap.size, 3, none⟩ = some w1_3 := by have := WR0_6.out.cell 3 (v := w1_3) rfl; rwa [e6] at this
  go_wp2_with fail
  rw [← e6]
  refine (heap.eq_any (heap.newF n).1 _ _ _ (heap.heapSh.mono (heap.heapp_rep HR0_6.out.rep) fun b hb => by have := HR0_6.out.top; have := L0.out; have := L1.out; have := L2.out; have := L3.out; have := L4.out; have := L5.out; have := L6.out; have := L7.out; have := L8.out; have := L9.out; omega) (heap.heapSh.mono (heap.heapp_rep WR0_6.out.rep) fun b hb => by have := WR0_6.out.top; have := L0.out; have := L1.out; have := L2.out; have := L3.out; have := L4.out; have := L5.out; have := L6.out; have := L7.out; have := L8.out; have := L9.out; omega)).mono ?_
  rintro e w7 ⟨rfl, hb⟩
  clear cHR00 cHR01 cHR02 cHR03 cWR00 cWR01 cWR02 cWR03 e6
  have WR0_7 : Hid (Itm heap.heapSp w7 w1.heap.size [w1_0, w1_1, w1_2, w1_3] 26 w.heap.size w1.heap.size (heap.newF n).1) := WR0_6.out.on hb
  have GR0_7 : Hid (Itm heap.heapSh w7 w2.heap.size [g2_0, g2_1, g2_2, g2_3] 26 w1b.heap.size w2.heap.size (heap.mkT 1 (heap.newF n).1)) := GR0_6.out.on hb
  have HR0_7 : Hid (Itm heap.heapSp w7 w6.heap.size [h6_0, h6_1, h6_2, h6_3] 26 w5.heap.size w6.heap.size (heap.newF n).1) := HR0_6.out.on hb
  have BB7 : Hid (Below w.heap.size w w7) := BB6.out.trans (hb.mono BB6.out.size)
  have L10 : Hid (w6b.heap.size ≤ w7.heap.size) := hb.size
  clear hb WR0_6 GR0_6 HR0_6 BB6
  have cGR00 : w7.cell? ⟨w2.heap.size, 0, none⟩ = some g2_0 := GR0_7.out.cell 0 rfl
  have cGR01 : w7.cell? ⟨w2.heap.size, 1, none⟩ = some g2_1 := GR0_7.out.cell 1 rfl
  have cGR02 : w7.cell? ⟨w2.heap.size, 2, none⟩ = some g2_2 := GR0_7.out.cell 2 rfl
  have cGR03 : w7.cell? ⟨w2.heap.size, 3, none⟩ = some g2_3 := GR0_7.out.cell 3 rfl
  go_wp2_with fail
  refine (heap.heldT_any (heap.newF n).1 _ _ (1) (by omega) (by rw [← HM0.out]; omega) (heap.heapSh.mono GR0_7.out.rep fun b hb => by have := GR0_7.out.top; have := L0.out; have := L1.out; have := L2.out; have := L3.out; have := L4.out; have := L5.out; have := L6.out; have := L7.out; have := L8.out; have := L9.out; have := L10.out; omega)).mono ?_
  rw [← HM0.out]
  rintro e w8 ⟨rfl, hb⟩
  clear cGR00 cGR01 cGR02 cGR03
  have WR0_8 : Hid (Itm heap.heapSp w8 w1.heap.size [w1_0, w1_1, w1_2, w1_3] 26 w.heap.size w1.heap.size (heap.newF n).1) := WR0_7.out.on hb
  have GR0_8 : Hid (Itm heap.heapSh w8 w2.heap.size [g2_0, g2_1, g2_2, g2_3] 26 w1b.heap.size w2.heap.size (heap.mkT 1 (heap.newF n).1)) := GR0_7.out.on hb
  have BB8 : Hid (Below w.heap.size w w8) := BB7.out.trans (hb.mono BB7.out.size)
  have L11 : Hid (w7.heap.size ≤ w8.heap.size) := hb.size
  clear hb WR0_7 GR0_7 BB7
  have t18 : decide (((1 : Int) + (m0 : Nat) : Int) < 0) = false := by simp; omega
  go_wp2
  go_ret
  exact ⟨rfl, BB8.out⟩

set_option maxRecDepth 100000 in
theorem lifted (os : Os) (started : os.Started) (H : Type) (enc : TypeId × Value → H) :
    ReturnsInHanded {} Try.checked os 8 .any (Rows.fnExactHeapNewSpec.pre6 enc Try.prog Try.f8 Rows.fnExactHeapNewRow.domain false) (Rows.fnExactHeapNewSpec.post enc Try.prog Try.f8 false true false false) := by
  refine returnsInHanded_of_change (C := Try.checked) own started (by kernel_rfl) Try.func8
    (ChangeSpec.witness6 (enc := enc) (C := Try.checked) false ⟨#[], #[.int .i64 0], []⟩ 8 (by kernel_rfl) (by kernel_rfl) (by kernel_rfl) (by kernel_rfl)) ?_
  intro W base args ds gs before hval0 hW hcnd _
  have hval : ∀ (j : Nat) t v, Try.f8.params[j]? = some t → args[j]? = some v → Value.okWide Try.prog W .any base t v := hval0
  have hW' := hW
  obtain ⟨p, q, hA0, hV, rfl, hfz, hnd⟩ := hW
  have hA : DataW.TrodAll enc Try.prog W 0 (fun _ => true) true Try.f8.params.toList args.toList ds p := hA0
  rw [Try.params8] at hA hval
  obtain ⟨v0, vs0, d0, ds0, p0, q0, hargs, rfl, rfl, h0, r0⟩ := trodAll_cons hA
  obtain ⟨rfl, rfl, rfl⟩ := trodAll_nil r0
  obtain rfl : args = #[v0] := by cases args; simp_all
  obtain ⟨rfl, rfl⟩ := trodVars_none hV
  obtain ⟨n, rfl, rfl, rfl, hx0⟩ := open_int Try.underlying3 (hval 0 3 v0 rfl rfl) h0
  clear hA0 hval0
  refine (walk n  W (by have := bounds_i64 hx0; omega) (by have := bounds_i64 hx0; omega) ).mono fun e W' ⟨he, bel⟩ => ?_
  subst he
  exact ⟨_, rfl, _, _, _, [], _, [], hW', trodAll_mk1 (shut_bool Try.underlying4 _), (trodAll_cons_mk (shut_int Try.underlying3 hx0) trodAll_mk0), rfl, bel.frame _, fun h => by cases h⟩

theorem over : Rows.fnExactHeapNewRow.holds Try.pinned (OpenSpec.ofChange Rows.fnExactHeapNewSpec) :=
  OpenClaim.holds_of_wide 8 Try.f8 rfl rfl rfl rfl rfl rfl rfl ⟨rfl, rfl, rfl, rfl, rfl⟩ rfl rfl rfl rfl rfl (by kernel_rfl) Try.func8 (by kernel_rfl)
    (of_decide_eq_true (by kernel_rfl)) (by unfold Func.isWrapper; first | (rw [if_pos (by decide +kernel)]; kernel_rfl) | (rw [if_neg (by decide +kernel)]; exact ⟨rfl, rfl⟩))
    (fun os started H enc _ => lifted os started H enc)

/-- THE STATEMENT. -/
theorem proved : Rows.FnExactHeapNewSaid :=
  over
#print axioms proved
end Go.Proofs.Ytempmfpnngbbeaa.fnExactHeapNew
