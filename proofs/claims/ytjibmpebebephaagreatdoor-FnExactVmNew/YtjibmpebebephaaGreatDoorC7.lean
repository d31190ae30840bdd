/-
  The law's comparison of two Vms and of slices of them: of two that are the same it says true; nothing that was there is turned.
  A Heap that lies in memory apart: its slices are all different blocks.
  An Call that lies in memory apart: it holds no memory; a slice of them is one block.
  A Vm that lies in memory apart: its slices are all different blocks.
  The law's comparison and marks of slices of ints: of the same list true; where it lies apart, what is read back is what was written; nothing else is turned.
  The law's marks in one Heap: its slices are marked, nothing else is turned.
-/
import Derived.Deep.RegionWith
import Derived.Test.YtjibmpebebephaaGreatDoorChecked
import Derived.WalkKit
import Derived.WalkLawsBesides
import Derived.Deep.QuietTactic
import Derived.BigQuiet
import Derived.Test.YtjibmpebebephaaGreatDoorC1
import Derived.Test.YtjibmpebebephaaGreatDoorC2
import Derived.Test.YtjibmpebebephaaGreatDoorC3
import Derived.Test.YtjibmpebebephaaGreatDoorC4
import Derived.Test.YtjibmpebebephaaGreatDoorC5
import Derived.Test.YtjibmpebebephaaGreatDoorC6
namespace Go.Proofs.YtjibmpebebephaaGreatDoor.vm
open Go.RowKit Go.Proofs.YtjibmpebebephaaGreatDoor.rose Go.Proofs.YtjibmpebebephaaGreatDoor
set_option linter.unusedVariables false

def EqSays (T : VmD) : Prop := ∀ cs1 cs2 w, vmSh.rep w (· < w.heap.size) cs1 T → vmSh.rep w (· < w.heap.size) cs2 T →
  Calls Tryz.prog 9 #[.agg cs1.toArray, .agg cs2.toArray] w fun e w' => e = .returned (.bool true) ∧ Below w.heap.size w w'

set_option maxHeartbeats 1000000 in
theorem eq_any (T : VmD) : EqSays T := by
  intro cs1 cs2 w h h'
  obtain ⟨x0, a0, c0, x1, u1_0, u1_1, u1_2, u1_3, x2, a2, c2, x3, a3, c3, x4, a4, c4, x5, x6, rfl, rfl, f0, f1, f2, f3, f4, f5⟩ := vm_open h
  obtain ⟨x0', a0', c0', x1', u1_0', u1_1', u1_2', u1_3', x2', a2', c2', x3', a3', c3', x4', a4', c4', x5', x6', hT, rfl, g0, g1, g2, g3, g4, g5⟩ := vm_open h'
  cases hT
  have ou1_0 := heap.heapSh.one f1 u1_0 (by simp)
  have ou1_1 := heap.heapSh.one f1 u1_1 (by simp)
  have ou1_2 := heap.heapSh.one f1 u1_2 (by simp)
  have ou1_3 := heap.heapSh.one f1 u1_3 (by simp)
  have ou1_0' := heap.heapSh.one g1 u1_0' (by simp)
  have ou1_1' := heap.heapSh.one g1 u1_1' (by simp)
  have ou1_2' := heap.heapSh.one g1 u1_2' (by simp)
  have ou1_3' := heap.heapSh.one g1 u1_3' (by simp)
  clear h h'
  have K0 : ∀ (w' : World), Below w.heap.size w w' → Calls Tryz.prog 14 #[.slice a0 x0.length c0, .slice a0' x0.length c0'] w' fun e w'' => e = .returned (.bool true) ∧ Below w'.heap.size w' w'' :=
    fun w' hb => fun.eqS_any x0 _ _ w' (fun.funSh.slice.mono (fun.funSh.slice.below f0 hb) fun b hlt => Nat.lt_of_lt_of_le hlt hb.size) (fun.funSh.slice.mono (fun.funSh.slice.below g0 hb) fun b hlt => Nat.lt_of_lt_of_le hlt hb.size)
  have K1 : ∀ (w' : World), Below w.heap.size w w' → Calls Tryz.prog 35 #[.agg #[u1_0, u1_1, u1_2, u1_3], .agg #[u1_0', u1_1', u1_2', u1_3']] w' fun e w'' => e = .returned (.bool true) ∧ Below w'.heap.size w' w'' :=
    fun w' hb => heap.eq_any x1 _ _ w' (heap.heapSh.mono (heap.heapSh.below f1 hb) fun b hlt => Nat.lt_of_lt_of_le hlt hb.size) (heap.heapSh.mono (heap.heapSh.below g1 hb) fun b hlt => Nat.lt_of_lt_of_le hlt hb.size)
  have K2 : ∀ (w' : World), Below w.heap.size w w' → Calls Tryz.prog 36 #[.slice a2 x2.length c2, .slice a2' x2.length c2'] w' fun e w'' => e = .returned (.bool true) ∧ Below w'.heap.size w' w'' :=
    fun w' hb => ints.eq_any x2 _ _ w' (Sh.int.slice.mono (Sh.int.slice.below f2 hb) fun b hlt => Nat.lt_of_lt_of_le hlt hb.size) (Sh.int.slice.mono (Sh.int.slice.below g2 hb) fun b hlt => Nat.lt_of_lt_of_le hlt hb.size)
  have K3 : ∀ (w' : World), Below w.heap.size w w' → Calls Tryz.prog 37 #[.slice a3 x3.length c3, .slice a3' x3.length c3'] w' fun e w'' => e = .returned (.bool true) ∧ Below w'.heap.size w' w'' :=
    fun w' hb => call.eqS_any x3 _ _ w' (call.callSh.slice.mono (call.callSh.slice.below f3 hb) fun b hlt => Nat.lt_of_lt_of_le hlt hb.size) (call.callSh.slice.mono (call.callSh.slice.below g3 hb) fun b hlt => Nat.lt_of_lt_of_le hlt hb.size)
  have K4 : ∀ (w' : World), Below w.heap.size w w' → Calls Tryz.prog 36 #[.slice a4 x4.length c4, .slice a4' x4.length c4'] w' fun e w'' => e = .returned (.bool true) ∧ Below w'.heap.size w' w'' :=
    fun w' hb => ints.eq_any x4 _ _ w' (Sh.int.slice.mono (Sh.int.slice.below f4 hb) fun b hlt => Nat.lt_of_lt_of_le hlt hb.size) (Sh.int.slice.mono (Sh.int.slice.below g4 hb) fun b hlt => Nat.lt_of_lt_of_le hlt hb.size)
  clear f0 g0 f1 g1 f2 g2 f3 g3 f4 g4
  go_enter Tryz.func9, Tryz.ntmps9
  go_wp2_with fail
  refine (K0 _ (((Below.refl _ _).alloc (Nat.le_refl _) _).alloc (by simp) _)).mono ?_
  rintro e w1 ⟨rfl, hb⟩
  have B1 : Hid (Below w.heap.size w w1) := (((Below.refl _ _).alloc (Nat.le_refl _) _).alloc (by simp) _).trans (hb.mono (by simp; omega))
  have z1 : w.heap.size + 2 ≤ w1.heap.size := Nat.le_trans (by simp) hb.size
  have ba1_1 : w1.cell? ⟨w.heap.size, 1, none⟩ = some (u1_0) := (hb.cell (p := ⟨w.heap.size, 1, none⟩) (by simp; omega)).trans (by simp)
  have bb1_1 : w1.cell? ⟨w.heap.size + 1, 1, none⟩ = some (u1_0') := (hb.cell (p := ⟨w.heap.size + 1, 1, none⟩) (by simp)).trans (by simp)
  have ba1_2 : w1.cell? ⟨w.heap.size, 2, none⟩ = some (u1_1) := (hb.cell (p := ⟨w.heap.size, 2, none⟩) (by simp; omega)).trans (by simp)
  have bb1_2 : w1.cell? ⟨w.heap.size + 1, 2, none⟩ = some (u1_1') := (hb.cell (p := ⟨w.heap.size + 1, 2, none⟩) (by simp)).trans (by simp)
  have ba1_3 : w1.cell? ⟨w.heap.size, 3, none⟩ = some (u1_2) := (hb.cell (p := ⟨w.heap.size, 3, none⟩) (by simp; omega)).trans (by simp)
  have bb1_3 : w1.cell? ⟨w.heap.size + 1, 3, none⟩ = some (u1_2') := (hb.cell (p := ⟨w.heap.size + 1, 3, none⟩) (by simp)).trans (by simp)
  have ba1_4 : w1.cell? ⟨w.heap.size, 4, none⟩ = some (u1_3) := (hb.cell (p := ⟨w.heap.size, 4, none⟩) (by simp; omega)).trans (by simp)
  have bb1_4 : w1.cell? ⟨w.heap.size + 1, 4, none⟩ = some (u1_3') := (hb.cell (p := ⟨w.heap.size + 1, 4, none⟩) (by simp)).trans (by simp)
  have ba1_5 : w1.cell? ⟨w.heap.size, 5, none⟩ = some (.slice a2 x2.length c2) := (hb.cell (p := ⟨w.heap.size, 5, none⟩) (by simp; omega)).trans (by simp)
  have bb1_5 : w1.cell? ⟨w.heap.size + 1, 5, none⟩ = some (.slice a2' x2.length c2') := (hb.cell (p := ⟨w.heap.size + 1, 5, none⟩) (by simp)).trans (by simp)
  have ba1_6 : w1.cell? ⟨w.heap.size, 6, none⟩ = some (.slice a3 x3.length c3) := (hb.cell (p := ⟨w.heap.size, 6, none⟩) (by simp; omega)).trans (by simp)
  have bb1_6 : w1.cell? ⟨w.heap.size + 1, 6, none⟩ = some (.slice a3' x3.length c3') := (hb.cell (p := ⟨w.heap.size + 1, 6, none⟩) (by simp)).trans (by simp)
  have ba1_7 : w1.cell? ⟨w.heap.size, 7, none⟩ = some (.slice a4 x4.length c4) := (hb.cell (p := ⟨w.heap.size, 7, none⟩) (by simp; omega)).trans (by simp)
  have bb1_7 : w1.cell? ⟨w.heap.size + 1, 7, none⟩ = some (.slice a4' x4.length c4') := (hb.cell (p := ⟨w.heap.size + 1, 7, none⟩) (by simp)).trans (by simp)
  have ba1_8 : w1.cell? ⟨w.heap.size, 8, none⟩ = some (.int .i64 x5) := (hb.cell (p := ⟨w.heap.size, 8, none⟩) (by simp; omega)).trans (by simp)
  have bb1_8 : w1.cell? ⟨w.heap.size + 1, 8, none⟩ = some (.int .i64 x5) := (hb.cell (p := ⟨w.heap.size + 1, 8, none⟩) (by simp)).trans (by simp)
  have ba1_9 : w1.cell? ⟨w.heap.size, 9, none⟩ = some (.bool x6) := (hb.cell (p := ⟨w.heap.size, 9, none⟩) (by simp; omega)).trans (by simp)
  have bb1_9 : w1.cell? ⟨w.heap.size + 1, 9, none⟩ = some (.bool x6) := (hb.cell (p := ⟨w.heap.size + 1, 9, none⟩) (by simp)).trans (by simp)
  clear hb K0
  go_wp2_with fail
  refine (K1 _ B1.out).mono ?_
  rintro e w2 ⟨rfl, hb⟩
  have B2 : Hid (Below w.heap.size w w2) := B1.out.trans (hb.mono B1.out.size)
  have z2 : w.heap.size + 2 ≤ w2.heap.size := Nat.le_trans z1 hb.size
  have ba2_5 : w2.cell? ⟨w.heap.size, 5, none⟩ = some (.slice a2 x2.length c2) := (hb.cell (p := ⟨w.heap.size, 5, none⟩) (by simp; omega)).trans ba1_5
  have bb2_5 : w2.cell? ⟨w.heap.size + 1, 5, none⟩ = some (.slice a2' x2.length c2') := (hb.cell (p := ⟨w.heap.size + 1, 5, none⟩) (by simp; omega)).trans bb1_5
  have ba2_6 : w2.cell? ⟨w.heap.size, 6, none⟩ = some (.slice a3 x3.length c3) := (hb.cell (p := ⟨w.heap.size, 6, none⟩) (by simp; omega)).trans ba1_6
  have bb2_6 : w2.cell? ⟨w.heap.size + 1, 6, none⟩ = some (.slice a3' x3.length c3') := (hb.cell (p := ⟨w.heap.size + 1, 6, none⟩) (by simp; omega)).trans bb1_6
  have ba2_7 : w2.cell? ⟨w.heap.size, 7, none⟩ = some (.slice a4 x4.length c4) := (hb.cell (p := ⟨w.heap.size, 7, none⟩) (by simp; omega)).trans ba1_7
  have bb2_7 : w2.cell? ⟨w.heap.size + 1, 7, none⟩ = some (.slice a4' x4.length c4') := (hb.cell (p := ⟨w.heap.size + 1, 7, none⟩) (by simp; omega)).trans bb1_7
  have ba2_8 : w2.cell? ⟨w.heap.size, 8, none⟩ = some (.int .i64 x5) := (hb.cell (p := ⟨w.heap.size, 8, none⟩) (by simp; omega)).trans ba1_8
  have bb2_8 : w2.cell? ⟨w.heap.size + 1, 8, none⟩ = some (.int .i64 x5) := (hb.cell (p := ⟨w.heap.size + 1, 8, none⟩) (by simp; omega)).trans bb1_8
  have ba2_9 : w2.cell? ⟨w.heap.size, 9, none⟩ = some (.bool x6) := (hb.cell (p := ⟨w.heap.size, 9, none⟩) (by simp; omega)).trans ba1_9
  have bb2_9 : w2.cell? ⟨w.heap.size + 1, 9, none⟩ = some (.bool x6) := (hb.cell (p := ⟨w.heap.size + 1, 9, none⟩) (by simp; omega)).trans bb1_9
  clear ba1_1 bb1_1 ba1_2 bb1_2 ba1_3 bb1_3 ba1_4 bb1_4 ba1_5 bb1_5 ba1_6 bb1_6 ba1_7 bb1_7 ba1_8 bb1_8 ba1_9 bb1_9 z1 B1
  clear hb K1
  go_wp2_with fail
  refine (K2 _ B2.out).mono ?_
  rintro e w3 ⟨rfl, hb⟩
  have B3 : Hid (Below w.heap.size w w3) := B2.out.trans (hb.mono B2.out.size)
  have z3 : w.heap.size + 2 ≤ w3.heap.size := Nat.le_trans z2 hb.size
  have ba3_6 : w3.cell? ⟨w.heap.size, 6, none⟩ = some (.slice a3 x3.length c3) := (hb.cell (p := ⟨w.heap.size, 6, none⟩) (by simp; omega)).trans ba2_6
  have bb3_6 : w3.cell? ⟨w.heap.size + 1, 6, none⟩ = some (.slice a3' x3.length c3') := (hb.cell (p := ⟨w.heap.size + 1, 6, none⟩) (by simp; omega)).trans bb2_6
  have ba3_7 : w3.cell? ⟨w.heap.size, 7, none⟩ = some (.slice a4 x4.length c4) := (hb.cell (p := ⟨w.heap.size, 7, none⟩) (by simp; omega)).trans ba2_7
  have bb3_7 : w3.cell? ⟨w.heap.size + 1, 7, none⟩ = some (.slice a4' x4.length c4') := (hb.cell (p := ⟨w.heap.size + 1, 7, none⟩) (by simp; omega)).trans bb2_7
  have ba3_8 : w3.cell? ⟨w.heap.size, 8, none⟩ = some (.int .i64 x5) := (hb.cell (p := ⟨w.heap.size, 8, none⟩) (by simp; omega)).trans ba2_8
  have bb3_8 : w3.cell? ⟨w.heap.size + 1, 8, none⟩ = some (.int .i64 x5) := (hb.cell (p := ⟨w.heap.size + 1, 8, none⟩) (by simp; omega)).trans bb2_8
  have ba3_9 : w3.cell? ⟨w.heap.size, 9, none⟩ = some (.bool x6) := (hb.cell (p := ⟨w.heap.size, 9, none⟩) (by simp; omega)).trans ba2_9
  have bb3_9 : w3.cell? ⟨w.heap.size + 1, 9, none⟩ = some (.bool x6) := (hb.cell (p := ⟨w.heap.size + 1, 9, none⟩) (by simp; omega)).trans bb2_9
  clear ba2_5 bb2_5 ba2_6 bb2_6 ba2_7 bb2_7 ba2_8 bb2_8 ba2_9 bb2_9 z2 B2
  clear hb K2
  go_wp2_with fail
  refine (K3 _ B3.out).mono ?_
  rintro e w4 ⟨rfl, hb⟩
  have B4 : Hid (Below w.heap.size w w4) := B3.out.trans (hb.mono B3.out.size)
  have z4 : w.heap.size + 2 ≤ w4.heap.size := Nat.le_trans z3 hb.size
  have ba4_7 : w4.cell? ⟨w.heap.size, 7, none⟩ = some (.slice a4 x4.length c4) := (hb.cell (p := ⟨w.heap.size, 7, none⟩) (by simp; omega)).trans ba3_7
  have bb4_7 : w4.cell? ⟨w.heap.size + 1, 7, none⟩ = some (.slice a4' x4.length c4') := (hb.cell (p := ⟨w.heap.size + 1, 7, none⟩) (by simp; omega)).trans bb3_7
  have ba4_8 : w4.cell? ⟨w.heap.size, 8, none⟩ = some (.int .i64 x5) := (hb.cell (p := ⟨w.heap.size, 8, none⟩) (by simp; omega)).trans ba3_8
  have bb4_8 : w4.cell? ⟨w.heap.size + 1, 8, none⟩ = some (.int .i64 x5) := (hb.cell (p := ⟨w.heap.size + 1, 8, none⟩) (by simp; omega)).trans bb3_8
  have ba4_9 : w4.cell? ⟨w.heap.size, 9, none⟩ = some (.bool x6) := (hb.cell (p := ⟨w.heap.size, 9, none⟩) (by simp; omega)).trans ba3_9
  have bb4_9 : w4.cell? ⟨w.heap.size + 1, 9, none⟩ = some (.bool x6) := (hb.cell (p := ⟨w.heap.size + 1, 9, none⟩) (by simp; omega)).trans bb3_9
  clear ba3_6 bb3_6 ba3_7 bb3_7 ba3_8 bb3_8 ba3_9 bb3_9 z3 B3
  clear hb K3
  go_wp2_with fail
  refine (K4 _ B4.out).mono ?_
  rintro e w5 ⟨rfl, hb⟩
  have B5 : Hid (Below w.heap.size w w5) := B4.out.trans (hb.mono B4.out.size)
  have z5 : w.heap.size + 2 ≤ w5.heap.size := Nat.le_trans z4 hb.size
  have ba5_8 : w5.cell? ⟨w.heap.size, 8, none⟩ = some (.int .i64 x5) := (hb.cell (p := ⟨w.heap.size, 8, none⟩) (by simp; omega)).trans ba4_8
  have bb5_8 : w5.cell? ⟨w.heap.size + 1, 8, none⟩ = some (.int .i64 x5) := (hb.cell (p := ⟨w.heap.size + 1, 8, none⟩) (by simp; omega)).trans bb4_8
  have ba5_9 : w5.cell? ⟨w.heap.size, 9, none⟩ = some (.bool x6) := (hb.cell (p := ⟨w.heap.size, 9, none⟩) (by simp; omega)).trans ba4_9
  have bb5_9 : w5.cell? ⟨w.heap.size + 1, 9, none⟩ = some (.bool x6) := (hb.cell (p := ⟨w.heap.size + 1, 9, none⟩) (by simp; omega)).trans bb4_9
  clear ba4_7 bb4_7 ba4_8 bb4_8 ba4_9 bb4_9 z4 B4
  clear hb K4
  go_wp2
  go_ret
  exact ⟨rfl, B5.out⟩


end Go.Proofs.YtjibmpebebephaaGreatDoor.vm

namespace Go.Proofs.YtjibmpebebephaaGreatDoor.heap
open Go.RowKit Go.Proofs.YtjibmpebebephaaGreatDoor.rose Go.Proofs.YtjibmpebebephaaGreatDoor
set_option linter.unusedVariables false

abbrev heapSp : Sh HeapD := Sh.int.sslice.spair (Sh.int.spair (Sh.int.spair Sh.int))

theorem heapp_rep {w : World} {S : Nat → Prop} {cs : List Value} {T : HeapD} (h : heapSp.rep w S cs T) : heapSh.rep w S cs T := (fun h => spair_rep (fun h => ints.intsp_rep h) (fun h => spair_rep (fun h => h) (fun h => spair_rep (fun h => h) (fun h => h) h) h) h) h
theorem heapp_shut {w : World} {S : Nat → Prop} {x0 : List Int} {x1 : Int} {x2 : Int} {x3 : Int} {a0 : Option Addr} {c0 : Nat} (h0 : Sh.int.sslice.rep w S [.slice a0 x0.length c0] x0) (h1 : -9223372036854775808 ≤ x1 ∧ x1 ≤ 9223372036854775807) (h2 : -9223372036854775808 ≤ x2 ∧ x2 ≤ 9223372036854775807) (h3 : -9223372036854775808 ≤ x3 ∧ x3 ≤ 9223372036854775807) : heapSp.rep w S [.slice a0 x0.length c0, .int .i64 x1, .int .i64 x2, .int .i64 x3] ((x0, x1, x2, x3)) :=
  ⟨[_], _, S, (fun _ => False), rfl, fun b h => h, fun b h => h.elim, fun b h1 h2 => h2.elim, h0, [_], _, (fun _ => False), (fun _ => False), rfl, fun b h => h.elim, fun b h => h.elim, fun b h => h.elim, ⟨rfl, h1⟩, [_], _, (fun _ => False), (fun _ => False), rfl, fun b h => h.elim, fun b h => h.elim, fun b h => h.elim, ⟨rfl, h2⟩, ⟨rfl, h3⟩⟩
theorem heapp_shutv {w : World} {S : Nat → Prop} {x0 : List Int} {x1 : Int} {x2 : Int} {x3 : Int} {v0 : Value} (h0 : Sh.int.sslice.rep w S [v0] x0) (h1 : -9223372036854775808 ≤ x1 ∧ x1 ≤ 9223372036854775807) (h2 : -9223372036854775808 ≤ x2 ∧ x2 ≤ 9223372036854775807) (h3 : -9223372036854775808 ≤ x3 ∧ x3 ≤ 9223372036854775807) : heapSp.rep w S [v0, .int .i64 x1, .int .i64 x2, .int .i64 x3] ((x0, x1, x2, x3)) :=
  ⟨[_], _, S, (fun _ => False), rfl, fun b h => h, fun b h => h.elim, fun b h1 h2 => h2.elim, h0, [_], _, (fun _ => False), (fun _ => False), rfl, fun b h => h.elim, fun b h => h.elim, fun b h => h.elim, ⟨rfl, h1⟩, [_], _, (fun _ => False), (fun _ => False), rfl, fun b h => h.elim, fun b h => h.elim, fun b h => h.elim, ⟨rfl, h2⟩, ⟨rfl, h3⟩⟩
theorem heapp_open {w : World} {S : Nat → Prop} {cs : List Value} {T : HeapD} (h : heapSp.rep w S cs T) : ∃ x0 a0 c0 x1 x2 x3, T = (x0, x1, x2, x3) ∧ cs = [.slice a0 x0.length c0, .int .i64 x1, .int .i64 x2, .int .i64 x3] ∧ Sh.int.sslice.rep w S [.slice a0 x0.length c0] x0 ∧ (-9223372036854775808 ≤ x1 ∧ x1 ≤ 9223372036854775807) ∧ (-9223372036854775808 ≤ x2 ∧ x2 ≤ 9223372036854775807) ∧ (-9223372036854775808 ≤ x3 ∧ x3 ≤ 9223372036854775807) := by
  obtain ⟨x0, x1, x2, x3⟩ := T
  obtain ⟨_, _, A0, B0, rfl, ua0, ub0, ue0, h0, _, _, A1, B1, rfl, ua1, ub1, ue1, ⟨rfl, h1⟩, _, _, A2, B2, rfl, ua2, ub2, ue2, ⟨rfl, h2⟩, ⟨rfl, h3⟩⟩ := h
  obtain ⟨a0, c0, rfl⟩ := sslice_cells h0
  exact ⟨_, _, _, _, _, _, rfl, rfl, Sh.int.sslice.mono h0 fun b g => ua0 b g, h1, h2, h3⟩

end Go.Proofs.YtjibmpebebephaaGreatDoor.heap

namespace Go.Proofs.YtjibmpebebephaaGreatDoor.call
open Go.RowKit Go.Proofs.YtjibmpebebephaaGreatDoor.rose Go.Proofs.YtjibmpebebephaaGreatDoor
set_option linter.unusedVariables false

abbrev callSp : Sh CallD := callSh
theorem callp_rep {w : World} {S : Nat → Prop} {cs : List Value} {T : CallD} (h : callSp.rep w S cs T) : callSh.rep w S cs T := h
theorem callps_rep {w : World} {S : Nat → Prop} {cs : List Value} {ks : List CallD} (h : callSp.sslice.rep w S cs ks) : callSh.slice.rep w S cs ks := sslice_rep (A := callSp) (B := callSh) rfl (fun h => h) h
theorem callp_shut {w : World} {S : Nat → Prop} {x0 : Int} {x1 : Int} {x2 : Int} (h0 : -9223372036854775808 ≤ x0 ∧ x0 ≤ 9223372036854775807) (h1 : -9223372036854775808 ≤ x1 ∧ x1 ≤ 9223372036854775807) (h2 : -9223372036854775808 ≤ x2 ∧ x2 ≤ 9223372036854775807) : callSp.rep w S [.int .i64 x0, .int .i64 x1, .int .i64 x2] ((x0, x1, x2)) := call_shut h0 h1 h2
theorem callp_shutv {w : World} {S : Nat → Prop} {x0 : Int} {x1 : Int} {x2 : Int} (h0 : -9223372036854775808 ≤ x0 ∧ x0 ≤ 9223372036854775807) (h1 : -9223372036854775808 ≤ x1 ∧ x1 ≤ 9223372036854775807) (h2 : -9223372036854775808 ≤ x2 ∧ x2 ≤ 9223372036854775807) : callSp.rep w S [.int .i64 x0, .int .i64 x1, .int .i64 x2] ((x0, x1, x2)) := call_shut h0 h1 h2
theorem callp_open {w : World} {S : Nat → Prop} {cs : List Value} {T : CallD} (h : callSp.rep w S cs T) : ∃ x0 x1 x2, T = (x0, x1, x2) ∧ cs = [.int .i64 x0, .int .i64 x1, .int .i64 x2] ∧ (-9223372036854775808 ≤ x0 ∧ x0 ≤ 9223372036854775807) ∧ (-9223372036854775808 ≤ x1 ∧ x1 ≤ 9223372036854775807) ∧ (-9223372036854775808 ≤ x2 ∧ x2 ≤ 9223372036854775807) := call_open h
theorem callps_open {w : World} {S : Nat → Prop} {v : Value} {ks : List CallD} (h : callSp.sslice.rep w S [v] ks) : ∃ a cap css F, v = .slice a ks.length cap ∧ ks.length ≤ cap ∧ cap ≤ maxLen ∧ (a = none → cap = 0) ∧ SRow callSp w S a css F ks := by
  obtain ⟨a, cap, css, F, e, h1, h2, h3, h4⟩ := h
  exact ⟨a, cap, css, F, by simpa using e, h1, h2, h3, h4⟩

end Go.Proofs.YtjibmpebebephaaGreatDoor.call

namespace Go.Proofs.YtjibmpebebephaaGreatDoor.vm
open Go.RowKit Go.Proofs.YtjibmpebebephaaGreatDoor.rose Go.Proofs.YtjibmpebebephaaGreatDoor
set_option linter.unusedVariables false

abbrev vmSp : Sh VmD := fun.funSp.sslice.spair (heap.heapSp.spair (Sh.int.sslice.spair (call.callSp.sslice.spair (Sh.int.sslice.spair (Sh.int.spair Sh.bool)))))

theorem vmp_rep {w : World} {S : Nat → Prop} {cs : List Value} {T : VmD} (h : vmSp.rep w S cs T) : vmSh.rep w S cs T := (fun h => spair_rep (fun h => fun.funps_rep h) (fun h => spair_rep (fun h => heap.heapp_rep h) (fun h => spair_rep (fun h => ints.intsp_rep h) (fun h => spair_rep (fun h => call.callps_rep h) (fun h => spair_rep (fun h => ints.intsp_rep h) (fun h => spair_rep (fun h => h) (fun h => h) h) h) h) h) h) h) h
theorem vmp_shut {w : World} {S : Nat → Prop} {S0 S1 S2 S3 S4 : Nat → Prop} {x0 : List fun.FunD} {x1 : heap.HeapD} {x2 : List Int} {x3 : List call.CallD} {x4 : List Int} {x5 : Int} {x6 : Bool} {u1_0 : Value} {u1_1 : Value} {u1_2 : Value} {u1_3 : Value} {a0 : Option Addr} {c0 : Nat} {a2 : Option Addr} {c2 : Nat} {a3 : Option Addr} {c3 : Nat} {a4 : Option Addr} {c4 : Nat} (h0 : fun.funSp.sslice.rep w S0 [.slice a0 x0.length c0] x0) (h1 : heap.heapSp.rep w S1 [u1_0, u1_1, u1_2, u1_3] x1) (h2 : Sh.int.sslice.rep w S2 [.slice a2 x2.length c2] x2) (h3 : call.callSp.sslice.rep w S3 [.slice a3 x3.length c3] x3) (h4 : Sh.int.sslice.rep w S4 [.slice a4 x4.length c4] x4) (h5 : -9223372036854775808 ≤ x5 ∧ x5 ≤ 9223372036854775807) (s0 : ∀ b, S0 b → S b) (s1 : ∀ b, S1 b → S b) (s2 : ∀ b, S2 b → S b) (s3 : ∀ b, S3 b → S b) (s4 : ∀ b, S4 b → S b) (d0_1 : ∀ b, S0 b → ¬ S1 b) (d0_2 : ∀ b, S0 b → ¬ S2 b) (d0_3 : ∀ b, S0 b → ¬ S3 b) (d0_4 : ∀ b, S0 b → ¬ S4 b) (d1_2 : ∀ b, S1 b → ¬ S2 b) (d1_3 : ∀ b, S1 b → ¬ S3 b) (d1_4 : ∀ b, S1 b → ¬ S4 b) (d2_3 : ∀ b, S2 b → ¬ S3 b) (d2_4 : ∀ b, S2 b → ¬ S4 b) (d3_4 : ∀ b, S3 b → ¬ S4 b) : vmSp.rep w S [.slice a0 x0.length c0, u1_0, u1_1, u1_2, u1_3, .slice a2 x2.length c2, .slice a3 x3.length c3, .slice a4 x4.length c4, .int .i64 x5, .bool x6] ((x0, x1, x2, x3, x4, x5, x6)) :=
  vmSp.mono (S := fun b => S0 b ∨ S1 b ∨ S2 b ∨ S3 b ∨ S4 b) ⟨[_], _, S0, fun b => S1 b ∨ S2 b ∨ S3 b ∨ S4 b, rfl, fun b h => Or.inl h, fun b h => Or.inr h, fun b h1 h2 => h2.elim (fun g => d0_1 b h1 g) (fun g => g.elim (fun g => d0_2 b h1 g) (fun g => g.elim (fun g => d0_3 b h1 g) (fun g => d0_4 b h1 g))), h0, [_, _, _, _], _, S1, fun b => S2 b ∨ S3 b ∨ S4 b, rfl, fun b h => Or.inl h, fun b h => Or.inr h, fun b h1 h2 => h2.elim (fun g => d1_2 b h1 g) (fun g => g.elim (fun g => d1_3 b h1 g) (fun g => d1_4 b h1 g)), h1, [_], _, S2, fun b => S3 b ∨ S4 b, rfl, fun b h => Or.inl h, fun b h => Or.inr h, fun b h1 h2 => h2.elim (fun g => d2_3 b h1 g) (fun g => d2_4 b h1 g), h2, [_], _, S3, S4, rfl, fun b h => Or.inl h, fun b h => Or.inr h, fun b h1 h2 => d3_4 b h1 h2, h3, [_], _, S4, fun _ => False, rfl, fun b h => h, fun b h => h.elim, fun b h1 h2 => h2.elim, h4, [_], _, (fun _ => False), fun _ => False, rfl, fun b h => h.elim, fun b h => h, fun b h => h.elim, ⟨rfl, h5⟩, rfl⟩ fun b h => h.elim (fun g => s0 b g) (fun g => g.elim (fun g => s1 b g) (fun g => g.elim (fun g => s2 b g) (fun g => g.elim (fun g => s3 b g) (fun g => s4 b g))))
theorem vmp_shutv {w : World} {S : Nat → Prop} {S0 S1 S2 S3 S4 : Nat → Prop} {x0 : List fun.FunD} {x1 : heap.HeapD} {x2 : List Int} {x3 : List call.CallD} {x4 : List Int} {x5 : Int} {x6 : Bool} {u1_0 : Value} {u1_1 : Value} {u1_2 : Value} {u1_3 : Value} {v0 : Value} {v2 : Value} {v3 : Value} {v4 : Value} (h0 : fun.funSp.sslice.rep w S0 [v0] x0) (h1 : heap.heapSp.rep w S1 [u1_0, u1_1, u1_2, u1_3] x1) (h2 : Sh.int.sslice.rep w S2 [v2] x2) (h3 : call.callSp.sslice.rep w S3 [v3] x3) (h4 : Sh.int.sslice.rep w S4 [v4] x4) (h5 : -9223372036854775808 ≤ x5 ∧ x5 ≤ 9223372036854775807) (s0 : ∀ b, S0 b → S b) (s1 : ∀ b, S1 b → S b) (s2 : ∀ b, S2 b → S b) (s3 : ∀ b, S3 b → S b) (s4 : ∀ b, S4 b → S b) (d0_1 : ∀ b, S0 b → ¬ S1 b) (d0_2 : ∀ b, S0 b → ¬ S2 b) (d0_3 : ∀ b, S0 b → ¬ S3 b) (d0_4 : ∀ b, S0 b → ¬ S4 b) (d1_2 : ∀ b, S1 b → ¬ S2 b) (d1_3 : ∀ b, S1 b → ¬ S3 b) (d1_4 : ∀ b, S1 b → ¬ S4 b) (d2_3 : ∀ b, S2 b → ¬ S3 b) (d2_4 : ∀ b, S2 b → ¬ S4 b) (d3_4 : ∀ b, S3 b → ¬ S4 b) : vmSp.rep w S [v0, u1_0, u1_1, u1_2, u1_3, v2, v3, v4, .int .i64 x5, .bool x6] ((x0, x1, x2, x3, x4, x5, x6)) :=
  vmSp.mono (S := fun b => S0 b ∨ S1 b ∨ S2 b ∨ S3 b ∨ S4 b) ⟨[_], _, S0, fun b => S1 b ∨ S2 b ∨ S3 b ∨ S4 b, rfl, fun b h => Or.inl h, fun b h => Or.inr h, fun b h1 h2 => h2.elim (fun g => d0_1 b h1 g) (fun g => g.elim (fun g => d0_2 b h1 g) (fun g => g.elim (fun g => d0_3 b h1 g) (fun g => d0_4 b h1 g))), h0, [_, _, _, _], _, S1, fun b => S2 b ∨ S3 b ∨ S4 b, rfl, fun b h => Or.inl h, fun b h => Or.inr h, fun b h1 h2 => h2.elim (fun g => d1_2 b h1 g) (fun g => g.elim (fun g => d1_3 b h1 g) (fun g => d1_4 b h1 g)), h1, [_], _, S2, fun b => S3 b ∨ S4 b, rfl, fun b h => Or.inl h, fun b h => Or.inr h, fun b h1 h2 => h2.elim (fun g => d2_3 b h1 g) (fun g => d2_4 b h1 g), h2, [_], _, S3, S4, rfl, fun b h => Or.inl h, fun b h => Or.inr h, fun b h1 h2 => d3_4 b h1 h2, h3, [_], _, S4, fun _ => False, rfl, fun b h => h, fun b h => h.elim, fun b h1 h2 => h2.elim, h4, [_], _, (fun _ => False), fun _ => False, rfl, fun b h => h.elim, fun b h => h, fun b h => h.elim, ⟨rfl, h5⟩, rfl⟩ fun b h => h.elim (fun g => s0 b g) (fun g => g.elim (fun g => s1 b g) (fun g => g.elim (fun g => s2 b g) (fun g => g.elim (fun g => s3 b g) (fun g => s4 b g))))
theorem vmp_open {w : World} {S : Nat → Prop} {cs : List Value} {T : VmD} (h : vmSp.rep w S cs T) : ∃ x0 a0 c0 x1 u1_0 u1_1 u1_2 u1_3 x2 a2 c2 x3 a3 c3 x4 a4 c4 x5 x6, ∃ (S0 S1 S2 S3 S4 : Nat → Prop), T = (x0, x1, x2, x3, x4, x5, x6) ∧ cs = [.slice a0 x0.length c0, u1_0, u1_1, u1_2, u1_3, .slice a2 x2.length c2, .slice a3 x3.length c3, .slice a4 x4.length c4, .int .i64 x5, .bool x6] ∧ fun.funSp.sslice.rep w S0 [.slice a0 x0.length c0] x0 ∧ heap.heapSp.rep w S1 [u1_0, u1_1, u1_2, u1_3] x1 ∧ Sh.int.sslice.rep w S2 [.slice a2 x2.length c2] x2 ∧ call.callSp.sslice.rep w S3 [.slice a3 x3.length c3] x3 ∧ Sh.int.sslice.rep w S4 [.slice a4 x4.length c4] x4 ∧ (-9223372036854775808 ≤ x5 ∧ x5 ≤ 9223372036854775807) ∧ (∀ b, S0 b → S b) ∧ (∀ b, S1 b → S b) ∧ (∀ b, S2 b → S b) ∧ (∀ b, S3 b → S b) ∧ (∀ b, S4 b → S b) ∧ (∀ b, S0 b → ¬ S1 b) ∧ (∀ b, S0 b → ¬ S2 b) ∧ (∀ b, S0 b → ¬ S3 b) ∧ (∀ b, S0 b → ¬ S4 b) ∧ (∀ b, S1 b → ¬ S2 b) ∧ (∀ b, S1 b → ¬ S3 b) ∧ (∀ b, S1 b → ¬ S4 b) ∧ (∀ b, S2 b → ¬ S3 b) ∧ (∀ b, S2 b → ¬ S4 b) ∧ (∀ b, S3 b → ¬ S4 b) := by
  obtain ⟨x0, x1, x2, x3, x4, x5, x6⟩ := T
  obtain ⟨_, _, A0, B0, rfl, ua0, ub0, ue0, h0, _, _, A1, B1, rfl, ua1, ub1, ue1, h1, _, _, A2, B2, rfl, ua2, ub2, ue2, h2, _, _, A3, B3, rfl, ua3, ub3, ue3, h3, _, _, A4, B4, rfl, ua4, ub4, ue4, h4, _, _, A5, B5, rfl, ua5, ub5, ue5, ⟨rfl, h5⟩, rfl⟩ := h
  obtain ⟨a0, c0, rfl⟩ := sslice_cells h0
  obtain ⟨u1_0, u1_1, u1_2, u1_3, rfl⟩ := heap.heap_list (heap.heapp_rep h1)
  obtain ⟨a2, c2, rfl⟩ := sslice_cells h2
  obtain ⟨a3, c3, rfl⟩ := sslice_cells h3
  obtain ⟨a4, c4, rfl⟩ := sslice_cells h4
  exact ⟨_, _, _, _, _, _, _, _, _, _, _, _, _, _, _, _, _, _, _, A0, A1, A2, A3, A4, rfl, rfl, h0, h1, h2, h3, h4, h5, fun b g => ua0 b g, fun b g => ub0 b (ua1 b g), fun b g => ub0 b (ub1 b (ua2 b g)), fun b g => ub0 b (ub1 b (ub2 b (ua3 b g))), fun b g => ub0 b (ub1 b (ub2 b (ub3 b (ua4 b g)))), fun b g k => ue0 b g (ua1 b k), fun b g k => ue0 b g (ub1 b (ua2 b k)), fun b g k => ue0 b g (ub1 b (ub2 b (ua3 b k))), fun b g k => ue0 b g (ub1 b (ub2 b (ub3 b (ua4 b k)))), fun b g k => ue1 b g (ua2 b k), fun b g k => ue1 b g (ub2 b (ua3 b k)), fun b g k => ue1 b g (ub2 b (ub3 b (ua4 b k))), fun b g k => ue2 b g (ua3 b k), fun b g k => ue2 b g (ub3 b (ua4 b k)), fun b g k => ue3 b g (ua4 b k)⟩

end Go.Proofs.YtjibmpebebephaaGreatDoor.vm

namespace Go.Proofs.YtjibmpebebephaaGreatDoor.ints
open Go.RowKit Go.Proofs.YtjibmpebebephaaGreatDoor.rose Go.Proofs.YtjibmpebebephaaGreatDoor
set_option linter.unusedVariables false

/-- Marks: the numbers from k on. -/
def mks (k : Int) : List Int → List Int
  | [] => []
  | _ :: xs => k :: mks (k + 1) xs
theorem mks_length (k : Int) (ks : List Int) : (mks k ks).length = ks.length := by
  induction ks generalizing k with
  | nil => rfl
  | cons x xs ih => simp [mks, ih]
theorem mks_get {k : Int} {ks : List Int} {i : Nat} (h : i < (mks k ks).length) : (mks k ks)[i] = k + (i : Nat) := by
  induction ks generalizing k i with
  | nil => simp [mks] at h
  | cons x xs ih =>
    cases i with
    | zero => simp [mks]
    | succ i =>
      simp only [mks, List.getElem_cons_succ]
      rw [ih]
      omega

def mid (k : Int) (ks : List Int) (i : Nat) : List Int := (mks k ks).take i ++ ks.drop i
theorem mid_length (k : Int) (ks : List Int) {i : Nat} (h : i ≤ ks.length) : (mid k ks i).length = ks.length := by
  simp [mid, mks_length]; omega
theorem mid_zero (k : Int) (ks : List Int) : mid k ks 0 = ks := by simp [mid]
theorem mid_full (k : Int) (ks : List Int) : mid k ks ks.length = mks k ks := by
  unfold mid; rw [List.take_of_length_le (by rw [mks_length]; exact Nat.le_refl _)]; simp
theorem mid_set (k : Int) (ks : List Int) {i : Nat} (h : i < ks.length) : (mid k ks i).set i (k + (i : Nat)) = mid k ks (i + 1) := by
  unfold mid
  have hl : ((mks k ks).take i).length = i := by simp [mks_length]; omega
  rw [List.set_append, if_neg (by omega), hl, Nat.sub_self, List.drop_eq_getElem_cons h, List.set_cons_zero]
  rw [List.take_succ_eq_append_getElem (show i < (mks k ks).length by rw [mks_length]; exact h), List.append_assoc, mks_get]
  rfl

set_option maxHeartbeats 1000000 in
theorem mark_any (ks : List Int) (v : Value) (w : World) (k : Int) (S : Nat → Prop) (hk1 : 1 ≤ k) (hk2 : k + (ks.length : Nat) ≤ 1152921504606846976) (hS : ∀ b, S b → b < w.heap.size) (h : intsSp.rep w S [v] ks) :
    Calls Tryz.prog 50 #[v, .int .i64 k] w fun e w' => e = .returned (.int .i64 (k + (ks.length : Nat))) ∧ intsSp.rep w' S [v] (mks k ks) ∧ Only S w w' := by
  obtain ⟨a, cap, css, F, e, hcap, hmax, hnone, hrow⟩ := h
  obtain rfl : v = .slice a ks.length cap := by simpa using e
  have hmx : (ks.length : Int) ≤ 9223372036854775807 := by unfold maxLen at hmax; omega
  have HC : Hid (ks.length ≤ cap ∧ cap ≤ maxLen ∧ (a = none → cap = 0)) := ⟨hcap, hmax, hnone⟩
  have HS : Hid (∀ b, S b → b < w.heap.size) := hS
  have HR : Hid (SRow Sh.int w S a css F (mid k ks 0)) := by show SRow _ _ _ _ _ _ _; rw [mid_zero]; exact hrow
  clear e hcap hmax hnone hS hrow
  go_enter Tryz.func50, Tryz.ntmps50
  go_wp2
  go_loopw [1, 5] (fun v1 v5 wr => ∃ (i : Nat) (css' : Nat → List Value), i ≤ ks.length ∧ v5 = .int .i64 i ∧ v1 = .int .i64 (k + (i : Nat)) ∧ Hid (SRow Sh.int wr S a css' F (mid k ks i) ∧ Only S w wr)) (fun _ v5 _ => ks.length - (intOf v5).toNat)
  case atStart => exact ⟨0, css, Nat.zero_le _, rfl, by simp, HR.out, Only.refl _ _⟩
  case round =>
    obtain ⟨i, css', hi, rfl, rfl, HJ⟩ := hrel
    by_cases hlt : i < ks.length
    · have hlm : i < (mid k ks i).length := by rw [mid_length k ks hi]; exact hlt
      obtain ⟨b, o, rfl, hSb, hFb, hc, hfz, cur, t, hbk⟩ := HJ.out.1.at hlm
      have hrep := HJ.out.1.rep i hlm
      have hcs := hrep.1
      rw [hcs] at hc
      have e0 : wr.cell? ⟨b, o + i, none⟩ = some (.int .i64 (mid k ks i)[i]) := by have := hc 0 _ rfl; simpa [Sh.int] using this
      have NX : Hid (∃ css2, SRow Sh.int (wr.setCell ⟨b, o + i, none⟩ (.int .i64 (k + (i : Nat)))) S (some ⟨b, o, none⟩) css2 F (mid k ks (i + 1)) ∧ Only S w (wr.setCell ⟨b, o + i, none⟩ (.int .i64 (k + (i : Nat))))) := by
        have hT : Turned b (o + i * Sh.int.k) (o + i * Sh.int.k + Sh.int.k) wr (wr.setCell ⟨b, o + i, none⟩ (.int .i64 (k + (i : Nat)))) := Turned.set _ _ _ (by simp [Sh.int]) (by simp [Sh.int])
        have hn := HJ.out.1.turn (fun q hq => Nat.lt_of_lt_of_le (HS.out q hq) HJ.out.2.size) hlm rfl hT (Only.refl _ _) (cs := [.int .i64 (k + (i : Nat))]) (x := k + (i : Nat)) (by
          intro q v hq
          match q, hq with
          | 0, hq =>
            simp at hq; subst hq
            have := cell_set_eq (v := .int .i64 (k + (i : Nat))) e0
            simpa [Sh.int] using this
          | _ + 1, hq => simp at hq) ⟨rfl, by omega, by omega⟩
        rw [mid_set k ks hlt] at hn
        exact ⟨_, hn.1, HJ.out.2.trans hn.2⟩
      clear hrep hcs hc hbk hFb hSb
      generalize (mid k ks i)[i] = x0 at e0
      go_wp2
      go_round
      case rel => obtain ⟨css2, n1, n2⟩ := NX.out; exact ⟨i + 1, css2, by omega, by go_num, by go_num, n1, n2⟩
      case measure => simp [intOf]; omega
    · obtain rfl : i = ks.length := by omega
      have hq := HJ.out
      rw [mid_full] at hq
      go_wp2
      go_ret
      refine ⟨rfl, ?_, hq.2⟩
      have hl := mks_length k ks
      refine ⟨a, cap, css', F, by rw [hl], by rw [hl]; exact HC.out.1, HC.out.2.1, HC.out.2.2, hq.1⟩

end Go.Proofs.YtjibmpebebephaaGreatDoor.ints

namespace Go.Proofs.YtjibmpebebephaaGreatDoor.heap
open Go.RowKit Go.Proofs.YtjibmpebebephaaGreatDoor.rose Go.Proofs.YtjibmpebebephaaGreatDoor
set_option linter.unusedVariables false

/-- How many marks the slices of one take. -/
def cntT : HeapD → Nat
  | (x0, x1, x2, x3) => x0.length

def mkT (k : Int) : HeapD → HeapD
  | (x0, x1, x2, x3) => (ints.mks k x0, x1, x2, x3)

set_option maxHeartbeats 2000000 in
theorem markT_any (T : HeapD) (cs : List Value) (w : World) (k : Int) (S : Nat → Prop) (hk1 : 1 ≤ k) (hk2 : k + (cntT T : Nat) ≤ 1152921504606846976) (hS : ∀ b, S b → b < w.heap.size) (h : heapSp.rep w S cs T) :
    Calls Tryz.prog 49 #[.agg cs.toArray, .int .i64 k] w fun e w' => e = .returned (.int .i64 (k + (cntT T : Nat))) ∧ Only S w w' ∧ heapSp.rep w' S cs (mkT k T) := by
  obtain ⟨x0, a0, c0, x1, x2, x3, rfl, rfl, f0, f1, f2, f3⟩ := heapp_open h
  have HSB := heapSp.one h
  clear h HSB
  have HS : Hid (∀ b, S b → b < w.heap.size) := hS
  clear hS
  have hct : cntT ((x0, x1, x2, x3)) = x0.length := rfl
  rw [hct] at hk2 ⊢
  clear hct
  have BA : Hid (Below w.heap.size w (w.alloc (.cells #[.slice a0 x0.length c0, .int .i64 x1, .int .i64 x2, .int .i64 x3] 32))) := (Below.refl _ _).alloc (Nat.le_refl _) _
  have R0_0 : Hid (Sh.int.sslice.rep w S [.slice a0 x0.length c0] x0) := f0
  have FR : Hid ((-9223372036854775808 ≤ x1 ∧ x1 ≤ 9223372036854775807) ∧ (-9223372036854775808 ≤ x2 ∧ x2 ≤ 9223372036854775807) ∧ (-9223372036854775808 ≤ x3 ∧ x3 ≤ 9223372036854775807)) := ⟨f1, f2, f3⟩
  clear f0 f1 f2 f3
  go_enter Tryz.func49, Tryz.ntmps49
  go_wp2_with fail
  refine (ints.mark_any x0 _ _ (k) S (by omega) (by omega) (fun b hb => Nat.lt_of_lt_of_le (HS.out b ((fun b h => h) b hb)) BA.out.size) (Sh.int.sslice.on R0_0.out fun b hb => BA.out.block b (HS.out b ((fun b h => h) b hb)))).mono ?_
  rintro e w1 ⟨rfl, hr, ho⟩
  have O1 : Hid (Only S (w.alloc (.cells #[.slice a0 x0.length c0, .int .i64 x1, .int .i64 x2, .int .i64 x3] 32)) w1) := ho.mono fun b _ hb => (fun b h => h) b hb
  have R1 : Hid (Sh.int.sslice.rep w1 S [.slice a0 x0.length c0] (ints.mks k x0)) := hr
  clear ho hr
  have hx : k + (x0.length : Nat) = k + ((x0.length : Nat) : Int) := by omega
  clear hx
  go_wp2
  go_ret
  exact ⟨rfl, (Only.ofBelow BA.out).trans O1.out, heapp_shutv R1.out FR.out.1 FR.out.2.1 FR.out.2.2⟩

end Go.Proofs.YtjibmpebebephaaGreatDoor.heap
