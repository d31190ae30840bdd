/-
  The law's comparison of two Vms and of slices of them: of two that are the same it says true; nothing that was there is turned.
  What is right of a heap (chapter 17): told in plain data; no program named.
  What is come to from roots, and in which order (chapter 18): told in plain data; no program named.
-/
import Derived.Deep.RegionWith
import Derived.Test.YtjibmpebebephaaGreatDoorB1
import Derived.Test.YtjibmpebebephaaGreatDoorB2
import Derived.Test.YtjibmpebebephaaGreatDoorB3
import Derived.Test.YtjibmpebebephaaGreatDoorB4
import Derived.Test.YtjibmpebebephaaGreatDoorB5
import Derived.Test.YtjibmpebebephaaGreatDoorB6
import Derived.Test.YtjibmpebebephaaGreatDoorB7
import Derived.Test.YtjibmpebebephaaGreatDoorB8
import Derived.Test.YtjibmpebebephaaGreatDoorB9
import Derived.Test.YtjibmpebebephaaGreatDoorB10
namespace Go.Proofs.YtjibmpebebephaaGreatDoor.vm
open Go.RowKit Go.Proofs.YtjibmpebebephaaGreatDoor.rose Go.Proofs.YtjibmpebebephaaGreatDoor
set_option linter.unusedVariables false

def EqSays (T : VmD) : Prop := ∀ cs1 cs2 w, vmSh.rep w (· < w.heap.size) cs1 T → vmSh.rep w (· < w.heap.size) cs2 T →
  Calls Tryz.prog 9 #[.agg cs1.toArray, .agg cs2.toArray] w fun e w' => e = .returned (.bool true) ∧ Below w.heap.size w w'

set_option maxHeartbeats 1000000 in
theorem eq_any (T : VmD) : EqSays T := by
  intro cs1 cs2 w h h'
  obtain ⟨x0, a0, c0, x1, u1_0, u1_1, u1_2, u1_3, x2, a2, c2, x3, a3, c3, x4, a4, c4, x5, x6, rfl, rfl, f0, f1, f2, f3, f4, f5⟩ := vm_open h
  obtain ⟨x0', a0', c0', x1', u1_0', u1_1', u1_2', u1_3', x2', a2', c2', x3', a3', c3', x4', a4', c4', x5', x6', hT, rfl, g0, g1, g2, g3, g4, g5⟩ := vm_open h'
  cases hT
  have ou1_0 := heap.heapSh.one f1 u1_0 (by simp)
  have ou1_1 := heap.heapSh.one f1 u1_1 (by simp)
  have ou1_2 := heap.heapSh.one f1 u1_2 (by simp)
  have ou1_3 := heap.heapSh.one f1 u1_3 (by simp)
  have ou1_0' := heap.heapSh.one g1 u1_0' (by simp)
  have ou1_1' := heap.heapSh.one g1 u1_1' (by simp)
  have ou1_2' := heap.heapSh.one g1 u1_2' (by simp)
  have ou1_3' := heap.heapSh.one g1 u1_3' (by simp)
  clear h h'
  have K0 : ∀ (w' : World), Below w.heap.size w w' → Calls Tryz.prog 14 #[.slice a0 x0.length c0, .slice a0' x0.length c0'] w' fun e w'' => e = .returned (.bool true) ∧ Below w'.heap.size w' w'' :=
    fun w' hb => fun.eqS_any x0 _ _ w' (fun.funSh.slice.mono (fun.funSh.slice.below f0 hb) fun b hlt => Nat.lt_of_lt_of_le hlt hb.size) (fun.funSh.slice.mono (fun.funSh.slice.below g0 hb) fun b hlt => Nat.lt_of_lt_of_le hlt hb.size)
  have K1 : ∀ (w' : World), Below w.heap.size w w' → Calls Tryz.prog 35 #[.agg #[u1_0, u1_1, u1_2, u1_3], .agg #[u1_0', u1_1', u1_2', u1_3']] w' fun e w'' => e = .returned (.bool true) ∧ Below w'.heap.size w' w'' :=
    fun w' hb => heap.eq_any x1 _ _ w' (heap.heapSh.mono (heap.heapSh.below f1 hb) fun b hlt => Nat.lt_of_lt_of_le hlt hb.size) (heap.heapSh.mono (heap.heapSh.below g1 hb) fun b hlt => Nat.lt_of_lt_of_le hlt hb.size)
  have K2 : ∀ (w' : World), Below w.heap.size w w' → Calls Tryz.prog 36 #[.slice a2 x2.length c2, .slice a2' x2.length c2'] w' fun e w'' => e = .returned (.bool true) ∧ Below w'.heap.size w' w'' :=
    fun w' hb => ints.eq_any x2 _ _ w' (Sh.int.slice.mono (Sh.int.slice.below f2 hb) fun b hlt => Nat.lt_of_lt_of_le hlt hb.size) (Sh.int.slice.mono (Sh.int.slice.below g2 hb) fun b hlt => Nat.lt_of_lt_of_le hlt hb.size)
  have K3 : ∀ (w' : World), Below w.heap.size w w' → Calls Tryz.prog 37 #[.slice a3 x3.length c3, .slice a3' x3.length c3'] w' fun e w'' => e = .returned (.bool true) ∧ Below w'.heap.size w' w'' :=
    fun w' hb => call.eqS_any x3 _ _ w' (call.callSh.slice.mono (call.callSh.slice.below f3 hb) fun b hlt => Nat.lt_of_lt_of_le hlt hb.size) (call.callSh.slice.mono (call.callSh.slice.below g3 hb) fun b hlt => Nat.lt_of_lt_of_le hlt hb.size)
  have K4 : ∀ (w' : World), Below w.heap.size w w' → Calls Tryz.prog 36 #[.slice a4 x4.length c4, .slice a4' x4.length c4'] w' fun e w'' => e = .returned (.bool true) ∧ Below w'.heap.size w' w'' :=
    fun w' hb => ints.eq_any x4 _ _ w' (Sh.int.slice.mono (Sh.int.slice.below f4 hb) fun b hlt => Nat.lt_of_lt_of_le hlt hb.size) (Sh.int.slice.mono (Sh.int.slice.below g4 hb) fun b hlt => Nat.lt_of_lt_of_le hlt hb.size)
  clear f0 g0 f1 g1 f2 g2 f3 g3 f4 g4
  go_enter Tryz.func9, Tryz.ntmps9
  go_wp2_with fail
  refine (K0 _ (((Below.refl _ _).alloc (Nat.le_refl _) _).alloc (by simp) _)).mono ?_
  rintro e w1 ⟨rfl, hb⟩
  have B1 : Hid (Below w.heap.size w w1) := (((Below.refl _ _).alloc (Nat.le_refl _) _).alloc (by simp) _).trans (hb.mono (by simp; omega))
  have z1 : w.heap.size + 2 ≤ w1.heap.size := Nat.le_trans (by simp) hb.size
  have ba1_1 : w1.cell? ⟨w.heap.size, 1, none⟩ = some (u1_0) := (hb.cell (p := ⟨w.heap.size, 1, none⟩) (by simp; omega)).trans (by simp)
  have bb1_1 : w1.cell? ⟨w.heap.size + 1, 1, none⟩ = some (u1_0') := (hb.cell (p := ⟨w.heap.size + 1, 1, none⟩) (by simp)).trans (by simp)
  have ba1_2 : w1.cell? ⟨w.heap.size, 2, none⟩ = some (u1_1) := (hb.cell (p := ⟨w.heap.size, 2, none⟩) (by simp; omega)).trans (by simp)
  have bb1_2 : w1.cell? ⟨w.heap.size + 1, 2, none⟩ = some (u1_1') := (hb.cell (p := ⟨w.heap.size + 1, 2, none⟩) (by simp)).trans (by simp)
  have ba1_3 : w1.cell? ⟨w.heap.size, 3, none⟩ = some (u1_2) := (hb.cell (p := ⟨w.heap.size, 3, none⟩) (by simp; omega)).trans (by simp)
  have bb1_3 : w1.cell? ⟨w.heap.size + 1, 3, none⟩ = some (u1_2') := (hb.cell (p := ⟨w.heap.size + 1, 3, none⟩) (by simp)).trans (by simp)
  have ba1_4 : w1.cell? ⟨w.heap.size, 4, none⟩ = some (u1_3) := (hb.cell (p := ⟨w.heap.size, 4, none⟩) (by simp; omega)).trans (by simp)
  have bb1_4 : w1.cell? ⟨w.heap.size + 1, 4, none⟩ = some (u1_3') := (hb.cell (p := ⟨w.heap.size + 1, 4, none⟩) (by simp)).trans (by simp)
  have ba1_5 : w1.cell? ⟨w.heap.size, 5, none⟩ = some (.slice a2 x2.length c2) := (hb.cell (p := ⟨w.heap.size, 5, none⟩) (by simp; omega)).trans (by simp)
  have bb1_5 : w1.cell? ⟨w.heap.size + 1, 5, none⟩ = some (.slice a2' x2.length c2') := (hb.cell (p := ⟨w.heap.size + 1, 5, none⟩) (by simp)).trans (by simp)
  have ba1_6 : w1.cell? ⟨w.heap.size, 6, none⟩ = some (.slice a3 x3.length c3) := (hb.cell (p := ⟨w.heap.size, 6, none⟩) (by simp; omega)).trans (by simp)
  have bb1_6 : w1.cell? ⟨w.heap.size + 1, 6, none⟩ = some (.slice a3' x3.length c3') := (hb.cell (p := ⟨w.heap.size + 1, 6, none⟩) (by simp)).trans (by simp)
  have ba1_7 : w1.cell? ⟨w.heap.size, 7, none⟩ = some (.slice a4 x4.length c4) := (hb.cell (p := ⟨w.heap.size, 7, none⟩) (by simp; omega)).trans (by simp)
  have bb1_7 : w1.cell? ⟨w.heap.size + 1, 7, none⟩ = some (.slice a4' x4.length c4') := (hb.cell (p := ⟨w.heap.size + 1, 7, none⟩) (by simp)).trans (by simp)
  have ba1_8 : w1.cell? ⟨w.heap.size, 8, none⟩ = some (.int .i64 x5) := (hb.cell (p := ⟨w.heap.size, 8, none⟩) (by simp; omega)).trans (by simp)
  have bb1_8 : w1.cell? ⟨w.heap.size + 1, 8, none⟩ = some (.int .i64 x5) := (hb.cell (p := ⟨w.heap.size + 1, 8, none⟩) (by simp)).trans (by simp)
  have ba1_9 : w1.cell? ⟨w.heap.size, 9, none⟩ = some (.bool x6) := (hb.cell (p := ⟨w.heap.size, 9, none⟩) (by simp; omega)).trans (by simp)
  have bb1_9 : w1.cell? ⟨w.heap.size + 1, 9, none⟩ = some (.bool x6) := (hb.cell (p := ⟨w.heap.size + 1, 9, none⟩) (by simp)).trans (by simp)
  clear hb K0
  go_wp2_with fail
  refine (K1 _ B1.out).mono ?_
  rintro e w2 ⟨rfl, hb⟩
  have B2 : Hid (Below w.heap.size w w2) := B1.out.trans (hb.mono B1.out.size)
  have z2 : w.heap.size + 2 ≤ w2.heap.size := Nat.le_trans z1 hb.size
  have ba2_5 : w2.cell? ⟨w.heap.size, 5, none⟩ = some (.slice a2 x2.length c2) := (hb.cell (p := ⟨w.heap.size, 5, none⟩) (by simp; omega)).trans ba1_5
  have bb2_5 : w2.cell? ⟨w.heap.size + 1, 5, none⟩ = some (.slice a2' x2.length c2') := (hb.cell (p := ⟨w.heap.size + 1, 5, none⟩) (by simp; omega)).trans bb1_5
  have ba2_6 : w2.cell? ⟨w.heap.size, 6, none⟩ = some (.slice a3 x3.length c3) := (hb.cell (p := ⟨w.heap.size, 6, none⟩) (by simp; omega)).trans ba1_6
  have bb2_6 : w2.cell? ⟨w.heap.size + 1, 6, none⟩ = some (.slice a3' x3.length c3') := (hb.cell (p := ⟨w.heap.size + 1, 6, none⟩) (by simp; omega)).trans bb1_6
  have ba2_7 : w2.cell? ⟨w.heap.size, 7, none⟩ = some (.slice a4 x4.length c4) := (hb.cell (p := ⟨w.heap.size, 7, none⟩) (by simp; omega)).trans ba1_7
  have bb2_7 : w2.cell? ⟨w.heap.size + 1, 7, none⟩ = some (.slice a4' x4.length c4') := (hb.cell (p := ⟨w.heap.size + 1, 7, none⟩) (by simp; omega)).trans bb1_7
  have ba2_8 : w2.cell? ⟨w.heap.size, 8, none⟩ = some (.int .i64 x5) := (hb.cell (p := ⟨w.heap.size, 8, none⟩) (by simp; omega)).trans ba1_8
  have bb2_8 : w2.cell? ⟨w.heap.size + 1, 8, none⟩ = some (.int .i64 x5) := (hb.cell (p := ⟨w.heap.size + 1, 8, none⟩) (by simp; omega)).trans bb1_8
  have ba2_9 : w2.cell? ⟨w.heap.size, 9, none⟩ = some (.bool x6) := (hb.cell (p := ⟨w.heap.size, 9, none⟩) (by simp; omega)).trans ba1_9
  have bb2_9 : w2.cell? ⟨w.heap.size + 1, 9, none⟩ = some (.bool x6) := (hb.cell (p := ⟨w.heap.size + 1, 9, none⟩) (by simp; omega)).trans bb1_9
  clear ba1_1 bb1_1 ba1_2 bb1_2 ba1_3 bb1_3 ba1_4 bb1_4 ba1_5 bb1_5 ba1_6 bb1_6 ba1_7 bb1_7 ba1_8 bb1_8 ba1_9 bb1_9 z1 B1
  clear hb K1
  go_wp2_with fail
  refine (K2 _ B2.out).mono ?_
  rintro e w3 ⟨rfl, hb⟩
  have B3 : Hid (Below w.heap.size w w3) := B2.out.trans (hb.mono B2.out.size)
  have z3 : w.heap.size + 2 ≤ w3.heap.size := Nat.le_trans z2 hb.size
  have ba3_6 : w3.cell? ⟨w.heap.size, 6, none⟩ = some (.slice a3 x3.length c3) := (hb.cell (p := ⟨w.heap.size, 6, none⟩) (by simp; omega)).trans ba2_6
  have bb3_6 : w3.cell? ⟨w.heap.size + 1, 6, none⟩ = some (.slice a3' x3.length c3') := (hb.cell (p := ⟨w.heap.size + 1, 6, none⟩) (by simp; omega)).trans bb2_6
  have ba3_7 : w3.cell? ⟨w.heap.size, 7, none⟩ = some (.slice a4 x4.length c4) := (hb.cell (p := ⟨w.heap.size, 7, none⟩) (by simp; omega)).trans ba2_7
  have bb3_7 : w3.cell? ⟨w.heap.size + 1, 7, none⟩ = some (.slice a4' x4.length c4') := (hb.cell (p := ⟨w.heap.size + 1, 7, none⟩) (by simp; omega)).trans bb2_7
  have ba3_8 : w3.cell? ⟨w.heap.size, 8, none⟩ = some (.int .i64 x5) := (hb.cell (p := ⟨w.heap.size, 8, none⟩) (by simp; omega)).trans ba2_8
  have bb3_8 : w3.cell? ⟨w.heap.size + 1, 8, none⟩ = some (.int .i64 x5) := (hb.cell (p := ⟨w.heap.size + 1, 8, none⟩) (by simp; omega)).trans bb2_8
  have ba3_9 : w3.cell? ⟨w.heap.size, 9, none⟩ = some (.bool x6) := (hb.cell (p := ⟨w.heap.size, 9, none⟩) (by simp; omega)).trans ba2_9
  have bb3_9 : w3.cell? ⟨w.heap.size + 1, 9, none⟩ = some (.bool x6) := (hb.cell (p := ⟨w.heap.size + 1, 9, none⟩) (by simp; omega)).trans bb2_9
  clear ba2_5 bb2_5 ba2_6 bb2_6 ba2_7 bb2_7 ba2_8 bb2_8 ba2_9 bb2_9 z2 B2
  clear hb K2
  go_wp2_with fail
  refine (K3 _ B3.out).mono ?_
  rintro e w4 ⟨rfl, hb⟩
  have B4 : Hid (Below w.heap.size w w4) := B3.out.trans (hb.mono B3.out.size)
  have z4 : w.heap.size + 2 ≤ w4.heap.size := Nat.le_trans z3 hb.size
  have ba4_7 : w4.cell? ⟨w.heap.size, 7, none⟩ = some (.slice a4 x4.length c4) := (hb.cell (p := ⟨w.heap.size, 7, none⟩) (by simp; omega)).trans ba3_7
  have bb4_7 : w4.cell? ⟨w.heap.size + 1, 7, none⟩ = some (.slice a4' x4.length c4') := (hb.cell (p := ⟨w.heap.size + 1, 7, none⟩) (by simp; omega)).trans bb3_7
  have ba4_8 : w4.cell? ⟨w.heap.size, 8, none⟩ = some (.int .i64 x5) := (hb.cell (p := ⟨w.heap.size, 8, none⟩) (by simp; omega)).trans ba3_8
  have bb4_8 : w4.cell? ⟨w.heap.size + 1, 8, none⟩ = some (.int .i64 x5) := (hb.cell (p := ⟨w.heap.size + 1, 8, none⟩) (by simp; omega)).trans bb3_8
  have ba4_9 : w4.cell? ⟨w.heap.size, 9, none⟩ = some (.bool x6) := (hb.cell (p := ⟨w.heap.size, 9, none⟩) (by simp; omega)).trans ba3_9
  have bb4_9 : w4.cell? ⟨w.heap.size + 1, 9, none⟩ = some (.bool x6) := (hb.cell (p := ⟨w.heap.size + 1, 9, none⟩) (by simp; omega)).trans bb3_9
  clear ba3_6 bb3_6 ba3_7 bb3_7 ba3_8 bb3_8 ba3_9 bb3_9 z3 B3
  clear hb K3
  go_wp2_with fail
  refine (K4 _ B4.out).mono ?_
  rintro e w5 ⟨rfl, hb⟩
  have B5 : Hid (Below w.heap.size w w5) := B4.out.trans (hb.mono B4.out.size)
  have z5 : w.heap.size + 2 ≤ w5.heap.size := Nat.le_trans z4 hb.size
  have ba5_8 : w5.cell? ⟨w.heap.size, 8, none⟩ = some (.int .i64 x5) := (hb.cell (p := ⟨w.heap.size, 8, none⟩) (by simp; omega)).trans ba4_8
  have bb5_8 : w5.cell? ⟨w.heap.size + 1, 8, none⟩ = some (.int .i64 x5) := (hb.cell (p := ⟨w.heap.size + 1, 8, none⟩) (by simp; omega)).trans bb4_8
  have ba5_9 : w5.cell? ⟨w.heap.size, 9, none⟩ = some (.bool x6) := (hb.cell (p := ⟨w.heap.size, 9, none⟩) (by simp; omega)).trans ba4_9
  have bb5_9 : w5.cell? ⟨w.heap.size + 1, 9, none⟩ = some (.bool x6) := (hb.cell (p := ⟨w.heap.size + 1, 9, none⟩) (by simp; omega)).trans bb4_9
  clear ba4_7 bb4_7 ba4_8 bb4_8 ba4_9 bb4_9 z4 B4
  clear hb K4
  go_wp2
  go_ret
  exact ⟨rfl, B5.out⟩


end Go.Proofs.YtjibmpebebephaaGreatDoor.vm

namespace Go.Proofs.YtjibmpebebephaaGreatDoor.heap
open Go Go.RowKit Go.Proofs.YtjibmpebebephaaGreatDoor.rose Go.Proofs.YtjibmpebebephaaGreatDoor Go.Proofs.YtjibmpebebephaaGreatDoor.fun
set_option linter.unusedVariables false

/-- The parts of a header. -/
def funF (h : Int) : Bool := decide (h / 2 % 2 = 1)
def tagF (h : Int) : Int := Int.tdiv (h / 2 / 2) 64
def manyF (h : Int) : Int := h / 2 / 2 % 64
theorem many_in (h : Int) : 0 ≤ manyF h ∧ manyF h ≤ 63 := by unfold manyF; omega
/-- Whether it is no header of a block that there is room for. -/
def badH (h room : Int) : Bool := decide (h < 0) || decide (h % 2 = 0) || decide (3000 < tagF h) || decide (20 < manyF h) || decide (room ≤ manyF h)
/-- The places of blocks from p on; whether they are one behind the other. -/
def plF (W : List Int) (nx : Nat) (p : Nat) : List Int × Bool :=
  if h : p < nx then
    if badH (W.getD p 0) ((nx : Int) - p) then ([], false)
    else ((p : Int) :: (plF W nx (p + 1 + (manyF (W.getD p 0)).toNat)).1, (plF W nx (p + 1 + (manyF (W.getD p 0)).toNat)).2)
  else ([], true)
termination_by nx - p
decreasing_by all_goals omega
theorem plF_end {W : List Int} {nx p : Nat} (h : nx ≤ p) : plF W nx p = ([], true) := by rw [plF, dif_neg (by omega)]
theorem plF_bad {W : List Int} {nx p : Nat} (h : p < nx) (hb : badH (W.getD p 0) ((nx : Int) - p) = true) : plF W nx p = ([], false) := by rw [plF, dif_pos h, if_pos hb]
theorem plF_more {W : List Int} {nx p : Nat} (h : p < nx) (hb : badH (W.getD p 0) ((nx : Int) - p) = false) : plF W nx p = ((p : Int) :: (plF W nx (p + 1 + (manyF (W.getD p 0)).toNat)).1, (plF W nx (p + 1 + (manyF (W.getD p 0)).toNat)).2) := by
  rw [plF, dif_pos h, hb]; simp
/-- What is known of such a place: its block lies ahead of nx. -/
theorem plF_in {W : List Int} {nx : Nat} : ∀ {p : Nat}, (plF W nx p).2 = true → ∀ x ∈ (plF W nx p).1, ∃ q : Nat, x = q ∧ p ≤ q ∧ q + (manyF (W.getD q 0)).toNat < nx := by
  intro p
  induction hd : nx - p using Nat.strongRecOn generalizing p with
  | _ d ih =>
    intro hok x hx
    by_cases hp : p < nx
    · rcases hb : badH (W.getD p 0) ((nx : Int) - p) with _ | _
      · rw [plF_more hp hb] at hok hx
        rcases List.mem_cons.1 hx with rfl | hx
        · refine ⟨p, rfl, Nat.le_refl _, ?_⟩
          have hm := many_in (W.getD p 0)
          unfold badH at hb
          simp only [Bool.or_eq_false_iff, decide_eq_false_iff_not] at hb
          omega
        · obtain ⟨q, rfl, h1, h2⟩ := ih (nx - (p + 1 + (manyF (W.getD p 0)).toNat)) (by omega) rfl hok x hx
          exact ⟨q, rfl, by omega, h2⟩
      · rw [plF_bad hp hb] at hok; cases hok
    · rw [plF_end (by omega)] at hx; cases hx
theorem plF_len {W : List Int} {nx : Nat} : ∀ {p : Nat}, (plF W nx p).1.length ≤ nx - p := by
  intro p
  induction hd : nx - p using Nat.strongRecOn generalizing p with
  | _ d ih =>
    by_cases hp : p < nx
    · rcases hb : badH (W.getD p 0) ((nx : Int) - p) with _ | _
      · rw [plF_more hp hb, List.length_cons]
        have := ih (nx - (p + 1 + (manyF (W.getD p 0)).toNat)) (by omega) rfl
        omega
      · rw [plF_bad hp hb]; simp
    · rw [plF_end (by omega)]; simp
/-- Whether a word is an int of a word, or one of those places. -/
def thereB (l : List Int) (x : Int) : Bool := if x % 2 = 0 then decide (x / 2 ∈ l) else inB (x / 2) (-1073741824) 1073741823
/-- Whether a heap's numbers are right. -/
def headB (T : HeapD) : Bool := inB T.2.1 1 3000 && decide ((T.1.length : Int) = 2 * T.2.1) && (decide (T.2.2.1 = 0) || decide (T.2.2.1 = T.2.1)) && inB T.2.2.2 T.2.2.1 (T.2.2.1 + T.2.1)
/-- Its blocks' places. -/
def plT (T : HeapD) : List Int × Bool := plF T.1 T.2.2.2.toNat T.2.2.1.toNat
/-- Whether the kids of the block at q are right. -/
def kidsB (T : HeapD) (q : Nat) : Bool := (List.range (manyF (T.1.getD q 0)).toNat).all fun k => thereB (plT T).1 (T.1.getD (q + 1 + k) 0)
def heapB (T : HeapD) : Bool := headB T && (plT T).2 && (plT T).1.all fun x => kidsB T x.toNat
theorem kids_no {T : HeapD} {q k : Nat} (hk : k < (manyF (T.1.getD q 0)).toNat) (h : thereB (plT T).1 (T.1.getD (q + 1 + k) 0) = false) : kidsB T q = false := by
  unfold kidsB; rw [List.all_eq_false]; exact ⟨k, List.mem_range.2 hk, by rw [h]; decide⟩
theorem kids_yes {T : HeapD} {q : Nat} (h : ∀ k, k < (manyF (T.1.getD q 0)).toNat → thereB (plT T).1 (T.1.getD (q + 1 + k) 0) = true) : kidsB T q = true := by
  unfold kidsB; rw [List.all_eq_true]; exact fun k hk => h k (List.mem_range.1 hk)
theorem heapB_head {T : HeapD} (h : headB T = false) : heapB T = false := by unfold heapB; rw [h]; rfl
theorem heapB_places {T : HeapD} (h : (plT T).2 = false) : heapB T = false := by unfold heapB; rw [h]; simp
theorem heapB_kids {T : HeapD} {i : Nat} (hi : i < (plT T).1.length) (h : kidsB T ((plT T).1[i]).toNat = false) : heapB T = false := by
  unfold heapB
  have : ((plT T).1.all fun x => kidsB T x.toNat) = false := by rw [List.all_eq_false]; exact ⟨_, List.getElem_mem hi, by simp [h]⟩
  rw [this]; simp
theorem heapB_yes {T : HeapD} (h1 : headB T = true) (h2 : (plT T).2 = true) (h3 : ∀ i (hi : i < (plT T).1.length), kidsB T ((plT T).1[i]).toNat = true) : heapB T = true := by
  unfold heapB
  have : ((plT T).1.all fun x => kidsB T x.toNat) = true := by
    rw [List.all_eq_true]
    intro x hx
    obtain ⟨i, hi, rfl⟩ := List.getElem_of_mem hx
    exact h3 i hi
  rw [this, h1, h2]; rfl
theorem head_in {T : HeapD} (h : headB T = true) : 1 ≤ T.2.1 ∧ T.2.1 ≤ 3000 ∧ (T.1.length : Int) = 2 * T.2.1 ∧ (T.2.2.1 = 0 ∨ T.2.2.1 = T.2.1) ∧ T.2.2.1 ≤ T.2.2.2 ∧ T.2.2.2 ≤ T.2.2.1 + T.2.1 := by
  unfold headB at h
  simp only [Bool.and_eq_true, Bool.or_eq_true, decide_eq_true_eq] at h
  have h1 := inB_yes h.1.1.1
  have h2 := inB_yes h.2
  exact ⟨h1.1, h1.2, h.1.1.2, h.1.2, h2.1, h2.2⟩

end Go.Proofs.YtjibmpebebephaaGreatDoor.heap

namespace Go.Proofs.YtjibmpebebephaaGreatDoor.heap
open Go Go.RowKit Go.Proofs.YtjibmpebebephaaGreatDoor.rose Go.Proofs.YtjibmpebebephaaGreatDoor Go.Proofs.YtjibmpebebephaaGreatDoor.fun
set_option linter.unusedVariables false
set_option linter.unusedSimpArgs false

/-- Whether a heap and roots are right. -/
def rightB (T : HeapD) (rs : List Int) : Bool := heapB T && rs.all (thereB (plT T).1)
theorem right_heap {T : HeapD} {rs : List Int} (h : heapB T = false) : rightB T rs = false := by unfold rightB; rw [h]; rfl
theorem right_root {T : HeapD} {rs : List Int} {i : Nat} (hi : i < rs.length) (h : thereB (plT T).1 rs[i] = false) : rightB T rs = false := by
  unfold rightB
  have : rs.all (thereB (plT T).1) = false := by rw [List.all_eq_false]; exact ⟨_, List.getElem_mem hi, by simp [h]⟩
  rw [this]; simp
theorem right_yes {T : HeapD} {rs : List Int} (h : heapB T = true) (h2 : ∀ i (hi : i < rs.length), thereB (plT T).1 rs[i] = true) : rightB T rs = true := by
  unfold rightB
  have : rs.all (thereB (plT T).1) = true := by
    rw [List.all_eq_true]
    intro x hx
    obtain ⟨i, hi, rfl⟩ := List.getElem_of_mem hx
    exact h2 i hi
  rw [this, h]; rfl
theorem right_is {T : HeapD} {rs : List Int} (h : rightB T rs = true) : heapB T = true ∧ ∀ x ∈ rs, thereB (plT T).1 x = true := by
  unfold rightB at h
  simp only [Bool.and_eq_true] at h
  exact ⟨h.1, fun x hx => List.all_eq_true.1 h.2 x hx⟩

theorem heap_head {T : HeapD} (h : heapB T = true) : headB T = true := by
  unfold heapB at h
  simp only [Bool.and_eq_true] at h
  exact h.1.1
theorem heap_places {T : HeapD} (h : heapB T = true) : (plT T).2 = true := by
  unfold heapB at h
  simp only [Bool.and_eq_true] at h
  exact h.1.2
/-- The kid k of the block at p. -/
def kidAt (W : List Int) (p k : Nat) : Int := W.getD (p + 1 + k) 0
/-- The kids of the block at p. -/
def kidsL (W : List Int) (p : Nat) : List Int := (List.range (manyF (W.getD p 0)).toNat).map (kidAt W p)
/-- A word is met. -/
def addR (out : List Int) (x : Int) : List Int := if x % 2 = 0 ∧ x / 2 ∉ out then out ++ [x / 2] else out
def addRs (out xs : List Int) : List Int := xs.foldl addR out
/-- Block by block, from place k of the order on. -/
def scanF (W : List Int) : Nat → Nat → List Int → List Int
  | 0, _, out => out
  | f + 1, k, out => if h : k < out.length then scanF W f (k + 1) (addRs out (kidsL W (out[k]).toNat)) else out
/-- The blocks that are come to, in the order in which they are met. -/
def orderF (T : HeapD) (rs : List Int) : List Int := scanF T.1 (T.1.length + 1) 0 (addRs [] rs)

theorem addRs_push (out xs : List Int) (x : Int) : addRs out (xs ++ [x]) = addR (addRs out xs) x := by simp [addRs, List.foldl_append]
theorem addRs_take {out xs : List Int} {i : Nat} (h : i < xs.length) : addRs out (xs.take (i + 1)) = addR (addRs out (xs.take i)) xs[i] := by rw [List.take_succ_eq_append_getElem h, addRs_push]
theorem addR_skip {out : List Int} {x : Int} (h : x % 2 ≠ 0 ∨ x / 2 ∈ out) : addR out x = out := by unfold addR; rw [if_neg]; rintro ⟨h1, h2⟩; rcases h with h | h; exact h h1; exact h2 h
theorem addR_put {out : List Int} {x : Int} (h : x % 2 = 0) (h2 : x / 2 ∉ out) : addR out x = out ++ [x / 2] := by unfold addR; rw [if_pos ⟨h, h2⟩]
theorem kidsL_len (W : List Int) (p : Nat) : (kidsL W p).length = (manyF (W.getD p 0)).toNat := by simp [kidsL]
theorem kidsL_get {W : List Int} {p k : Nat} (h : k < (kidsL W p).length) : (kidsL W p)[k] = kidAt W p k := by simp [kidsL]
theorem scan_end {W : List Int} {f k : Nat} {out : List Int} (h : out.length ≤ k) : scanF W f k out = out := by
  cases f with
  | zero => rfl
  | succ f => rw [scanF, dif_neg (by omega)]
theorem scan_more {W : List Int} {f k : Nat} {out : List Int} (h : k < out.length) : scanF W (f + 1) k out = scanF W f (k + 1) (addRs out (kidsL W (out[k]).toNat)) := by rw [scanF, dif_pos h]

theorem nodup_len : ∀ {out L : List Int}, out.Nodup → (∀ x ∈ out, x ∈ L) → out.length ≤ L.length := by
  intro out
  induction out with
  | nil => intro L _ _; exact Nat.zero_le _
  | cons x out ih =>
    intro L hn hs
    have hx : x ∈ L := hs x List.mem_cons_self
    rw [List.nodup_cons] at hn
    have := ih (L := L.erase x) hn.2 fun y hy => by
      have hne : y ≠ x := fun e => hn.1 (by rw [← e]; exact hy)
      rw [List.mem_erase_of_ne hne]
      exact hs y (List.mem_cons_of_mem _ hy)
    rw [List.length_erase_of_mem hx] at this
    have hp : 0 < L.length := List.length_pos_of_mem hx
    simp only [List.length_cons]
    omega

/-- What is known of an order on its way. -/
structure OInv (T : HeapD) (out : List Int) : Prop where
  nodup : out.Nodup
  sub : ∀ x ∈ out, x ∈ (plT T).1
theorem OInv.nil (T : HeapD) : OInv T [] := ⟨List.nodup_nil, fun x hx => by cases hx⟩
theorem OInv.add {T : HeapD} {out : List Int} (h : OInv T out) {x : Int} (hx : thereB (plT T).1 x = true) : OInv T (addR out x) := by
  unfold addR
  split
  · rename_i hc
    unfold thereB at hx
    rw [if_pos hc.1] at hx
    have hm : x / 2 ∈ (plT T).1 := of_decide_eq_true hx
    refine ⟨?_, fun y hy => ?_⟩
    · rw [List.nodup_append]
      exact ⟨h.nodup, by simp, fun a ha b hb e => by simp only [List.mem_singleton] at hb; subst hb e; exact hc.2 ha⟩
    · rcases List.mem_append.1 hy with q | q
      · exact h.sub y q
      · simp only [List.mem_singleton] at q; subst q; exact hm
  · exact h
theorem OInv.adds {T : HeapD} {xs : List Int} : ∀ {out : List Int}, OInv T out → (∀ x ∈ xs, thereB (plT T).1 x = true) → OInv T (addRs out xs) := by
  induction xs with
  | nil => intro out h _; exact h
  | cons x xs ih => intro out h hx; exact ih (h.add (hx x List.mem_cons_self)) fun y hy => hx y (List.mem_cons_of_mem _ hy)
theorem OInv.len {T : HeapD} {out : List Int} (h : OInv T out) : out.length ≤ (plT T).1.length := nodup_len h.nodup h.sub
/-- The kids of a right heap's blocks are right. -/
theorem kids_there {T : HeapD} (h : heapB T = true) {x : Int} (hx : x ∈ (plT T).1) : ∀ y ∈ kidsL T.1 x.toNat, thereB (plT T).1 y = true := by
  intro y hy
  unfold heapB at h
  simp only [Bool.and_eq_true] at h
  have h1 : kidsB T x.toNat = true := List.all_eq_true.1 h.2 x hx
  unfold kidsL at hy
  obtain ⟨k, hk, rfl⟩ := List.mem_map.1 hy
  unfold kidsB at h1
  exact List.all_eq_true.1 h1 k hk

/-- Where a block of a right heap lies. -/
theorem place_in {T : HeapD} (h : heapB T = true) {x : Int} (hx : x ∈ (plT T).1) : ∃ z : Nat, x = z ∧ z + (manyF (T.1.getD z 0)).toNat < T.1.length := by
  obtain ⟨z, hz, -, h4⟩ := plF_in (W := T.1) (nx := T.2.2.2.toNat) (p := T.2.2.1.toNat) (heap_places h) x hx
  have := head_in (heap_head h)
  exact ⟨z, hz, by omega⟩
theorem places_len {T : HeapD} (h : heapB T = true) : (plT T).1.length ≤ T.1.length ∧ T.1.length ≤ 6000 := by
  have h1 := plF_len (W := T.1) (nx := T.2.2.2.toNat) (p := T.2.2.1.toNat)
  have h2 := head_in (heap_head h)
  unfold plT
  omega

end Go.Proofs.YtjibmpebebephaaGreatDoor.heap
