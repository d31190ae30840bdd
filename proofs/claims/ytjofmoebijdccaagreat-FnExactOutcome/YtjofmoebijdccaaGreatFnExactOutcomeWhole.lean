/-
  At every argument the program's function answers as its model, writes nothing into an argument, and its answer owns its memory; the law's call returns true, and the arguments read as they read before. No condition.
-/
import Derived.Test.YtjofmoebijdccaaGreatRows
import Derived.Deep.RegionHeld3
import Derived.Deep.CutRange
import Derived.Deep.RegionWith
import Derived.ProofKit
import Derived.Deep.DeepHandedRow
import Derived.ChangeOld
import Derived.Carry
import Derived.Test.YtjofmoebijdccaaGreatB1
import Derived.Test.YtjofmoebijdccaaGreatB2
import Derived.Test.YtjofmoebijdccaaGreatB3
import Derived.Test.YtjofmoebijdccaaGreatB4
import Derived.Test.YtjofmoebijdccaaGreatB5
import Derived.Test.YtjofmoebijdccaaGreatB6
import Derived.Test.YtjofmoebijdccaaGreatB7
import Derived.Test.YtjofmoebijdccaaGreatB8
import Derived.Test.YtjofmoebijdccaaGreatB9
import Derived.Test.YtjofmoebijdccaaGreatB10
import Derived.Test.YtjofmoebijdccaaGreatB11
import Derived.Test.YtjofmoebijdccaaGreatB12
import Derived.Test.YtjofmoebijdccaaGreatB13
import Derived.Test.YtjofmoebijdccaaGreatB14
import Derived.Test.YtjofmoebijdccaaGreatB15
import Derived.Test.YtjofmoebijdccaaGreatB16
import Derived.Test.YtjofmoebijdccaaGreatB17
import Derived.Test.YtjofmoebijdccaaGreatB18
import Derived.Test.YtjofmoebijdccaaGreatB19
import Derived.Test.YtjofmoebijdccaaGreatB20
import Derived.Test.YtjofmoebijdccaaGreatB21
import Derived.Test.YtjofmoebijdccaaGreatB22
import Derived.Test.YtjofmoebijdccaaGreatB23
import Derived.Test.YtjofmoebijdccaaGreatB24
import Derived.Test.YtjofmoebijdccaaGreatB25
import Derived.Test.YtjofmoebijdccaaGreatB26
import Derived.Test.YtjofmoebijdccaaGreatB27
import Derived.Test.YtjofmoebijdccaaGreatB28
import Derived.Test.YtjofmoebijdccaaGreatB29
import Derived.Test.YtjofmoebijdccaaGreatB30
import Derived.Test.YtjofmoebijdccaaGreatB31
import Derived.Test.YtjofmoebijdccaaGreatB32
import Derived.Test.YtjofmoebijdccaaGreatB33
import Derived.Test.YtjofmoebijdccaaGreatB34
namespace Go.Proofs.YtjofmoebijdccaaGreat.fnExactOutcome
open Go.ChangeShapes Go.WideShapes Go.ChangeAt Go.RowKit Go.Proofs.YtjofmoebijdccaaGreat.rose Go.Proofs.YtjofmoebijdccaaGreat
open Go.ChangeMaps (open_string shut_string)
set_option linter.unusedVariables false
set_option maxRecDepth 100000

theorem own : ownKnob Tryz.prog.godebug = none := by kernel_rfl
theorem laidOut : laidOutB Tryz.prog = true := by kernel_rfl

set_option maxRecDepth 100000 in
set_option maxHeartbeats 8000000 in
theorem walk (ks : List data.DataD) (T : vm.VmD) (va0 : Value) (cs1 : List Value) (w : World) (h0 : data.dataSh.slice.rep w (· < w.heap.size) [va0] ks) (h1 : vm.vmSh.rep w (· < w.heap.size) cs1 T) :
    Calls Tryz.prog 3 #[va0, .agg cs1.toArray] w fun e w' => e = .returned (.bool true) ∧ Below w.heap.size w w' := by
  have AR0 : Hid (∀ W : World, Below w.heap.size w W → data.dataSh.slice.rep W (· < W.heap.size) [va0] ks) := fun W hb => data.dataSh.slice.mono (data.dataSh.slice.below h0 hb) fun b hlt => Nat.lt_of_lt_of_le hlt hb.size
  obtain ⟨ad0, cp0, hva0⟩ : ∃ a c, va0 = .slice a ks.length c := by obtain ⟨a, c, e⟩ := slice_cells h0; simp only [List.cons.injEq, and_true] at e; exact ⟨a, c, e⟩
  subst hva0
  obtain ⟨a1_0, a1_1, a1_2, a1_3, a1_4, a1_5, a1_6, a1_7, a1_8, a1_9, rfl⟩ := vm.vm_list h1
  have oa1_0 := vm.vmSh.one h1 a1_0 (by simp)
  have oa1_1 := vm.vmSh.one h1 a1_1 (by simp)
  have oa1_2 := vm.vmSh.one h1 a1_2 (by simp)
  have oa1_3 := vm.vmSh.one h1 a1_3 (by simp)
  have oa1_4 := vm.vmSh.one h1 a1_4 (by simp)
  have oa1_5 := vm.vmSh.one h1 a1_5 (by simp)
  have oa1_6 := vm.vmSh.one h1 a1_6 (by simp)
  have oa1_7 := vm.vmSh.one h1 a1_7 (by simp)
  have oa1_8 := vm.vmSh.one h1 a1_8 (by simp)
  have oa1_9 := vm.vmSh.one h1 a1_9 (by simp)
  have AR1 : Hid (∀ W : World, Below w.heap.size w W → vm.vmSh.rep W (· < W.heap.size) [a1_0, a1_1, a1_2, a1_3, a1_4, a1_5, a1_6, a1_7, a1_8, a1_9] T) := fun W hb => vm.vmSh.mono (vm.vmSh.below h1 hb) fun b hlt => Nat.lt_of_lt_of_le hlt hb.size
  clear h0
  clear h1
  have BB0 : Hid (Below w.heap.size w (w.alloc (.cells #[a1_0, a1_1, a1_2, a1_3, a1_4, a1_5, a1_6, a1_7, a1_8, a1_9] 29))) := (Below.refl _ w).alloc (by simp) _
  have K1_0 : Hid (BoxK (w.alloc (.cells #[a1_0, a1_1, a1_2, a1_3, a1_4, a1_5, a1_6, a1_7, a1_8, a1_9] 29)) (w.heap.size) [a1_0, a1_1, a1_2, a1_3, a1_4, a1_5, a1_6, a1_7, a1_8, a1_9] 29) := ⟨by exact alloc_top _ _⟩
  go_enter Tryz.func3, Tryz.ntmps3
  go_wp2_with fail
  refine (data.szS_any ks _ _ 1048576 (by decide) (by decide) (AR0.out _ BB0.out)).mono ?_
  rintro e w1 ⟨rfl, hb⟩
  have K1_1 : Hid (BoxK w1 (w.heap.size) [a1_0, a1_1, a1_2, a1_3, a1_4, a1_5, a1_6, a1_7, a1_8, a1_9] 29) := K1_0.out.on hb
  have BB1 : Hid (Below w.heap.size w w1) := BB0.out.trans (hb.mono BB0.out.size)
  have L0 : Hid (w.heap.size + 1 ≤ w1.heap.size) := by have := hb.size; (try simp at this); show _ ≤ _; omega
  clear hb K1_0 BB0
  obtain ⟨q0, hq0⟩ : ∃ nz : Nat, nz = ks.length + data.wts ks := ⟨_, rfl⟩
  rw [← hq0]
  have HQ0 : Hid (q0 = ks.length + data.wts ks) := hq0
  clear hq0
  by_cases hw0 : q0 ≤ 1048576
  · have hl : left q0 (1048576) = 1048576 - (q0 : Nat) := by unfold left; rw [if_pos (by omega)]
    rw [hl]
    have t1 : decide (((1048576 : Int) - (q0 : Nat) : Int) < 0) = false := by simp; omega
    clear hl
    have cK10 : w1.cell? ⟨w.heap.size, 0, none⟩ = some a1_0 := K1_1.out.cell 0 rfl
    have cK11 : w1.cell? ⟨w.heap.size, 1, none⟩ = some a1_1 := K1_1.out.cell 1 rfl
    have cK12 : w1.cell? ⟨w.heap.size, 2, none⟩ = some a1_2 := K1_1.out.cell 2 rfl
    have cK13 : w1.cell? ⟨w.heap.size, 3, none⟩ = some a1_3 := K1_1.out.cell 3 rfl
    have cK14 : w1.cell? ⟨w.heap.size, 4, none⟩ = some a1_4 := K1_1.out.cell 4 rfl
    have cK15 : w1.cell? ⟨w.heap.size, 5, none⟩ = some a1_5 := K1_1.out.cell 5 rfl
    have cK16 : w1.cell? ⟨w.heap.size, 6, none⟩ = some a1_6 := K1_1.out.cell 6 rfl
    have cK17 : w1.cell? ⟨w.heap.size, 7, none⟩ = some a1_7 := K1_1.out.cell 7 rfl
    have cK18 : w1.cell? ⟨w.heap.size, 8, none⟩ = some a1_8 := K1_1.out.cell 8 rfl
    have cK19 : w1.cell? ⟨w.heap.size, 9, none⟩ = some a1_9 := K1_1.out.cell 9 rfl
    go_wp2_with fail
    refine (vm.sz_any T _ _ _ (by omega) (by omega) (AR1.out _ BB1.out)).mono ?_
    rintro e w2 ⟨rfl, hb⟩
    clear cK10 cK11 cK12 cK13 cK14 cK15 cK16 cK17 cK18 cK19
    have K1_2 : Hid (BoxK w2 (w.heap.size) [a1_0, a1_1, a1_2, a1_3, a1_4, a1_5, a1_6, a1_7, a1_8, a1_9] 29) := K1_1.out.on hb
    have BB2 : Hid (Below w.heap.size w w2) := BB1.out.trans (hb.mono BB1.out.size)
    have L1 : Hid (w1.heap.size ≤ w2.heap.size) := hb.size
    clear hb K1_1 BB1
    obtain ⟨q1, hq1⟩ : ∃ nz : Nat, nz = vm.wt T := ⟨_, rfl⟩
    rw [← hq1]
    have HQ1 : Hid (q1 = vm.wt T) := hq1
    clear hq1
    by_cases hw1 : q0 + q1 ≤ 1048576
    · have hl : left q1 (1048576 - (q0 : Nat)) = 1048576 - (q0 : Nat) - (q1 : Nat) := by unfold left; rw [if_pos (by omega)]
      rw [hl]
      have t1 : decide (((1048576 : Int) - (q0 : Nat) - (q1 : Nat) : Int) < 0) = false := by simp; omega
      clear hl
      have HW : Hid ((ks.length + data.wts ks) + (vm.wt T) ≤ 1048576) := by have := HQ0.out; have := HQ1.out; show _ ≤ _; omega
      have pK10 : w2.cell? ⟨w.heap.size, 0, none⟩ = some a1_0 := K1_2.out.cell 0 rfl
      have pK11 : w2.cell? ⟨w.heap.size, 1, none⟩ = some a1_1 := K1_2.out.cell 1 rfl
      have pK12 : w2.cell? ⟨w.heap.size, 2, none⟩ = some a1_2 := K1_2.out.cell 2 rfl
      have pK13 : w2.cell? ⟨w.heap.size, 3, none⟩ = some a1_3 := K1_2.out.cell 3 rfl
      have pK14 : w2.cell? ⟨w.heap.size, 4, none⟩ = some a1_4 := K1_2.out.cell 4 rfl
      have pK15 : w2.cell? ⟨w.heap.size, 5, none⟩ = some a1_5 := K1_2.out.cell 5 rfl
      have pK16 : w2.cell? ⟨w.heap.size, 6, none⟩ = some a1_6 := K1_2.out.cell 6 rfl
      have pK17 : w2.cell? ⟨w.heap.size, 7, none⟩ = some a1_7 := K1_2.out.cell 7 rfl
      have pK18 : w2.cell? ⟨w.heap.size, 8, none⟩ = some a1_8 := K1_2.out.cell 8 rfl
      have pK19 : w2.cell? ⟨w.heap.size, 9, none⟩ = some a1_9 := K1_2.out.cell 9 rfl
      go_upto_region 8 with fail
      go_cut [6, 7] from 27 to 34 (fun v6 v7 X => ∃ (nb lo hi : Nat) (w3_0 w3_1 w3_2 w3_3 : Value), v6 = .pointer (some ⟨nb, 0, none⟩) ∧ v7 = .bool (back.outF ks T).2 ∧ Hid (Below w2.heap.size w2 X ∧ Itm value.valueSp X nb [w3_0, w3_1, w3_2, w3_3] 34 lo hi (back.outF ks T).1 ∧ w2.heap.size ≤ nb ∧ w2.heap.size ≤ lo ∧ (nb < lo ∨ hi ≤ nb)))
      case first =>
        have HP0 : Hid (Below w2.heap.size w2 w2.drew) := hidX ((Below.refl _ _).drew)
        have qK10 : w2.drew.cell? ⟨w.heap.size, 0, none⟩ = some a1_0 := pK10
        have qK11 : w2.drew.cell? ⟨w.heap.size, 1, none⟩ = some a1_1 := pK11
        have qK12 : w2.drew.cell? ⟨w.heap.size, 2, none⟩ = some a1_2 := pK12
        have qK13 : w2.drew.cell? ⟨w.heap.size, 3, none⟩ = some a1_3 := pK13
        have qK14 : w2.drew.cell? ⟨w.heap.size, 4, none⟩ = some a1_4 := pK14
        have qK15 : w2.drew.cell? ⟨w.heap.size, 5, none⟩ = some a1_5 := pK15
        have qK16 : w2.drew.cell? ⟨w.heap.size, 6, none⟩ = some a1_6 := pK16
        have qK17 : w2.drew.cell? ⟨w.heap.size, 7, none⟩ = some a1_7 := pK17
        have qK18 : w2.drew.cell? ⟨w.heap.size, 8, none⟩ = some a1_8 := pK18
        have qK19 : w2.drew.cell? ⟨w.heap.size, 9, none⟩ = some a1_9 := pK19
        have cK10 : w2.cell? ⟨w.heap.size, 0, none⟩ = some a1_0 := pK10
        have cK11 : w2.cell? ⟨w.heap.size, 1, none⟩ = some a1_1 := pK11
        have cK12 : w2.cell? ⟨w.heap.size, 2, none⟩ = some a1_2 := pK12
        have cK13 : w2.cell? ⟨w.heap.size, 3, none⟩ = some a1_3 := pK13
        have cK14 : w2.cell? ⟨w.heap.size, 4, none⟩ = some a1_4 := pK14
        have cK15 : w2.cell? ⟨w.heap.size, 5, none⟩ = some a1_5 := pK15
        have cK16 : w2.cell? ⟨w.heap.size, 6, none⟩ = some a1_6 := pK16
        have cK17 : w2.cell? ⟨w.heap.size, 7, none⟩ = some a1_7 := pK17
        have cK18 : w2.cell? ⟨w.heap.size, 8, none⟩ = some a1_8 := pK18
        have cK19 : w2.cell? ⟨w.heap.size, 9, none⟩ = some a1_9 := pK19
        have hnb1 : w.heap.size < w2.heap.size := K1_2.out.lt
        go_region_held3 (fun X => X.cell? ⟨w.heap.size, 0, none⟩ = some a1_0 ∧ X.cell? ⟨w.heap.size, 1, none⟩ = some a1_1 ∧ X.cell? ⟨w.heap.size, 2, none⟩ = some a1_2 ∧ X.cell? ⟨w.heap.size, 3, none⟩ = some a1_3 ∧ X.cell? ⟨w.heap.size, 4, none⟩ = some a1_4 ∧ X.cell? ⟨w.heap.size, 5, none⟩ = some a1_5 ∧ X.cell? ⟨w.heap.size, 6, none⟩ = some a1_6 ∧ X.cell? ⟨w.heap.size, 7, none⟩ = some a1_7 ∧ X.cell? ⟨w.heap.size, 8, none⟩ = some a1_8 ∧ X.cell? ⟨w.heap.size, 9, none⟩ = some a1_9)
          (exact ⟨by first | with_reducible exact cK10 | with_reducible exact qK10 | with_reducible exact cell_alX cK10 | with_reducible exact cell_alX qK10 | (with_reducible refine cell_set4X cK10 ?_; have := HGE.out; omega) | exact cell_alX cK10, by first | with_reducible exact cK11 | with_reducible exact qK11 | with_reducible exact cell_alX cK11 | with_reducible exact cell_alX qK11 | (with_reducible refine cell_set4X cK11 ?_; have := HGE.out; omega) | exact cell_alX cK11, by first | with_reducible exact cK12 | with_reducible exact qK12 | with_reducible exact cell_alX cK12 | with_reducible exact cell_alX qK12 | (with_reducible refine cell_set4X cK12 ?_; have := HGE.out; omega) | exact cell_alX cK12, by first | with_reducible exact cK13 | with_reducible exact qK13 | with_reducible exact cell_alX cK13 | with_reducible exact cell_alX qK13 | (with_reducible refine cell_set4X cK13 ?_; have := HGE.out; omega) | exact cell_alX cK13, by first | with_reducible exact cK14 | with_reducible exact qK14 | with_reducible exact cell_alX cK14 | with_reducible exact cell_alX qK14 | (with_reducible refine cell_set4X cK14 ?_; have := HGE.out; omega) | exact cell_alX cK14, by first | with_reducible exact cK15 | with_reducible exact qK15 | with_reducible exact cell_alX cK15 | with_reducible exact cell_alX qK15 | (with_reducible refine cell_set4X cK15 ?_; have := HGE.out; omega) | exact cell_alX cK15, by first | with_reducible exact cK16 | with_reducible exact qK16 | with_reducible exact cell_alX cK16 | with_reducible exact cell_alX qK16 | (with_reducible refine cell_set4X cK16 ?_; have := HGE.out; omega) | exact cell_alX cK16, by first | with_reducible exact cK17 | with_reducible exact qK17 | with_reducible exact cell_alX cK17 | with_reducible exact cell_alX qK17 | (with_reducible refine cell_set4X cK17 ?_; have := HGE.out; omega) | exact cell_alX cK17, by first | with_reducible exact cK18 | with_reducible exact qK18 | with_reducible exact cell_alX cK18 | with_reducible exact cell_alX qK18 | (with_reducible refine cell_set4X cK18 ?_; have := HGE.out; omega) | exact cell_alX cK18, by first | with_reducible exact cK19 | with_reducible exact qK19 | with_reducible exact cell_alX cK19 | with_reducible exact cell_alX qK19 | (with_reducible refine cell_set4X cK19 ?_; have := HGE.out; omega) | exact cell_alX cK19⟩)
          (first
            | (go_at_call 7; with_reducible refine (data.toPS_any ks _ (w2.alloc (.cells #[.int .i64 0, .int .i64 0, .string ⟨#[]⟩, .slice none 0 0] 34)).drew (by have := HW.out; omega) (AR0.out _ (bel_thruX BB2.out (((Below.refl w2.heap.size w2).alloc (Nat.le_refl _) (.cells #[.int .i64 0, .int .i64 0, .string ⟨#[]⟩, .slice none 0 0] 34)).drew)))).mono ?_; rintro e W3_0 ⟨⟨u0, rfl, r0⟩, hb⟩; have HP1 : Hid (Below w2.heap.size w2 W3_0) := hidX (bel_stepX (((Below.refl w2.heap.size w2).alloc (Nat.le_refl _) (.cells #[.int .i64 0, .int .i64 0, .string ⟨#[]⟩, .slice none 0 0] 34)).drew) hb); have RR0 : Hid (data.dataSh.slice.rep W3_0 (· < W3_0.heap.size) [u0] ks) := hidX (data.dataSh.slice.mono (data.dataps_rep r0) fun b hlt => hlt.2); have ZF : Hid (DZ w2 W3_0 w2.heap.size (.cells #[.int .i64 0, .int .i64 0, .string ⟨#[]⟩, .slice none 0 0] 34)) := hidX (DZ.new2d (X := w2) (Z := (.cells #[.int .i64 0, .int .i64 0, .string ⟨#[]⟩, .slice none 0 0] 34)) (Below.refl _ _) hb); replace cK10 : W3_0.cell? ⟨w.heap.size, 0, none⟩ = some a1_0 := (HP1.out.cell (p := ⟨w.heap.size, 0, none⟩) (show w.heap.size < w2.heap.size by omega)).trans pK10; replace cK11 : W3_0.cell? ⟨w.heap.size, 1, none⟩ = some a1_1 := (HP1.out.cell (p := ⟨w.heap.size, 1, none⟩) (show w.heap.size < w2.heap.size by omega)).trans pK11; replace cK12 : W3_0.cell? ⟨w.heap.size, 2, none⟩ = some a1_2 := (HP1.out.cell (p := ⟨w.heap.size, 2, none⟩) (show w.heap.size < w2.heap.size by omega)).trans pK12; replace cK13 : W3_0.cell? ⟨w.heap.size, 3, none⟩ = some a1_3 := (HP1.out.cell (p := ⟨w.heap.size, 3, none⟩) (show w.heap.size < w2.heap.size by omega)).trans pK13; replace cK14 : W3_0.cell? ⟨w.heap.size, 4, none⟩ = some a1_4 := (HP1.out.cell (p := ⟨w.heap.size, 4, none⟩) (show w.heap.size < w2.heap.size by omega)).trans pK14; replace cK15 : W3_0.cell? ⟨w.heap.size, 5, none⟩ = some a1_5 := (HP1.out.cell (p := ⟨w.heap.size, 5, none⟩) (show w.heap.size < w2.heap.size by omega)).trans pK15; replace cK16 : W3_0.cell? ⟨w.heap.size, 6, none⟩ = some a1_6 := (HP1.out.cell (p := ⟨w.heap.size, 6, none⟩) (show w.heap.size < w2.heap.size by omega)).trans pK16; replace cK17 : W3_0.cell? ⟨w.heap.size, 7, none⟩ = some a1_7 := (HP1.out.cell (p := ⟨w.heap.size, 7, none⟩) (show w.heap.size < w2.heap.size by omega)).trans pK17; replace cK18 : W3_0.cell? ⟨w.heap.size, 8, none⟩ = some a1_8 := (HP1.out.cell (p := ⟨w.heap.size, 8, none⟩) (show w.heap.size < w2.heap.size by omega)).trans pK18; replace cK19 : W3_0.cell? ⟨w.heap.size, 9, none⟩ = some a1_9 := (HP1.out.cell (p := ⟨w.heap.size, 9, none⟩) (show w.heap.size < w2.heap.size by omega)).trans pK19; clear hb r0)
            | (go_at_call 7; with_reducible refine (data.toPS_any ks _ w2.drew (by have := HW.out; omega) (AR0.out _ (bel_thruX BB2.out HP0.out))).mono ?_; rintro e W3_0 ⟨⟨u0, rfl, r0⟩, hb⟩; have HP1 : Hid (Below w2.heap.size w2 W3_0) := hidX (bel_stepX HP0.out hb); have RR0 : Hid (data.dataSh.slice.rep W3_0 (· < W3_0.heap.size) [u0] ks) := hidX (data.dataSh.slice.mono (data.dataps_rep r0) fun b hlt => hlt.2); replace cK10 : W3_0.cell? ⟨w.heap.size, 0, none⟩ = some a1_0 := (HP1.out.cell (p := ⟨w.heap.size, 0, none⟩) (show w.heap.size < w2.heap.size by omega)).trans pK10; replace cK11 : W3_0.cell? ⟨w.heap.size, 1, none⟩ = some a1_1 := (HP1.out.cell (p := ⟨w.heap.size, 1, none⟩) (show w.heap.size < w2.heap.size by omega)).trans pK11; replace cK12 : W3_0.cell? ⟨w.heap.size, 2, none⟩ = some a1_2 := (HP1.out.cell (p := ⟨w.heap.size, 2, none⟩) (show w.heap.size < w2.heap.size by omega)).trans pK12; replace cK13 : W3_0.cell? ⟨w.heap.size, 3, none⟩ = some a1_3 := (HP1.out.cell (p := ⟨w.heap.size, 3, none⟩) (show w.heap.size < w2.heap.size by omega)).trans pK13; replace cK14 : W3_0.cell? ⟨w.heap.size, 4, none⟩ = some a1_4 := (HP1.out.cell (p := ⟨w.heap.size, 4, none⟩) (show w.heap.size < w2.heap.size by omega)).trans pK14; replace cK15 : W3_0.cell? ⟨w.heap.size, 5, none⟩ = some a1_5 := (HP1.out.cell (p := ⟨w.heap.size, 5, none⟩) (show w.heap.size < w2.heap.size by omega)).trans pK15; replace cK16 : W3_0.cell? ⟨w.heap.size, 6, none⟩ = some a1_6 := (HP1.out.cell (p := ⟨w.heap.size, 6, none⟩) (show w.heap.size < w2.heap.size by omega)).trans pK16; replace cK17 : W3_0.cell? ⟨w.heap.size, 7, none⟩ = some a1_7 := (HP1.out.cell (p := ⟨w.heap.size, 7, none⟩) (show w.heap.size < w2.heap.size by omega)).trans pK17; replace cK18 : W3_0.cell? ⟨w.heap.size, 8, none⟩ = some a1_8 := (HP1.out.cell (p := ⟨w.heap.size, 8, none⟩) (show w.heap.size < w2.heap.size by omega)).trans pK18; replace cK19 : W3_0.cell? ⟨w.heap.size, 9, none⟩ = some a1_9 := (HP1.out.cell (p := ⟨w.heap.size, 9, none⟩) (show w.heap.size < w2.heap.size by omega)).trans pK19; clear hb r0)
            | (go_at_call 8; have hcc : Calls Tryz.prog 8 #[.agg #[a1_0, a1_1, a1_2, a1_3, a1_4, a1_5, a1_6, a1_7, a1_8, a1_9]] (W3_0.alloc (.cells #[.int .i64 0, .int .i64 0, .string ⟨#[]⟩, .slice none 0 0] 34)) _ := vm.toP_any T _ (W3_0.alloc (.cells #[.int .i64 0, .int .i64 0, .string ⟨#[]⟩, .slice none 0 0] 34)) (by have := HW.out; omega) (AR1.out _ (bel_thruX BB2.out (HP1.out.alloc HP1.out.size _))); with_reducible refine hcc.mono ?_; clear hcc; rintro e W3_1 ⟨⟨u1, rfl, r1⟩, hb⟩; have HP2 : Hid (Below w2.heap.size w2 W3_1) := hidX (bel_stepX (HP1.out.alloc HP1.out.size _) hb); replace RR0 := hidX (rep_thruX data.dataSh.slice RR0.out (bel_zX hb)); have RR1 : Hid (vm.vmSh.rep W3_1 (· < W3_1.heap.size) u1 T) := hidX (vm.vmSh.mono (vm.vmp_rep r1) fun b hlt => hlt.2); have ZF : Hid (DZ w2 W3_1 W3_0.heap.size (.cells #[.int .i64 0, .int .i64 0, .string ⟨#[]⟩, .slice none 0 0] 34)) := hidX (DZ.new2 (X := W3_0) (Z := (.cells #[.int .i64 0, .int .i64 0, .string ⟨#[]⟩, .slice none 0 0] 34)) (HP1.out) hb); replace cK10 : W3_1.cell? ⟨w.heap.size, 0, none⟩ = some a1_0 := (HP2.out.cell (p := ⟨w.heap.size, 0, none⟩) (show w.heap.size < w2.heap.size by omega)).trans pK10; replace cK11 : W3_1.cell? ⟨w.heap.size, 1, none⟩ = some a1_1 := (HP2.out.cell (p := ⟨w.heap.size, 1, none⟩) (show w.heap.size < w2.heap.size by omega)).trans pK11; replace cK12 : W3_1.cell? ⟨w.heap.size, 2, none⟩ = some a1_2 := (HP2.out.cell (p := ⟨w.heap.size, 2, none⟩) (show w.heap.size < w2.heap.size by omega)).trans pK12; replace cK13 : W3_1.cell? ⟨w.heap.size, 3, none⟩ = some a1_3 := (HP2.out.cell (p := ⟨w.heap.size, 3, none⟩) (show w.heap.size < w2.heap.size by omega)).trans pK13; replace cK14 : W3_1.cell? ⟨w.heap.size, 4, none⟩ = some a1_4 := (HP2.out.cell (p := ⟨w.heap.size, 4, none⟩) (show w.heap.size < w2.heap.size by omega)).trans pK14; replace cK15 : W3_1.cell? ⟨w.heap.size, 5, none⟩ = some a1_5 := (HP2.out.cell (p := ⟨w.heap.size, 5, none⟩) (show w.heap.size < w2.heap.size by omega)).trans pK15; replace cK16 : W3_1.cell? ⟨w.heap.size, 6, none⟩ = some a1_6 := (HP2.out.cell (p := ⟨w.heap.size, 6, none⟩) (show w.heap.size < w2.heap.size by omega)).trans pK16; replace cK17 : W3_1.cell? ⟨w.heap.size, 7, none⟩ = some a1_7 := (HP2.out.cell (p := ⟨w.heap.size, 7, none⟩) (show w.heap.size < w2.heap.size by omega)).trans pK17; replace cK18 : W3_1.cell? ⟨w.heap.size, 8, none⟩ = some a1_8 := (HP2.out.cell (p := ⟨w.heap.size, 8, none⟩) (show w.heap.size < w2.heap.size by omega)).trans pK18; replace cK19 : W3_1.cell? ⟨w.heap.size, 9, none⟩ = some a1_9 := (HP2.out.cell (p := ⟨w.heap.size, 9, none⟩) (show w.heap.size < w2.heap.size by omega)).trans pK19; clear hb r1)
            | (go_at_call 8; have hzz : DZ w2 W3_0 w2.heap.size (.cells #[.int .i64 0, .int .i64 0, .string ⟨#[]⟩, .slice none 0 0] 34) := ZF.out; have hcc : Calls Tryz.prog 8 #[.agg #[a1_0, a1_1, a1_2, a1_3, a1_4, a1_5, a1_6, a1_7, a1_8, a1_9]] W3_0 _ := vm.toP_any T _ W3_0 (by have := HW.out; omega) (AR1.out _ (bel_thruX BB2.out HP1.out)); with_reducible refine hcc.mono ?_; clear hcc; rintro e W3_1 ⟨⟨u1, rfl, r1⟩, hb⟩; have HP2 : Hid (Below w2.heap.size w2 W3_1) := hidX (bel_stepX HP1.out hb); replace RR0 := hidX (rep_thruX data.dataSh.slice RR0.out hb); have RR1 : Hid (vm.vmSh.rep W3_1 (· < W3_1.heap.size) u1 T) := hidX (vm.vmSh.mono (vm.vmp_rep r1) fun b hlt => hlt.2); replace ZF : Hid (DZ w2 W3_1 w2.heap.size (.cells #[.int .i64 0, .int .i64 0, .string ⟨#[]⟩, .slice none 0 0] 34)) := hidX (hzz.on hb); clear hzz; replace cK10 : W3_1.cell? ⟨w.heap.size, 0, none⟩ = some a1_0 := (HP2.out.cell (p := ⟨w.heap.size, 0, none⟩) (show w.heap.size < w2.heap.size by omega)).trans pK10; replace cK11 : W3_1.cell? ⟨w.heap.size, 1, none⟩ = some a1_1 := (HP2.out.cell (p := ⟨w.heap.size, 1, none⟩) (show w.heap.size < w2.heap.size by omega)).trans pK11; replace cK12 : W3_1.cell? ⟨w.heap.size, 2, none⟩ = some a1_2 := (HP2.out.cell (p := ⟨w.heap.size, 2, none⟩) (show w.heap.size < w2.heap.size by omega)).trans pK12; replace cK13 : W3_1.cell? ⟨w.heap.size, 3, none⟩ = some a1_3 := (HP2.out.cell (p := ⟨w.heap.size, 3, none⟩) (show w.heap.size < w2.heap.size by omega)).trans pK13; replace cK14 : W3_1.cell? ⟨w.heap.size, 4, none⟩ = some a1_4 := (HP2.out.cell (p := ⟨w.heap.size, 4, none⟩) (show w.heap.size < w2.heap.size by omega)).trans pK14; replace cK15 : W3_1.cell? ⟨w.heap.size, 5, none⟩ = some a1_5 := (HP2.out.cell (p := ⟨w.heap.size, 5, none⟩) (show w.heap.size < w2.heap.size by omega)).trans pK15; replace cK16 : W3_1.cell? ⟨w.heap.size, 6, none⟩ = some a1_6 := (HP2.out.cell (p := ⟨w.heap.size, 6, none⟩) (show w.heap.size < w2.heap.size by omega)).trans pK16; replace cK17 : W3_1.cell? ⟨w.heap.size, 7, none⟩ = some a1_7 := (HP2.out.cell (p := ⟨w.heap.size, 7, none⟩) (show w.heap.size < w2.heap.size by omega)).trans pK17; replace cK18 : W3_1.cell? ⟨w.heap.size, 8, none⟩ = some a1_8 := (HP2.out.cell (p := ⟨w.heap.size, 8, none⟩) (show w.heap.size < w2.heap.size by omega)).trans pK18; replace cK19 : W3_1.cell? ⟨w.heap.size, 9, none⟩ = some a1_9 := (HP2.out.cell (p := ⟨w.heap.size, 9, none⟩) (show w.heap.size < w2.heap.size by omega)).trans pK19; clear hb r1)
            | (go_at_call 8; have hcc : Calls Tryz.prog 8 #[.agg #[a1_0, a1_1, a1_2, a1_3, a1_4, a1_5, a1_6, a1_7, a1_8, a1_9]] W3_0 _ := vm.toP_any T _ W3_0 (by have := HW.out; omega) (AR1.out _ (bel_thruX BB2.out HP1.out)); with_reducible refine hcc.mono ?_; clear hcc; rintro e W3_1 ⟨⟨u1, rfl, r1⟩, hb⟩; have HP2 : Hid (Below w2.heap.size w2 W3_1) := hidX (bel_stepX HP1.out hb); replace RR0 := hidX (rep_thruX data.dataSh.slice RR0.out hb); have RR1 : Hid (vm.vmSh.rep W3_1 (· < W3_1.heap.size) u1 T) := hidX (vm.vmSh.mono (vm.vmp_rep r1) fun b hlt => hlt.2); replace cK10 : W3_1.cell? ⟨w.heap.size, 0, none⟩ = some a1_0 := (HP2.out.cell (p := ⟨w.heap.size, 0, none⟩) (show w.heap.size < w2.heap.size by omega)).trans pK10; replace cK11 : W3_1.cell? ⟨w.heap.size, 1, none⟩ = some a1_1 := (HP2.out.cell (p := ⟨w.heap.size, 1, none⟩) (show w.heap.size < w2.heap.size by omega)).trans pK11; replace cK12 : W3_1.cell? ⟨w.heap.size, 2, none⟩ = some a1_2 := (HP2.out.cell (p := ⟨w.heap.size, 2, none⟩) (show w.heap.size < w2.heap.size by omega)).trans pK12; replace cK13 : W3_1.cell? ⟨w.heap.size, 3, none⟩ = some a1_3 := (HP2.out.cell (p := ⟨w.heap.size, 3, none⟩) (show w.heap.size < w2.heap.size by omega)).trans pK13; replace cK14 : W3_1.cell? ⟨w.heap.size, 4, none⟩ = some a1_4 := (HP2.out.cell (p := ⟨w.heap.size, 4, none⟩) (show w.heap.size < w2.heap.size by omega)).trans pK14; replace cK15 : W3_1.cell? ⟨w.heap.size, 5, none⟩ = some a1_5 := (HP2.out.cell (p := ⟨w.heap.size, 5, none⟩) (show w.heap.size < w2.heap.size by omega)).trans pK15; replace cK16 : W3_1.cell? ⟨w.heap.size, 6, none⟩ = some a1_6 := (HP2.out.cell (p := ⟨w.heap.size, 6, none⟩) (show w.heap.size < w2.heap.size by omega)).trans pK16; replace cK17 : W3_1.cell? ⟨w.heap.size, 7, none⟩ = some a1_7 := (HP2.out.cell (p := ⟨w.heap.size, 7, none⟩) (show w.heap.size < w2.heap.size by omega)).trans pK17; replace cK18 : W3_1.cell? ⟨w.heap.size, 8, none⟩ = some a1_8 := (HP2.out.cell (p := ⟨w.heap.size, 8, none⟩) (show w.heap.size < w2.heap.size by omega)).trans pK18; replace cK19 : W3_1.cell? ⟨w.heap.size, 9, none⟩ = some a1_9 := (HP2.out.cell (p := ⟨w.heap.size, 9, none⟩) (show w.heap.size < w2.heap.size by omega)).trans pK19; clear hb r1)
            | (go_at_call 6; with_reducible refine (back.specOutcome ks T _ _ (W3_1.alloc (.cells #[.int .i64 0, .int .i64 0, .string ⟨#[]⟩, .slice none 0 0] 34)) HW.out (rep_thruX data.dataSh.slice RR0.out ((Below.refl W3_1.heap.size W3_1).alloc (Nat.le_refl _) (.cells #[.int .i64 0, .int .i64 0, .string ⟨#[]⟩, .slice none 0 0] 34))) (rep_thruX vm.vmSh RR1.out ((Below.refl W3_1.heap.size W3_1).alloc (Nat.le_refl _) (.cells #[.int .i64 0, .int .i64 0, .string ⟨#[]⟩, .slice none 0 0] 34)))).mono ?_; rintro e w3 ⟨⟨u2, rfl, r2⟩, hb⟩; have HP3 : Hid (Below w2.heap.size w2 w3) := hidX (bel_stepX (HP2.out.alloc HP2.out.size _) hb); have ZF : Hid (DZ w2 w3 W3_1.heap.size (.cells #[.int .i64 0, .int .i64 0, .string ⟨#[]⟩, .slice none 0 0] 34)) := hidX (DZ.new2 (X := W3_1) (Z := (.cells #[.int .i64 0, .int .i64 0, .string ⟨#[]⟩, .slice none 0 0] 34)) (HP2.out) hb); obtain ⟨w3_0, w3_1, w3_2, w3_3, rfl⟩ := value.value_list (value.valuep_rep r2); have ow3_0 := value.valueSp.one r2 w3_0 (by simp); have ow3_1 := value.valueSp.one r2 w3_1 (by simp); have ow3_2 := value.valueSp.one r2 w3_2 (by simp); have ow3_3 := value.valueSp.one r2 w3_3 (by simp); have sow3_0 := fun (a : Addr) (m : Mode) (w : World) => run_store Tryz.prog w a w3_0 m ow3_0; have sow3_1 := fun (a : Addr) (m : Mode) (w : World) => run_store Tryz.prog w a w3_1 m ow3_1; have sow3_2 := fun (a : Addr) (m : Mode) (w : World) => run_store Tryz.prog w a w3_2 m ow3_2; have sow3_3 := fun (a : Addr) (m : Mode) (w : World) => run_store Tryz.prog w a w3_3 m ow3_3; have RF : Hid (value.valueSp.rep w3 (fun b => (W3_1.alloc (.cells #[.int .i64 0, .int .i64 0, .string ⟨#[]⟩, .slice none 0 0] 34)).heap.size ≤ b ∧ b < w3.heap.size) [w3_0, w3_1, w3_2, w3_3] (back.outF ks T).1) := hidX r2; have LO3 : Hid (w2.heap.size ≤ (W3_1.alloc (.cells #[.int .i64 0, .int .i64 0, .string ⟨#[]⟩, .slice none 0 0] 34)).heap.size) := hidX (Below.size (HP2.out.alloc HP2.out.size _)); have ZL : Hid (W3_1.heap.size < (W3_1.alloc (.cells #[.int .i64 0, .int .i64 0, .string ⟨#[]⟩, .slice none 0 0] 34)).heap.size) := hidX (by simp); have zc0 : w3.cell? ⟨W3_1.heap.size, 0, none⟩ = some (.int .i64 0) := blkX (i := 0) ZF.out.blk rfl; have zc1 : w3.cell? ⟨W3_1.heap.size, 1, none⟩ = some (.int .i64 0) := blkX (i := 1) ZF.out.blk rfl; have zc2 : w3.cell? ⟨W3_1.heap.size, 2, none⟩ = some (.string ⟨#[]⟩) := blkX (i := 2) ZF.out.blk rfl; have zc3 : w3.cell? ⟨W3_1.heap.size, 3, none⟩ = some (.slice none 0 0) := blkX (i := 3) ZF.out.blk rfl; have zcf : ∀ o, w3.frozen? ⟨W3_1.heap.size, o, none⟩ = false := fun o => frzX ZF.out.blk; have HGE : Hid (w2.heap.size ≤ W3_1.heap.size) := hidX ZF.out.ge; replace cK10 : w3.cell? ⟨w.heap.size, 0, none⟩ = some a1_0 := (HP3.out.cell (p := ⟨w.heap.size, 0, none⟩) (show w.heap.size < w2.heap.size by omega)).trans pK10; replace cK11 : w3.cell? ⟨w.heap.size, 1, none⟩ = some a1_1 := (HP3.out.cell (p := ⟨w.heap.size, 1, none⟩) (show w.heap.size < w2.heap.size by omega)).trans pK11; replace cK12 : w3.cell? ⟨w.heap.size, 2, none⟩ = some a1_2 := (HP3.out.cell (p := ⟨w.heap.size, 2, none⟩) (show w.heap.size < w2.heap.size by omega)).trans pK12; replace cK13 : w3.cell? ⟨w.heap.size, 3, none⟩ = some a1_3 := (HP3.out.cell (p := ⟨w.heap.size, 3, none⟩) (show w.heap.size < w2.heap.size by omega)).trans pK13; replace cK14 : w3.cell? ⟨w.heap.size, 4, none⟩ = some a1_4 := (HP3.out.cell (p := ⟨w.heap.size, 4, none⟩) (show w.heap.size < w2.heap.size by omega)).trans pK14; replace cK15 : w3.cell? ⟨w.heap.size, 5, none⟩ = some a1_5 := (HP3.out.cell (p := ⟨w.heap.size, 5, none⟩) (show w.heap.size < w2.heap.size by omega)).trans pK15; replace cK16 : w3.cell? ⟨w.heap.size, 6, none⟩ = some a1_6 := (HP3.out.cell (p := ⟨w.heap.size, 6, none⟩) (show w.heap.size < w2.heap.size by omega)).trans pK16; replace cK17 : w3.cell? ⟨w.heap.size, 7, none⟩ = some a1_7 := (HP3.out.cell (p := ⟨w.heap.size, 7, none⟩) (show w.heap.size < w2.heap.size by omega)).trans pK17; replace cK18 : w3.cell? ⟨w.heap.size, 8, none⟩ = some a1_8 := (HP3.out.cell (p := ⟨w.heap.size, 8, none⟩) (show w.heap.size < w2.heap.size by omega)).trans pK18; replace cK19 : w3.cell? ⟨w.heap.size, 9, none⟩ = some a1_9 := (HP3.out.cell (p := ⟨w.heap.size, 9, none⟩) (show w.heap.size < w2.heap.size by omega)).trans pK19; clear hb)
            | (go_at_call 6; have hzz : DZ w2 W3_1 w2.heap.size (.cells #[.int .i64 0, .int .i64 0, .string ⟨#[]⟩, .slice none 0 0] 34) := ZF.out; with_reducible refine (back.specOutcome ks T _ _ W3_1 HW.out (rep_thruX data.dataSh.slice RR0.out (Below.refl W3_1.heap.size W3_1)) (rep_thruX vm.vmSh RR1.out (Below.refl W3_1.heap.size W3_1))).mono ?_; rintro e w3 ⟨⟨u2, rfl, r2⟩, hb⟩; have HP3 : Hid (Below w2.heap.size w2 w3) := hidX (bel_stepX HP2.out hb); replace ZF : Hid (DZ w2 w3 w2.heap.size (.cells #[.int .i64 0, .int .i64 0, .string ⟨#[]⟩, .slice none 0 0] 34)) := hidX (hzz.on hb); obtain ⟨w3_0, w3_1, w3_2, w3_3, rfl⟩ := value.value_list (value.valuep_rep r2); have ow3_0 := value.valueSp.one r2 w3_0 (by simp); have ow3_1 := value.valueSp.one r2 w3_1 (by simp); have ow3_2 := value.valueSp.one r2 w3_2 (by simp); have ow3_3 := value.valueSp.one r2 w3_3 (by simp); have sow3_0 := fun (a : Addr) (m : Mode) (w : World) => run_store Tryz.prog w a w3_0 m ow3_0; have sow3_1 := fun (a : Addr) (m : Mode) (w : World) => run_store Tryz.prog w a w3_1 m ow3_1; have sow3_2 := fun (a : Addr) (m : Mode) (w : World) => run_store Tryz.prog w a w3_2 m ow3_2; have sow3_3 := fun (a : Addr) (m : Mode) (w : World) => run_store Tryz.prog w a w3_3 m ow3_3; have RF : Hid (value.valueSp.rep w3 (fun b => W3_1.heap.size ≤ b ∧ b < w3.heap.size) [w3_0, w3_1, w3_2, w3_3] (back.outF ks T).1) := hidX r2; have LO3 : Hid (w2.heap.size ≤ W3_1.heap.size) := hidX (Below.size HP2.out); have ZL : Hid (w2.heap.size < W3_1.heap.size) := hidX hzz.lt; have zc0 : w3.cell? ⟨w2.heap.size, 0, none⟩ = some (.int .i64 0) := blkX (i := 0) ZF.out.blk rfl; have zc1 : w3.cell? ⟨w2.heap.size, 1, none⟩ = some (.int .i64 0) := blkX (i := 1) ZF.out.blk rfl; have zc2 : w3.cell? ⟨w2.heap.size, 2, none⟩ = some (.string ⟨#[]⟩) := blkX (i := 2) ZF.out.blk rfl; have zc3 : w3.cell? ⟨w2.heap.size, 3, none⟩ = some (.slice none 0 0) := blkX (i := 3) ZF.out.blk rfl; have zcf : ∀ o, w3.frozen? ⟨w2.heap.size, o, none⟩ = false := fun o => frzX ZF.out.blk; have HGE : Hid (w2.heap.size ≤ w2.heap.size) := hidX ZF.out.ge; clear hzz; replace cK10 : w3.cell? ⟨w.heap.size, 0, none⟩ = some a1_0 := (HP3.out.cell (p := ⟨w.heap.size, 0, none⟩) (show w.heap.size < w2.heap.size by omega)).trans pK10; replace cK11 : w3.cell? ⟨w.heap.size, 1, none⟩ = some a1_1 := (HP3.out.cell (p := ⟨w.heap.size, 1, none⟩) (show w.heap.size < w2.heap.size by omega)).trans pK11; replace cK12 : w3.cell? ⟨w.heap.size, 2, none⟩ = some a1_2 := (HP3.out.cell (p := ⟨w.heap.size, 2, none⟩) (show w.heap.size < w2.heap.size by omega)).trans pK12; replace cK13 : w3.cell? ⟨w.heap.size, 3, none⟩ = some a1_3 := (HP3.out.cell (p := ⟨w.heap.size, 3, none⟩) (show w.heap.size < w2.heap.size by omega)).trans pK13; replace cK14 : w3.cell? ⟨w.heap.size, 4, none⟩ = some a1_4 := (HP3.out.cell (p := ⟨w.heap.size, 4, none⟩) (show w.heap.size < w2.heap.size by omega)).trans pK14; replace cK15 : w3.cell? ⟨w.heap.size, 5, none⟩ = some a1_5 := (HP3.out.cell (p := ⟨w.heap.size, 5, none⟩) (show w.heap.size < w2.heap.size by omega)).trans pK15; replace cK16 : w3.cell? ⟨w.heap.size, 6, none⟩ = some a1_6 := (HP3.out.cell (p := ⟨w.heap.size, 6, none⟩) (show w.heap.size < w2.heap.size by omega)).trans pK16; replace cK17 : w3.cell? ⟨w.heap.size, 7, none⟩ = some a1_7 := (HP3.out.cell (p := ⟨w.heap.size, 7, none⟩) (show w.heap.size < w2.heap.size by omega)).trans pK17; replace cK18 : w3.cell? ⟨w.heap.size, 8, none⟩ = some a1_8 := (HP3.out.cell (p := ⟨w.heap.size, 8, none⟩) (show w.heap.size < w2.heap.size by omega)).trans pK18; replace cK19 : w3.cell? ⟨w.heap.size, 9, none⟩ = some a1_9 := (HP3.out.cell (p := ⟨w.heap.size, 9, none⟩) (show w.heap.size < w2.heap.size by omega)).trans pK19; clear hb)
            | (go_at_call 6; have hzz : DZ w2 W3_1 W3_0.heap.size (.cells #[.int .i64 0, .int .i64 0, .string ⟨#[]⟩, .slice none 0 0] 34) := ZF.out; with_reducible refine (back.specOutcome ks T _ _ W3_1 HW.out (rep_thruX data.dataSh.slice RR0.out (Below.refl W3_1.heap.size W3_1)) (rep_thruX vm.vmSh RR1.out (Below.refl W3_1.heap.size W3_1))).mono ?_; rintro e w3 ⟨⟨u2, rfl, r2⟩, hb⟩; have HP3 : Hid (Below w2.heap.size w2 w3) := hidX (bel_stepX HP2.out hb); replace ZF : Hid (DZ w2 w3 W3_0.heap.size (.cells #[.int .i64 0, .int .i64 0, .string ⟨#[]⟩, .slice none 0 0] 34)) := hidX (hzz.on hb); obtain ⟨w3_0, w3_1, w3_2, w3_3, rfl⟩ := value.value_list (value.valuep_rep r2); have ow3_0 := value.valueSp.one r2 w3_0 (by simp); have ow3_1 := value.valueSp.one r2 w3_1 (by simp); have ow3_2 := value.valueSp.one r2 w3_2 (by simp); have ow3_3 := value.valueSp.one r2 w3_3 (by simp); have sow3_0 := fun (a : Addr) (m : Mode) (w : World) => run_store Tryz.prog w a w3_0 m ow3_0; have sow3_1 := fun (a : Addr) (m : Mode) (w : World) => run_store Tryz.prog w a w3_1 m ow3_1; have sow3_2 := fun (a : Addr) (m : Mode) (w : World) => run_store Tryz.prog w a w3_2 m ow3_2; have sow3_3 := fun (a : Addr) (m : Mode) (w : World) => run_store Tryz.prog w a w3_3 m ow3_3; have RF : Hid (value.valueSp.rep w3 (fun b => W3_1.heap.size ≤ b ∧ b < w3.heap.size) [w3_0, w3_1, w3_2, w3_3] (back.outF ks T).1) := hidX r2; have LO3 : Hid (w2.heap.size ≤ W3_1.heap.size) := hidX (Below.size HP2.out); have ZL : Hid (W3_0.heap.size < W3_1.heap.size) := hidX hzz.lt; have zc0 : w3.cell? ⟨W3_0.heap.size, 0, none⟩ = some (.int .i64 0) := blkX (i := 0) ZF.out.blk rfl; have zc1 : w3.cell? ⟨W3_0.heap.size, 1, none⟩ = some (.int .i64 0) := blkX (i := 1) ZF.out.blk rfl; have zc2 : w3.cell? ⟨W3_0.heap.size, 2, none⟩ = some (.string ⟨#[]⟩) := blkX (i := 2) ZF.out.blk rfl; have zc3 : w3.cell? ⟨W3_0.heap.size, 3, none⟩ = some (.slice none 0 0) := blkX (i := 3) ZF.out.blk rfl; have zcf : ∀ o, w3.frozen? ⟨W3_0.heap.size, o, none⟩ = false := fun o => frzX ZF.out.blk; have HGE : Hid (w2.heap.size ≤ W3_0.heap.size) := hidX ZF.out.ge; clear hzz; replace cK10 : w3.cell? ⟨w.heap.size, 0, none⟩ = some a1_0 := (HP3.out.cell (p := ⟨w.heap.size, 0, none⟩) (show w.heap.size < w2.heap.size by omega)).trans pK10; replace cK11 : w3.cell? ⟨w.heap.size, 1, none⟩ = some a1_1 := (HP3.out.cell (p := ⟨w.heap.size, 1, none⟩) (show w.heap.size < w2.heap.size by omega)).trans pK11; replace cK12 : w3.cell? ⟨w.heap.size, 2, none⟩ = some a1_2 := (HP3.out.cell (p := ⟨w.heap.size, 2, none⟩) (show w.heap.size < w2.heap.size by omega)).trans pK12; replace cK13 : w3.cell? ⟨w.heap.size, 3, none⟩ = some a1_3 := (HP3.out.cell (p := ⟨w.heap.size, 3, none⟩) (show w.heap.size < w2.heap.size by omega)).trans pK13; replace cK14 : w3.cell? ⟨w.heap.size, 4, none⟩ = some a1_4 := (HP3.out.cell (p := ⟨w.heap.size, 4, none⟩) (show w.heap.size < w2.heap.size by omega)).trans pK14; replace cK15 : w3.cell? ⟨w.heap.size, 5, none⟩ = some a1_5 := (HP3.out.cell (p := ⟨w.heap.size, 5, none⟩) (show w.heap.size < w2.heap.size by omega)).trans pK15; replace cK16 : w3.cell? ⟨w.heap.size, 6, none⟩ = some a1_6 := (HP3.out.cell (p := ⟨w.heap.size, 6, none⟩) (show w.heap.size < w2.heap.size by omega)).trans pK16; replace cK17 : w3.cell? ⟨w.heap.size, 7, none⟩ = some a1_7 := (HP3.out.cell (p := ⟨w.heap.size, 7, none⟩) (show w.heap.size < w2.heap.size by omega)).trans pK17; replace cK18 : w3.cell? ⟨w.heap.size, 8, none⟩ = some a1_8 := (HP3.out.cell (p := ⟨w.heap.size, 8, none⟩) (show w.heap.size < w2.heap.size by omega)).trans pK18; replace cK19 : w3.cell? ⟨w.heap.size, 9, none⟩ = some a1_9 := (HP3.out.cell (p := ⟨w.heap.size, 9, none⟩) (show w.heap.size < w2.heap.size by omega)).trans pK19; clear hb)
            | (go_at_call 6; with_reducible refine (back.specOutcome ks T _ _ W3_1 HW.out (rep_thruX data.dataSh.slice RR0.out (Below.refl W3_1.heap.size W3_1)) (rep_thruX vm.vmSh RR1.out (Below.refl W3_1.heap.size W3_1))).mono ?_; rintro e w3 ⟨⟨u2, rfl, r2⟩, hb⟩; have HP3 : Hid (Below w2.heap.size w2 w3) := hidX (bel_stepX HP2.out hb); obtain ⟨w3_0, w3_1, w3_2, w3_3, rfl⟩ := value.value_list (value.valuep_rep r2); have ow3_0 := value.valueSp.one r2 w3_0 (by simp); have ow3_1 := value.valueSp.one r2 w3_1 (by simp); have ow3_2 := value.valueSp.one r2 w3_2 (by simp); have ow3_3 := value.valueSp.one r2 w3_3 (by simp); have sow3_0 := fun (a : Addr) (m : Mode) (w : World) => run_store Tryz.prog w a w3_0 m ow3_0; have sow3_1 := fun (a : Addr) (m : Mode) (w : World) => run_store Tryz.prog w a w3_1 m ow3_1; have sow3_2 := fun (a : Addr) (m : Mode) (w : World) => run_store Tryz.prog w a w3_2 m ow3_2; have sow3_3 := fun (a : Addr) (m : Mode) (w : World) => run_store Tryz.prog w a w3_3 m ow3_3; have RF : Hid (value.valueSp.rep w3 (fun b => W3_1.heap.size ≤ b ∧ b < w3.heap.size) [w3_0, w3_1, w3_2, w3_3] (back.outF ks T).1) := hidX r2; have LO3 : Hid (w2.heap.size ≤ W3_1.heap.size) := hidX (Below.size HP2.out); replace cK10 : w3.cell? ⟨w.heap.size, 0, none⟩ = some a1_0 := (HP3.out.cell (p := ⟨w.heap.size, 0, none⟩) (show w.heap.size < w2.heap.size by omega)).trans pK10; replace cK11 : w3.cell? ⟨w.heap.size, 1, none⟩ = some a1_1 := (HP3.out.cell (p := ⟨w.heap.size, 1, none⟩) (show w.heap.size < w2.heap.size by omega)).trans pK11; replace cK12 : w3.cell? ⟨w.heap.size, 2, none⟩ = some a1_2 := (HP3.out.cell (p := ⟨w.heap.size, 2, none⟩) (show w.heap.size < w2.heap.size by omega)).trans pK12; replace cK13 : w3.cell? ⟨w.heap.size, 3, none⟩ = some a1_3 := (HP3.out.cell (p := ⟨w.heap.size, 3, none⟩) (show w.heap.size < w2.heap.size by omega)).trans pK13; replace cK14 : w3.cell? ⟨w.heap.size, 4, none⟩ = some a1_4 := (HP3.out.cell (p := ⟨w.heap.size, 4, none⟩) (show w.heap.size < w2.heap.size by omega)).trans pK14; replace cK15 : w3.cell? ⟨w.heap.size, 5, none⟩ = some a1_5 := (HP3.out.cell (p := ⟨w.heap.size, 5, none⟩) (show w.heap.size < w2.heap.size by omega)).trans pK15; replace cK16 : w3.cell? ⟨w.heap.size, 6, none⟩ = some a1_6 := (HP3.out.cell (p := ⟨w.heap.size, 6, none⟩) (show w.heap.size < w2.heap.size by omega)).trans pK16; replace cK17 : w3.cell? ⟨w.heap.size, 7, none⟩ = some a1_7 := (HP3.out.cell (p := ⟨w.heap.size, 7, none⟩) (show w.heap.size < w2.heap.size by omega)).trans pK17; replace cK18 : w3.cell? ⟨w.heap.size, 8, none⟩ = some a1_8 := (HP3.out.cell (p := ⟨w.heap.size, 8, none⟩) (show w.heap.size < w2.heap.size by omega)).trans pK18; replace cK19 : w3.cell? ⟨w.heap.size, 9, none⟩ = some a1_9 := (HP3.out.cell (p := ⟨w.heap.size, 9, none⟩) (show w.heap.size < w2.heap.size by omega)).trans pK19; clear hb))
        all_goals
          go_wp2_with fail
          go_meet
          first
            | exact ⟨_, _, _, _, _, _, _, rfl, rfl, itm_aX HP3.out LO3.out RF.out rfl⟩
            | exact ⟨_, _, _, _, _, _, _, rfl, rfl, itm_z4X HP3.out LO3.out ZF.out ZL.out RF.out⟩
      case rest =>
        obtain ⟨nb3, lo3, hi3, w3_0, w3_1, w3_2, w3_3, rfl, rfl, HC3⟩ := hcut
        rename World => w3
        have hb := HC3.out.1
        have ow3_0 := value.valueSp.one HC3.out.2.1.rep w3_0 (by simp)
        have ow3_1 := value.valueSp.one HC3.out.2.1.rep w3_1 (by simp)
        have ow3_2 := value.valueSp.one HC3.out.2.1.rep w3_2 (by simp)
        have ow3_3 := value.valueSp.one HC3.out.2.1.rep w3_3 (by simp)
        have sow3_0 := fun (a : Addr) (m : Mode) (w : World) => run_store Tryz.prog w a w3_0 m ow3_0
        have sow3_1 := fun (a : Addr) (m : Mode) (w : World) => run_store Tryz.prog w a w3_1 m ow3_1
        have sow3_2 := fun (a : Addr) (m : Mode) (w : World) => run_store Tryz.prog w a w3_2 m ow3_2
        have sow3_3 := fun (a : Addr) (m : Mode) (w : World) => run_store Tryz.prog w a w3_3 m ow3_3
        have K1_3 : Hid (BoxK w3 (w.heap.size) [a1_0, a1_1, a1_2, a1_3, a1_4, a1_5, a1_6, a1_7, a1_8, a1_9] 29) := K1_2.out.on hb
        have BB3 : Hid (Below w.heap.size w w3) := BB2.out.trans (hb.mono BB2.out.size)
        have L2 : Hid (w2.heap.size ≤ w3.heap.size) := hb.size
        have L3 : Hid (w2.heap.size ≤ nb3 ∧ w2.heap.size ≤ lo3 ∧ (nb3 < lo3 ∨ hi3 ≤ nb3) ∧ nb3 < w3.heap.size ∧ hi3 ≤ w3.heap.size) := ⟨HC3.out.2.2.1, HC3.out.2.2.2.1, HC3.out.2.2.2.2, HC3.out.2.1.lt, HC3.out.2.1.top⟩
        have WR0_3 : Hid (Itm value.valueSp w3 nb3 [w3_0, w3_1, w3_2, w3_3] 34 lo3 hi3 (back.outF ks T).1) := HC3.out.2.1
        clear hb HC3 pK10 pK11 pK12 pK13 pK14 pK15 pK16 pK17 pK18 pK19 K1_2 BB2
        go_wp2_with fail
        refine (data.toPS_any ks _ _ (by have := HW.out; omega) (AR0.out _ BB3.out)).mono ?_
        rintro e w4 ⟨⟨k4, rfl, r4⟩, hb⟩
        have K1_4 : Hid (BoxK w4 (w.heap.size) [a1_0, a1_1, a1_2, a1_3, a1_4, a1_5, a1_6, a1_7, a1_8, a1_9] 29) := K1_3.out.on hb
        have WR0_4 : Hid (Itm value.valueSp w4 nb3 [w3_0, w3_1, w3_2, w3_3] 34 lo3 hi3 (back.outF ks T).1) := WR0_3.out.on hb
        have BB4 : Hid (Below w.heap.size w w4) := BB3.out.trans (hb.mono BB3.out.size)
        have L4 : Hid (w3.heap.size ≤ w4.heap.size) := hb.size
        have X0_4 : Hid (ItmR data.dataSp.sslice w4 [k4] w3.heap.size w4.heap.size ks) := ⟨Nat.le_refl _, r4⟩
        clear hb r4 K1_3 WR0_3 BB3
        have cK10 : w4.cell? ⟨w.heap.size, 0, none⟩ = some a1_0 := K1_4.out.cell 0 rfl
        have cK11 : w4.cell? ⟨w.heap.size, 1, none⟩ = some a1_1 := K1_4.out.cell 1 rfl
        have cK12 : w4.cell? ⟨w.heap.size, 2, none⟩ = some a1_2 := K1_4.out.cell 2 rfl
        have cK13 : w4.cell? ⟨w.heap.size, 3, none⟩ = some a1_3 := K1_4.out.cell 3 rfl
        have cK14 : w4.cell? ⟨w.heap.size, 4, none⟩ = some a1_4 := K1_4.out.cell 4 rfl
        have cK15 : w4.cell? ⟨w.heap.size, 5, none⟩ = some a1_5 := K1_4.out.cell 5 rfl
        have cK16 : w4.cell? ⟨w.heap.size, 6, none⟩ = some a1_6 := K1_4.out.cell 6 rfl
        have cK17 : w4.cell? ⟨w.heap.size, 7, none⟩ = some a1_7 := K1_4.out.cell 7 rfl
        have cK18 : w4.cell? ⟨w.heap.size, 8, none⟩ = some a1_8 := K1_4.out.cell 8 rfl
        have cK19 : w4.cell? ⟨w.heap.size, 9, none⟩ = some a1_9 := K1_4.out.cell 9 rfl
        go_wp2_with fail
        refine (vm.toP_any T _ _ (by have := HW.out; omega) (AR1.out _ BB4.out)).mono ?_
        rintro e w5 ⟨⟨k5, rfl, r5⟩, hb⟩
        clear cK10 cK11 cK12 cK13 cK14 cK15 cK16 cK17 cK18 cK19
        obtain ⟨x5_0, x5_1, x5_2, x5_3, x5_4, x5_5, x5_6, x5_7, x5_8, x5_9, rfl⟩ := vm.vm_list (vm.vmp_rep r5)
        have ox5_0 := vm.vmSp.one r5 x5_0 (by simp)
        have ox5_1 := vm.vmSp.one r5 x5_1 (by simp)
        have ox5_2 := vm.vmSp.one r5 x5_2 (by simp)
        have ox5_3 := vm.vmSp.one r5 x5_3 (by simp)
        have ox5_4 := vm.vmSp.one r5 x5_4 (by simp)
        have ox5_5 := vm.vmSp.one r5 x5_5 (by simp)
        have ox5_6 := vm.vmSp.one r5 x5_6 (by simp)
        have ox5_7 := vm.vmSp.one r5 x5_7 (by simp)
        have ox5_8 := vm.vmSp.one r5 x5_8 (by simp)
        have ox5_9 := vm.vmSp.one r5 x5_9 (by simp)
        have sox5_0 := fun (a : Addr) (m : Mode) (w : World) => run_store Tryz.prog w a x5_0 m ox5_0
        have sox5_1 := fun (a : Addr) (m : Mode) (w : World) => run_store Tryz.prog w a x5_1 m ox5_1
        have sox5_2 := fun (a : Addr) (m : Mode) (w : World) => run_store Tryz.prog w a x5_2 m ox5_2
        have sox5_3 := fun (a : Addr) (m : Mode) (w : World) => run_store Tryz.prog w a x5_3 m ox5_3
        have sox5_4 := fun (a : Addr) (m : Mode) (w : World) => run_store Tryz.prog w a x5_4 m ox5_4
        have sox5_5 := fun (a : Addr) (m : Mode) (w : World) => run_store Tryz.prog w a x5_5 m ox5_5
        have sox5_6 := fun (a : Addr) (m : Mode) (w : World) => run_store Tryz.prog w a x5_6 m ox5_6
        have sox5_7 := fun (a : Addr) (m : Mode) (w : World) => run_store Tryz.prog w a x5_7 m ox5_7
        have sox5_8 := fun (a : Addr) (m : Mode) (w : World) => run_store Tryz.prog w a x5_8 m ox5_8
        have sox5_9 := fun (a : Addr) (m : Mode) (w : World) => run_store Tryz.prog w a x5_9 m ox5_9
        obtain ⟨w5b, e5⟩ : ∃ x, x = w5.alloc (.cells #[x5_0, x5_1, x5_2, x5_3, x5_4, x5_5, x5_6, x5_7, x5_8, x5_9] 43) := ⟨_, rfl⟩
        have hA : Below w5.heap.size w5 w5b := by rw [e5]; exact (Below.refl _ _).alloc (Nat.le_refl _) _
        have z5 : w5b.heap.size = w5.heap.size + 1 := by rw [e5]; simp
        have K1_5 : Hid (BoxK w5b (w.heap.size) [a1_0, a1_1, a1_2, a1_3, a1_4, a1_5, a1_6, a1_7, a1_8, a1_9] 29) := (K1_4.out.on hb).on hA
        have WR0_5 : Hid (Itm value.valueSp w5b nb3 [w3_0, w3_1, w3_2, w3_3] 34 lo3 hi3 (back.outF ks T).1) := (WR0_4.out.on hb).on hA
        have X0_5 : Hid (ItmR data.dataSp.sslice w5b [k4] w3.heap.size w4.heap.size ks) := (X0_4.out.on hb).on hA
        have BB5 : Hid (Below w.heap.size w w5b) := (BB4.out.trans (hb.mono BB4.out.size)).trans (hA.mono (Nat.le_trans BB4.out.size hb.size))
        have L5 : Hid (w4.heap.size ≤ w5.heap.size) := hb.size
        have L6 : Hid (w5.heap.size + 1 ≤ w5b.heap.size) := by show _ ≤ _; omega
        have X1_5 : Hid (Itm vm.vmSp w5b w5.heap.size [x5_0, x5_1, x5_2, x5_3, x5_4, x5_5, x5_6, x5_7, x5_8, x5_9] 43 w4.heap.size w5.heap.size T) := by rw [e5]; exact Itm.new r5 (Nat.le_refl _) rfl
        clear hb hA z5 r5 K1_4 WR0_4 X0_4 BB4
        have cX10 : (w5.alloc (.cells #[x5_0, x5_1, x5_2, x5_3, x5_4, x5_5, x5_6, x5_7, x5_8, x5_9] 43)).cell? ⟨w5.heap.size, 0, none⟩ = some x5_0 := by have := X1_5.out.cell 0 (v := x5_0) rfl; rwa [e5] at this
        have cX11 : (w5.alloc (.cells #[x5_0, x5_1, x5_2, x5_3, x5_4, x5_5, x5_6, x5_7, x5_8, x5_9] 43)).cell? ⟨w5.heap.size, 1, none⟩ = some x5_1 := by have := X1_5.out.cell 1 (v := x5_1) rfl; rwa [e5] at this
        have cX12 : (w5.alloc (.cells #[x5_0, x5_1, x5_2, x5_3, x5_4, x5_5, x5_6, x5_7, x5_8, x5_9] 43)).cell? ⟨w5.heap.size, 2, none⟩ = some x5_2 := by have := X1_5.out.cell 2 (v := x5_2) rfl; rwa [e5] at this
        have cX13 : (w5.alloc (.cells #[x5_0, x5_1, x5_2, x5_3, x5_4, x5_5, x5_6, x5_7, x5_8, x5_9] 43)).cell? ⟨w5.heap.size, 3, none⟩ = some x5_3 := by have := X1_5.out.cell 3 (v := x5_3) rfl; rwa [e5] at this
        have cX14 : (w5.alloc (.cells #[x5_0, x5_1, x5_2, x5_3, x5_4, x5_5, x5_6, x5_7, x5_8, x5_9] 43)).cell? ⟨w5.heap.size, 4, none⟩ = some x5_4 := by have := X1_5.out.cell 4 (v := x5_4) rfl; rwa [e5] at this
        have cX15 : (w5.alloc (.cells #[x5_0, x5_1, x5_2, x5_3, x5_4, x5_5, x5_6, x5_7, x5_8, x5_9] 43)).cell? ⟨w5.heap.size, 5, none⟩ = some x5_5 := by have := X1_5.out.cell 5 (v := x5_5) rfl; rwa [e5] at this
        have cX16 : (w5.alloc (.cells #[x5_0, x5_1, x5_2, x5_3, x5_4, x5_5, x5_6, x5_7, x5_8, x5_9] 43)).cell? ⟨w5.heap.size, 6, none⟩ = some x5_6 := by have := X1_5.out.cell 6 (v := x5_6) rfl; rwa [e5] at this
        have cX17 : (w5.alloc (.cells #[x5_0, x5_1, x5_2, x5_3, x5_4, x5_5, x5_6, x5_7, x5_8, x5_9] 43)).cell? ⟨w5.heap.size, 7, none⟩ = some x5_7 := by have := X1_5.out.cell 7 (v := x5_7) rfl; rwa [e5] at this
        have cX18 : (w5.alloc (.cells #[x5_0, x5_1, x5_2, x5_3, x5_4, x5_5, x5_6, x5_7, x5_8, x5_9] 43)).cell? ⟨w5.heap.size, 8, none⟩ = some x5_8 := by have := X1_5.out.cell 8 (v := x5_8) rfl; rwa [e5] at this
        have cX19 : (w5.alloc (.cells #[x5_0, x5_1, x5_2, x5_3, x5_4, x5_5, x5_6, x5_7, x5_8, x5_9] 43)).cell? ⟨w5.heap.size, 9, none⟩ = some x5_9 := by have := X1_5.out.cell 9 (v := x5_9) rfl; rwa [e5] at this
        go_wp2_with fail
        rw [← e5]
        refine (back.implOutcome ks T _ _ _ HW.out (data.dataSh.slice.mono (data.dataps_rep X0_5.out.rep) fun b hb => by have := X0_5.out.top; have := L0.out; have := L1.out; have := L2.out; have := L3.out; have := L4.out; have := L5.out; have := L6.out; omega) (vm.vmSh.mono (vm.vmp_rep X1_5.out.rep) fun b hb => by have := X1_5.out.top; have := L0.out; have := L1.out; have := L2.out; have := L3.out; have := L4.out; have := L5.out; have := L6.out; omega)).mono ?_
        rintro e w6 ⟨⟨u6_0, rfl, r6_0⟩, hb⟩
        clear cX10 cX11 cX12 cX13 cX14 cX15 cX16 cX17 cX18 cX19 e5
        obtain ⟨g6_0, g6_1, g6_2, g6_3, rfl⟩ := value.value_list (value.valuep_rep r6_0)
        have og6_0 := value.valueSp.one r6_0 g6_0 (by simp)
        have og6_1 := value.valueSp.one r6_0 g6_1 (by simp)
        have og6_2 := value.valueSp.one r6_0 g6_2 (by simp)
        have og6_3 := value.valueSp.one r6_0 g6_3 (by simp)
        have sog6_0 := fun (a : Addr) (m : Mode) (w : World) => run_store Tryz.prog w a g6_0 m og6_0
        have sog6_1 := fun (a : Addr) (m : Mode) (w : World) => run_store Tryz.prog w a g6_1 m og6_1
        have sog6_2 := fun (a : Addr) (m : Mode) (w : World) => run_store Tryz.prog w a g6_2 m og6_2
        have sog6_3 := fun (a : Addr) (m : Mode) (w : World) => run_store Tryz.prog w a g6_3 m og6_3
        obtain ⟨w6b, e6⟩ : ∃ x, x = w6.alloc (.cells #[g6_0, g6_1, g6_2, g6_3] 34) := ⟨_, rfl⟩
        have hA : Below w6.heap.size w6 w6b := by rw [e6]; exact (Below.refl _ _).alloc (Nat.le_refl _) _
        have z6 : w6b.heap.size = w6.heap.size + 1 := by rw [e6]; simp
        have K1_6 : Hid (BoxK w6b (w.heap.size) [a1_0, a1_1, a1_2, a1_3, a1_4, a1_5, a1_6, a1_7, a1_8, a1_9] 29) := (K1_5.out.on hb).on hA
        have WR0_6 : Hid (Itm value.valueSp w6b nb3 [w3_0, w3_1, w3_2, w3_3] 34 lo3 hi3 (back.outF ks T).1) := (WR0_5.out.on hb).on hA
        have X0_6 : Hid (ItmR data.dataSp.sslice w6b [k4] w3.heap.size w4.heap.size ks) := (X0_5.out.on hb).on hA
        have X1_6 : Hid (Itm vm.vmSp w6b w5.heap.size [x5_0, x5_1, x5_2, x5_3, x5_4, x5_5, x5_6, x5_7, x5_8, x5_9] 43 w4.heap.size w5.heap.size T) := (X1_5.out.on hb).on hA
        have BB6 : Hid (Below w.heap.size w w6b) := (BB5.out.trans (hb.mono BB5.out.size)).trans (hA.mono (Nat.le_trans BB5.out.size hb.size))
        have L7 : Hid (w5b.heap.size ≤ w6.heap.size) := hb.size
        have L8 : Hid (w6.heap.size + 1 ≤ w6b.heap.size) := by show _ ≤ _; omega
        have GR0_6 : Hid (Itm value.valueSp w6b w6.heap.size [g6_0, g6_1, g6_2, g6_3] 34 w5b.heap.size w6.heap.size (back.outF ks T).1) := by rw [e6]; exact Itm.new r6_0 (Nat.le_refl _) rfl
        clear hb hA z6 r6_0 K1_5 WR0_5 X0_5 X1_5 BB5
        have cGR00 : (w6.alloc (.cells #[g6_0, g6_1, g6_2, g6_3] 34)).cell? ⟨w6.heap.size, 0, none⟩ = some g6_0 := by have := GR0_6.out.cell 0 (v := g6_0) rfl; rwa [e6] at this
        have cGR01 : (w6.alloc (.cells #[g6_0, g6_1, g6_2, g6_3] 34)).cell? ⟨w6.heap.size, 1, none⟩ = some g6_1 := by have := GR0_6.out.cell 1 (v := g6_1) rfl; rwa [e6] at this
        have cGR02 : (w6.alloc (.cells #[g6_0, g6_1, g6_2, g6_3] 34)).cell? ⟨w6.heap.size, 2, none⟩ = some g6_2 := by have := GR0_6.out.cell 2 (v := g6_2) rfl; rwa [e6] at this
        have cGR03 : (w6.alloc (.cells #[g6_0, g6_1, g6_2, g6_3] 34)).cell? ⟨w6.heap.size, 3, none⟩ = some g6_3 := by have := GR0_6.out.cell 3 (v := g6_3) rfl; rwa [e6] at this
        have cWR00 : (w6.alloc (.cells #[g6_0, g6_1, g6_2, g6_3] 34)).cell? ⟨nb3, 0, none⟩ = some w3_0 := by have := WR0_6.out.cell 0 (v := w3_0) rfl; rwa [e6] at this
        have cWR01 : (w6.alloc (.cells #[g6_0, g6_1, g6_2, g6_3] 34)).cell? ⟨nb3, 1, none⟩ = some w3_1 := by have := WR0_6.out.cell 1 (v := w3_1) rfl; rwa [e6] at this
        have cWR02 : (w6.alloc (.cells #[g6_0, g6_1, g6_2, g6_3] 34)).cell? ⟨nb3, 2, none⟩ = some w3_2 := by have := WR0_6.out.cell 2 (v := w3_2) rfl; rwa [e6] at this
        have cWR03 : (w6.alloc (.cells #[g6_0, g6_1, g6_2, g6_3] 34)).cell? ⟨nb3, 3, none⟩ = some w3_3 := by have := WR0_6.out.cell 3 (v := w3_3) rfl; rwa [e6] at this
        go_wp2_with fail
        rw [← e6]
        refine (value.eq_any (back.outF ks T).1 _ _ _ (value.valueSh.mono (value.valuep_rep GR0_6.out.rep) fun b hb => by have := GR0_6.out.top; have := L0.out; have := L1.out; have := L2.out; have := L3.out; have := L4.out; have := L5.out; have := L6.out; have := L7.out; have := L8.out; omega) (value.valueSh.mono (value.valuep_rep WR0_6.out.rep) fun b hb => by have := WR0_6.out.top; have := L0.out; have := L1.out; have := L2.out; have := L3.out; have := L4.out; have := L5.out; have := L6.out; have := L7.out; have := L8.out; omega)).mono ?_
        rintro e w7 ⟨rfl, hb⟩
        clear cGR00 cGR01 cGR02 cGR03 cWR00 cWR01 cWR02 cWR03 e6
        have K1_7 : Hid (BoxK w7 (w.heap.size) [a1_0, a1_1, a1_2, a1_3, a1_4, a1_5, a1_6, a1_7, a1_8, a1_9] 29) := K1_6.out.on hb
        have WR0_7 : Hid (Itm value.valueSp w7 nb3 [w3_0, w3_1, w3_2, w3_3] 34 lo3 hi3 (back.outF ks T).1) := WR0_6.out.on hb
        have X0_7 : Hid (ItmR data.dataSp.sslice w7 [k4] w3.heap.size w4.heap.size ks) := X0_6.out.on hb
        have X1_7 : Hid (Itm vm.vmSp w7 w5.heap.size [x5_0, x5_1, x5_2, x5_3, x5_4, x5_5, x5_6, x5_7, x5_8, x5_9] 43 w4.heap.size w5.heap.size T) := X1_6.out.on hb
        have GR0_7 : Hid (Itm value.valueSp w7 w6.heap.size [g6_0, g6_1, g6_2, g6_3] 34 w5b.heap.size w6.heap.size (back.outF ks T).1) := GR0_6.out.on hb
        have BB7 : Hid (Below w.heap.size w w7) := BB6.out.trans (hb.mono BB6.out.size)
        have L9 : Hid (w6b.heap.size ≤ w7.heap.size) := hb.size
        clear hb K1_6 WR0_6 X0_6 X1_6 GR0_6 BB6
        go_wp2_with fail
        refine (data.toPS_any ks _ _ (by have := HW.out; omega) (AR0.out _ BB7.out)).mono ?_
        rintro e w8 ⟨⟨k8, rfl, r8⟩, hb⟩
        have K1_8 : Hid (BoxK w8 (w.heap.size) [a1_0, a1_1, a1_2, a1_3, a1_4, a1_5, a1_6, a1_7, a1_8, a1_9] 29) := K1_7.out.on hb
        have WR0_8 : Hid (Itm value.valueSp w8 nb3 [w3_0, w3_1, w3_2, w3_3] 34 lo3 hi3 (back.outF ks T).1) := WR0_7.out.on hb
        have X0_8 : Hid (ItmR data.dataSp.sslice w8 [k4] w3.heap.size w4.heap.size ks) := X0_7.out.on hb
        have X1_8 : Hid (Itm vm.vmSp w8 w5.heap.size [x5_0, x5_1, x5_2, x5_3, x5_4, x5_5, x5_6, x5_7, x5_8, x5_9] 43 w4.heap.size w5.heap.size T) := X1_7.out.on hb
        have GR0_8 : Hid (Itm value.valueSp w8 w6.heap.size [g6_0, g6_1, g6_2, g6_3] 34 w5b.heap.size w6.heap.size (back.outF ks T).1) := GR0_7.out.on hb
        have BB8 : Hid (Below w.heap.size w w8) := BB7.out.trans (hb.mono BB7.out.size)
        have L10 : Hid (w7.heap.size ≤ w8.heap.size) := hb.size
        have RT : Hid (data.dataSh.slice.rep w8 (· < w8.heap.size) [k8] ks) := data.dataSh.slice.mono (data.dataps_rep r8) fun b hb => hb.2
        clear hb r8 K1_7 WR0_7 X0_7 X1_7 GR0_7 BB7
        go_wp2_with fail
        refine (data.eqS_any ks _ _ _ (data.dataSh.slice.mono (data.dataps_rep X0_8.out.rep) fun b hb => by have := X0_8.out.top; have := L0.out; have := L1.out; have := L2.out; have := L3.out; have := L4.out; have := L5.out; have := L6.out; have := L7.out; have := L8.out; have := L9.out; have := L10.out; omega) RT.out).mono ?_
        rintro e w9 ⟨rfl, hb⟩
        have K1_9 : Hid (BoxK w9 (w.heap.size) [a1_0, a1_1, a1_2, a1_3, a1_4, a1_5, a1_6, a1_7, a1_8, a1_9] 29) := K1_8.out.on hb
        have WR0_9 : Hid (Itm value.valueSp w9 nb3 [w3_0, w3_1, w3_2, w3_3] 34 lo3 hi3 (back.outF ks T).1) := WR0_8.out.on hb
        have X0_9 : Hid (ItmR data.dataSp.sslice w9 [k4] w3.heap.size w4.heap.size ks) := X0_8.out.on hb
        have X1_9 : Hid (Itm vm.vmSp w9 w5.heap.size [x5_0, x5_1, x5_2, x5_3, x5_4, x5_5, x5_6, x5_7, x5_8, x5_9] 43 w4.heap.size w5.heap.size T) := X1_8.out.on hb
        have GR0_9 : Hid (Itm value.valueSp w9 w6.heap.size [g6_0, g6_1, g6_2, g6_3] 34 w5b.heap.size w6.heap.size (back.outF ks T).1) := GR0_8.out.on hb
        have BB9 : Hid (Below w.heap.size w w9) := BB8.out.trans (hb.mono BB8.out.size)
        have L11 : Hid (w8.heap.size ≤ w9.heap.size) := hb.size
        clear hb RT K1_8 WR0_8 X0_8 X1_8 GR0_8 BB8
        go_wp2
        have cK10 : w9.cell? ⟨w.heap.size, 0, none⟩ = some a1_0 := K1_9.out.cell 0 rfl
        have cK11 : w9.cell? ⟨w.heap.size, 1, none⟩ = some a1_1 := K1_9.out.cell 1 rfl
        have cK12 : w9.cell? ⟨w.heap.size, 2, none⟩ = some a1_2 := K1_9.out.cell 2 rfl
        have cK13 : w9.cell? ⟨w.heap.size, 3, none⟩ = some a1_3 := K1_9.out.cell 3 rfl
        have cK14 : w9.cell? ⟨w.heap.size, 4, none⟩ = some a1_4 := K1_9.out.cell 4 rfl
        have cK15 : w9.cell? ⟨w.heap.size, 5, none⟩ = some a1_5 := K1_9.out.cell 5 rfl
        have cK16 : w9.cell? ⟨w.heap.size, 6, none⟩ = some a1_6 := K1_9.out.cell 6 rfl
        have cK17 : w9.cell? ⟨w.heap.size, 7, none⟩ = some a1_7 := K1_9.out.cell 7 rfl
        have cK18 : w9.cell? ⟨w.heap.size, 8, none⟩ = some a1_8 := K1_9.out.cell 8 rfl
        have cK19 : w9.cell? ⟨w.heap.size, 9, none⟩ = some a1_9 := K1_9.out.cell 9 rfl
        have cX10 : w9.cell? ⟨w5.heap.size, 0, none⟩ = some x5_0 := X1_9.out.cell 0 rfl
        have cX11 : w9.cell? ⟨w5.heap.size, 1, none⟩ = some x5_1 := X1_9.out.cell 1 rfl
        have cX12 : w9.cell? ⟨w5.heap.size, 2, none⟩ = some x5_2 := X1_9.out.cell 2 rfl
        have cX13 : w9.cell? ⟨w5.heap.size, 3, none⟩ = some x5_3 := X1_9.out.cell 3 rfl
        have cX14 : w9.cell? ⟨w5.heap.size, 4, none⟩ = some x5_4 := X1_9.out.cell 4 rfl
        have cX15 : w9.cell? ⟨w5.heap.size, 5, none⟩ = some x5_5 := X1_9.out.cell 5 rfl
        have cX16 : w9.cell? ⟨w5.heap.size, 6, none⟩ = some x5_6 := X1_9.out.cell 6 rfl
        have cX17 : w9.cell? ⟨w5.heap.size, 7, none⟩ = some x5_7 := X1_9.out.cell 7 rfl
        have cX18 : w9.cell? ⟨w5.heap.size, 8, none⟩ = some x5_8 := X1_9.out.cell 8 rfl
        have cX19 : w9.cell? ⟨w5.heap.size, 9, none⟩ = some x5_9 := X1_9.out.cell 9 rfl
        have hcall := vm.toP_any T _ w9.drew (by have := HW.out; omega) (AR1.out _ BB9.out.drew)
        go_region_with (first | (go_at_call 8; refine hcall.mono ?_; rintro e w10 ⟨⟨k10, rfl, r10⟩, hb⟩; have cy0 := (hb.cell (p := ⟨w5.heap.size, 0, none⟩) (show w5.heap.size < w9.heap.size from X1_9.out.lt)).trans cX10; have cy1 := (hb.cell (p := ⟨w5.heap.size, 1, none⟩) (show w5.heap.size < w9.heap.size from X1_9.out.lt)).trans cX11; have cy2 := (hb.cell (p := ⟨w5.heap.size, 2, none⟩) (show w5.heap.size < w9.heap.size from X1_9.out.lt)).trans cX12; have cy3 := (hb.cell (p := ⟨w5.heap.size, 3, none⟩) (show w5.heap.size < w9.heap.size from X1_9.out.lt)).trans cX13; have cy4 := (hb.cell (p := ⟨w5.heap.size, 4, none⟩) (show w5.heap.size < w9.heap.size from X1_9.out.lt)).trans cX14; have cy5 := (hb.cell (p := ⟨w5.heap.size, 5, none⟩) (show w5.heap.size < w9.heap.size from X1_9.out.lt)).trans cX15; have cy6 := (hb.cell (p := ⟨w5.heap.size, 6, none⟩) (show w5.heap.size < w9.heap.size from X1_9.out.lt)).trans cX16; have cy7 := (hb.cell (p := ⟨w5.heap.size, 7, none⟩) (show w5.heap.size < w9.heap.size from X1_9.out.lt)).trans cX17; have cy8 := (hb.cell (p := ⟨w5.heap.size, 8, none⟩) (show w5.heap.size < w9.heap.size from X1_9.out.lt)).trans cX18; have cy9 := (hb.cell (p := ⟨w5.heap.size, 9, none⟩) (show w5.heap.size < w9.heap.size from X1_9.out.lt)).trans cX19) | (go_at_call 12; refine (vm.eq_any T [x5_0, x5_1, x5_2, x5_3, x5_4, x5_5, x5_6, x5_7, x5_8, x5_9] k10 _ (vm.vmSh.mono (vm.vmp_rep ((X1_9.out.on ((Below.refl _ w9).drew.trans hb)).rep)) (fun b hlt => by have := X1_9.out.top; have : w9.heap.size ≤ w10.heap.size := hb.size; omega)) (vm.vmSh.mono (vm.vmp_rep r10) fun b hlt => hlt.2)).mono ?_; rintro e w11 ⟨rfl, hb2⟩))
        all_goals
          have hbb : Below w9.heap.size w9 w11 := ((Below.refl _ w9).drew.trans hb).trans (hb2.mono hb.size)
          have K1_11 : Hid (BoxK w11 (w.heap.size) [a1_0, a1_1, a1_2, a1_3, a1_4, a1_5, a1_6, a1_7, a1_8, a1_9] 29) := K1_9.out.on hbb
          have WR0_11 : Hid (Itm value.valueSp w11 nb3 [w3_0, w3_1, w3_2, w3_3] 34 lo3 hi3 (back.outF ks T).1) := WR0_9.out.on hbb
          have X0_11 : Hid (ItmR data.dataSp.sslice w11 [k4] w3.heap.size w4.heap.size ks) := X0_9.out.on hbb
          have X1_11 : Hid (Itm vm.vmSp w11 w5.heap.size [x5_0, x5_1, x5_2, x5_3, x5_4, x5_5, x5_6, x5_7, x5_8, x5_9] 43 w4.heap.size w5.heap.size T) := X1_9.out.on hbb
          have GR0_11 : Hid (Itm value.valueSp w11 w6.heap.size [g6_0, g6_1, g6_2, g6_3] 34 w5b.heap.size w6.heap.size (back.outF ks T).1) := GR0_9.out.on hbb
          have BB11 : Hid (Below w.heap.size w w11) := BB9.out.trans (hbb.mono BB9.out.size)
          have L12 : Hid (w9.heap.size ≤ w11.heap.size) := hbb.size
          clear hb hb2 hbb r10 hcall cK10 cK11 cK12 cK13 cK14 cK15 cK16 cK17 cK18 cK19 cX10 cX11 cX12 cX13 cX14 cX15 cX16 cX17 cX18 cX19 cy0 cy1 cy2 cy3 cy4 cy5 cy6 cy7 cy8 cy9 K1_9 WR0_9 X0_9 X1_9 GR0_9 BB9
          have hcn0 : data.cnts ks ≤ 1073741824 := back.cnts_boundK ks (by have := HW.out; omega)
          go_wp2_with fail
          refine (data.markS_any ks _ _ (1) (fun b => w3.heap.size ≤ b ∧ b < w4.heap.size) (by omega) (by omega) (fun b hb => by have := X0_11.out.top; have := L0.out; have := L1.out; have := L2.out; have := L3.out; have := L4.out; have := L5.out; have := L6.out; have := L7.out; have := L8.out; have := L9.out; have := L10.out; have := L11.out; have := L12.out; omega) X0_11.out.rep).mono ?_
          rintro e w12 ⟨rfl, -, ho⟩
          have K1_12 : Hid (BoxK w12 (w.heap.size) [a1_0, a1_1, a1_2, a1_3, a1_4, a1_5, a1_6, a1_7, a1_8, a1_9] 29) := K1_11.out.only ho (fun hq => by have := L0.out; have := L1.out; have := L2.out; have := L3.out; have := L4.out; have := L5.out; have := L6.out; have := L7.out; have := L8.out; have := L9.out; have := L10.out; have := L11.out; have := L12.out; omega)
          have WR0_12 : Hid (Itm value.valueSp w12 nb3 [w3_0, w3_1, w3_2, w3_3] 34 lo3 hi3 (back.outF ks T).1) := WR0_11.out.only ho (fun hq => by have := L0.out; have := L1.out; have := L2.out; have := L3.out; have := L4.out; have := L5.out; have := L6.out; have := L7.out; have := L8.out; have := L9.out; have := L10.out; have := L11.out; have := L12.out; omega) (fun b h1 h2 hq => by have := L0.out; have := L1.out; have := L2.out; have := L3.out; have := L4.out; have := L5.out; have := L6.out; have := L7.out; have := L8.out; have := L9.out; have := L10.out; have := L11.out; have := L12.out; omega)
          have X1_12 : Hid (Itm vm.vmSp w12 w5.heap.size [x5_0, x5_1, x5_2, x5_3, x5_4, x5_5, x5_6, x5_7, x5_8, x5_9] 43 w4.heap.size w5.heap.size T) := X1_11.out.only ho (fun hq => by have := L0.out; have := L1.out; have := L2.out; have := L3.out; have := L4.out; have := L5.out; have := L6.out; have := L7.out; have := L8.out; have := L9.out; have := L10.out; have := L11.out; have := L12.out; omega) (fun b h1 h2 hq => by have := L0.out; have := L1.out; have := L2.out; have := L3.out; have := L4.out; have := L5.out; have := L6.out; have := L7.out; have := L8.out; have := L9.out; have := L10.out; have := L11.out; have := L12.out; omega)
          have GR0_12 : Hid (Itm value.valueSp w12 w6.heap.size [g6_0, g6_1, g6_2, g6_3] 34 w5b.heap.size w6.heap.size (back.outF ks T).1) := GR0_11.out.only ho (fun hq => by have := L0.out; have := L1.out; have := L2.out; have := L3.out; have := L4.out; have := L5.out; have := L6.out; have := L7.out; have := L8.out; have := L9.out; have := L10.out; have := L11.out; have := L12.out; omega) (fun b h1 h2 hq => by have := L0.out; have := L1.out; have := L2.out; have := L3.out; have := L4.out; have := L5.out; have := L6.out; have := L7.out; have := L8.out; have := L9.out; have := L10.out; have := L11.out; have := L12.out; omega)
          have BB12 : Hid (Below w.heap.size w w12) := BB11.out.trans (ho.below BB11.out.size fun b hb => by have := L0.out; have := L1.out; have := L2.out; have := L3.out; have := L4.out; have := L5.out; have := L6.out; have := L7.out; have := L8.out; have := L9.out; have := L10.out; have := L11.out; have := L12.out; omega)
          have L13 : Hid (w11.heap.size ≤ w12.heap.size) := ho.size
          clear ho X0_11 K1_11 WR0_11 X1_11 GR0_11 BB11
          obtain ⟨n0, hn0⟩ : ∃ nz : Nat, nz = data.cnts ks := ⟨_, rfl⟩
          rw [← hn0] at hcn0 ⊢
          clear hn0
          have hcn1 : vm.cntT T ≤ 1073741824 := back.cntT_boundV T (by have := HW.out; omega)
          have cX10 : w12.cell? ⟨w5.heap.size, 0, none⟩ = some x5_0 := X1_12.out.cell 0 rfl
          have cX11 : w12.cell? ⟨w5.heap.size, 1, none⟩ = some x5_1 := X1_12.out.cell 1 rfl
          have cX12 : w12.cell? ⟨w5.heap.size, 2, none⟩ = some x5_2 := X1_12.out.cell 2 rfl
          have cX13 : w12.cell? ⟨w5.heap.size, 3, none⟩ = some x5_3 := X1_12.out.cell 3 rfl
          have cX14 : w12.cell? ⟨w5.heap.size, 4, none⟩ = some x5_4 := X1_12.out.cell 4 rfl
          have cX15 : w12.cell? ⟨w5.heap.size, 5, none⟩ = some x5_5 := X1_12.out.cell 5 rfl
          have cX16 : w12.cell? ⟨w5.heap.size, 6, none⟩ = some x5_6 := X1_12.out.cell 6 rfl
          have cX17 : w12.cell? ⟨w5.heap.size, 7, none⟩ = some x5_7 := X1_12.out.cell 7 rfl
          have cX18 : w12.cell? ⟨w5.heap.size, 8, none⟩ = some x5_8 := X1_12.out.cell 8 rfl
          have cX19 : w12.cell? ⟨w5.heap.size, 9, none⟩ = some x5_9 := X1_12.out.cell 9 rfl
          go_wp2_with fail
          refine (vm.markT_any T _ _ (1 + (n0 : Nat)) (fun b => w4.heap.size ≤ b ∧ b < w5.heap.size) (by omega) (by omega) (fun b hb => by have := X1_12.out.top; have := L0.out; have := L1.out; have := L2.out; have := L3.out; have := L4.out; have := L5.out; have := L6.out; have := L7.out; have := L8.out; have := L9.out; have := L10.out; have := L11.out; have := L12.out; have := L13.out; omega) X1_12.out.rep).mono ?_
          rintro e w13 ⟨rfl, ho, -⟩
          clear cX10 cX11 cX12 cX13 cX14 cX15 cX16 cX17 cX18 cX19
          have K1_13 : Hid (BoxK w13 (w.heap.size) [a1_0, a1_1, a1_2, a1_3, a1_4, a1_5, a1_6, a1_7, a1_8, a1_9] 29) := K1_12.out.only ho (fun hq => by have := L0.out; have := L1.out; have := L2.out; have := L3.out; have := L4.out; have := L5.out; have := L6.out; have := L7.out; have := L8.out; have := L9.out; have := L10.out; have := L11.out; have := L12.out; have := L13.out; omega)
          have WR0_13 : Hid (Itm value.valueSp w13 nb3 [w3_0, w3_1, w3_2, w3_3] 34 lo3 hi3 (back.outF ks T).1) := WR0_12.out.only ho (fun hq => by have := L0.out; have := L1.out; have := L2.out; have := L3.out; have := L4.out; have := L5.out; have := L6.out; have := L7.out; have := L8.out; have := L9.out; have := L10.out; have := L11.out; have := L12.out; have := L13.out; omega) (fun b h1 h2 hq => by have := L0.out; have := L1.out; have := L2.out; have := L3.out; have := L4.out; have := L5.out; have := L6.out; have := L7.out; have := L8.out; have := L9.out; have := L10.out; have := L11.out; have := L12.out; have := L13.out; omega)
          have GR0_13 : Hid (Itm value.valueSp w13 w6.heap.size [g6_0, g6_1, g6_2, g6_3] 34 w5b.heap.size w6.heap.size (back.outF ks T).1) := GR0_12.out.only ho (fun hq => by have := L0.out; have := L1.out; have := L2.out; have := L3.out; have := L4.out; have := L5.out; have := L6.out; have := L7.out; have := L8.out; have := L9.out; have := L10.out; have := L11.out; have := L12.out; have := L13.out; omega) (fun b h1 h2 hq => by have := L0.out; have := L1.out; have := L2.out; have := L3.out; have := L4.out; have := L5.out; have := L6.out; have := L7.out; have := L8.out; have := L9.out; have := L10.out; have := L11.out; have := L12.out; have := L13.out; omega)
          have BB13 : Hid (Below w.heap.size w w13) := BB12.out.trans (ho.below BB12.out.size fun b hb => by have := L0.out; have := L1.out; have := L2.out; have := L3.out; have := L4.out; have := L5.out; have := L6.out; have := L7.out; have := L8.out; have := L9.out; have := L10.out; have := L11.out; have := L12.out; have := L13.out; omega)
          have L14 : Hid (w12.heap.size ≤ w13.heap.size) := ho.size
          clear ho X1_12 K1_12 WR0_12 GR0_12 BB12
          obtain ⟨n1, hn1⟩ : ∃ nz : Nat, nz = vm.cntT T := ⟨_, rfl⟩
          rw [← hn1] at hcn1 ⊢
          clear hn1
          have t2 : decide (((1 : Int) + (n0 : Nat) + (n1 : Nat) : Int) < 0) = false := by simp; omega
          have cGR00 : w13.cell? ⟨w6.heap.size, 0, none⟩ = some g6_0 := GR0_13.out.cell 0 rfl
          have cGR01 : w13.cell? ⟨w6.heap.size, 1, none⟩ = some g6_1 := GR0_13.out.cell 1 rfl
          have cGR02 : w13.cell? ⟨w6.heap.size, 2, none⟩ = some g6_2 := GR0_13.out.cell 2 rfl
          have cGR03 : w13.cell? ⟨w6.heap.size, 3, none⟩ = some g6_3 := GR0_13.out.cell 3 rfl
          have cWR00 : w13.cell? ⟨nb3, 0, none⟩ = some w3_0 := WR0_13.out.cell 0 rfl
          have cWR01 : w13.cell? ⟨nb3, 1, none⟩ = some w3_1 := WR0_13.out.cell 1 rfl
          have cWR02 : w13.cell? ⟨nb3, 2, none⟩ = some w3_2 := WR0_13.out.cell 2 rfl
          have cWR03 : w13.cell? ⟨nb3, 3, none⟩ = some w3_3 := WR0_13.out.cell 3 rfl
          go_wp2_with fail
          refine (value.eq_any (back.outF ks T).1 _ _ _ (value.valueSh.mono (value.valuep_rep GR0_13.out.rep) fun b hb => by have := GR0_13.out.top; have := L0.out; have := L1.out; have := L2.out; have := L3.out; have := L4.out; have := L5.out; have := L6.out; have := L7.out; have := L8.out; have := L9.out; have := L10.out; have := L11.out; have := L12.out; have := L13.out; have := L14.out; omega) (value.valueSh.mono (value.valuep_rep WR0_13.out.rep) fun b hb => by have := WR0_13.out.top; have := L0.out; have := L1.out; have := L2.out; have := L3.out; have := L4.out; have := L5.out; have := L6.out; have := L7.out; have := L8.out; have := L9.out; have := L10.out; have := L11.out; have := L12.out; have := L13.out; have := L14.out; omega)).mono ?_
          rintro e w14 ⟨rfl, hb⟩
          clear cGR00 cGR01 cGR02 cGR03 cWR00 cWR01 cWR02 cWR03
          have K1_14 : Hid (BoxK w14 (w.heap.size) [a1_0, a1_1, a1_2, a1_3, a1_4, a1_5, a1_6, a1_7, a1_8, a1_9] 29) := K1_13.out.on hb
          have WR0_14 : Hid (Itm value.valueSp w14 nb3 [w3_0, w3_1, w3_2, w3_3] 34 lo3 hi3 (back.outF ks T).1) := WR0_13.out.on hb
          have GR0_14 : Hid (Itm value.valueSp w14 w6.heap.size [g6_0, g6_1, g6_2, g6_3] 34 w5b.heap.size w6.heap.size (back.outF ks T).1) := GR0_13.out.on hb
          have BB14 : Hid (Below w.heap.size w w14) := BB13.out.trans (hb.mono BB13.out.size)
          have L15 : Hid (w13.heap.size ≤ w14.heap.size) := hb.size
          clear hb K1_13 WR0_13 GR0_13 BB13
          have hcg0 : value.cntT (back.outF ks T).1 ≤ 1073741824 := back.out_bound ks T
          have cGR00 : w14.cell? ⟨w6.heap.size, 0, none⟩ = some g6_0 := GR0_14.out.cell 0 rfl
          have cGR01 : w14.cell? ⟨w6.heap.size, 1, none⟩ = some g6_1 := GR0_14.out.cell 1 rfl
          have cGR02 : w14.cell? ⟨w6.heap.size, 2, none⟩ = some g6_2 := GR0_14.out.cell 2 rfl
          have cGR03 : w14.cell? ⟨w6.heap.size, 3, none⟩ = some g6_3 := GR0_14.out.cell 3 rfl
          go_wp2_with fail
          refine (value.markT_any (back.outF ks T).1 _ _ (1) (fun b => w5b.heap.size ≤ b ∧ b < w6.heap.size) (by omega) (by omega) (fun b hb => by have := GR0_14.out.top; have := L0.out; have := L1.out; have := L2.out; have := L3.out; have := L4.out; have := L5.out; have := L6.out; have := L7.out; have := L8.out; have := L9.out; have := L10.out; have := L11.out; have := L12.out; have := L13.out; have := L14.out; have := L15.out; omega) GR0_14.out.rep).mono ?_
          rintro e w15 ⟨rfl, ho, hr⟩
          clear cGR00 cGR01 cGR02 cGR03
          have K1_15 : Hid (BoxK w15 (w.heap.size) [a1_0, a1_1, a1_2, a1_3, a1_4, a1_5, a1_6, a1_7, a1_8, a1_9] 29) := K1_14.out.only ho (fun hq => by have := L0.out; have := L1.out; have := L2.out; have := L3.out; have := L4.out; have := L5.out; have := L6.out; have := L7.out; have := L8.out; have := L9.out; have := L10.out; have := L11.out; have := L12.out; have := L13.out; have := L14.out; have := L15.out; omega)
          have WR0_15 : Hid (Itm value.valueSp w15 nb3 [w3_0, w3_1, w3_2, w3_3] 34 lo3 hi3 (back.outF ks T).1) := WR0_14.out.only ho (fun hq => by have := L0.out; have := L1.out; have := L2.out; have := L3.out; have := L4.out; have := L5.out; have := L6.out; have := L7.out; have := L8.out; have := L9.out; have := L10.out; have := L11.out; have := L12.out; have := L13.out; have := L14.out; have := L15.out; omega) (fun b h1 h2 hq => by have := L0.out; have := L1.out; have := L2.out; have := L3.out; have := L4.out; have := L5.out; have := L6.out; have := L7.out; have := L8.out; have := L9.out; have := L10.out; have := L11.out; have := L12.out; have := L13.out; have := L14.out; have := L15.out; omega)
          have BB15 : Hid (Below w.heap.size w w15) := BB14.out.trans (ho.below BB14.out.size fun b hb => by have := L0.out; have := L1.out; have := L2.out; have := L3.out; have := L4.out; have := L5.out; have := L6.out; have := L7.out; have := L8.out; have := L9.out; have := L10.out; have := L11.out; have := L12.out; have := L13.out; have := L14.out; have := L15.out; omega)
          have L16 : Hid (w14.heap.size ≤ w15.heap.size) := ho.size
          have GR0_15 : Hid (Itm value.valueSh w15 w6.heap.size [g6_0, g6_1, g6_2, g6_3] 34 w5b.heap.size w6.heap.size (value.mkT 1 (back.outF ks T).1)) := ⟨(ho.block _ GR0_14.out.lt (fun hq => by have := L0.out; have := L1.out; have := L2.out; have := L3.out; have := L4.out; have := L5.out; have := L6.out; have := L7.out; have := L8.out; have := L9.out; have := L10.out; have := L11.out; have := L12.out; have := L13.out; have := L14.out; have := L15.out; have := L16.out; omega)).trans GR0_14.out.blk, Nat.le_trans GR0_14.out.top ho.size, value.valuep_rep hr⟩
          clear ho hr GR0_14 K1_14 WR0_14 BB14
          obtain ⟨m0, hm0⟩ : ∃ nz : Nat, nz = value.cntT (back.outF ks T).1 := ⟨_, rfl⟩
          have HM0 : Hid (m0 = value.cntT (back.outF ks T).1) := hm0
          rw [← hm0] at hcg0 ⊢
          clear hm0
          have cGR00 : w15.cell? ⟨w6.heap.size, 0, none⟩ = some g6_0 := GR0_15.out.cell 0 rfl
          have cGR01 : w15.cell? ⟨w6.heap.size, 1, none⟩ = some g6_1 := GR0_15.out.cell 1 rfl
          have cGR02 : w15.cell? ⟨w6.heap.size, 2, none⟩ = some g6_2 := GR0_15.out.cell 2 rfl
          have cGR03 : w15.cell? ⟨w6.heap.size, 3, none⟩ = some g6_3 := GR0_15.out.cell 3 rfl
          go_wp2_with fail
          refine (value.heldT_any (back.outF ks T).1 _ _ (1) (by omega) (by rw [← HM0.out]; omega) (value.valueSh.mono GR0_15.out.rep fun b hb => by have := GR0_15.out.top; have := L0.out; have := L1.out; have := L2.out; have := L3.out; have := L4.out; have := L5.out; have := L6.out; have := L7.out; have := L8.out; have := L9.out; have := L10.out; have := L11.out; have := L12.out; have := L13.out; have := L14.out; have := L15.out; have := L16.out; omega)).mono ?_
          rw [← HM0.out]
          rintro e w16 ⟨rfl, hb⟩
          clear cGR00 cGR01 cGR02 cGR03
          have K1_16 : Hid (BoxK w16 (w.heap.size) [a1_0, a1_1, a1_2, a1_3, a1_4, a1_5, a1_6, a1_7, a1_8, a1_9] 29) := K1_15.out.on hb
          have WR0_16 : Hid (Itm value.valueSp w16 nb3 [w3_0, w3_1, w3_2, w3_3] 34 lo3 hi3 (back.outF ks T).1) := WR0_15.out.on hb
          have GR0_16 : Hid (Itm value.valueSh w16 w6.heap.size [g6_0, g6_1, g6_2, g6_3] 34 w5b.heap.size w6.heap.size (value.mkT 1 (back.outF ks T).1)) := GR0_15.out.on hb
          have BB16 : Hid (Below w.heap.size w w16) := BB15.out.trans (hb.mono BB15.out.size)
          have L17 : Hid (w15.heap.size ≤ w16.heap.size) := hb.size
          clear hb K1_15 WR0_15 GR0_15 BB15
          have t26 : decide (((1 : Int) + (m0 : Nat) : Int) < 0) = false := by simp; omega
          have pK10 : w16.cell? ⟨w.heap.size, 0, none⟩ = some a1_0 := K1_16.out.cell 0 rfl
          have pK11 : w16.cell? ⟨w.heap.size, 1, none⟩ = some a1_1 := K1_16.out.cell 1 rfl
          have pK12 : w16.cell? ⟨w.heap.size, 2, none⟩ = some a1_2 := K1_16.out.cell 2 rfl
          have pK13 : w16.cell? ⟨w.heap.size, 3, none⟩ = some a1_3 := K1_16.out.cell 3 rfl
          have pK14 : w16.cell? ⟨w.heap.size, 4, none⟩ = some a1_4 := K1_16.out.cell 4 rfl
          have pK15 : w16.cell? ⟨w.heap.size, 5, none⟩ = some a1_5 := K1_16.out.cell 5 rfl
          have pK16 : w16.cell? ⟨w.heap.size, 6, none⟩ = some a1_6 := K1_16.out.cell 6 rfl
          have pK17 : w16.cell? ⟨w.heap.size, 7, none⟩ = some a1_7 := K1_16.out.cell 7 rfl
          have pK18 : w16.cell? ⟨w.heap.size, 8, none⟩ = some a1_8 := K1_16.out.cell 8 rfl
          have pK19 : w16.cell? ⟨w.heap.size, 9, none⟩ = some a1_9 := K1_16.out.cell 9 rfl
          go_upto_region 31 with fail
          go_cut [15, 16] from 94 to 101 (fun v15 v16 X => ∃ (nb lo hi : Nat) (h17_0 h17_1 h17_2 h17_3 : Value), v15 = .pointer (some ⟨nb, 0, none⟩) ∧ v16 = .bool (back.outF ks T).2 ∧ Hid (Below w16.heap.size w16 X ∧ Itm value.valueSp X nb [h17_0, h17_1, h17_2, h17_3] 34 lo hi (back.outF ks T).1 ∧ w16.heap.size ≤ nb ∧ w16.heap.size ≤ lo ∧ (nb < lo ∨ hi ≤ nb)))
          case first =>
            have HP0 : Hid (Below w16.heap.size w16 w16.drew) := hidX ((Below.refl _ _).drew)
            have qK10 : w16.drew.cell? ⟨w.heap.size, 0, none⟩ = some a1_0 := pK10
            have qK11 : w16.drew.cell? ⟨w.heap.size, 1, none⟩ = some a1_1 := pK11
            have qK12 : w16.drew.cell? ⟨w.heap.size, 2, none⟩ = some a1_2 := pK12
            have qK13 : w16.drew.cell? ⟨w.heap.size, 3, none⟩ = some a1_3 := pK13
            have qK14 : w16.drew.cell? ⟨w.heap.size, 4, none⟩ = some a1_4 := pK14
            have qK15 : w16.drew.cell? ⟨w.heap.size, 5, none⟩ = some a1_5 := pK15
            have qK16 : w16.drew.cell? ⟨w.heap.size, 6, none⟩ = some a1_6 := pK16
            have qK17 : w16.drew.cell? ⟨w.heap.size, 7, none⟩ = some a1_7 := pK17
            have qK18 : w16.drew.cell? ⟨w.heap.size, 8, none⟩ = some a1_8 := pK18
            have qK19 : w16.drew.cell? ⟨w.heap.size, 9, none⟩ = some a1_9 := pK19
            have cK10 : w16.cell? ⟨w.heap.size, 0, none⟩ = some a1_0 := pK10
            have cK11 : w16.cell? ⟨w.heap.size, 1, none⟩ = some a1_1 := pK11
            have cK12 : w16.cell? ⟨w.heap.size, 2, none⟩ = some a1_2 := pK12
            have cK13 : w16.cell? ⟨w.heap.size, 3, none⟩ = some a1_3 := pK13
            have cK14 : w16.cell? ⟨w.heap.size, 4, none⟩ = some a1_4 := pK14
            have cK15 : w16.cell? ⟨w.heap.size, 5, none⟩ = some a1_5 := pK15
            have cK16 : w16.cell? ⟨w.heap.size, 6, none⟩ = some a1_6 := pK16
            have cK17 : w16.cell? ⟨w.heap.size, 7, none⟩ = some a1_7 := pK17
            have cK18 : w16.cell? ⟨w.heap.size, 8, none⟩ = some a1_8 := pK18
            have cK19 : w16.cell? ⟨w.heap.size, 9, none⟩ = some a1_9 := pK19
            have hnb1 : w.heap.size < w16.heap.size := K1_16.out.lt
            go_region_held3 (fun X => X.cell? ⟨w.heap.size, 0, none⟩ = some a1_0 ∧ X.cell? ⟨w.heap.size, 1, none⟩ = some a1_1 ∧ X.cell? ⟨w.heap.size, 2, none⟩ = some a1_2 ∧ X.cell? ⟨w.heap.size, 3, none⟩ = some a1_3 ∧ X.cell? ⟨w.heap.size, 4, none⟩ = some a1_4 ∧ X.cell? ⟨w.heap.size, 5, none⟩ = some a1_5 ∧ X.cell? ⟨w.heap.size, 6, none⟩ = some a1_6 ∧ X.cell? ⟨w.heap.size, 7, none⟩ = some a1_7 ∧ X.cell? ⟨w.heap.size, 8, none⟩ = some a1_8 ∧ X.cell? ⟨w.heap.size, 9, none⟩ = some a1_9)
              (exact ⟨by first | with_reducible exact cK10 | with_reducible exact qK10 | with_reducible exact cell_alX cK10 | with_reducible exact cell_alX qK10 | (with_reducible refine cell_set4X cK10 ?_; have := HGE.out; omega) | exact cell_alX cK10, by first | with_reducible exact cK11 | with_reducible exact qK11 | with_reducible exact cell_alX cK11 | with_reducible exact cell_alX qK11 | (with_reducible refine cell_set4X cK11 ?_; have := HGE.out; omega) | exact cell_alX cK11, by first | with_reducible exact cK12 | with_reducible exact qK12 | with_reducible exact cell_alX cK12 | with_reducible exact cell_alX qK12 | (with_reducible refine cell_set4X cK12 ?_; have := HGE.out; omega) | exact cell_alX cK12, by first | with_reducible exact cK13 | with_reducible exact qK13 | with_reducible exact cell_alX cK13 | with_reducible exact cell_alX qK13 | (with_reducible refine cell_set4X cK13 ?_; have := HGE.out; omega) | exact cell_alX cK13, by first | with_reducible exact cK14 | with_reducible exact qK14 | with_reducible exact cell_alX cK14 | with_reducible exact cell_alX qK14 | (with_reducible refine cell_set4X cK14 ?_; have := HGE.out; omega) | exact cell_alX cK14, by first | with_reducible exact cK15 | with_reducible exact qK15 | with_reducible exact cell_alX cK15 | with_reducible exact cell_alX qK15 | (with_reducible refine cell_set4X cK15 ?_; have := HGE.out; omega) | exact cell_alX cK15, by first | with_reducible exact cK16 | with_reducible exact qK16 | with_reducible exact cell_alX cK16 | with_reducible exact cell_alX qK16 | (with_reducible refine cell_set4X cK16 ?_; have := HGE.out; omega) | exact cell_alX cK16, by first | with_reducible exact cK17 | with_reducible exact qK17 | with_reducible exact cell_alX cK17 | with_reducible exact cell_alX qK17 | (with_reducible refine cell_set4X cK17 ?_; have := HGE.out; omega) | exact cell_alX cK17, by first | with_reducible exact cK18 | with_reducible exact qK18 | with_reducible exact cell_alX cK18 | with_reducible exact cell_alX qK18 | (with_reducible refine cell_set4X cK18 ?_; have := HGE.out; omega) | exact cell_alX cK18, by first | with_reducible exact cK19 | with_reducible exact qK19 | with_reducible exact cell_alX cK19 | with_reducible exact cell_alX qK19 | (with_reducible refine cell_set4X cK19 ?_; have := HGE.out; omega) | exact cell_alX cK19⟩)
              (first
                | (go_at_call 7; with_reducible refine (data.toPS_any ks _ (w16.alloc (.cells #[.int .i64 0, .int .i64 0, .string ⟨#[]⟩, .slice none 0 0] 34)).drew (by have := HW.out; omega) (AR0.out _ (bel_thruX BB16.out (((Below.refl w16.heap.size w16).alloc (Nat.le_refl _) (.cells #[.int .i64 0, .int .i64 0, .string ⟨#[]⟩, .slice none 0 0] 34)).drew)))).mono ?_; rintro e W17_0 ⟨⟨u0, rfl, r0⟩, hb⟩; have HP1 : Hid (Below w16.heap.size w16 W17_0) := hidX (bel_stepX (((Below.refl w16.heap.size w16).alloc (Nat.le_refl _) (.cells #[.int .i64 0, .int .i64 0, .string ⟨#[]⟩, .slice none 0 0] 34)).drew) hb); have RR0 : Hid (data.dataSh.slice.rep W17_0 (· < W17_0.heap.size) [u0] ks) := hidX (data.dataSh.slice.mono (data.dataps_rep r0) fun b hlt => hlt.2); have ZF : Hid (DZ w16 W17_0 w16.heap.size (.cells #[.int .i64 0, .int .i64 0, .string ⟨#[]⟩, .slice none 0 0] 34)) := hidX (DZ.new2d (X := w16) (Z := (.cells #[.int .i64 0, .int .i64 0, .string ⟨#[]⟩, .slice none 0 0] 34)) (Below.refl _ _) hb); replace cK10 : W17_0.cell? ⟨w.heap.size, 0, none⟩ = some a1_0 := (HP1.out.cell (p := ⟨w.heap.size, 0, none⟩) (show w.heap.size < w16.heap.size by omega)).trans pK10; replace cK11 : W17_0.cell? ⟨w.heap.size, 1, none⟩ = some a1_1 := (HP1.out.cell (p := ⟨w.heap.size, 1, none⟩) (show w.heap.size < w16.heap.size by omega)).trans pK11; replace cK12 : W17_0.cell? ⟨w.heap.size, 2, none⟩ = some a1_2 := (HP1.out.cell (p := ⟨w.heap.size, 2, none⟩) (show w.heap.size < w16.heap.size by omega)).trans pK12; replace cK13 : W17_0.cell? ⟨w.heap.size, 3, none⟩ = some a1_3 := (HP1.out.cell (p := ⟨w.heap.size, 3, none⟩) (show w.heap.size < w16.heap.size by omega)).trans pK13; replace cK14 : W17_0.cell? ⟨w.heap.size, 4, none⟩ = some a1_4 := (HP1.out.cell (p := ⟨w.heap.size, 4, none⟩) (show w.heap.size < w16.heap.size by omega)).trans pK14; replace cK15 : W17_0.cell? ⟨w.heap.size, 5, none⟩ = some a1_5 := (HP1.out.cell (p := ⟨w.heap.size, 5, none⟩) (show w.heap.size < w16.heap.size by omega)).trans pK15; replace cK16 : W17_0.cell? ⟨w.heap.size, 6, none⟩ = some a1_6 := (HP1.out.cell (p := ⟨w.heap.size, 6, none⟩) (show w.heap.size < w16.heap.size by omega)).trans pK16; replace cK17 : W17_0.cell? ⟨w.heap.size, 7, none⟩ = some a1_7 := (HP1.out.cell (p := ⟨w.heap.size, 7, none⟩) (show w.heap.size < w16.heap.size by omega)).trans pK17; replace cK18 : W17_0.cell? ⟨w.heap.size, 8, none⟩ = some a1_8 := (HP1.out.cell (p := ⟨w.heap.size, 8, none⟩) (show w.heap.size < w16.heap.size by omega)).trans pK18; replace cK19 : W17_0.cell? ⟨w.heap.size, 9, none⟩ = some a1_9 := (HP1.out.cell (p := ⟨w.heap.size, 9, none⟩) (show w.heap.size < w16.heap.size by omega)).trans pK19; clear hb r0)
                | (go_at_call 7; with_reducible refine (data.toPS_any ks _ w16.drew (by have := HW.out; omega) (AR0.out _ (bel_thruX BB16.out HP0.out))).mono ?_; rintro e W17_0 ⟨⟨u0, rfl, r0⟩, hb⟩; have HP1 : Hid (Below w16.heap.size w16 W17_0) := hidX (bel_stepX HP0.out hb); have RR0 : Hid (data.dataSh.slice.rep W17_0 (· < W17_0.heap.size) [u0] ks) := hidX (data.dataSh.slice.mono (data.dataps_rep r0) fun b hlt => hlt.2); replace cK10 : W17_0.cell? ⟨w.heap.size, 0, none⟩ = some a1_0 := (HP1.out.cell (p := ⟨w.heap.size, 0, none⟩) (show w.heap.size < w16.heap.size by omega)).trans pK10; replace cK11 : W17_0.cell? ⟨w.heap.size, 1, none⟩ = some a1_1 := (HP1.out.cell (p := ⟨w.heap.size, 1, none⟩) (show w.heap.size < w16.heap.size by omega)).trans pK11; replace cK12 : W17_0.cell? ⟨w.heap.size, 2, none⟩ = some a1_2 := (HP1.out.cell (p := ⟨w.heap.size, 2, none⟩) (show w.heap.size < w16.heap.size by omega)).trans pK12; replace cK13 : W17_0.cell? ⟨w.heap.size, 3, none⟩ = some a1_3 := (HP1.out.cell (p := ⟨w.heap.size, 3, none⟩) (show w.heap.size < w16.heap.size by omega)).trans pK13; replace cK14 : W17_0.cell? ⟨w.heap.size, 4, none⟩ = some a1_4 := (HP1.out.cell (p := ⟨w.heap.size, 4, none⟩) (show w.heap.size < w16.heap.size by omega)).trans pK14; replace cK15 : W17_0.cell? ⟨w.heap.size, 5, none⟩ = some a1_5 := (HP1.out.cell (p := ⟨w.heap.size, 5, none⟩) (show w.heap.size < w16.heap.size by omega)).trans pK15; replace cK16 : W17_0.cell? ⟨w.heap.size, 6, none⟩ = some a1_6 := (HP1.out.cell (p := ⟨w.heap.size, 6, none⟩) (show w.heap.size < w16.heap.size by omega)).trans pK16; replace cK17 : W17_0.cell? ⟨w.heap.size, 7, none⟩ = some a1_7 := (HP1.out.cell (p := ⟨w.heap.size, 7, none⟩) (show w.heap.size < w16.heap.size by omega)).trans pK17; replace cK18 : W17_0.cell? ⟨w.heap.size, 8, none⟩ = some a1_8 := (HP1.out.cell (p := ⟨w.heap.size, 8, none⟩) (show w.heap.size < w16.heap.size by omega)).trans pK18; replace cK19 : W17_0.cell? ⟨w.heap.size, 9, none⟩ = some a1_9 := (HP1.out.cell (p := ⟨w.heap.size, 9, none⟩) (show w.heap.size < w16.heap.size by omega)).trans pK19; clear hb r0)
                | (go_at_call 8; have hcc : Calls Tryz.prog 8 #[.agg #[a1_0, a1_1, a1_2, a1_3, a1_4, a1_5, a1_6, a1_7, a1_8, a1_9]] (W17_0.alloc (.cells #[.int .i64 0, .int .i64 0, .string ⟨#[]⟩, .slice none 0 0] 34)) _ := vm.toP_any T _ (W17_0.alloc (.cells #[.int .i64 0, .int .i64 0, .string ⟨#[]⟩, .slice none 0 0] 34)) (by have := HW.out; omega) (AR1.out _ (bel_thruX BB16.out (HP1.out.alloc HP1.out.size _))); with_reducible refine hcc.mono ?_; clear hcc; rintro e W17_1 ⟨⟨u1, rfl, r1⟩, hb⟩; have HP2 : Hid (Below w16.heap.size w16 W17_1) := hidX (bel_stepX (HP1.out.alloc HP1.out.size _) hb); replace RR0 := hidX (rep_thruX data.dataSh.slice RR0.out (bel_zX hb)); have RR1 : Hid (vm.vmSh.rep W17_1 (· < W17_1.heap.size) u1 T) := hidX (vm.vmSh.mono (vm.vmp_rep r1) fun b hlt => hlt.2); have ZF : Hid (DZ w16 W17_1 W17_0.heap.size (.cells #[.int .i64 0, .int .i64 0, .string ⟨#[]⟩, .slice none 0 0] 34)) := hidX (DZ.new2 (X := W17_0) (Z := (.cells #[.int .i64 0, .int .i64 0, .string ⟨#[]⟩, .slice none 0 0] 34)) (HP1.out) hb); replace cK10 : W17_1.cell? ⟨w.heap.size, 0, none⟩ = some a1_0 := (HP2.out.cell (p := ⟨w.heap.size, 0, none⟩) (show w.heap.size < w16.heap.size by omega)).trans pK10; replace cK11 : W17_1.cell? ⟨w.heap.size, 1, none⟩ = some a1_1 := (HP2.out.cell (p := ⟨w.heap.size, 1, none⟩) (show w.heap.size < w16.heap.size by omega)).trans pK11; replace cK12 : W17_1.cell? ⟨w.heap.size, 2, none⟩ = some a1_2 := (HP2.out.cell (p := ⟨w.heap.size, 2, none⟩) (show w.heap.size < w16.heap.size by omega)).trans pK12; replace cK13 : W17_1.cell? ⟨w.heap.size, 3, none⟩ = some a1_3 := (HP2.out.cell (p := ⟨w.heap.size, 3, none⟩) (show w.heap.size < w16.heap.size by omega)).trans pK13; replace cK14 : W17_1.cell? ⟨w.heap.size, 4, none⟩ = some a1_4 := (HP2.out.cell (p := ⟨w.heap.size, 4, none⟩) (show w.heap.size < w16.heap.size by omega)).trans pK14; replace cK15 : W17_1.cell? ⟨w.heap.size, 5, none⟩ = some a1_5 := (HP2.out.cell (p := ⟨w.heap.size, 5, none⟩) (show w.heap.size < w16.heap.size by omega)).trans pK15; replace cK16 : W17_1.cell? ⟨w.heap.size, 6, none⟩ = some a1_6 := (HP2.out.cell (p := ⟨w.heap.size, 6, none⟩) (show w.heap.size < w16.heap.size by omega)).trans pK16; replace cK17 : W17_1.cell? ⟨w.heap.size, 7, none⟩ = some a1_7 := (HP2.out.cell (p := ⟨w.heap.size, 7, none⟩) (show w.heap.size < w16.heap.size by omega)).trans pK17; replace cK18 : W17_1.cell? ⟨w.heap.size, 8, none⟩ = some a1_8 := (HP2.out.cell (p := ⟨w.heap.size, 8, none⟩) (show w.heap.size < w16.heap.size by omega)).trans pK18; replace cK19 : W17_1.cell? ⟨w.heap.size, 9, none⟩ = some a1_9 := (HP2.out.cell (p := ⟨w.heap.size, 9, none⟩) (show w.heap.size < w16.heap.size by omega)).trans pK19; clear hb r1)
                | (go_at_call 8; have hzz : DZ w16 W17_0 w16.heap.size (.cells #[.int .i64 0, .int .i64 0, .string ⟨#[]⟩, .slice none 0 0] 34) := ZF.out; have hcc : Calls Tryz.prog 8 #[.agg #[a1_0, a1_1, a1_2, a1_3, a1_4, a1_5, a1_6, a1_7, a1_8, a1_9]] W17_0 _ := vm.toP_any T _ W17_0 (by have := HW.out; omega) (AR1.out _ (bel_thruX BB16.out HP1.out)); with_reducible refine hcc.mono ?_; clear hcc; rintro e W17_1 ⟨⟨u1, rfl, r1⟩, hb⟩; have HP2 : Hid (Below w16.heap.size w16 W17_1) := hidX (bel_stepX HP1.out hb); replace RR0 := hidX (rep_thruX data.dataSh.slice RR0.out hb); have RR1 : Hid (vm.vmSh.rep W17_1 (· < W17_1.heap.size) u1 T) := hidX (vm.vmSh.mono (vm.vmp_rep r1) fun b hlt => hlt.2); replace ZF : Hid (DZ w16 W17_1 w16.heap.size (.cells #[.int .i64 0, .int .i64 0, .string ⟨#[]⟩, .slice none 0 0] 34)) := hidX (hzz.on hb); clear hzz; replace cK10 : W17_1.cell? ⟨w.heap.size, 0, none⟩ = some a1_0 := (HP2.out.cell (p := ⟨w.heap.size, 0, none⟩) (show w.heap.size < w16.heap.size by omega)).trans pK10; replace cK11 : W17_1.cell? ⟨w.heap.size, 1, none⟩ = some a1_1 := (HP2.out.cell (p := ⟨w.heap.size, 1, none⟩) (show w.heap.size < w16.heap.size by omega)).trans pK11; replace cK12 : W17_1.cell? ⟨w.heap.size, 2, none⟩ = some a1_2 := (HP2.out.cell (p := ⟨w.heap.size, 2, none⟩) (show w.heap.size < w16.heap.size by omega)).trans pK12; replace cK13 : W17_1.cell? ⟨w.heap.size, 3, none⟩ = some a1_3 := (HP2.out.cell (p := ⟨w.heap.size, 3, none⟩) (show w.heap.size < w16.heap.size by omega)).trans pK13; replace cK14 : W17_1.cell? ⟨w.heap.size, 4, none⟩ = some a1_4 := (HP2.out.cell (p := ⟨w.heap.size, 4, none⟩) (show w.heap.size < w16.heap.size by omega)).trans pK14; replace cK15 : W17_1.cell? ⟨w.heap.size, 5, none⟩ = some a1_5 := (HP2.out.cell (p := ⟨w.heap.size, 5, none⟩) (show w.heap.size < w16.heap.size by omega)).trans pK15; replace cK16 : W17_1.cell? ⟨w.heap.size, 6, none⟩ = some a1_6 := (HP2.out.cell (p := ⟨w.heap.size, 6, none⟩) (show w.heap.size < w16.heap.size by omega)).trans pK16; replace cK17 : W17_1.cell? ⟨w.heap.size, 7, none⟩ = some a1_7 := (HP2.out.cell (p := ⟨w.heap.size, 7, none⟩) (show w.heap.size < w16.heap.size by omega)).trans pK17; replace cK18 : W17_1.cell? ⟨w.heap.size, 8, none⟩ = some a1_8 := (HP2.out.cell (p := ⟨w.heap.size, 8, none⟩) (show w.heap.size < w16.heap.size by omega)).trans pK18; replace cK19 : W17_1.cell? ⟨w.heap.size, 9, none⟩ = some a1_9 := (HP2.out.cell (p := ⟨w.heap.size, 9, none⟩) (show w.heap.size < w16.heap.size by omega)).trans pK19; clear hb r1)
                | (go_at_call 8; have hcc : Calls Tryz.prog 8 #[.agg #[a1_0, a1_1, a1_2, a1_3, a1_4, a1_5, a1_6, a1_7, a1_8, a1_9]] W17_0 _ := vm.toP_any T _ W17_0 (by have := HW.out; omega) (AR1.out _ (bel_thruX BB16.out HP1.out)); with_reducible refine hcc.mono ?_; clear hcc; rintro e W17_1 ⟨⟨u1, rfl, r1⟩, hb⟩; have HP2 : Hid (Below w16.heap.size w16 W17_1) := hidX (bel_stepX HP1.out hb); replace RR0 := hidX (rep_thruX data.dataSh.slice RR0.out hb); have RR1 : Hid (vm.vmSh.rep W17_1 (· < W17_1.heap.size) u1 T) := hidX (vm.vmSh.mono (vm.vmp_rep r1) fun b hlt => hlt.2); replace cK10 : W17_1.cell? ⟨w.heap.size, 0, none⟩ = some a1_0 := (HP2.out.cell (p := ⟨w.heap.size, 0, none⟩) (show w.heap.size < w16.heap.size by omega)).trans pK10; replace cK11 : W17_1.cell? ⟨w.heap.size, 1, none⟩ = some a1_1 := (HP2.out.cell (p := ⟨w.heap.size, 1, none⟩) (show w.heap.size < w16.heap.size by omega)).trans pK11; replace cK12 : W17_1.cell? ⟨w.heap.size, 2, none⟩ = some a1_2 := (HP2.out.cell (p := ⟨w.heap.size, 2, none⟩) (show w.heap.size < w16.heap.size by omega)).trans pK12; replace cK13 : W17_1.cell? ⟨w.heap.size, 3, none⟩ = some a1_3 := (HP2.out.cell (p := ⟨w.heap.size, 3, none⟩) (show w.heap.size < w16.heap.size by omega)).trans pK13; replace cK14 : W17_1.cell? ⟨w.heap.size, 4, none⟩ = some a1_4 := (HP2.out.cell (p := ⟨w.heap.size, 4, none⟩) (show w.heap.size < w16.heap.size by omega)).trans pK14; replace cK15 : W17_1.cell? ⟨w.heap.size, 5, none⟩ = some a1_5 := (HP2.out.cell (p := ⟨w.heap.size, 5, none⟩) (show w.heap.size < w16.heap.size by omega)).trans pK15; replace cK16 : W17_1.cell? ⟨w.heap.size, 6, none⟩ = some a1_6 := (HP2.out.cell (p := ⟨w.heap.size, 6, none⟩) (show w.heap.size < w16.heap.size by omega)).trans pK16; replace cK17 : W17_1.cell? ⟨w.heap.size, 7, none⟩ = some a1_7 := (HP2.out.cell (p := ⟨w.heap.size, 7, none⟩) (show w.heap.size < w16.heap.size by omega)).trans pK17; replace cK18 : W17_1.cell? ⟨w.heap.size, 8, none⟩ = some a1_8 := (HP2.out.cell (p := ⟨w.heap.size, 8, none⟩) (show w.heap.size < w16.heap.size by omega)).trans pK18; replace cK19 : W17_1.cell? ⟨w.heap.size, 9, none⟩ = some a1_9 := (HP2.out.cell (p := ⟨w.heap.size, 9, none⟩) (show w.heap.size < w16.heap.size by omega)).trans pK19; clear hb r1)
                | (go_at_call 9; with_reducible refine (back.implOutcome ks T _ _ (W17_1.alloc (.cells #[.int .i64 0, .int .i64 0, .string ⟨#[]⟩, .slice none 0 0] 34)) HW.out (rep_thruX data.dataSh.slice RR0.out ((Below.refl W17_1.heap.size W17_1).alloc (Nat.le_refl _) (.cells #[.int .i64 0, .int .i64 0, .string ⟨#[]⟩, .slice none 0 0] 34))) (rep_thruX vm.vmSh RR1.out ((Below.refl W17_1.heap.size W17_1).alloc (Nat.le_refl _) (.cells #[.int .i64 0, .int .i64 0, .string ⟨#[]⟩, .slice none 0 0] 34)))).mono ?_; rintro e w17 ⟨⟨u2, rfl, r2⟩, hb⟩; have HP3 : Hid (Below w16.heap.size w16 w17) := hidX (bel_stepX (HP2.out.alloc HP2.out.size _) hb); have ZF : Hid (DZ w16 w17 W17_1.heap.size (.cells #[.int .i64 0, .int .i64 0, .string ⟨#[]⟩, .slice none 0 0] 34)) := hidX (DZ.new2 (X := W17_1) (Z := (.cells #[.int .i64 0, .int .i64 0, .string ⟨#[]⟩, .slice none 0 0] 34)) (HP2.out) hb); obtain ⟨h17_0, h17_1, h17_2, h17_3, rfl⟩ := value.value_list (value.valuep_rep r2); have oh17_0 := value.valueSp.one r2 h17_0 (by simp); have oh17_1 := value.valueSp.one r2 h17_1 (by simp); have oh17_2 := value.valueSp.one r2 h17_2 (by simp); have oh17_3 := value.valueSp.one r2 h17_3 (by simp); have soh17_0 := fun (a : Addr) (m : Mode) (w : World) => run_store Tryz.prog w a h17_0 m oh17_0; have soh17_1 := fun (a : Addr) (m : Mode) (w : World) => run_store Tryz.prog w a h17_1 m oh17_1; have soh17_2 := fun (a : Addr) (m : Mode) (w : World) => run_store Tryz.prog w a h17_2 m oh17_2; have soh17_3 := fun (a : Addr) (m : Mode) (w : World) => run_store Tryz.prog w a h17_3 m oh17_3; have RF : Hid (value.valueSp.rep w17 (fun b => (W17_1.alloc (.cells #[.int .i64 0, .int .i64 0, .string ⟨#[]⟩, .slice none 0 0] 34)).heap.size ≤ b ∧ b < w17.heap.size) [h17_0, h17_1, h17_2, h17_3] (back.outF ks T).1) := hidX r2; have LO3 : Hid (w16.heap.size ≤ (W17_1.alloc (.cells #[.int .i64 0, .int .i64 0, .string ⟨#[]⟩, .slice none 0 0] 34)).heap.size) := hidX (Below.size (HP2.out.alloc HP2.out.size _)); have ZL : Hid (W17_1.heap.size < (W17_1.alloc (.cells #[.int .i64 0, .int .i64 0, .string ⟨#[]⟩, .slice none 0 0] 34)).heap.size) := hidX (by simp); have zc0 : w17.cell? ⟨W17_1.heap.size, 0, none⟩ = some (.int .i64 0) := blkX (i := 0) ZF.out.blk rfl; have zc1 : w17.cell? ⟨W17_1.heap.size, 1, none⟩ = some (.int .i64 0) := blkX (i := 1) ZF.out.blk rfl; have zc2 : w17.cell? ⟨W17_1.heap.size, 2, none⟩ = some (.string ⟨#[]⟩) := blkX (i := 2) ZF.out.blk rfl; have zc3 : w17.cell? ⟨W17_1.heap.size, 3, none⟩ = some (.slice none 0 0) := blkX (i := 3) ZF.out.blk rfl; have zcf : ∀ o, w17.frozen? ⟨W17_1.heap.size, o, none⟩ = false := fun o => frzX ZF.out.blk; have HGE : Hid (w16.heap.size ≤ W17_1.heap.size) := hidX ZF.out.ge; replace cK10 : w17.cell? ⟨w.heap.size, 0, none⟩ = some a1_0 := (HP3.out.cell (p := ⟨w.heap.size, 0, none⟩) (show w.heap.size < w16.heap.size by omega)).trans pK10; replace cK11 : w17.cell? ⟨w.heap.size, 1, none⟩ = some a1_1 := (HP3.out.cell (p := ⟨w.heap.size, 1, none⟩) (show w.heap.size < w16.heap.size by omega)).trans pK11; replace cK12 : w17.cell? ⟨w.heap.size, 2, none⟩ = some a1_2 := (HP3.out.cell (p := ⟨w.heap.size, 2, none⟩) (show w.heap.size < w16.heap.size by omega)).trans pK12; replace cK13 : w17.cell? ⟨w.heap.size, 3, none⟩ = some a1_3 := (HP3.out.cell (p := ⟨w.heap.size, 3, none⟩) (show w.heap.size < w16.heap.size by omega)).trans pK13; replace cK14 : w17.cell? ⟨w.heap.size, 4, none⟩ = some a1_4 := (HP3.out.cell (p := ⟨w.heap.size, 4, none⟩) (show w.heap.size < w16.heap.size by omega)).trans pK14; replace cK15 : w17.cell? ⟨w.heap.size, 5, none⟩ = some a1_5 := (HP3.out.cell (p := ⟨w.heap.size, 5, none⟩) (show w.heap.size < w16.heap.size by omega)).trans pK15; replace cK16 : w17.cell? ⟨w.heap.size, 6, none⟩ = some a1_6 := (HP3.out.cell (p := ⟨w.heap.size, 6, none⟩) (show w.heap.size < w16.heap.size by omega)).trans pK16; replace cK17 : w17.cell? ⟨w.heap.size, 7, none⟩ = some a1_7 := (HP3.out.cell (p := ⟨w.heap.size, 7, none⟩) (show w.heap.size < w16.heap.size by omega)).trans pK17; replace cK18 : w17.cell? ⟨w.heap.size, 8, none⟩ = some a1_8 := (HP3.out.cell (p := ⟨w.heap.size, 8, none⟩) (show w.heap.size < w16.heap.size by omega)).trans pK18; replace cK19 : w17.cell? ⟨w.heap.size, 9, none⟩ = some a1_9 := (HP3.out.cell (p := ⟨w.heap.size, 9, none⟩) (show w.heap.size < w16.heap.size by omega)).trans pK19; clear hb)
                | (go_at_call 9; have hzz : DZ w16 W17_1 w16.heap.size (.cells #[.int .i64 0, .int .i64 0, .string ⟨#[]⟩, .slice none 0 0] 34) := ZF.out; with_reducible refine (back.implOutcome ks T _ _ W17_1 HW.out (rep_thruX data.dataSh.slice RR0.out (Below.refl W17_1.heap.size W17_1)) (rep_thruX vm.vmSh RR1.out (Below.refl W17_1.heap.size W17_1))).mono ?_; rintro e w17 ⟨⟨u2, rfl, r2⟩, hb⟩; have HP3 : Hid (Below w16.heap.size w16 w17) := hidX (bel_stepX HP2.out hb); replace ZF : Hid (DZ w16 w17 w16.heap.size (.cells #[.int .i64 0, .int .i64 0, .string ⟨#[]⟩, .slice none 0 0] 34)) := hidX (hzz.on hb); obtain ⟨h17_0, h17_1, h17_2, h17_3, rfl⟩ := value.value_list (value.valuep_rep r2); have oh17_0 := value.valueSp.one r2 h17_0 (by simp); have oh17_1 := value.valueSp.one r2 h17_1 (by simp); have oh17_2 := value.valueSp.one r2 h17_2 (by simp); have oh17_3 := value.valueSp.one r2 h17_3 (by simp); have soh17_0 := fun (a : Addr) (m : Mode) (w : World) => run_store Tryz.prog w a h17_0 m oh17_0; have soh17_1 := fun (a : Addr) (m : Mode) (w : World) => run_store Tryz.prog w a h17_1 m oh17_1; have soh17_2 := fun (a : Addr) (m : Mode) (w : World) => run_store Tryz.prog w a h17_2 m oh17_2; have soh17_3 := fun (a : Addr) (m : Mode) (w : World) => run_store Tryz.prog w a h17_3 m oh17_3; have RF : Hid (value.valueSp.rep w17 (fun b => W17_1.heap.size ≤ b ∧ b < w17.heap.size) [h17_0, h17_1, h17_2, h17_3] (back.outF ks T).1) := hidX r2; have LO3 : Hid (w16.heap.size ≤ W17_1.heap.size) := hidX (Below.size HP2.out); have ZL : Hid (w16.heap.size < W17_1.heap.size) := hidX hzz.lt; have zc0 : w17.cell? ⟨w16.heap.size, 0, none⟩ = some (.int .i64 0) := blkX (i := 0) ZF.out.blk rfl; have zc1 : w17.cell? ⟨w16.heap.size, 1, none⟩ = some (.int .i64 0) := blkX (i := 1) ZF.out.blk rfl; have zc2 : w17.cell? ⟨w16.heap.size, 2, none⟩ = some (.string ⟨#[]⟩) := blkX (i := 2) ZF.out.blk rfl; have zc3 : w17.cell? ⟨w16.heap.size, 3, none⟩ = some (.slice none 0 0) := blkX (i := 3) ZF.out.blk rfl; have zcf : ∀ o, w17.frozen? ⟨w16.heap.size, o, none⟩ = false := fun o => frzX ZF.out.blk; have HGE : Hid (w16.heap.size ≤ w16.heap.size) := hidX ZF.out.ge; clear hzz; replace cK10 : w17.cell? ⟨w.heap.size, 0, none⟩ = some a1_0 := (HP3.out.cell (p := ⟨w.heap.size, 0, none⟩) (show w.heap.size < w16.heap.size by omega)).trans pK10; replace cK11 : w17.cell? ⟨w.heap.size, 1, none⟩ = some a1_1 := (HP3.out.cell (p := ⟨w.heap.size, 1, none⟩) (show w.heap.size < w16.heap.size by omega)).trans pK11; replace cK12 : w17.cell? ⟨w.heap.size, 2, none⟩ = some a1_2 := (HP3.out.cell (p := ⟨w.heap.size, 2, none⟩) (show w.heap.size < w16.heap.size by omega)).trans pK12; replace cK13 : w17.cell? ⟨w.heap.size, 3, none⟩ = some a1_3 := (HP3.out.cell (p := ⟨w.heap.size, 3, none⟩) (show w.heap.size < w16.heap.size by omega)).trans pK13; replace cK14 : w17.cell? ⟨w.heap.size, 4, none⟩ = some a1_4 := (HP3.out.cell (p := ⟨w.heap.size, 4, none⟩) (show w.heap.size < w16.heap.size by omega)).trans pK14; replace cK15 : w17.cell? ⟨w.heap.size, 5, none⟩ = some a1_5 := (HP3.out.cell (p := ⟨w.heap.size, 5, none⟩) (show w.heap.size < w16.heap.size by omega)).trans pK15; replace cK16 : w17.cell? ⟨w.heap.size, 6, none⟩ = some a1_6 := (HP3.out.cell (p := ⟨w.heap.size, 6, none⟩) (show w.heap.size < w16.heap.size by omega)).trans pK16; replace cK17 : w17.cell? ⟨w.heap.size, 7, none⟩ = some a1_7 := (HP3.out.cell (p := ⟨w.heap.size, 7, none⟩) (show w.heap.size < w16.heap.size by omega)).trans pK17; replace cK18 : w17.cell? ⟨w.heap.size, 8, none⟩ = some a1_8 := (HP3.out.cell (p := ⟨w.heap.size, 8, none⟩) (show w.heap.size < w16.heap.size by omega)).trans pK18; replace cK19 : w17.cell? ⟨w.heap.size, 9, none⟩ = some a1_9 := (HP3.out.cell (p := ⟨w.heap.size, 9, none⟩) (show w.heap.size < w16.heap.size by omega)).trans pK19; clear hb)
                | (go_at_call 9; have hzz : DZ w16 W17_1 W17_0.heap.size (.cells #[.int .i64 0, .int .i64 0, .string ⟨#[]⟩, .slice none 0 0] 34) := ZF.out; with_reducible refine (back.implOutcome ks T _ _ W17_1 HW.out (rep_thruX data.dataSh.slice RR0.out (Below.refl W17_1.heap.size W17_1)) (rep_thruX vm.vmSh RR1.out (Below.refl W17_1.heap.size W17_1))).mono ?_; rintro e w17 ⟨⟨u2, rfl, r2⟩, hb⟩; have HP3 : Hid (Below w16.heap.size w16 w17) := hidX (bel_stepX HP2.out hb); replace ZF : Hid (DZ w16 w17 W17_0.heap.size (.cells #[.int .i64 0, .int .i64 0, .string ⟨#[]⟩, .slice none 0 0] 34)) := hidX (hzz.on hb); obtain ⟨h17_0, h17_1, h17_2, h17_3, rfl⟩ := value.value_list (value.valuep_rep r2); have oh17_0 := value.valueSp.one r2 h17_0 (by simp); have oh17_1 := value.valueSp.one r2 h17_1 (by simp); have oh17_2 := value.valueSp.one r2 h17_2 (by simp); have oh17_3 := value.valueSp.one r2 h17_3 (by simp); have soh17_0 := fun (a : Addr) (m : Mode) (w : World) => run_store Tryz.prog w a h17_0 m oh17_0; have soh17_1 := fun (a : Addr) (m : Mode) (w : World) => run_store Tryz.prog w a h17_1 m oh17_1; have soh17_2 := fun (a : Addr) (m : Mode) (w : World) => run_store Tryz.prog w a h17_2 m oh17_2; have soh17_3 := fun (a : Addr) (m : Mode) (w : World) => run_store Tryz.prog w a h17_3 m oh17_3; have RF : Hid (value.valueSp.rep w17 (fun b => W17_1.heap.size ≤ b ∧ b < w17.heap.size) [h17_0, h17_1, h17_2, h17_3] (back.outF ks T).1) := hidX r2; have LO3 : Hid (w16.heap.size ≤ W17_1.heap.size) := hidX (Below.size HP2.out); have ZL : Hid (W17_0.heap.size < W17_1.heap.size) := hidX hzz.lt; have zc0 : w17.cell? ⟨W17_0.heap.size, 0, none⟩ = some (.int .i64 0) := blkX (i := 0) ZF.out.blk rfl; have zc1 : w17.cell? ⟨W17_0.heap.size, 1, none⟩ = some (.int .i64 0) := blkX (i := 1) ZF.out.blk rfl; have zc2 : w17.cell? ⟨W17_0.heap.size, 2, none⟩ = some (.string ⟨#[]⟩) := blkX (i := 2) ZF.out.blk rfl; have zc3 : w17.cell? ⟨W17_0.heap.size, 3, none⟩ = some (.slice none 0 0) := blkX (i := 3) ZF.out.blk rfl; have zcf : ∀ o, w17.frozen? ⟨W17_0.heap.size, o, none⟩ = false := fun o => frzX ZF.out.blk; have HGE : Hid (w16.heap.size ≤ W17_0.heap.size) := hidX ZF.out.ge; clear hzz; replace cK10 : w17.cell? ⟨w.heap.size, 0, none⟩ = some a1_0 := (HP3.out.cell (p := ⟨w.heap.size, 0, none⟩) (show w.heap.size < w16.heap.size by omega)).trans pK10; replace cK11 : w17.cell? ⟨w.heap.size, 1, none⟩ = some a1_1 := (HP3.out.cell (p := ⟨w.heap.size, 1, none⟩) (show w.heap.size < w16.heap.size by omega)).trans pK11; replace cK12 : w17.cell? ⟨w.heap.size, 2, none⟩ = some a1_2 := (HP3.out.cell (p := ⟨w.heap.size, 2, none⟩) (show w.heap.size < w16.heap.size by omega)).trans pK12; replace cK13 : w17.cell? ⟨w.heap.size, 3, none⟩ = some a1_3 := (HP3.out.cell (p := ⟨w.heap.size, 3, none⟩) (show w.heap.size < w16.heap.size by omega)).trans pK13; replace cK14 : w17.cell? ⟨w.heap.size, 4, none⟩ = some a1_4 := (HP3.out.cell (p := ⟨w.heap.size, 4, none⟩) (show w.heap.size < w16.heap.size by omega)).trans pK14; replace cK15 : w17.cell? ⟨w.heap.size, 5, none⟩ = some a1_5 := (HP3.out.cell (p := ⟨w.heap.size, 5, none⟩) (show w.heap.size < w16.heap.size by omega)).trans pK15; replace cK16 : w17.cell? ⟨w.heap.size, 6, none⟩ = some a1_6 := (HP3.out.cell (p := ⟨w.heap.size, 6, none⟩) (show w.heap.size < w16.heap.size by omega)).trans pK16; replace cK17 : w17.cell? ⟨w.heap.size, 7, none⟩ = some a1_7 := (HP3.out.cell (p := ⟨w.heap.size, 7, none⟩) (show w.heap.size < w16.heap.size by omega)).trans pK17; replace cK18 : w17.cell? ⟨w.heap.size, 8, none⟩ = some a1_8 := (HP3.out.cell (p := ⟨w.heap.size, 8, none⟩) (show w.heap.size < w16.heap.size by omega)).trans pK18; replace cK19 : w17.cell? ⟨w.heap.size, 9, none⟩ = some a1_9 := (HP3.out.cell (p := ⟨w.heap.size, 9, none⟩) (show w.heap.size < w16.heap.size by omega)).trans pK19; clear hb)
                | (go_at_call 9; with_reducible refine (back.implOutcome ks T _ _ W17_1 HW.out (rep_thruX data.dataSh.slice RR0.out (Below.refl W17_1.heap.size W17_1)) (rep_thruX vm.vmSh RR1.out (Below.refl W17_1.heap.size W17_1))).mono ?_; rintro e w17 ⟨⟨u2, rfl, r2⟩, hb⟩; have HP3 : Hid (Below w16.heap.size w16 w17) := hidX (bel_stepX HP2.out hb); obtain ⟨h17_0, h17_1, h17_2, h17_3, rfl⟩ := value.value_list (value.valuep_rep r2); have oh17_0 := value.valueSp.one r2 h17_0 (by simp); have oh17_1 := value.valueSp.one r2 h17_1 (by simp); have oh17_2 := value.valueSp.one r2 h17_2 (by simp); have oh17_3 := value.valueSp.one r2 h17_3 (by simp); have soh17_0 := fun (a : Addr) (m : Mode) (w : World) => run_store Tryz.prog w a h17_0 m oh17_0; have soh17_1 := fun (a : Addr) (m : Mode) (w : World) => run_store Tryz.prog w a h17_1 m oh17_1; have soh17_2 := fun (a : Addr) (m : Mode) (w : World) => run_store Tryz.prog w a h17_2 m oh17_2; have soh17_3 := fun (a : Addr) (m : Mode) (w : World) => run_store Tryz.prog w a h17_3 m oh17_3; have RF : Hid (value.valueSp.rep w17 (fun b => W17_1.heap.size ≤ b ∧ b < w17.heap.size) [h17_0, h17_1, h17_2, h17_3] (back.outF ks T).1) := hidX r2; have LO3 : Hid (w16.heap.size ≤ W17_1.heap.size) := hidX (Below.size HP2.out); replace cK10 : w17.cell? ⟨w.heap.size, 0, none⟩ = some a1_0 := (HP3.out.cell (p := ⟨w.heap.size, 0, none⟩) (show w.heap.size < w16.heap.size by omega)).trans pK10; replace cK11 : w17.cell? ⟨w.heap.size, 1, none⟩ = some a1_1 := (HP3.out.cell (p := ⟨w.heap.size, 1, none⟩) (show w.heap.size < w16.heap.size by omega)).trans pK11; replace cK12 : w17.cell? ⟨w.heap.size, 2, none⟩ = some a1_2 := (HP3.out.cell (p := ⟨w.heap.size, 2, none⟩) (show w.heap.size < w16.heap.size by omega)).trans pK12; replace cK13 : w17.cell? ⟨w.heap.size, 3, none⟩ = some a1_3 := (HP3.out.cell (p := ⟨w.heap.size, 3, none⟩) (show w.heap.size < w16.heap.size by omega)).trans pK13; replace cK14 : w17.cell? ⟨w.heap.size, 4, none⟩ = some a1_4 := (HP3.out.cell (p := ⟨w.heap.size, 4, none⟩) (show w.heap.size < w16.heap.size by omega)).trans pK14; replace cK15 : w17.cell? ⟨w.heap.size, 5, none⟩ = some a1_5 := (HP3.out.cell (p := ⟨w.heap.size, 5, none⟩) (show w.heap.size < w16.heap.size by omega)).trans pK15; replace cK16 : w17.cell? ⟨w.heap.size, 6, none⟩ = some a1_6 := (HP3.out.cell (p := ⟨w.heap.size, 6, none⟩) (show w.heap.size < w16.heap.size by omega)).trans pK16; replace cK17 : w17.cell? ⟨w.heap.size, 7, none⟩ = some a1_7 := (HP3.out.cell (p := ⟨w.heap.size, 7, none⟩) (show w.heap.size < w16.heap.size by omega)).trans pK17; replace cK18 : w17.cell? ⟨w.heap.size, 8, none⟩ = some a1_8 := (HP3.out.cell (p := ⟨w.heap.size, 8, none⟩) (show w.heap.size < w16.heap.size by omega)).trans pK18; replace cK19 : w17.cell? ⟨w.heap.size, 9, none⟩ = some a1_9 := (HP3.out.cell (p := ⟨w.heap.size, 9, none⟩) (show w.heap.size < w16.heap.size by omega)).trans pK19; clear hb))
            all_goals
              go_wp2_with fail
              go_meet
              first
                | exact ⟨_, _, _, _, _, _, _, rfl, rfl, itm_aX HP3.out LO3.out RF.out rfl⟩
                | exact ⟨_, _, _, _, _, _, _, rfl, rfl, itm_z4X HP3.out LO3.out ZF.out ZL.out RF.out⟩
          case rest =>
            obtain ⟨nb17, lo17, hi17, h17_0, h17_1, h17_2, h17_3, rfl, rfl, HC17⟩ := hcut
            rename World => w17
            have hb := HC17.out.1
            have oh17_0 := value.valueSp.one HC17.out.2.1.rep h17_0 (by simp)
            have oh17_1 := value.valueSp.one HC17.out.2.1.rep h17_1 (by simp)
            have oh17_2 := value.valueSp.one HC17.out.2.1.rep h17_2 (by simp)
            have oh17_3 := value.valueSp.one HC17.out.2.1.rep h17_3 (by simp)
            have soh17_0 := fun (a : Addr) (m : Mode) (w : World) => run_store Tryz.prog w a h17_0 m oh17_0
            have soh17_1 := fun (a : Addr) (m : Mode) (w : World) => run_store Tryz.prog w a h17_1 m oh17_1
            have soh17_2 := fun (a : Addr) (m : Mode) (w : World) => run_store Tryz.prog w a h17_2 m oh17_2
            have soh17_3 := fun (a : Addr) (m : Mode) (w : World) => run_store Tryz.prog w a h17_3 m oh17_3
            have K1_17 : Hid (BoxK w17 (w.heap.size) [a1_0, a1_1, a1_2, a1_3, a1_4, a1_5, a1_6, a1_7, a1_8, a1_9] 29) := K1_16.out.on hb
            have WR0_17 : Hid (Itm value.valueSp w17 nb3 [w3_0, w3_1, w3_2, w3_3] 34 lo3 hi3 (back.outF ks T).1) := WR0_16.out.on hb
            have GR0_17 : Hid (Itm value.valueSh w17 w6.heap.size [g6_0, g6_1, g6_2, g6_3] 34 w5b.heap.size w6.heap.size (value.mkT 1 (back.outF ks T).1)) := GR0_16.out.on hb
            have BB17 : Hid (Below w.heap.size w w17) := BB16.out.trans (hb.mono BB16.out.size)
            have L18 : Hid (w16.heap.size ≤ w17.heap.size) := hb.size
            have L19 : Hid (w16.heap.size ≤ nb17 ∧ w16.heap.size ≤ lo17 ∧ (nb17 < lo17 ∨ hi17 ≤ nb17) ∧ nb17 < w17.heap.size ∧ hi17 ≤ w17.heap.size) := ⟨HC17.out.2.2.1, HC17.out.2.2.2.1, HC17.out.2.2.2.2, HC17.out.2.1.lt, HC17.out.2.1.top⟩
            have HR0_17 : Hid (Itm value.valueSp w17 nb17 [h17_0, h17_1, h17_2, h17_3] 34 lo17 hi17 (back.outF ks T).1) := HC17.out.2.1
            clear hb HC17 pK10 pK11 pK12 pK13 pK14 pK15 pK16 pK17 pK18 pK19 K1_16 WR0_16 GR0_16 BB16
            have cHR00 : w17.cell? ⟨nb17, 0, none⟩ = some h17_0 := HR0_17.out.cell 0 rfl
            have cHR01 : w17.cell? ⟨nb17, 1, none⟩ = some h17_1 := HR0_17.out.cell 1 rfl
            have cHR02 : w17.cell? ⟨nb17, 2, none⟩ = some h17_2 := HR0_17.out.cell 2 rfl
            have cHR03 : w17.cell? ⟨nb17, 3, none⟩ = some h17_3 := HR0_17.out.cell 3 rfl
            have cWR00 : w17.cell? ⟨nb3, 0, none⟩ = some w3_0 := WR0_17.out.cell 0 rfl
            have cWR01 : w17.cell? ⟨nb3, 1, none⟩ = some w3_1 := WR0_17.out.cell 1 rfl
            have cWR02 : w17.cell? ⟨nb3, 2, none⟩ = some w3_2 := WR0_17.out.cell 2 rfl
            have cWR03 : w17.cell? ⟨nb3, 3, none⟩ = some w3_3 := WR0_17.out.cell 3 rfl
            go_wp2_with fail
            refine (value.eq_any (back.outF ks T).1 _ _ _ (value.valueSh.mono (value.valuep_rep HR0_17.out.rep) fun b hb => by have := HR0_17.out.top; have := L0.out; have := L1.out; have := L2.out; have := L3.out; have := L4.out; have := L5.out; have := L6.out; have := L7.out; have := L8.out; have := L9.out; have := L10.out; have := L11.out; have := L12.out; have := L13.out; have := L14.out; have := L15.out; have := L16.out; have := L17.out; have := L18.out; have := L19.out; omega) (value.valueSh.mono (value.valuep_rep WR0_17.out.rep) fun b hb => by have := WR0_17.out.top; have := L0.out; have := L1.out; have := L2.out; have := L3.out; have := L4.out; have := L5.out; have := L6.out; have := L7.out; have := L8.out; have := L9.out; have := L10.out; have := L11.out; have := L12.out; have := L13.out; have := L14.out; have := L15.out; have := L16.out; have := L17.out; have := L18.out; have := L19.out; omega)).mono ?_
            rintro e w18 ⟨rfl, hb⟩
            clear cHR00 cHR01 cHR02 cHR03 cWR00 cWR01 cWR02 cWR03
            have K1_18 : Hid (BoxK w18 (w.heap.size) [a1_0, a1_1, a1_2, a1_3, a1_4, a1_5, a1_6, a1_7, a1_8, a1_9] 29) := K1_17.out.on hb
            have WR0_18 : Hid (Itm value.valueSp w18 nb3 [w3_0, w3_1, w3_2, w3_3] 34 lo3 hi3 (back.outF ks T).1) := WR0_17.out.on hb
            have GR0_18 : Hid (Itm value.valueSh w18 w6.heap.size [g6_0, g6_1, g6_2, g6_3] 34 w5b.heap.size w6.heap.size (value.mkT 1 (back.outF ks T).1)) := GR0_17.out.on hb
            have HR0_18 : Hid (Itm value.valueSp w18 nb17 [h17_0, h17_1, h17_2, h17_3] 34 lo17 hi17 (back.outF ks T).1) := HR0_17.out.on hb
            have BB18 : Hid (Below w.heap.size w w18) := BB17.out.trans (hb.mono BB17.out.size)
            have L20 : Hid (w17.heap.size ≤ w18.heap.size) := hb.size
            clear hb K1_17 WR0_17 GR0_17 HR0_17 BB17
            have cGR00 : w18.cell? ⟨w6.heap.size, 0, none⟩ = some g6_0 := GR0_18.out.cell 0 rfl
            have cGR01 : w18.cell? ⟨w6.heap.size, 1, none⟩ = some g6_1 := GR0_18.out.cell 1 rfl
            have cGR02 : w18.cell? ⟨w6.heap.size, 2, none⟩ = some g6_2 := GR0_18.out.cell 2 rfl
            have cGR03 : w18.cell? ⟨w6.heap.size, 3, none⟩ = some g6_3 := GR0_18.out.cell 3 rfl
            go_wp2_with fail
            refine (value.heldT_any (back.outF ks T).1 _ _ (1) (by omega) (by rw [← HM0.out]; omega) (value.valueSh.mono GR0_18.out.rep fun b hb => by have := GR0_18.out.top; have := L0.out; have := L1.out; have := L2.out; have := L3.out; have := L4.out; have := L5.out; have := L6.out; have := L7.out; have := L8.out; have := L9.out; have := L10.out; have := L11.out; have := L12.out; have := L13.out; have := L14.out; have := L15.out; have := L16.out; have := L17.out; have := L18.out; have := L19.out; have := L20.out; omega)).mono ?_
            rw [← HM0.out]
            rintro e w19 ⟨rfl, hb⟩
            clear cGR00 cGR01 cGR02 cGR03
            have K1_19 : Hid (BoxK w19 (w.heap.size) [a1_0, a1_1, a1_2, a1_3, a1_4, a1_5, a1_6, a1_7, a1_8, a1_9] 29) := K1_18.out.on hb
            have WR0_19 : Hid (Itm value.valueSp w19 nb3 [w3_0, w3_1, w3_2, w3_3] 34 lo3 hi3 (back.outF ks T).1) := WR0_18.out.on hb
            have GR0_19 : Hid (Itm value.valueSh w19 w6.heap.size [g6_0, g6_1, g6_2, g6_3] 34 w5b.heap.size w6.heap.size (value.mkT 1 (back.outF ks T).1)) := GR0_18.out.on hb
            have BB19 : Hid (Below w.heap.size w w19) := BB18.out.trans (hb.mono BB18.out.size)
            have L21 : Hid (w18.heap.size ≤ w19.heap.size) := hb.size
            clear hb K1_18 WR0_18 GR0_18 BB18
            have t29 : decide (((1 : Int) + (m0 : Nat) : Int) < 0) = false := by simp; omega
            go_wp2
            go_ret
            exact ⟨rfl, BB19.out⟩
    · have hl : left q1 (1048576 - (q0 : Nat)) = -1 := by unfold left; rw [if_neg (by omega)]
      rw [hl]
      go_wp2
      go_ret
      exact ⟨rfl, BB2.out⟩
  · have hl : left q0 (1048576) = -1 := by unfold left; rw [if_neg (by omega)]
    rw [hl]
    go_wp2
    go_ret
    exact ⟨rfl, BB1.out⟩

set_option maxRecDepth 100000 in
theorem lifted (os : Os) (started : os.Started) (H : Type) (enc : TypeId × Value → H) :
    ReturnsInHanded {} Tryz.checked os 3 .any (Rows.fnExactOutcomeSpec.pre6 enc Tryz.prog Tryz.f3 Rows.fnExactOutcomeRow.domain false) (Rows.fnExactOutcomeSpec.post enc Tryz.prog Tryz.f3 false true false false) := by
  refine returnsInHanded_of_change (C := Tryz.checked) own started (by kernel_rfl) Tryz.func3
    (ChangeSpec.witness6 (enc := enc) (C := Tryz.checked) false ⟨#[], #[.slice none 0 0, .agg #[.slice none 0 0, .slice none 0 0, .int .i64 0, .int .i64 0, .int .i64 0, .slice none 0 0, .slice none 0 0, .slice none 0 0, .int .i64 0, .bool false]], []⟩ 8 (by kernel_rfl) (by kernel_rfl) (by kernel_rfl) (by kernel_rfl)) ?_
  intro W base args ds gs before hval0 hW hcnd _
  have hval : ∀ (j : Nat) t v, Tryz.f3.params[j]? = some t → args[j]? = some v → Value.okWide Tryz.prog W .any base t v := hval0
  have hW' := hW
  obtain ⟨p, q, hA0, hV, rfl, hfz, hnd⟩ := hW
  have hA : DataW.TrodAll enc Tryz.prog W 0 (fun _ => true) true Tryz.f3.params.toList args.toList ds p := hA0
  rw [Tryz.params3] at hA hval
  obtain ⟨v0, vs0, d0, ds0, p0, q0, hargs, rfl, rfl, h0, r0⟩ := trodAll_cons hA
  obtain ⟨v1, vs1, d1, ds1, p1, q1, rfl, rfl, rfl, h1, r1⟩ := trodAll_cons r0
  obtain ⟨rfl, rfl, rfl⟩ := trodAll_nil r1
  obtain rfl : args = #[v0, v1] := by cases args; simp_all
  obtain ⟨rfl, rfl⟩ := trodVars_none hV
  have k0 := h0
  have lt0 : ∀ x ∈ p0, x.block < W.heap.size := by obtain ⟨m, hm⟩ := k0; exact DataW.trod_lt m _ _ _ hm
  have k1 := h1
  have lt1 : ∀ x ∈ p1, x.block < W.heap.size := by obtain ⟨m, hm⟩ := k1; exact DataW.trod_lt m _ _ _ hm
  obtain ⟨a0, len0, cap0, rfl⟩ := okWide_slice Tryz.underlying22 (hval 0 22 v0 rfl rfl)
  obtain ⟨ks, hT0⟩ : ∃ ks, data.dataSh.slice.rep W (· < W.heap.size) [.slice a0 len0 cap0] ks := by
    obtain ⟨fuel, hf⟩ := h0
    exact data.opens_datas (enc := enc) (w := W) fuel fuel _ _ (Nat.le_refl _) hf
  obtain ⟨cs1, T, rfl, hT1⟩ := vm.arg_vm (hval 1 29 v1 rfl rfl) h1
  clear hA0 hval0
  refine (walk ks T _ cs1 W  hT0 hT1).mono fun e W' ⟨he, bel⟩ => ?_
  subst he
  exact ⟨_, rfl, _, _, _, [], _, [], hW', trodAll_mk1 (shut_bool Tryz.underlying4 _), (trodAll_cons_mk (Below.trod laidOut (by kernel_rfl) (of_decide_eq_true (by kernel_rfl)) k0 bel lt0) (trodAll_cons_mk (Below.trod laidOut (by kernel_rfl) (of_decide_eq_true (by kernel_rfl)) k1 bel lt1) trodAll_mk0)), rfl, bel.frame _, fun h => by cases h⟩

theorem over : Rows.fnExactOutcomeRow.holds Tryz.pinned (OpenSpec.ofChange Rows.fnExactOutcomeSpec) :=
  OpenClaim.holds_of_wide 3 Tryz.f3 rfl rfl rfl rfl rfl rfl rfl ⟨rfl, rfl, rfl, rfl, rfl⟩ rfl rfl rfl rfl rfl (by kernel_rfl) Tryz.func3 (by kernel_rfl)
    (of_decide_eq_true (by kernel_rfl)) (by unfold Func.isWrapper; first | (rw [if_pos (by decide +kernel)]; kernel_rfl) | (rw [if_neg (by decide +kernel)]; exact ⟨rfl, rfl⟩))
    (fun os started H enc _ => lifted os started H enc)

/-- THE STATEMENT. -/
theorem proved : Rows.FnExactOutcomeSaid :=
  over
#print axioms proved
end Go.Proofs.YtjofmoebijdccaaGreat.fnExactOutcome
