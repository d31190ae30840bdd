/-
  The law's comparison of two Ops and of slices of them: of two that are the same it says true; nothing that was there is turned.
  The law's comparison of two Funs and of slices of them: of two that are the same it says true; nothing that was there is turned.
  The law's comparison of slices of ints: of the same list true; nothing is turned.
  The law's comparison of two Heaps and of slices of them: of two that are the same it says true; nothing that was there is turned.
  The law's comparison of two Calls and of slices of them: of two that are the same it says true; nothing that was there is turned.
  The law's comparison of two Vms and of slices of them: of two that are the same it says true; nothing that was there is turned.
-/
import Derived.Deep.RegionWith
import Derived.Test.YtjofmoebijdccaaGreatChecked
import Derived.WalkKit
import Derived.WalkLawsBesides
import Derived.Deep.QuietTactic
import Derived.BigQuiet
import Derived.Test.YtjofmoebijdccaaGreatB1
import Derived.Test.YtjofmoebijdccaaGreatB2
import Derived.Test.YtjofmoebijdccaaGreatB3
import Derived.Test.YtjofmoebijdccaaGreatB4
import Derived.Test.YtjofmoebijdccaaGreatB5
import Derived.Test.YtjofmoebijdccaaGreatB6
import Derived.Test.YtjofmoebijdccaaGreatB7
import Derived.Test.YtjofmoebijdccaaGreatB8
import Derived.Test.YtjofmoebijdccaaGreatB9
import Derived.Test.YtjofmoebijdccaaGreatB10
import Derived.Test.YtjofmoebijdccaaGreatB11
namespace Go.Proofs.YtjofmoebijdccaaGreat.op
open Go.RowKit Go.Proofs.YtjofmoebijdccaaGreat.rose Go.Proofs.YtjofmoebijdccaaGreat
set_option linter.unusedVariables false

def EqSays (T : OpD) : Prop := ∀ cs1 cs2 w, opSh.rep w (· < w.heap.size) cs1 T → opSh.rep w (· < w.heap.size) cs2 T →
  Calls Tryz.prog 103 #[.agg cs1.toArray, .agg cs2.toArray] w fun e w' => e = .returned (.bool true) ∧ Below w.heap.size w w'

set_option maxHeartbeats 1000000 in
theorem eq_any (T : OpD) : EqSays T := by
  intro cs1 cs2 w h h'
  obtain ⟨x0, x1, x2, rfl, rfl, f0, f1, f2⟩ := op_open h
  obtain ⟨x0', x1', x2', hT, rfl, g0, g1, g2⟩ := op_open h'
  cases hT
  clear h h'
  go_enter Tryz.func103, Tryz.ntmps103
  go_wp2
  go_ret
  exact ⟨rfl, (((Below.refl _ _).alloc (Nat.le_refl _) _).alloc (by simp) _)⟩

set_option maxHeartbeats 2000000 in
theorem eqS_of (ks : List OpD) (ih : ∀ k ∈ ks, EqSays k) (v1 v2 : Value) (w : World) (h : opSh.slice.rep w (· < w.heap.size) [v1] ks) (h' : opSh.slice.rep w (· < w.heap.size) [v2] ks) :
    Calls Tryz.prog 84 #[v1, v2] w fun e w' => e = .returned (.bool true) ∧ Below w.heap.size w w' := by
  obtain ⟨a, cap, css, rfl, hcap, hmax, hrow, hk⟩ := ops_open h
  obtain ⟨a', cap', css', rfl, hcap', hmax', hrow', hk'⟩ := ops_open h'
  have hmx : (ks.length : Int) ≤ 9223372036854775807 := by unfold maxLen at hmax; omega
  clear h hcap hmax h' hcap' hmax'
  have IH : Hid (∀ k ∈ ks, EqSays k) := ih
  have HR : Hid (RowAt w (· < w.heap.size) 3 a ks.length css ∧ ∀ i (h : i < ks.length), opSh.rep w (· < w.heap.size) (css i) ks[i]) := ⟨hrow, hk⟩
  have HR' : Hid (RowAt w (· < w.heap.size) 3 a' ks.length css' ∧ ∀ i (h : i < ks.length), opSh.rep w (· < w.heap.size) (css' i) ks[i]) := ⟨hrow', hk'⟩
  clear ih hrow hk hrow' hk'
  go_enter Tryz.func84, Tryz.ntmps84
  go_wp2
  go_loopw [5] (fun v5 wr => ∃ i : Nat, i ≤ ks.length ∧ v5 = .int .i64 i ∧ Hid (Below w.heap.size w wr)) (fun v5 _ => ks.length - (intOf v5).toNat)
  case atStart => exact ⟨0, Nat.zero_le _, rfl, Below.refl _ _⟩
  case round =>
    obtain ⟨i, hi, rfl, HB⟩ := hrel
    by_cases hlt : i < ks.length
    · obtain ⟨b, o, rfl, hS, hc⟩ := HR.out.1 i hlt
      have hrep := HR.out.2 i hlt
      obtain ⟨v0, v1, v2, hcs, c0, c1, c2⟩ := op_cells hrep hc
      have e0 := (HB.out.cell (p := ⟨b, o + i * 3, none⟩) hS).trans c0
      have e1 := (HB.out.cell (p := ⟨b, o + i * 3 + 1, none⟩) hS).trans c1
      have e2 := (HB.out.cell (p := ⟨b, o + i * 3 + 2, none⟩) hS).trans c2
      rw [hcs] at hrep
      clear c0 c1 c2 hc hcs
      obtain ⟨b', o', rfl, hS', hc⟩ := HR'.out.1 i hlt
      have hrep' := HR'.out.2 i hlt
      obtain ⟨v0', v1', v2', hcs, c0, c1, c2⟩ := op_cells hrep' hc
      have e0' := (HB.out.cell (p := ⟨b', o' + i * 3, none⟩) hS').trans c0
      have e1' := (HB.out.cell (p := ⟨b', o' + i * 3 + 1, none⟩) hS').trans c1
      have e2' := (HB.out.cell (p := ⟨b', o' + i * 3 + 2, none⟩) hS').trans c2
      rw [hcs] at hrep'
      clear c0 c1 c2 hc hcs
      have hR := opSh.mono (opSh.below hrep HB.out) (S' := (· < wr.heap.size)) (fun b hb => Nat.lt_of_lt_of_le hb HB.out.size)
      have hR' := opSh.mono (opSh.below hrep' HB.out) (S' := (· < wr.heap.size)) (fun b hb => Nat.lt_of_lt_of_le hb HB.out.size)
      clear hrep hrep'
      have hcall := IH.out ks[i] (List.getElem_mem hlt) [v0, v1, v2] [v0', v1', v2'] wr.drew (opSh.on hR fun _ _ => rfl) (opSh.on hR' fun _ _ => rfl)
      clear hR hR'
      go_wp2
      go_region_with (go_at_call 103; refine hcall.mono ?_; rintro e w1 ⟨rfl, hb⟩)
      all_goals
        have B1 : Hid (Below w.heap.size w w1) := (HB.out.drew).trans (hb.mono HB.out.size)
        clear hb hcall HB
        go_wp2
        go_round
        case rel => exact ⟨i + 1, by omega, by go_num, B1⟩
        case measure => simp [intOf]; omega
    · obtain rfl : i = ks.length := by omega
      go_wp2
      go_ret
      exact ⟨rfl, HB.out⟩

theorem eqS_any (ks : List OpD) (v1 v2 : Value) (w : World) (h : opSh.slice.rep w (· < w.heap.size) [v1] ks) (h' : opSh.slice.rep w (· < w.heap.size) [v2] ks) :
    Calls Tryz.prog 84 #[v1, v2] w fun e w' => e = .returned (.bool true) ∧ Below w.heap.size w w' := eqS_of ks (fun k _ => eq_any k) v1 v2 w h h'

end Go.Proofs.YtjofmoebijdccaaGreat.op

namespace Go.Proofs.YtjofmoebijdccaaGreat.fun
open Go.RowKit Go.Proofs.YtjofmoebijdccaaGreat.rose Go.Proofs.YtjofmoebijdccaaGreat
set_option linter.unusedVariables false

def EqSays (T : FunD) : Prop := ∀ cs1 cs2 w, funSh.rep w (· < w.heap.size) cs1 T → funSh.rep w (· < w.heap.size) cs2 T →
  Calls Tryz.prog 56 #[.agg cs1.toArray, .agg cs2.toArray] w fun e w' => e = .returned (.bool true) ∧ Below w.heap.size w w'

set_option maxHeartbeats 1000000 in
theorem eq_any (T : FunD) : EqSays T := by
  intro cs1 cs2 w h h'
  obtain ⟨x0, x1, a1, c1, rfl, rfl, f0, f1⟩ := fun_open h
  obtain ⟨x0', x1', a1', c1', hT, rfl, g0, g1⟩ := fun_open h'
  cases hT
  clear h h'
  have K1 : ∀ (w' : World), Below w.heap.size w w' → Calls Tryz.prog 84 #[.slice a1 x1.length c1, .slice a1' x1.length c1'] w' fun e w'' => e = .returned (.bool true) ∧ Below w'.heap.size w' w'' :=
    fun w' hb => op.eqS_any x1 _ _ w' (op.opSh.slice.mono (op.opSh.slice.below f1 hb) fun b hlt => Nat.lt_of_lt_of_le hlt hb.size) (op.opSh.slice.mono (op.opSh.slice.below g1 hb) fun b hlt => Nat.lt_of_lt_of_le hlt hb.size)
  clear f1 g1
  go_enter Tryz.func56, Tryz.ntmps56
  go_wp2_with fail
  refine (K1 _ (((Below.refl _ _).alloc (Nat.le_refl _) _).alloc (by simp) _)).mono ?_
  rintro e w1 ⟨rfl, hb⟩
  have B1 : Hid (Below w.heap.size w w1) := (((Below.refl _ _).alloc (Nat.le_refl _) _).alloc (by simp) _).trans (hb.mono (by simp; omega))
  have z1 : w.heap.size + 2 ≤ w1.heap.size := Nat.le_trans (by simp) hb.size
  clear hb K1
  go_wp2
  go_ret
  exact ⟨rfl, B1.out⟩

set_option maxHeartbeats 2000000 in
theorem eqS_of (ks : List FunD) (ih : ∀ k ∈ ks, EqSays k) (v1 v2 : Value) (w : World) (h : funSh.slice.rep w (· < w.heap.size) [v1] ks) (h' : funSh.slice.rep w (· < w.heap.size) [v2] ks) :
    Calls Tryz.prog 31 #[v1, v2] w fun e w' => e = .returned (.bool true) ∧ Below w.heap.size w w' := by
  obtain ⟨a, cap, css, rfl, hcap, hmax, hrow, hk⟩ := funs_open h
  obtain ⟨a', cap', css', rfl, hcap', hmax', hrow', hk'⟩ := funs_open h'
  have hmx : (ks.length : Int) ≤ 9223372036854775807 := by unfold maxLen at hmax; omega
  clear h hcap hmax h' hcap' hmax'
  have IH : Hid (∀ k ∈ ks, EqSays k) := ih
  have HR : Hid (RowAt w (· < w.heap.size) 2 a ks.length css ∧ ∀ i (h : i < ks.length), funSh.rep w (· < w.heap.size) (css i) ks[i]) := ⟨hrow, hk⟩
  have HR' : Hid (RowAt w (· < w.heap.size) 2 a' ks.length css' ∧ ∀ i (h : i < ks.length), funSh.rep w (· < w.heap.size) (css' i) ks[i]) := ⟨hrow', hk'⟩
  clear ih hrow hk hrow' hk'
  go_enter Tryz.func31, Tryz.ntmps31
  go_wp2
  go_loopw [5] (fun v5 wr => ∃ i : Nat, i ≤ ks.length ∧ v5 = .int .i64 i ∧ Hid (Below w.heap.size w wr)) (fun v5 _ => ks.length - (intOf v5).toNat)
  case atStart => exact ⟨0, Nat.zero_le _, rfl, Below.refl _ _⟩
  case round =>
    obtain ⟨i, hi, rfl, HB⟩ := hrel
    by_cases hlt : i < ks.length
    · obtain ⟨b, o, rfl, hS, hc⟩ := HR.out.1 i hlt
      have hrep := HR.out.2 i hlt
      obtain ⟨v0, v1, hcs, c0, c1⟩ := fun_cells hrep hc
      have e0 := (HB.out.cell (p := ⟨b, o + i * 2, none⟩) hS).trans c0
      have e1 := (HB.out.cell (p := ⟨b, o + i * 2 + 1, none⟩) hS).trans c1
      rw [hcs] at hrep
      clear c0 c1 hc hcs
      obtain ⟨b', o', rfl, hS', hc⟩ := HR'.out.1 i hlt
      have hrep' := HR'.out.2 i hlt
      obtain ⟨v0', v1', hcs, c0, c1⟩ := fun_cells hrep' hc
      have e0' := (HB.out.cell (p := ⟨b', o' + i * 2, none⟩) hS').trans c0
      have e1' := (HB.out.cell (p := ⟨b', o' + i * 2 + 1, none⟩) hS').trans c1
      rw [hcs] at hrep'
      clear c0 c1 hc hcs
      have hR := funSh.mono (funSh.below hrep HB.out) (S' := (· < wr.heap.size)) (fun b hb => Nat.lt_of_lt_of_le hb HB.out.size)
      have hR' := funSh.mono (funSh.below hrep' HB.out) (S' := (· < wr.heap.size)) (fun b hb => Nat.lt_of_lt_of_le hb HB.out.size)
      clear hrep hrep'
      have hcall := IH.out ks[i] (List.getElem_mem hlt) [v0, v1] [v0', v1'] wr.drew (funSh.on hR fun _ _ => rfl) (funSh.on hR' fun _ _ => rfl)
      clear hR hR'
      go_wp2
      go_region_with (go_at_call 56; refine hcall.mono ?_; rintro e w1 ⟨rfl, hb⟩)
      all_goals
        have B1 : Hid (Below w.heap.size w w1) := (HB.out.drew).trans (hb.mono HB.out.size)
        clear hb hcall HB
        go_wp2
        go_round
        case rel => exact ⟨i + 1, by omega, by go_num, B1⟩
        case measure => simp [intOf]; omega
    · obtain rfl : i = ks.length := by omega
      go_wp2
      go_ret
      exact ⟨rfl, HB.out⟩

theorem eqS_any (ks : List FunD) (v1 v2 : Value) (w : World) (h : funSh.slice.rep w (· < w.heap.size) [v1] ks) (h' : funSh.slice.rep w (· < w.heap.size) [v2] ks) :
    Calls Tryz.prog 31 #[v1, v2] w fun e w' => e = .returned (.bool true) ∧ Below w.heap.size w w' := eqS_of ks (fun k _ => eq_any k) v1 v2 w h h'

end Go.Proofs.YtjofmoebijdccaaGreat.fun

namespace Go.Proofs.YtjofmoebijdccaaGreat.ints
open Go.RowKit Go.Proofs.YtjofmoebijdccaaGreat.rose Go.Proofs.YtjofmoebijdccaaGreat
set_option linter.unusedVariables false

set_option maxHeartbeats 1000000 in
theorem eq_any (ks : List Int) (v1 v2 : Value) (w : World) (h : intsSh.rep w (· < w.heap.size) [v1] ks) (h' : intsSh.rep w (· < w.heap.size) [v2] ks) :
    Calls Tryz.prog 33 #[v1, v2] w fun e w' => e = .returned (.bool true) ∧ Below w.heap.size w w' := by
  obtain ⟨a, cap, rfl, hcap, hmax, hat⟩ := ints_open h
  obtain ⟨a', cap', rfl, hcap', hmax', hat'⟩ := ints_open h'
  have hmx : (ks.length : Int) ≤ 9223372036854775807 := by unfold maxLen at hmax; omega
  have HA : Hid _ := hat
  have HA' : Hid _ := hat'
  clear h h' hcap hmax hcap' hmax' hat hat'
  go_enter Tryz.func33, Tryz.ntmps33
  go_wp2
  go_loopw [5] (fun v5 wr => ∃ i : Nat, i ≤ ks.length ∧ v5 = .int .i64 i ∧ Hid (Below w.heap.size w wr)) (fun v5 _ => ks.length - (intOf v5).toNat)
  case atStart => exact ⟨0, Nat.zero_le _, rfl, Below.refl _ _⟩
  case round =>
    obtain ⟨i, hi, rfl, HB⟩ := hrel
    by_cases hlt : i < ks.length
    · obtain ⟨b, o, rfl, hS, hc, -⟩ := HA.out i hlt
      obtain ⟨b', o', rfl, hS', hc', -⟩ := HA'.out i hlt
      have e0 := (HB.out.cell (p := ⟨b, o + i, none⟩) hS).trans hc
      have e1 := (HB.out.cell (p := ⟨b', o' + i, none⟩) hS').trans hc'
      clear hc hc'
      go_wp2
      go_region
      all_goals
        go_wp2
        go_round
        case rel => exact ⟨i + 1, by omega, by go_num, HB.out.drew⟩
        case measure => simp [intOf]; omega
    · obtain rfl : i = ks.length := by omega
      go_wp2
      go_ret
      exact ⟨rfl, HB.out⟩

end Go.Proofs.YtjofmoebijdccaaGreat.ints

namespace Go.Proofs.YtjofmoebijdccaaGreat.heap
open Go.RowKit Go.Proofs.YtjofmoebijdccaaGreat.rose Go.Proofs.YtjofmoebijdccaaGreat
set_option linter.unusedVariables false

def EqSays (T : HeapD) : Prop := ∀ cs1 cs2 w, heapSh.rep w (· < w.heap.size) cs1 T → heapSh.rep w (· < w.heap.size) cs2 T →
  Calls Tryz.prog 32 #[.agg cs1.toArray, .agg cs2.toArray] w fun e w' => e = .returned (.bool true) ∧ Below w.heap.size w w'

set_option maxHeartbeats 1000000 in
theorem eq_any (T : HeapD) : EqSays T := by
  intro cs1 cs2 w h h'
  obtain ⟨x0, a0, c0, x1, x2, x3, rfl, rfl, f0, f1, f2, f3⟩ := heap_open h
  obtain ⟨x0', a0', c0', x1', x2', x3', hT, rfl, g0, g1, g2, g3⟩ := heap_open h'
  cases hT
  clear h h'
  have K0 : ∀ (w' : World), Below w.heap.size w w' → Calls Tryz.prog 33 #[.slice a0 x0.length c0, .slice a0' x0.length c0'] w' fun e w'' => e = .returned (.bool true) ∧ Below w'.heap.size w' w'' :=
    fun w' hb => ints.eq_any x0 _ _ w' (Sh.int.slice.mono (Sh.int.slice.below f0 hb) fun b hlt => Nat.lt_of_lt_of_le hlt hb.size) (Sh.int.slice.mono (Sh.int.slice.below g0 hb) fun b hlt => Nat.lt_of_lt_of_le hlt hb.size)
  clear f0 g0
  go_enter Tryz.func32, Tryz.ntmps32
  go_wp2_with fail
  refine (K0 _ (((Below.refl _ _).alloc (Nat.le_refl _) _).alloc (by simp) _)).mono ?_
  rintro e w1 ⟨rfl, hb⟩
  have B1 : Hid (Below w.heap.size w w1) := (((Below.refl _ _).alloc (Nat.le_refl _) _).alloc (by simp) _).trans (hb.mono (by simp; omega))
  have z1 : w.heap.size + 2 ≤ w1.heap.size := Nat.le_trans (by simp) hb.size
  have ba1_1 : w1.cell? ⟨w.heap.size, 1, none⟩ = some (.int .i64 x1) := (hb.cell (p := ⟨w.heap.size, 1, none⟩) (by simp; omega)).trans (by simp)
  have bb1_1 : w1.cell? ⟨w.heap.size + 1, 1, none⟩ = some (.int .i64 x1) := (hb.cell (p := ⟨w.heap.size + 1, 1, none⟩) (by simp)).trans (by simp)
  have ba1_2 : w1.cell? ⟨w.heap.size, 2, none⟩ = some (.int .i64 x2) := (hb.cell (p := ⟨w.heap.size, 2, none⟩) (by simp; omega)).trans (by simp)
  have bb1_2 : w1.cell? ⟨w.heap.size + 1, 2, none⟩ = some (.int .i64 x2) := (hb.cell (p := ⟨w.heap.size + 1, 2, none⟩) (by simp)).trans (by simp)
  have ba1_3 : w1.cell? ⟨w.heap.size, 3, none⟩ = some (.int .i64 x3) := (hb.cell (p := ⟨w.heap.size, 3, none⟩) (by simp; omega)).trans (by simp)
  have bb1_3 : w1.cell? ⟨w.heap.size + 1, 3, none⟩ = some (.int .i64 x3) := (hb.cell (p := ⟨w.heap.size + 1, 3, none⟩) (by simp)).trans (by simp)
  clear hb K0
  go_wp2
  go_ret
  exact ⟨rfl, B1.out⟩


end Go.Proofs.YtjofmoebijdccaaGreat.heap

namespace Go.Proofs.YtjofmoebijdccaaGreat.call
open Go.RowKit Go.Proofs.YtjofmoebijdccaaGreat.rose Go.Proofs.YtjofmoebijdccaaGreat
set_option linter.unusedVariables false

def EqSays (T : CallD) : Prop := ∀ cs1 cs2 w, callSh.rep w (· < w.heap.size) cs1 T → callSh.rep w (· < w.heap.size) cs2 T →
  Calls Tryz.prog 57 #[.agg cs1.toArray, .agg cs2.toArray] w fun e w' => e = .returned (.bool true) ∧ Below w.heap.size w w'

set_option maxHeartbeats 1000000 in
theorem eq_any (T : CallD) : EqSays T := by
  intro cs1 cs2 w h h'
  obtain ⟨x0, x1, x2, rfl, rfl, f0, f1, f2⟩ := call_open h
  obtain ⟨x0', x1', x2', hT, rfl, g0, g1, g2⟩ := call_open h'
  cases hT
  clear h h'
  go_enter Tryz.func57, Tryz.ntmps57
  go_wp2
  go_ret
  exact ⟨rfl, (((Below.refl _ _).alloc (Nat.le_refl _) _).alloc (by simp) _)⟩

set_option maxHeartbeats 2000000 in
theorem eqS_of (ks : List CallD) (ih : ∀ k ∈ ks, EqSays k) (v1 v2 : Value) (w : World) (h : callSh.slice.rep w (· < w.heap.size) [v1] ks) (h' : callSh.slice.rep w (· < w.heap.size) [v2] ks) :
    Calls Tryz.prog 34 #[v1, v2] w fun e w' => e = .returned (.bool true) ∧ Below w.heap.size w w' := by
  obtain ⟨a, cap, css, rfl, hcap, hmax, hrow, hk⟩ := calls_open h
  obtain ⟨a', cap', css', rfl, hcap', hmax', hrow', hk'⟩ := calls_open h'
  have hmx : (ks.length : Int) ≤ 9223372036854775807 := by unfold maxLen at hmax; omega
  clear h hcap hmax h' hcap' hmax'
  have IH : Hid (∀ k ∈ ks, EqSays k) := ih
  have HR : Hid (RowAt w (· < w.heap.size) 3 a ks.length css ∧ ∀ i (h : i < ks.length), callSh.rep w (· < w.heap.size) (css i) ks[i]) := ⟨hrow, hk⟩
  have HR' : Hid (RowAt w (· < w.heap.size) 3 a' ks.length css' ∧ ∀ i (h : i < ks.length), callSh.rep w (· < w.heap.size) (css' i) ks[i]) := ⟨hrow', hk'⟩
  clear ih hrow hk hrow' hk'
  go_enter Tryz.func34, Tryz.ntmps34
  go_wp2
  go_loopw [5] (fun v5 wr => ∃ i : Nat, i ≤ ks.length ∧ v5 = .int .i64 i ∧ Hid (Below w.heap.size w wr)) (fun v5 _ => ks.length - (intOf v5).toNat)
  case atStart => exact ⟨0, Nat.zero_le _, rfl, Below.refl _ _⟩
  case round =>
    obtain ⟨i, hi, rfl, HB⟩ := hrel
    by_cases hlt : i < ks.length
    · obtain ⟨b, o, rfl, hS, hc⟩ := HR.out.1 i hlt
      have hrep := HR.out.2 i hlt
      obtain ⟨v0, v1, v2, hcs, c0, c1, c2⟩ := call_cells hrep hc
      have e0 := (HB.out.cell (p := ⟨b, o + i * 3, none⟩) hS).trans c0
      have e1 := (HB.out.cell (p := ⟨b, o + i * 3 + 1, none⟩) hS).trans c1
      have e2 := (HB.out.cell (p := ⟨b, o + i * 3 + 2, none⟩) hS).trans c2
      rw [hcs] at hrep
      clear c0 c1 c2 hc hcs
      obtain ⟨b', o', rfl, hS', hc⟩ := HR'.out.1 i hlt
      have hrep' := HR'.out.2 i hlt
      obtain ⟨v0', v1', v2', hcs, c0, c1, c2⟩ := call_cells hrep' hc
      have e0' := (HB.out.cell (p := ⟨b', o' + i * 3, none⟩) hS').trans c0
      have e1' := (HB.out.cell (p := ⟨b', o' + i * 3 + 1, none⟩) hS').trans c1
      have e2' := (HB.out.cell (p := ⟨b', o' + i * 3 + 2, none⟩) hS').trans c2
      rw [hcs] at hrep'
      clear c0 c1 c2 hc hcs
      have hR := callSh.mono (callSh.below hrep HB.out) (S' := (· < wr.heap.size)) (fun b hb => Nat.lt_of_lt_of_le hb HB.out.size)
      have hR' := callSh.mono (callSh.below hrep' HB.out) (S' := (· < wr.heap.size)) (fun b hb => Nat.lt_of_lt_of_le hb HB.out.size)
      clear hrep hrep'
      have hcall := IH.out ks[i] (List.getElem_mem hlt) [v0, v1, v2] [v0', v1', v2'] wr.drew (callSh.on hR fun _ _ => rfl) (callSh.on hR' fun _ _ => rfl)
      clear hR hR'
      go_wp2
      go_region_with (go_at_call 57; refine hcall.mono ?_; rintro e w1 ⟨rfl, hb⟩)
      all_goals
        have B1 : Hid (Below w.heap.size w w1) := (HB.out.drew).trans (hb.mono HB.out.size)
        clear hb hcall HB
        go_wp2
        go_round
        case rel => exact ⟨i + 1, by omega, by go_num, B1⟩
        case measure => simp [intOf]; omega
    · obtain rfl : i = ks.length := by omega
      go_wp2
      go_ret
      exact ⟨rfl, HB.out⟩

theorem eqS_any (ks : List CallD) (v1 v2 : Value) (w : World) (h : callSh.slice.rep w (· < w.heap.size) [v1] ks) (h' : callSh.slice.rep w (· < w.heap.size) [v2] ks) :
    Calls Tryz.prog 34 #[v1, v2] w fun e w' => e = .returned (.bool true) ∧ Below w.heap.size w w' := eqS_of ks (fun k _ => eq_any k) v1 v2 w h h'

end Go.Proofs.YtjofmoebijdccaaGreat.call

namespace Go.Proofs.YtjofmoebijdccaaGreat.vm
open Go.RowKit Go.Proofs.YtjofmoebijdccaaGreat.rose Go.Proofs.YtjofmoebijdccaaGreat
set_option linter.unusedVariables false

def EqSays (T : VmD) : Prop := ∀ cs1 cs2 w, vmSh.rep w (· < w.heap.size) cs1 T → vmSh.rep w (· < w.heap.size) cs2 T →
  Calls Tryz.prog 12 #[.agg cs1.toArray, .agg cs2.toArray] w fun e w' => e = .returned (.bool true) ∧ Below w.heap.size w w'

set_option maxHeartbeats 1000000 in
theorem eq_any (T : VmD) : EqSays T := by
  intro cs1 cs2 w h h'
  obtain ⟨x0, a0, c0, x1, u1_0, u1_1, u1_2, u1_3, x2, a2, c2, x3, a3, c3, x4, a4, c4, x5, x6, rfl, rfl, f0, f1, f2, f3, f4, f5⟩ := vm_open h
  obtain ⟨x0', a0', c0', x1', u1_0', u1_1', u1_2', u1_3', x2', a2', c2', x3', a3', c3', x4', a4', c4', x5', x6', hT, rfl, g0, g1, g2, g3, g4, g5⟩ := vm_open h'
  cases hT
  have ou1_0 := heap.heapSh.one f1 u1_0 (by simp)
  have ou1_1 := heap.heapSh.one f1 u1_1 (by simp)
  have ou1_2 := heap.heapSh.one f1 u1_2 (by simp)
  have ou1_3 := heap.heapSh.one f1 u1_3 (by simp)
  have ou1_0' := heap.heapSh.one g1 u1_0' (by simp)
  have ou1_1' := heap.heapSh.one g1 u1_1' (by simp)
  have ou1_2' := heap.heapSh.one g1 u1_2' (by simp)
  have ou1_3' := heap.heapSh.one g1 u1_3' (by simp)
  clear h h'
  have K0 : ∀ (w' : World), Below w.heap.size w w' → Calls Tryz.prog 31 #[.slice a0 x0.length c0, .slice a0' x0.length c0'] w' fun e w'' => e = .returned (.bool true) ∧ Below w'.heap.size w' w'' :=
    fun w' hb => fun.eqS_any x0 _ _ w' (fun.funSh.slice.mono (fun.funSh.slice.below f0 hb) fun b hlt => Nat.lt_of_lt_of_le hlt hb.size) (fun.funSh.slice.mono (fun.funSh.slice.below g0 hb) fun b hlt => Nat.lt_of_lt_of_le hlt hb.size)
  have K1 : ∀ (w' : World), Below w.heap.size w w' → Calls Tryz.prog 32 #[.agg #[u1_0, u1_1, u1_2, u1_3], .agg #[u1_0', u1_1', u1_2', u1_3']] w' fun e w'' => e = .returned (.bool true) ∧ Below w'.heap.size w' w'' :=
    fun w' hb => heap.eq_any x1 _ _ w' (heap.heapSh.mono (heap.heapSh.below f1 hb) fun b hlt => Nat.lt_of_lt_of_le hlt hb.size) (heap.heapSh.mono (heap.heapSh.below g1 hb) fun b hlt => Nat.lt_of_lt_of_le hlt hb.size)
  have K2 : ∀ (w' : World), Below w.heap.size w w' → Calls Tryz.prog 33 #[.slice a2 x2.length c2, .slice a2' x2.length c2'] w' fun e w'' => e = .returned (.bool true) ∧ Below w'.heap.size w' w'' :=
    fun w' hb => ints.eq_any x2 _ _ w' (Sh.int.slice.mono (Sh.int.slice.below f2 hb) fun b hlt => Nat.lt_of_lt_of_le hlt hb.size) (Sh.int.slice.mono (Sh.int.slice.below g2 hb) fun b hlt => Nat.lt_of_lt_of_le hlt hb.size)
  have K3 : ∀ (w' : World), Below w.heap.size w w' → Calls Tryz.prog 34 #[.slice a3 x3.length c3, .slice a3' x3.length c3'] w' fun e w'' => e = .returned (.bool true) ∧ Below w'.heap.size w' w'' :=
    fun w' hb => call.eqS_any x3 _ _ w' (call.callSh.slice.mono (call.callSh.slice.below f3 hb) fun b hlt => Nat.lt_of_lt_of_le hlt hb.size) (call.callSh.slice.mono (call.callSh.slice.below g3 hb) fun b hlt => Nat.lt_of_lt_of_le hlt hb.size)
  have K4 : ∀ (w' : World), Below w.heap.size w w' → Calls Tryz.prog 33 #[.slice a4 x4.length c4, .slice a4' x4.length c4'] w' fun e w'' => e = .returned (.bool true) ∧ Below w'.heap.size w' w'' :=
    fun w' hb => ints.eq_any x4 _ _ w' (Sh.int.slice.mono (Sh.int.slice.below f4 hb) fun b hlt => Nat.lt_of_lt_of_le hlt hb.size) (Sh.int.slice.mono (Sh.int.slice.below g4 hb) fun b hlt => Nat.lt_of_lt_of_le hlt hb.size)
  clear f0 g0 f1 g1 f2 g2 f3 g3 f4 g4
  go_enter Tryz.func12, Tryz.ntmps12
  go_wp2_with fail
  refine (K0 _ (((Below.refl _ _).alloc (Nat.le_refl _) _).alloc (by simp) _)).mono ?_
  rintro e w1 ⟨rfl, hb⟩
  have B1 : Hid (Below w.heap.size w w1) := (((Below.refl _ _).alloc (Nat.le_refl _) _).alloc (by simp) _).trans (hb.mono (by simp; omega))
  have z1 : w.heap.size + 2 ≤ w1.heap.size := Nat.le_trans (by simp) hb.size
  have ba1_1 : w1.cell? ⟨w.heap.size, 1, none⟩ = some (u1_0) := (hb.cell (p := ⟨w.heap.size, 1, none⟩) (by simp; omega)).trans (by simp)
  have bb1_1 : w1.cell? ⟨w.heap.size + 1, 1, none⟩ = some (u1_0') := (hb.cell (p := ⟨w.heap.size + 1, 1, none⟩) (by simp)).trans (by simp)
  have ba1_2 : w1.cell? ⟨w.heap.size, 2, none⟩ = some (u1_1) := (hb.cell (p := ⟨w.heap.size, 2, none⟩) (by simp; omega)).trans (by simp)
  have bb1_2 : w1.cell? ⟨w.heap.size + 1, 2, none⟩ = some (u1_1') := (hb.cell (p := ⟨w.heap.size + 1, 2, none⟩) (by simp)).trans (by simp)
  have ba1_3 : w1.cell? ⟨w.heap.size, 3, none⟩ = some (u1_2) := (hb.cell (p := ⟨w.heap.size, 3, none⟩) (by simp; omega)).trans (by simp)
  have bb1_3 : w1.cell? ⟨w.heap.size + 1, 3, none⟩ = some (u1_2') := (hb.cell (p := ⟨w.heap.size + 1, 3, none⟩) (by simp)).trans (by simp)
  have ba1_4 : w1.cell? ⟨w.heap.size, 4, none⟩ = some (u1_3) := (hb.cell (p := ⟨w.heap.size, 4, none⟩) (by simp; omega)).trans (by simp)
  have bb1_4 : w1.cell? ⟨w.heap.size + 1, 4, none⟩ = some (u1_3') := (hb.cell (p := ⟨w.heap.size + 1, 4, none⟩) (by simp)).trans (by simp)
  have ba1_5 : w1.cell? ⟨w.heap.size, 5, none⟩ = some (.slice a2 x2.length c2) := (hb.cell (p := ⟨w.heap.size, 5, none⟩) (by simp; omega)).trans (by simp)
  have bb1_5 : w1.cell? ⟨w.heap.size + 1, 5, none⟩ = some (.slice a2' x2.length c2') := (hb.cell (p := ⟨w.heap.size + 1, 5, none⟩) (by simp)).trans (by simp)
  have ba1_6 : w1.cell? ⟨w.heap.size, 6, none⟩ = some (.slice a3 x3.length c3) := (hb.cell (p := ⟨w.heap.size, 6, none⟩) (by simp; omega)).trans (by simp)
  have bb1_6 : w1.cell? ⟨w.heap.size + 1, 6, none⟩ = some (.slice a3' x3.length c3') := (hb.cell (p := ⟨w.heap.size + 1, 6, none⟩) (by simp)).trans (by simp)
  have ba1_7 : w1.cell? ⟨w.heap.size, 7, none⟩ = some (.slice a4 x4.length c4) := (hb.cell (p := ⟨w.heap.size, 7, none⟩) (by simp; omega)).trans (by simp)
  have bb1_7 : w1.cell? ⟨w.heap.size + 1, 7, none⟩ = some (.slice a4' x4.length c4') := (hb.cell (p := ⟨w.heap.size + 1, 7, none⟩) (by simp)).trans (by simp)
  have ba1_8 : w1.cell? ⟨w.heap.size, 8, none⟩ = some (.int .i64 x5) := (hb.cell (p := ⟨w.heap.size, 8, none⟩) (by simp; omega)).trans (by simp)
  have bb1_8 : w1.cell? ⟨w.heap.size + 1, 8, none⟩ = some (.int .i64 x5) := (hb.cell (p := ⟨w.heap.size + 1, 8, none⟩) (by simp)).trans (by simp)
  have ba1_9 : w1.cell? ⟨w.heap.size, 9, none⟩ = some (.bool x6) := (hb.cell (p := ⟨w.heap.size, 9, none⟩) (by simp; omega)).trans (by simp)
  have bb1_9 : w1.cell? ⟨w.heap.size + 1, 9, none⟩ = some (.bool x6) := (hb.cell (p := ⟨w.heap.size + 1, 9, none⟩) (by simp)).trans (by simp)
  clear hb K0
  go_wp2_with fail
  refine (K1 _ B1.out).mono ?_
  rintro e w2 ⟨rfl, hb⟩
  have B2 : Hid (Below w.heap.size w w2) := B1.out.trans (hb.mono B1.out.size)
  have z2 : w.heap.size + 2 ≤ w2.heap.size := Nat.le_trans z1 hb.size
  have ba2_5 : w2.cell? ⟨w.heap.size, 5, none⟩ = some (.slice a2 x2.length c2) := (hb.cell (p := ⟨w.heap.size, 5, none⟩) (by simp; omega)).trans ba1_5
  have bb2_5 : w2.cell? ⟨w.heap.size + 1, 5, none⟩ = some (.slice a2' x2.length c2') := (hb.cell (p := ⟨w.heap.size + 1, 5, none⟩) (by simp; omega)).trans bb1_5
  have ba2_6 : w2.cell? ⟨w.heap.size, 6, none⟩ = some (.slice a3 x3.length c3) := (hb.cell (p := ⟨w.heap.size, 6, none⟩) (by simp; omega)).trans ba1_6
  have bb2_6 : w2.cell? ⟨w.heap.size + 1, 6, none⟩ = some (.slice a3' x3.length c3') := (hb.cell (p := ⟨w.heap.size + 1, 6, none⟩) (by simp; omega)).trans bb1_6
  have ba2_7 : w2.cell? ⟨w.heap.size, 7, none⟩ = some (.slice a4 x4.length c4) := (hb.cell (p := ⟨w.heap.size, 7, none⟩) (by simp; omega)).trans ba1_7
  have bb2_7 : w2.cell? ⟨w.heap.size + 1, 7, none⟩ = some (.slice a4' x4.length c4') := (hb.cell (p := ⟨w.heap.size + 1, 7, none⟩) (by simp; omega)).trans bb1_7
  have ba2_8 : w2.cell? ⟨w.heap.size, 8, none⟩ = some (.int .i64 x5) := (hb.cell (p := ⟨w.heap.size, 8, none⟩) (by simp; omega)).trans ba1_8
  have bb2_8 : w2.cell? ⟨w.heap.size + 1, 8, none⟩ = some (.int .i64 x5) := (hb.cell (p := ⟨w.heap.size + 1, 8, none⟩) (by simp; omega)).trans bb1_8
  have ba2_9 : w2.cell? ⟨w.heap.size, 9, none⟩ = some (.bool x6) := (hb.cell (p := ⟨w.heap.size, 9, none⟩) (by simp; omega)).trans ba1_9
  have bb2_9 : w2.cell? ⟨w.heap.size + 1, 9, none⟩ = some (.bool x6) := (hb.cell (p := ⟨w.heap.size + 1, 9, none⟩) (by simp; omega)).trans bb1_9
  clear ba1_1 bb1_1 ba1_2 bb1_2 ba1_3 bb1_3 ba1_4 bb1_4 ba1_5 bb1_5 ba1_6 bb1_6 ba1_7 bb1_7 ba1_8 bb1_8 ba1_9 bb1_9 z1 B1
  clear hb K1
  go_wp2_with fail
  refine (K2 _ B2.out).mono ?_
  rintro e w3 ⟨rfl, hb⟩
  have B3 : Hid (Below w.heap.size w w3) := B2.out.trans (hb.mono B2.out.size)
  have z3 : w.heap.size + 2 ≤ w3.heap.size := Nat.le_trans z2 hb.size
  have ba3_6 : w3.cell? ⟨w.heap.size, 6, none⟩ = some (.slice a3 x3.length c3) := (hb.cell (p := ⟨w.heap.size, 6, none⟩) (by simp; omega)).trans ba2_6
  have bb3_6 : w3.cell? ⟨w.heap.size + 1, 6, none⟩ = some (.slice a3' x3.length c3') := (hb.cell (p := ⟨w.heap.size + 1, 6, none⟩) (by simp; omega)).trans bb2_6
  have ba3_7 : w3.cell? ⟨w.heap.size, 7, none⟩ = some (.slice a4 x4.length c4) := (hb.cell (p := ⟨w.heap.size, 7, none⟩) (by simp; omega)).trans ba2_7
  have bb3_7 : w3.cell? ⟨w.heap.size + 1, 7, none⟩ = some (.slice a4' x4.length c4') := (hb.cell (p := ⟨w.heap.size + 1, 7, none⟩) (by simp; omega)).trans bb2_7
  have ba3_8 : w3.cell? ⟨w.heap.size, 8, none⟩ = some (.int .i64 x5) := (hb.cell (p := ⟨w.heap.size, 8, none⟩) (by simp; omega)).trans ba2_8
  have bb3_8 : w3.cell? ⟨w.heap.size + 1, 8, none⟩ = some (.int .i64 x5) := (hb.cell (p := ⟨w.heap.size + 1, 8, none⟩) (by simp; omega)).trans bb2_8
  have ba3_9 : w3.cell? ⟨w.heap.size, 9, none⟩ = some (.bool x6) := (hb.cell (p := ⟨w.heap.size, 9, none⟩) (by simp; omega)).trans ba2_9
  have bb3_9 : w3.cell? ⟨w.heap.size + 1, 9, none⟩ = some (.bool x6) := (hb.cell (p := ⟨w.heap.size + 1, 9, none⟩) (by simp; omega)).trans bb2_9
  clear ba2_5 bb2_5 ba2_6 bb2_6 ba2_7 bb2_7 ba2_8 bb2_8 ba2_9 bb2_9 z2 B2
  clear hb K2
  go_wp2_with fail
  refine (K3 _ B3.out).mono ?_
  rintro e w4 ⟨rfl, hb⟩
  have B4 : Hid (Below w.heap.size w w4) := B3.out.trans (hb.mono B3.out.size)
  have z4 : w.heap.size + 2 ≤ w4.heap.size := Nat.le_trans z3 hb.size
  have ba4_7 : w4.cell? ⟨w.heap.size, 7, none⟩ = some (.slice a4 x4.length c4) := (hb.cell (p := ⟨w.heap.size, 7, none⟩) (by simp; omega)).trans ba3_7
  have bb4_7 : w4.cell? ⟨w.heap.size + 1, 7, none⟩ = some (.slice a4' x4.length c4') := (hb.cell (p := ⟨w.heap.size + 1, 7, none⟩) (by simp; omega)).trans bb3_7
  have ba4_8 : w4.cell? ⟨w.heap.size, 8, none⟩ = some (.int .i64 x5) := (hb.cell (p := ⟨w.heap.size, 8, none⟩) (by simp; omega)).trans ba3_8
  have bb4_8 : w4.cell? ⟨w.heap.size + 1, 8, none⟩ = some (.int .i64 x5) := (hb.cell (p := ⟨w.heap.size + 1, 8, none⟩) (by simp; omega)).trans bb3_8
  have ba4_9 : w4.cell? ⟨w.heap.size, 9, none⟩ = some (.bool x6) := (hb.cell (p := ⟨w.heap.size, 9, none⟩) (by simp; omega)).trans ba3_9
  have bb4_9 : w4.cell? ⟨w.heap.size + 1, 9, none⟩ = some (.bool x6) := (hb.cell (p := ⟨w.heap.size + 1, 9, none⟩) (by simp; omega)).trans bb3_9
  clear ba3_6 bb3_6 ba3_7 bb3_7 ba3_8 bb3_8 ba3_9 bb3_9 z3 B3
  clear hb K3
  go_wp2_with fail
  refine (K4 _ B4.out).mono ?_
  rintro e w5 ⟨rfl, hb⟩
  have B5 : Hid (Below w.heap.size w w5) := B4.out.trans (hb.mono B4.out.size)
  have z5 : w.heap.size + 2 ≤ w5.heap.size := Nat.le_trans z4 hb.size
  have ba5_8 : w5.cell? ⟨w.heap.size, 8, none⟩ = some (.int .i64 x5) := (hb.cell (p := ⟨w.heap.size, 8, none⟩) (by simp; omega)).trans ba4_8
  have bb5_8 : w5.cell? ⟨w.heap.size + 1, 8, none⟩ = some (.int .i64 x5) := (hb.cell (p := ⟨w.heap.size + 1, 8, none⟩) (by simp; omega)).trans bb4_8
  have ba5_9 : w5.cell? ⟨w.heap.size, 9, none⟩ = some (.bool x6) := (hb.cell (p := ⟨w.heap.size, 9, none⟩) (by simp; omega)).trans ba4_9
  have bb5_9 : w5.cell? ⟨w.heap.size + 1, 9, none⟩ = some (.bool x6) := (hb.cell (p := ⟨w.heap.size + 1, 9, none⟩) (by simp; omega)).trans bb4_9
  clear ba4_7 bb4_7 ba4_8 bb4_8 ba4_9 bb4_9 z4 B4
  clear hb K4
  go_wp2
  go_ret
  exact ⟨rfl, B5.out⟩


end Go.Proofs.YtjofmoebijdccaaGreat.vm
