/-
  The law's look at the marks in slices of Fun: where they are what was marked, it tells how far it came; nothing that was there is turned.
  The law's look at the marks in one Heap: where its words are what was marked, it tells how far it came; nothing that was there is turned.
  The law's look at the marks in slices of Call: where they are what was marked, it tells how far it came; nothing that was there is turned.
  The law's look at the marks in one Vm: where its slices are what was marked, it tells how far it came; nothing that was there is turned.
  What is right of a heap (chapter 17): told in plain data; no program named.
  What is come to from roots, and in which order (chapter 18): told in plain data; no program named.
-/
import Derived.Deep.RegionWith
import Derived.Test.YtjibmpebebephaaGreatDoorC1
import Derived.Test.YtjibmpebebephaaGreatDoorC2
import Derived.Test.YtjibmpebebephaaGreatDoorC3
import Derived.Test.YtjibmpebebephaaGreatDoorC4
import Derived.Test.YtjibmpebebephaaGreatDoorC5
import Derived.Test.YtjibmpebebephaaGreatDoorC6
import Derived.Test.YtjibmpebebephaaGreatDoorC7
import Derived.Test.YtjibmpebebephaaGreatDoorC8
namespace Go.Proofs.YtjibmpebebephaaGreatDoor.fun
open Go.RowKit Go.Proofs.YtjibmpebebephaaGreatDoor.rose Go.Proofs.YtjibmpebebephaaGreatDoor
set_option linter.unusedVariables false

def HeldSays (ks : List FunD) : Prop := ∀ (v : Value) (w : World) (k : Int), 1 ≤ k → k + (cnts ks : Nat) ≤ 1152921504606846976 → funSh.slice.rep w (· < w.heap.size) [v] (mks k ks) →
  Calls Tryz.prog 52 #[v, .int .i64 k] w fun e w' => e = .returned (.int .i64 (k + (cnts ks : Nat))) ∧ Below w.heap.size w w'

set_option maxRecDepth 100000 in
set_option maxHeartbeats 4000000 in
theorem held_of (ks : List FunD) : HeldSays ks := by
  intro v w k hk1 hk2 h
  obtain ⟨a, cap, css, rfl, hcap, hmax, hrow, hk⟩ := funs_open h
  rw [mks_length] at hcap hrow ⊢
  have hmx : (ks.length : Int) ≤ 9223372036854775807 := by unfold maxLen at hmax; omega
  have HR : Hid (RowAt w (· < w.heap.size) 2 a ks.length css ∧ ∀ i (h : i < ks.length), funSh.rep w (· < w.heap.size) (css i) (mk (k + (cnts (ks.take i) : Nat)) ks[i])) := ⟨hrow, fun i h => by have := hk i (by rw [mks_length]; exact h); rwa [mks_get h] at this⟩
  have HK : Hid (k + (cnts ks : Nat) ≤ 1152921504606846976) := hk2
  clear h hcap hmax hrow hk hk2 
  go_enter Tryz.func52, Tryz.ntmps52
  go_wp2
  go_loopw [1, 5] (fun v1 v5 wr => ∃ (i : Nat), i ≤ ks.length ∧ v5 = .int .i64 i ∧ v1 = .int .i64 (k + (cnts (ks.take i) : Nat)) ∧ Hid (Below w.heap.size w wr)) (fun _ v5 _ => ks.length - (intOf v5).toNat)
  case atStart => exact ⟨0, Nat.zero_le _, rfl, by simp [cnts], Below.refl _ _⟩
  case round =>
    obtain ⟨i, hi, rfl, rfl, HB0⟩ := hrel
    by_cases hlt : i < ks.length
    · obtain ⟨b, o, rfl, hS, hc⟩ := HR.out.1 i hlt
      have hrep := HR.out.2 i hlt
      have W1 : Hid (cnts (ks.take (i + 1)) = cnts (ks.take i) + cnt ks[i]) := cnts_take hlt
      have W2 : Hid (cnts (ks.take (i + 1)) ≤ cnts ks) := cnts_take_le ks (i + 1)
      obtain ⟨k1, hk⟩ : ∃ k1 : Int, k1 = k + (cnts (ks.take i) : Nat) := ⟨_, rfl⟩
      have HK1 : Hid (k1 = k + (cnts (ks.take i) : Nat)) := hk
      rw [← hk] at hrep ⊢
      generalize ks[i] = T at W1 hrep
      obtain ⟨x0, x1⟩ := T
      rw [mk_eq] at hrep
      obtain ⟨y0, y1, ba1, bc1, hT, hcs, f0, f1⟩ := fun_open hrep
      cases hT
      rw [hcs] at hc
      have ce0_0 : wr.cell? ⟨b, o + i * 2, none⟩ = some (.int .i64 k1) := (HB0.out.cell (p := ⟨b, o + i * 2, none⟩) hS).trans (hc 0 _ rfl)
      have ce0_1 : wr.cell? ⟨b, o + i * 2 + 1, none⟩ = some (.slice ba1 (op.mks (k1 + 1) x1).length bc1) := (HB0.out.cell (p := ⟨b, o + i * 2 + 1, none⟩) hS).trans (hc 1 _ rfl)
      have W3 : Hid (cnt ((x0, x1)) = 1 + (op.cnts x1)) := by show _ = _; simp [cnt]
      have hb1 : 1 ≤ k1 := by omega
      have hb2 : k1 + 1 + (op.cnts x1 : Nat) ≤ 1152921504606846976 := by have := W1.out; have := W2.out; have := W3.out; have := HK.out; omega
      have R_1 : Hid (op.opSh.slice.rep w (· < w.heap.size) [.slice ba1 (op.mks (k1 + 1) x1).length bc1] (op.mks (k1 + 1) x1)) := f1
      have z0 : b < wr.heap.size := Nat.lt_of_lt_of_le hS HB0.out.size
      clear hk hrep hcs hc hS f0 f1
      have hcall := op.heldS_any x1 _ wr (k1 + 1) (by omega) (by omega) (op.opSh.slice.mono (op.opSh.slice.below R_1.out HB0.out) fun q hq => Nat.lt_of_lt_of_le hq HB0.out.size)
      have tt1 : decide (k1 + 1 + (op.cnts x1 : Nat) < 0) = false := by simp; omega
      go_wp2_with fail
      refine hcall.mono ?_
      rintro e w1 ⟨rfl, hb⟩
      have HB1 : Hid (Below w.heap.size w w1) := HB0.out.trans (hb.mono HB0.out.size)
      have z1 := Nat.lt_of_lt_of_le z0 hb.size
      clear hb hcall HB0 z0 ce0_0 ce0_1
      have hx : k1 + 1 + (op.cnts x1 : Nat) = k + (cnts (ks.take (i + 1)) : Nat) := by have := W1.out; have := W3.out; have := HK1.out; omega
      go_wp2
      go_round
      case rel => exact ⟨i + 1, by omega, by go_num, by first | rfl | rw [hx], HB1⟩
      case measure => simp [intOf]; omega
    · obtain rfl : i = ks.length := by omega
      go_wp2
      go_ret
      exact ⟨by rw [List.take_length]; rfl, HB0.out⟩

theorem heldS_any (ks : List FunD) : HeldSays ks := held_of ks


end Go.Proofs.YtjibmpebebephaaGreatDoor.fun

namespace Go.Proofs.YtjibmpebebephaaGreatDoor.heap
open Go.RowKit Go.Proofs.YtjibmpebebephaaGreatDoor.rose Go.Proofs.YtjibmpebebephaaGreatDoor
set_option linter.unusedVariables false

set_option maxHeartbeats 1000000 in
theorem heldT_any (T : HeapD) (cs : List Value) (w : World) (k : Int) (hk1 : 1 ≤ k) (hk2 : k + (cntT T : Nat) ≤ 1152921504606846976) (h : heapSh.rep w (· < w.heap.size) cs (mkT k T)) :
    Calls Tryz.prog 53 #[.agg cs.toArray, .int .i64 k] w fun e w' => e = .returned (.int .i64 (k + (cntT T : Nat))) ∧ Below w.heap.size w w' := by
  obtain ⟨x0, x1, x2, x3⟩ := T
  obtain ⟨y0, a, cap, y1, y2, y3, hT, rfl, hk, -, -, -⟩ := heap_open h
  simp only [mkT, Prod.mk.injEq] at hT
  obtain ⟨rfl, -, -, -⟩ := hT
  have hct : cntT (x0, x1, x2, x3) = x0.length := rfl
  rw [hct] at hk2 ⊢
  clear h hct
  have BA : Hid (Below w.heap.size w (w.alloc (.cells #[.slice a (ints.mks k x0).length cap, .int .i64 y1, .int .i64 y2, .int .i64 y3] 32))) := (Below.refl _ _).alloc (Nat.le_refl _) _
  have HK : Hid (ints.intsSh.rep w (· < w.heap.size) [.slice a (ints.mks k x0).length cap] (ints.mks k x0)) := hk
  have t0 : decide (k + (x0.length : Nat) < 0) = false := by simp; omega
  clear hk
  go_enter Tryz.func53, Tryz.ntmps53
  go_wp2_with fail
  refine (ints.held_any x0 _ _ k hk1 hk2 (ints.intsSh.mono (ints.intsSh.below HK.out BA.out) fun q hq => Nat.lt_of_lt_of_le hq BA.out.size)).mono ?_
  rintro e w1 ⟨rfl, hb⟩
  have B1 : Hid (Below w.heap.size w w1) := BA.out.trans (hb.mono BA.out.size)
  clear hb
  go_wp2
  go_ret
  exact ⟨rfl, B1.out⟩

end Go.Proofs.YtjibmpebebephaaGreatDoor.heap

namespace Go.Proofs.YtjibmpebebephaaGreatDoor.call
open Go.RowKit Go.Proofs.YtjibmpebebephaaGreatDoor.rose Go.Proofs.YtjibmpebebephaaGreatDoor
set_option linter.unusedVariables false

def HeldSays (ks : List CallD) : Prop := ∀ (v : Value) (w : World) (k : Int), 1 ≤ k → k + (cnts ks : Nat) ≤ 1152921504606846976 → callSh.slice.rep w (· < w.heap.size) [v] (mks k ks) →
  Calls Tryz.prog 55 #[v, .int .i64 k] w fun e w' => e = .returned (.int .i64 (k + (cnts ks : Nat))) ∧ Below w.heap.size w w'

set_option maxRecDepth 100000 in
set_option maxHeartbeats 4000000 in
theorem held_of (ks : List CallD) : HeldSays ks := by
  intro v w k hk1 hk2 h
  obtain ⟨a, cap, css, rfl, hcap, hmax, hrow, hk⟩ := calls_open h
  rw [mks_length] at hcap hrow ⊢
  have hmx : (ks.length : Int) ≤ 9223372036854775807 := by unfold maxLen at hmax; omega
  have HR : Hid (RowAt w (· < w.heap.size) 3 a ks.length css ∧ ∀ i (h : i < ks.length), callSh.rep w (· < w.heap.size) (css i) (mk (k + (cnts (ks.take i) : Nat)) ks[i])) := ⟨hrow, fun i h => by have := hk i (by rw [mks_length]; exact h); rwa [mks_get h] at this⟩
  have HK : Hid (k + (cnts ks : Nat) ≤ 1152921504606846976) := hk2
  clear h hcap hmax hrow hk hk2 
  go_enter Tryz.func55, Tryz.ntmps55
  go_wp2
  go_loopw [1, 5] (fun v1 v5 wr => ∃ (i : Nat), i ≤ ks.length ∧ v5 = .int .i64 i ∧ v1 = .int .i64 (k + (cnts (ks.take i) : Nat)) ∧ Hid (Below w.heap.size w wr)) (fun _ v5 _ => ks.length - (intOf v5).toNat)
  case atStart => exact ⟨0, Nat.zero_le _, rfl, by simp [cnts], Below.refl _ _⟩
  case round =>
    obtain ⟨i, hi, rfl, rfl, HB0⟩ := hrel
    by_cases hlt : i < ks.length
    · obtain ⟨b, o, rfl, hS, hc⟩ := HR.out.1 i hlt
      have hrep := HR.out.2 i hlt
      have W1 : Hid (cnts (ks.take (i + 1)) = cnts (ks.take i) + cnt ks[i]) := cnts_take hlt
      have W2 : Hid (cnts (ks.take (i + 1)) ≤ cnts ks) := cnts_take_le ks (i + 1)
      obtain ⟨k1, hk⟩ : ∃ k1 : Int, k1 = k + (cnts (ks.take i) : Nat) := ⟨_, rfl⟩
      have HK1 : Hid (k1 = k + (cnts (ks.take i) : Nat)) := hk
      rw [← hk] at hrep ⊢
      generalize ks[i] = T at W1 hrep
      obtain ⟨x0, x1, x2⟩ := T
      rw [mk_eq] at hrep
      obtain ⟨y0, y1, y2, hT, hcs, f0, f1, f2⟩ := call_open hrep
      cases hT
      rw [hcs] at hc
      have ce0_0 : wr.cell? ⟨b, o + i * 3, none⟩ = some (.int .i64 k1) := (HB0.out.cell (p := ⟨b, o + i * 3, none⟩) hS).trans (hc 0 _ rfl)
      have ce0_1 : wr.cell? ⟨b, o + i * 3 + 1, none⟩ = some (.int .i64 (k1 + 1)) := (HB0.out.cell (p := ⟨b, o + i * 3 + 1, none⟩) hS).trans (hc 1 _ rfl)
      have ce0_2 : wr.cell? ⟨b, o + i * 3 + 2, none⟩ = some (.int .i64 (k1 + 1 + 1)) := (HB0.out.cell (p := ⟨b, o + i * 3 + 2, none⟩) hS).trans (hc 2 _ rfl)
      have W3 : Hid (cnt ((x0, x1, x2)) = 3) := by show _ = _; simp [cnt]
      have hb1 : 1 ≤ k1 := by omega
      have hb2 : k1 + 3 ≤ 1152921504606846976 := by have := W1.out; have := W2.out; have := W3.out; have := HK.out; omega
      have z0 : b < wr.heap.size := Nat.lt_of_lt_of_le hS HB0.out.size
      clear hk hrep hcs hc hS f0 f1 f2
      have hx : k1 + 1 + 1 + 1 = k + (cnts (ks.take (i + 1)) : Nat) := by have := W1.out; have := W3.out; have := HK1.out; omega
      go_wp2
      go_round
      case rel => exact ⟨i + 1, by omega, by go_num, by first | rfl | rw [hx], HB0⟩
      case measure => simp [intOf]; omega
    · obtain rfl : i = ks.length := by omega
      go_wp2
      go_ret
      exact ⟨by rw [List.take_length]; rfl, HB0.out⟩

theorem heldS_any (ks : List CallD) : HeldSays ks := held_of ks


end Go.Proofs.YtjibmpebebephaaGreatDoor.call

namespace Go.Proofs.YtjibmpebebephaaGreatDoor.vm
open Go.RowKit Go.Proofs.YtjibmpebebephaaGreatDoor.rose Go.Proofs.YtjibmpebebephaaGreatDoor
set_option linter.unusedVariables false

set_option maxHeartbeats 4000000 in
theorem heldT_any (T : VmD) (cs : List Value) (w : World) (k : Int) (hk1 : 1 ≤ k) (hk2 : k + (cntT T : Nat) ≤ 1152921504606846976) (h : vmSh.rep w (· < w.heap.size) cs (mkT k T)) :
    Calls Tryz.prog 17 #[.agg cs.toArray, .int .i64 k] w fun e w' => e = .returned (.int .i64 (k + (cntT T : Nat))) ∧ Below w.heap.size w w' := by
  obtain ⟨x0, x1, x2, x3, x4, x5, x6⟩ := T
  have HSB := vmSh.one h
  obtain ⟨y0, a0, c0, y1, u1_0, u1_1, u1_2, u1_3, y2, a2, c2, y3, a3, c3, y4, a4, c4, y5, y6, hT, rfl, f0, f1, f2, f3, f4, f5⟩ := vm_open h
  simp only [mkT, Prod.mk.injEq] at hT
  obtain ⟨hT0, hT1, hT2, hT3, hT4, -, -⟩ := hT
  have ou1_0 : (u1_0).oneCell' = true := HSB _ (by simp)
  have ou1_1 : (u1_1).oneCell' = true := HSB _ (by simp)
  have ou1_2 : (u1_2).oneCell' = true := HSB _ (by simp)
  have ou1_3 : (u1_3).oneCell' = true := HSB _ (by simp)
  have hct : cntT (x0, x1, x2, x3, x4, x5, x6) = fun.cnts x0 + (heap.cntT x1 + (x2.length + (call.cnts x3 + (x4.length)))) := rfl
  rw [hct] at hk2 ⊢
  clear h hct HSB
  have K0 : Hid (fun.funSh.slice.rep w (· < w.heap.size) [.slice a0 y0.length c0] (fun.mks (k) x0)) := by show fun.funSh.slice.rep _ _ _ _; rw [hT0]; exact f0
  have K1 : Hid (heap.heapSh.rep w (· < w.heap.size) [u1_0, u1_1, u1_2, u1_3] (heap.mkT (k + (fun.cnts x0 : Nat)) x1)) := by show heap.heapSh.rep _ _ _ _; rw [hT1]; exact f1
  have K2 : Hid (Sh.int.slice.rep w (· < w.heap.size) [.slice a2 y2.length c2] (ints.mks (k + (fun.cnts x0 : Nat) + (heap.cntT x1 : Nat)) x2)) := by show Sh.int.slice.rep _ _ _ _; rw [hT2]; exact f2
  have K3 : Hid (call.callSh.slice.rep w (· < w.heap.size) [.slice a3 y3.length c3] (call.mks (k + (fun.cnts x0 : Nat) + (heap.cntT x1 : Nat) + (x2.length : Nat)) x3)) := by show call.callSh.slice.rep _ _ _ _; rw [hT3]; exact f3
  have K4 : Hid (Sh.int.slice.rep w (· < w.heap.size) [.slice a4 y4.length c4] (ints.mks (k + (fun.cnts x0 : Nat) + (heap.cntT x1 : Nat) + (x2.length : Nat) + (call.cnts x3 : Nat)) x4)) := by show Sh.int.slice.rep _ _ _ _; rw [hT4]; exact f4
  clear f0 f1 f2 f3 f4 f5 hT0 hT1 hT2 hT3 hT4
  have BA : Hid (Below w.heap.size w (w.alloc (.cells #[.slice a0 y0.length c0, u1_0, u1_1, u1_2, u1_3, .slice a2 y2.length c2, .slice a3 y3.length c3, .slice a4 y4.length c4, .int .i64 y5, .bool y6] 35))) := (Below.refl _ _).alloc (Nat.le_refl _) _
  go_enter Tryz.func17, Tryz.ntmps17
  go_wp2_with fail
  refine (fun.heldS_any x0 _ _ (k) (by omega) (by omega) (fun.funSh.slice.mono (fun.funSh.slice.below K0.out BA.out) fun q hq => Nat.lt_of_lt_of_le hq BA.out.size)).mono ?_
  rintro e w1 ⟨rfl, hb⟩
  have B1 : Hid (Below w.heap.size w w1) := BA.out.trans (hb.mono BA.out.size)
  have t0 : decide (k + (fun.cnts x0 : Nat) < 0) = false := by simp; omega
  have b1_1 : w1.cell? ⟨w.heap.size, 1, none⟩ = some (u1_0) := (hb.cell (p := ⟨w.heap.size, 1, none⟩) (by simp)).trans (by simp)
  have b1_2 : w1.cell? ⟨w.heap.size, 2, none⟩ = some (u1_1) := (hb.cell (p := ⟨w.heap.size, 2, none⟩) (by simp)).trans (by simp)
  have b1_3 : w1.cell? ⟨w.heap.size, 3, none⟩ = some (u1_2) := (hb.cell (p := ⟨w.heap.size, 3, none⟩) (by simp)).trans (by simp)
  have b1_4 : w1.cell? ⟨w.heap.size, 4, none⟩ = some (u1_3) := (hb.cell (p := ⟨w.heap.size, 4, none⟩) (by simp)).trans (by simp)
  have b1_5 : w1.cell? ⟨w.heap.size, 5, none⟩ = some (.slice a2 y2.length c2) := (hb.cell (p := ⟨w.heap.size, 5, none⟩) (by simp)).trans (by simp)
  have b1_6 : w1.cell? ⟨w.heap.size, 6, none⟩ = some (.slice a3 y3.length c3) := (hb.cell (p := ⟨w.heap.size, 6, none⟩) (by simp)).trans (by simp)
  have b1_7 : w1.cell? ⟨w.heap.size, 7, none⟩ = some (.slice a4 y4.length c4) := (hb.cell (p := ⟨w.heap.size, 7, none⟩) (by simp)).trans (by simp)
  have LS1 : Hid (w.heap.size + 1 ≤ w1.heap.size) := by show _ ≤ _; have := hb.size; simpa using this
  clear hb
  go_wp2_with fail
  refine (heap.heldT_any x1 _ _ (k + (fun.cnts x0 : Nat)) (by omega) (by omega) (heap.heapSh.mono (heap.heapSh.below K1.out B1.out) fun q hq => Nat.lt_of_lt_of_le hq B1.out.size)).mono ?_
  rintro e w2 ⟨rfl, hb⟩
  have B2 : Hid (Below w.heap.size w w2) := B1.out.trans (hb.mono B1.out.size)
  have t1 : decide (k + (fun.cnts x0 : Nat) + (heap.cntT x1 : Nat) < 0) = false := by simp; omega
  have b2_5 : w2.cell? ⟨w.heap.size, 5, none⟩ = some (.slice a2 y2.length c2) := (hb.cell (p := ⟨w.heap.size, 5, none⟩) (Nat.lt_of_lt_of_le (by simp) LS1.out)).trans b1_5
  have b2_6 : w2.cell? ⟨w.heap.size, 6, none⟩ = some (.slice a3 y3.length c3) := (hb.cell (p := ⟨w.heap.size, 6, none⟩) (Nat.lt_of_lt_of_le (by simp) LS1.out)).trans b1_6
  have b2_7 : w2.cell? ⟨w.heap.size, 7, none⟩ = some (.slice a4 y4.length c4) := (hb.cell (p := ⟨w.heap.size, 7, none⟩) (Nat.lt_of_lt_of_le (by simp) LS1.out)).trans b1_7
  have LS2 : Hid (w.heap.size + 1 ≤ w2.heap.size) := Nat.le_trans LS1.out hb.size
  clear b1_1 b1_2 b1_3 b1_4 b1_5 b1_6 b1_7
  clear hb
  go_wp2_with fail
  refine (ints.held_any x2 _ _ (k + (fun.cnts x0 : Nat) + (heap.cntT x1 : Nat)) (by omega) (by omega) (Sh.int.slice.mono (Sh.int.slice.below K2.out B2.out) fun q hq => Nat.lt_of_lt_of_le hq B2.out.size)).mono ?_
  rintro e w3 ⟨rfl, hb⟩
  have B3 : Hid (Below w.heap.size w w3) := B2.out.trans (hb.mono B2.out.size)
  have t2 : decide (k + (fun.cnts x0 : Nat) + (heap.cntT x1 : Nat) + (x2.length : Nat) < 0) = false := by simp; omega
  have b3_6 : w3.cell? ⟨w.heap.size, 6, none⟩ = some (.slice a3 y3.length c3) := (hb.cell (p := ⟨w.heap.size, 6, none⟩) (Nat.lt_of_lt_of_le (by simp) LS2.out)).trans b2_6
  have b3_7 : w3.cell? ⟨w.heap.size, 7, none⟩ = some (.slice a4 y4.length c4) := (hb.cell (p := ⟨w.heap.size, 7, none⟩) (Nat.lt_of_lt_of_le (by simp) LS2.out)).trans b2_7
  have LS3 : Hid (w.heap.size + 1 ≤ w3.heap.size) := Nat.le_trans LS2.out hb.size
  clear b2_5 b2_6 b2_7
  clear hb
  go_wp2_with fail
  refine (call.heldS_any x3 _ _ (k + (fun.cnts x0 : Nat) + (heap.cntT x1 : Nat) + (x2.length : Nat)) (by omega) (by omega) (call.callSh.slice.mono (call.callSh.slice.below K3.out B3.out) fun q hq => Nat.lt_of_lt_of_le hq B3.out.size)).mono ?_
  rintro e w4 ⟨rfl, hb⟩
  have B4 : Hid (Below w.heap.size w w4) := B3.out.trans (hb.mono B3.out.size)
  have t3 : decide (k + (fun.cnts x0 : Nat) + (heap.cntT x1 : Nat) + (x2.length : Nat) + (call.cnts x3 : Nat) < 0) = false := by simp; omega
  have b4_7 : w4.cell? ⟨w.heap.size, 7, none⟩ = some (.slice a4 y4.length c4) := (hb.cell (p := ⟨w.heap.size, 7, none⟩) (Nat.lt_of_lt_of_le (by simp) LS3.out)).trans b3_7
  have LS4 : Hid (w.heap.size + 1 ≤ w4.heap.size) := Nat.le_trans LS3.out hb.size
  clear b3_6 b3_7
  clear hb
  go_wp2_with fail
  refine (ints.held_any x4 _ _ (k + (fun.cnts x0 : Nat) + (heap.cntT x1 : Nat) + (x2.length : Nat) + (call.cnts x3 : Nat)) (by omega) (by omega) (Sh.int.slice.mono (Sh.int.slice.below K4.out B4.out) fun q hq => Nat.lt_of_lt_of_le hq B4.out.size)).mono ?_
  rintro e w5 ⟨rfl, hb⟩
  have B5 : Hid (Below w.heap.size w w5) := B4.out.trans (hb.mono B4.out.size)
  have t4 : decide (k + ((fun.cnts x0 + (heap.cntT x1 + (x2.length + (call.cnts x3 + (x4.length)))) : Nat) : Int) < 0) = false := by simp; omega
  clear b4_7
  clear hb
  have hx : k + (fun.cnts x0 : Nat) + (heap.cntT x1 : Nat) + (x2.length : Nat) + (call.cnts x3 : Nat) + (x4.length : Nat) = k + ((fun.cnts x0 + (heap.cntT x1 + (x2.length + (call.cnts x3 + (x4.length)))) : Nat) : Int) := by omega
  rw [hx]
  clear hx
  go_wp2
  go_ret
  exact ⟨rfl, B5.out⟩

end Go.Proofs.YtjibmpebebephaaGreatDoor.vm

namespace Go.Proofs.YtjibmpebebephaaGreatDoor.heap
open Go Go.RowKit Go.Proofs.YtjibmpebebephaaGreatDoor.rose Go.Proofs.YtjibmpebebephaaGreatDoor Go.Proofs.YtjibmpebebephaaGreatDoor.fun
set_option linter.unusedVariables false

/-- The parts of a header. -/
def funF (h : Int) : Bool := decide (h / 2 % 2 = 1)
def tagF (h : Int) : Int := Int.tdiv (h / 2 / 2) 64
def manyF (h : Int) : Int := h / 2 / 2 % 64
theorem many_in (h : Int) : 0 ≤ manyF h ∧ manyF h ≤ 63 := by unfold manyF; omega
/-- Whether it is no header of a block that there is room for. -/
def badH (h room : Int) : Bool := decide (h < 0) || decide (h % 2 = 0) || decide (3000 < tagF h) || decide (20 < manyF h) || decide (room ≤ manyF h)
/-- The places of blocks from p on; whether they are one behind the other. -/
def plF (W : List Int) (nx : Nat) (p : Nat) : List Int × Bool :=
  if h : p < nx then
    if badH (W.getD p 0) ((nx : Int) - p) then ([], false)
    else ((p : Int) :: (plF W nx (p + 1 + (manyF (W.getD p 0)).toNat)).1, (plF W nx (p + 1 + (manyF (W.getD p 0)).toNat)).2)
  else ([], true)
termination_by nx - p
decreasing_by all_goals omega
theorem plF_end {W : List Int} {nx p : Nat} (h : nx ≤ p) : plF W nx p = ([], true) := by rw [plF, dif_neg (by omega)]
theorem plF_bad {W : List Int} {nx p : Nat} (h : p < nx) (hb : badH (W.getD p 0) ((nx : Int) - p) = true) : plF W nx p = ([], false) := by rw [plF, dif_pos h, if_pos hb]
theorem plF_more {W : List Int} {nx p : Nat} (h : p < nx) (hb : badH (W.getD p 0) ((nx : Int) - p) = false) : plF W nx p = ((p : Int) :: (plF W nx (p + 1 + (manyF (W.getD p 0)).toNat)).1, (plF W nx (p + 1 + (manyF (W.getD p 0)).toNat)).2) := by
  rw [plF, dif_pos h, hb]; simp
/-- What is known of such a place: its block lies ahead of nx. -/
theorem plF_in {W : List Int} {nx : Nat} : ∀ {p : Nat}, (plF W nx p).2 = true → ∀ x ∈ (plF W nx p).1, ∃ q : Nat, x = q ∧ p ≤ q ∧ q + (manyF (W.getD q 0)).toNat < nx := by
  intro p
  induction hd : nx - p using Nat.strongRecOn generalizing p with
  | _ d ih =>
    intro hok x hx
    by_cases hp : p < nx
    · rcases hb : badH (W.getD p 0) ((nx : Int) - p) with _ | _
      · rw [plF_more hp hb] at hok hx
        rcases List.mem_cons.1 hx with rfl | hx
        · refine ⟨p, rfl, Nat.le_refl _, ?_⟩
          have hm := many_in (W.getD p 0)
          unfold badH at hb
          simp only [Bool.or_eq_false_iff, decide_eq_false_iff_not] at hb
          omega
        · obtain ⟨q, rfl, h1, h2⟩ := ih (nx - (p + 1 + (manyF (W.getD p 0)).toNat)) (by omega) rfl hok x hx
          exact ⟨q, rfl, by omega, h2⟩
      · rw [plF_bad hp hb] at hok; cases hok
    · rw [plF_end (by omega)] at hx; cases hx
theorem plF_len {W : List Int} {nx : Nat} : ∀ {p : Nat}, (plF W nx p).1.length ≤ nx - p := by
  intro p
  induction hd : nx - p using Nat.strongRecOn generalizing p with
  | _ d ih =>
    by_cases hp : p < nx
    · rcases hb : badH (W.getD p 0) ((nx : Int) - p) with _ | _
      · rw [plF_more hp hb, List.length_cons]
        have := ih (nx - (p + 1 + (manyF (W.getD p 0)).toNat)) (by omega) rfl
        omega
      · rw [plF_bad hp hb]; simp
    · rw [plF_end (by omega)]; simp
/-- Whether a word is an int of a word, or one of those places. -/
def thereB (l : List Int) (x : Int) : Bool := if x % 2 = 0 then decide (x / 2 ∈ l) else inB (x / 2) (-1073741824) 1073741823
/-- Whether a heap's numbers are right. -/
def headB (T : HeapD) : Bool := inB T.2.1 1 3000 && decide ((T.1.length : Int) = 2 * T.2.1) && (decide (T.2.2.1 = 0) || decide (T.2.2.1 = T.2.1)) && inB T.2.2.2 T.2.2.1 (T.2.2.1 + T.2.1)
/-- Its blocks' places. -/
def plT (T : HeapD) : List Int × Bool := plF T.1 T.2.2.2.toNat T.2.2.1.toNat
/-- Whether the kids of the block at q are right. -/
def kidsB (T : HeapD) (q : Nat) : Bool := (List.range (manyF (T.1.getD q 0)).toNat).all fun k => thereB (plT T).1 (T.1.getD (q + 1 + k) 0)
def heapB (T : HeapD) : Bool := headB T && (plT T).2 && (plT T).1.all fun x => kidsB T x.toNat
theorem kids_no {T : HeapD} {q k : Nat} (hk : k < (manyF (T.1.getD q 0)).toNat) (h : thereB (plT T).1 (T.1.getD (q + 1 + k) 0) = false) : kidsB T q = false := by
  unfold kidsB; rw [List.all_eq_false]; exact ⟨k, List.mem_range.2 hk, by rw [h]; decide⟩
theorem kids_yes {T : HeapD} {q : Nat} (h : ∀ k, k < (manyF (T.1.getD q 0)).toNat → thereB (plT T).1 (T.1.getD (q + 1 + k) 0) = true) : kidsB T q = true := by
  unfold kidsB; rw [List.all_eq_true]; exact fun k hk => h k (List.mem_range.1 hk)
theorem heapB_head {T : HeapD} (h : headB T = false) : heapB T = false := by unfold heapB; rw [h]; rfl
theorem heapB_places {T : HeapD} (h : (plT T).2 = false) : heapB T = false := by unfold heapB; rw [h]; simp
theorem heapB_kids {T : HeapD} {i : Nat} (hi : i < (plT T).1.length) (h : kidsB T ((plT T).1[i]).toNat = false) : heapB T = false := by
  unfold heapB
  have : ((plT T).1.all fun x => kidsB T x.toNat) = false := by rw [List.all_eq_false]; exact ⟨_, List.getElem_mem hi, by simp [h]⟩
  rw [this]; simp
theorem heapB_yes {T : HeapD} (h1 : headB T = true) (h2 : (plT T).2 = true) (h3 : ∀ i (hi : i < (plT T).1.length), kidsB T ((plT T).1[i]).toNat = true) : heapB T = true := by
  unfold heapB
  have : ((plT T).1.all fun x => kidsB T x.toNat) = true := by
    rw [List.all_eq_true]
    intro x hx
    obtain ⟨i, hi, rfl⟩ := List.getElem_of_mem hx
    exact h3 i hi
  rw [this, h1, h2]; rfl
theorem head_in {T : HeapD} (h : headB T = true) : 1 ≤ T.2.1 ∧ T.2.1 ≤ 3000 ∧ (T.1.length : Int) = 2 * T.2.1 ∧ (T.2.2.1 = 0 ∨ T.2.2.1 = T.2.1) ∧ T.2.2.1 ≤ T.2.2.2 ∧ T.2.2.2 ≤ T.2.2.1 + T.2.1 := by
  unfold headB at h
  simp only [Bool.and_eq_true, Bool.or_eq_true, decide_eq_true_eq] at h
  have h1 := inB_yes h.1.1.1
  have h2 := inB_yes h.2
  exact ⟨h1.1, h1.2, h.1.1.2, h.1.2, h2.1, h2.2⟩

end Go.Proofs.YtjibmpebebephaaGreatDoor.heap

namespace Go.Proofs.YtjibmpebebephaaGreatDoor.heap
open Go Go.RowKit Go.Proofs.YtjibmpebebephaaGreatDoor.rose Go.Proofs.YtjibmpebebephaaGreatDoor Go.Proofs.YtjibmpebebephaaGreatDoor.fun
set_option linter.unusedVariables false
set_option linter.unusedSimpArgs false

/-- Whether a heap and roots are right. -/
def rightB (T : HeapD) (rs : List Int) : Bool := heapB T && rs.all (thereB (plT T).1)
theorem right_heap {T : HeapD} {rs : List Int} (h : heapB T = false) : rightB T rs = false := by unfold rightB; rw [h]; rfl
theorem right_root {T : HeapD} {rs : List Int} {i : Nat} (hi : i < rs.length) (h : thereB (plT T).1 rs[i] = false) : rightB T rs = false := by
  unfold rightB
  have : rs.all (thereB (plT T).1) = false := by rw [List.all_eq_false]; exact ⟨_, List.getElem_mem hi, by simp [h]⟩
  rw [this]; simp
theorem right_yes {T : HeapD} {rs : List Int} (h : heapB T = true) (h2 : ∀ i (hi : i < rs.length), thereB (plT T).1 rs[i] = true) : rightB T rs = true := by
  unfold rightB
  have : rs.all (thereB (plT T).1) = true := by
    rw [List.all_eq_true]
    intro x hx
    obtain ⟨i, hi, rfl⟩ := List.getElem_of_mem hx
    exact h2 i hi
  rw [this, h]; rfl
theorem right_is {T : HeapD} {rs : List Int} (h : rightB T rs = true) : heapB T = true ∧ ∀ x ∈ rs, thereB (plT T).1 x = true := by
  unfold rightB at h
  simp only [Bool.and_eq_true] at h
  exact ⟨h.1, fun x hx => List.all_eq_true.1 h.2 x hx⟩

theorem heap_head {T : HeapD} (h : heapB T = true) : headB T = true := by
  unfold heapB at h
  simp only [Bool.and_eq_true] at h
  exact h.1.1
theorem heap_places {T : HeapD} (h : heapB T = true) : (plT T).2 = true := by
  unfold heapB at h
  simp only [Bool.and_eq_true] at h
  exact h.1.2
/-- The kid k of the block at p. -/
def kidAt (W : List Int) (p k : Nat) : Int := W.getD (p + 1 + k) 0
/-- The kids of the block at p. -/
def kidsL (W : List Int) (p : Nat) : List Int := (List.range (manyF (W.getD p 0)).toNat).map (kidAt W p)
/-- A word is met. -/
def addR (out : List Int) (x : Int) : List Int := if x % 2 = 0 ∧ x / 2 ∉ out then out ++ [x / 2] else out
def addRs (out xs : List Int) : List Int := xs.foldl addR out
/-- Block by block, from place k of the order on. -/
def scanF (W : List Int) : Nat → Nat → List Int → List Int
  | 0, _, out => out
  | f + 1, k, out => if h : k < out.length then scanF W f (k + 1) (addRs out (kidsL W (out[k]).toNat)) else out
/-- The blocks that are come to, in the order in which they are met. -/
def orderF (T : HeapD) (rs : List Int) : List Int := scanF T.1 (T.1.length + 1) 0 (addRs [] rs)

theorem addRs_push (out xs : List Int) (x : Int) : addRs out (xs ++ [x]) = addR (addRs out xs) x := by simp [addRs, List.foldl_append]
theorem addRs_take {out xs : List Int} {i : Nat} (h : i < xs.length) : addRs out (xs.take (i + 1)) = addR (addRs out (xs.take i)) xs[i] := by rw [List.take_succ_eq_append_getElem h, addRs_push]
theorem addR_skip {out : List Int} {x : Int} (h : x % 2 ≠ 0 ∨ x / 2 ∈ out) : addR out x = out := by unfold addR; rw [if_neg]; rintro ⟨h1, h2⟩; rcases h with h | h; exact h h1; exact h2 h
theorem addR_put {out : List Int} {x : Int} (h : x % 2 = 0) (h2 : x / 2 ∉ out) : addR out x = out ++ [x / 2] := by unfold addR; rw [if_pos ⟨h, h2⟩]
theorem kidsL_len (W : List Int) (p : Nat) : (kidsL W p).length = (manyF (W.getD p 0)).toNat := by simp [kidsL]
theorem kidsL_get {W : List Int} {p k : Nat} (h : k < (kidsL W p).length) : (kidsL W p)[k] = kidAt W p k := by simp [kidsL]
theorem scan_end {W : List Int} {f k : Nat} {out : List Int} (h : out.length ≤ k) : scanF W f k out = out := by
  cases f with
  | zero => rfl
  | succ f => rw [scanF, dif_neg (by omega)]
theorem scan_more {W : List Int} {f k : Nat} {out : List Int} (h : k < out.length) : scanF W (f + 1) k out = scanF W f (k + 1) (addRs out (kidsL W (out[k]).toNat)) := by rw [scanF, dif_pos h]

theorem nodup_len : ∀ {out L : List Int}, out.Nodup → (∀ x ∈ out, x ∈ L) → out.length ≤ L.length := by
  intro out
  induction out with
  | nil => intro L _ _; exact Nat.zero_le _
  | cons x out ih =>
    intro L hn hs
    have hx : x ∈ L := hs x List.mem_cons_self
    rw [List.nodup_cons] at hn
    have := ih (L := L.erase x) hn.2 fun y hy => by
      have hne : y ≠ x := fun e => hn.1 (by rw [← e]; exact hy)
      rw [List.mem_erase_of_ne hne]
      exact hs y (List.mem_cons_of_mem _ hy)
    rw [List.length_erase_of_mem hx] at this
    have hp : 0 < L.length := List.length_pos_of_mem hx
    simp only [List.length_cons]
    omega

/-- What is known of an order on its way. -/
structure OInv (T : HeapD) (out : List Int) : Prop where
  nodup : out.Nodup
  sub : ∀ x ∈ out, x ∈ (plT T).1
theorem OInv.nil (T : HeapD) : OInv T [] := ⟨List.nodup_nil, fun x hx => by cases hx⟩
theorem OInv.add {T : HeapD} {out : List Int} (h : OInv T out) {x : Int} (hx : thereB (plT T).1 x = true) : OInv T (addR out x) := by
  unfold addR
  split
  · rename_i hc
    unfold thereB at hx
    rw [if_pos hc.1] at hx
    have hm : x / 2 ∈ (plT T).1 := of_decide_eq_true hx
    refine ⟨?_, fun y hy => ?_⟩
    · rw [List.nodup_append]
      exact ⟨h.nodup, by simp, fun a ha b hb e => by simp only [List.mem_singleton] at hb; subst hb e; exact hc.2 ha⟩
    · rcases List.mem_append.1 hy with q | q
      · exact h.sub y q
      · simp only [List.mem_singleton] at q; subst q; exact hm
  · exact h
theorem OInv.adds {T : HeapD} {xs : List Int} : ∀ {out : List Int}, OInv T out → (∀ x ∈ xs, thereB (plT T).1 x = true) → OInv T (addRs out xs) := by
  induction xs with
  | nil => intro out h _; exact h
  | cons x xs ih => intro out h hx; exact ih (h.add (hx x List.mem_cons_self)) fun y hy => hx y (List.mem_cons_of_mem _ hy)
theorem OInv.len {T : HeapD} {out : List Int} (h : OInv T out) : out.length ≤ (plT T).1.length := nodup_len h.nodup h.sub
/-- The kids of a right heap's blocks are right. -/
theorem kids_there {T : HeapD} (h : heapB T = true) {x : Int} (hx : x ∈ (plT T).1) : ∀ y ∈ kidsL T.1 x.toNat, thereB (plT T).1 y = true := by
  intro y hy
  unfold heapB at h
  simp only [Bool.and_eq_true] at h
  have h1 : kidsB T x.toNat = true := List.all_eq_true.1 h.2 x hx
  unfold kidsL at hy
  obtain ⟨k, hk, rfl⟩ := List.mem_map.1 hy
  unfold kidsB at h1
  exact List.all_eq_true.1 h1 k hk

/-- Where a block of a right heap lies. -/
theorem place_in {T : HeapD} (h : heapB T = true) {x : Int} (hx : x ∈ (plT T).1) : ∃ z : Nat, x = z ∧ z + (manyF (T.1.getD z 0)).toNat < T.1.length := by
  obtain ⟨z, hz, -, h4⟩ := plF_in (W := T.1) (nx := T.2.2.2.toNat) (p := T.2.2.1.toNat) (heap_places h) x hx
  have := head_in (heap_head h)
  exact ⟨z, hz, by omega⟩
theorem places_len {T : HeapD} (h : heapB T = true) : (plT T).1.length ≤ T.1.length ∧ T.1.length ≤ 6000 := by
  have h1 := plF_len (W := T.1) (nx := T.2.2.2.toNat) (p := T.2.2.1.toNat)
  have h2 := head_in (heap_head h)
  unfold plT
  omega

end Go.Proofs.YtjibmpebebephaaGreatDoor.heap
