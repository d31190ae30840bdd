/-
  Slices of ints as they lie in memory, and the law's measure of them.
  The law's type Heap as it lies in memory, and the law's measure of it (szHeap and of slices): what is left of a number when the weight is taken off it, or -1; nothing that was there is turned.
  The law's measure of slices of Calls: what is left of a number when their length is taken off it, or -1.
  The law's type Vm as it lies in memory, and the law's measure of it (szVm and of slices): what is left of a number when the weight is taken off it, or -1; nothing that was there is turned.
  A Ty that came in as an argument lies in memory as its cells.
  A Con that came in as an argument lies in memory as its cells.
  A Data that came in as an argument lies in memory as its cells.
  A Ty that lies in memory apart: its kids' slices are all different blocks.
  A Con that lies in memory apart: its slices are all different blocks.
  A Data that lies in memory apart: its slices are all different blocks.
-/
import Derived.Test.YtjofmoebijdccaaGreatChecked
import Derived.WalkKit
import Derived.WalkLawsBesides
import Derived.Deep.QuietTactic
import Derived.BigQuiet
import Derived.ProofKit
import Derived.OpenShut
import Derived.Test.YtjofmoebijdccaaGreatB1
import Derived.Test.YtjofmoebijdccaaGreatB2
import Derived.Test.YtjofmoebijdccaaGreatB3
import Derived.Test.YtjofmoebijdccaaGreatB4
namespace Go.Proofs.YtjofmoebijdccaaGreat.ints
open Go.RowKit Go.Proofs.YtjofmoebijdccaaGreat.rose Go.Proofs.YtjofmoebijdccaaGreat
set_option linter.unusedVariables false

set_option maxHeartbeats 1000000 in
theorem szS_any (ks : List Int) (v : Value) (w : World) (l : Int) (h0 : 0 ≤ l) (h1 : l ≤ 1048576) (h : Sh.int.slice.rep w (· < w.heap.size) [v] ks) :
    Calls Tryz.prog 20 #[v, .int .i64 l] w fun e w' => e = .returned (.int .i64 (left ks.length l)) ∧ Below w.heap.size w w' := by
  obtain ⟨a, cap, css, e, hcap, hmax, -, -, -⟩ := h
  obtain rfl : v = .slice a ks.length cap := by simpa using e
  have hmx : (ks.length : Int) ≤ 9223372036854775807 := by unfold maxLen at hmax; omega
  clear e hcap hmax
  by_cases hn : (ks.length : Int) ≤ l
  · have t1 : decide (l - (ks.length : Int) < 0) = false := by simp; omega
    have hr : left ks.length l = l - ks.length := by unfold left; rw [if_pos hn]
    go_enter Tryz.func20, Tryz.ntmps20
    go_wp2
    go_ret
    exact ⟨by first | rfl | (rw [hr]; rfl), Below.refl _ _⟩
  · have t1 : decide (l - (ks.length : Int) < 0) = true := by simp; omega
    have hr : left ks.length l = -1 := by unfold left; rw [if_neg hn]
    go_enter Tryz.func20, Tryz.ntmps20
    go_wp2
    go_ret
    exact ⟨by first | rfl | (rw [hr]; rfl), Below.refl _ _⟩

end Go.Proofs.YtjofmoebijdccaaGreat.ints

namespace Go.Proofs.YtjofmoebijdccaaGreat.heap
open Go.RowKit Go.Proofs.YtjofmoebijdccaaGreat.rose Go.Proofs.YtjofmoebijdccaaGreat
set_option linter.unusedVariables false

def SzSays (T : HeapD) : Prop := ∀ cs w l, 0 ≤ l → l ≤ 1048576 → heapSh.rep w (· < w.heap.size) cs T →
  Calls Tryz.prog 19 #[.agg cs.toArray, .int .i64 l] w fun e w' => e = .returned (.int .i64 (left (wt T) l)) ∧ Below w.heap.size w w'

set_option maxHeartbeats 1000000 in
theorem sz_any (T : HeapD) : SzSays T := by
  intro cs w l h0 h1 h
  obtain ⟨x0, a0, c0, x1, x2, x3, rfl, rfl, f0, f1, f2, f3⟩ := heap_open h
  clear h
  have K0 : ∀ (l' : Int) (w' : World), 0 ≤ l' → l' ≤ 1048576 → Below w.heap.size w w' → Calls Tryz.prog 20 #[.slice a0 x0.length c0, .int .i64 l'] w' fun e w'' => e = .returned (.int .i64 (left (x0.length) l')) ∧ Below w'.heap.size w' w'' :=
    fun l' w' h2 h3 hb => ints.szS_any x0 _ w' l' h2 h3 (Sh.int.slice.mono (Sh.int.slice.below f0 hb) fun b hlt => Nat.lt_of_lt_of_le hlt hb.size)
  clear f0 f1 f2 f3
  have hw : wt ((x0, x1, x2, x3)) = x0.length := by simp [wt]
  rw [hw]
  clear hw
  go_enter Tryz.func19, Tryz.ntmps19
  go_wp2_with fail
  refine (K0 _ _ (by omega) (by omega) ((Below.refl _ _).alloc (Nat.le_refl _) _)).mono ?_
  rintro e w1 ⟨rfl, hb⟩
  have B1 : Hid (Below w.heap.size w w1) := ((Below.refl _ _).alloc (Nat.le_refl _) _).trans (hb.mono (by simp))
  have z1 : w.heap.size < w1.heap.size := Nat.lt_of_lt_of_le (by simp) hb.size
  clear hb K0
  by_cases h10 : ((x0.length : Nat) : Int) ≤ l
  · have hl : left x0.length (l) = l - (x0.length : Nat) := by unfold left; rw [if_pos (by omega)]
    rw [hl]
    clear hl
    have t0 : decide (l - (x0.length : Nat) < 0) = false := by simp; omega
    have hr : left (x0.length) l = l - (x0.length : Nat) := by unfold left; rw [if_pos (by omega)]; try omega
    go_wp2
    go_ret
    exact ⟨by first | rfl | (rw [hr]; rfl), B1.out⟩
  · have hl : left x0.length (l) = -1 := by unfold left; rw [if_neg (by omega)]
    have hr : left (x0.length) l = -1 := by unfold left; rw [if_neg (by omega)]
    rw [hl]
    clear hl
    go_wp2
    go_ret
    exact ⟨by first | rfl | (rw [hr]; rfl), B1.out⟩


end Go.Proofs.YtjofmoebijdccaaGreat.heap

namespace Go.Proofs.YtjofmoebijdccaaGreat.call
open Go.RowKit Go.Proofs.YtjofmoebijdccaaGreat.rose Go.Proofs.YtjofmoebijdccaaGreat
set_option linter.unusedVariables false

set_option maxHeartbeats 1000000 in
theorem szS_any (ks : List CallD) (v : Value) (w : World) (l : Int) (h0 : 0 ≤ l) (h1 : l ≤ 1048576) (h : callSh.slice.rep w (· < w.heap.size) [v] ks) :
    Calls Tryz.prog 21 #[v, .int .i64 l] w fun e w' => e = .returned (.int .i64 (left ks.length l)) ∧ Below w.heap.size w w' := by
  obtain ⟨a, cap, css, e, hcap, hmax, -, -, -⟩ := h
  obtain rfl : v = .slice a ks.length cap := by simpa using e
  have hmx : (ks.length : Int) ≤ 9223372036854775807 := by unfold maxLen at hmax; omega
  clear e hcap hmax
  by_cases hn : (ks.length : Int) ≤ l
  · have t1 : decide (l - (ks.length : Int) < 0) = false := by simp; omega
    have hr : left ks.length l = l - ks.length := by unfold left; rw [if_pos hn]
    go_enter Tryz.func21, Tryz.ntmps21
    go_wp2
    go_ret
    exact ⟨by first | rfl | (rw [hr]; rfl), Below.refl _ _⟩
  · have t1 : decide (l - (ks.length : Int) < 0) = true := by simp; omega
    have hr : left ks.length l = -1 := by unfold left; rw [if_neg hn]
    go_enter Tryz.func21, Tryz.ntmps21
    go_wp2
    go_ret
    exact ⟨by first | rfl | (rw [hr]; rfl), Below.refl _ _⟩

end Go.Proofs.YtjofmoebijdccaaGreat.call

namespace Go.Proofs.YtjofmoebijdccaaGreat.vm
open Go.RowKit Go.Proofs.YtjofmoebijdccaaGreat.rose Go.Proofs.YtjofmoebijdccaaGreat
set_option linter.unusedVariables false

/-- What it weighs. -/
def wt : VmD → Nat
  | (x0, x1, x2, x3, x4, x5, x6) => (x0.length + fun.wts x0) + (heap.wt x1 + (x2.length + (x3.length + (x4.length))))
def wts : List VmD → Nat
  | [] => 0
  | k :: ks => wt k + wts ks

theorem wts_take {ks : List VmD} {i : Nat} (h : i < ks.length) : wts (ks.take (i + 1)) = wts (ks.take i) + wt ks[i] := by
  induction ks generalizing i with
  | nil => simp at h
  | cons k ks ih =>
    cases i with
    | zero => simp [wts]
    | succ i => simp [wts, ih (by simpa using h)]; omega
theorem wts_take_le (ks : List VmD) (i : Nat) : wts (ks.take i) ≤ wts ks := by
  induction ks generalizing i with
  | nil => simp [wts]
  | cons k ks ih =>
    cases i with
    | zero => simp [wts]
    | succ i => simp [wts]; exact ih i
theorem wt_mem {ks : List VmD} {k : VmD} (h : k ∈ ks) : wt k ≤ wts ks := by
  induction ks with
  | nil => cases h
  | cons a ks ih =>
    simp only [wts]
    rcases List.mem_cons.1 h with rfl | h
    · omega
    · have := ih h; omega

def SzSays (T : VmD) : Prop := ∀ cs w l, 0 ≤ l → l ≤ 1048576 → vmSh.rep w (· < w.heap.size) cs T →
  Calls Tryz.prog 5 #[.agg cs.toArray, .int .i64 l] w fun e w' => e = .returned (.int .i64 (left (wt T) l)) ∧ Below w.heap.size w w'

set_option maxHeartbeats 1000000 in
theorem sz_any (T : VmD) : SzSays T := by
  intro cs w l h0 h1 h
  obtain ⟨x0, a0, c0, x1, u1_0, u1_1, u1_2, u1_3, x2, a2, c2, x3, a3, c3, x4, a4, c4, x5, x6, rfl, rfl, f0, f1, f2, f3, f4, f5⟩ := vm_open h
  have ou1_0 := heap.heapSh.one f1 u1_0 (by simp)
  have ou1_1 := heap.heapSh.one f1 u1_1 (by simp)
  have ou1_2 := heap.heapSh.one f1 u1_2 (by simp)
  have ou1_3 := heap.heapSh.one f1 u1_3 (by simp)
  clear h
  have K0 : ∀ (l' : Int) (w' : World), 0 ≤ l' → l' ≤ 1048576 → Below w.heap.size w w' → Calls Tryz.prog 18 #[.slice a0 x0.length c0, .int .i64 l'] w' fun e w'' => e = .returned (.int .i64 (left (x0.length + fun.wts x0) l')) ∧ Below w'.heap.size w' w'' :=
    fun l' w' h2 h3 hb => fun.szS_any x0 _ w' l' h2 h3 (fun.funSh.slice.mono (fun.funSh.slice.below f0 hb) fun b hlt => Nat.lt_of_lt_of_le hlt hb.size)
  have K1 : ∀ (l' : Int) (w' : World), 0 ≤ l' → l' ≤ 1048576 → Below w.heap.size w w' → Calls Tryz.prog 19 #[.agg #[u1_0, u1_1, u1_2, u1_3], .int .i64 l'] w' fun e w'' => e = .returned (.int .i64 (left (heap.wt x1) l')) ∧ Below w'.heap.size w' w'' :=
    fun l' w' h2 h3 hb => heap.sz_any x1 _ w' l' h2 h3 (heap.heapSh.mono (heap.heapSh.below f1 hb) fun b hlt => Nat.lt_of_lt_of_le hlt hb.size)
  have K2 : ∀ (l' : Int) (w' : World), 0 ≤ l' → l' ≤ 1048576 → Below w.heap.size w w' → Calls Tryz.prog 20 #[.slice a2 x2.length c2, .int .i64 l'] w' fun e w'' => e = .returned (.int .i64 (left (x2.length) l')) ∧ Below w'.heap.size w' w'' :=
    fun l' w' h2 h3 hb => ints.szS_any x2 _ w' l' h2 h3 (Sh.int.slice.mono (Sh.int.slice.below f2 hb) fun b hlt => Nat.lt_of_lt_of_le hlt hb.size)
  have K3 : ∀ (l' : Int) (w' : World), 0 ≤ l' → l' ≤ 1048576 → Below w.heap.size w w' → Calls Tryz.prog 21 #[.slice a3 x3.length c3, .int .i64 l'] w' fun e w'' => e = .returned (.int .i64 (left (x3.length) l')) ∧ Below w'.heap.size w' w'' :=
    fun l' w' h2 h3 hb => call.szS_any x3 _ w' l' h2 h3 (call.callSh.slice.mono (call.callSh.slice.below f3 hb) fun b hlt => Nat.lt_of_lt_of_le hlt hb.size)
  have K4 : ∀ (l' : Int) (w' : World), 0 ≤ l' → l' ≤ 1048576 → Below w.heap.size w w' → Calls Tryz.prog 20 #[.slice a4 x4.length c4, .int .i64 l'] w' fun e w'' => e = .returned (.int .i64 (left (x4.length) l')) ∧ Below w'.heap.size w' w'' :=
    fun l' w' h2 h3 hb => ints.szS_any x4 _ w' l' h2 h3 (Sh.int.slice.mono (Sh.int.slice.below f4 hb) fun b hlt => Nat.lt_of_lt_of_le hlt hb.size)
  clear f0 f1 f2 f3 f4 f5
  have hw : wt ((x0, x1, x2, x3, x4, x5, x6)) = (x0.length + fun.wts x0) + (heap.wt x1 + (x2.length + (x3.length + (x4.length)))) := by simp [wt]
  rw [hw]
  generalize x0.length + fun.wts x0 = q0 at K0 hw ⊢
  generalize heap.wt x1 = q1 at K1 hw ⊢
  clear hw
  go_enter Tryz.func5, Tryz.ntmps5
  go_wp2_with fail
  refine (K0 _ _ (by omega) (by omega) ((Below.refl _ _).alloc (Nat.le_refl _) _)).mono ?_
  rintro e w1 ⟨rfl, hb⟩
  have B1 : Hid (Below w.heap.size w w1) := ((Below.refl _ _).alloc (Nat.le_refl _) _).trans (hb.mono (by simp))
  have z1 : w.heap.size < w1.heap.size := Nat.lt_of_lt_of_le (by simp) hb.size
  have b1_1 : w1.cell? ⟨w.heap.size, 1, none⟩ = some (u1_0) := (hb.cell (p := ⟨w.heap.size, 1, none⟩) (by simp)).trans (by simp)
  have b1_2 : w1.cell? ⟨w.heap.size, 2, none⟩ = some (u1_1) := (hb.cell (p := ⟨w.heap.size, 2, none⟩) (by simp)).trans (by simp)
  have b1_3 : w1.cell? ⟨w.heap.size, 3, none⟩ = some (u1_2) := (hb.cell (p := ⟨w.heap.size, 3, none⟩) (by simp)).trans (by simp)
  have b1_4 : w1.cell? ⟨w.heap.size, 4, none⟩ = some (u1_3) := (hb.cell (p := ⟨w.heap.size, 4, none⟩) (by simp)).trans (by simp)
  have b1_5 : w1.cell? ⟨w.heap.size, 5, none⟩ = some (.slice a2 x2.length c2) := (hb.cell (p := ⟨w.heap.size, 5, none⟩) (by simp)).trans (by simp)
  have b1_6 : w1.cell? ⟨w.heap.size, 6, none⟩ = some (.slice a3 x3.length c3) := (hb.cell (p := ⟨w.heap.size, 6, none⟩) (by simp)).trans (by simp)
  have b1_7 : w1.cell? ⟨w.heap.size, 7, none⟩ = some (.slice a4 x4.length c4) := (hb.cell (p := ⟨w.heap.size, 7, none⟩) (by simp)).trans (by simp)
  clear hb K0
  by_cases h10 : ((q0 : Nat) : Int) ≤ l
  · have hl : left q0 (l) = l - (q0 : Nat) := by unfold left; rw [if_pos (by omega)]
    rw [hl]
    clear hl
    have t0 : decide (l - (q0 : Nat) < 0) = false := by simp; omega
    go_wp2_with fail
    refine (K1 _ _ (by omega) (by omega) B1.out).mono ?_
    rintro e w2 ⟨rfl, hb⟩
    have B2 : Hid (Below w.heap.size w w2) := B1.out.trans (hb.mono B1.out.size)
    have z2 : w.heap.size < w2.heap.size := Nat.lt_of_lt_of_le z1 hb.size
    have b2_5 : w2.cell? ⟨w.heap.size, 5, none⟩ = some (.slice a2 x2.length c2) := (hb.cell (p := ⟨w.heap.size, 5, none⟩) z1).trans b1_5
    have b2_6 : w2.cell? ⟨w.heap.size, 6, none⟩ = some (.slice a3 x3.length c3) := (hb.cell (p := ⟨w.heap.size, 6, none⟩) z1).trans b1_6
    have b2_7 : w2.cell? ⟨w.heap.size, 7, none⟩ = some (.slice a4 x4.length c4) := (hb.cell (p := ⟨w.heap.size, 7, none⟩) z1).trans b1_7
    clear b1_1 b1_2 b1_3 b1_4 b1_5 b1_6 b1_7 z1
    clear hb K1
    by_cases h11 : ((q0 : Nat) : Int) + ((q1 : Nat) : Int) ≤ l
    · have hl : left q1 (l - (q0 : Nat)) = l - (q0 : Nat) - (q1 : Nat) := by unfold left; rw [if_pos (by omega)]
      rw [hl]
      clear hl
      have t1 : decide (l - (q0 : Nat) - (q1 : Nat) < 0) = false := by simp; omega
      go_wp2_with fail
      refine (K2 _ _ (by omega) (by omega) B2.out).mono ?_
      rintro e w3 ⟨rfl, hb⟩
      have B3 : Hid (Below w.heap.size w w3) := B2.out.trans (hb.mono B2.out.size)
      have z3 : w.heap.size < w3.heap.size := Nat.lt_of_lt_of_le z2 hb.size
      have b3_6 : w3.cell? ⟨w.heap.size, 6, none⟩ = some (.slice a3 x3.length c3) := (hb.cell (p := ⟨w.heap.size, 6, none⟩) z2).trans b2_6
      have b3_7 : w3.cell? ⟨w.heap.size, 7, none⟩ = some (.slice a4 x4.length c4) := (hb.cell (p := ⟨w.heap.size, 7, none⟩) z2).trans b2_7
      clear b2_5 b2_6 b2_7 z2
      clear hb K2
      by_cases h12 : ((q0 : Nat) : Int) + ((q1 : Nat) : Int) + ((x2.length : Nat) : Int) ≤ l
      · have hl : left x2.length (l - (q0 : Nat) - (q1 : Nat)) = l - (q0 : Nat) - (q1 : Nat) - (x2.length : Nat) := by unfold left; rw [if_pos (by omega)]
        rw [hl]
        clear hl
        have t2 : decide (l - (q0 : Nat) - (q1 : Nat) - (x2.length : Nat) < 0) = false := by simp; omega
        go_wp2_with fail
        refine (K3 _ _ (by omega) (by omega) B3.out).mono ?_
        rintro e w4 ⟨rfl, hb⟩
        have B4 : Hid (Below w.heap.size w w4) := B3.out.trans (hb.mono B3.out.size)
        have z4 : w.heap.size < w4.heap.size := Nat.lt_of_lt_of_le z3 hb.size
        have b4_7 : w4.cell? ⟨w.heap.size, 7, none⟩ = some (.slice a4 x4.length c4) := (hb.cell (p := ⟨w.heap.size, 7, none⟩) z3).trans b3_7
        clear b3_6 b3_7 z3
        clear hb K3
        by_cases h13 : ((q0 : Nat) : Int) + ((q1 : Nat) : Int) + ((x2.length : Nat) : Int) + ((x3.length : Nat) : Int) ≤ l
        · have hl : left x3.length (l - (q0 : Nat) - (q1 : Nat) - (x2.length : Nat)) = l - (q0 : Nat) - (q1 : Nat) - (x2.length : Nat) - (x3.length : Nat) := by unfold left; rw [if_pos (by omega)]
          rw [hl]
          clear hl
          have t3 : decide (l - (q0 : Nat) - (q1 : Nat) - (x2.length : Nat) - (x3.length : Nat) < 0) = false := by simp; omega
          go_wp2_with fail
          refine (K4 _ _ (by omega) (by omega) B4.out).mono ?_
          rintro e w5 ⟨rfl, hb⟩
          have B5 : Hid (Below w.heap.size w w5) := B4.out.trans (hb.mono B4.out.size)
          have z5 : w.heap.size < w5.heap.size := Nat.lt_of_lt_of_le z4 hb.size
          clear b4_7 z4
          clear hb K4
          by_cases h14 : ((q0 : Nat) : Int) + ((q1 : Nat) : Int) + ((x2.length : Nat) : Int) + ((x3.length : Nat) : Int) + ((x4.length : Nat) : Int) ≤ l
          · have hl : left x4.length (l - (q0 : Nat) - (q1 : Nat) - (x2.length : Nat) - (x3.length : Nat)) = l - (q0 : Nat) - (q1 : Nat) - (x2.length : Nat) - (x3.length : Nat) - (x4.length : Nat) := by unfold left; rw [if_pos (by omega)]
            rw [hl]
            clear hl
            have t4 : decide (l - (q0 : Nat) - (q1 : Nat) - (x2.length : Nat) - (x3.length : Nat) - (x4.length : Nat) < 0) = false := by simp; omega
            have hr : left (q0 + (q1 + (x2.length + (x3.length + (x4.length))))) l = l - (q0 : Nat) - (q1 : Nat) - (x2.length : Nat) - (x3.length : Nat) - (x4.length : Nat) := by unfold left; rw [if_pos (by omega)]; try omega
            go_wp2
            go_ret
            exact ⟨by first | rfl | (rw [hr]; rfl), B5.out⟩
          · have hl : left x4.length (l - (q0 : Nat) - (q1 : Nat) - (x2.length : Nat) - (x3.length : Nat)) = -1 := by unfold left; rw [if_neg (by omega)]
            have hr : left (q0 + (q1 + (x2.length + (x3.length + (x4.length))))) l = -1 := by unfold left; rw [if_neg (by omega)]
            rw [hl]
            clear hl
            go_wp2
            go_ret
            exact ⟨by first | rfl | (rw [hr]; rfl), B5.out⟩
        · have hl : left x3.length (l - (q0 : Nat) - (q1 : Nat) - (x2.length : Nat)) = -1 := by unfold left; rw [if_neg (by omega)]
          have hr : left (q0 + (q1 + (x2.length + (x3.length + (x4.length))))) l = -1 := by unfold left; rw [if_neg (by omega)]
          rw [hl]
          clear hl
          go_wp2
          go_ret
          exact ⟨by first | rfl | (rw [hr]; rfl), B4.out⟩
      · have hl : left x2.length (l - (q0 : Nat) - (q1 : Nat)) = -1 := by unfold left; rw [if_neg (by omega)]
        have hr : left (q0 + (q1 + (x2.length + (x3.length + (x4.length))))) l = -1 := by unfold left; rw [if_neg (by omega)]
        rw [hl]
        clear hl
        go_wp2
        go_ret
        exact ⟨by first | rfl | (rw [hr]; rfl), B3.out⟩
    · have hl : left q1 (l - (q0 : Nat)) = -1 := by unfold left; rw [if_neg (by omega)]
      have hr : left (q0 + (q1 + (x2.length + (x3.length + (x4.length))))) l = -1 := by unfold left; rw [if_neg (by omega)]
      rw [hl]
      clear hl
      go_wp2
      go_ret
      exact ⟨by first | rfl | (rw [hr]; rfl), B2.out⟩
  · have hl : left q0 (l) = -1 := by unfold left; rw [if_neg (by omega)]
    have hr : left (q0 + (q1 + (x2.length + (x3.length + (x4.length))))) l = -1 := by unfold left; rw [if_neg (by omega)]
    rw [hl]
    clear hl
    go_wp2
    go_ret
    exact ⟨by first | rfl | (rw [hr]; rfl), B1.out⟩


end Go.Proofs.YtjofmoebijdccaaGreat.vm

namespace Go.Proofs.YtjofmoebijdccaaGreat.ty
open Go.RowKit Go.ChangeShapes Go.WideShapes Go.Proofs.YtjofmoebijdccaaGreat.rose Go.Proofs.YtjofmoebijdccaaGreat
set_option linter.unusedVariables false
set_option maxRecDepth 100000

section
variable {H : Type} {enc : TypeId × Value → H} {w : World} {spare : Nat → Bool} {held : Bool}

theorem cells_ty : Tryz.prog.cellsOf 185 = 4 := by kernel_rfl

theorem opens2_ty (n : Nat) : OpensAt enc Tryz.prog w spare held n tySh 185 ∧ OpensAt enc Tryz.prog w spare held n tySh.slice 121 := by
  refine opens_rose (A := paySh) (s := 121) (t := 185) Tryz.underlying121 cells_ty ?_ n
  intro n hs fuel cs x hf h
  obtain ⟨xs, m, rfl, -, hl, hlen, hfl⟩ := DataW.trod_struct Tryz.underlying185 h
  rw [cells_ty] at hl
  have hlen5 : xs.length = 4 := hlen
  match cs, hl with
  | [c0, c1, c2, c3], _ =>
    match xs, hlen5 with
    | [y0, y1, y2, y3], _ =>
      have f0 := hfl 0 _ rfl
      have f1 := hfl 1 _ rfl
      have f2 := hfl 2 _ rfl
      have f3 := hfl 3 _ rfl
      simp only [List.getElem?_cons_zero, List.getElem?_cons_succ] at f0 f1 f2 f3
      obtain ⟨p0, h0⟩ := opens_int (w := w) Tryz.underlying3 n m _ _ (by omega) f0
      obtain ⟨p1, h1⟩ := opens_int (w := w) Tryz.underlying3 n m _ _ (by omega) f1
      obtain ⟨p2, h2⟩ := opens_str (w := w) Tryz.underlying9 n m _ _ (by omega) f2
      obtain ⟨p3, h3⟩ := hs m _ _ (by omega) f3
      exact ⟨.mk (p0, p1, p2) p3, rose_iff.2 ⟨[c0, c1, c2], [c3], rfl, ⟨[c0], _, rfl, h0, [c1], _, rfl, h1, h2⟩, h3⟩⟩
theorem opens_ty (n : Nat) : OpensAt enc Tryz.prog w spare held n tySh 185 := (opens2_ty n).1
theorem opens_tys (n : Nat) : OpensAt enc Tryz.prog w spare held n tySh.slice 121 := (opens2_ty n).2

/-- THE ARGUMENT. -/
theorem arg_ty {v : Value} {d : DataW H} {ps : List MemPlace} {r : Reach} {b : Nat} (hval : Value.okWide Tryz.prog w r b 185 v) (h : DataW.Trod enc Tryz.prog w 0 spare held 185 v d ps) : ∃ cs T, v = .agg cs.toArray ∧ tySh.rep w (· < w.heap.size) cs T := by
  obtain ⟨cs, rfl, _⟩ := okWide_struct Tryz.underlying185 hval
  obtain ⟨fuel, hf⟩ := h
  obtain ⟨T, hT⟩ := opens_ty (enc := enc) (w := w) (spare := spare) (held := held) fuel fuel _ _ (Nat.le_refl _) hf
  exact ⟨cs.toList, T, by simp, hT⟩
end

end Go.Proofs.YtjofmoebijdccaaGreat.ty

namespace Go.Proofs.YtjofmoebijdccaaGreat.con
open Go.RowKit Go.ChangeShapes Go.WideShapes Go.Proofs.YtjofmoebijdccaaGreat.rose Go.Proofs.YtjofmoebijdccaaGreat
set_option linter.unusedVariables false
set_option maxRecDepth 100000

section
variable {H : Type} {enc : TypeId × Value → H} {w : World} {spare : Nat → Bool} {held : Bool}

theorem cells_con : Tryz.prog.cellsOf 123 = 2 := by kernel_rfl

theorem opens_con (n : Nat) : OpensAt enc Tryz.prog w spare held n conSh 123 := by
  intro fuel cs x hf h
  obtain ⟨xs, m, rfl, -, hl, hlen, hfl⟩ := DataW.trod_struct Tryz.underlying123 h
  rw [cells_con] at hl
  have hlen5 : xs.length = 2 := hlen
  match cs, hl with
  | [c0, c1], _ =>
    match xs, hlen5 with
    | [y0, y1], _ =>
      have f0 := hfl 0 _ rfl
      have f1 := hfl 1 _ rfl
      simp only [List.getElem?_cons_zero, List.getElem?_cons_succ] at f0 f1
      obtain ⟨p0, h0⟩ := opens_str (w := w) Tryz.underlying9 n m _ _ (by omega) f0
      obtain ⟨p1, h1⟩ := ty.opens_tys (w := w) n m _ _ (by omega) f1
      exact ⟨(p0, p1), [c0], _, rfl, h0, h1⟩
theorem opens_cons (n : Nat) : OpensAt enc Tryz.prog w spare held n conSh.slice 53 := fun fuel cs x hf h => opens_slice (n := n) Tryz.underlying53 cells_con (by decide) (opens_con n) fuel cs x (by omega) h

/-- THE ARGUMENT. -/
theorem arg_con {v : Value} {d : DataW H} {ps : List MemPlace} {r : Reach} {b : Nat} (hval : Value.okWide Tryz.prog w r b 123 v) (h : DataW.Trod enc Tryz.prog w 0 spare held 123 v d ps) : ∃ cs T, v = .agg cs.toArray ∧ conSh.rep w (· < w.heap.size) cs T := by
  obtain ⟨cs, rfl, _⟩ := okWide_struct Tryz.underlying123 hval
  obtain ⟨fuel, hf⟩ := h
  obtain ⟨T, hT⟩ := opens_con (enc := enc) (w := w) (spare := spare) (held := held) fuel fuel _ _ (Nat.le_refl _) hf
  exact ⟨cs.toList, T, by simp, hT⟩
end

end Go.Proofs.YtjofmoebijdccaaGreat.con

namespace Go.Proofs.YtjofmoebijdccaaGreat.data
open Go.RowKit Go.ChangeShapes Go.WideShapes Go.Proofs.YtjofmoebijdccaaGreat.rose Go.Proofs.YtjofmoebijdccaaGreat
set_option linter.unusedVariables false
set_option maxRecDepth 100000

section
variable {H : Type} {enc : TypeId × Value → H} {w : World} {spare : Nat → Bool} {held : Bool}

theorem cells_data : Tryz.prog.cellsOf 55 = 3 := by kernel_rfl

theorem opens_data (n : Nat) : OpensAt enc Tryz.prog w spare held n dataSh 55 := by
  intro fuel cs x hf h
  obtain ⟨xs, m, rfl, -, hl, hlen, hfl⟩ := DataW.trod_struct Tryz.underlying55 h
  rw [cells_data] at hl
  have hlen5 : xs.length = 3 := hlen
  match cs, hl with
  | [c0, c1, c2], _ =>
    match xs, hlen5 with
    | [y0, y1, y2], _ =>
      have f0 := hfl 0 _ rfl
      have f1 := hfl 1 _ rfl
      have f2 := hfl 2 _ rfl
      simp only [List.getElem?_cons_zero, List.getElem?_cons_succ] at f0 f1 f2
      obtain ⟨p0, h0⟩ := opens_str (w := w) Tryz.underlying9 n m _ _ (by omega) f0
      obtain ⟨p1, h1⟩ := opens_int (w := w) Tryz.underlying3 n m _ _ (by omega) f1
      obtain ⟨p2, h2⟩ := con.opens_cons (w := w) n m _ _ (by omega) f2
      exact ⟨(p0, p1, p2), [c0], _, rfl, h0, [c1], _, rfl, h1, h2⟩
theorem opens_datas (n : Nat) : OpensAt enc Tryz.prog w spare held n dataSh.slice 22 := fun fuel cs x hf h => opens_slice (n := n) Tryz.underlying22 cells_data (by decide) (opens_data n) fuel cs x (by omega) h

/-- THE ARGUMENT. -/
theorem arg_data {v : Value} {d : DataW H} {ps : List MemPlace} {r : Reach} {b : Nat} (hval : Value.okWide Tryz.prog w r b 55 v) (h : DataW.Trod enc Tryz.prog w 0 spare held 55 v d ps) : ∃ cs T, v = .agg cs.toArray ∧ dataSh.rep w (· < w.heap.size) cs T := by
  obtain ⟨cs, rfl, _⟩ := okWide_struct Tryz.underlying55 hval
  obtain ⟨fuel, hf⟩ := h
  obtain ⟨T, hT⟩ := opens_data (enc := enc) (w := w) (spare := spare) (held := held) fuel fuel _ _ (Nat.le_refl _) hf
  exact ⟨cs.toList, T, by simp, hT⟩
end

end Go.Proofs.YtjofmoebijdccaaGreat.data

namespace Go.Proofs.YtjofmoebijdccaaGreat.ty
open Go.RowKit Go.Proofs.YtjofmoebijdccaaGreat.rose Go.Proofs.YtjofmoebijdccaaGreat
set_option linter.unusedVariables false

abbrev tySp : Sh TyD := paySh.srose

theorem typ_rep {w : World} {S : Nat → Prop} {cs : List Value} {T : TyD} (h : tySp.rep w S cs T) : tySh.rep w S cs T := srose_rep (fun h => h) rfl h
theorem typs_rep {w : World} {S : Nat → Prop} {cs : List Value} {ks : List TyD} (h : tySp.sslice.rep w S cs ks) : tySh.slice.rep w S cs ks := sslice_rep (A := tySp) (B := tySh) rfl (fun h => typ_rep h) h

theorem typ_shut {w : World} {S : Nat → Prop} {x0 : Int} {x1 : Int} {x2 : ByteArray} {x3 : List TyD} {a3 : Option Addr} {c3 : Nat} (h0 : -9223372036854775808 ≤ x0 ∧ x0 ≤ 9223372036854775807) (h1 : -9223372036854775808 ≤ x1 ∧ x1 ≤ 9223372036854775807) (h2 : x2.size ≤ maxLen) (h3 : tySp.sslice.rep w S [.slice a3 x3.length c3] x3) : tySp.rep w S [.int .i64 x0, .int .i64 x1, .string x2, .slice a3 x3.length c3] (.mk (x0, x1, x2) x3) :=
  srose_iff.2 ⟨[.int .i64 x0, .int .i64 x1, .string x2], [_], fun _ => False, S, rfl, fun _ h => h.elim, fun _ h => h, fun _ h => h.elim, ⟨[_], _, rfl, ⟨rfl, h0⟩, [_], _, rfl, ⟨rfl, h1⟩, ⟨rfl, h2⟩⟩, h3⟩
theorem typ_shutv {w : World} {S : Nat → Prop} {x0 : Int} {x1 : Int} {x2 : ByteArray} {x3 : List TyD} {v3 : Value} (h0 : -9223372036854775808 ≤ x0 ∧ x0 ≤ 9223372036854775807) (h1 : -9223372036854775808 ≤ x1 ∧ x1 ≤ 9223372036854775807) (h2 : x2.size ≤ maxLen) (h3 : tySp.sslice.rep w S [v3] x3) : tySp.rep w S [.int .i64 x0, .int .i64 x1, .string x2, v3] (.mk (x0, x1, x2) x3) :=
  srose_iff.2 ⟨[.int .i64 x0, .int .i64 x1, .string x2], [_], fun _ => False, S, rfl, fun _ h => h.elim, fun _ h => h, fun _ h => h.elim, ⟨[_], _, rfl, ⟨rfl, h0⟩, [_], _, rfl, ⟨rfl, h1⟩, ⟨rfl, h2⟩⟩, h3⟩
theorem typ_open {w : World} {S : Nat → Prop} {cs : List Value} {T : TyD} (h : tySp.rep w S cs T) : ∃ x0 x1 x2 x3 a3 c3, T = .mk (x0, x1, x2) x3 ∧ cs = [.int .i64 x0, .int .i64 x1, .string x2, .slice a3 x3.length c3] ∧ (-9223372036854775808 ≤ x0 ∧ x0 ≤ 9223372036854775807) ∧ (-9223372036854775808 ≤ x1 ∧ x1 ≤ 9223372036854775807) ∧ x2.size ≤ maxLen ∧ tySp.sslice.rep w S [.slice a3 x3.length c3] x3 := by
  obtain ⟨⟨x0, x1, x2⟩, x3⟩ := T
  obtain ⟨ps, kc, S1, S2, rfl, s1, s2, s3, ⟨_, _, rfl, ⟨rfl, h0⟩, _, _, rfl, ⟨rfl, h1⟩, ⟨rfl, h2⟩⟩, h3⟩ := srose_iff.1 h
  obtain ⟨a3, c3, rfl⟩ := sslice_cells h3
  exact ⟨_, _, _, _, _, _, rfl, rfl, h0, h1, h2, tySp.sslice.mono h3 s2⟩
theorem typs_open {w : World} {S : Nat → Prop} {v : Value} {ks : List TyD} (h : tySp.sslice.rep w S [v] ks) : ∃ a cap css F, v = .slice a ks.length cap ∧ ks.length ≤ cap ∧ cap ≤ maxLen ∧ (a = none → cap = 0) ∧ SRow tySp w S a css F ks := by
  obtain ⟨a, cap, css, F, e, h1, h2, h3, h4⟩ := h
  exact ⟨a, cap, css, F, by simpa using e, h1, h2, h3, h4⟩

end Go.Proofs.YtjofmoebijdccaaGreat.ty

namespace Go.Proofs.YtjofmoebijdccaaGreat.con
open Go.RowKit Go.Proofs.YtjofmoebijdccaaGreat.rose Go.Proofs.YtjofmoebijdccaaGreat
set_option linter.unusedVariables false

abbrev conSp : Sh ConD := Sh.str.spair ty.tySp.sslice

theorem conp_rep {w : World} {S : Nat → Prop} {cs : List Value} {T : ConD} (h : conSp.rep w S cs T) : conSh.rep w S cs T := (fun h => spair_rep (fun h => h) (fun h => ty.typs_rep h) h) h
theorem conps_rep {w : World} {S : Nat → Prop} {cs : List Value} {ks : List ConD} (h : conSp.sslice.rep w S cs ks) : conSh.slice.rep w S cs ks := sslice_rep (A := conSp) (B := conSh) rfl (fun h => conp_rep h) h

theorem conp_shut {w : World} {S : Nat → Prop} {x0 : ByteArray} {x1 : List ty.TyD} {a1 : Option Addr} {c1 : Nat} (h0 : x0.size ≤ maxLen) (h1 : ty.tySp.sslice.rep w S [.slice a1 x1.length c1] x1) : conSp.rep w S [.string x0, .slice a1 x1.length c1] ((x0, x1)) :=
  ⟨[_], _, (fun _ => False), S, rfl, fun b h => h.elim, fun b h => h, fun b h => h.elim, ⟨rfl, h0⟩, h1⟩
theorem conp_shutv {w : World} {S : Nat → Prop} {x0 : ByteArray} {x1 : List ty.TyD} {v1 : Value} (h0 : x0.size ≤ maxLen) (h1 : ty.tySp.sslice.rep w S [v1] x1) : conSp.rep w S [.string x0, v1] ((x0, x1)) :=
  ⟨[_], _, (fun _ => False), S, rfl, fun b h => h.elim, fun b h => h, fun b h => h.elim, ⟨rfl, h0⟩, h1⟩
theorem conp_open {w : World} {S : Nat → Prop} {cs : List Value} {T : ConD} (h : conSp.rep w S cs T) : ∃ x0 x1 a1 c1, T = (x0, x1) ∧ cs = [.string x0, .slice a1 x1.length c1] ∧ x0.size ≤ maxLen ∧ ty.tySp.sslice.rep w S [.slice a1 x1.length c1] x1 := by
  obtain ⟨x0, x1⟩ := T
  obtain ⟨_, _, A0, B0, rfl, ua0, ub0, ue0, ⟨rfl, h0⟩, h1⟩ := h
  obtain ⟨a1, c1, rfl⟩ := sslice_cells h1
  exact ⟨_, _, _, _, rfl, rfl, h0, ty.tySp.sslice.mono h1 fun b g => ub0 b (g)⟩
theorem conps_open {w : World} {S : Nat → Prop} {v : Value} {ks : List ConD} (h : conSp.sslice.rep w S [v] ks) : ∃ a cap css F, v = .slice a ks.length cap ∧ ks.length ≤ cap ∧ cap ≤ maxLen ∧ (a = none → cap = 0) ∧ SRow conSp w S a css F ks := by
  obtain ⟨a, cap, css, F, e, h1, h2, h3, h4⟩ := h
  exact ⟨a, cap, css, F, by simpa using e, h1, h2, h3, h4⟩

end Go.Proofs.YtjofmoebijdccaaGreat.con

namespace Go.Proofs.YtjofmoebijdccaaGreat.data
open Go.RowKit Go.Proofs.YtjofmoebijdccaaGreat.rose Go.Proofs.YtjofmoebijdccaaGreat
set_option linter.unusedVariables false

abbrev dataSp : Sh DataD := Sh.str.spair (Sh.int.spair con.conSp.sslice)

theorem datap_rep {w : World} {S : Nat → Prop} {cs : List Value} {T : DataD} (h : dataSp.rep w S cs T) : dataSh.rep w S cs T := (fun h => spair_rep (fun h => h) (fun h => spair_rep (fun h => h) (fun h => con.conps_rep h) h) h) h
theorem dataps_rep {w : World} {S : Nat → Prop} {cs : List Value} {ks : List DataD} (h : dataSp.sslice.rep w S cs ks) : dataSh.slice.rep w S cs ks := sslice_rep (A := dataSp) (B := dataSh) rfl (fun h => datap_rep h) h

theorem datap_shut {w : World} {S : Nat → Prop} {x0 : ByteArray} {x1 : Int} {x2 : List con.ConD} {a2 : Option Addr} {c2 : Nat} (h0 : x0.size ≤ maxLen) (h1 : -9223372036854775808 ≤ x1 ∧ x1 ≤ 9223372036854775807) (h2 : con.conSp.sslice.rep w S [.slice a2 x2.length c2] x2) : dataSp.rep w S [.string x0, .int .i64 x1, .slice a2 x2.length c2] ((x0, x1, x2)) :=
  ⟨[_], _, (fun _ => False), S, rfl, fun b h => h.elim, fun b h => h, fun b h => h.elim, ⟨rfl, h0⟩, [_], _, (fun _ => False), S, rfl, fun b h => h.elim, fun b h => h, fun b h => h.elim, ⟨rfl, h1⟩, h2⟩
theorem datap_shutv {w : World} {S : Nat → Prop} {x0 : ByteArray} {x1 : Int} {x2 : List con.ConD} {v2 : Value} (h0 : x0.size ≤ maxLen) (h1 : -9223372036854775808 ≤ x1 ∧ x1 ≤ 9223372036854775807) (h2 : con.conSp.sslice.rep w S [v2] x2) : dataSp.rep w S [.string x0, .int .i64 x1, v2] ((x0, x1, x2)) :=
  ⟨[_], _, (fun _ => False), S, rfl, fun b h => h.elim, fun b h => h, fun b h => h.elim, ⟨rfl, h0⟩, [_], _, (fun _ => False), S, rfl, fun b h => h.elim, fun b h => h, fun b h => h.elim, ⟨rfl, h1⟩, h2⟩
theorem datap_open {w : World} {S : Nat → Prop} {cs : List Value} {T : DataD} (h : dataSp.rep w S cs T) : ∃ x0 x1 x2 a2 c2, T = (x0, x1, x2) ∧ cs = [.string x0, .int .i64 x1, .slice a2 x2.length c2] ∧ x0.size ≤ maxLen ∧ (-9223372036854775808 ≤ x1 ∧ x1 ≤ 9223372036854775807) ∧ con.conSp.sslice.rep w S [.slice a2 x2.length c2] x2 := by
  obtain ⟨x0, x1, x2⟩ := T
  obtain ⟨_, _, A0, B0, rfl, ua0, ub0, ue0, ⟨rfl, h0⟩, _, _, A1, B1, rfl, ua1, ub1, ue1, ⟨rfl, h1⟩, h2⟩ := h
  obtain ⟨a2, c2, rfl⟩ := sslice_cells h2
  exact ⟨_, _, _, _, _, rfl, rfl, h0, h1, con.conSp.sslice.mono h2 fun b g => ub0 b (ub1 b (g))⟩
theorem dataps_open {w : World} {S : Nat → Prop} {v : Value} {ks : List DataD} (h : dataSp.sslice.rep w S [v] ks) : ∃ a cap css F, v = .slice a ks.length cap ∧ ks.length ≤ cap ∧ cap ≤ maxLen ∧ (a = none → cap = 0) ∧ SRow dataSp w S a css F ks := by
  obtain ⟨a, cap, css, F, e, h1, h2, h3, h4⟩ := h
  exact ⟨a, cap, css, F, by simpa using e, h1, h2, h3, h4⟩

end Go.Proofs.YtjofmoebijdccaaGreat.data
