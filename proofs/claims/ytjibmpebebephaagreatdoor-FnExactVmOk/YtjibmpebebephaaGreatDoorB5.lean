/-
  The law's measure of a Fun (szFun and of slices): what is left of a number when the weight is taken off it, or -1; nothing that was there is turned.
  How much a heap holds.
  Slices of ints as they lie in memory, and the law's measure of them.
  The law's type Heap as it lies in memory, and the law's measure of it (szHeap and of slices): what is left of a number when the weight is taken off it, or -1; nothing that was there is turned.
  The law's measure of slices of Calls: what is left of a number when their length is taken off it, or -1.
  The law's type Vm as it lies in memory, and the law's measure of it (szVm and of slices): what is left of a number when the weight is taken off it, or -1; nothing that was there is turned.
-/
import Derived.Test.YtjibmpebebephaaGreatDoorChecked
import Derived.WalkKit
import Derived.WalkLawsBesides
import Derived.Deep.QuietTactic
import Derived.BigQuiet
import Derived.Test.YtjibmpebebephaaGreatDoorB1
import Derived.Test.YtjibmpebebephaaGreatDoorB2
import Derived.Test.YtjibmpebebephaaGreatDoorB3
import Derived.Test.YtjibmpebebephaaGreatDoorB4
namespace Go.Proofs.YtjibmpebebephaaGreatDoor.fun
open Go.RowKit Go.Proofs.YtjibmpebebephaaGreatDoor.rose Go.Proofs.YtjibmpebebephaaGreatDoor
set_option linter.unusedVariables false

/-- What it weighs. -/
def wt : FunD → Nat
  | (x0, x1) => x1.length
def wts : List FunD → Nat
  | [] => 0
  | k :: ks => wt k + wts ks

theorem wts_take {ks : List FunD} {i : Nat} (h : i < ks.length) : wts (ks.take (i + 1)) = wts (ks.take i) + wt ks[i] := by
  induction ks generalizing i with
  | nil => simp at h
  | cons k ks ih =>
    cases i with
    | zero => simp [wts]
    | succ i => simp [wts, ih (by simpa using h)]; omega
theorem wts_take_le (ks : List FunD) (i : Nat) : wts (ks.take i) ≤ wts ks := by
  induction ks generalizing i with
  | nil => simp [wts]
  | cons k ks ih =>
    cases i with
    | zero => simp [wts]
    | succ i => simp [wts]; exact ih i
theorem wt_mem {ks : List FunD} {k : FunD} (h : k ∈ ks) : wt k ≤ wts ks := by
  induction ks with
  | nil => cases h
  | cons a ks ih =>
    simp only [wts]
    rcases List.mem_cons.1 h with rfl | h
    · omega
    · have := ih h; omega

def SzSays (T : FunD) : Prop := ∀ cs w l, 0 ≤ l → l ≤ 1048576 → funSh.rep w (· < w.heap.size) cs T →
  Calls Tryz.prog 38 #[.agg cs.toArray, .int .i64 l] w fun e w' => e = .returned (.int .i64 (left (wt T) l)) ∧ Below w.heap.size w w'

set_option maxHeartbeats 1000000 in
theorem sz_any (T : FunD) : SzSays T := by
  intro cs w l h0 h1 h
  obtain ⟨x0, x1, a1, c1, rfl, rfl, f0, f1⟩ := fun_open h
  clear h
  have K1 : ∀ (l' : Int) (w' : World), 0 ≤ l' → l' ≤ 1048576 → Below w.heap.size w w' → Calls Tryz.prog 70 #[.slice a1 x1.length c1, .int .i64 l'] w' fun e w'' => e = .returned (.int .i64 (left (x1.length) l')) ∧ Below w'.heap.size w' w'' :=
    fun l' w' h2 h3 hb => op.szS_any x1 _ w' l' h2 h3 (op.opSh.slice.mono (op.opSh.slice.below f1 hb) fun b hlt => Nat.lt_of_lt_of_le hlt hb.size)
  clear f0 f1
  have hw : wt ((x0, x1)) = x1.length := by simp [wt]
  rw [hw]
  clear hw
  go_enter Tryz.func38, Tryz.ntmps38
  go_wp2_with fail
  refine (K1 _ _ (by omega) (by omega) ((Below.refl _ _).alloc (Nat.le_refl _) _)).mono ?_
  rintro e w1 ⟨rfl, hb⟩
  have B1 : Hid (Below w.heap.size w w1) := ((Below.refl _ _).alloc (Nat.le_refl _) _).trans (hb.mono (by simp))
  have z1 : w.heap.size < w1.heap.size := Nat.lt_of_lt_of_le (by simp) hb.size
  clear hb K1
  by_cases h10 : ((x1.length : Nat) : Int) ≤ l
  · have hl : left x1.length (l) = l - (x1.length : Nat) := by unfold left; rw [if_pos (by omega)]
    rw [hl]
    clear hl
    have t0 : decide (l - (x1.length : Nat) < 0) = false := by simp; omega
    have hr : left (x1.length) l = l - (x1.length : Nat) := by unfold left; rw [if_pos (by omega)]; try omega
    go_wp2
    go_ret
    exact ⟨by first | rfl | (rw [hr]; rfl), B1.out⟩
  · have hl : left x1.length (l) = -1 := by unfold left; rw [if_neg (by omega)]
    have hr : left (x1.length) l = -1 := by unfold left; rw [if_neg (by omega)]
    rw [hl]
    clear hl
    go_wp2
    go_ret
    exact ⟨by first | rfl | (rw [hr]; rfl), B1.out⟩

set_option maxHeartbeats 1000000 in
theorem szS_of (ks : List FunD) (ih : ∀ k ∈ ks, SzSays k) (v : Value) (w : World) (l : Int) (h0 : 0 ≤ l) (h1 : l ≤ 1048576) (h : funSh.slice.rep w (· < w.heap.size) [v] ks) :
    Calls Tryz.prog 10 #[v, .int .i64 l] w fun e w' => e = .returned (.int .i64 (left (ks.length + wts ks) l)) ∧ Below w.heap.size w w' := by
  obtain ⟨a, cap, css, rfl, hcap, hmax, hrow, hk⟩ := funs_open h
  have hmx : (ks.length : Int) ≤ 9223372036854775807 := by unfold maxLen at hmax; omega
  clear h hcap hmax
  have IH : Hid (∀ k ∈ ks, SzSays k) := ih
  have HR : Hid (RowAt w (· < w.heap.size) 2 a ks.length css ∧ ∀ i (h : i < ks.length), funSh.rep w (· < w.heap.size) (css i) ks[i]) := ⟨hrow, hk⟩
  clear ih hrow hk
  by_cases hn : (ks.length : Int) ≤ l
  · have t1 : decide (l - (ks.length : Int) < 0) = false := by simp; omega
    go_enter Tryz.func10, Tryz.ntmps10
    go_wp2
    go_loopw [1, 5] (fun v1 v5 wr => ∃ i : Nat, i ≤ ks.length ∧ v5 = .int .i64 i ∧ v1 = .int .i64 (l - ks.length - (wts (ks.take i) : Nat)) ∧ ((wts (ks.take i) : Nat) : Int) ≤ l - ks.length ∧ Hid (Below w.heap.size w wr)) (fun _ v5 _ => ks.length - (intOf v5).toNat)
    case atStart => exact ⟨0, Nat.zero_le _, rfl, by simp [wts], by simp [wts]; omega, Below.refl _ _⟩
    case round =>
      obtain ⟨i, hi, rfl, rfl, hle, HB⟩ := hrel
      by_cases hlt : i < ks.length
      · obtain ⟨b, o, rfl, hS, hc⟩ := HR.out.1 i hlt
        have hrep := HR.out.2 i hlt
        obtain ⟨v0, v1, hcs, c0, c1⟩ := fun_cells hrep hc
        have e0 := (HB.out.cell (p := ⟨b, o + i * 2, none⟩) hS).trans c0
        have e1 := (HB.out.cell (p := ⟨b, o + i * 2 + 1, none⟩) hS).trans c1
        rw [hcs] at hrep
        clear c0 c1 hc hcs
        have W1 : Hid (wts (ks.take (i + 1)) = wts (ks.take i) + wt ks[i]) := wts_take hlt
        have W2 : Hid (wts (ks.take (i + 1)) ≤ wts ks) := wts_take_le ks (i + 1)
        have hR := funSh.mono (funSh.below hrep HB.out) (S' := (· < wr.heap.size)) (fun b hb => Nat.lt_of_lt_of_le hb HB.out.size)
        clear hrep
        have hcall := IH.out ks[i] (List.getElem_mem hlt) [v0, v1] wr (l - ks.length - (wts (ks.take i) : Nat)) (by omega) (by omega) hR
        clear hR
        go_wp2_with fail
        refine hcall.mono ?_
        clear hcall
        rintro e w1 ⟨rfl, hb⟩
        have B1 : Hid (Below w.heap.size w w1) := HB.out.trans (hb.mono HB.out.size)
        clear hb HB
        by_cases hfit : ((wt ks[i] : Nat) : Int) ≤ l - ks.length - (wts (ks.take i) : Nat)
        · have hl : left (wt ks[i]) (l - ks.length - (wts (ks.take i) : Nat)) = l - ks.length - (wts (ks.take (i + 1)) : Nat) := by
            unfold left; rw [if_pos hfit, W1.out]; omega
          have hq : ((wts (ks.take (i + 1)) : Nat) : Int) ≤ l - ks.length := by rw [W1.out]; omega
          rw [hl]
          clear hl hfit
          have t2 : decide (l - (ks.length : Int) - ((wts (ks.take (i + 1)) : Nat) : Int) < 0) = false := by simp; omega
          go_wp2
          go_round
          case rel => exact ⟨i + 1, by omega, by go_num, rfl, hq, B1⟩
          case measure => simp [intOf]; omega
        · have hl : left (wt ks[i]) (l - ks.length - (wts (ks.take i) : Nat)) = -1 := by
            unfold left; rw [if_neg hfit]
          have hr : left (ks.length + wts ks) l = -1 := by
            unfold left; rw [if_neg]; have := W1.out; have := W2.out; omega
          rw [hl]
          clear hl
          go_wp2
          go_ret
          exact ⟨by rw [hr]; rfl, B1.out⟩
      · obtain rfl : i = ks.length := by omega
        have hr : left (ks.length + wts ks) l = l - ks.length - (wts ks : Nat) := by
          rw [List.take_length] at hle
          unfold left; rw [if_pos (by omega)]; try omega
        go_wp2
        go_ret
        exact ⟨by rw [hr, List.take_length]; rfl, HB.out⟩
  · have t1 : decide (l - (ks.length : Int) < 0) = true := by simp; omega
    have hr : left (ks.length + wts ks) l = -1 := by
      unfold left; rw [if_neg]; omega
    go_enter Tryz.func10, Tryz.ntmps10
    go_wp2
    go_ret
    exact ⟨by first | rfl | (rw [hr]; rfl), Below.refl _ _⟩

theorem szS_any (ks : List FunD) (v : Value) (w : World) (l : Int) (h0 : 0 ≤ l) (h1 : l ≤ 1048576) (h : funSh.slice.rep w (· < w.heap.size) [v] ks) :
    Calls Tryz.prog 10 #[v, .int .i64 l] w fun e w' => e = .returned (.int .i64 (left (ks.length + wts ks) l)) ∧ Below w.heap.size w w' := szS_of ks (fun k _ => sz_any k) v w l h0 h1 h

end Go.Proofs.YtjibmpebebephaaGreatDoor.fun

namespace Go.Proofs.YtjibmpebebephaaGreatDoor.heap
open Go.RowKit Go.Proofs.YtjibmpebebephaaGreatDoor.rose Go.Proofs.YtjibmpebebephaaGreatDoor
set_option linter.unusedVariables false
/-- What it weighs. -/
def wt : HeapD → Nat
  | (x0, x1, x2, x3) => x0.length
def wts : List HeapD → Nat
  | [] => 0
  | k :: ks => wt k + wts ks

theorem wts_take {ks : List HeapD} {i : Nat} (h : i < ks.length) : wts (ks.take (i + 1)) = wts (ks.take i) + wt ks[i] := by
  induction ks generalizing i with
  | nil => simp at h
  | cons k ks ih =>
    cases i with
    | zero => simp [wts]
    | succ i => simp [wts, ih (by simpa using h)]; omega
theorem wts_take_le (ks : List HeapD) (i : Nat) : wts (ks.take i) ≤ wts ks := by
  induction ks generalizing i with
  | nil => simp [wts]
  | cons k ks ih =>
    cases i with
    | zero => simp [wts]
    | succ i => simp [wts]; exact ih i
theorem wt_mem {ks : List HeapD} {k : HeapD} (h : k ∈ ks) : wt k ≤ wts ks := by
  induction ks with
  | nil => cases h
  | cons a ks ih =>
    simp only [wts]
    rcases List.mem_cons.1 h with rfl | h
    · omega
    · have := ih h; omega


end Go.Proofs.YtjibmpebebephaaGreatDoor.heap

namespace Go.Proofs.YtjibmpebebephaaGreatDoor.ints
open Go.RowKit Go.Proofs.YtjibmpebebephaaGreatDoor.rose Go.Proofs.YtjibmpebebephaaGreatDoor
set_option linter.unusedVariables false

set_option maxHeartbeats 1000000 in
theorem szS_any (ks : List Int) (v : Value) (w : World) (l : Int) (h0 : 0 ≤ l) (h1 : l ≤ 1048576) (h : Sh.int.slice.rep w (· < w.heap.size) [v] ks) :
    Calls Tryz.prog 19 #[v, .int .i64 l] w fun e w' => e = .returned (.int .i64 (left ks.length l)) ∧ Below w.heap.size w w' := by
  obtain ⟨a, cap, css, e, hcap, hmax, -, -, -⟩ := h
  obtain rfl : v = .slice a ks.length cap := by simpa using e
  have hmx : (ks.length : Int) ≤ 9223372036854775807 := by unfold maxLen at hmax; omega
  clear e hcap hmax
  by_cases hn : (ks.length : Int) ≤ l
  · have t1 : decide (l - (ks.length : Int) < 0) = false := by simp; omega
    have hr : left ks.length l = l - ks.length := by unfold left; rw [if_pos hn]
    go_enter Tryz.func19, Tryz.ntmps19
    go_wp2
    go_ret
    exact ⟨by first | rfl | (rw [hr]; rfl), Below.refl _ _⟩
  · have t1 : decide (l - (ks.length : Int) < 0) = true := by simp; omega
    have hr : left ks.length l = -1 := by unfold left; rw [if_neg hn]
    go_enter Tryz.func19, Tryz.ntmps19
    go_wp2
    go_ret
    exact ⟨by first | rfl | (rw [hr]; rfl), Below.refl _ _⟩

end Go.Proofs.YtjibmpebebephaaGreatDoor.ints

namespace Go.Proofs.YtjibmpebebephaaGreatDoor.heap
open Go.RowKit Go.Proofs.YtjibmpebebephaaGreatDoor.rose Go.Proofs.YtjibmpebebephaaGreatDoor
set_option linter.unusedVariables false

def SzSays (T : HeapD) : Prop := ∀ cs w l, 0 ≤ l → l ≤ 1048576 → heapSh.rep w (· < w.heap.size) cs T →
  Calls Tryz.prog 18 #[.agg cs.toArray, .int .i64 l] w fun e w' => e = .returned (.int .i64 (left (wt T) l)) ∧ Below w.heap.size w w'

set_option maxHeartbeats 1000000 in
theorem sz_any (T : HeapD) : SzSays T := by
  intro cs w l h0 h1 h
  obtain ⟨x0, a0, c0, x1, x2, x3, rfl, rfl, f0, f1, f2, f3⟩ := heap_open h
  clear h
  have K0 : ∀ (l' : Int) (w' : World), 0 ≤ l' → l' ≤ 1048576 → Below w.heap.size w w' → Calls Tryz.prog 19 #[.slice a0 x0.length c0, .int .i64 l'] w' fun e w'' => e = .returned (.int .i64 (left (x0.length) l')) ∧ Below w'.heap.size w' w'' :=
    fun l' w' h2 h3 hb => ints.szS_any x0 _ w' l' h2 h3 (Sh.int.slice.mono (Sh.int.slice.below f0 hb) fun b hlt => Nat.lt_of_lt_of_le hlt hb.size)
  clear f0 f1 f2 f3
  have hw : wt ((x0, x1, x2, x3)) = x0.length := by simp [wt]
  rw [hw]
  clear hw
  go_enter Tryz.func18, Tryz.ntmps18
  go_wp2_with fail
  refine (K0 _ _ (by omega) (by omega) ((Below.refl _ _).alloc (Nat.le_refl _) _)).mono ?_
  rintro e w1 ⟨rfl, hb⟩
  have B1 : Hid (Below w.heap.size w w1) := ((Below.refl _ _).alloc (Nat.le_refl _) _).trans (hb.mono (by simp))
  have z1 : w.heap.size < w1.heap.size := Nat.lt_of_lt_of_le (by simp) hb.size
  clear hb K0
  by_cases h10 : ((x0.length : Nat) : Int) ≤ l
  · have hl : left x0.length (l) = l - (x0.length : Nat) := by unfold left; rw [if_pos (by omega)]
    rw [hl]
    clear hl
    have t0 : decide (l - (x0.length : Nat) < 0) = false := by simp; omega
    have hr : left (x0.length) l = l - (x0.length : Nat) := by unfold left; rw [if_pos (by omega)]; try omega
    go_wp2
    go_ret
    exact ⟨by first | rfl | (rw [hr]; rfl), B1.out⟩
  · have hl : left x0.length (l) = -1 := by unfold left; rw [if_neg (by omega)]
    have hr : left (x0.length) l = -1 := by unfold left; rw [if_neg (by omega)]
    rw [hl]
    clear hl
    go_wp2
    go_ret
    exact ⟨by first | rfl | (rw [hr]; rfl), B1.out⟩


end Go.Proofs.YtjibmpebebephaaGreatDoor.heap

namespace Go.Proofs.YtjibmpebebephaaGreatDoor.call
open Go.RowKit Go.Proofs.YtjibmpebebephaaGreatDoor.rose Go.Proofs.YtjibmpebebephaaGreatDoor
set_option linter.unusedVariables false

set_option maxHeartbeats 1000000 in
theorem szS_any (ks : List CallD) (v : Value) (w : World) (l : Int) (h0 : 0 ≤ l) (h1 : l ≤ 1048576) (h : callSh.slice.rep w (· < w.heap.size) [v] ks) :
    Calls Tryz.prog 20 #[v, .int .i64 l] w fun e w' => e = .returned (.int .i64 (left ks.length l)) ∧ Below w.heap.size w w' := by
  obtain ⟨a, cap, css, e, hcap, hmax, -, -, -⟩ := h
  obtain rfl : v = .slice a ks.length cap := by simpa using e
  have hmx : (ks.length : Int) ≤ 9223372036854775807 := by unfold maxLen at hmax; omega
  clear e hcap hmax
  by_cases hn : (ks.length : Int) ≤ l
  · have t1 : decide (l - (ks.length : Int) < 0) = false := by simp; omega
    have hr : left ks.length l = l - ks.length := by unfold left; rw [if_pos hn]
    go_enter Tryz.func20, Tryz.ntmps20
    go_wp2
    go_ret
    exact ⟨by first | rfl | (rw [hr]; rfl), Below.refl _ _⟩
  · have t1 : decide (l - (ks.length : Int) < 0) = true := by simp; omega
    have hr : left ks.length l = -1 := by unfold left; rw [if_neg hn]
    go_enter Tryz.func20, Tryz.ntmps20
    go_wp2
    go_ret
    exact ⟨by first | rfl | (rw [hr]; rfl), Below.refl _ _⟩

end Go.Proofs.YtjibmpebebephaaGreatDoor.call

namespace Go.Proofs.YtjibmpebebephaaGreatDoor.vm
open Go.RowKit Go.Proofs.YtjibmpebebephaaGreatDoor.rose Go.Proofs.YtjibmpebebephaaGreatDoor
set_option linter.unusedVariables false

/-- What it weighs. -/
def wt : VmD → Nat
  | (x0, x1, x2, x3, x4, x5, x6) => (x0.length + fun.wts x0) + (heap.wt x1 + (x2.length + (x3.length + (x4.length))))
def wts : List VmD → Nat
  | [] => 0
  | k :: ks => wt k + wts ks

theorem wts_take {ks : List VmD} {i : Nat} (h : i < ks.length) : wts (ks.take (i + 1)) = wts (ks.take i) + wt ks[i] := by
  induction ks generalizing i with
  | nil => simp at h
  | cons k ks ih =>
    cases i with
    | zero => simp [wts]
    | succ i => simp [wts, ih (by simpa using h)]; omega
theorem wts_take_le (ks : List VmD) (i : Nat) : wts (ks.take i) ≤ wts ks := by
  induction ks generalizing i with
  | nil => simp [wts]
  | cons k ks ih =>
    cases i with
    | zero => simp [wts]
    | succ i => simp [wts]; exact ih i
theorem wt_mem {ks : List VmD} {k : VmD} (h : k ∈ ks) : wt k ≤ wts ks := by
  induction ks with
  | nil => cases h
  | cons a ks ih =>
    simp only [wts]
    rcases List.mem_cons.1 h with rfl | h
    · omega
    · have := ih h; omega

def SzSays (T : VmD) : Prop := ∀ cs w l, 0 ≤ l → l ≤ 1048576 → vmSh.rep w (· < w.heap.size) cs T →
  Calls Tryz.prog 5 #[.agg cs.toArray, .int .i64 l] w fun e w' => e = .returned (.int .i64 (left (wt T) l)) ∧ Below w.heap.size w w'

set_option maxHeartbeats 1000000 in
theorem sz_any (T : VmD) : SzSays T := by
  intro cs w l h0 h1 h
  obtain ⟨x0, a0, c0, x1, u1_0, u1_1, u1_2, u1_3, x2, a2, c2, x3, a3, c3, x4, a4, c4, x5, x6, rfl, rfl, f0, f1, f2, f3, f4, f5⟩ := vm_open h
  have ou1_0 := heap.heapSh.one f1 u1_0 (by simp)
  have ou1_1 := heap.heapSh.one f1 u1_1 (by simp)
  have ou1_2 := heap.heapSh.one f1 u1_2 (by simp)
  have ou1_3 := heap.heapSh.one f1 u1_3 (by simp)
  clear h
  have K0 : ∀ (l' : Int) (w' : World), 0 ≤ l' → l' ≤ 1048576 → Below w.heap.size w w' → Calls Tryz.prog 10 #[.slice a0 x0.length c0, .int .i64 l'] w' fun e w'' => e = .returned (.int .i64 (left (x0.length + fun.wts x0) l')) ∧ Below w'.heap.size w' w'' :=
    fun l' w' h2 h3 hb => fun.szS_any x0 _ w' l' h2 h3 (fun.funSh.slice.mono (fun.funSh.slice.below f0 hb) fun b hlt => Nat.lt_of_lt_of_le hlt hb.size)
  have K1 : ∀ (l' : Int) (w' : World), 0 ≤ l' → l' ≤ 1048576 → Below w.heap.size w w' → Calls Tryz.prog 18 #[.agg #[u1_0, u1_1, u1_2, u1_3], .int .i64 l'] w' fun e w'' => e = .returned (.int .i64 (left (heap.wt x1) l')) ∧ Below w'.heap.size w' w'' :=
    fun l' w' h2 h3 hb => heap.sz_any x1 _ w' l' h2 h3 (heap.heapSh.mono (heap.heapSh.below f1 hb) fun b hlt => Nat.lt_of_lt_of_le hlt hb.size)
  have K2 : ∀ (l' : Int) (w' : World), 0 ≤ l' → l' ≤ 1048576 → Below w.heap.size w w' → Calls Tryz.prog 19 #[.slice a2 x2.length c2, .int .i64 l'] w' fun e w'' => e = .returned (.int .i64 (left (x2.length) l')) ∧ Below w'.heap.size w' w'' :=
    fun l' w' h2 h3 hb => ints.szS_any x2 _ w' l' h2 h3 (Sh.int.slice.mono (Sh.int.slice.below f2 hb) fun b hlt => Nat.lt_of_lt_of_le hlt hb.size)
  have K3 : ∀ (l' : Int) (w' : World), 0 ≤ l' → l' ≤ 1048576 → Below w.heap.size w w' → Calls Tryz.prog 20 #[.slice a3 x3.length c3, .int .i64 l'] w' fun e w'' => e = .returned (.int .i64 (left (x3.length) l')) ∧ Below w'.heap.size w' w'' :=
    fun l' w' h2 h3 hb => call.szS_any x3 _ w' l' h2 h3 (call.callSh.slice.mono (call.callSh.slice.below f3 hb) fun b hlt => Nat.lt_of_lt_of_le hlt hb.size)
  have K4 : ∀ (l' : Int) (w' : World), 0 ≤ l' → l' ≤ 1048576 → Below w.heap.size w w' → Calls Tryz.prog 19 #[.slice a4 x4.length c4, .int .i64 l'] w' fun e w'' => e = .returned (.int .i64 (left (x4.length) l')) ∧ Below w'.heap.size w' w'' :=
    fun l' w' h2 h3 hb => ints.szS_any x4 _ w' l' h2 h3 (Sh.int.slice.mono (Sh.int.slice.below f4 hb) fun b hlt => Nat.lt_of_lt_of_le hlt hb.size)
  clear f0 f1 f2 f3 f4 f5
  have hw : wt ((x0, x1, x2, x3, x4, x5, x6)) = (x0.length + fun.wts x0) + (heap.wt x1 + (x2.length + (x3.length + (x4.length)))) := by simp [wt]
  rw [hw]
  generalize x0.length + fun.wts x0 = q0 at K0 hw ⊢
  generalize heap.wt x1 = q1 at K1 hw ⊢
  clear hw
  go_enter Tryz.func5, Tryz.ntmps5
  go_wp2_with fail
  refine (K0 _ _ (by omega) (by omega) ((Below.refl _ _).alloc (Nat.le_refl _) _)).mono ?_
  rintro e w1 ⟨rfl, hb⟩
  have B1 : Hid (Below w.heap.size w w1) := ((Below.refl _ _).alloc (Nat.le_refl _) _).trans (hb.mono (by simp))
  have z1 : w.heap.size < w1.heap.size := Nat.lt_of_lt_of_le (by simp) hb.size
  have b1_1 : w1.cell? ⟨w.heap.size, 1, none⟩ = some (u1_0) := (hb.cell (p := ⟨w.heap.size, 1, none⟩) (by simp)).trans (by simp)
  have b1_2 : w1.cell? ⟨w.heap.size, 2, none⟩ = some (u1_1) := (hb.cell (p := ⟨w.heap.size, 2, none⟩) (by simp)).trans (by simp)
  have b1_3 : w1.cell? ⟨w.heap.size, 3, none⟩ = some (u1_2) := (hb.cell (p := ⟨w.heap.size, 3, none⟩) (by simp)).trans (by simp)
  have b1_4 : w1.cell? ⟨w.heap.size, 4, none⟩ = some (u1_3) := (hb.cell (p := ⟨w.heap.size, 4, none⟩) (by simp)).trans (by simp)
  have b1_5 : w1.cell? ⟨w.heap.size, 5, none⟩ = some (.slice a2 x2.length c2) := (hb.cell (p := ⟨w.heap.size, 5, none⟩) (by simp)).trans (by simp)
  have b1_6 : w1.cell? ⟨w.heap.size, 6, none⟩ = some (.slice a3 x3.length c3) := (hb.cell (p := ⟨w.heap.size, 6, none⟩) (by simp)).trans (by simp)
  have b1_7 : w1.cell? ⟨w.heap.size, 7, none⟩ = some (.slice a4 x4.length c4) := (hb.cell (p := ⟨w.heap.size, 7, none⟩) (by simp)).trans (by simp)
  clear hb K0
  by_cases h10 : ((q0 : Nat) : Int) ≤ l
  · have hl : left q0 (l) = l - (q0 : Nat) := by unfold left; rw [if_pos (by omega)]
    rw [hl]
    clear hl
    have t0 : decide (l - (q0 : Nat) < 0) = false := by simp; omega
    go_wp2_with fail
    refine (K1 _ _ (by omega) (by omega) B1.out).mono ?_
    rintro e w2 ⟨rfl, hb⟩
    have B2 : Hid (Below w.heap.size w w2) := B1.out.trans (hb.mono B1.out.size)
    have z2 : w.heap.size < w2.heap.size := Nat.lt_of_lt_of_le z1 hb.size
    have b2_5 : w2.cell? ⟨w.heap.size, 5, none⟩ = some (.slice a2 x2.length c2) := (hb.cell (p := ⟨w.heap.size, 5, none⟩) z1).trans b1_5
    have b2_6 : w2.cell? ⟨w.heap.size, 6, none⟩ = some (.slice a3 x3.length c3) := (hb.cell (p := ⟨w.heap.size, 6, none⟩) z1).trans b1_6
    have b2_7 : w2.cell? ⟨w.heap.size, 7, none⟩ = some (.slice a4 x4.length c4) := (hb.cell (p := ⟨w.heap.size, 7, none⟩) z1).trans b1_7
    clear b1_1 b1_2 b1_3 b1_4 b1_5 b1_6 b1_7 z1
    clear hb K1
    by_cases h11 : ((q0 : Nat) : Int) + ((q1 : Nat) : Int) ≤ l
    · have hl : left q1 (l - (q0 : Nat)) = l - (q0 : Nat) - (q1 : Nat) := by unfold left; rw [if_pos (by omega)]
      rw [hl]
      clear hl
      have t1 : decide (l - (q0 : Nat) - (q1 : Nat) < 0) = false := by simp; omega
      go_wp2_with fail
      refine (K2 _ _ (by omega) (by omega) B2.out).mono ?_
      rintro e w3 ⟨rfl, hb⟩
      have B3 : Hid (Below w.heap.size w w3) := B2.out.trans (hb.mono B2.out.size)
      have z3 : w.heap.size < w3.heap.size := Nat.lt_of_lt_of_le z2 hb.size
      have b3_6 : w3.cell? ⟨w.heap.size, 6, none⟩ = some (.slice a3 x3.length c3) := (hb.cell (p := ⟨w.heap.size, 6, none⟩) z2).trans b2_6
      have b3_7 : w3.cell? ⟨w.heap.size, 7, none⟩ = some (.slice a4 x4.length c4) := (hb.cell (p := ⟨w.heap.size, 7, none⟩) z2).trans b2_7
      clear b2_5 b2_6 b2_7 z2
      clear hb K2
      by_cases h12 : ((q0 : Nat) : Int) + ((q1 : Nat) : Int) + ((x2.length : Nat) : Int) ≤ l
      · have hl : left x2.length (l - (q0 : Nat) - (q1 : Nat)) = l - (q0 : Nat) - (q1 : Nat) - (x2.length : Nat) := by unfold left; rw [if_pos (by omega)]
        rw [hl]
        clear hl
        have t2 : decide (l - (q0 : Nat) - (q1 : Nat) - (x2.length : Nat) < 0) = false := by simp; omega
        go_wp2_with fail
        refine (K3 _ _ (by omega) (by omega) B3.out).mono ?_
        rintro e w4 ⟨rfl, hb⟩
        have B4 : Hid (Below w.heap.size w w4) := B3.out.trans (hb.mono B3.out.size)
        have z4 : w.heap.size < w4.heap.size := Nat.lt_of_lt_of_le z3 hb.size
        have b4_7 : w4.cell? ⟨w.heap.size, 7, none⟩ = some (.slice a4 x4.length c4) := (hb.cell (p := ⟨w.heap.size, 7, none⟩) z3).trans b3_7
        clear b3_6 b3_7 z3
        clear hb K3
        by_cases h13 : ((q0 : Nat) : Int) + ((q1 : Nat) : Int) + ((x2.length : Nat) : Int) + ((x3.length : Nat) : Int) ≤ l
        · have hl : left x3.length (l - (q0 : Nat) - (q1 : Nat) - (x2.length : Nat)) = l - (q0 : Nat) - (q1 : Nat) - (x2.length : Nat) - (x3.length : Nat) := by unfold left; rw [if_pos (by omega)]
          rw [hl]
          clear hl
          have t3 : decide (l - (q0 : Nat) - (q1 : Nat) - (x2.length : Nat) - (x3.length : Nat) < 0) = false := by simp; omega
          go_wp2_with fail
          refine (K4 _ _ (by omega) (by omega) B4.out).mono ?_
          rintro e w5 ⟨rfl, hb⟩
          have B5 : Hid (Below w.heap.size w w5) := B4.out.trans (hb.mono B4.out.size)
          have z5 : w.heap.size < w5.heap.size := Nat.lt_of_lt_of_le z4 hb.size
          clear b4_7 z4
          clear hb K4
          by_cases h14 : ((q0 : Nat) : Int) + ((q1 : Nat) : Int) + ((x2.length : Nat) : Int) + ((x3.length : Nat) : Int) + ((x4.length : Nat) : Int) ≤ l
          · have hl : left x4.length (l - (q0 : Nat) - (q1 : Nat) - (x2.length : Nat) - (x3.length : Nat)) = l - (q0 : Nat) - (q1 : Nat) - (x2.length : Nat) - (x3.length : Nat) - (x4.length : Nat) := by unfold left; rw [if_pos (by omega)]
            rw [hl]
            clear hl
            have t4 : decide (l - (q0 : Nat) - (q1 : Nat) - (x2.length : Nat) - (x3.length : Nat) - (x4.length : Nat) < 0) = false := by simp; omega
            have hr : left (q0 + (q1 + (x2.length + (x3.length + (x4.length))))) l = l - (q0 : Nat) - (q1 : Nat) - (x2.length : Nat) - (x3.length : Nat) - (x4.length : Nat) := by unfold left; rw [if_pos (by omega)]; try omega
            go_wp2
            go_ret
            exact ⟨by first | rfl | (rw [hr]; rfl), B5.out⟩
          · have hl : left x4.length (l - (q0 : Nat) - (q1 : Nat) - (x2.length : Nat) - (x3.length : Nat)) = -1 := by unfold left; rw [if_neg (by omega)]
            have hr : left (q0 + (q1 + (x2.length + (x3.length + (x4.length))))) l = -1 := by unfold left; rw [if_neg (by omega)]
            rw [hl]
            clear hl
            go_wp2
            go_ret
            exact ⟨by first | rfl | (rw [hr]; rfl), B5.out⟩
        · have hl : left x3.length (l - (q0 : Nat) - (q1 : Nat) - (x2.length : Nat)) = -1 := by unfold left; rw [if_neg (by omega)]
          have hr : left (q0 + (q1 + (x2.length + (x3.length + (x4.length))))) l = -1 := by unfold left; rw [if_neg (by omega)]
          rw [hl]
          clear hl
          go_wp2
          go_ret
          exact ⟨by first | rfl | (rw [hr]; rfl), B4.out⟩
      · have hl : left x2.length (l - (q0 : Nat) - (q1 : Nat)) = -1 := by unfold left; rw [if_neg (by omega)]
        have hr : left (q0 + (q1 + (x2.length + (x3.length + (x4.length))))) l = -1 := by unfold left; rw [if_neg (by omega)]
        rw [hl]
        clear hl
        go_wp2
        go_ret
        exact ⟨by first | rfl | (rw [hr]; rfl), B3.out⟩
    · have hl : left q1 (l - (q0 : Nat)) = -1 := by unfold left; rw [if_neg (by omega)]
      have hr : left (q0 + (q1 + (x2.length + (x3.length + (x4.length))))) l = -1 := by unfold left; rw [if_neg (by omega)]
      rw [hl]
      clear hl
      go_wp2
      go_ret
      exact ⟨by first | rfl | (rw [hr]; rfl), B2.out⟩
  · have hl : left q0 (l) = -1 := by unfold left; rw [if_neg (by omega)]
    have hr : left (q0 + (q1 + (x2.length + (x3.length + (x4.length))))) l = -1 := by unfold left; rw [if_neg (by omega)]
    rw [hl]
    clear hl
    go_wp2
    go_ret
    exact ⟨by first | rfl | (rw [hr]; rfl), B1.out⟩


end Go.Proofs.YtjibmpebebephaaGreatDoor.vm
