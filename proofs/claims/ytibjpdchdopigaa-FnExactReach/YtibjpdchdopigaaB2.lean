/-
  How much a heap holds.
  Slices of ints as they lie in memory, and the law's measure of them.
  The law's type Heap as it lies in memory, and the law's measure of it (szHeap and of slices): what is left of a number when the weight is taken off it, or -1; nothing that was there is turned.
  A slice of ints that came in lies in memory as its cells.
  A Heap that came in as an argument lies in memory as its cells.
-/
import Derived.Test.YtibjpdchdopigaaChecked
import Derived.WalkKit
import Derived.WalkLawsBesides
import Derived.Deep.QuietTactic
import Derived.BigQuiet
import Derived.ProofKit
import Derived.OpenShut
import Derived.Test.YtibjpdchdopigaaB1
namespace Go.Proofs.Ytibjpdchdopigaa.heap
open Go.RowKit Go.Proofs.Ytibjpdchdopigaa.rose Go.Proofs.Ytibjpdchdopigaa
set_option linter.unusedVariables false
/-- What it weighs. -/
def wt : HeapD → Nat
  | (x0, x1, x2, x3) => x0.length
def wts : List HeapD → Nat
  | [] => 0
  | k :: ks => wt k + wts ks

theorem wts_take {ks : List HeapD} {i : Nat} (h : i < ks.length) : wts (ks.take (i + 1)) = wts (ks.take i) + wt ks[i] := by
  induction ks generalizing i with
  | nil => simp at h
  | cons k ks ih =>
    cases i with
    | zero => simp [wts]
    | succ i => simp [wts, ih (by simpa using h)]; omega
theorem wts_take_le (ks : List HeapD) (i : Nat) : wts (ks.take i) ≤ wts ks := by
  induction ks generalizing i with
  | nil => simp [wts]
  | cons k ks ih =>
    cases i with
    | zero => simp [wts]
    | succ i => simp [wts]; exact ih i
theorem wt_mem {ks : List HeapD} {k : HeapD} (h : k ∈ ks) : wt k ≤ wts ks := by
  induction ks with
  | nil => cases h
  | cons a ks ih =>
    simp only [wts]
    rcases List.mem_cons.1 h with rfl | h
    · omega
    · have := ih h; omega


end Go.Proofs.Ytibjpdchdopigaa.heap

namespace Go.Proofs.Ytibjpdchdopigaa.ints
open Go.RowKit Go.Proofs.Ytibjpdchdopigaa.rose Go.Proofs.Ytibjpdchdopigaa
set_option linter.unusedVariables false

set_option maxHeartbeats 1000000 in
theorem szS_any (ks : List Int) (v : Value) (w : World) (l : Int) (h0 : 0 ≤ l) (h1 : l ≤ 1048576) (h : Sh.int.slice.rep w (· < w.heap.size) [v] ks) :
    Calls Try.prog 18 #[v, .int .i64 l] w fun e w' => e = .returned (.int .i64 (left ks.length l)) ∧ Below w.heap.size w w' := by
  obtain ⟨a, cap, css, e, hcap, hmax, -, -, -⟩ := h
  obtain rfl : v = .slice a ks.length cap := by simpa using e
  have hmx : (ks.length : Int) ≤ 9223372036854775807 := by unfold maxLen at hmax; omega
  clear e hcap hmax
  by_cases hn : (ks.length : Int) ≤ l
  · have t1 : decide (l - (ks.length : Int) < 0) = false := by simp; omega
    have hr : left ks.length l = l - ks.length := by unfold left; rw [if_pos hn]
    go_enter Try.func18, Try.ntmps18
    go_wp2
    go_ret
    exact ⟨by first | rfl | (rw [hr]; rfl), Below.refl _ _⟩
  · have t1 : decide (l - (ks.length : Int) < 0) = true := by simp; omega
    have hr : left ks.length l = -1 := by unfold left; rw [if_neg hn]
    go_enter Try.func18, Try.ntmps18
    go_wp2
    go_ret
    exact ⟨by first | rfl | (rw [hr]; rfl), Below.refl _ _⟩

end Go.Proofs.Ytibjpdchdopigaa.ints

namespace Go.Proofs.Ytibjpdchdopigaa.heap
open Go.RowKit Go.Proofs.Ytibjpdchdopigaa.rose Go.Proofs.Ytibjpdchdopigaa
set_option linter.unusedVariables false

def SzSays (T : HeapD) : Prop := ∀ cs w l, 0 ≤ l → l ≤ 1048576 → heapSh.rep w (· < w.heap.size) cs T →
  Calls Try.prog 5 #[.agg cs.toArray, .int .i64 l] w fun e w' => e = .returned (.int .i64 (left (wt T) l)) ∧ Below w.heap.size w w'

set_option maxHeartbeats 1000000 in
theorem sz_any (T : HeapD) : SzSays T := by
  intro cs w l h0 h1 h
  obtain ⟨x0, a0, c0, x1, x2, x3, rfl, rfl, f0, f1, f2, f3⟩ := heap_open h
  clear h
  have K0 : ∀ (l' : Int) (w' : World), 0 ≤ l' → l' ≤ 1048576 → Below w.heap.size w w' → Calls Try.prog 18 #[.slice a0 x0.length c0, .int .i64 l'] w' fun e w'' => e = .returned (.int .i64 (left (x0.length) l')) ∧ Below w'.heap.size w' w'' :=
    fun l' w' h2 h3 hb => ints.szS_any x0 _ w' l' h2 h3 (Sh.int.slice.mono (Sh.int.slice.below f0 hb) fun b hlt => Nat.lt_of_lt_of_le hlt hb.size)
  clear f0 f1 f2 f3
  have hw : wt ((x0, x1, x2, x3)) = x0.length := by simp [wt]
  rw [hw]
  clear hw
  go_enter Try.func5, Try.ntmps5
  go_wp2_with fail
  refine (K0 _ _ (by omega) (by omega) ((Below.refl _ _).alloc (Nat.le_refl _) _)).mono ?_
  rintro e w1 ⟨rfl, hb⟩
  have B1 : Hid (Below w.heap.size w w1) := ((Below.refl _ _).alloc (Nat.le_refl _) _).trans (hb.mono (by simp))
  have z1 : w.heap.size < w1.heap.size := Nat.lt_of_lt_of_le (by simp) hb.size
  clear hb K0
  by_cases h10 : ((x0.length : Nat) : Int) ≤ l
  · have hl : left x0.length (l) = l - (x0.length : Nat) := by unfold left; rw [if_pos (by omega)]
    rw [hl]
    clear hl
    have t0 : decide (l - (x0.length : Nat) < 0) = false := by simp; omega
    have hr : left (x0.length) l = l - (x0.length : Nat) := by unfold left; rw [if_pos (by omega)]; try omega
    go_wp2
    go_ret
    exact ⟨by first | rfl | (rw [hr]; rfl), B1.out⟩
  · have hl : left x0.length (l) = -1 := by unfold left; rw [if_neg (by omega)]
    have hr : left (x0.length) l = -1 := by unfold left; rw [if_neg (by omega)]
    rw [hl]
    clear hl
    go_wp2
    go_ret
    exact ⟨by first | rfl | (rw [hr]; rfl), B1.out⟩


end Go.Proofs.Ytibjpdchdopigaa.heap

namespace Go.Proofs.Ytibjpdchdopigaa
open Go.RowKit Go.ChangeShapes Go.WideShapes Go.Proofs.Ytibjpdchdopigaa.rose
set_option maxRecDepth 100000

theorem cells_int : Try.prog.cellsOf 3 = 1 := by kernel_rfl
theorem opens_ints {H : Type} {enc : TypeId × Value → H} {w : World} {spare : Nat → Bool} {held : Bool} (n : Nat) : OpensAt enc Try.prog w spare held n Sh.int.slice 22 := fun fuel cs x hf h => opens_slice (A := Sh.int) (n := n) Try.underlying22 cells_int (by decide) (opens_int Try.underlying3 n) fuel cs x (by omega) h

end Go.Proofs.Ytibjpdchdopigaa

namespace Go.Proofs.Ytibjpdchdopigaa.heap
open Go.RowKit Go.ChangeShapes Go.WideShapes Go.Proofs.Ytibjpdchdopigaa.rose Go.Proofs.Ytibjpdchdopigaa
set_option linter.unusedVariables false
set_option maxRecDepth 100000

section
variable {H : Type} {enc : TypeId × Value → H} {w : World} {spare : Nat → Bool} {held : Bool}

theorem cells_heap : Try.prog.cellsOf 24 = 4 := by kernel_rfl

theorem opens_heap (n : Nat) : OpensAt enc Try.prog w spare held n heapSh 24 := by
  intro fuel cs x hf h
  obtain ⟨xs, m, rfl, -, hl, hlen, hfl⟩ := DataW.trod_struct Try.underlying24 h
  rw [cells_heap] at hl
  have hlen5 : xs.length = 4 := hlen
  match cs, hl with
  | [c0, c1, c2, c3], _ =>
    match xs, hlen5 with
    | [y0, y1, y2, y3], _ =>
      have f0 := hfl 0 _ rfl
      have f1 := hfl 1 _ rfl
      have f2 := hfl 2 _ rfl
      have f3 := hfl 3 _ rfl
      simp only [List.getElem?_cons_zero, List.getElem?_cons_succ] at f0 f1 f2 f3
      obtain ⟨p0, h0⟩ := opens_ints (w := w) n m _ _ (by omega) f0
      obtain ⟨p1, h1⟩ := opens_int (w := w) Try.underlying3 n m _ _ (by omega) f1
      obtain ⟨p2, h2⟩ := opens_int (w := w) Try.underlying3 n m _ _ (by omega) f2
      obtain ⟨p3, h3⟩ := opens_int (w := w) Try.underlying3 n m _ _ (by omega) f3
      exact ⟨(p0, p1, p2, p3), [c0], _, rfl, h0, [c1], _, rfl, h1, [c2], _, rfl, h2, h3⟩

/-- THE ARGUMENT. -/
theorem arg_heap {v : Value} {d : DataW H} {ps : List MemPlace} {r : Reach} {b : Nat} (hval : Value.okWide Try.prog w r b 24 v) (h : DataW.Trod enc Try.prog w 0 spare held 24 v d ps) : ∃ cs T, v = .agg cs.toArray ∧ heapSh.rep w (· < w.heap.size) cs T := by
  obtain ⟨cs, rfl, _⟩ := okWide_struct Try.underlying24 hval
  obtain ⟨fuel, hf⟩ := h
  obtain ⟨T, hT⟩ := opens_heap (enc := enc) (w := w) (spare := spare) (held := held) fuel fuel _ _ (Nat.le_refl _) hf
  exact ⟨cs.toList, T, by simp, hT⟩
end

end Go.Proofs.Ytibjpdchdopigaa.heap
