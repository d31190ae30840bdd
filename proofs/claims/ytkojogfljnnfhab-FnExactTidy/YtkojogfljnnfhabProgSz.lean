/-
  The law's type Prog as it lies in memory, and the law's measure of it (szProg and of slices): what is left of a number when the weight is taken off it, or -1; nothing that was there is turned.
-/
import Derived.Test.YtkojogfljnnfhabChecked
import Derived.Test.YtkojogfljnnfhabRose
import Derived.Test.YtkojogfljnnfhabDataSz
import Derived.Test.YtkojogfljnnfhabNodeSz
import Derived.WalkKit
import Derived.WalkLawsBesides
import Derived.Deep.QuietTactic
import Derived.BigQuiet
namespace Go.Proofs.Ytkojogfljnnfhab.prog
open Go.RowKit Go.Proofs.Ytkojogfljnnfhab.rose Go.Proofs.Ytkojogfljnnfhab
set_option linter.unusedVariables false

abbrev ProgD := List data.DataD × node.Nd
abbrev progSh : Sh ProgD := data.dataSh.slice.pair node.ndSh

theorem prog_open {w : World} {S : Nat → Prop} {cs : List Value} {T : ProgD} (h : progSh.rep w S cs T) : ∃ x0 a0 c0 x1 u1_0 u1_1 u1_2 u1_3 u1_4, T = (x0, x1) ∧ cs = [.slice a0 x0.length c0, u1_0, u1_1, u1_2, u1_3, u1_4] ∧ data.dataSh.slice.rep w S [.slice a0 x0.length c0] x0 ∧ node.ndSh.rep w S [u1_0, u1_1, u1_2, u1_3, u1_4] x1 := by
  obtain ⟨x0, x1⟩ := T
  obtain ⟨_, _, rfl, h0, h1⟩ := h
  obtain ⟨a0, c0, rfl⟩ := slice_cells h0
  obtain ⟨u1_0, u1_1, u1_2, u1_3, u1_4, rfl⟩ := node.nd_list h1
  exact ⟨_, _, _, _, _, _, _, _, _, rfl, rfl, h0, h1⟩
theorem prog_list {w : World} {S : Nat → Prop} {cs : List Value} {T : ProgD} (h : progSh.rep w S cs T) : ∃ v0 v1 v2 v3 v4 v5, cs = [v0, v1, v2, v3, v4, v5] := by
  obtain ⟨x0, a0, c0, x1, u1_0, u1_1, u1_2, u1_3, u1_4, -, rfl, -⟩ := prog_open h
  exact ⟨_, _, _, _, _, _, rfl⟩
theorem prog_shut {w : World} {S : Nat → Prop} {x0 : List data.DataD} {x1 : node.Nd} {u1_0 : Value} {u1_1 : Value} {u1_2 : Value} {u1_3 : Value} {u1_4 : Value} {a0 : Option Addr} {c0 : Nat} (h0 : data.dataSh.slice.rep w S [.slice a0 x0.length c0] x0) (h1 : node.ndSh.rep w S [u1_0, u1_1, u1_2, u1_3, u1_4] x1) : progSh.rep w S [.slice a0 x0.length c0, u1_0, u1_1, u1_2, u1_3, u1_4] ((x0, x1)) :=
  ⟨[_], _, rfl, h0, h1⟩

theorem progs_open {w : World} {S : Nat → Prop} {v : Value} {ks : List ProgD} (h : progSh.slice.rep w S [v] ks) : ∃ a cap css, v = .slice a ks.length cap ∧ ks.length ≤ cap ∧ cap ≤ maxLen ∧ RowAt w S 6 a ks.length css ∧ ∀ i (h : i < ks.length), progSh.rep w S (css i) ks[i] := by
  obtain ⟨a, cap, css, e, h1, h2, -, h3, h4⟩ := h
  exact ⟨a, cap, css, by simpa using e, h1, h2, h3, h4⟩

theorem prog_cells {w : World} {S : Nat → Prop} {b o i : Nat} {cs : List Value} {T : ProgD} (h : progSh.rep w S cs T) (hc : CellsAt w b (o + i * 6) cs) :
    ∃ v0 v1 v2 v3 v4 v5, cs = [v0, v1, v2, v3, v4, v5] ∧ w.cell? ⟨b, o + i * 6, none⟩ = some v0 ∧ w.cell? ⟨b, o + i * 6 + 1, none⟩ = some v1 ∧ w.cell? ⟨b, o + i * 6 + 2, none⟩ = some v2 ∧ w.cell? ⟨b, o + i * 6 + 3, none⟩ = some v3 ∧ w.cell? ⟨b, o + i * 6 + 4, none⟩ = some v4 ∧ w.cell? ⟨b, o + i * 6 + 5, none⟩ = some v5 := by
  obtain ⟨v0, v1, v2, v3, v4, v5, rfl⟩ := prog_list h
  exact ⟨_, _, _, _, _, _, rfl, hc 0 _ rfl, hc 1 _ rfl, hc 2 _ rfl, hc 3 _ rfl, hc 4 _ rfl, hc 5 _ rfl⟩

/-- What it weighs. -/
def wt : ProgD → Nat
  | (x0, x1) => (x0.length + data.wts x0) + (node.wt x1)
def wts : List ProgD → Nat
  | [] => 0
  | k :: ks => wt k + wts ks

theorem wts_take {ks : List ProgD} {i : Nat} (h : i < ks.length) : wts (ks.take (i + 1)) = wts (ks.take i) + wt ks[i] := by
  induction ks generalizing i with
  | nil => simp at h
  | cons k ks ih =>
    cases i with
    | zero => simp [wts]
    | succ i => simp [wts, ih (by simpa using h)]; omega
theorem wts_take_le (ks : List ProgD) (i : Nat) : wts (ks.take i) ≤ wts ks := by
  induction ks generalizing i with
  | nil => simp [wts]
  | cons k ks ih =>
    cases i with
    | zero => simp [wts]
    | succ i => simp [wts]; exact ih i
theorem wt_mem {ks : List ProgD} {k : ProgD} (h : k ∈ ks) : wt k ≤ wts ks := by
  induction ks with
  | nil => cases h
  | cons a ks ih =>
    simp only [wts]
    rcases List.mem_cons.1 h with rfl | h
    · omega
    · have := ih h; omega

def SzSays (T : ProgD) : Prop := ∀ cs w l, 0 ≤ l → l ≤ 1048576 → progSh.rep w (· < w.heap.size) cs T →
  Calls Try.prog 5 #[.agg cs.toArray, .int .i64 l] w fun e w' => e = .returned (.int .i64 (left (wt T) l)) ∧ Below w.heap.size w w'

set_option maxHeartbeats 1000000 in
theorem sz_any (T : ProgD) : SzSays T := by
  intro cs w l h0 h1 h
  obtain ⟨x0, a0, c0, x1, u1_0, u1_1, u1_2, u1_3, u1_4, rfl, rfl, f0, f1⟩ := prog_open h
  have ou1_0 := node.ndSh.one f1 u1_0 (by simp)
  have ou1_1 := node.ndSh.one f1 u1_1 (by simp)
  have ou1_2 := node.ndSh.one f1 u1_2 (by simp)
  have ou1_3 := node.ndSh.one f1 u1_3 (by simp)
  have ou1_4 := node.ndSh.one f1 u1_4 (by simp)
  clear h
  have K0 : ∀ (l' : Int) (w' : World), 0 ≤ l' → l' ≤ 1048576 → Below w.heap.size w w' → Calls Try.prog 15 #[.slice a0 x0.length c0, .int .i64 l'] w' fun e w'' => e = .returned (.int .i64 (left (x0.length + data.wts x0) l')) ∧ Below w'.heap.size w' w'' :=
    fun l' w' h2 h3 hb => data.szS_any x0 _ w' l' h2 h3 (data.dataSh.slice.mono (data.dataSh.slice.below f0 hb) fun b hlt => Nat.lt_of_lt_of_le hlt hb.size)
  have K1 : ∀ (l' : Int) (w' : World), 0 ≤ l' → l' ≤ 1048576 → Below w.heap.size w w' → Calls Try.prog 10 #[.agg #[u1_0, u1_1, u1_2, u1_3, u1_4], .int .i64 l'] w' fun e w'' => e = .returned (.int .i64 (left (node.wt x1) l')) ∧ Below w'.heap.size w' w'' :=
    fun l' w' h2 h3 hb => node.sz_any x1 _ w' l' h2 h3 (node.ndSh.mono (node.ndSh.below f1 hb) fun b hlt => Nat.lt_of_lt_of_le hlt hb.size)
  clear f0 f1
  have hw : wt ((x0, x1)) = (x0.length + data.wts x0) + (node.wt x1) := by simp [wt]
  rw [hw]
  generalize x0.length + data.wts x0 = q0 at K0 hw ⊢
  generalize node.wt x1 = q1 at K1 hw ⊢
  clear hw
  go_enter Try.func5, Try.ntmps5
  go_wp2_with fail
  refine (K0 _ _ (by omega) (by omega) ((Below.refl _ _).alloc (Nat.le_refl _) _)).mono ?_
  rintro e w1 ⟨rfl, hb⟩
  have B1 : Hid (Below w.heap.size w w1) := ((Below.refl _ _).alloc (Nat.le_refl _) _).trans (hb.mono (by simp))
  have z1 : w.heap.size < w1.heap.size := Nat.lt_of_lt_of_le (by simp) hb.size
  have b1_1 : w1.cell? ⟨w.heap.size, 1, none⟩ = some (u1_0) := (hb.cell (p := ⟨w.heap.size, 1, none⟩) (by simp)).trans (by simp)
  have b1_2 : w1.cell? ⟨w.heap.size, 2, none⟩ = some (u1_1) := (hb.cell (p := ⟨w.heap.size, 2, none⟩) (by simp)).trans (by simp)
  have b1_3 : w1.cell? ⟨w.heap.size, 3, none⟩ = some (u1_2) := (hb.cell (p := ⟨w.heap.size, 3, none⟩) (by simp)).trans (by simp)
  have b1_4 : w1.cell? ⟨w.heap.size, 4, none⟩ = some (u1_3) := (hb.cell (p := ⟨w.heap.size, 4, none⟩) (by simp)).trans (by simp)
  have b1_5 : w1.cell? ⟨w.heap.size, 5, none⟩ = some (u1_4) := (hb.cell (p := ⟨w.heap.size, 5, none⟩) (by simp)).trans (by simp)
  clear hb K0
  by_cases h10 : ((q0 : Nat) : Int) ≤ l
  · have hl : left q0 (l) = l - (q0 : Nat) := by unfold left; rw [if_pos (by omega)]
    rw [hl]
    clear hl
    have t0 : decide (l - (q0 : Nat) < 0) = false := by simp; omega
    go_wp2_with fail
    refine (K1 _ _ (by omega) (by omega) B1.out).mono ?_
    rintro e w2 ⟨rfl, hb⟩
    have B2 : Hid (Below w.heap.size w w2) := B1.out.trans (hb.mono B1.out.size)
    have z2 : w.heap.size < w2.heap.size := Nat.lt_of_lt_of_le z1 hb.size
    clear b1_1 b1_2 b1_3 b1_4 b1_5 z1
    clear hb K1
    by_cases h11 : ((q0 : Nat) : Int) + ((q1 : Nat) : Int) ≤ l
    · have hl : left q1 (l - (q0 : Nat)) = l - (q0 : Nat) - (q1 : Nat) := by unfold left; rw [if_pos (by omega)]
      rw [hl]
      clear hl
      have t1 : decide (l - (q0 : Nat) - (q1 : Nat) < 0) = false := by simp; omega
      have hr : left (q0 + (q1)) l = l - (q0 : Nat) - (q1 : Nat) := by unfold left; rw [if_pos (by omega)]; omega
      go_wp2
      go_ret
      exact ⟨by first | rfl | (rw [hr]; rfl), B2.out⟩
    · have hl : left q1 (l - (q0 : Nat)) = -1 := by unfold left; rw [if_neg (by omega)]
      have hr : left (q0 + (q1)) l = -1 := by unfold left; rw [if_neg (by omega)]
      rw [hl]
      clear hl
      go_wp2
      go_ret
      exact ⟨by first | rfl | (rw [hr]; rfl), B2.out⟩
  · have hl : left q0 (l) = -1 := by unfold left; rw [if_neg (by omega)]
    have hr : left (q0 + (q1)) l = -1 := by unfold left; rw [if_neg (by omega)]
    rw [hl]
    clear hl
    go_wp2
    go_ret
    exact ⟨by first | rfl | (rw [hr]; rfl), B1.out⟩


end Go.Proofs.Ytkojogfljnnfhab.prog
