/-
  The law's type Ir as it lies in memory, and the law's measure of it (szIr and of slices): what is left of a number when the weight is taken off it, or -1; nothing that was there is turned.
-/
import Derived.Test.YtndlhmpglpehcaaChecked
import Derived.Test.YtndlhmpglpehcaaRose
import Derived.WalkKit
import Derived.WalkLawsBesides
import Derived.Deep.QuietTactic
import Derived.BigQuiet
namespace Go.Proofs.Ytndlhmpglpehcaa.ir
open Go.RowKit Go.Proofs.Ytndlhmpglpehcaa.rose Go.Proofs.Ytndlhmpglpehcaa
set_option linter.unusedVariables false

abbrev Pay := Int × Int
abbrev IrD := Rose Pay
abbrev paySh : Sh Pay := Sh.int.pair Sh.int
abbrev irSh : Sh IrD := paySh.rose

theorem ir_open {w : World} {S : Nat → Prop} {cs : List Value} {T : IrD} (h : irSh.rep w S cs T) : ∃ x0 x1 x2 a2 c2, T = .mk (x0, x1) x2 ∧ cs = [.int .i64 x0, .int .i64 x1, .slice a2 x2.length c2] ∧ (-9223372036854775808 ≤ x0 ∧ x0 ≤ 9223372036854775807) ∧ (-9223372036854775808 ≤ x1 ∧ x1 ≤ 9223372036854775807) ∧ irSh.slice.rep w S [.slice a2 x2.length c2] x2 := by
  obtain ⟨⟨x0, x1⟩, x2⟩ := T
  obtain ⟨ps, kc, rfl, ⟨_, _, rfl, ⟨rfl, h0⟩, ⟨rfl, h1⟩⟩, h2⟩ := rose_iff.1 h
  obtain ⟨a2, c2, rfl⟩ := slice_cells h2
  exact ⟨_, _, _, _, _, rfl, rfl, h0, h1, h2⟩
theorem ir_list {w : World} {S : Nat → Prop} {cs : List Value} {T : IrD} (h : irSh.rep w S cs T) : ∃ v0 v1 v2, cs = [v0, v1, v2] := by
  obtain ⟨x0, x1, x2, a2, c2, -, rfl, -⟩ := ir_open h
  exact ⟨_, _, _, rfl⟩
theorem ir_shut {w : World} {S : Nat → Prop} {x0 : Int} {x1 : Int} {x2 : List IrD} {a2 : Option Addr} {c2 : Nat} (h0 : -9223372036854775808 ≤ x0 ∧ x0 ≤ 9223372036854775807) (h1 : -9223372036854775808 ≤ x1 ∧ x1 ≤ 9223372036854775807) (h2 : irSh.slice.rep w S [.slice a2 x2.length c2] x2) : irSh.rep w S [.int .i64 x0, .int .i64 x1, .slice a2 x2.length c2] (.mk (x0, x1) x2) :=
  rose_iff.2 ⟨[.int .i64 x0, .int .i64 x1], [_], rfl, ⟨[_], _, rfl, ⟨rfl, h0⟩, ⟨rfl, h1⟩⟩, h2⟩

theorem irs_open {w : World} {S : Nat → Prop} {v : Value} {ks : List IrD} (h : irSh.slice.rep w S [v] ks) : ∃ a cap css, v = .slice a ks.length cap ∧ ks.length ≤ cap ∧ cap ≤ maxLen ∧ RowAt w S 3 a ks.length css ∧ ∀ i (h : i < ks.length), irSh.rep w S (css i) ks[i] := by
  obtain ⟨a, cap, css, e, h1, h2, -, h3, h4⟩ := h
  exact ⟨a, cap, css, by simpa using e, h1, h2, h3, h4⟩

theorem ir_cells {w : World} {S : Nat → Prop} {b o i : Nat} {cs : List Value} {T : IrD} (h : irSh.rep w S cs T) (hc : CellsAt w b (o + i * 3) cs) :
    ∃ v0 v1 v2, cs = [v0, v1, v2] ∧ w.cell? ⟨b, o + i * 3, none⟩ = some v0 ∧ w.cell? ⟨b, o + i * 3 + 1, none⟩ = some v1 ∧ w.cell? ⟨b, o + i * 3 + 2, none⟩ = some v2 := by
  obtain ⟨v0, v1, v2, rfl⟩ := ir_list h
  exact ⟨_, _, _, rfl, hc 0 _ rfl, hc 1 _ rfl, hc 2 _ rfl⟩

mutual
/-- What it weighs. -/
def wt : IrD → Nat
  | .mk (x0, x1) x2 => (x2.length + wts x2)
def wts : List IrD → Nat
  | [] => 0
  | k :: ks => wt k + wts ks
end

theorem wts_take {ks : List IrD} {i : Nat} (h : i < ks.length) : wts (ks.take (i + 1)) = wts (ks.take i) + wt ks[i] := by
  induction ks generalizing i with
  | nil => simp at h
  | cons k ks ih =>
    cases i with
    | zero => simp [wts]
    | succ i => simp [wts, ih (by simpa using h)]; omega
theorem wts_take_le (ks : List IrD) (i : Nat) : wts (ks.take i) ≤ wts ks := by
  induction ks generalizing i with
  | nil => simp [wts]
  | cons k ks ih =>
    cases i with
    | zero => simp [wts]
    | succ i => simp [wts]; exact ih i
theorem wt_mem {ks : List IrD} {k : IrD} (h : k ∈ ks) : wt k ≤ wts ks := by
  induction ks with
  | nil => cases h
  | cons a ks ih =>
    simp only [wts]
    rcases List.mem_cons.1 h with rfl | h
    · omega
    · have := ih h; omega

def SzSays (T : IrD) : Prop := ∀ cs w l, 0 ≤ l → l ≤ 1048576 → irSh.rep w (· < w.heap.size) cs T →
  Calls Try.prog 4 #[.agg cs.toArray, .int .i64 l] w fun e w' => e = .returned (.int .i64 (left (wt T) l)) ∧ Below w.heap.size w w'

set_option maxHeartbeats 1000000 in
theorem szS_of (ks : List IrD) (ih : ∀ k ∈ ks, SzSays k) (v : Value) (w : World) (l : Int) (h0 : 0 ≤ l) (h1 : l ≤ 1048576) (h : irSh.slice.rep w (· < w.heap.size) [v] ks) :
    Calls Try.prog 9 #[v, .int .i64 l] w fun e w' => e = .returned (.int .i64 (left (ks.length + wts ks) l)) ∧ Below w.heap.size w w' := by
  obtain ⟨a, cap, css, rfl, hcap, hmax, hrow, hk⟩ := irs_open h
  have hmx : (ks.length : Int) ≤ 9223372036854775807 := by unfold maxLen at hmax; omega
  clear h hcap hmax
  have IH : Hid (∀ k ∈ ks, SzSays k) := ih
  have HR : Hid (RowAt w (· < w.heap.size) 3 a ks.length css ∧ ∀ i (h : i < ks.length), irSh.rep w (· < w.heap.size) (css i) ks[i]) := ⟨hrow, hk⟩
  clear ih hrow hk
  by_cases hn : (ks.length : Int) ≤ l
  · have t1 : decide (l - (ks.length : Int) < 0) = false := by simp; omega
    go_enter Try.func9, Try.ntmps9
    go_wp2
    go_loopw [1, 5] (fun v1 v5 wr => ∃ i : Nat, i ≤ ks.length ∧ v5 = .int .i64 i ∧ v1 = .int .i64 (l - ks.length - (wts (ks.take i) : Nat)) ∧ ((wts (ks.take i) : Nat) : Int) ≤ l - ks.length ∧ Hid (Below w.heap.size w wr)) (fun _ v5 _ => ks.length - (intOf v5).toNat)
    case atStart => exact ⟨0, Nat.zero_le _, rfl, by simp [wts], by simp [wts]; omega, Below.refl _ _⟩
    case round =>
      obtain ⟨i, hi, rfl, rfl, hle, HB⟩ := hrel
      by_cases hlt : i < ks.length
      · obtain ⟨b, o, rfl, hS, hc⟩ := HR.out.1 i hlt
        have hrep := HR.out.2 i hlt
        obtain ⟨v0, v1, v2, hcs, c0, c1, c2⟩ := ir_cells hrep hc
        have e0 := (HB.out.cell (p := ⟨b, o + i * 3, none⟩) hS).trans c0
        have e1 := (HB.out.cell (p := ⟨b, o + i * 3 + 1, none⟩) hS).trans c1
        have e2 := (HB.out.cell (p := ⟨b, o + i * 3 + 2, none⟩) hS).trans c2
        rw [hcs] at hrep
        clear c0 c1 c2 hc hcs
        have W1 : Hid (wts (ks.take (i + 1)) = wts (ks.take i) + wt ks[i]) := wts_take hlt
        have W2 : Hid (wts (ks.take (i + 1)) ≤ wts ks) := wts_take_le ks (i + 1)
        have hR := irSh.mono (irSh.below hrep HB.out) (S' := (· < wr.heap.size)) (fun b hb => Nat.lt_of_lt_of_le hb HB.out.size)
        clear hrep
        have hcall := IH.out ks[i] (List.getElem_mem hlt) [v0, v1, v2] wr (l - ks.length - (wts (ks.take i) : Nat)) (by omega) (by omega) hR
        clear hR
        go_wp2_with fail
        refine hcall.mono ?_
        clear hcall
        rintro e w1 ⟨rfl, hb⟩
        have B1 : Hid (Below w.heap.size w w1) := HB.out.trans (hb.mono HB.out.size)
        clear hb HB
        by_cases hfit : ((wt ks[i] : Nat) : Int) ≤ l - ks.length - (wts (ks.take i) : Nat)
        · have hl : left (wt ks[i]) (l - ks.length - (wts (ks.take i) : Nat)) = l - ks.length - (wts (ks.take (i + 1)) : Nat) := by
            unfold left; rw [if_pos hfit, W1.out]; omega
          have hq : ((wts (ks.take (i + 1)) : Nat) : Int) ≤ l - ks.length := by rw [W1.out]; omega
          rw [hl]
          clear hl hfit
          have t2 : decide (l - (ks.length : Int) - ((wts (ks.take (i + 1)) : Nat) : Int) < 0) = false := by simp; omega
          go_wp2
          go_round
          case rel => exact ⟨i + 1, by omega, by go_num, rfl, hq, B1⟩
          case measure => simp [intOf]; omega
        · have hl : left (wt ks[i]) (l - ks.length - (wts (ks.take i) : Nat)) = -1 := by
            unfold left; rw [if_neg hfit]
          have hr : left (ks.length + wts ks) l = -1 := by
            unfold left; rw [if_neg]; have := W1.out; have := W2.out; omega
          rw [hl]
          clear hl
          go_wp2
          go_ret
          exact ⟨by rw [hr]; rfl, B1.out⟩
      · obtain rfl : i = ks.length := by omega
        have hr : left (ks.length + wts ks) l = l - ks.length - (wts ks : Nat) := by
          rw [List.take_length] at hle
          unfold left; rw [if_pos (by omega)]; try omega
        go_wp2
        go_ret
        exact ⟨by rw [hr, List.take_length]; rfl, HB.out⟩
  · have t1 : decide (l - (ks.length : Int) < 0) = true := by simp; omega
    have hr : left (ks.length + wts ks) l = -1 := by
      unfold left; rw [if_neg]; omega
    go_enter Try.func9, Try.ntmps9
    go_wp2
    go_ret
    exact ⟨by first | rfl | (rw [hr]; rfl), Below.refl _ _⟩

set_option maxHeartbeats 1000000 in
theorem sz_any (T : IrD) : SzSays T := by
  induction T using ind with
  | h x x2 ih =>
    intro cs w l h0 h1 h
    obtain ⟨x0, x1, x2k, a2, c2, hT, rfl, f0, f1, f2⟩ := ir_open h
    cases hT
    clear h
    have K2 : ∀ (l' : Int) (w' : World), 0 ≤ l' → l' ≤ 1048576 → Below w.heap.size w w' → Calls Try.prog 9 #[.slice a2 x2.length c2, .int .i64 l'] w' fun e w'' => e = .returned (.int .i64 (left (x2.length + wts x2) l')) ∧ Below w'.heap.size w' w'' :=
      fun l' w' h2 h3 hb => szS_of x2 ih _ w' l' h2 h3 (irSh.slice.mono (irSh.slice.below f2 hb) fun b hlt => Nat.lt_of_lt_of_le hlt hb.size)
    clear ih f0 f1 f2
    have hw : wt (.mk (x0, x1) x2) = (x2.length + wts x2) := by simp [wt]
    rw [hw]
    generalize x2.length + wts x2 = q2 at K2 hw ⊢
    clear hw
    go_enter Try.func4, Try.ntmps4
    go_wp2_with fail
    refine (K2 _ _ (by omega) (by omega) ((Below.refl _ _).alloc (Nat.le_refl _) _)).mono ?_
    rintro e w1 ⟨rfl, hb⟩
    have B1 : Hid (Below w.heap.size w w1) := ((Below.refl _ _).alloc (Nat.le_refl _) _).trans (hb.mono (by simp))
    have z1 : w.heap.size < w1.heap.size := Nat.lt_of_lt_of_le (by simp) hb.size
    clear hb K2
    by_cases h10 : ((q2 : Nat) : Int) ≤ l
    · have hl : left q2 (l) = l - (q2 : Nat) := by unfold left; rw [if_pos (by omega)]
      rw [hl]
      clear hl
      have t0 : decide (l - (q2 : Nat) < 0) = false := by simp; omega
      have hr : left (q2) l = l - (q2 : Nat) := by unfold left; rw [if_pos (by omega)]; try omega
      go_wp2
      go_ret
      exact ⟨by first | rfl | (rw [hr]; rfl), B1.out⟩
    · have hl : left q2 (l) = -1 := by unfold left; rw [if_neg (by omega)]
      have hr : left (q2) l = -1 := by unfold left; rw [if_neg (by omega)]
      rw [hl]
      clear hl
      go_wp2
      go_ret
      exact ⟨by first | rfl | (rw [hr]; rfl), B1.out⟩

theorem szS_any (ks : List IrD) (v : Value) (w : World) (l : Int) (h0 : 0 ≤ l) (h1 : l ≤ 1048576) (h : irSh.slice.rep w (· < w.heap.size) [v] ks) :
    Calls Try.prog 9 #[v, .int .i64 l] w fun e w' => e = .returned (.int .i64 (left (ks.length + wts ks) l)) ∧ Below w.heap.size w w' := szS_of ks (fun k _ => sz_any k) v w l h0 h1 h

end Go.Proofs.Ytndlhmpglpehcaa.ir
