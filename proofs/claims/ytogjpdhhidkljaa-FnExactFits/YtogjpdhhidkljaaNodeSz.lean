/-
  The law's measure of a tree (szNode, szNodeS): what is left of a number when the tree's weight is taken off it, or -1; nothing that was there is turned.
-/
import Derived.Test.YtogjpdhhidkljaaChecked
import Derived.Test.YtogjpdhhidkljaaNodeSh
import Derived.WalkKit
import Derived.WalkLawsBesides
import Derived.Deep.QuietTactic
import Derived.BigQuiet
namespace Go.Proofs.Ytogjpdhhidkljaa.node
open Go.RowKit Go.Proofs.Ytogjpdhhidkljaa.rose
set_option linter.unusedVariables false

def SzSays (T : Nd) : Prop := ∀ cs w l, 0 ≤ l → l ≤ 1048576 → ndSh.rep w (· < w.heap.size) cs T →
  Calls Try.prog 5 #[.agg cs.toArray, .int .i64 l] w fun e w' => e = .returned (.int .i64 (left (wt T) l)) ∧ Below w.heap.size w w'

set_option maxHeartbeats 1000000 in
theorem szS_of (ks : List Nd) (ih : ∀ k ∈ ks, SzSays k) (v : Value) (w : World) (l : Int) (h0 : 0 ≤ l) (h1 : l ≤ 1048576) (h : ndSh.slice.rep w (· < w.heap.size) [v] ks) :
    Calls Try.prog 18 #[v, .int .i64 l] w fun e w' => e = .returned (.int .i64 (left (ks.length + wts ks) l)) ∧ Below w.heap.size w w' := by
  obtain ⟨a, cap, css, rfl, hcap, hmax, hrow, hk⟩ := nds_open h
  have hmx : (ks.length : Int) ≤ 9223372036854775807 := by unfold maxLen at hmax; omega
  clear h hcap hmax
  have IH : Hid (∀ k ∈ ks, SzSays k) := ih
  have HR : Hid (RowAt w (· < w.heap.size) 5 a ks.length css ∧ ∀ i (h : i < ks.length), ndSh.rep w (· < w.heap.size) (css i) ks[i]) := ⟨hrow, hk⟩
  clear ih hrow hk
  by_cases hn : (ks.length : Int) ≤ l
  · have t1 : decide (l - (ks.length : Int) < 0) = false := by simp; omega
    go_enter Try.func18, Try.ntmps18
    go_wp2
    go_loopw [1, 5] (fun v1 v5 wr => ∃ i : Nat, i ≤ ks.length ∧ v5 = .int .i64 i ∧ v1 = .int .i64 (l - ks.length - (wts (ks.take i) : Nat)) ∧ ((wts (ks.take i) : Nat) : Int) ≤ l - ks.length ∧ Hid (Below w.heap.size w wr)) (fun _ v5 _ => ks.length - (intOf v5).toNat)
    case atStart => exact ⟨0, Nat.zero_le _, rfl, by simp [wts], by simp [wts]; omega, Below.refl _ _⟩
    case round =>
      obtain ⟨i, hi, rfl, rfl, hle, HB⟩ := hrel
      by_cases hlt : i < ks.length
      · obtain ⟨b, o, rfl, hS, hc⟩ := HR.out.1 i hlt
        have hrep := HR.out.2 i hlt
        obtain ⟨v0, v1, v2, v3, v4, hcs, c0, c1, c2, c3, c4⟩ := nd_cells hrep hc
        have e0 := (HB.out.cell (p := ⟨b, o + i * 5, none⟩) hS).trans c0
        have e1 := (HB.out.cell (p := ⟨b, o + i * 5 + 1, none⟩) hS).trans c1
        have e2 := (HB.out.cell (p := ⟨b, o + i * 5 + 2, none⟩) hS).trans c2
        have e3 := (HB.out.cell (p := ⟨b, o + i * 5 + 3, none⟩) hS).trans c3
        have e4 := (HB.out.cell (p := ⟨b, o + i * 5 + 4, none⟩) hS).trans c4
        rw [hcs] at hrep
        clear c0 c1 c2 c3 c4 hc hcs
        have W1 : Hid (wts (ks.take (i + 1)) = wts (ks.take i) + wt ks[i]) := wts_take hlt
        have W2 : Hid (wts (ks.take (i + 1)) ≤ wts ks) := wts_take_le ks (i + 1)
        have hR := ndSh.mono (ndSh.below hrep HB.out) (S' := (· < wr.heap.size)) (fun b hb => Nat.lt_of_lt_of_le hb HB.out.size)
        clear hrep
        have hcall := IH.out ks[i] (List.getElem_mem hlt) [v0, v1, v2, v3, v4] wr (l - ks.length - (wts (ks.take i) : Nat)) (by omega) (by omega) hR
        clear hR
        go_wp2_with fail
        refine hcall.mono ?_
        clear hcall
        rintro e w1 ⟨rfl, hb⟩
        have B1 : Hid (Below w.heap.size w w1) := HB.out.trans (hb.mono HB.out.size)
        clear hb HB
        by_cases hfit : ((wt ks[i] : Nat) : Int) ≤ l - ks.length - (wts (ks.take i) : Nat)
        · have hl : left (wt ks[i]) (l - ks.length - (wts (ks.take i) : Nat)) = l - ks.length - (wts (ks.take (i + 1)) : Nat) := by
            unfold left; rw [if_pos hfit, W1.out]; omega
          have hq : ((wts (ks.take (i + 1)) : Nat) : Int) ≤ l - ks.length := by rw [W1.out]; omega
          rw [hl]
          clear hl hfit
          have t2 : decide (l - (ks.length : Int) - ((wts (ks.take (i + 1)) : Nat) : Int) < 0) = false := by simp; omega
          go_wp2
          go_round
          case rel => exact ⟨i + 1, by omega, by go_num, rfl, hq, B1⟩
          case measure => simp [intOf]; omega
        · have hl : left (wt ks[i]) (l - ks.length - (wts (ks.take i) : Nat)) = -1 := by
            unfold left; rw [if_neg hfit]
          have hr : left (ks.length + wts ks) l = -1 := by
            unfold left; rw [if_neg]; have := W1.out; have := W2.out; omega
          rw [hl]
          clear hl
          go_wp2
          go_ret
          exact ⟨by rw [hr]; rfl, B1.out⟩
      · obtain rfl : i = ks.length := by omega
        have hr : left (ks.length + wts ks) l = l - ks.length - (wts ks : Nat) := by
          rw [List.take_length] at hle
          unfold left; rw [if_pos (by omega)]; omega
        go_wp2
        go_ret
        exact ⟨by rw [hr, List.take_length]; rfl, HB.out⟩
  · have t1 : decide (l - (ks.length : Int) < 0) = true := by simp; omega
    have hr : left (ks.length + wts ks) l = -1 := by
      unfold left; rw [if_neg]; omega
    go_enter Try.func18, Try.ntmps18
    go_wp2
    go_ret
    exact ⟨by first | rfl | (rw [hr]; rfl), Below.refl _ _⟩

set_option maxHeartbeats 1000000 in
theorem sz_any (T : Nd) : SzSays T := by
  induction T using ind with
  | h x ks ih =>
    intro cs w l h0 h1 h
    obtain ⟨op, n, s, t, a, cap, ks', hT, rfl, hs, ht, hk⟩ := nd_open h
    cases hT
    clear h
    have K1 : ∀ (l' : Int) (w' : World), 0 ≤ l' → l' ≤ 1048576 → Below w.heap.size w w' → Calls Try.prog 18 #[.slice a ks.length cap, .int .i64 l'] w' fun e w'' => e = .returned (.int .i64 (left (ks.length + wts ks) l')) ∧ Below w'.heap.size w' w'' :=
      fun l' w' h2 h3 hb => szS_of ks ih _ w' l' h2 h3 (ndSh.slice.mono (ndSh.slice.below hk hb) fun b hlt => Nat.lt_of_lt_of_le hlt hb.size)
    clear ih hk
    have hmx : (s.size : Int) ≤ 9223372036854775807 ∧ (t.size : Int) ≤ 9223372036854775807 := by unfold maxLen at hs ht; omega
    clear hs ht
    obtain ⟨hms, hmt⟩ := hmx
    have hw : wt (.mk (op, n, s, t) ks) = s.size + t.size + (ks.length + wts ks) := by simp [wt]; omega
    rw [hw]
    generalize ks.length + wts ks = q at K1 hw ⊢
    clear hw
    by_cases h2 : (s.size : Int) ≤ l
    · have t1 : decide (l - (s.size : Int) < 0) = false := by simp; omega
      by_cases h3 : (s.size : Int) + t.size ≤ l
      · have t2 : decide (l - (s.size : Int) - (t.size : Int) < 0) = false := by simp; omega
        go_enter Try.func5, Try.ntmps5
        go_wp2_with fail
        refine (K1 _ _ (by omega) (by omega) ((Below.refl _ _).alloc (Nat.le_refl _) _)).mono ?_
        rintro e w1 ⟨rfl, hb⟩
        have B1 : Hid (Below w.heap.size w w1) := ((Below.refl _ _).alloc (Nat.le_refl _) _).trans (hb.mono (by simp))
        clear hb K1
        by_cases h4 : (s.size : Int) + t.size + (q : Nat) ≤ l
        · have hl : left q (l - s.size - t.size) = l - s.size - t.size - q := by unfold left; rw [if_pos (by omega)]
          have hr : left (s.size + t.size + q) l = l - s.size - t.size - q := by unfold left; rw [if_pos (by omega)]; omega
          rw [hl]
          clear hl
          have t3 : decide (l - (s.size : Int) - (t.size : Int) - (q : Nat) < 0) = false := by simp; omega
          go_wp2
          go_ret
          exact ⟨by first | rfl | (rw [hr]; rfl), B1.out⟩
        · have hl : left q (l - s.size - t.size) = -1 := by unfold left; rw [if_neg (by omega)]
          have hr : left (s.size + t.size + q) l = -1 := by unfold left; rw [if_neg (by omega)]
          rw [hl]
          clear hl
          go_wp2
          go_ret
          exact ⟨by first | rfl | (rw [hr]; rfl), B1.out⟩
      · have hr : left (s.size + t.size + q) l = -1 := by unfold left; rw [if_neg (by omega)]
        have t2 : decide (l - (s.size : Int) - (t.size : Int) < 0) = true := by simp; omega
        rw [hr]
        clear hr K1
        go_enter Try.func5, Try.ntmps5
        go_wp2
        go_ret
        exact ⟨rfl, (Below.refl _ _).alloc (Nat.le_refl _) _⟩
    · have hr : left (s.size + t.size + q) l = -1 := by unfold left; rw [if_neg (by omega)]
      have t2 : decide (l - (s.size : Int) < 0) = true := by simp; omega
      rw [hr]
      clear hr K1
      go_enter Try.func5, Try.ntmps5
      go_wp2
      go_ret
      exact ⟨rfl, (Below.refl _ _).alloc (Nat.le_refl _) _⟩

theorem szS_any (ks : List Nd) (v : Value) (w : World) (l : Int) (h0 : 0 ≤ l) (h1 : l ≤ 1048576) (h : ndSh.slice.rep w (· < w.heap.size) [v] ks) :
    Calls Try.prog 18 #[v, .int .i64 l] w fun e w' => e = .returned (.int .i64 (left (ks.length + wts ks) l)) ∧ Below w.heap.size w w' := szS_of ks (fun k _ => sz_any k) v w l h0 h1 h

end Go.Proofs.Ytogjpdhhidkljaa.node
