/-
  The law's measure of a tree (szNode, szNodeS): what is left of a number when the tree's weight is taken off it, or -1; nothing that was there is turned.
-/
import Derived.Test.YtkojogfljnnfhabChecked
import Derived.Test.YtkojogfljnnfhabRose
import Derived.WalkKit
import Derived.WalkLawsBesides
import Derived.Deep.QuietTactic
import Derived.BigQuiet
namespace Go.Proofs.Ytkojogfljnnfhab.node
open Go.RowKit Go.Proofs.Ytkojogfljnnfhab.rose
set_option linter.unusedVariables false

abbrev Pay := Int × Int × ByteArray × ByteArray
abbrev Nd := Rose Pay
abbrev paySh : Sh Pay := Sh.int.pair (Sh.int.pair (Sh.str.pair Sh.str))
abbrev ndSh : Sh Nd := paySh.rose

/-- A node's cells. -/
theorem nd_open {w : World} {S : Nat → Prop} {cs : List Value} {T : Nd} (h : ndSh.rep w S cs T) : ∃ op n s t a cap ks, T = .mk (op, n, s, t) ks ∧ cs = [.int .i64 op, .int .i64 n, .string s, .string t, .slice a ks.length cap] ∧
    s.size ≤ maxLen ∧ t.size ≤ maxLen ∧ ndSh.slice.rep w S [.slice a ks.length cap] ks := by
  obtain ⟨⟨op, n, s, t⟩, ks⟩ := T
  obtain ⟨ps, kc, rfl, ⟨_, _, rfl, ⟨rfl, _⟩, _, _, rfl, ⟨rfl, _⟩, _, _, rfl, ⟨rfl, hs⟩, ⟨rfl, ht⟩⟩, a, cap, css, rfl, h1, h2, h5, h3, h4⟩ := rose_iff.1 h
  exact ⟨op, n, s, t, a, cap, ks, rfl, rfl, hs, ht, a, cap, css, rfl, h1, h2, h5, h3, h4⟩

theorem nd_ints {w : World} {S : Nat → Prop} {cs : List Value} {op n : Int} {s t : ByteArray} {ks : List Nd} (h : ndSh.rep w S cs (.mk (op, n, s, t) ks)) :
    (-9223372036854775808 ≤ op ∧ op ≤ 9223372036854775807) ∧ (-9223372036854775808 ≤ n ∧ n ≤ 9223372036854775807) := by
  obtain ⟨ps, kc, rfl, ⟨_, _, rfl, ⟨rfl, h1⟩, _, _, rfl, ⟨rfl, h2⟩, _⟩, _⟩ := rose_iff.1 h
  exact ⟨h1, h2⟩
theorem nd_shut {w : World} {S : Nat → Prop} {op n : Int} {s t : ByteArray} {v : Value} {ks : List Nd} (hop : -9223372036854775808 ≤ op ∧ op ≤ 9223372036854775807) (hn : -9223372036854775808 ≤ n ∧ n ≤ 9223372036854775807) (hs : s.size ≤ maxLen) (ht : t.size ≤ maxLen)
    (hk : ndSh.slice.rep w S [v] ks) : ndSh.rep w S [.int .i64 op, .int .i64 n, .string s, .string t, v] (.mk (op, n, s, t) ks) :=
  rose_iff.2 ⟨[.int .i64 op, .int .i64 n, .string s, .string t], [v], rfl, ⟨[_], _, rfl, ⟨rfl, hop⟩, [_], _, rfl, ⟨rfl, hn⟩, [_], [_], rfl, ⟨rfl, hs⟩, ⟨rfl, ht⟩⟩, hk⟩

/-- A slice of nodes, by its elements. -/
theorem nds_open {w : World} {S : Nat → Prop} {v : Value} {ks : List Nd} (h : ndSh.slice.rep w S [v] ks) : ∃ a cap css, v = .slice a ks.length cap ∧ ks.length ≤ cap ∧ cap ≤ maxLen ∧ RowAt w S 5 a ks.length css ∧ ∀ i (h : i < ks.length), ndSh.rep w S (css i) ks[i] := by
  obtain ⟨a, cap, css, e, h1, h2, -, h3, h4⟩ := h
  exact ⟨a, cap, css, by simpa using e, h1, h2, h3, h4⟩

theorem nds_none {w : World} {S : Nat → Prop} {n cap : Nat} {ks : List Nd} (h : ndSh.slice.rep w S [.slice none n cap] ks) : n = 0 ∧ cap = 0 ∧ ks = [] := by
  obtain ⟨a, cap, css, e, h1, h2, h5, h3, h4⟩ := h
  simp only [List.cons.injEq, Value.slice.injEq, and_true] at e
  obtain ⟨rfl, rfl, rfl⟩ := e
  have := h5 rfl
  subst this
  have : ks = [] := List.eq_nil_of_length_eq_zero (by omega)
  subst this
  exact ⟨rfl, rfl, rfl⟩

/-- Element i's five cells. -/
theorem nd_cells {w : World} {S : Nat → Prop} {b o i : Nat} {cs : List Value} {T : Nd} (h : ndSh.rep w S cs T) (hc : CellsAt w b (o + i * 5) cs) :
    ∃ v0 v1 v2 v3 v4, cs = [v0, v1, v2, v3, v4] ∧ w.cell? ⟨b, o + i * 5, none⟩ = some v0 ∧ w.cell? ⟨b, o + i * 5 + 1, none⟩ = some v1 ∧ w.cell? ⟨b, o + i * 5 + 2, none⟩ = some v2 ∧ w.cell? ⟨b, o + i * 5 + 3, none⟩ = some v3 ∧ w.cell? ⟨b, o + i * 5 + 4, none⟩ = some v4 := by
  obtain ⟨op, n, s, t, a, cap, ks, rfl, rfl, _, _, _⟩ := nd_open h
  exact ⟨_, _, _, _, _, rfl, hc 0 _ rfl, hc 1 _ rfl, hc 2 _ rfl, hc 3 _ rfl, hc 4 _ rfl⟩

theorem nd_list {w : World} {S : Nat → Prop} {cs : List Value} {T : Nd} (h : ndSh.rep w S cs T) : ∃ v0 v1 v2 v3 v4, cs = [v0, v1, v2, v3, v4] := by
  obtain ⟨op, n, s, t, a, cap, ks, rfl, rfl, _, _, _⟩ := nd_open h
  exact ⟨_, _, _, _, _, rfl⟩

mutual
/-- What a tree weighs. -/
def wt : Nd → Nat
  | .mk x ks => x.2.2.1.size + x.2.2.2.size + ks.length + wts ks
def wts : List Nd → Nat
  | [] => 0
  | k :: ks => wt k + wts ks
end

theorem wts_take {ks : List Nd} {i : Nat} (h : i < ks.length) : wts (ks.take (i + 1)) = wts (ks.take i) + wt ks[i] := by
  induction ks generalizing i with
  | nil => simp at h
  | cons k ks ih =>
    cases i with
    | zero => simp [wts]
    | succ i => simp [wts, ih (by simpa using h)]; omega
theorem wts_take_le (ks : List Nd) (i : Nat) : wts (ks.take i) ≤ wts ks := by
  induction ks generalizing i with
  | nil => simp [wts]
  | cons k ks ih =>
    cases i with
    | zero => simp [wts]
    | succ i => simp [wts]; exact ih i

theorem wt_mem {ks : List Nd} {k : Nd} (h : k ∈ ks) : wt k ≤ wts ks := by
  induction ks with
  | nil => cases h
  | cons a ks ih =>
    simp only [wts]
    rcases List.mem_cons.1 h with rfl | h
    · omega
    · have := ih h; omega

def SzSays (T : Nd) : Prop := ∀ cs w l, 0 ≤ l → l ≤ 1048576 → ndSh.rep w (· < w.heap.size) cs T →
  Calls Try.prog 10 #[.agg cs.toArray, .int .i64 l] w fun e w' => e = .returned (.int .i64 (left (wt T) l)) ∧ Below w.heap.size w w'

set_option maxHeartbeats 1000000 in
theorem szS_of (ks : List Nd) (ih : ∀ k ∈ ks, SzSays k) (v : Value) (w : World) (l : Int) (h0 : 0 ≤ l) (h1 : l ≤ 1048576) (h : ndSh.slice.rep w (· < w.heap.size) [v] ks) :
    Calls Try.prog 25 #[v, .int .i64 l] w fun e w' => e = .returned (.int .i64 (left (ks.length + wts ks) l)) ∧ Below w.heap.size w w' := by
  obtain ⟨a, cap, css, rfl, hcap, hmax, hrow, hk⟩ := nds_open h
  have hmx : (ks.length : Int) ≤ 9223372036854775807 := by unfold maxLen at hmax; omega
  clear h hcap hmax
  have IH : Hid (∀ k ∈ ks, SzSays k) := ih
  have HR : Hid (RowAt w (· < w.heap.size) 5 a ks.length css ∧ ∀ i (h : i < ks.length), ndSh.rep w (· < w.heap.size) (css i) ks[i]) := ⟨hrow, hk⟩
  clear ih hrow hk
  by_cases hn : (ks.length : Int) ≤ l
  · have t1 : decide (l - (ks.length : Int) < 0) = false := by simp; omega
    go_enter Try.func25, Try.ntmps25
    go_wp2
    go_loopw [1, 5] (fun v1 v5 wr => ∃ i : Nat, i ≤ ks.length ∧ v5 = .int .i64 i ∧ v1 = .int .i64 (l - ks.length - (wts (ks.take i) : Nat)) ∧ ((wts (ks.take i) : Nat) : Int) ≤ l - ks.length ∧ Hid (Below w.heap.size w wr)) (fun _ v5 _ => ks.length - (intOf v5).toNat)
    case atStart => exact ⟨0, Nat.zero_le _, rfl, by simp [wts], by simp [wts]; omega, Below.refl _ _⟩
    case round =>
      obtain ⟨i, hi, rfl, rfl, hle, HB⟩ := hrel
      by_cases hlt : i < ks.length
      · obtain ⟨b, o, rfl, hS, hc⟩ := HR.out.1 i hlt
        have hrep := HR.out.2 i hlt
        obtain ⟨v0, v1, v2, v3, v4, hcs, c0, c1, c2, c3, c4⟩ := nd_cells hrep hc
        have e0 := (HB.out.cell (p := ⟨b, o + i * 5, none⟩) hS).trans c0
        have e1 := (HB.out.cell (p := ⟨b, o + i * 5 + 1, none⟩) hS).trans c1
        have e2 := (HB.out.cell (p := ⟨b, o + i * 5 + 2, none⟩) hS).trans c2
        have e3 := (HB.out.cell (p := ⟨b, o + i * 5 + 3, none⟩) hS).trans c3
        have e4 := (HB.out.cell (p := ⟨b, o + i * 5 + 4, none⟩) hS).trans c4
        rw [hcs] at hrep
        clear c0 c1 c2 c3 c4 hc hcs
        have W1 : Hid (wts (ks.take (i + 1)) = wts (ks.take i) + wt ks[i]) := wts_take hlt
        have W2 : Hid (wts (ks.take (i + 1)) ≤ wts ks) := wts_take_le ks (i + 1)
        have hR := ndSh.mono (ndSh.below hrep HB.out) (S' := (· < wr.heap.size)) (fun b hb => Nat.lt_of_lt_of_le hb HB.out.size)
        clear hrep
        have hcall := IH.out ks[i] (List.getElem_mem hlt) [v0, v1, v2, v3, v4] wr (l - ks.length - (wts (ks.take i) : Nat)) (by omega) (by omega) hR
        clear hR
        go_wp2_with fail
        refine hcall.mono ?_
        clear hcall
        rintro e w1 ⟨rfl, hb⟩
        have B1 : Hid (Below w.heap.size w w1) := HB.out.trans (hb.mono HB.out.size)
        clear hb HB
        by_cases hfit : ((wt ks[i] : Nat) : Int) ≤ l - ks.length - (wts (ks.take i) : Nat)
        · have hl : left (wt ks[i]) (l - ks.length - (wts (ks.take i) : Nat)) = l - ks.length - (wts (ks.take (i + 1)) : Nat) := by
            unfold left; rw [if_pos hfit, W1.out]; omega
          have hq : ((wts (ks.take (i + 1)) : Nat) : Int) ≤ l - ks.length := by rw [W1.out]; omega
          rw [hl]
          clear hl hfit
          have t2 : decide (l - (ks.length : Int) - ((wts (ks.take (i + 1)) : Nat) : Int) < 0) = false := by simp; omega
          go_wp2
          go_round
          case rel => exact ⟨i + 1, by omega, by go_num, rfl, hq, B1⟩
          case measure => simp [intOf]; omega
        · have hl : left (wt ks[i]) (l - ks.length - (wts (ks.take i) : Nat)) = -1 := by
            unfold left; rw [if_neg hfit]
          have hr : left (ks.length + wts ks) l = -1 := by
            unfold left; rw [if_neg]; have := W1.out; have := W2.out; omega
          rw [hl]
          clear hl
          go_wp2
          go_ret
          exact ⟨by rw [hr]; rfl, B1.out⟩
      · obtain rfl : i = ks.length := by omega
        have hr : left (ks.length + wts ks) l = l - ks.length - (wts ks : Nat) := by
          rw [List.take_length] at hle
          unfold left; rw [if_pos (by omega)]; omega
        go_wp2
        go_ret
        exact ⟨by rw [hr, List.take_length]; rfl, HB.out⟩
  · have t1 : decide (l - (ks.length : Int) < 0) = true := by simp; omega
    have hr : left (ks.length + wts ks) l = -1 := by
      unfold left; rw [if_neg]; omega
    go_enter Try.func25, Try.ntmps25
    go_wp2
    go_ret
    exact ⟨by first | rfl | (rw [hr]; rfl), Below.refl _ _⟩

set_option maxHeartbeats 1000000 in
theorem sz_any (T : Nd) : SzSays T := by
  induction T using ind with
  | h x ks ih =>
    intro cs w l h0 h1 h
    obtain ⟨op, n, s, t, a, cap, ks', hT, rfl, hs, ht, hk⟩ := nd_open h
    cases hT
    clear h
    have K1 : ∀ (l' : Int) (w' : World), 0 ≤ l' → l' ≤ 1048576 → Below w.heap.size w w' → Calls Try.prog 25 #[.slice a ks.length cap, .int .i64 l'] w' fun e w'' => e = .returned (.int .i64 (left (ks.length + wts ks) l')) ∧ Below w'.heap.size w' w'' :=
      fun l' w' h2 h3 hb => szS_of ks ih _ w' l' h2 h3 (ndSh.slice.mono (ndSh.slice.below hk hb) fun b hlt => Nat.lt_of_lt_of_le hlt hb.size)
    clear ih hk
    have hmx : (s.size : Int) ≤ 9223372036854775807 ∧ (t.size : Int) ≤ 9223372036854775807 := by unfold maxLen at hs ht; omega
    clear hs ht
    obtain ⟨hms, hmt⟩ := hmx
    have hw : wt (.mk (op, n, s, t) ks) = s.size + t.size + (ks.length + wts ks) := by simp [wt]; omega
    rw [hw]
    generalize ks.length + wts ks = q at K1 hw ⊢
    clear hw
    by_cases h2 : (s.size : Int) ≤ l
    · have t1 : decide (l - (s.size : Int) < 0) = false := by simp; omega
      by_cases h3 : (s.size : Int) + t.size ≤ l
      · have t2 : decide (l - (s.size : Int) - (t.size : Int) < 0) = false := by simp; omega
        go_enter Try.func10, Try.ntmps10
        go_wp2_with fail
        refine (K1 _ _ (by omega) (by omega) ((Below.refl _ _).alloc (Nat.le_refl _) _)).mono ?_
        rintro e w1 ⟨rfl, hb⟩
        have B1 : Hid (Below w.heap.size w w1) := ((Below.refl _ _).alloc (Nat.le_refl _) _).trans (hb.mono (by simp))
        clear hb K1
        by_cases h4 : (s.size : Int) + t.size + (q : Nat) ≤ l
        · have hl : left q (l - s.size - t.size) = l - s.size - t.size - q := by unfold left; rw [if_pos (by omega)]
          have hr : left (s.size + t.size + q) l = l - s.size - t.size - q := by unfold left; rw [if_pos (by omega)]; omega
          rw [hl]
          clear hl
          have t3 : decide (l - (s.size : Int) - (t.size : Int) - (q : Nat) < 0) = false := by simp; omega
          go_wp2
          go_ret
          exact ⟨by first | rfl | (rw [hr]; rfl), B1.out⟩
        · have hl : left q (l - s.size - t.size) = -1 := by unfold left; rw [if_neg (by omega)]
          have hr : left (s.size + t.size + q) l = -1 := by unfold left; rw [if_neg (by omega)]
          rw [hl]
          clear hl
          go_wp2
          go_ret
          exact ⟨by first | rfl | (rw [hr]; rfl), B1.out⟩
      · have hr : left (s.size + t.size + q) l = -1 := by unfold left; rw [if_neg (by omega)]
        have t2 : decide (l - (s.size : Int) - (t.size : Int) < 0) = true := by simp; omega
        rw [hr]
        clear hr K1
        go_enter Try.func10, Try.ntmps10
        go_wp2
        go_ret
        exact ⟨rfl, (Below.refl _ _).alloc (Nat.le_refl _) _⟩
    · have hr : left (s.size + t.size + q) l = -1 := by unfold left; rw [if_neg (by omega)]
      have t2 : decide (l - (s.size : Int) < 0) = true := by simp; omega
      rw [hr]
      clear hr K1
      go_enter Try.func10, Try.ntmps10
      go_wp2
      go_ret
      exact ⟨rfl, (Below.refl _ _).alloc (Nat.le_refl _) _⟩

theorem szS_any (ks : List Nd) (v : Value) (w : World) (l : Int) (h0 : 0 ≤ l) (h1 : l ≤ 1048576) (h : ndSh.slice.rep w (· < w.heap.size) [v] ks) :
    Calls Try.prog 25 #[v, .int .i64 l] w fun e w' => e = .returned (.int .i64 (left (ks.length + wts ks) l)) ∧ Below w.heap.size w w' := szS_of ks (fun k _ => sz_any k) v w l h0 h1 h

end Go.Proofs.Ytkojogfljnnfhab.node
