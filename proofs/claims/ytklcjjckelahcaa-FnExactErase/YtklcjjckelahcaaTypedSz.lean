/-
  The law's type Typed as it lies in memory, and the law's measure of it (szTyped and of slices): what is left of a number when the weight is taken off it, or -1; nothing that was there is turned.
-/
import Derived.Test.YtklcjjckelahcaaChecked
import Derived.Test.YtklcjjckelahcaaRose
import Derived.Test.YtklcjjckelahcaaTySz
import Derived.Test.YtklcjjckelahcaaIntsSz
import Derived.WalkKit
import Derived.WalkLawsBesides
import Derived.Deep.QuietTactic
import Derived.BigQuiet
namespace Go.Proofs.Ytklcjjckelahcaa.typed
open Go.RowKit Go.Proofs.Ytklcjjckelahcaa.rose Go.Proofs.Ytklcjjckelahcaa
set_option linter.unusedVariables false

abbrev Pay := Int × Int × ByteArray × ByteArray × ty.TyD × List ty.TyD × List Int
abbrev TypedD := Rose Pay
abbrev paySh : Sh Pay := Sh.int.pair (Sh.int.pair (Sh.str.pair (Sh.str.pair (ty.tySh.pair (ty.tySh.slice.pair Sh.int.slice)))))
abbrev typedSh : Sh TypedD := paySh.rose

theorem typed_open {w : World} {S : Nat → Prop} {cs : List Value} {T : TypedD} (h : typedSh.rep w S cs T) : ∃ x0 x1 x2 x3 x4 u4_0 u4_1 u4_2 u4_3 x5 a5 c5 x6 a6 c6 x7 a7 c7, T = .mk (x0, x1, x2, x3, x4, x5, x6) x7 ∧ cs = [.int .i64 x0, .int .i64 x1, .string x2, .string x3, u4_0, u4_1, u4_2, u4_3, .slice a5 x5.length c5, .slice a6 x6.length c6, .slice a7 x7.length c7] ∧ (-9223372036854775808 ≤ x0 ∧ x0 ≤ 9223372036854775807) ∧ (-9223372036854775808 ≤ x1 ∧ x1 ≤ 9223372036854775807) ∧ x2.size ≤ maxLen ∧ x3.size ≤ maxLen ∧ ty.tySh.rep w S [u4_0, u4_1, u4_2, u4_3] x4 ∧ ty.tySh.slice.rep w S [.slice a5 x5.length c5] x5 ∧ Sh.int.slice.rep w S [.slice a6 x6.length c6] x6 ∧ typedSh.slice.rep w S [.slice a7 x7.length c7] x7 := by
  obtain ⟨⟨x0, x1, x2, x3, x4, x5, x6⟩, x7⟩ := T
  obtain ⟨ps, kc, rfl, ⟨_, _, rfl, ⟨rfl, h0⟩, _, _, rfl, ⟨rfl, h1⟩, _, _, rfl, ⟨rfl, h2⟩, _, _, rfl, ⟨rfl, h3⟩, _, _, rfl, h4, _, _, rfl, h5, h6⟩, h7⟩ := rose_iff.1 h
  obtain ⟨u4_0, u4_1, u4_2, u4_3, rfl⟩ := ty.ty_list h4
  obtain ⟨a5, c5, rfl⟩ := slice_cells h5
  obtain ⟨a6, c6, rfl⟩ := slice_cells h6
  obtain ⟨a7, c7, rfl⟩ := slice_cells h7
  exact ⟨_, _, _, _, _, _, _, _, _, _, _, _, _, _, _, _, _, _, rfl, rfl, h0, h1, h2, h3, h4, h5, h6, h7⟩
theorem typed_list {w : World} {S : Nat → Prop} {cs : List Value} {T : TypedD} (h : typedSh.rep w S cs T) : ∃ v0 v1 v2 v3 v4 v5 v6 v7 v8 v9 v10, cs = [v0, v1, v2, v3, v4, v5, v6, v7, v8, v9, v10] := by
  obtain ⟨x0, x1, x2, x3, x4, u4_0, u4_1, u4_2, u4_3, x5, a5, c5, x6, a6, c6, x7, a7, c7, -, rfl, -⟩ := typed_open h
  exact ⟨_, _, _, _, _, _, _, _, _, _, _, rfl⟩
theorem typed_shut {w : World} {S : Nat → Prop} {x0 : Int} {x1 : Int} {x2 : ByteArray} {x3 : ByteArray} {x4 : ty.TyD} {x5 : List ty.TyD} {x6 : List Int} {x7 : List TypedD} {u4_0 : Value} {u4_1 : Value} {u4_2 : Value} {u4_3 : Value} {a5 : Option Addr} {c5 : Nat} {a6 : Option Addr} {c6 : Nat} {a7 : Option Addr} {c7 : Nat} (h0 : -9223372036854775808 ≤ x0 ∧ x0 ≤ 9223372036854775807) (h1 : -9223372036854775808 ≤ x1 ∧ x1 ≤ 9223372036854775807) (h2 : x2.size ≤ maxLen) (h3 : x3.size ≤ maxLen) (h4 : ty.tySh.rep w S [u4_0, u4_1, u4_2, u4_3] x4) (h5 : ty.tySh.slice.rep w S [.slice a5 x5.length c5] x5) (h6 : Sh.int.slice.rep w S [.slice a6 x6.length c6] x6) (h7 : typedSh.slice.rep w S [.slice a7 x7.length c7] x7) : typedSh.rep w S [.int .i64 x0, .int .i64 x1, .string x2, .string x3, u4_0, u4_1, u4_2, u4_3, .slice a5 x5.length c5, .slice a6 x6.length c6, .slice a7 x7.length c7] (.mk (x0, x1, x2, x3, x4, x5, x6) x7) :=
  rose_iff.2 ⟨[.int .i64 x0, .int .i64 x1, .string x2, .string x3, u4_0, u4_1, u4_2, u4_3, .slice a5 x5.length c5, .slice a6 x6.length c6], [_], rfl, ⟨[_], _, rfl, ⟨rfl, h0⟩, [_], _, rfl, ⟨rfl, h1⟩, [_], _, rfl, ⟨rfl, h2⟩, [_], _, rfl, ⟨rfl, h3⟩, [_, _, _, _], _, rfl, h4, [_], _, rfl, h5, h6⟩, h7⟩

theorem typeds_open {w : World} {S : Nat → Prop} {v : Value} {ks : List TypedD} (h : typedSh.slice.rep w S [v] ks) : ∃ a cap css, v = .slice a ks.length cap ∧ ks.length ≤ cap ∧ cap ≤ maxLen ∧ RowAt w S 11 a ks.length css ∧ ∀ i (h : i < ks.length), typedSh.rep w S (css i) ks[i] := by
  obtain ⟨a, cap, css, e, h1, h2, -, h3, h4⟩ := h
  exact ⟨a, cap, css, by simpa using e, h1, h2, h3, h4⟩

theorem typed_cells {w : World} {S : Nat → Prop} {b o i : Nat} {cs : List Value} {T : TypedD} (h : typedSh.rep w S cs T) (hc : CellsAt w b (o + i * 11) cs) :
    ∃ v0 v1 v2 v3 v4 v5 v6 v7 v8 v9 v10, cs = [v0, v1, v2, v3, v4, v5, v6, v7, v8, v9, v10] ∧ w.cell? ⟨b, o + i * 11, none⟩ = some v0 ∧ w.cell? ⟨b, o + i * 11 + 1, none⟩ = some v1 ∧ w.cell? ⟨b, o + i * 11 + 2, none⟩ = some v2 ∧ w.cell? ⟨b, o + i * 11 + 3, none⟩ = some v3 ∧ w.cell? ⟨b, o + i * 11 + 4, none⟩ = some v4 ∧ w.cell? ⟨b, o + i * 11 + 5, none⟩ = some v5 ∧ w.cell? ⟨b, o + i * 11 + 6, none⟩ = some v6 ∧ w.cell? ⟨b, o + i * 11 + 7, none⟩ = some v7 ∧ w.cell? ⟨b, o + i * 11 + 8, none⟩ = some v8 ∧ w.cell? ⟨b, o + i * 11 + 9, none⟩ = some v9 ∧ w.cell? ⟨b, o + i * 11 + 10, none⟩ = some v10 := by
  obtain ⟨v0, v1, v2, v3, v4, v5, v6, v7, v8, v9, v10, rfl⟩ := typed_list h
  exact ⟨_, _, _, _, _, _, _, _, _, _, _, rfl, hc 0 _ rfl, hc 1 _ rfl, hc 2 _ rfl, hc 3 _ rfl, hc 4 _ rfl, hc 5 _ rfl, hc 6 _ rfl, hc 7 _ rfl, hc 8 _ rfl, hc 9 _ rfl, hc 10 _ rfl⟩

mutual
/-- What it weighs. -/
def wt : TypedD → Nat
  | .mk (x0, x1, x2, x3, x4, x5, x6) x7 => x2.size + (x3.size + (ty.wt x4 + ((x5.length + ty.wts x5) + (x6.length + ((x7.length + wts x7))))))
def wts : List TypedD → Nat
  | [] => 0
  | k :: ks => wt k + wts ks
end

theorem wts_take {ks : List TypedD} {i : Nat} (h : i < ks.length) : wts (ks.take (i + 1)) = wts (ks.take i) + wt ks[i] := by
  induction ks generalizing i with
  | nil => simp at h
  | cons k ks ih =>
    cases i with
    | zero => simp [wts]
    | succ i => simp [wts, ih (by simpa using h)]; omega
theorem wts_take_le (ks : List TypedD) (i : Nat) : wts (ks.take i) ≤ wts ks := by
  induction ks generalizing i with
  | nil => simp [wts]
  | cons k ks ih =>
    cases i with
    | zero => simp [wts]
    | succ i => simp [wts]; exact ih i
theorem wt_mem {ks : List TypedD} {k : TypedD} (h : k ∈ ks) : wt k ≤ wts ks := by
  induction ks with
  | nil => cases h
  | cons a ks ih =>
    simp only [wts]
    rcases List.mem_cons.1 h with rfl | h
    · omega
    · have := ih h; omega

def SzSays (T : TypedD) : Prop := ∀ cs w l, 0 ≤ l → l ≤ 1048576 → typedSh.rep w (· < w.heap.size) cs T →
  Calls Try.prog 5 #[.agg cs.toArray, .int .i64 l] w fun e w' => e = .returned (.int .i64 (left (wt T) l)) ∧ Below w.heap.size w w'

set_option maxHeartbeats 1000000 in
theorem szS_of (ks : List TypedD) (ih : ∀ k ∈ ks, SzSays k) (v : Value) (w : World) (l : Int) (h0 : 0 ≤ l) (h1 : l ≤ 1048576) (h : typedSh.slice.rep w (· < w.heap.size) [v] ks) :
    Calls Try.prog 29 #[v, .int .i64 l] w fun e w' => e = .returned (.int .i64 (left (ks.length + wts ks) l)) ∧ Below w.heap.size w w' := by
  obtain ⟨a, cap, css, rfl, hcap, hmax, hrow, hk⟩ := typeds_open h
  have hmx : (ks.length : Int) ≤ 9223372036854775807 := by unfold maxLen at hmax; omega
  clear h hcap hmax
  have IH : Hid (∀ k ∈ ks, SzSays k) := ih
  have HR : Hid (RowAt w (· < w.heap.size) 11 a ks.length css ∧ ∀ i (h : i < ks.length), typedSh.rep w (· < w.heap.size) (css i) ks[i]) := ⟨hrow, hk⟩
  clear ih hrow hk
  by_cases hn : (ks.length : Int) ≤ l
  · have t1 : decide (l - (ks.length : Int) < 0) = false := by simp; omega
    go_enter Try.func29, Try.ntmps29
    go_wp2
    go_loopw [1, 5] (fun v1 v5 wr => ∃ i : Nat, i ≤ ks.length ∧ v5 = .int .i64 i ∧ v1 = .int .i64 (l - ks.length - (wts (ks.take i) : Nat)) ∧ ((wts (ks.take i) : Nat) : Int) ≤ l - ks.length ∧ Hid (Below w.heap.size w wr)) (fun _ v5 _ => ks.length - (intOf v5).toNat)
    case atStart => exact ⟨0, Nat.zero_le _, rfl, by simp [wts], by simp [wts]; omega, Below.refl _ _⟩
    case round =>
      obtain ⟨i, hi, rfl, rfl, hle, HB⟩ := hrel
      by_cases hlt : i < ks.length
      · obtain ⟨b, o, rfl, hS, hc⟩ := HR.out.1 i hlt
        have hrep := HR.out.2 i hlt
        obtain ⟨v0, v1, v2, v3, v4, v5, v6, v7, v8, v9, v10, hcs, c0, c1, c2, c3, c4, c5, c6, c7, c8, c9, c10⟩ := typed_cells hrep hc
        have e0 := (HB.out.cell (p := ⟨b, o + i * 11, none⟩) hS).trans c0
        have e1 := (HB.out.cell (p := ⟨b, o + i * 11 + 1, none⟩) hS).trans c1
        have e2 := (HB.out.cell (p := ⟨b, o + i * 11 + 2, none⟩) hS).trans c2
        have e3 := (HB.out.cell (p := ⟨b, o + i * 11 + 3, none⟩) hS).trans c3
        have e4 := (HB.out.cell (p := ⟨b, o + i * 11 + 4, none⟩) hS).trans c4
        have e5 := (HB.out.cell (p := ⟨b, o + i * 11 + 5, none⟩) hS).trans c5
        have e6 := (HB.out.cell (p := ⟨b, o + i * 11 + 6, none⟩) hS).trans c6
        have e7 := (HB.out.cell (p := ⟨b, o + i * 11 + 7, none⟩) hS).trans c7
        have e8 := (HB.out.cell (p := ⟨b, o + i * 11 + 8, none⟩) hS).trans c8
        have e9 := (HB.out.cell (p := ⟨b, o + i * 11 + 9, none⟩) hS).trans c9
        have e10 := (HB.out.cell (p := ⟨b, o + i * 11 + 10, none⟩) hS).trans c10
        rw [hcs] at hrep
        clear c0 c1 c2 c3 c4 c5 c6 c7 c8 c9 c10 hc hcs
        have W1 : Hid (wts (ks.take (i + 1)) = wts (ks.take i) + wt ks[i]) := wts_take hlt
        have W2 : Hid (wts (ks.take (i + 1)) ≤ wts ks) := wts_take_le ks (i + 1)
        have hR := typedSh.mono (typedSh.below hrep HB.out) (S' := (· < wr.heap.size)) (fun b hb => Nat.lt_of_lt_of_le hb HB.out.size)
        clear hrep
        have hcall := IH.out ks[i] (List.getElem_mem hlt) [v0, v1, v2, v3, v4, v5, v6, v7, v8, v9, v10] wr (l - ks.length - (wts (ks.take i) : Nat)) (by omega) (by omega) hR
        clear hR
        go_wp2_with fail
        refine hcall.mono ?_
        clear hcall
        rintro e w1 ⟨rfl, hb⟩
        have B1 : Hid (Below w.heap.size w w1) := HB.out.trans (hb.mono HB.out.size)
        clear hb HB
        by_cases hfit : ((wt ks[i] : Nat) : Int) ≤ l - ks.length - (wts (ks.take i) : Nat)
        · have hl : left (wt ks[i]) (l - ks.length - (wts (ks.take i) : Nat)) = l - ks.length - (wts (ks.take (i + 1)) : Nat) := by
            unfold left; rw [if_pos hfit, W1.out]; omega
          have hq : ((wts (ks.take (i + 1)) : Nat) : Int) ≤ l - ks.length := by rw [W1.out]; omega
          rw [hl]
          clear hl hfit
          have t2 : decide (l - (ks.length : Int) - ((wts (ks.take (i + 1)) : Nat) : Int) < 0) = false := by simp; omega
          go_wp2
          go_round
          case rel => exact ⟨i + 1, by omega, by go_num, rfl, hq, B1⟩
          case measure => simp [intOf]; omega
        · have hl : left (wt ks[i]) (l - ks.length - (wts (ks.take i) : Nat)) = -1 := by
            unfold left; rw [if_neg hfit]
          have hr : left (ks.length + wts ks) l = -1 := by
            unfold left; rw [if_neg]; have := W1.out; have := W2.out; omega
          rw [hl]
          clear hl
          go_wp2
          go_ret
          exact ⟨by rw [hr]; rfl, B1.out⟩
      · obtain rfl : i = ks.length := by omega
        have hr : left (ks.length + wts ks) l = l - ks.length - (wts ks : Nat) := by
          rw [List.take_length] at hle
          unfold left; rw [if_pos (by omega)]; try omega
        go_wp2
        go_ret
        exact ⟨by rw [hr, List.take_length]; rfl, HB.out⟩
  · have t1 : decide (l - (ks.length : Int) < 0) = true := by simp; omega
    have hr : left (ks.length + wts ks) l = -1 := by
      unfold left; rw [if_neg]; omega
    go_enter Try.func29, Try.ntmps29
    go_wp2
    go_ret
    exact ⟨by first | rfl | (rw [hr]; rfl), Below.refl _ _⟩

set_option maxHeartbeats 1000000 in
theorem sz_any (T : TypedD) : SzSays T := by
  induction T using ind with
  | h x x7 ih =>
    intro cs w l h0 h1 h
    obtain ⟨x0, x1, x2, x3, x4, u4_0, u4_1, u4_2, u4_3, x5, a5, c5, x6, a6, c6, x7k, a7, c7, hT, rfl, f0, f1, f2, f3, f4, f5, f6, f7⟩ := typed_open h
    cases hT
    have ou4_0 := ty.tySh.one f4 u4_0 (by simp)
    have ou4_1 := ty.tySh.one f4 u4_1 (by simp)
    have ou4_2 := ty.tySh.one f4 u4_2 (by simp)
    have ou4_3 := ty.tySh.one f4 u4_3 (by simp)
    clear h
    have m2 : (x2.size : Int) ≤ 9223372036854775807 := by unfold maxLen at f2; omega
    have m3 : (x3.size : Int) ≤ 9223372036854775807 := by unfold maxLen at f3; omega
    have K4 : ∀ (l' : Int) (w' : World), 0 ≤ l' → l' ≤ 1048576 → Below w.heap.size w w' → Calls Try.prog 15 #[.agg #[u4_0, u4_1, u4_2, u4_3], .int .i64 l'] w' fun e w'' => e = .returned (.int .i64 (left (ty.wt x4) l')) ∧ Below w'.heap.size w' w'' :=
      fun l' w' h2 h3 hb => ty.sz_any x4 _ w' l' h2 h3 (ty.tySh.mono (ty.tySh.below f4 hb) fun b hlt => Nat.lt_of_lt_of_le hlt hb.size)
    have K5 : ∀ (l' : Int) (w' : World), 0 ≤ l' → l' ≤ 1048576 → Below w.heap.size w w' → Calls Try.prog 27 #[.slice a5 x5.length c5, .int .i64 l'] w' fun e w'' => e = .returned (.int .i64 (left (x5.length + ty.wts x5) l')) ∧ Below w'.heap.size w' w'' :=
      fun l' w' h2 h3 hb => ty.szS_any x5 _ w' l' h2 h3 (ty.tySh.slice.mono (ty.tySh.slice.below f5 hb) fun b hlt => Nat.lt_of_lt_of_le hlt hb.size)
    have K6 : ∀ (l' : Int) (w' : World), 0 ≤ l' → l' ≤ 1048576 → Below w.heap.size w w' → Calls Try.prog 28 #[.slice a6 x6.length c6, .int .i64 l'] w' fun e w'' => e = .returned (.int .i64 (left (x6.length) l')) ∧ Below w'.heap.size w' w'' :=
      fun l' w' h2 h3 hb => ints.szS_any x6 _ w' l' h2 h3 (Sh.int.slice.mono (Sh.int.slice.below f6 hb) fun b hlt => Nat.lt_of_lt_of_le hlt hb.size)
    have K7 : ∀ (l' : Int) (w' : World), 0 ≤ l' → l' ≤ 1048576 → Below w.heap.size w w' → Calls Try.prog 29 #[.slice a7 x7.length c7, .int .i64 l'] w' fun e w'' => e = .returned (.int .i64 (left (x7.length + wts x7) l')) ∧ Below w'.heap.size w' w'' :=
      fun l' w' h2 h3 hb => szS_of x7 ih _ w' l' h2 h3 (typedSh.slice.mono (typedSh.slice.below f7 hb) fun b hlt => Nat.lt_of_lt_of_le hlt hb.size)
    clear ih f0 f1 f2 f3 f4 f5 f6 f7
    have hw : wt (.mk (x0, x1, x2, x3, x4, x5, x6) x7) = x2.size + (x3.size + (ty.wt x4 + ((x5.length + ty.wts x5) + (x6.length + ((x7.length + wts x7)))))) := by simp [wt]
    rw [hw]
    generalize ty.wt x4 = q4 at K4 hw ⊢
    generalize x5.length + ty.wts x5 = q5 at K5 hw ⊢
    generalize x7.length + wts x7 = q7 at K7 hw ⊢
    clear hw
    by_cases h10 : (x2.size : Int) ≤ l
    · have t0 : decide (l - (x2.size : Int) < 0) = false := by simp; omega
      by_cases h11 : (x2.size : Int) + (x3.size : Int) ≤ l
      · have t1 : decide (l - (x2.size : Int) - (x3.size : Int) < 0) = false := by simp; omega
        go_enter Try.func5, Try.ntmps5
        go_wp2_with fail
        refine (K4 _ _ (by omega) (by omega) ((Below.refl _ _).alloc (Nat.le_refl _) _)).mono ?_
        rintro e w3 ⟨rfl, hb⟩
        have B3 : Hid (Below w.heap.size w w3) := ((Below.refl _ _).alloc (Nat.le_refl _) _).trans (hb.mono (by simp))
        have z3 : w.heap.size < w3.heap.size := Nat.lt_of_lt_of_le (by simp) hb.size
        have b3_8 : w3.cell? ⟨w.heap.size, 8, none⟩ = some (.slice a5 x5.length c5) := (hb.cell (p := ⟨w.heap.size, 8, none⟩) (by simp)).trans (by simp)
        have b3_9 : w3.cell? ⟨w.heap.size, 9, none⟩ = some (.slice a6 x6.length c6) := (hb.cell (p := ⟨w.heap.size, 9, none⟩) (by simp)).trans (by simp)
        have b3_10 : w3.cell? ⟨w.heap.size, 10, none⟩ = some (.slice a7 x7.length c7) := (hb.cell (p := ⟨w.heap.size, 10, none⟩) (by simp)).trans (by simp)
        clear hb K4
        by_cases h12 : (x2.size : Int) + (x3.size : Int) + ((q4 : Nat) : Int) ≤ l
        · have hl : left q4 (l - (x2.size : Int) - (x3.size : Int)) = l - (x2.size : Int) - (x3.size : Int) - (q4 : Nat) := by unfold left; rw [if_pos (by omega)]
          rw [hl]
          clear hl
          have t2 : decide (l - (x2.size : Int) - (x3.size : Int) - (q4 : Nat) < 0) = false := by simp; omega
          go_wp2_with fail
          refine (K5 _ _ (by omega) (by omega) B3.out).mono ?_
          rintro e w4 ⟨rfl, hb⟩
          have B4 : Hid (Below w.heap.size w w4) := B3.out.trans (hb.mono B3.out.size)
          have z4 : w.heap.size < w4.heap.size := Nat.lt_of_lt_of_le z3 hb.size
          have b4_9 : w4.cell? ⟨w.heap.size, 9, none⟩ = some (.slice a6 x6.length c6) := (hb.cell (p := ⟨w.heap.size, 9, none⟩) z3).trans b3_9
          have b4_10 : w4.cell? ⟨w.heap.size, 10, none⟩ = some (.slice a7 x7.length c7) := (hb.cell (p := ⟨w.heap.size, 10, none⟩) z3).trans b3_10
          clear b3_8 b3_9 b3_10 z3
          clear hb K5
          by_cases h13 : (x2.size : Int) + (x3.size : Int) + ((q4 : Nat) : Int) + ((q5 : Nat) : Int) ≤ l
          · have hl : left q5 (l - (x2.size : Int) - (x3.size : Int) - (q4 : Nat)) = l - (x2.size : Int) - (x3.size : Int) - (q4 : Nat) - (q5 : Nat) := by unfold left; rw [if_pos (by omega)]
            rw [hl]
            clear hl
            have t3 : decide (l - (x2.size : Int) - (x3.size : Int) - (q4 : Nat) - (q5 : Nat) < 0) = false := by simp; omega
            go_wp2_with fail
            refine (K6 _ _ (by omega) (by omega) B4.out).mono ?_
            rintro e w5 ⟨rfl, hb⟩
            have B5 : Hid (Below w.heap.size w w5) := B4.out.trans (hb.mono B4.out.size)
            have z5 : w.heap.size < w5.heap.size := Nat.lt_of_lt_of_le z4 hb.size
            have b5_10 : w5.cell? ⟨w.heap.size, 10, none⟩ = some (.slice a7 x7.length c7) := (hb.cell (p := ⟨w.heap.size, 10, none⟩) z4).trans b4_10
            clear b4_9 b4_10 z4
            clear hb K6
            by_cases h14 : (x2.size : Int) + (x3.size : Int) + ((q4 : Nat) : Int) + ((q5 : Nat) : Int) + ((x6.length : Nat) : Int) ≤ l
            · have hl : left x6.length (l - (x2.size : Int) - (x3.size : Int) - (q4 : Nat) - (q5 : Nat)) = l - (x2.size : Int) - (x3.size : Int) - (q4 : Nat) - (q5 : Nat) - (x6.length : Nat) := by unfold left; rw [if_pos (by omega)]
              rw [hl]
              clear hl
              have t4 : decide (l - (x2.size : Int) - (x3.size : Int) - (q4 : Nat) - (q5 : Nat) - (x6.length : Nat) < 0) = false := by simp; omega
              go_wp2_with fail
              refine (K7 _ _ (by omega) (by omega) B5.out).mono ?_
              rintro e w6 ⟨rfl, hb⟩
              have B6 : Hid (Below w.heap.size w w6) := B5.out.trans (hb.mono B5.out.size)
              have z6 : w.heap.size < w6.heap.size := Nat.lt_of_lt_of_le z5 hb.size
              clear b5_10 z5
              clear hb K7
              by_cases h15 : (x2.size : Int) + (x3.size : Int) + ((q4 : Nat) : Int) + ((q5 : Nat) : Int) + ((x6.length : Nat) : Int) + ((q7 : Nat) : Int) ≤ l
              · have hl : left q7 (l - (x2.size : Int) - (x3.size : Int) - (q4 : Nat) - (q5 : Nat) - (x6.length : Nat)) = l - (x2.size : Int) - (x3.size : Int) - (q4 : Nat) - (q5 : Nat) - (x6.length : Nat) - (q7 : Nat) := by unfold left; rw [if_pos (by omega)]
                rw [hl]
                clear hl
                have t5 : decide (l - (x2.size : Int) - (x3.size : Int) - (q4 : Nat) - (q5 : Nat) - (x6.length : Nat) - (q7 : Nat) < 0) = false := by simp; omega
                have hr : left (x2.size + (x3.size + (q4 + (q5 + (x6.length + (q7)))))) l = l - (x2.size : Int) - (x3.size : Int) - (q4 : Nat) - (q5 : Nat) - (x6.length : Nat) - (q7 : Nat) := by unfold left; rw [if_pos (by omega)]; try omega
                go_wp2
                go_ret
                exact ⟨by first | rfl | (rw [hr]; rfl), B6.out⟩
              · have hl : left q7 (l - (x2.size : Int) - (x3.size : Int) - (q4 : Nat) - (q5 : Nat) - (x6.length : Nat)) = -1 := by unfold left; rw [if_neg (by omega)]
                have hr : left (x2.size + (x3.size + (q4 + (q5 + (x6.length + (q7)))))) l = -1 := by unfold left; rw [if_neg (by omega)]
                rw [hl]
                clear hl
                go_wp2
                go_ret
                exact ⟨by first | rfl | (rw [hr]; rfl), B6.out⟩
            · have hl : left x6.length (l - (x2.size : Int) - (x3.size : Int) - (q4 : Nat) - (q5 : Nat)) = -1 := by unfold left; rw [if_neg (by omega)]
              have hr : left (x2.size + (x3.size + (q4 + (q5 + (x6.length + (q7)))))) l = -1 := by unfold left; rw [if_neg (by omega)]
              rw [hl]
              clear hl
              go_wp2
              go_ret
              exact ⟨by first | rfl | (rw [hr]; rfl), B5.out⟩
          · have hl : left q5 (l - (x2.size : Int) - (x3.size : Int) - (q4 : Nat)) = -1 := by unfold left; rw [if_neg (by omega)]
            have hr : left (x2.size + (x3.size + (q4 + (q5 + (x6.length + (q7)))))) l = -1 := by unfold left; rw [if_neg (by omega)]
            rw [hl]
            clear hl
            go_wp2
            go_ret
            exact ⟨by first | rfl | (rw [hr]; rfl), B4.out⟩
        · have hl : left q4 (l - (x2.size : Int) - (x3.size : Int)) = -1 := by unfold left; rw [if_neg (by omega)]
          have hr : left (x2.size + (x3.size + (q4 + (q5 + (x6.length + (q7)))))) l = -1 := by unfold left; rw [if_neg (by omega)]
          rw [hl]
          clear hl
          go_wp2
          go_ret
          exact ⟨by first | rfl | (rw [hr]; rfl), B3.out⟩
      · have hr : left (x2.size + (x3.size + (q4 + (q5 + (x6.length + (q7)))))) l = -1 := by unfold left; rw [if_neg (by omega)]
        have t1 : decide (l - (x2.size : Int) - (x3.size : Int) < 0) = true := by simp; omega
        rw [hr]
        clear hr
        go_enter Try.func5, Try.ntmps5
        go_wp2
        go_ret
        exact ⟨rfl, ((Below.refl _ _).alloc (Nat.le_refl _) _)⟩
    · have hr : left (x2.size + (x3.size + (q4 + (q5 + (x6.length + (q7)))))) l = -1 := by unfold left; rw [if_neg (by omega)]
      have t0 : decide (l - (x2.size : Int) < 0) = true := by simp; omega
      rw [hr]
      clear hr
      go_enter Try.func5, Try.ntmps5
      go_wp2
      go_ret
      exact ⟨rfl, ((Below.refl _ _).alloc (Nat.le_refl _) _)⟩

theorem szS_any (ks : List TypedD) (v : Value) (w : World) (l : Int) (h0 : 0 ≤ l) (h1 : l ≤ 1048576) (h : typedSh.slice.rep w (· < w.heap.size) [v] ks) :
    Calls Try.prog 29 #[v, .int .i64 l] w fun e w' => e = .returned (.int .i64 (left (ks.length + wts ks) l)) ∧ Below w.heap.size w w' := szS_of ks (fun k _ => sz_any k) v w l h0 h1 h

end Go.Proofs.Ytklcjjckelahcaa.typed
