/-
  The law's comparison of two Typeds and of slices of them: of two that are the same it says true; nothing that was there is turned.
-/
import Derived.Test.YtklcjjckelahcaaTypedSz
import Derived.Test.YtklcjjckelahcaaTyEq
import Derived.Test.YtklcjjckelahcaaIntsEq
import Derived.Deep.RegionWith
namespace Go.Proofs.Ytklcjjckelahcaa.typed
open Go.RowKit Go.Proofs.Ytklcjjckelahcaa.rose Go.Proofs.Ytklcjjckelahcaa
set_option linter.unusedVariables false

def EqSays (T : TypedD) : Prop := ∀ cs1 cs2 w, typedSh.rep w (· < w.heap.size) cs1 T → typedSh.rep w (· < w.heap.size) cs2 T →
  Calls Try.prog 10 #[.agg cs1.toArray, .agg cs2.toArray] w fun e w' => e = .returned (.bool true) ∧ Below w.heap.size w w'

set_option maxHeartbeats 2000000 in
theorem eqS_of (ks : List TypedD) (ih : ∀ k ∈ ks, EqSays k) (v1 v2 : Value) (w : World) (h : typedSh.slice.rep w (· < w.heap.size) [v1] ks) (h' : typedSh.slice.rep w (· < w.heap.size) [v2] ks) :
    Calls Try.prog 36 #[v1, v2] w fun e w' => e = .returned (.bool true) ∧ Below w.heap.size w w' := by
  obtain ⟨a, cap, css, rfl, hcap, hmax, hrow, hk⟩ := typeds_open h
  obtain ⟨a', cap', css', rfl, hcap', hmax', hrow', hk'⟩ := typeds_open h'
  have hmx : (ks.length : Int) ≤ 9223372036854775807 := by unfold maxLen at hmax; omega
  clear h hcap hmax h' hcap' hmax'
  have IH : Hid (∀ k ∈ ks, EqSays k) := ih
  have HR : Hid (RowAt w (· < w.heap.size) 11 a ks.length css ∧ ∀ i (h : i < ks.length), typedSh.rep w (· < w.heap.size) (css i) ks[i]) := ⟨hrow, hk⟩
  have HR' : Hid (RowAt w (· < w.heap.size) 11 a' ks.length css' ∧ ∀ i (h : i < ks.length), typedSh.rep w (· < w.heap.size) (css' i) ks[i]) := ⟨hrow', hk'⟩
  clear ih hrow hk hrow' hk'
  go_enter Try.func36, Try.ntmps36
  go_wp2
  go_loopw [5] (fun v5 wr => ∃ i : Nat, i ≤ ks.length ∧ v5 = .int .i64 i ∧ Hid (Below w.heap.size w wr)) (fun v5 _ => ks.length - (intOf v5).toNat)
  case atStart => exact ⟨0, Nat.zero_le _, rfl, Below.refl _ _⟩
  case round =>
    obtain ⟨i, hi, rfl, HB⟩ := hrel
    by_cases hlt : i < ks.length
    · obtain ⟨b, o, rfl, hS, hc⟩ := HR.out.1 i hlt
      have hrep := HR.out.2 i hlt
      obtain ⟨v0, v1, v2, v3, v4, v5, v6, v7, v8, v9, v10, hcs, c0, c1, c2, c3, c4, c5, c6, c7, c8, c9, c10⟩ := typed_cells hrep hc
      have e0 := (HB.out.cell (p := ⟨b, o + i * 11, none⟩) hS).trans c0
      have e1 := (HB.out.cell (p := ⟨b, o + i * 11 + 1, none⟩) hS).trans c1
      have e2 := (HB.out.cell (p := ⟨b, o + i * 11 + 2, none⟩) hS).trans c2
      have e3 := (HB.out.cell (p := ⟨b, o + i * 11 + 3, none⟩) hS).trans c3
      have e4 := (HB.out.cell (p := ⟨b, o + i * 11 + 4, none⟩) hS).trans c4
      have e5 := (HB.out.cell (p := ⟨b, o + i * 11 + 5, none⟩) hS).trans c5
      have e6 := (HB.out.cell (p := ⟨b, o + i * 11 + 6, none⟩) hS).trans c6
      have e7 := (HB.out.cell (p := ⟨b, o + i * 11 + 7, none⟩) hS).trans c7
      have e8 := (HB.out.cell (p := ⟨b, o + i * 11 + 8, none⟩) hS).trans c8
      have e9 := (HB.out.cell (p := ⟨b, o + i * 11 + 9, none⟩) hS).trans c9
      have e10 := (HB.out.cell (p := ⟨b, o + i * 11 + 10, none⟩) hS).trans c10
      rw [hcs] at hrep
      clear c0 c1 c2 c3 c4 c5 c6 c7 c8 c9 c10 hc hcs
      obtain ⟨b', o', rfl, hS', hc⟩ := HR'.out.1 i hlt
      have hrep' := HR'.out.2 i hlt
      obtain ⟨v0', v1', v2', v3', v4', v5', v6', v7', v8', v9', v10', hcs, c0, c1, c2, c3, c4, c5, c6, c7, c8, c9, c10⟩ := typed_cells hrep' hc
      have e0' := (HB.out.cell (p := ⟨b', o' + i * 11, none⟩) hS').trans c0
      have e1' := (HB.out.cell (p := ⟨b', o' + i * 11 + 1, none⟩) hS').trans c1
      have e2' := (HB.out.cell (p := ⟨b', o' + i * 11 + 2, none⟩) hS').trans c2
      have e3' := (HB.out.cell (p := ⟨b', o' + i * 11 + 3, none⟩) hS').trans c3
      have e4' := (HB.out.cell (p := ⟨b', o' + i * 11 + 4, none⟩) hS').trans c4
      have e5' := (HB.out.cell (p := ⟨b', o' + i * 11 + 5, none⟩) hS').trans c5
      have e6' := (HB.out.cell (p := ⟨b', o' + i * 11 + 6, none⟩) hS').trans c6
      have e7' := (HB.out.cell (p := ⟨b', o' + i * 11 + 7, none⟩) hS').trans c7
      have e8' := (HB.out.cell (p := ⟨b', o' + i * 11 + 8, none⟩) hS').trans c8
      have e9' := (HB.out.cell (p := ⟨b', o' + i * 11 + 9, none⟩) hS').trans c9
      have e10' := (HB.out.cell (p := ⟨b', o' + i * 11 + 10, none⟩) hS').trans c10
      rw [hcs] at hrep'
      clear c0 c1 c2 c3 c4 c5 c6 c7 c8 c9 c10 hc hcs
      have hR := typedSh.mono (typedSh.below hrep HB.out) (S' := (· < wr.heap.size)) (fun b hb => Nat.lt_of_lt_of_le hb HB.out.size)
      have hR' := typedSh.mono (typedSh.below hrep' HB.out) (S' := (· < wr.heap.size)) (fun b hb => Nat.lt_of_lt_of_le hb HB.out.size)
      clear hrep hrep'
      have hcall := IH.out ks[i] (List.getElem_mem hlt) [v0, v1, v2, v3, v4, v5, v6, v7, v8, v9, v10] [v0', v1', v2', v3', v4', v5', v6', v7', v8', v9', v10'] wr.drew (typedSh.on hR fun _ _ => rfl) (typedSh.on hR' fun _ _ => rfl)
      clear hR hR'
      go_wp2
      go_region_with (go_at_call 10; refine hcall.mono ?_; rintro e w1 ⟨rfl, hb⟩)
      all_goals
        have B1 : Hid (Below w.heap.size w w1) := (HB.out.drew).trans (hb.mono HB.out.size)
        clear hb hcall HB
        go_wp2
        go_round
        case rel => exact ⟨i + 1, by omega, by go_num, B1⟩
        case measure => simp [intOf]; omega
    · obtain rfl : i = ks.length := by omega
      go_wp2
      go_ret
      exact ⟨rfl, HB.out⟩

set_option maxHeartbeats 1000000 in
theorem eq_any (T : TypedD) : EqSays T := by
  induction T using ind with
  | h x x7 ih =>
    intro cs1 cs2 w h h'
    obtain ⟨x0, x1, x2, x3, x4, u4_0, u4_1, u4_2, u4_3, x5, a5, c5, x6, a6, c6, x7k, a7, c7, hT, rfl, f0, f1, f2, f3, f4, f5, f6, f7⟩ := typed_open h
    cases hT
    obtain ⟨x0', x1', x2', x3', x4', u4_0', u4_1', u4_2', u4_3', x5', a5', c5', x6', a6', c6', x7', a7', c7', hT, rfl, g0, g1, g2, g3, g4, g5, g6, g7⟩ := typed_open h'
    cases hT
    have ou4_0 := ty.tySh.one f4 u4_0 (by simp)
    have ou4_1 := ty.tySh.one f4 u4_1 (by simp)
    have ou4_2 := ty.tySh.one f4 u4_2 (by simp)
    have ou4_3 := ty.tySh.one f4 u4_3 (by simp)
    have ou4_0' := ty.tySh.one g4 u4_0' (by simp)
    have ou4_1' := ty.tySh.one g4 u4_1' (by simp)
    have ou4_2' := ty.tySh.one g4 u4_2' (by simp)
    have ou4_3' := ty.tySh.one g4 u4_3' (by simp)
    clear h h'
    have K4 : ∀ (w' : World), Below w.heap.size w w' → Calls Try.prog 22 #[.agg #[u4_0, u4_1, u4_2, u4_3], .agg #[u4_0', u4_1', u4_2', u4_3']] w' fun e w'' => e = .returned (.bool true) ∧ Below w'.heap.size w' w'' :=
      fun w' hb => ty.eq_any x4 _ _ w' (ty.tySh.mono (ty.tySh.below f4 hb) fun b hlt => Nat.lt_of_lt_of_le hlt hb.size) (ty.tySh.mono (ty.tySh.below g4 hb) fun b hlt => Nat.lt_of_lt_of_le hlt hb.size)
    have K5 : ∀ (w' : World), Below w.heap.size w w' → Calls Try.prog 35 #[.slice a5 x5.length c5, .slice a5' x5.length c5'] w' fun e w'' => e = .returned (.bool true) ∧ Below w'.heap.size w' w'' :=
      fun w' hb => ty.eqS_any x5 _ _ w' (ty.tySh.slice.mono (ty.tySh.slice.below f5 hb) fun b hlt => Nat.lt_of_lt_of_le hlt hb.size) (ty.tySh.slice.mono (ty.tySh.slice.below g5 hb) fun b hlt => Nat.lt_of_lt_of_le hlt hb.size)
    have K6 : ∀ (w' : World), Below w.heap.size w w' → Calls Try.prog 20 #[.slice a6 x6.length c6, .slice a6' x6.length c6'] w' fun e w'' => e = .returned (.bool true) ∧ Below w'.heap.size w' w'' :=
      fun w' hb => ints.eqS_any x6 _ _ w' (Sh.int.slice.mono (Sh.int.slice.below f6 hb) fun b hlt => Nat.lt_of_lt_of_le hlt hb.size) (Sh.int.slice.mono (Sh.int.slice.below g6 hb) fun b hlt => Nat.lt_of_lt_of_le hlt hb.size)
    have K7 : ∀ (w' : World), Below w.heap.size w w' → Calls Try.prog 36 #[.slice a7 x7.length c7, .slice a7' x7.length c7'] w' fun e w'' => e = .returned (.bool true) ∧ Below w'.heap.size w' w'' :=
      fun w' hb => eqS_of x7 ih _ _ w' (typedSh.slice.mono (typedSh.slice.below f7 hb) fun b hlt => Nat.lt_of_lt_of_le hlt hb.size) (typedSh.slice.mono (typedSh.slice.below g7 hb) fun b hlt => Nat.lt_of_lt_of_le hlt hb.size)
    clear ih f4 g4 f5 g5 f6 g6 f7 g7
    go_enter Try.func10, Try.ntmps10
    go_wp2_with fail
    refine (K4 _ (((Below.refl _ _).alloc (Nat.le_refl _) _).alloc (by simp) _)).mono ?_
    rintro e w1 ⟨rfl, hb⟩
    have B1 : Hid (Below w.heap.size w w1) := (((Below.refl _ _).alloc (Nat.le_refl _) _).alloc (by simp) _).trans (hb.mono (by simp; omega))
    have z1 : w.heap.size + 2 ≤ w1.heap.size := Nat.le_trans (by simp) hb.size
    have ba1_8 : w1.cell? ⟨w.heap.size, 8, none⟩ = some (.slice a5 x5.length c5) := (hb.cell (p := ⟨w.heap.size, 8, none⟩) (by simp; omega)).trans (by simp)
    have bb1_8 : w1.cell? ⟨w.heap.size + 1, 8, none⟩ = some (.slice a5' x5.length c5') := (hb.cell (p := ⟨w.heap.size + 1, 8, none⟩) (by simp)).trans (by simp)
    have ba1_9 : w1.cell? ⟨w.heap.size, 9, none⟩ = some (.slice a6 x6.length c6) := (hb.cell (p := ⟨w.heap.size, 9, none⟩) (by simp; omega)).trans (by simp)
    have bb1_9 : w1.cell? ⟨w.heap.size + 1, 9, none⟩ = some (.slice a6' x6.length c6') := (hb.cell (p := ⟨w.heap.size + 1, 9, none⟩) (by simp)).trans (by simp)
    have ba1_10 : w1.cell? ⟨w.heap.size, 10, none⟩ = some (.slice a7 x7.length c7) := (hb.cell (p := ⟨w.heap.size, 10, none⟩) (by simp; omega)).trans (by simp)
    have bb1_10 : w1.cell? ⟨w.heap.size + 1, 10, none⟩ = some (.slice a7' x7.length c7') := (hb.cell (p := ⟨w.heap.size + 1, 10, none⟩) (by simp)).trans (by simp)
    clear hb K4
    go_wp2_with fail
    refine (K5 _ B1.out).mono ?_
    rintro e w2 ⟨rfl, hb⟩
    have B2 : Hid (Below w.heap.size w w2) := B1.out.trans (hb.mono B1.out.size)
    have z2 : w.heap.size + 2 ≤ w2.heap.size := Nat.le_trans z1 hb.size
    have ba2_9 : w2.cell? ⟨w.heap.size, 9, none⟩ = some (.slice a6 x6.length c6) := (hb.cell (p := ⟨w.heap.size, 9, none⟩) (by simp; omega)).trans ba1_9
    have bb2_9 : w2.cell? ⟨w.heap.size + 1, 9, none⟩ = some (.slice a6' x6.length c6') := (hb.cell (p := ⟨w.heap.size + 1, 9, none⟩) (by simp; omega)).trans bb1_9
    have ba2_10 : w2.cell? ⟨w.heap.size, 10, none⟩ = some (.slice a7 x7.length c7) := (hb.cell (p := ⟨w.heap.size, 10, none⟩) (by simp; omega)).trans ba1_10
    have bb2_10 : w2.cell? ⟨w.heap.size + 1, 10, none⟩ = some (.slice a7' x7.length c7') := (hb.cell (p := ⟨w.heap.size + 1, 10, none⟩) (by simp; omega)).trans bb1_10
    clear ba1_8 bb1_8 ba1_9 bb1_9 ba1_10 bb1_10 z1 B1
    clear hb K5
    go_wp2_with fail
    refine (K6 _ B2.out).mono ?_
    rintro e w3 ⟨rfl, hb⟩
    have B3 : Hid (Below w.heap.size w w3) := B2.out.trans (hb.mono B2.out.size)
    have z3 : w.heap.size + 2 ≤ w3.heap.size := Nat.le_trans z2 hb.size
    have ba3_10 : w3.cell? ⟨w.heap.size, 10, none⟩ = some (.slice a7 x7.length c7) := (hb.cell (p := ⟨w.heap.size, 10, none⟩) (by simp; omega)).trans ba2_10
    have bb3_10 : w3.cell? ⟨w.heap.size + 1, 10, none⟩ = some (.slice a7' x7.length c7') := (hb.cell (p := ⟨w.heap.size + 1, 10, none⟩) (by simp; omega)).trans bb2_10
    clear ba2_9 bb2_9 ba2_10 bb2_10 z2 B2
    clear hb K6
    go_wp2_with fail
    refine (K7 _ B3.out).mono ?_
    rintro e w4 ⟨rfl, hb⟩
    have B4 : Hid (Below w.heap.size w w4) := B3.out.trans (hb.mono B3.out.size)
    have z4 : w.heap.size + 2 ≤ w4.heap.size := Nat.le_trans z3 hb.size
    clear ba3_10 bb3_10 z3 B3
    clear hb K7
    go_wp2
    go_ret
    exact ⟨rfl, B4.out⟩

theorem eqS_any (ks : List TypedD) (v1 v2 : Value) (w : World) (h : typedSh.slice.rep w (· < w.heap.size) [v1] ks) (h' : typedSh.slice.rep w (· < w.heap.size) [v2] ks) :
    Calls Try.prog 36 #[v1, v2] w fun e w' => e = .returned (.bool true) ∧ Below w.heap.size w w' := eqS_of ks (fun k _ => eq_any k) v1 v2 w h h'

end Go.Proofs.Ytklcjjckelahcaa.typed
