/-
  The law's comparison of two Values and of slices of them: of two that are the same it says true; nothing that was there is turned.
-/
import Derived.Test.YtdfpihnddclccaaValueSz
import Derived.Deep.RegionWith
namespace Go.Proofs.Ytdfpihnddclccaa.value
open Go.RowKit Go.Proofs.Ytdfpihnddclccaa.rose Go.Proofs.Ytdfpihnddclccaa
set_option linter.unusedVariables false

def EqSays (T : ValueD) : Prop := ∀ cs1 cs2 w, valueSh.rep w (· < w.heap.size) cs1 T → valueSh.rep w (· < w.heap.size) cs2 T →
  Calls Try.prog 9 #[.agg cs1.toArray, .agg cs2.toArray] w fun e w' => e = .returned (.bool true) ∧ Below w.heap.size w w'

set_option maxHeartbeats 2000000 in
theorem eqS_of (ks : List ValueD) (ih : ∀ k ∈ ks, EqSays k) (v1 v2 : Value) (w : World) (h : valueSh.slice.rep w (· < w.heap.size) [v1] ks) (h' : valueSh.slice.rep w (· < w.heap.size) [v2] ks) :
    Calls Try.prog 19 #[v1, v2] w fun e w' => e = .returned (.bool true) ∧ Below w.heap.size w w' := by
  obtain ⟨a, cap, css, rfl, hcap, hmax, hrow, hk⟩ := values_open h
  obtain ⟨a', cap', css', rfl, hcap', hmax', hrow', hk'⟩ := values_open h'
  have hmx : (ks.length : Int) ≤ 9223372036854775807 := by unfold maxLen at hmax; omega
  clear h hcap hmax h' hcap' hmax'
  have IH : Hid (∀ k ∈ ks, EqSays k) := ih
  have HR : Hid (RowAt w (· < w.heap.size) 4 a ks.length css ∧ ∀ i (h : i < ks.length), valueSh.rep w (· < w.heap.size) (css i) ks[i]) := ⟨hrow, hk⟩
  have HR' : Hid (RowAt w (· < w.heap.size) 4 a' ks.length css' ∧ ∀ i (h : i < ks.length), valueSh.rep w (· < w.heap.size) (css' i) ks[i]) := ⟨hrow', hk'⟩
  clear ih hrow hk hrow' hk'
  go_enter Try.func19, Try.ntmps19
  go_wp2
  go_loopw [5] (fun v5 wr => ∃ i : Nat, i ≤ ks.length ∧ v5 = .int .i64 i ∧ Hid (Below w.heap.size w wr)) (fun v5 _ => ks.length - (intOf v5).toNat)
  case atStart => exact ⟨0, Nat.zero_le _, rfl, Below.refl _ _⟩
  case round =>
    obtain ⟨i, hi, rfl, HB⟩ := hrel
    by_cases hlt : i < ks.length
    · obtain ⟨b, o, rfl, hS, hc⟩ := HR.out.1 i hlt
      have hrep := HR.out.2 i hlt
      obtain ⟨v0, v1, v2, v3, hcs, c0, c1, c2, c3⟩ := value_cells hrep hc
      have e0 := (HB.out.cell (p := ⟨b, o + i * 4, none⟩) hS).trans c0
      have e1 := (HB.out.cell (p := ⟨b, o + i * 4 + 1, none⟩) hS).trans c1
      have e2 := (HB.out.cell (p := ⟨b, o + i * 4 + 2, none⟩) hS).trans c2
      have e3 := (HB.out.cell (p := ⟨b, o + i * 4 + 3, none⟩) hS).trans c3
      rw [hcs] at hrep
      clear c0 c1 c2 c3 hc hcs
      obtain ⟨b', o', rfl, hS', hc⟩ := HR'.out.1 i hlt
      have hrep' := HR'.out.2 i hlt
      obtain ⟨v0', v1', v2', v3', hcs, c0, c1, c2, c3⟩ := value_cells hrep' hc
      have e0' := (HB.out.cell (p := ⟨b', o' + i * 4, none⟩) hS').trans c0
      have e1' := (HB.out.cell (p := ⟨b', o' + i * 4 + 1, none⟩) hS').trans c1
      have e2' := (HB.out.cell (p := ⟨b', o' + i * 4 + 2, none⟩) hS').trans c2
      have e3' := (HB.out.cell (p := ⟨b', o' + i * 4 + 3, none⟩) hS').trans c3
      rw [hcs] at hrep'
      clear c0 c1 c2 c3 hc hcs
      have hR := valueSh.mono (valueSh.below hrep HB.out) (S' := (· < wr.heap.size)) (fun b hb => Nat.lt_of_lt_of_le hb HB.out.size)
      have hR' := valueSh.mono (valueSh.below hrep' HB.out) (S' := (· < wr.heap.size)) (fun b hb => Nat.lt_of_lt_of_le hb HB.out.size)
      clear hrep hrep'
      have hcall := IH.out ks[i] (List.getElem_mem hlt) [v0, v1, v2, v3] [v0', v1', v2', v3'] wr.drew (valueSh.on hR fun _ _ => rfl) (valueSh.on hR' fun _ _ => rfl)
      clear hR hR'
      go_wp2
      go_region_with (go_at_call 9; refine hcall.mono ?_; rintro e w1 ⟨rfl, hb⟩)
      all_goals
        have B1 : Hid (Below w.heap.size w w1) := (HB.out.drew).trans (hb.mono HB.out.size)
        clear hb hcall HB
        go_wp2
        go_round
        case rel => exact ⟨i + 1, by omega, by go_num, B1⟩
        case measure => simp [intOf]; omega
    · obtain rfl : i = ks.length := by omega
      go_wp2
      go_ret
      exact ⟨rfl, HB.out⟩

set_option maxHeartbeats 1000000 in
theorem eq_any (T : ValueD) : EqSays T := by
  induction T using ind with
  | h x x3 ih =>
    intro cs1 cs2 w h h'
    obtain ⟨x0, x1, x2, x3k, a3, c3, hT, rfl, f0, f1, f2, f3⟩ := value_open h
    cases hT
    obtain ⟨x0', x1', x2', x3', a3', c3', hT, rfl, g0, g1, g2, g3⟩ := value_open h'
    cases hT
    clear h h'
    have K3 : ∀ (w' : World), Below w.heap.size w w' → Calls Try.prog 19 #[.slice a3 x3.length c3, .slice a3' x3.length c3'] w' fun e w'' => e = .returned (.bool true) ∧ Below w'.heap.size w' w'' :=
      fun w' hb => eqS_of x3 ih _ _ w' (valueSh.slice.mono (valueSh.slice.below f3 hb) fun b hlt => Nat.lt_of_lt_of_le hlt hb.size) (valueSh.slice.mono (valueSh.slice.below g3 hb) fun b hlt => Nat.lt_of_lt_of_le hlt hb.size)
    clear ih f3 g3
    go_enter Try.func9, Try.ntmps9
    go_wp2_with fail
    refine (K3 _ (((Below.refl _ _).alloc (Nat.le_refl _) _).alloc (by simp) _)).mono ?_
    rintro e w1 ⟨rfl, hb⟩
    have B1 : Hid (Below w.heap.size w w1) := (((Below.refl _ _).alloc (Nat.le_refl _) _).alloc (by simp) _).trans (hb.mono (by simp; omega))
    have z1 : w.heap.size + 2 ≤ w1.heap.size := Nat.le_trans (by simp) hb.size
    clear hb K3
    go_wp2
    go_ret
    exact ⟨rfl, B1.out⟩

theorem eqS_any (ks : List ValueD) (v1 v2 : Value) (w : World) (h : valueSh.slice.rep w (· < w.heap.size) [v1] ks) (h' : valueSh.slice.rep w (· < w.heap.size) [v2] ks) :
    Calls Try.prog 19 #[v1, v2] w fun e w' => e = .returned (.bool true) ∧ Below w.heap.size w w' := eqS_of ks (fun k _ => eq_any k) v1 v2 w h h'

end Go.Proofs.Ytdfpihnddclccaa.value
