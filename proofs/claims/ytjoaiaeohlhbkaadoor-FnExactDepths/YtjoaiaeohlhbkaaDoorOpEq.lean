/-
  The law's comparison of two Ops and of slices of them: of two that are the same it says true; nothing that was there is turned.
-/
import Derived.Test.YtjoaiaeohlhbkaaDoorOpSz
import Derived.Deep.RegionWith
namespace Go.Proofs.YtjoaiaeohlhbkaaDoor.op
open Go.RowKit Go.Proofs.YtjoaiaeohlhbkaaDoor.rose Go.Proofs.YtjoaiaeohlhbkaaDoor
set_option linter.unusedVariables false

def EqSays (T : OpD) : Prop := ∀ cs1 cs2 w, opSh.rep w (· < w.heap.size) cs1 T → opSh.rep w (· < w.heap.size) cs2 T →
  Calls Tryd.prog 42 #[.agg cs1.toArray, .agg cs2.toArray] w fun e w' => e = .returned (.bool true) ∧ Below w.heap.size w w'

set_option maxHeartbeats 1000000 in
theorem eq_any (T : OpD) : EqSays T := by
  intro cs1 cs2 w h h'
  obtain ⟨x0, x1, x2, rfl, rfl, f0, f1, f2⟩ := op_open h
  obtain ⟨x0', x1', x2', hT, rfl, g0, g1, g2⟩ := op_open h'
  cases hT
  clear h h'
  go_enter Tryd.func42, Tryd.ntmps42
  go_wp2
  go_ret
  exact ⟨rfl, (((Below.refl _ _).alloc (Nat.le_refl _) _).alloc (by simp) _)⟩

set_option maxHeartbeats 2000000 in
theorem eqS_of (ks : List OpD) (ih : ∀ k ∈ ks, EqSays k) (v1 v2 : Value) (w : World) (h : opSh.slice.rep w (· < w.heap.size) [v1] ks) (h' : opSh.slice.rep w (· < w.heap.size) [v2] ks) :
    Calls Tryd.prog 31 #[v1, v2] w fun e w' => e = .returned (.bool true) ∧ Below w.heap.size w w' := by
  obtain ⟨a, cap, css, rfl, hcap, hmax, hrow, hk⟩ := ops_open h
  obtain ⟨a', cap', css', rfl, hcap', hmax', hrow', hk'⟩ := ops_open h'
  have hmx : (ks.length : Int) ≤ 9223372036854775807 := by unfold maxLen at hmax; omega
  clear h hcap hmax h' hcap' hmax'
  have IH : Hid (∀ k ∈ ks, EqSays k) := ih
  have HR : Hid (RowAt w (· < w.heap.size) 3 a ks.length css ∧ ∀ i (h : i < ks.length), opSh.rep w (· < w.heap.size) (css i) ks[i]) := ⟨hrow, hk⟩
  have HR' : Hid (RowAt w (· < w.heap.size) 3 a' ks.length css' ∧ ∀ i (h : i < ks.length), opSh.rep w (· < w.heap.size) (css' i) ks[i]) := ⟨hrow', hk'⟩
  clear ih hrow hk hrow' hk'
  go_enter Tryd.func31, Tryd.ntmps31
  go_wp2
  go_loopw [5] (fun v5 wr => ∃ i : Nat, i ≤ ks.length ∧ v5 = .int .i64 i ∧ Hid (Below w.heap.size w wr)) (fun v5 _ => ks.length - (intOf v5).toNat)
  case atStart => exact ⟨0, Nat.zero_le _, rfl, Below.refl _ _⟩
  case round =>
    obtain ⟨i, hi, rfl, HB⟩ := hrel
    by_cases hlt : i < ks.length
    · obtain ⟨b, o, rfl, hS, hc⟩ := HR.out.1 i hlt
      have hrep := HR.out.2 i hlt
      obtain ⟨v0, v1, v2, hcs, c0, c1, c2⟩ := op_cells hrep hc
      have e0 := (HB.out.cell (p := ⟨b, o + i * 3, none⟩) hS).trans c0
      have e1 := (HB.out.cell (p := ⟨b, o + i * 3 + 1, none⟩) hS).trans c1
      have e2 := (HB.out.cell (p := ⟨b, o + i * 3 + 2, none⟩) hS).trans c2
      rw [hcs] at hrep
      clear c0 c1 c2 hc hcs
      obtain ⟨b', o', rfl, hS', hc⟩ := HR'.out.1 i hlt
      have hrep' := HR'.out.2 i hlt
      obtain ⟨v0', v1', v2', hcs, c0, c1, c2⟩ := op_cells hrep' hc
      have e0' := (HB.out.cell (p := ⟨b', o' + i * 3, none⟩) hS').trans c0
      have e1' := (HB.out.cell (p := ⟨b', o' + i * 3 + 1, none⟩) hS').trans c1
      have e2' := (HB.out.cell (p := ⟨b', o' + i * 3 + 2, none⟩) hS').trans c2
      rw [hcs] at hrep'
      clear c0 c1 c2 hc hcs
      have hR := opSh.mono (opSh.below hrep HB.out) (S' := (· < wr.heap.size)) (fun b hb => Nat.lt_of_lt_of_le hb HB.out.size)
      have hR' := opSh.mono (opSh.below hrep' HB.out) (S' := (· < wr.heap.size)) (fun b hb => Nat.lt_of_lt_of_le hb HB.out.size)
      clear hrep hrep'
      have hcall := IH.out ks[i] (List.getElem_mem hlt) [v0, v1, v2] [v0', v1', v2'] wr.drew (opSh.on hR fun _ _ => rfl) (opSh.on hR' fun _ _ => rfl)
      clear hR hR'
      go_wp2
      go_region_with (go_at_call 42; refine hcall.mono ?_; rintro e w1 ⟨rfl, hb⟩)
      all_goals
        have B1 : Hid (Below w.heap.size w w1) := (HB.out.drew).trans (hb.mono HB.out.size)
        clear hb hcall HB
        go_wp2
        go_round
        case rel => exact ⟨i + 1, by omega, by go_num, B1⟩
        case measure => simp [intOf]; omega
    · obtain rfl : i = ks.length := by omega
      go_wp2
      go_ret
      exact ⟨rfl, HB.out⟩

theorem eqS_any (ks : List OpD) (v1 v2 : Value) (w : World) (h : opSh.slice.rep w (· < w.heap.size) [v1] ks) (h' : opSh.slice.rep w (· < w.heap.size) [v2] ks) :
    Calls Tryd.prog 31 #[v1, v2] w fun e w' => e = .returned (.bool true) ∧ Below w.heap.size w w' := eqS_of ks (fun k _ => eq_any k) v1 v2 w h h'

end Go.Proofs.YtjoaiaeohlhbkaaDoor.op
