/-
  The model's Fits, at every pattern and value: whether one fits the other; nothing that was there is turned.
-/
import Derived.Test.YtogjpdhhidkljaaFitsDefs
import Derived.Deep.RegionWith
import Derived.Laws.Strings
namespace Go.Proofs.Ytogjpdhhidkljaa.fits
open Go Go.RowKit Go.Proofs.Ytogjpdhhidkljaa.rose Go.Proofs.Ytogjpdhhidkljaa
set_option linter.unusedVariables false
set_option linter.unusedSimpArgs false

def FitSays (T : Nd) : Prop := ∀ V cs1 cs2 w, ndSh.rep w (· < w.heap.size) cs1 T → valueSh.rep w (· < w.heap.size) cs2 V →
  Calls Try.prog 7 #[.agg cs1.toArray, .agg cs2.toArray] w fun e w' => e = .returned (.bool (fitsB T V)) ∧ Below w.heap.size w w'

set_option maxRecDepth 100000 in
set_option maxHeartbeats 4000000 in
theorem specFits (T : Nd) : FitSays T := by
  induction T using ind with
  | h x ks ih =>
    intro V cs1 cs2 w h h'
    obtain ⟨x0, x1, x2, x3, a4, c4, ksk, hT, rfl, -, -, f4⟩ := node.nd_open h
    cases hT
    obtain ⟨y0, y1, y2, vs, a3', c3', rfl, rfl, g0, g1, g2, g3⟩ := value.value_open h'
    clear h h' g0 g1 g2
    obtain ⟨a, cap, css, e, hcap, hmax, hrow, hk⟩ := node.nds_open f4
    cases e
    obtain ⟨a', cap', css', e, hcap', hmax', hrow', hk'⟩ := value.values_open g3
    cases e
    have hmx : (ks.length : Int) ≤ 9223372036854775807 := by unfold maxLen at hmax; omega
    have B0 : Hid (Below w.heap.size w ((w.alloc (.cells #[.int .i64 x0, .int .i64 x1, .string x2, .string x3, .slice a4 ks.length c4] 33)).alloc (.cells #[.int .i64 y0, .int .i64 y1, .string y2, .slice a3' vs.length c3'] 37))) := ((Below.refl _ _).alloc (Nat.le_refl _) _).alloc (by simp) _
    clear f4 g3 hcap hmax hcap' hmax'
    by_cases h17 : x0 = 17
    · subst h17
      have R : Hid (fitsB (.mk (17, x1, x2, x3) ks) (.mk (y0, y1, y2) vs) = true) := fitsB_true (fitsP_iff.2 (.inl rfl))
      clear hrow hk hrow' hk' ih
      go_enter Try.func7, Try.ntmps7
      go_wp2
      go_ret
      exact ⟨ret_b R.out.symm, B0.out⟩
    by_cases h18 : x0 = 18
    · subst h18
      have R : Hid (fitsB (.mk (18, x1, x2, x3) ks) (.mk (y0, y1, y2) vs) = true) := fitsB_true (fitsP_iff.2 (.inr (.inl rfl)))
      clear hrow hk hrow' hk' ih h17
      go_enter Try.func7, Try.ntmps7
      go_wp2
      go_ret
      exact ⟨ret_b R.out.symm, B0.out⟩
    by_cases h19 : x0 = 19
    · subst h19
      clear hrow hk hrow' hk' ih h17 h18
      by_cases e0 : y0 = 1
      · subst e0
        have R : Hid (fitsB (.mk (19, x1, x2, x3) ks) (.mk (1, y1, y2) vs) = (y1 == x1)) := by
          by_cases e1 : y1 = x1
          · rw [show (y1 == x1) = true by simpa using e1]
            exact fitsB_true (fitsP_iff.2 (.inr (.inr (.inl ⟨rfl, rfl, e1⟩))))
          · rw [show (y1 == x1) = false by simpa using e1]
            exact fitsB_false fun q => by
              have := fitsP_iff.1 q
              simp at this
              exact e1 this
        go_enter Try.func7, Try.ntmps7
        go_wp2
        go_ret
        exact ⟨ret_b R.out.symm, B0.out⟩
      · have R : Hid (fitsB (.mk (19, x1, x2, x3) ks) (.mk (y0, y1, y2) vs) = false) := fitsB_false fun q => by
          have := fitsP_iff.1 q
          simp at this
          exact e0 this.1
        go_enter Try.func7, Try.ntmps7
        go_wp2
        go_ret
        exact ⟨ret_b R.out.symm, B0.out⟩
    by_cases h20 : x0 = 20
    case neg =>
      have R : Hid (fitsB (.mk (x0, x1, x2, x3) ks) (.mk (y0, y1, y2) vs) = false) := fitsB_false fun q => by
        have := fitsP_iff.1 q
        simp [h17, h18, h19, h20] at this
      clear hrow hk hrow' hk' ih
      go_enter Try.func7, Try.ntmps7
      go_wp2
      go_ret
      exact ⟨ret_b R.out.symm, B0.out⟩
    subst h20
    clear h17 h18 h19
    by_cases e0 : y0 = 2
    case neg =>
      have R : Hid (fitsB (.mk (20, x1, x2, x3) ks) (.mk (y0, y1, y2) vs) = false) := fitsB_false fun q => by
        have := fitsP_iff.1 q
        simp at this
        exact e0 this.1
      clear hrow hk hrow' hk' ih
      go_enter Try.func7, Try.ntmps7
      go_wp2
      go_ret
      exact ⟨ret_b R.out.symm, B0.out⟩
    subst e0
    by_cases e2 : y2 = x2
    case neg =>
      have R : Hid (fitsB (.mk (20, x1, x2, x3) ks) (.mk (2, y1, y2) vs) = false) := fitsB_false fun q => by
        have := fitsP_iff.1 q
        simp at this
        exact e2 this.1
      have q2 : (y2.toList == x2.toList) = false := by simpa using fun e => e2 (bytes_ext e)
      clear hrow hk hrow' hk' ih e2
      go_enter Try.func7, Try.ntmps7
      go_wp2
      go_ret
      exact ⟨ret_b R.out.symm, B0.out⟩
    subst e2
    by_cases h3 : vs.length = ks.length
    case neg =>
      have R : Hid (fitsB (.mk (20, x1, y2, x3) ks) (.mk (2, y1, y2) vs) = false) := fitsB_false fun q => by
        have := fitsP_iff.1 q
        simp at this
        exact h3 this.1
      have q3 : ((vs.length : Int) == (ks.length : Int)) = false := by simp; omega
      have q4 : ¬ (vs.length : Int) = (ks.length : Int) := by omega
      clear hrow hk hrow' hk' ih h3
      go_enter Try.func7, Try.ntmps7
      go_wp2
      go_ret
      exact ⟨ret_b R.out.symm, B0.out⟩
    have IH : Hid (∀ k ∈ ks, FitSays k) := ih
    have HR : Hid (RowAt w (· < w.heap.size) 5 a4 ks.length css ∧ ∀ i (h : i < ks.length), ndSh.rep w (· < w.heap.size) (css i) ks[i]) := ⟨hrow, hk⟩
    have HR' : Hid (RowAt w (· < w.heap.size) 4 a3' vs.length css' ∧ ∀ i (h : i < vs.length), valueSh.rep w (· < w.heap.size) (css' i) vs[i]) := ⟨hrow', hk'⟩
    have HL : Hid (ks.length = vs.length) := h3.symm
    rw [h3] at B0 ⊢
    clear hrow hk hrow' hk' ih h3
    go_enter Try.func7, Try.ntmps7
    go_wp2
    obtain ⟨w0, hw0⟩ : ∃ w0, w0 = (w.alloc (.cells #[.int .i64 20, .int .i64 x1, .string y2, .string x3, .slice a4 ks.length c4] 33)).alloc (.cells #[.int .i64 2, .int .i64 y1, .string y2, .slice a3' ks.length c3'] 37) := ⟨_, rfl⟩
    rw [← hw0] at B0 ⊢
    have T1 : Hid (w0.cell? ⟨w.heap.size, 4, none⟩ = some (.slice a4 ks.length c4)) := by show _ = _; rw [hw0]; simp
    have T2 : Hid (w0.cell? ⟨w.heap.size + 1, 3, none⟩ = some (.slice a3' ks.length c3')) := by show _ = _; rw [hw0]; simp
    have Z0 : Hid (w0.heap.size = w.heap.size + 2) := by show _ = _; rw [hw0]; simp
    clear hw0
    go_loopw [5] (fun v5 wr => ∃ i : Nat, i ≤ ks.length ∧ v5 = .int .i64 i ∧ Hid (Below w0.heap.size w0 wr ∧ ∀ j (h : j < ks.length) (h' : j < vs.length), j < i → FitsP ks[j] vs[j])) (fun v5 _ => ks.length - (intOf v5).toNat)
    case atStart => exact ⟨0, Nat.zero_le _, rfl, Below.refl _ _, fun j _ _ hj => absurd hj (Nat.not_lt_zero _)⟩
    case round =>
      obtain ⟨i, hi, rfl, HB⟩ := hrel
      have d1 : wr.cell? ⟨w.heap.size, 4, none⟩ = some (.slice a4 ks.length c4) := (HB.out.1.cell (p := ⟨w.heap.size, 4, none⟩) (by simp [Z0.out])).trans T1.out
      have d2 : wr.cell? ⟨w.heap.size + 1, 3, none⟩ = some (.slice a3' ks.length c3') := (HB.out.1.cell (p := ⟨w.heap.size + 1, 3, none⟩) (by simp [Z0.out])).trans T2.out
      by_cases hlt : i < ks.length
      · have BW : Below w.heap.size w wr := B0.out.trans (HB.out.1.mono (by rw [Z0.out]; omega))
        obtain ⟨b, o, rfl, hS, hc⟩ := HR.out.1 i hlt
        have hrep := HR.out.2 i hlt
        obtain ⟨v0, v1, v2, v3, v4, hcs, c0, c1, c2, c3, c4⟩ := node.nd_cells hrep hc
        have e0 := (BW.cell (p := ⟨b, o + i * 5, none⟩) hS).trans c0
        have e1 := (BW.cell (p := ⟨b, o + i * 5 + 1, none⟩) hS).trans c1
        have e2 := (BW.cell (p := ⟨b, o + i * 5 + 2, none⟩) hS).trans c2
        have e3 := (BW.cell (p := ⟨b, o + i * 5 + 3, none⟩) hS).trans c3
        have e4 := (BW.cell (p := ⟨b, o + i * 5 + 4, none⟩) hS).trans c4
        rw [hcs] at hrep
        clear c0 c1 c2 c3 c4 hc hcs
        have hlt' : i < vs.length := by rw [← HL.out]; exact hlt
        obtain ⟨b', o', rfl, hS', hc⟩ := HR'.out.1 i hlt'
        have hrep' := HR'.out.2 i hlt'
        obtain ⟨v0', v1', v2', v3', hcs, c0, c1, c2, c3⟩ := value.value_cells hrep' hc
        have e0' := (BW.cell (p := ⟨b', o' + i * 4, none⟩) hS').trans c0
        have e1' := (BW.cell (p := ⟨b', o' + i * 4 + 1, none⟩) hS').trans c1
        have e2' := (BW.cell (p := ⟨b', o' + i * 4 + 2, none⟩) hS').trans c2
        have e3' := (BW.cell (p := ⟨b', o' + i * 4 + 3, none⟩) hS').trans c3
        rw [hcs] at hrep'
        clear c0 c1 c2 c3 hc hcs
        have hR := ndSh.mono (ndSh.below hrep BW) (S' := (· < wr.heap.size)) (fun b hb => Nat.lt_of_lt_of_le hb BW.size)
        have hR' := valueSh.mono (valueSh.below hrep' BW) (S' := (· < wr.heap.size)) (fun b hb => Nat.lt_of_lt_of_le hb BW.size)
        clear hrep hrep' BW
        have hcall := IH.out ks[i] (List.getElem_mem hlt) vs[i] [v0, v1, v2, v3, v4] [v0', v1', v2', v3'] wr.drew (ndSh.on hR fun _ _ => rfl) (valueSh.on hR' fun _ _ => rfl)
        clear hR hR'
        obtain ⟨r, hr⟩ : ∃ r, r = fitsB ks[i] vs[i] := ⟨_, rfl⟩
        rw [← hr] at hcall
        have QR : Hid (r = fitsB ks[i] vs[i]) := hr
        clear hr
        go_wp2
        go_region_with (go_at_call 7; refine hcall.mono ?_; rintro e w1 ⟨rfl, hb⟩)
        all_goals
          have B1 : Hid (Below w0.heap.size w0 w1) := (HB.out.1.drew).trans (hb.mono HB.out.1.size)
          clear hb hcall d1 d2
          cases r with
          | true =>
            have q : FitsP ks[i] vs[i] := fitsB_iff.1 QR.out.symm
            have Q : Hid (∀ j (h : j < ks.length) (h' : j < vs.length), j < i + 1 → FitsP ks[j] vs[j]) := fun j h1 h2 hj => by
              by_cases e : j = i
              · subst e; exact q
              · exact HB.out.2 j h1 h2 (by omega)
            clear HB q
            go_wp2
            go_round
            case rel => exact ⟨i + 1, by omega, by go_num, B1.out, Q.out⟩
            case measure => simp [intOf]; omega
          | false =>
            have Q : Hid (fitsB (.mk (20, x1, y2, x3) ks) (.mk (2, y1, y2) vs) = false) := fitsB_false fun q => by
              have := fitsP_iff.1 q
              simp at this
              have h2 := this.2 i hlt hlt'
              rw [fitsB_true h2] at QR
              cases QR.out
            clear HB
            go_wp2
            go_ret
            exact ⟨ret_b Q.out.symm, B0.out.trans (B1.out.mono (by rw [Z0.out]; omega))⟩
      · obtain rfl : i = ks.length := by omega
        have Q : Hid (fitsB (.mk (20, x1, y2, x3) ks) (.mk (2, y1, y2) vs) = true) := fitsB_true (fitsP_iff.2 (.inr (.inr (.inr ⟨rfl, rfl, rfl, HL.out.symm, fun j h1 h2 => HB.out.2 j h1 h2 h1⟩))))
        go_wp2
        go_ret
        exact ⟨ret_b Q.out.symm, B0.out.trans (HB.out.1.mono (by rw [Z0.out]; omega))⟩

end Go.Proofs.Ytogjpdhhidkljaa.fits
