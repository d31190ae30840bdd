/-
  The model's Same, at every two types: whether they are one; nothing that was there is turned.
-/
import Derived.Test.YtfekbchmgnpkaabTySz
import Derived.Deep.RegionWith
import Derived.Laws.Strings
namespace Go.Proofs.Ytfekbchmgnpkaab.ty
open Go.RowKit Go.Proofs.Ytfekbchmgnpkaab.rose Go.Proofs.Ytfekbchmgnpkaab
set_option linter.unusedVariables false
set_option linter.unusedSimpArgs false

theorem bytes_ext {a b : ByteArray} (h : a.toList = b.toList) : a = b := by
  rw [ByteArray.toList_eq, ByteArray.toList_eq] at h
  obtain ⟨⟨x⟩⟩ := a
  obtain ⟨⟨y⟩⟩ := b
  simp at h
  rw [h]

/-- Whether two types are one. -/
noncomputable def sameB (a b : TyD) : Bool := @decide (a = b) (Classical.propDecidable _)
theorem sameB_true {a b : TyD} (h : a = b) : sameB a b = true := by unfold sameB; exact @decide_eq_true _ (Classical.propDecidable _) h
theorem sameB_false {a b : TyD} (h : ¬ a = b) : sameB a b = false := by unfold sameB; exact @decide_eq_false _ (Classical.propDecidable _) h

theorem ret_b {a b : Bool} (h : a = b) : Ending.returned (.bool a) = Ending.returned (.bool b) := by rw [h]

def SameSays (T : TyD) : Prop := ∀ T' cs1 cs2 w, tySh.rep w (· < w.heap.size) cs1 T → tySh.rep w (· < w.heap.size) cs2 T' →
  Calls Try.prog 5 #[.agg cs1.toArray, .agg cs2.toArray] w fun e w' => e = .returned (.bool (sameB T T')) ∧ Below w.heap.size w w'

set_option maxRecDepth 100000 in
set_option maxHeartbeats 2000000 in
theorem specSame (T : TyD) : SameSays T := by
  induction T using ind with
  | h x ks ih =>
    intro T' cs1 cs2 w h h'
    obtain ⟨x0, x1, x2, ksk, a3, c3, hT, rfl, f0, f1, f2, f3⟩ := ty_open h
    cases hT
    obtain ⟨y0, y1, y2, js, a3', c3', rfl, rfl, g0, g1, g2, g3⟩ := ty_open h'
    clear h h'
    obtain ⟨a, cap, css, e, hcap, hmax, hrow, hk⟩ := tys_open f3
    cases e
    obtain ⟨a', cap', css', e, hcap', hmax', hrow', hk'⟩ := tys_open g3
    cases e
    have hmx : (ks.length : Int) ≤ 9223372036854775807 := by unfold maxLen at hmax; omega
    have B0 : Hid (Below w.heap.size w ((w.alloc (.cells #[.int .i64 x0, .int .i64 x1, .string x2, .slice a3 ks.length c3] 29)).alloc (.cells #[.int .i64 y0, .int .i64 y1, .string y2, .slice a3' js.length c3'] 29))) := ((Below.refl _ _).alloc (Nat.le_refl _) _).alloc (by simp) _
    clear f0 f1 f2 g0 g1 g2 f3 g3 hcap hmax hcap' hmax'
    by_cases h0 : x0 = y0
    case neg =>
      have R : Hid (sameB (.mk (x0, x1, x2) ks) (.mk (y0, y1, y2) js) = false) := sameB_false fun e => by cases e; exact h0 rfl
      clear hrow hk hrow' hk' ih
      go_enter Try.func5, Try.ntmps5
      go_wp2
      go_ret
      exact ⟨ret_b R.out.symm, B0.out⟩
    subst h0
    by_cases h1 : x1 = y1
    case neg =>
      have R : Hid (sameB (.mk (x0, x1, x2) ks) (.mk (x0, y1, y2) js) = false) := sameB_false fun e => by cases e; exact h1 rfl
      clear hrow hk hrow' hk' ih
      go_enter Try.func5, Try.ntmps5
      go_wp2
      go_ret
      exact ⟨ret_b R.out.symm, B0.out⟩
    subst h1
    by_cases h2 : x2 = y2
    case neg =>
      have R : Hid (sameB (.mk (x0, x1, x2) ks) (.mk (x0, x1, y2) js) = false) := sameB_false fun e => by cases e; exact h2 rfl
      have q2 : (x2.toList == y2.toList) = false := by simpa using fun e => h2 (bytes_ext e)
      clear hrow hk hrow' hk' ih h2
      go_enter Try.func5, Try.ntmps5
      go_wp2
      go_ret
      exact ⟨ret_b R.out.symm, B0.out⟩
    subst h2
    by_cases h3 : ks.length = js.length
    case neg =>
      have R : Hid (sameB (.mk (x0, x1, x2) ks) (.mk (x0, x1, x2) js) = false) := sameB_false fun e => by cases e; exact h3 rfl
      have q3 : ((ks.length : Int) == (js.length : Int)) = false := by simp; omega
      have q4 : ¬ (ks.length : Int) = (js.length : Int) := by omega
      clear hrow hk hrow' hk' ih h3
      go_enter Try.func5, Try.ntmps5
      go_wp2
      go_ret
      exact ⟨ret_b R.out.symm, B0.out⟩
    have IH : Hid (∀ k ∈ ks, SameSays k) := ih
    have HR : Hid (RowAt w (· < w.heap.size) 4 a3 ks.length css ∧ ∀ i (h : i < ks.length), tySh.rep w (· < w.heap.size) (css i) ks[i]) := ⟨hrow, hk⟩
    have HR' : Hid (RowAt w (· < w.heap.size) 4 a3' js.length css' ∧ ∀ i (h : i < js.length), tySh.rep w (· < w.heap.size) (css' i) js[i]) := ⟨hrow', hk'⟩
    have HL : Hid (ks.length = js.length) := h3
    have hlj : (js.length : Int) = (ks.length : Int) := by omega
    rw [← h3] at B0 ⊢
    clear hrow hk hrow' hk' ih h3 hlj
    go_enter Try.func5, Try.ntmps5
    go_wp2
    have T1 : Hid (((w.alloc (.cells #[.int .i64 x0, .int .i64 x1, .string x2, .slice a3 ks.length c3] 29)).alloc (.cells #[.int .i64 x0, .int .i64 x1, .string x2, .slice a3' ks.length c3'] 29)).cell? ⟨w.heap.size, 3, none⟩ = some (.slice a3 ks.length c3)) := by show _ = _; simp
    have T2 : Hid (((w.alloc (.cells #[.int .i64 x0, .int .i64 x1, .string x2, .slice a3 ks.length c3] 29)).alloc (.cells #[.int .i64 x0, .int .i64 x1, .string x2, .slice a3' ks.length c3'] 29)).cell? ⟨w.heap.size + 1, 3, none⟩ = some (.slice a3' ks.length c3')) := by show _ = _; simp
    have Z0 : Hid (((w.alloc (.cells #[.int .i64 x0, .int .i64 x1, .string x2, .slice a3 ks.length c3] 29)).alloc (.cells #[.int .i64 x0, .int .i64 x1, .string x2, .slice a3' ks.length c3'] 29)).heap.size = w.heap.size + 2) := by show _ = _; simp
    generalize (w.alloc (.cells #[.int .i64 x0, .int .i64 x1, .string x2, .slice a3 ks.length c3] 29)).alloc (.cells #[.int .i64 x0, .int .i64 x1, .string x2, .slice a3' ks.length c3'] 29) = w0 at B0 T1 T2 Z0 ⊢
    go_loopw [5] (fun v5 wr => ∃ i : Nat, i ≤ ks.length ∧ v5 = .int .i64 i ∧ Hid (Below w0.heap.size w0 wr ∧ ks.take i = js.take i)) (fun v5 _ => ks.length - (intOf v5).toNat)
    case atStart => exact ⟨0, Nat.zero_le _, rfl, Below.refl _ _, rfl⟩
    case round =>
      obtain ⟨i, hi, rfl, HB⟩ := hrel
      have d1 : wr.cell? ⟨w.heap.size, 3, none⟩ = some (.slice a3 ks.length c3) := (HB.out.1.cell (p := ⟨w.heap.size, 3, none⟩) (by simp [Z0.out])).trans T1.out
      have d2 : wr.cell? ⟨w.heap.size + 1, 3, none⟩ = some (.slice a3' ks.length c3') := (HB.out.1.cell (p := ⟨w.heap.size + 1, 3, none⟩) (by simp [Z0.out])).trans T2.out
      by_cases hlt : i < ks.length
      · have BW : Below w.heap.size w wr := B0.out.trans (HB.out.1.mono (by rw [Z0.out]; omega))
        obtain ⟨b, o, rfl, hS, hc⟩ := HR.out.1 i hlt
        have hrep := HR.out.2 i hlt
        obtain ⟨v0, v1, v2, v3, hcs, c0, c1, c2, c3⟩ := ty_cells hrep hc
        have e0 := (BW.cell (p := ⟨b, o + i * 4, none⟩) hS).trans c0
        have e1 := (BW.cell (p := ⟨b, o + i * 4 + 1, none⟩) hS).trans c1
        have e2 := (BW.cell (p := ⟨b, o + i * 4 + 2, none⟩) hS).trans c2
        have e3 := (BW.cell (p := ⟨b, o + i * 4 + 3, none⟩) hS).trans c3
        rw [hcs] at hrep
        clear c0 c1 c2 c3 hc hcs
        have hlt' : i < js.length := by rw [← HL.out]; exact hlt
        obtain ⟨b', o', rfl, hS', hc⟩ := HR'.out.1 i hlt'
        have hrep' := HR'.out.2 i hlt'
        obtain ⟨v0', v1', v2', v3', hcs, c0, c1, c2, c3⟩ := ty_cells hrep' hc
        have e0' := (BW.cell (p := ⟨b', o' + i * 4, none⟩) hS').trans c0
        have e1' := (BW.cell (p := ⟨b', o' + i * 4 + 1, none⟩) hS').trans c1
        have e2' := (BW.cell (p := ⟨b', o' + i * 4 + 2, none⟩) hS').trans c2
        have e3' := (BW.cell (p := ⟨b', o' + i * 4 + 3, none⟩) hS').trans c3
        rw [hcs] at hrep'
        clear c0 c1 c2 c3 hc hcs
        have hR := tySh.mono (tySh.below hrep BW) (S' := (· < wr.heap.size)) (fun b hb => Nat.lt_of_lt_of_le hb BW.size)
        have hR' := tySh.mono (tySh.below hrep' BW) (S' := (· < wr.heap.size)) (fun b hb => Nat.lt_of_lt_of_le hb BW.size)
        clear hrep hrep' BW
        have hcall := IH.out ks[i] (List.getElem_mem hlt) js[i] [v0, v1, v2, v3] [v0', v1', v2', v3'] wr.drew (tySh.on hR fun _ _ => rfl) (tySh.on hR' fun _ _ => rfl)
        clear hR hR'
        obtain ⟨r, hr⟩ : ∃ r, r = sameB ks[i] js[i] := ⟨_, rfl⟩
        rw [← hr] at hcall
        have QR : Hid (r = sameB ks[i] js[i]) := hr
        clear hr
        go_wp2
        go_region_with (go_at_call 5; refine hcall.mono ?_; rintro e w1 ⟨rfl, hb⟩)
        all_goals
          have B1 : Hid (Below w0.heap.size w0 w1) := (HB.out.1.drew).trans (hb.mono HB.out.1.size)
          clear hb hcall d1 d2
          cases r with
          | true =>
            have q : ks[i] = js[i] := by
              by_cases q : ks[i] = js[i]
              · exact q
              · rw [sameB_false q] at QR; cases QR.out
            have Q : Hid (ks.take (i + 1) = js.take (i + 1)) := by
              show _ = _
              rw [List.take_succ_eq_append_getElem hlt, List.take_succ_eq_append_getElem hlt', HB.out.2, q]
            clear HB q
            go_wp2
            go_round
            case rel => exact ⟨i + 1, by omega, by go_num, B1.out, Q.out⟩
            case measure => simp [intOf]; omega
          | false =>
            have Q : Hid (sameB (.mk (x0, x1, x2) ks) (.mk (x0, x1, x2) js) = false) := sameB_false fun e => by
              cases e
              rw [sameB_true rfl] at QR
              cases QR.out
            clear HB
            go_wp2
            go_ret
            exact ⟨ret_b Q.out.symm, B0.out.trans (B1.out.mono (by rw [Z0.out]; omega))⟩
      · obtain rfl : i = ks.length := by omega
        have Q : Hid (sameB (.mk (x0, x1, x2) ks) (.mk (x0, x1, x2) js) = true) := sameB_true (by
          have := HB.out.2
          rw [List.take_length, HL.out, List.take_length] at this
          rw [this])
        go_wp2
        go_ret
        exact ⟨ret_b Q.out.symm, B0.out.trans (HB.out.1.mono (by rw [Z0.out]; omega))⟩

end Go.Proofs.Ytfekbchmgnpkaab.ty
