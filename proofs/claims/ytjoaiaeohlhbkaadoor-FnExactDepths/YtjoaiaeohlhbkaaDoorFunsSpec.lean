/-
  The model's FunsOk, at every list of functions; nothing that was there is turned.
-/
import Derived.Test.YtjoaiaeohlhbkaaDoorFunsSpecOp
import Derived.Test.YtjoaiaeohlhbkaaDoorFunSz
import Derived.WalkSmall
namespace Go.Proofs.YtjoaiaeohlhbkaaDoor.fun
open Go.RowKit Go.Proofs.YtjoaiaeohlhbkaaDoor.rose Go.Proofs.YtjoaiaeohlhbkaaDoor
set_option linter.unusedVariables false
set_option linter.unusedSimpArgs false

set_option maxRecDepth 100000 in
set_option maxHeartbeats 4000000 in
theorem specFunsOk (ks : List FunD) (v : Value) (w : World) (hw : ks.length + wts ks ≤ 1048576) (h : funSh.slice.rep w (· < w.heap.size) [v] ks) :
    Calls Tryd.prog 14 #[v] w fun e w' => e = .returned (.bool (funsB ks)) ∧ Below w.heap.size w w' := by
  have SL : Hid (∀ w' : World, Below w.heap.size w w' → funSh.slice.rep w' (· < w'.heap.size) [v] ks) := fun w' hb => funSh.slice.mono (funSh.slice.below h hb) fun b hlt => Nat.lt_of_lt_of_le hlt hb.size
  obtain ⟨a, cap, css, rfl, hcap, hmax, hrow, hk⟩ := funs_open h
  have HR : Hid (RowAt w (· < w.heap.size) 2 a ks.length css ∧ ∀ i (h : i < ks.length), funSh.rep w (· < w.heap.size) (css i) ks[i]) := ⟨hrow, hk⟩
  have hmx : (ks.length : Int) ≤ 9223372036854775807 := by omega
  clear h hcap hmax hrow hk hw
  obtain ⟨q, hq⟩ : ∃ q, q = funsB ks := ⟨_, rfl⟩
  rw [← hq]
  rcases q0 : inB ks.length 1 60 with _ | _
  · have HQ : Hid (q = false) := by show _ = _; rw [hq]; exact funsB_len q0
    clear hq
    go_enter Tryd.func14, Tryd.ntmps14
    go_wp2_with (go_at_call 15; refine (in_is q0).mono ?_; rintro e w' ⟨rfl, hx⟩; subst w')
    go_ret
    exact ⟨ret_boolF HQ.out.symm, Below.refl _ _⟩
  · have h1 : 0 < ks.length := by have := inB_yes q0; omega
    have h60 : ks.length ≤ 60 := by have := inB_yes q0; omega
    obtain ⟨b, o, rfl, hS, hc⟩ := HR.out.1 0 h1
    obtain ⟨x0, x1, a1, c1, hT, hcs, g0, -⟩ := fun_open (HR.out.2 0 h1)
    rw [hcs] at hc
    have d0 : w.cell? ⟨b, o, none⟩ = some (.int .i64 x0) := by have := hc 0 _ rfl; simpa using this
    have hf0 : freeAt ks 0 = x0 := by have := freeAt_get h1; rw [hT] at this; exact this
    clear hc hcs hT
    have h1I : (0 : Int) < (ks.length : Int) := by omega
    rcases q1 : decide (x0 = 0) with _ | _
    · have HQ : Hid (q = false) := by show _ = _; rw [hq]; exact funsB_free (by rw [hf0]; exact q1)
      have q1b : (x0 != 0) = true := by have := of_decide_eq_false q1; simp [this]
      clear hq
      go_enter Tryd.func14, Tryd.ntmps14
      go_wp2_with (go_at_call 15; refine (in_is q0).mono ?_; rintro e w' ⟨rfl, hx⟩; subst w')
      go_ret
      exact ⟨ret_boolF HQ.out.symm, Below.refl _ _⟩
    · obtain rfl : x0 = 0 := of_decide_eq_true q1
      have HQ : Hid (q = funsB ks ∧ freeAt ks 0 = 0) := ⟨hq, hf0⟩
      clear hq q1 hf0
      go_enter Tryd.func14, Tryd.ntmps14
      go_wp2_with (go_at_call 15; refine (in_is q0).mono ?_; rintro e w' ⟨rfl, hx⟩; subst w')
      clear d0
      go_loopw [3] (fun v3 wr => ∃ i : Nat, i ≤ ks.length ∧ v3 = .int .i64 i ∧ Hid (∀ j (hj : j < ks.length), j < i → funB ks j ks[j] = true) ∧ Hid (Below w.heap.size w wr)) (fun v3 _ => ks.length - (intOf v3).toNat)
      case atStart => exact ⟨0, Nat.zero_le _, rfl, fun j _ hj => absurd hj (Nat.not_lt_zero _), Below.refl _ _⟩
      case round =>
        obtain ⟨i, hi, rfl, HA, HB⟩ := hrel
        by_cases hlt : i < ks.length
        · obtain ⟨b', o', hbo, hS', hc⟩ := HR.out.1 i hlt
          cases hbo
          obtain ⟨y0, y1, a2, c2, hT, hcs, g2, hrep⟩ := fun_open (HR.out.2 i hlt)
          rw [hcs] at hc
          have e0 := (HB.out.cell (p := ⟨b, o + i * 2, none⟩) hS).trans (hc 0 _ rfl)
          have e1 : wr.cell? ⟨b, o + i * 2 + 1, none⟩ = some (.slice a2 y1.length c2) := (HB.out.cell (p := ⟨b, o + i * 2 + 1, none⟩) hS).trans (hc 1 _ rfl)
          obtain ⟨a3, c3, css3, e3, hcap3, hmax3, hrow3, hk3⟩ := op.ops_open hrep
          cases e3
          have hmy : (y1.length : Int) ≤ 9223372036854775807 := by unfold maxLen at hmax3; omega
          have HO : Hid (RowAt w (· < w.heap.size) 3 a2 y1.length css3 ∧ ∀ i (h : i < y1.length), op.opSh.rep w (· < w.heap.size) (css3 i) y1[i]) := ⟨hrow3, hk3⟩
          have HF : Hid (funB ks i ks[i] = (inB y0 0 20 && inB y1.length 1 3000 && opsB ks i ks[i] y1 && lastB y1)) := by show _ = _; rw [hT]; rfl
          have HT : Hid (ks[i] = (y0, y1)) := hT
          have hc1 : w.cell? ⟨b, o + i * 2 + 1, none⟩ = some (.slice a2 y1.length c2) := hc 1 _ rfl
          clear hc hcs hT hrep hmax3 hrow3 hk3 hcap3
          rcases q2 : inB y0 0 20 with _ | _
          · have HQ2 : Hid (q = false) := by show _ = _; rw [HQ.out.1]; exact funsB_no hlt (by simp only [HF.out, q2, Bool.false_and])
            go_wp2_with (go_at_call 15; refine (in_is q2).mono ?_; rintro e w' ⟨rfl, hx⟩; subst w')
            go_ret
            exact ⟨ret_boolF HQ2.out.symm, HB.out⟩
          · rcases q3 : inB y1.length 1 3000 with _ | _
            · have HQ2 : Hid (q = false) := by show _ = _; rw [HQ.out.1]; exact funsB_no hlt (by simp only [HF.out, q2, q3, Bool.false_and, Bool.and_false])
              go_wp2_with (go_at_call 15; refine (in_is (by assumption)).mono ?_; rintro e w' ⟨rfl, hx⟩; subst w')
              go_ret
              exact ⟨ret_boolF HQ2.out.symm, HB.out⟩
            · have hl1 : 1 ≤ y1.length := by have := inB_yes q3; omega
              have hl2 : y1.length ≤ 3000 := by have := inB_yes q3; omega
              have HF2 : Hid (funB ks i ks[i] = (opsB ks i ks[i] y1 && lastB y1)) := by show _ = _; simp only [HF.out, q2, q3, Bool.true_and]
              have HI : Hid (0 ≤ ks[i].1 ∧ ks[i].1 ≤ 20) := by show _ ∧ _; rw [HT.out]; exact inB_yes q2
              have HL : Hid (1 ≤ ks[i].2.length ∧ ks[i].2.length ≤ 3000) := by show _ ∧ _; rw [HT.out]; exact ⟨hl1, hl2⟩
              have C1 : Hid (w.cell? ⟨b, o + i * 2 + 1, none⟩ = some (.slice a2 y1.length c2)) := hc1
              clear HF HT hc1
              go_wp2_with (go_at_call 15; refine (in_is (by assumption)).mono ?_; rintro e w' ⟨rfl, hx⟩; subst w')
              go_loopw [5] (fun v5 wi => ∃ k : Nat, k ≤ y1.length ∧ v5 = .int .i64 k ∧ Hid (∀ j (hj : j < y1.length), j < k → opB ks i ks[i] y1[j].1 y1[j].2.1 y1[j].2.2 = true) ∧ Hid (Below w.heap.size w wi)) (fun v5 _ => y1.length - (intOf v5).toNat)
              case atStart => exact ⟨0, Nat.zero_le _, rfl, fun j _ hj => absurd hj (Nat.not_lt_zero _), HB⟩
              case round =>
                clear e0 e1
                obtain ⟨k, hk, rfl, HA2, HB2⟩ := hrel
                have e1 : wr.cell? ⟨b, o + i * 2 + 1, none⟩ = some (.slice a2 y1.length c2) := (HB2.out.cell (p := ⟨b, o + i * 2 + 1, none⟩) hS).trans C1.out
                by_cases hlt2 : k < y1.length
                · obtain ⟨b3, o3, rfl, hS3, hc3⟩ := HO.out.1 k hlt2
                  obtain ⟨z0, z1, z2, hT3, hcs3, -, -, -⟩ := op.op_open (HO.out.2 k hlt2)
                  rw [hcs3] at hc3
                  have u0 := (HB2.out.cell (p := ⟨b3, o3 + k * 3, none⟩) hS3).trans (hc3 0 _ rfl)
                  have u1 := (HB2.out.cell (p := ⟨b3, o3 + k * 3 + 1, none⟩) hS3).trans (hc3 1 _ rfl)
                  have u2 := (HB2.out.cell (p := ⟨b3, o3 + k * 3 + 2, none⟩) hS3).trans (hc3 2 _ rfl)
                  have HP : Hid (opB ks i ks[i] y1[k].1 y1[k].2.1 y1[k].2.2 = opB ks i ks[i] z0 z1 z2) := by show _ = _; rw [hT3]
                  have hcall := l13Op_any ks i hlt _ z0 z1 z2 wr (SL.out _ HB2.out) HI.out HL.out
                  clear hc3 hcs3 hT3
                  rcases q4 : opB ks i ks[i] z0 z1 z2 with _ | _
                  · have HQ2 : Hid (q = false) := by show _ = _; rw [HQ.out.1]; exact funsB_no hlt (by rw [HF2.out, opsB_no hlt2 (HP.out.trans q4)]; simp only [Bool.false_and])
                    rw [q4] at hcall
                    clear q4
                    go_wp2_with (go_at_call 25; refine hcall.mono ?_; rintro e w4 ⟨rfl, hb4⟩)
                    go_ret
                    exact ⟨ret_boolF HQ2.out.symm, HB2.out.trans (hb4.mono HB2.out.size)⟩
                  · have HA3 : Hid (∀ j (hj : j < y1.length), j < k + 1 → opB ks i ks[i] y1[j].1 y1[j].2.1 y1[j].2.2 = true) := fun j hj h1 => by
                      by_cases e : j = k
                      · subst e; exact HP.out.trans q4
                      · exact HA2.out j hj (by omega)
                    rw [q4] at hcall
                    clear q4
                    go_wp2_with (go_at_call 25; refine hcall.mono ?_; rintro e w4 ⟨rfl, hb4⟩)
                    go_round
                    case rel => exact ⟨k + 1, by omega, by go_num, HA3, HB2.out.trans (hb4.mono HB2.out.size)⟩
                    case measure => simp [intOf]; omega
                · obtain rfl : k = y1.length := by omega
                  have hz : y1.length - 1 < y1.length := by omega
                  obtain ⟨b3, o3, rfl, hS3, hc3⟩ := HO.out.1 (y1.length - 1) hz
                  obtain ⟨z0, z1, z2, hT3, hcs3, -, -, -⟩ := op.op_open (HO.out.2 (y1.length - 1) hz)
                  rw [hcs3] at hc3
                  have u0 := (HB2.out.cell (p := ⟨b3, o3 + (y1.length - 1) * 3, none⟩) hS3).trans (hc3 0 _ rfl)
                  have HE : Hid (funB ks i ks[i] = endB z0) := by
                    show _ = _
                    rw [HF2.out, opsB_yes fun j hj => HA2.out j hj hj, lastB_get (by omega), hT3]; simp only [Bool.true_and]
                  clear hc3 hcs3 hT3 HA2
                  by_cases h7 : z0 = 7
                  · subst h7
                    have hen : endB 7 = true := rfl
                    have HA3 : Hid (∀ j (hj : j < ks.length), j < i + 1 → funB ks j ks[j] = true) := fun j hj h1 => by
                      by_cases e : j = i
                      · subst e; exact HE.out.trans hen
                      · exact HA.out j hj (by omega)
                    go_wp2
                    go_round
                    case rel => exact ⟨i + 1, by omega, by go_num, HA3, HB2⟩
                    case measure => simp [intOf]; omega
                  · have n7 : (z0 != 7) = true := by simp [h7]
                    by_cases h19 : z0 = 19
                    · subst h19
                      have hen : endB 19 = true := rfl
                      have HA3 : Hid (∀ j (hj : j < ks.length), j < i + 1 → funB ks j ks[j] = true) := fun j hj h1 => by
                        by_cases e : j = i
                        · subst e; exact HE.out.trans hen
                        · exact HA.out j hj (by omega)
                      go_wp2
                      go_round
                      case rel => exact ⟨i + 1, by omega, by go_num, HA3, HB2⟩
                      case measure => simp [intOf]; omega
                    · have n19 : (z0 != 19) = true := by simp [h19]
                      by_cases h21 : z0 = 21
                      · subst h21
                        have hen : endB 21 = true := rfl
                        have HA3 : Hid (∀ j (hj : j < ks.length), j < i + 1 → funB ks j ks[j] = true) := fun j hj h1 => by
                          by_cases e : j = i
                          · subst e; exact HE.out.trans hen
                          · exact HA.out j hj (by omega)
                        go_wp2
                        go_round
                        case rel => exact ⟨i + 1, by omega, by go_num, HA3, HB2⟩
                        case measure => simp [intOf]; omega
                      · have n21 : (z0 != 21) = true := by simp [h21]
                        have hen : endB z0 = false := by simp [endB, h7, h19, h21]
                        have HQ2 : Hid (q = false) := by show _ = _; rw [HQ.out.1]; exact funsB_no hlt (HE.out.trans hen)
                        go_wp2
                        go_ret
                        exact ⟨ret_boolF HQ2.out.symm, HB2.out⟩
        · obtain rfl : i = ks.length := by omega
          have HQ2 : Hid (q = true) := by show _ = _; rw [HQ.out.1]; exact funsB_yes q0 HQ.out.2 fun j hj => HA.out j hj hj
          go_wp2
          go_ret
          exact ⟨ret_boolF HQ2.out.symm, HB.out⟩

end Go.Proofs.YtjoaiaeohlhbkaaDoor.fun
