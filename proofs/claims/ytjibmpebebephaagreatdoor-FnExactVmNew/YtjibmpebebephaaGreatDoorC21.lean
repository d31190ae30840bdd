/-
  The program's okCalls, at every machine of right functions; nothing that was there is turned.
-/
import Derived.BigQuiet
import Derived.Deep.QuietTactic
import Derived.Test.YtjibmpebebephaaGreatDoorC1
import Derived.Test.YtjibmpebebephaaGreatDoorC2
import Derived.Test.YtjibmpebebephaaGreatDoorC3
import Derived.Test.YtjibmpebebephaaGreatDoorC4
import Derived.Test.YtjibmpebebephaaGreatDoorC5
import Derived.Test.YtjibmpebebephaaGreatDoorC6
import Derived.Test.YtjibmpebebephaaGreatDoorC7
import Derived.Test.YtjibmpebebephaaGreatDoorC8
import Derived.Test.YtjibmpebebephaaGreatDoorC9
import Derived.Test.YtjibmpebebephaaGreatDoorC10
import Derived.Test.YtjibmpebebephaaGreatDoorC11
import Derived.Test.YtjibmpebebephaaGreatDoorC12
import Derived.Test.YtjibmpebebephaaGreatDoorC13
import Derived.Test.YtjibmpebebephaaGreatDoorC14
import Derived.Test.YtjibmpebebephaaGreatDoorC15
import Derived.Test.YtjibmpebebephaaGreatDoorC16
import Derived.Test.YtjibmpebebephaaGreatDoorC17
import Derived.Test.YtjibmpebebephaaGreatDoorC18
import Derived.Test.YtjibmpebebephaaGreatDoorC19
import Derived.Test.YtjibmpebebephaaGreatDoorC20
namespace Go.Proofs.YtjibmpebebephaaGreatDoor.vm
open Go Go.RowKit Go.Proofs.YtjibmpebebephaaGreatDoor.rose Go.Proofs.YtjibmpebebephaaGreatDoor Go.Proofs.YtjibmpebebephaaGreatDoor.fun Go.Proofs.YtjibmpebebephaaGreatDoor.heap Go.Proofs.YtjibmpebebephaaGreatDoor.ints
set_option linter.unusedVariables false
set_option linter.unusedSimpArgs false

set_option maxRecDepth 100000 in
set_option maxHeartbeats 16000000 in
theorem okCalls_is (fs : List FunD) (W : List Int) (half base next : Int) (st : List Int) (ks : List call.CallD) (out : List Int) (code : Int) (each : Bool) (a0 : Option Addr) (c0 : Nat) (aw : Option Addr) (cw : Nat) (a2 : Option Addr) (c2 : Nat) (a3 : Option Addr) (c3 : Nat) (a4 : Option Addr) (c4 : Nat) (w : World) (hq : funsB fs = true) (hst : (st.length : Int) ≤ 9223372036854775807) (f0 : funSh.slice.rep w (· < w.heap.size) [.slice a0 fs.length c0] fs) (f3 : call.callSh.slice.rep w (· < w.heap.size) [.slice a3 ks.length c3] ks) :
    Calls Tryz.prog 31 #[.agg #[.slice a0 fs.length c0, .slice aw W.length cw, .int .i64 half, .int .i64 base, .int .i64 next, .slice a2 st.length c2, .slice a3 ks.length c3, .slice a4 out.length c4, .int .i64 code, .bool each]] w fun e w' => e = .returned (.bool (okCallsB fs st.length ks code)) ∧ Below w.heap.size w w' := by
  have FR : Hid (funSh.slice.rep w (· < w.heap.size) [.slice a0 fs.length c0] fs) := f0
  have CR : Hid (call.callSh.slice.rep w (· < w.heap.size) [.slice a3 ks.length c3] ks) := f3
  have Q1 := hidv hq
  have hm3 := call_cap f3
  have HL60 := len_funs hq
  obtain ⟨r, hr⟩ : ∃ r, r = okCallsB fs st.length ks code := ⟨_, rfl⟩
  have HR : Hid (r = okCallsB fs st.length ks code) := hr
  rw [← hr]
  have A0 : Hid (ArgK w (w.alloc (.cells #[.slice a0 fs.length c0, .slice aw W.length cw, .int .i64 half, .int .i64 base, .int .i64 next, .slice a2 st.length c2, .slice a3 ks.length c3, .slice a4 out.length c4, .int .i64 code, .bool each] 35)) [.slice a0 fs.length c0, .slice aw W.length cw, .int .i64 half, .int .i64 base, .int .i64 next, .slice a2 st.length c2, .slice a3 ks.length c3, .slice a4 out.length c4, .int .i64 code, .bool each] 35) := ArgK.new _ _ _ rfl
  clear f0 f3 hr hq
  by_cases q4 : ks.length ≤ 120
  · have t4 : decide (120 < (ks.length : Int)) = false := by simp; omega
    by_cases q5 : code = 0 ∧ ks.length = 0
    · obtain ⟨q5a, q5b⟩ := q5
      subst q5a
      have HF : Hid (r = false) := by show _ = _; rw [HR.out]; unfold okCallsB; simp [q5b]
      have t5 : ((ks.length : Int) == 0) = true := by simp [q5b]
      clear q5b
      go_enter Tryz.func31, Tryz.ntmps31
      go_wp2
      go_ret
      exact ⟨ret_bV HF.out.symm, A0.out.bel⟩
    · by_cases q5c : code = 0
      · have t5 : (code == 0) = true := by simp [q5c]
        have t6 : ((ks.length : Int) == 0) = false := by simp; exact fun e => q5 ⟨q5c, by simp [e]⟩
        have HQ : Hid (ks.length ≤ 120 ∧ ¬ (code = 0 ∧ ks.length = 0)) := ⟨q4, q5⟩
        clear q4 q5 q5c
        go_enter Tryz.func31, Tryz.ntmps31
        go_wp2
        go_loopw [3, 5, 24] (fun v3 v5 v24 wr => ∃ i : Nat, i ≤ ks.length ∧ v24 = .int .i64 i ∧ v3 = .int .i64 (aheadOf ks i) ∧ 0 ≤ aheadOf ks i ∧ Hid (ArgK w wr [.slice a0 fs.length c0, .slice aw W.length cw, .int .i64 half, .int .i64 base, .int .i64 next, .slice a2 st.length c2, .slice a3 ks.length c3, .slice a4 out.length c4, .int .i64 code, .bool each] 35) ∧ Hid (∀ j (hj : j < ks.length), j < i → callB fs st.length (aheadOf ks j) ks[j] = true)) (fun _ _ v24 _ => ks.length - (intOf v24).toNat)
        case atStart => exact ⟨0, Nat.zero_le _, rfl, by rw [ahead_zero], by rw [ahead_zero]; omega, A0, fun j _ hj => absurd hj (Nat.not_lt_zero _)⟩
        case round =>
          clear A0
          obtain ⟨i, hi, rfl, rfl, hah, A5, HJ⟩ := hrel
          have k0 : wr.cell? ⟨w.heap.size, 0, none⟩ = some (.slice a0 fs.length c0) := A5.out.cell 0 rfl
          have k1 : wr.cell? ⟨w.heap.size, 1, none⟩ = some (.slice aw W.length cw) := A5.out.cell 1 rfl
          have k2 : wr.cell? ⟨w.heap.size, 2, none⟩ = some (.int .i64 half) := A5.out.cell 2 rfl
          have k3 : wr.cell? ⟨w.heap.size, 3, none⟩ = some (.int .i64 base) := A5.out.cell 3 rfl
          have k4 : wr.cell? ⟨w.heap.size, 4, none⟩ = some (.int .i64 next) := A5.out.cell 4 rfl
          have k5 : wr.cell? ⟨w.heap.size, 5, none⟩ = some (.slice a2 st.length c2) := A5.out.cell 5 rfl
          have k6 : wr.cell? ⟨w.heap.size, 6, none⟩ = some (.slice a3 ks.length c3) := A5.out.cell 6 rfl
          have k7 : wr.cell? ⟨w.heap.size, 7, none⟩ = some (.slice a4 out.length c4) := A5.out.cell 7 rfl
          have k8 : wr.cell? ⟨w.heap.size, 8, none⟩ = some (.int .i64 code) := A5.out.cell 8 rfl
          have k9 : wr.cell? ⟨w.heap.size, 9, none⟩ = some (.bool each) := A5.out.cell 9 rfl
          by_cases hlt : i < ks.length
          · obtain ⟨bk, ok, rfl, hS, e0, e1, e2, r0, r1, r2⟩ := call_at CR.out hlt
            have e0 := (A5.out.bel.cell (p := ⟨bk, ok + i * 3, none⟩) hS).trans e0
            have e1 := (A5.out.bel.cell (p := ⟨bk, ok + i * 3 + 1, none⟩) hS).trans e1
            have e2 := (A5.out.bel.cell (p := ⟨bk, ok + i * 3 + 2, none⟩) hS).trans e2
            have iI : (i : Int) < (ks.length : Int) := by omega
            have iI0 : (0 : Int) ≤ (i : Int) := by omega
            have CBE : Hid (∀ b, callB fs st.length (aheadOf ks i) ks[i] = b → b = false → r = false) := fun b hb h0 => by rw [HR.out]; unfold okCallsB; rw [calls_no hlt (by rw [hb]; exact h0)]; simp
            have HN : Hid (callB fs st.length (aheadOf ks i) ks[i] = true → ∀ j (hj : j < ks.length), j < i + 1 → callB fs st.length (aheadOf ks j) ks[j] = true) := fun hy j hj h1 => by
              by_cases e : j = i
              · subst e; exact hy
              · exact HJ.out j hj (by omega)
            have hsu := ahead_succ hlt
            obtain ⟨ah, hahd⟩ : ∃ ah, ah = aheadOf ks i := ⟨_, rfl⟩
            rw [← hahd] at hah CBE HN ⊢
            obtain ⟨x0, x1, x2, hx⟩ : ∃ x0 x1 x2, ks[i] = (x0, x1, x2) := ⟨_, _, _, rfl⟩
            rw [hx] at e0 e1 e2 r0 r1 r2 CBE HN hsu
            dsimp only at e0 e1 e2 r0 r1 r2 hsu
            clear hx
            obtain ⟨wk, hwk⟩ : ∃ wk, wk = wr.alloc (.cells #[.int .i64 x0, .int .i64 x1, .int .i64 x2] 57) := ⟨_, rfl⟩
            have A7 : Hid (ArgK w wk [.slice a0 fs.length c0, .slice aw W.length cw, .int .i64 half, .int .i64 base, .int .i64 next, .slice a2 st.length c2, .slice (some ⟨bk, ok, none⟩) ks.length c3, .slice a4 out.length c4, .int .i64 code, .bool each] 35) := by show ArgK _ _ _ _; rw [hwk]; exact A5.out.on ((Below.refl _ _).alloc (Nat.le_refl _) _)
            have n0 : wk.cell? ⟨wr.heap.size, 0, none⟩ = some (.int .i64 x0) := by rw [hwk]; simp
            have n1 : wk.cell? ⟨wr.heap.size, 1, none⟩ = some (.int .i64 x1) := by rw [hwk]; simp
            have n2 : wk.cell? ⟨wr.heap.size, 2, none⟩ = some (.int .i64 x2) := by rw [hwk]; simp
            have m0 : wk.cell? ⟨w.heap.size, 0, none⟩ = some (.slice a0 fs.length c0) := A7.out.cell 0 rfl
            have m1 : wk.cell? ⟨w.heap.size, 1, none⟩ = some (.slice aw W.length cw) := A7.out.cell 1 rfl
            have m2 : wk.cell? ⟨w.heap.size, 2, none⟩ = some (.int .i64 half) := A7.out.cell 2 rfl
            have m3 : wk.cell? ⟨w.heap.size, 3, none⟩ = some (.int .i64 base) := A7.out.cell 3 rfl
            have m4 : wk.cell? ⟨w.heap.size, 4, none⟩ = some (.int .i64 next) := A7.out.cell 4 rfl
            have m5 : wk.cell? ⟨w.heap.size, 5, none⟩ = some (.slice a2 st.length c2) := A7.out.cell 5 rfl
            have m6 : wk.cell? ⟨w.heap.size, 6, none⟩ = some (.slice (some ⟨bk, ok, none⟩) ks.length c3) := A7.out.cell 6 rfl
            have m7 : wk.cell? ⟨w.heap.size, 7, none⟩ = some (.slice a4 out.length c4) := A7.out.cell 7 rfl
            have m8 : wk.cell? ⟨w.heap.size, 8, none⟩ = some (.int .i64 code) := A7.out.cell 8 rfl
            have m9 : wk.cell? ⟨w.heap.size, 9, none⟩ = some (.bool each) := A7.out.cell 9 rfl
            rcases p1 : inB x0 0 ((fs.length : Int) - 1) with _ | _
            · have HF : Hid (r = false) := CBE.out _ rfl (by unfold callB; dsimp only; rw [p1]; rfl)
              rw [hwk] at n0 n1 n2 m0 m1 m2 m3 m4 m5 m6 m7 m8 m9
              go_wp2
              go_quiet ((go_at_call 33; exact Calls.quiet_of_same (fun.bel_is p1 (by omega))))
              go_wp2
              go_ret
              exact ⟨ret_bV HF.out.symm, drewN_bv (by rw [← hwk]; exact A7.out.bel) _⟩
            · obtain ⟨f, rfl⟩ : ∃ f : Nat, x0 = f := ⟨x0.toNat, by have := inB_yes p1; omega⟩
              have hfl : f < fs.length := by have := inB_yes p1; omega
              have hfI : (f : Int) < (fs.length : Int) := by omega
              have hfI0 : (0 : Int) ≤ (f : Int) := by omega
              obtain ⟨bf, of, a9, c9, rfl, hSf, ef⟩ := fun_at FR.out hfl
              have ef := (A7.out.bel.cell (p := ⟨bf, of + f * 2 + 1, none⟩) hSf).trans ef
              have hlf := len_list Q1.out hfl
              have hLA : lenAt fs (f : Int) = fs[f].2.length := lenAt_get hfl rfl
              generalize fs[f].2.length = ln at ef hlf hLA
              rcases p2 : inB x1 0 ((ln : Int) - 1) with _ | _
              · have HF : Hid (r = false) := CBE.out _ rfl (by unfold callB; dsimp only; rw [p1, hLA, p2]; rfl)
                rw [hwk] at n0 n1 n2 m0 m1 m2 m3 m4 m5 m6 m7 m8 m9 ef
                go_wp2
                go_quiet (first | (go_at_call 33; exact Calls.quiet_of_same (fun.bel_is p1 (by omega))) | (go_at_call 33; exact Calls.quiet_of_same (fun.bel_is p2 (by omega))))
                go_wp2
                go_ret
                exact ⟨ret_bV HF.out.symm, drewN_bv (by rw [← hwk]; exact A7.out.bel) _⟩
              · by_cases h3 : x2 ≤ ah
                · have HF : Hid (r = false) := CBE.out _ rfl (by unfold callB; dsimp only; rw [decide_eq_false (p := ah < x2) (by omega)]; simp)
                  have t3 : decide (x2 ≤ ah) = true := decide_eq_true h3
                  rw [hwk] at n0 n1 n2 m0 m1 m2 m3 m4 m5 m6 m7 m8 m9 ef
                  go_wp2
                  go_quiet (first | (go_at_call 33; exact Calls.quiet_of_same (fun.bel_is p1 (by omega))) | (go_at_call 33; exact Calls.quiet_of_same (fun.bel_is p2 (by omega))))
                  go_wp2
                  go_ret
                  exact ⟨ret_bV HF.out.symm, drewN_bv (by rw [← hwk]; exact A7.out.bel) _⟩
                · have t3 : decide (x2 ≤ ah) = false := decide_eq_false h3
                  by_cases h4 : (st.length : Int) ≤ x2
                  · have HF : Hid (r = false) := CBE.out _ rfl (by unfold callB; dsimp only; rw [decide_eq_false (p := x2 < (st.length : Int)) (by omega)]; simp)
                    have t4 : decide ((st.length : Int) ≤ x2) = true := decide_eq_true h4
                    rw [hwk] at n0 n1 n2 m0 m1 m2 m3 m4 m5 m6 m7 m8 m9 ef
                    go_wp2
                    go_quiet (first | (go_at_call 33; exact Calls.quiet_of_same (fun.bel_is p1 (by omega))) | (go_at_call 33; exact Calls.quiet_of_same (fun.bel_is p2 (by omega))))
                    go_wp2
                    go_ret
                    exact ⟨ret_bV HF.out.symm, drewN_bv (by rw [← hwk]; exact A7.out.bel) _⟩
                  · have t4 : decide ((st.length : Int) ≤ x2) = false := decide_eq_false h4
                    have HCT : Hid (∀ j (hj : j < ks.length), j < i + 1 → callB fs st.length (aheadOf ks j) ks[j] = true) := HN.out (by unfold callB; dsimp only; rw [p1, hLA, p2, decide_eq_true (p := ah < x2) (by omega), decide_eq_true (p := x2 < (st.length : Int)) (by omega)]; rfl)
                    rw [hwk] at n0 n1 n2 m0 m1 m2 m3 m4 m5 m6 m7 m8 m9 ef
                    go_wp2
                    go_quiet (first | (go_at_call 33; exact Calls.quiet_of_same (fun.bel_is p1 (by omega))) | (go_at_call 33; exact Calls.quiet_of_same (fun.bel_is p2 (by omega))))
                    go_wp2
                    go_round
                    case rel => exact ⟨i + 1, by omega, by go_num, by rw [hsu], by rw [hsu]; omega, drewN_av (by rw [← hwk]; exact A7.out) _, HCT⟩
                    case measure => simp [intOf]; omega
          · obtain rfl : i = ks.length := by omega
            have HF : Hid (r = true) := by
              show _ = _
              rw [HR.out]; unfold okCallsB
              rw [calls_yes (ks := fs) (n := st.length) fun j hj => HJ.out j hj hj]
              simp only [Bool.and_true, Bool.true_and, Bool.and_eq_true, Bool.not_eq_true', Bool.and_eq_false_iff, decide_eq_true_eq, decide_eq_false_iff_not]
              have := HQ.out
              exact ⟨this.1, by have := this.2; omega⟩
            go_wp2
            go_ret
            exact ⟨ret_bV HF.out.symm, A5.out.bel⟩
      · have t5 : (code == 0) = false := by simp [q5c]
        have HQ : Hid (ks.length ≤ 120 ∧ ¬ (code = 0 ∧ ks.length = 0)) := ⟨q4, q5⟩
        clear q4 q5 q5c
        go_enter Tryz.func31, Tryz.ntmps31
        go_wp2
        go_loopw [3, 5, 24] (fun v3 v5 v24 wr => ∃ i : Nat, i ≤ ks.length ∧ v24 = .int .i64 i ∧ v3 = .int .i64 (aheadOf ks i) ∧ 0 ≤ aheadOf ks i ∧ Hid (ArgK w wr [.slice a0 fs.length c0, .slice aw W.length cw, .int .i64 half, .int .i64 base, .int .i64 next, .slice a2 st.length c2, .slice a3 ks.length c3, .slice a4 out.length c4, .int .i64 code, .bool each] 35) ∧ Hid (∀ j (hj : j < ks.length), j < i → callB fs st.length (aheadOf ks j) ks[j] = true)) (fun _ _ v24 _ => ks.length - (intOf v24).toNat)
        case atStart => exact ⟨0, Nat.zero_le _, rfl, by rw [ahead_zero], by rw [ahead_zero]; omega, A0, fun j _ hj => absurd hj (Nat.not_lt_zero _)⟩
        case round =>
          clear A0
          obtain ⟨i, hi, rfl, rfl, hah, A5, HJ⟩ := hrel
          have k0 : wr.cell? ⟨w.heap.size, 0, none⟩ = some (.slice a0 fs.length c0) := A5.out.cell 0 rfl
          have k1 : wr.cell? ⟨w.heap.size, 1, none⟩ = some (.slice aw W.length cw) := A5.out.cell 1 rfl
          have k2 : wr.cell? ⟨w.heap.size, 2, none⟩ = some (.int .i64 half) := A5.out.cell 2 rfl
          have k3 : wr.cell? ⟨w.heap.size, 3, none⟩ = some (.int .i64 base) := A5.out.cell 3 rfl
          have k4 : wr.cell? ⟨w.heap.size, 4, none⟩ = some (.int .i64 next) := A5.out.cell 4 rfl
          have k5 : wr.cell? ⟨w.heap.size, 5, none⟩ = some (.slice a2 st.length c2) := A5.out.cell 5 rfl
          have k6 : wr.cell? ⟨w.heap.size, 6, none⟩ = some (.slice a3 ks.length c3) := A5.out.cell 6 rfl
          have k7 : wr.cell? ⟨w.heap.size, 7, none⟩ = some (.slice a4 out.length c4) := A5.out.cell 7 rfl
          have k8 : wr.cell? ⟨w.heap.size, 8, none⟩ = some (.int .i64 code) := A5.out.cell 8 rfl
          have k9 : wr.cell? ⟨w.heap.size, 9, none⟩ = some (.bool each) := A5.out.cell 9 rfl
          by_cases hlt : i < ks.length
          · obtain ⟨bk, ok, rfl, hS, e0, e1, e2, r0, r1, r2⟩ := call_at CR.out hlt
            have e0 := (A5.out.bel.cell (p := ⟨bk, ok + i * 3, none⟩) hS).trans e0
            have e1 := (A5.out.bel.cell (p := ⟨bk, ok + i * 3 + 1, none⟩) hS).trans e1
            have e2 := (A5.out.bel.cell (p := ⟨bk, ok + i * 3 + 2, none⟩) hS).trans e2
            have iI : (i : Int) < (ks.length : Int) := by omega
            have iI0 : (0 : Int) ≤ (i : Int) := by omega
            have CBE : Hid (∀ b, callB fs st.length (aheadOf ks i) ks[i] = b → b = false → r = false) := fun b hb h0 => by rw [HR.out]; unfold okCallsB; rw [calls_no hlt (by rw [hb]; exact h0)]; simp
            have HN : Hid (callB fs st.length (aheadOf ks i) ks[i] = true → ∀ j (hj : j < ks.length), j < i + 1 → callB fs st.length (aheadOf ks j) ks[j] = true) := fun hy j hj h1 => by
              by_cases e : j = i
              · subst e; exact hy
              · exact HJ.out j hj (by omega)
            have hsu := ahead_succ hlt
            obtain ⟨ah, hahd⟩ : ∃ ah, ah = aheadOf ks i := ⟨_, rfl⟩
            rw [← hahd] at hah CBE HN ⊢
            obtain ⟨x0, x1, x2, hx⟩ : ∃ x0 x1 x2, ks[i] = (x0, x1, x2) := ⟨_, _, _, rfl⟩
            rw [hx] at e0 e1 e2 r0 r1 r2 CBE HN hsu
            dsimp only at e0 e1 e2 r0 r1 r2 hsu
            clear hx
            obtain ⟨wk, hwk⟩ : ∃ wk, wk = wr.alloc (.cells #[.int .i64 x0, .int .i64 x1, .int .i64 x2] 57) := ⟨_, rfl⟩
            have A7 : Hid (ArgK w wk [.slice a0 fs.length c0, .slice aw W.length cw, .int .i64 half, .int .i64 base, .int .i64 next, .slice a2 st.length c2, .slice (some ⟨bk, ok, none⟩) ks.length c3, .slice a4 out.length c4, .int .i64 code, .bool each] 35) := by show ArgK _ _ _ _; rw [hwk]; exact A5.out.on ((Below.refl _ _).alloc (Nat.le_refl _) _)
            have n0 : wk.cell? ⟨wr.heap.size, 0, none⟩ = some (.int .i64 x0) := by rw [hwk]; simp
            have n1 : wk.cell? ⟨wr.heap.size, 1, none⟩ = some (.int .i64 x1) := by rw [hwk]; simp
            have n2 : wk.cell? ⟨wr.heap.size, 2, none⟩ = some (.int .i64 x2) := by rw [hwk]; simp
            have m0 : wk.cell? ⟨w.heap.size, 0, none⟩ = some (.slice a0 fs.length c0) := A7.out.cell 0 rfl
            have m1 : wk.cell? ⟨w.heap.size, 1, none⟩ = some (.slice aw W.length cw) := A7.out.cell 1 rfl
            have m2 : wk.cell? ⟨w.heap.size, 2, none⟩ = some (.int .i64 half) := A7.out.cell 2 rfl
            have m3 : wk.cell? ⟨w.heap.size, 3, none⟩ = some (.int .i64 base) := A7.out.cell 3 rfl
            have m4 : wk.cell? ⟨w.heap.size, 4, none⟩ = some (.int .i64 next) := A7.out.cell 4 rfl
            have m5 : wk.cell? ⟨w.heap.size, 5, none⟩ = some (.slice a2 st.length c2) := A7.out.cell 5 rfl
            have m6 : wk.cell? ⟨w.heap.size, 6, none⟩ = some (.slice (some ⟨bk, ok, none⟩) ks.length c3) := A7.out.cell 6 rfl
            have m7 : wk.cell? ⟨w.heap.size, 7, none⟩ = some (.slice a4 out.length c4) := A7.out.cell 7 rfl
            have m8 : wk.cell? ⟨w.heap.size, 8, none⟩ = some (.int .i64 code) := A7.out.cell 8 rfl
            have m9 : wk.cell? ⟨w.heap.size, 9, none⟩ = some (.bool each) := A7.out.cell 9 rfl
            rcases p1 : inB x0 0 ((fs.length : Int) - 1) with _ | _
            · have HF : Hid (r = false) := CBE.out _ rfl (by unfold callB; dsimp only; rw [p1]; rfl)
              rw [hwk] at n0 n1 n2 m0 m1 m2 m3 m4 m5 m6 m7 m8 m9
              go_wp2
              go_quiet ((go_at_call 33; exact Calls.quiet_of_same (fun.bel_is p1 (by omega))))
              go_wp2
              go_ret
              exact ⟨ret_bV HF.out.symm, drewN_bv (by rw [← hwk]; exact A7.out.bel) _⟩
            · obtain ⟨f, rfl⟩ : ∃ f : Nat, x0 = f := ⟨x0.toNat, by have := inB_yes p1; omega⟩
              have hfl : f < fs.length := by have := inB_yes p1; omega
              have hfI : (f : Int) < (fs.length : Int) := by omega
              have hfI0 : (0 : Int) ≤ (f : Int) := by omega
              obtain ⟨bf, of, a9, c9, rfl, hSf, ef⟩ := fun_at FR.out hfl
              have ef := (A7.out.bel.cell (p := ⟨bf, of + f * 2 + 1, none⟩) hSf).trans ef
              have hlf := len_list Q1.out hfl
              have hLA : lenAt fs (f : Int) = fs[f].2.length := lenAt_get hfl rfl
              generalize fs[f].2.length = ln at ef hlf hLA
              rcases p2 : inB x1 0 ((ln : Int) - 1) with _ | _
              · have HF : Hid (r = false) := CBE.out _ rfl (by unfold callB; dsimp only; rw [p1, hLA, p2]; rfl)
                rw [hwk] at n0 n1 n2 m0 m1 m2 m3 m4 m5 m6 m7 m8 m9 ef
                go_wp2
                go_quiet (first | (go_at_call 33; exact Calls.quiet_of_same (fun.bel_is p1 (by omega))) | (go_at_call 33; exact Calls.quiet_of_same (fun.bel_is p2 (by omega))))
                go_wp2
                go_ret
                exact ⟨ret_bV HF.out.symm, drewN_bv (by rw [← hwk]; exact A7.out.bel) _⟩
              · by_cases h3 : x2 ≤ ah
                · have HF : Hid (r = false) := CBE.out _ rfl (by unfold callB; dsimp only; rw [decide_eq_false (p := ah < x2) (by omega)]; simp)
                  have t3 : decide (x2 ≤ ah) = true := decide_eq_true h3
                  rw [hwk] at n0 n1 n2 m0 m1 m2 m3 m4 m5 m6 m7 m8 m9 ef
                  go_wp2
                  go_quiet (first | (go_at_call 33; exact Calls.quiet_of_same (fun.bel_is p1 (by omega))) | (go_at_call 33; exact Calls.quiet_of_same (fun.bel_is p2 (by omega))))
                  go_wp2
                  go_ret
                  exact ⟨ret_bV HF.out.symm, drewN_bv (by rw [← hwk]; exact A7.out.bel) _⟩
                · have t3 : decide (x2 ≤ ah) = false := decide_eq_false h3
                  by_cases h4 : (st.length : Int) ≤ x2
                  · have HF : Hid (r = false) := CBE.out _ rfl (by unfold callB; dsimp only; rw [decide_eq_false (p := x2 < (st.length : Int)) (by omega)]; simp)
                    have t4 : decide ((st.length : Int) ≤ x2) = true := decide_eq_true h4
                    rw [hwk] at n0 n1 n2 m0 m1 m2 m3 m4 m5 m6 m7 m8 m9 ef
                    go_wp2
                    go_quiet (first | (go_at_call 33; exact Calls.quiet_of_same (fun.bel_is p1 (by omega))) | (go_at_call 33; exact Calls.quiet_of_same (fun.bel_is p2 (by omega))))
                    go_wp2
                    go_ret
                    exact ⟨ret_bV HF.out.symm, drewN_bv (by rw [← hwk]; exact A7.out.bel) _⟩
                  · have t4 : decide ((st.length : Int) ≤ x2) = false := decide_eq_false h4
                    have HCT : Hid (∀ j (hj : j < ks.length), j < i + 1 → callB fs st.length (aheadOf ks j) ks[j] = true) := HN.out (by unfold callB; dsimp only; rw [p1, hLA, p2, decide_eq_true (p := ah < x2) (by omega), decide_eq_true (p := x2 < (st.length : Int)) (by omega)]; rfl)
                    rw [hwk] at n0 n1 n2 m0 m1 m2 m3 m4 m5 m6 m7 m8 m9 ef
                    go_wp2
                    go_quiet (first | (go_at_call 33; exact Calls.quiet_of_same (fun.bel_is p1 (by omega))) | (go_at_call 33; exact Calls.quiet_of_same (fun.bel_is p2 (by omega))))
                    go_wp2
                    go_round
                    case rel => exact ⟨i + 1, by omega, by go_num, by rw [hsu], by rw [hsu]; omega, drewN_av (by rw [← hwk]; exact A7.out) _, HCT⟩
                    case measure => simp [intOf]; omega
          · obtain rfl : i = ks.length := by omega
            have HF : Hid (r = true) := by
              show _ = _
              rw [HR.out]; unfold okCallsB
              rw [calls_yes (ks := fs) (n := st.length) fun j hj => HJ.out j hj hj]
              simp only [Bool.and_true, Bool.true_and, Bool.and_eq_true, Bool.not_eq_true', Bool.and_eq_false_iff, decide_eq_true_eq, decide_eq_false_iff_not]
              have := HQ.out
              exact ⟨this.1, by have := this.2; omega⟩
            go_wp2
            go_ret
            exact ⟨ret_bV HF.out.symm, A5.out.bel⟩
  · have HF : Hid (r = false) := by show _ = _; rw [HR.out]; unfold okCallsB; simp [q4]
    have t4 : decide (120 < (ks.length : Int)) = true := by simp; omega
    go_enter Tryz.func31, Tryz.ntmps31
    go_wp2
    go_ret
    exact ⟨ret_bV HF.out.symm, A0.out.bel⟩

end Go.Proofs.YtjibmpebebephaaGreatDoor.vm
