/-
  The model's VmOk, at every machine; nothing that was there is turned.
-/
import Derived.Test.YtjibmpebebephaaGreatDoorC1
import Derived.Test.YtjibmpebebephaaGreatDoorC2
import Derived.Test.YtjibmpebebephaaGreatDoorC3
import Derived.Test.YtjibmpebebephaaGreatDoorC4
import Derived.Test.YtjibmpebebephaaGreatDoorC5
import Derived.Test.YtjibmpebebephaaGreatDoorC6
import Derived.Test.YtjibmpebebephaaGreatDoorC7
import Derived.Test.YtjibmpebebephaaGreatDoorC8
import Derived.Test.YtjibmpebebephaaGreatDoorC9
import Derived.Test.YtjibmpebebephaaGreatDoorC10
import Derived.Test.YtjibmpebebephaaGreatDoorC11
import Derived.Test.YtjibmpebebephaaGreatDoorC12
import Derived.Test.YtjibmpebebephaaGreatDoorC13
import Derived.Test.YtjibmpebebephaaGreatDoorC14
import Derived.Test.YtjibmpebebephaaGreatDoorC15
import Derived.Test.YtjibmpebebephaaGreatDoorC16
import Derived.Test.YtjibmpebebephaaGreatDoorC17
namespace Go.Proofs.YtjibmpebebephaaGreatDoor.vm
open Go Go.RowKit Go.Proofs.YtjibmpebebephaaGreatDoor.rose Go.Proofs.YtjibmpebebephaaGreatDoor Go.Proofs.YtjibmpebebephaaGreatDoor.fun Go.Proofs.YtjibmpebebephaaGreatDoor.heap Go.Proofs.YtjibmpebebephaaGreatDoor.words Go.Proofs.YtjibmpebebephaaGreatDoor.ints
set_option linter.unusedVariables false
set_option linter.unusedSimpArgs false

set_option maxRecDepth 100000 in
set_option maxHeartbeats 16000000 in
theorem specVmOk (T : VmD) (cs : List Value) (w : World) (hw : T.1.length + fun.wts T.1 ≤ 1048576) (h : vmSh.rep w (· < w.heap.size) cs T) :
    Calls Tryz.prog 6 #[.agg cs.toArray] w fun e w' => e = .returned (.bool (vmB T)) ∧ Below w.heap.size w w' := by
  obtain ⟨fs, a0, c0, HT, u0, u1, u2, u3, st, a2, c2, ks, a3, c3, out, a4, c4, code, each, rfl, rfl, f0, f1, f2, f3, f4, f5⟩ := vm_open h
  obtain ⟨W, aw, cw, half, base, next, rfl, eC, g0, g1, g2, g3⟩ := heap_open f1
  simp only [List.cons.injEq, and_true] at eC
  obtain ⟨rfl, rfl, rfl, rfl⟩ := eC
  have hw1 : fs.length + fun.wts fs ≤ 1048576 := hw
  have RF : Hid (∀ w' : World, Below w.heap.size w w' → funSh.slice.rep w' (· < w'.heap.size) [.slice a0 fs.length c0] fs) := fun w' hb => funSh.slice.mono (funSh.slice.below f0 hb) fun b hlt => Nat.lt_of_lt_of_le hlt hb.size
  have RH : Hid (∀ w' : World, Below w.heap.size w w' → heapSh.rep w' (· < w'.heap.size) [.slice aw W.length cw, .int .i64 half, .int .i64 base, .int .i64 next] (W, half, base, next)) := fun w' hb => heapSh.mono (heapSh.below f1 hb) fun b hlt => Nat.lt_of_lt_of_le hlt hb.size
  have FR : Hid (funSh.slice.rep w (· < w.heap.size) [.slice a0 fs.length c0] fs) := f0
  have CR : Hid (call.callSh.slice.rep w (· < w.heap.size) [.slice a3 ks.length c3] ks) := f3
  have hm0 := fun_cap f0
  have hm3 := call_cap f3
  obtain ⟨as', cs', es, hcs', hms, hst⟩ := ints_open f2
  simp only [Value.slice.injEq, true_and] at es
  obtain ⟨rfl, rfl⟩ := es
  obtain ⟨ao', co', eo, hco', hmo, hou⟩ := ints_open f4
  simp only [Value.slice.injEq, true_and] at eo
  obtain ⟨rfl, rfl⟩ := eo
  have hm2 : (st.length : Int) ≤ 9223372036854775807 := by unfold maxLen at hms; omega
  have hm4 : (out.length : Int) ≤ 9223372036854775807 := by unfold maxLen at hmo; omega
  have SA : Hid _ := hst
  have OA : Hid _ := hou
  obtain ⟨r, hr⟩ : ∃ r, r = vmB (fs, (W, half, base, next), st, ks, out, code, each) := ⟨_, rfl⟩
  have HR : Hid (r = vmB (fs, (W, half, base, next), st, ks, out, code, each)) := hr
  rw [← hr]
  have A0 : Hid (ArgK w (w.alloc (.cells #[.slice a0 fs.length c0, .slice aw W.length cw, .int .i64 half, .int .i64 base, .int .i64 next, .slice a2 st.length c2, .slice a3 ks.length c3, .slice a4 out.length c4, .int .i64 code, .bool each] 35)) [.slice a0 fs.length c0, .slice aw W.length cw, .int .i64 half, .int .i64 base, .int .i64 next, .slice a2 st.length c2, .slice a3 ks.length c3, .slice a4 out.length c4, .int .i64 code, .bool each] 35) := ArgK.new _ _ _ rfl
  have HW1 := hidv hw1
  clear h hw hw1 f0 f1 f2 f3 f4 hr hms hmo hst hou g0 hcs' hco'
  have hc1 := specFunsOk fs _ _ HW1.out (RF.out _ A0.out.bel)
  rcases q1 : funsB fs with _ | _
  · rw [q1] at hc1
    have HF : Hid (r = false) := by show _ = _; rw [HR.out]; unfold vmB; dsimp only; rw [q1]; rfl
    go_enter Tryz.func6, Tryz.ntmps6
    go_wp2_with fail
    refine hc1.mono ?_
    rintro e w1 ⟨rfl, hb⟩
    have A1 := A0.out.on hb
    clear hc1 hb
    go_wp2
    go_ret
    exact ⟨ret_bV HF.out.symm, A1.bel⟩
  · rw [q1] at hc1
    have hc2 := fun V hV => specHeapOk (W, half, base, next) [.slice aw W.length cw, .int .i64 half, .int .i64 base, .int .i64 next] V hV
    rcases q2 : heapB (W, half, base, next) with _ | _
    · rw [q2] at hc2
      have HF : Hid (r = false) := by show _ = _; rw [HR.out]; unfold vmB; dsimp only; rw [right_heap (rs := st) q2]; simp
      go_enter Tryz.func6, Tryz.ntmps6
      go_wp2_with fail
      refine hc1.mono ?_
      rintro e w1 ⟨rfl, hb⟩
      have A1 : Hid (ArgK w w1 [.slice a0 fs.length c0, .slice aw W.length cw, .int .i64 half, .int .i64 base, .int .i64 next, .slice a2 st.length c2, .slice a3 ks.length c3, .slice a4 out.length c4, .int .i64 code, .bool each] 35) := A0.out.on hb
      have hc2' := hc2 w1 (RH.out _ A1.out.bel)
      clear hc1 hc2 hb
      have k0 : w1.cell? ⟨w.heap.size, 0, none⟩ = some (.slice a0 fs.length c0) := A1.out.cell 0 rfl
      have k1 : w1.cell? ⟨w.heap.size, 1, none⟩ = some (.slice aw W.length cw) := A1.out.cell 1 rfl
      have k2 : w1.cell? ⟨w.heap.size, 2, none⟩ = some (.int .i64 half) := A1.out.cell 2 rfl
      have k3 : w1.cell? ⟨w.heap.size, 3, none⟩ = some (.int .i64 base) := A1.out.cell 3 rfl
      have k4 : w1.cell? ⟨w.heap.size, 4, none⟩ = some (.int .i64 next) := A1.out.cell 4 rfl
      have k5 : w1.cell? ⟨w.heap.size, 5, none⟩ = some (.slice a2 st.length c2) := A1.out.cell 5 rfl
      have k6 : w1.cell? ⟨w.heap.size, 6, none⟩ = some (.slice a3 ks.length c3) := A1.out.cell 6 rfl
      have k7 : w1.cell? ⟨w.heap.size, 7, none⟩ = some (.slice a4 out.length c4) := A1.out.cell 7 rfl
      have k8 : w1.cell? ⟨w.heap.size, 8, none⟩ = some (.int .i64 code) := A1.out.cell 8 rfl
      have k9 : w1.cell? ⟨w.heap.size, 9, none⟩ = some (.bool each) := A1.out.cell 9 rfl
      go_wp2_with fail
      refine hc2'.mono ?_
      rintro e w2 ⟨rfl, hb⟩
      have A2 : Hid (ArgK w w2 [.slice a0 fs.length c0, .slice aw W.length cw, .int .i64 half, .int .i64 base, .int .i64 next, .slice a2 st.length c2, .slice a3 ks.length c3, .slice a4 out.length c4, .int .i64 code, .bool each] 35) := A1.out.on hb
      clear hc2' hb k0 k1 k2 k3 k4 k5 k6 k7 k8 k9
      go_wp2
      go_ret
      exact ⟨ret_bV HF.out.symm, A2.out.bel⟩
    · rw [q2] at hc2
      by_cases q3 : st.length ≤ 600
      · have t3 : decide (600 < (st.length : Int)) = false := by simp; omega
        by_cases q4 : ks.length ≤ 120
        · have t4 : decide (120 < (ks.length : Int)) = false := by simp; omega
          by_cases q5 : code = 0 ∧ ks.length = 0
          · obtain ⟨q5a, q5b⟩ := q5
            subst q5a
            have HF : Hid (r = false) := by show _ = _; rw [HR.out]; unfold vmB; dsimp only; unfold okCallsB; simp [q5b]
            have t5 : ((ks.length : Int) == 0) = true := by simp [q5b]
            clear q5b
            go_enter Tryz.func6, Tryz.ntmps6
            go_wp2_with fail
            refine hc1.mono ?_
            rintro e w1 ⟨rfl, hb⟩
            have A1 : Hid (ArgK w w1 [.slice a0 fs.length c0, .slice aw W.length cw, .int .i64 half, .int .i64 base, .int .i64 next, .slice a2 st.length c2, .slice a3 ks.length c3, .slice a4 out.length c4, .int .i64 0, .bool each] 35) := A0.out.on hb
            have hc2' := hc2 w1 (RH.out _ A1.out.bel)
            clear hc1 hc2 hb
            have k0 : w1.cell? ⟨w.heap.size, 0, none⟩ = some (.slice a0 fs.length c0) := A1.out.cell 0 rfl
            have k1 : w1.cell? ⟨w.heap.size, 1, none⟩ = some (.slice aw W.length cw) := A1.out.cell 1 rfl
            have k2 : w1.cell? ⟨w.heap.size, 2, none⟩ = some (.int .i64 half) := A1.out.cell 2 rfl
            have k3 : w1.cell? ⟨w.heap.size, 3, none⟩ = some (.int .i64 base) := A1.out.cell 3 rfl
            have k4 : w1.cell? ⟨w.heap.size, 4, none⟩ = some (.int .i64 next) := A1.out.cell 4 rfl
            have k5 : w1.cell? ⟨w.heap.size, 5, none⟩ = some (.slice a2 st.length c2) := A1.out.cell 5 rfl
            have k6 : w1.cell? ⟨w.heap.size, 6, none⟩ = some (.slice a3 ks.length c3) := A1.out.cell 6 rfl
            have k7 : w1.cell? ⟨w.heap.size, 7, none⟩ = some (.slice a4 out.length c4) := A1.out.cell 7 rfl
            have k8 : w1.cell? ⟨w.heap.size, 8, none⟩ = some (.int .i64 0) := A1.out.cell 8 rfl
            have k9 : w1.cell? ⟨w.heap.size, 9, none⟩ = some (.bool each) := A1.out.cell 9 rfl
            go_wp2_with fail
            refine hc2'.mono ?_
            rintro e w2 ⟨rfl, hb⟩
            have A2 : Hid (ArgK w w2 [.slice a0 fs.length c0, .slice aw W.length cw, .int .i64 half, .int .i64 base, .int .i64 next, .slice a2 st.length c2, .slice a3 ks.length c3, .slice a4 out.length c4, .int .i64 0, .bool each] 35) := A1.out.on hb
            clear hc2' hb k0 k1 k2 k3 k4 k5 k6 k7 k8 k9
            have k0 : w2.cell? ⟨w.heap.size, 0, none⟩ = some (.slice a0 fs.length c0) := A2.out.cell 0 rfl
            have k1 : w2.cell? ⟨w.heap.size, 1, none⟩ = some (.slice aw W.length cw) := A2.out.cell 1 rfl
            have k2 : w2.cell? ⟨w.heap.size, 2, none⟩ = some (.int .i64 half) := A2.out.cell 2 rfl
            have k3 : w2.cell? ⟨w.heap.size, 3, none⟩ = some (.int .i64 base) := A2.out.cell 3 rfl
            have k4 : w2.cell? ⟨w.heap.size, 4, none⟩ = some (.int .i64 next) := A2.out.cell 4 rfl
            have k5 : w2.cell? ⟨w.heap.size, 5, none⟩ = some (.slice a2 st.length c2) := A2.out.cell 5 rfl
            have k6 : w2.cell? ⟨w.heap.size, 6, none⟩ = some (.slice a3 ks.length c3) := A2.out.cell 6 rfl
            have k7 : w2.cell? ⟨w.heap.size, 7, none⟩ = some (.slice a4 out.length c4) := A2.out.cell 7 rfl
            have k8 : w2.cell? ⟨w.heap.size, 8, none⟩ = some (.int .i64 0) := A2.out.cell 8 rfl
            have k9 : w2.cell? ⟨w.heap.size, 9, none⟩ = some (.bool each) := A2.out.cell 9 rfl
            go_wp2
            go_ret
            exact ⟨ret_bV HF.out.symm, A2.out.bel⟩
          · by_cases q5c : code = 0
            · have t5 : (code == 0) = true := by simp [q5c]
              have t6 : ((ks.length : Int) == 0) = false := by simp; exact fun e => q5 ⟨q5c, by simp [e]⟩
              have HQ : Hid (st.length ≤ 600 ∧ ks.length ≤ 120 ∧ ¬ (code = 0 ∧ ks.length = 0)) := ⟨q3, q4, q5⟩
              clear q5 q5c
              rcases q6 : inB code 0 5 with _ | _
              · have HF : Hid (r = false) := by show _ = _; rw [HR.out]; unfold vmB; dsimp only; rw [q6]; simp
                go_enter Tryz.func6, Tryz.ntmps6
                go_wp2_with fail
                refine hc1.mono ?_
                rintro e w1 ⟨rfl, hb⟩
                have A1 : Hid (ArgK w w1 [.slice a0 fs.length c0, .slice aw W.length cw, .int .i64 half, .int .i64 base, .int .i64 next, .slice a2 st.length c2, .slice a3 ks.length c3, .slice a4 out.length c4, .int .i64 code, .bool each] 35) := A0.out.on hb
                have hc2' := hc2 w1 (RH.out _ A1.out.bel)
                clear hc1 hc2 hb
                have k0 : w1.cell? ⟨w.heap.size, 0, none⟩ = some (.slice a0 fs.length c0) := A1.out.cell 0 rfl
                have k1 : w1.cell? ⟨w.heap.size, 1, none⟩ = some (.slice aw W.length cw) := A1.out.cell 1 rfl
                have k2 : w1.cell? ⟨w.heap.size, 2, none⟩ = some (.int .i64 half) := A1.out.cell 2 rfl
                have k3 : w1.cell? ⟨w.heap.size, 3, none⟩ = some (.int .i64 base) := A1.out.cell 3 rfl
                have k4 : w1.cell? ⟨w.heap.size, 4, none⟩ = some (.int .i64 next) := A1.out.cell 4 rfl
                have k5 : w1.cell? ⟨w.heap.size, 5, none⟩ = some (.slice a2 st.length c2) := A1.out.cell 5 rfl
                have k6 : w1.cell? ⟨w.heap.size, 6, none⟩ = some (.slice a3 ks.length c3) := A1.out.cell 6 rfl
                have k7 : w1.cell? ⟨w.heap.size, 7, none⟩ = some (.slice a4 out.length c4) := A1.out.cell 7 rfl
                have k8 : w1.cell? ⟨w.heap.size, 8, none⟩ = some (.int .i64 code) := A1.out.cell 8 rfl
                have k9 : w1.cell? ⟨w.heap.size, 9, none⟩ = some (.bool each) := A1.out.cell 9 rfl
                go_wp2_with fail
                refine hc2'.mono ?_
                rintro e w2 ⟨rfl, hb⟩
                have A2 : Hid (ArgK w w2 [.slice a0 fs.length c0, .slice aw W.length cw, .int .i64 half, .int .i64 base, .int .i64 next, .slice a2 st.length c2, .slice a3 ks.length c3, .slice a4 out.length c4, .int .i64 code, .bool each] 35) := A1.out.on hb
                clear hc2' hb k0 k1 k2 k3 k4 k5 k6 k7 k8 k9
                have k0 : w2.cell? ⟨w.heap.size, 0, none⟩ = some (.slice a0 fs.length c0) := A2.out.cell 0 rfl
                have k1 : w2.cell? ⟨w.heap.size, 1, none⟩ = some (.slice aw W.length cw) := A2.out.cell 1 rfl
                have k2 : w2.cell? ⟨w.heap.size, 2, none⟩ = some (.int .i64 half) := A2.out.cell 2 rfl
                have k3 : w2.cell? ⟨w.heap.size, 3, none⟩ = some (.int .i64 base) := A2.out.cell 3 rfl
                have k4 : w2.cell? ⟨w.heap.size, 4, none⟩ = some (.int .i64 next) := A2.out.cell 4 rfl
                have k5 : w2.cell? ⟨w.heap.size, 5, none⟩ = some (.slice a2 st.length c2) := A2.out.cell 5 rfl
                have k6 : w2.cell? ⟨w.heap.size, 6, none⟩ = some (.slice a3 ks.length c3) := A2.out.cell 6 rfl
                have k7 : w2.cell? ⟨w.heap.size, 7, none⟩ = some (.slice a4 out.length c4) := A2.out.cell 7 rfl
                have k8 : w2.cell? ⟨w.heap.size, 8, none⟩ = some (.int .i64 code) := A2.out.cell 8 rfl
                have k9 : w2.cell? ⟨w.heap.size, 9, none⟩ = some (.bool each) := A2.out.cell 9 rfl
                go_wp2_with fail
                refine (in_is (w := w2) q6).mono ?_
                rintro e w3 ⟨rfl, hx⟩
                subst w3
                go_wp2
                go_ret
                exact ⟨ret_bV HF.out.symm, A2.out.bel⟩
              · have Q6 := hidv q6
                have Q1 := hidv q1
                have Q2 := hidv q2
                go_enter Tryz.func6, Tryz.ntmps6
                go_wp2_with fail
                refine hc1.mono ?_
                rintro e w1 ⟨rfl, hb⟩
                have A1 : Hid (ArgK w w1 [.slice a0 fs.length c0, .slice aw W.length cw, .int .i64 half, .int .i64 base, .int .i64 next, .slice a2 st.length c2, .slice a3 ks.length c3, .slice a4 out.length c4, .int .i64 code, .bool each] 35) := A0.out.on hb
                have hc2' := hc2 w1 (RH.out _ A1.out.bel)
                clear hc1 hc2 hb
                have k0 : w1.cell? ⟨w.heap.size, 0, none⟩ = some (.slice a0 fs.length c0) := A1.out.cell 0 rfl
                have k1 : w1.cell? ⟨w.heap.size, 1, none⟩ = some (.slice aw W.length cw) := A1.out.cell 1 rfl
                have k2 : w1.cell? ⟨w.heap.size, 2, none⟩ = some (.int .i64 half) := A1.out.cell 2 rfl
                have k3 : w1.cell? ⟨w.heap.size, 3, none⟩ = some (.int .i64 base) := A1.out.cell 3 rfl
                have k4 : w1.cell? ⟨w.heap.size, 4, none⟩ = some (.int .i64 next) := A1.out.cell 4 rfl
                have k5 : w1.cell? ⟨w.heap.size, 5, none⟩ = some (.slice a2 st.length c2) := A1.out.cell 5 rfl
                have k6 : w1.cell? ⟨w.heap.size, 6, none⟩ = some (.slice a3 ks.length c3) := A1.out.cell 6 rfl
                have k7 : w1.cell? ⟨w.heap.size, 7, none⟩ = some (.slice a4 out.length c4) := A1.out.cell 7 rfl
                have k8 : w1.cell? ⟨w.heap.size, 8, none⟩ = some (.int .i64 code) := A1.out.cell 8 rfl
                have k9 : w1.cell? ⟨w.heap.size, 9, none⟩ = some (.bool each) := A1.out.cell 9 rfl
                go_wp2_with fail
                refine hc2'.mono ?_
                rintro e w2 ⟨rfl, hb⟩
                have A2 : Hid (ArgK w w2 [.slice a0 fs.length c0, .slice aw W.length cw, .int .i64 half, .int .i64 base, .int .i64 next, .slice a2 st.length c2, .slice a3 ks.length c3, .slice a4 out.length c4, .int .i64 code, .bool each] 35) := A1.out.on hb
                clear hc2' hb k0 k1 k2 k3 k4 k5 k6 k7 k8 k9
                have k0 : w2.cell? ⟨w.heap.size, 0, none⟩ = some (.slice a0 fs.length c0) := A2.out.cell 0 rfl
                have k1 : w2.cell? ⟨w.heap.size, 1, none⟩ = some (.slice aw W.length cw) := A2.out.cell 1 rfl
                have k2 : w2.cell? ⟨w.heap.size, 2, none⟩ = some (.int .i64 half) := A2.out.cell 2 rfl
                have k3 : w2.cell? ⟨w.heap.size, 3, none⟩ = some (.int .i64 base) := A2.out.cell 3 rfl
                have k4 : w2.cell? ⟨w.heap.size, 4, none⟩ = some (.int .i64 next) := A2.out.cell 4 rfl
                have k5 : w2.cell? ⟨w.heap.size, 5, none⟩ = some (.slice a2 st.length c2) := A2.out.cell 5 rfl
                have k6 : w2.cell? ⟨w.heap.size, 6, none⟩ = some (.slice a3 ks.length c3) := A2.out.cell 6 rfl
                have k7 : w2.cell? ⟨w.heap.size, 7, none⟩ = some (.slice a4 out.length c4) := A2.out.cell 7 rfl
                have k8 : w2.cell? ⟨w.heap.size, 8, none⟩ = some (.int .i64 code) := A2.out.cell 8 rfl
                have k9 : w2.cell? ⟨w.heap.size, 9, none⟩ = some (.bool each) := A2.out.cell 9 rfl
                go_wp2_with fail
                refine (in_is (w := w2) q6).mono ?_
                rintro e w3 ⟨rfl, hx⟩
                subst w3
                clear q1 q2 q6
                have hc3 := specPlacesOf (W, half, base, next) _ w2 (heap_head Q2.out) (RH.out _ A2.out.bel)
                rw [heap_places Q2.out] at hc3
                go_wp2_with fail
                refine hc3.mono ?_
                rintro e w4 ⟨⟨v4, l, rfl, hr4, hl4⟩, hb4⟩
                have hle := hl4 (by first | rfl | trivial)
                have A4 : Hid (ArgK w w4 [.slice a0 fs.length c0, .slice aw W.length cw, .int .i64 half, .int .i64 base, .int .i64 next, .slice a2 st.length c2, .slice a3 ks.length c3, .slice a4 out.length c4, .int .i64 code, .bool each] 35) := A2.out.on hb4
                have REP : Hid (intsSh.rep w4 (· < w4.heap.size) [v4] l) := intsSh.mono (intsp_rep hr4.sp) fun q hq => hq.2
                have HLE : Hid (l = (plT (W, half, base, next)).1) := hle
                clear hc3 hr4 hl4 hb4 hle k0 k1 k2 k3 k4 k5 k6 k7 k8 k9 A2 A1
                go_wp2
                go_loopw [5] (fun v5 wr => ∃ i : Nat, i ≤ st.length ∧ v5 = .int .i64 i ∧ wr = w4 ∧ Hid (∀ j (hj : j < st.length), j < i → thereB l st[j] = true)) (fun v5 _ => st.length - (intOf v5).toNat)
                case atStart => exact ⟨0, Nat.zero_le _, rfl, rfl, fun j _ hj => absurd hj (Nat.not_lt_zero _)⟩
                case round =>
                  obtain ⟨i, hi, rfl, hwr, HJ⟩ := hrel
                  subst wr
                  have k0 : w4.cell? ⟨w.heap.size, 0, none⟩ = some (.slice a0 fs.length c0) := A4.out.cell 0 rfl
                  have k1 : w4.cell? ⟨w.heap.size, 1, none⟩ = some (.slice aw W.length cw) := A4.out.cell 1 rfl
                  have k2 : w4.cell? ⟨w.heap.size, 2, none⟩ = some (.int .i64 half) := A4.out.cell 2 rfl
                  have k3 : w4.cell? ⟨w.heap.size, 3, none⟩ = some (.int .i64 base) := A4.out.cell 3 rfl
                  have k4 : w4.cell? ⟨w.heap.size, 4, none⟩ = some (.int .i64 next) := A4.out.cell 4 rfl
                  have k5 : w4.cell? ⟨w.heap.size, 5, none⟩ = some (.slice a2 st.length c2) := A4.out.cell 5 rfl
                  have k6 : w4.cell? ⟨w.heap.size, 6, none⟩ = some (.slice a3 ks.length c3) := A4.out.cell 6 rfl
                  have k7 : w4.cell? ⟨w.heap.size, 7, none⟩ = some (.slice a4 out.length c4) := A4.out.cell 7 rfl
                  have k8 : w4.cell? ⟨w.heap.size, 8, none⟩ = some (.int .i64 code) := A4.out.cell 8 rfl
                  have k9 : w4.cell? ⟨w.heap.size, 9, none⟩ = some (.bool each) := A4.out.cell 9 rfl
                  by_cases hlt : i < st.length
                  · obtain ⟨b', o, rfl, hS, hc, -⟩ := SA.out i hlt
                    have e0 : w4.cell? ⟨b', o + i, none⟩ = some (.int .i64 st[i]) := (A4.out.bel.cell (p := ⟨b', o + i, none⟩) hS).trans hc
                    have iI : (i : Int) < (st.length : Int) := by omega
                    clear hc
                    rcases p2 : thereB l st[i] with _ | _
                    · have HF : Hid (r = false) := by show _ = _; rw [HR.out]; unfold vmB; dsimp only; rw [right_root (T := (W, half, base, next)) hlt (by rw [← HLE.out]; exact p2)]; simp
                      have hc3 := there_is v4 w4 p2 REP.out
                      generalize st[i] = y at e0 hc3
                      clear p2
                      go_wp2_with fail
                      refine hc3.mono ?_
                      rintro e w5 ⟨rfl, hx⟩
                      subst w5
                      clear hc3
                      go_wp2
                      go_ret
                      exact ⟨ret_bV HF.out.symm, A4.out.bel⟩
                    · have HN : Hid (∀ j (hj : j < st.length), j < i + 1 → thereB l st[j] = true) := fun j hj h1 => by
                        by_cases e : j = i
                        · subst e; exact p2
                        · exact HJ.out j hj (by omega)
                      have hc3 := there_is v4 w4 p2 REP.out
                      generalize st[i] = y at e0 hc3
                      clear p2
                      go_wp2_with fail
                      refine hc3.mono ?_
                      rintro e w5 ⟨rfl, hx⟩
                      subst w5
                      clear hc3
                      go_wp2
                      go_round
                      case rel => exact ⟨i + 1, by omega, by go_num, by first | rfl | trivial, HN⟩
                      case measure => simp [intOf]; omega
                  · obtain rfl : i = st.length := by omega
                    have RT : Hid (rightB (W, half, base, next) st = true) := right_yes Q2.out fun j hj => by rw [← HLE.out]; exact HJ.out j hj hj
                    have HL60 := len_funs Q1.out
                    clear HJ REP HLE
                    go_wp2
                    go_loopw [6, 7] (fun v6 v7 wr => ∃ i : Nat, i ≤ ks.length ∧ v6 = .int .i64 i ∧ Hid (ArgK w wr [.slice a0 fs.length c0, .slice aw W.length cw, .int .i64 half, .int .i64 base, .int .i64 next, .slice a2 st.length c2, .slice a3 ks.length c3, .slice a4 out.length c4, .int .i64 code, .bool each] 35) ∧ Hid (∀ j (hj : j < ks.length), j < i → callB fs st.length (aheadOf ks j) ks[j] = true)) (fun v6 _ _ => ks.length - (intOf v6).toNat)
                    case atStart => exact ⟨0, Nat.zero_le _, rfl, A4, fun j _ hj => absurd hj (Nat.not_lt_zero _)⟩
                    case round =>
                      clear k0 k1 k2 k3 k4 k5 k6 k7 k8 k9 A4
                      obtain ⟨i, hi, rfl, A5, HJ⟩ := hrel
                      have k0 : wr.cell? ⟨w.heap.size, 0, none⟩ = some (.slice a0 fs.length c0) := A5.out.cell 0 rfl
                      have k1 : wr.cell? ⟨w.heap.size, 1, none⟩ = some (.slice aw W.length cw) := A5.out.cell 1 rfl
                      have k2 : wr.cell? ⟨w.heap.size, 2, none⟩ = some (.int .i64 half) := A5.out.cell 2 rfl
                      have k3 : wr.cell? ⟨w.heap.size, 3, none⟩ = some (.int .i64 base) := A5.out.cell 3 rfl
                      have k4 : wr.cell? ⟨w.heap.size, 4, none⟩ = some (.int .i64 next) := A5.out.cell 4 rfl
                      have k5 : wr.cell? ⟨w.heap.size, 5, none⟩ = some (.slice a2 st.length c2) := A5.out.cell 5 rfl
                      have k6 : wr.cell? ⟨w.heap.size, 6, none⟩ = some (.slice a3 ks.length c3) := A5.out.cell 6 rfl
                      have k7 : wr.cell? ⟨w.heap.size, 7, none⟩ = some (.slice a4 out.length c4) := A5.out.cell 7 rfl
                      have k8 : wr.cell? ⟨w.heap.size, 8, none⟩ = some (.int .i64 code) := A5.out.cell 8 rfl
                      have k9 : wr.cell? ⟨w.heap.size, 9, none⟩ = some (.bool each) := A5.out.cell 9 rfl
                      by_cases hlt : i < ks.length
                      · obtain ⟨bk, ok, rfl, hS, e0, e1, e2, r0, r1, r2⟩ := call_at CR.out hlt
                        have e0 := (A5.out.bel.cell (p := ⟨bk, ok + i * 3, none⟩) hS).trans e0
                        have e1 := (A5.out.bel.cell (p := ⟨bk, ok + i * 3 + 1, none⟩) hS).trans e1
                        have e2 := (A5.out.bel.cell (p := ⟨bk, ok + i * 3 + 2, none⟩) hS).trans e2
                        have iI : (i : Int) < (ks.length : Int) := by omega
                        have iI0 : (0 : Int) ≤ (i : Int) := by omega
                        have CBE : Hid (∀ b, callB fs st.length (aheadOf ks i) ks[i] = b → b = false → r = false) := fun b hb h0 => by rw [HR.out]; unfold vmB; dsimp only; unfold okCallsB; rw [calls_no hlt (by rw [hb]; exact h0)]; simp
                        have HN : Hid (callB fs st.length (aheadOf ks i) ks[i] = true → ∀ j (hj : j < ks.length), j < i + 1 → callB fs st.length (aheadOf ks j) ks[j] = true) := fun hy j hj h1 => by
                          by_cases e : j = i
                          · subst e; exact hy
                          · exact HJ.out j hj (by omega)
                        have HNN0 : Hid (∀ j, j < i → 0 ≤ aheadOf ks j) := fun j => by
                          induction j with
                          | zero => intro _; rw [ahead_zero]; omega
                          | succ j ih =>
                            intro hj
                            have hz := HJ.out j (by omega) (by omega)
                            unfold callB at hz
                            simp only [Bool.and_eq_true, decide_eq_true_eq] at hz
                            have := ih (by omega)
                            rw [ahead_succ (by omega)]; omega
                        have HAH : Hid (0 < i → ∃ j, i = j + 1 ∧ wr.cell? ⟨bk, ok + j * 3 + 2, none⟩ = some (.int .i64 (aheadOf ks i)) ∧ 1 ≤ aheadOf ks i) := fun h0 => by
                          obtain ⟨j, rfl⟩ : ∃ j, i = j + 1 := ⟨i - 1, by omega⟩
                          obtain ⟨bk', ok', eb, hS', -, -, e2', -⟩ := call_at CR.out (i := j) (by omega)
                          simp only [Option.some.injEq, Addr.mk.injEq, and_true] at eb
                          obtain ⟨rfl, rfl⟩ := eb
                          have hj := HJ.out j (by omega) (by omega)
                          unfold callB at hj
                          simp only [Bool.and_eq_true, decide_eq_true_eq] at hj
                          refine ⟨j, rfl, ?_, ?_⟩
                          · rw [ahead_succ (by omega)]; exact (A5.out.bel.cell (p := ⟨bk, ok + j * 3 + 2, none⟩) hS').trans e2'
                          · rw [ahead_succ (by omega)]; have := HNN0.out j (by omega); omega
                        have HNN0' : Hid (0 ≤ aheadOf ks i) := by
                          by_cases e : i = 0
                          · subst e; show (0 : Int) ≤ _; rw [ahead_zero]; omega
                          · obtain ⟨j, -, -, h⟩ := HAH.out (by omega); show (0 : Int) ≤ _; omega
                        obtain ⟨x0, x1, x2, hx⟩ : ∃ x0 x1 x2, ks[i] = (x0, x1, x2) := ⟨_, _, _, rfl⟩
                        rw [hx] at e0 e1 e2 r0 r1 r2 CBE HN
                        dsimp only at e0 e1 e2 r0 r1 r2
                        have hw1 : IntKind.i64.wrap ((fs.length : Int) - 1) = (fs.length : Int) - 1 := by rw [IntKind.wrap_i64]; omega
                        have hw2 : IntKind.i64.wrap ((st.length : Int) - 1) = (st.length : Int) - 1 := by rw [IntKind.wrap_i64]; omega
                        clear hx
                        obtain ⟨wk, hwk⟩ : ∃ wk, wk = wr.alloc (.cells #[.int .i64 x0, .int .i64 x1, .int .i64 x2] 57) := ⟨_, rfl⟩
                        have A7 : Hid (ArgK w wk [.slice a0 fs.length c0, .slice aw W.length cw, .int .i64 half, .int .i64 base, .int .i64 next, .slice a2 st.length c2, .slice (some ⟨bk, ok, none⟩) ks.length c3, .slice a4 out.length c4, .int .i64 code, .bool each] 35) := by show ArgK _ _ _ _; rw [hwk]; exact A5.out.on ((Below.refl _ _).alloc (Nat.le_refl _) _)
                        have n0 : wk.cell? ⟨wr.heap.size, 0, none⟩ = some (.int .i64 x0) := by rw [hwk]; simp
                        have n1 : wk.cell? ⟨wr.heap.size, 1, none⟩ = some (.int .i64 x1) := by rw [hwk]; simp
                        have n2 : wk.cell? ⟨wr.heap.size, 2, none⟩ = some (.int .i64 x2) := by rw [hwk]; simp
                        have m0 : wk.cell? ⟨w.heap.size, 0, none⟩ = some (.slice a0 fs.length c0) := A7.out.cell 0 rfl
                        have m1 : wk.cell? ⟨w.heap.size, 1, none⟩ = some (.slice aw W.length cw) := A7.out.cell 1 rfl
                        have m2 : wk.cell? ⟨w.heap.size, 2, none⟩ = some (.int .i64 half) := A7.out.cell 2 rfl
                        have m3 : wk.cell? ⟨w.heap.size, 3, none⟩ = some (.int .i64 base) := A7.out.cell 3 rfl
                        have m4 : wk.cell? ⟨w.heap.size, 4, none⟩ = some (.int .i64 next) := A7.out.cell 4 rfl
                        have m5 : wk.cell? ⟨w.heap.size, 5, none⟩ = some (.slice a2 st.length c2) := A7.out.cell 5 rfl
                        have m6 : wk.cell? ⟨w.heap.size, 6, none⟩ = some (.slice (some ⟨bk, ok, none⟩) ks.length c3) := A7.out.cell 6 rfl
                        have m7 : wk.cell? ⟨w.heap.size, 7, none⟩ = some (.slice a4 out.length c4) := A7.out.cell 7 rfl
                        have m8 : wk.cell? ⟨w.heap.size, 8, none⟩ = some (.int .i64 code) := A7.out.cell 8 rfl
                        have m9 : wk.cell? ⟨w.heap.size, 9, none⟩ = some (.bool each) := A7.out.cell 9 rfl
                        rcases p1 : inB x0 0 ((fs.length : Int) - 1) with _ | _
                        · have HF : Hid (r = false) := CBE.out _ rfl (by unfold callB; dsimp only; rw [p1]; rfl)
                          rw [hwk] at n0 n1 n2 m0 m1 m2 m3 m4 m5 m6 m7 m8 m9
                          go_wp2
                          go_quiet ((go_at_call 23; exact Calls.quiet_of_same (in_is p1)))
                          go_wp2
                          go_ret
                          exact ⟨ret_bV HF.out.symm, drewN_bv (by rw [← hwk]; exact A7.out.bel) _⟩
                        · obtain ⟨f, rfl⟩ : ∃ f : Nat, x0 = f := ⟨x0.toNat, by have := inB_yes p1; omega⟩
                          have hfl : f < fs.length := by have := inB_yes p1; omega
                          have hfI : (f : Int) < (fs.length : Int) := by omega
                          have hfI0 : (0 : Int) ≤ (f : Int) := by omega
                          obtain ⟨bf, of, a9, c9, rfl, hSf, ef⟩ := fun_at FR.out hfl
                          have ef := (A7.out.bel.cell (p := ⟨bf, of + f * 2 + 1, none⟩) hSf).trans ef
                          have hlf := len_list Q1.out hfl
                          have hLA : lenAt fs (f : Int) = fs[f].2.length := lenAt_get hfl rfl
                          generalize fs[f].2.length = ln at ef hlf hLA
                          have hw3 : IntKind.i64.wrap ((ln : Int) - 1) = (ln : Int) - 1 := by rw [IntKind.wrap_i64]; omega
                          rcases p2 : inB x1 0 ((ln : Int) - 1) with _ | _
                          · have HF : Hid (r = false) := CBE.out _ rfl (by unfold callB; dsimp only; rw [p1, hLA, p2]; rfl)
                            rw [hwk] at n0 n1 n2 m0 m1 m2 m3 m4 m5 m6 m7 m8 m9 ef
                            go_wp2
                            go_quiet (first | (go_at_call 23; exact Calls.quiet_of_same (in_is p1)) | (go_at_call 23; exact Calls.quiet_of_same (in_is p2)))
                            go_wp2
                            go_ret
                            exact ⟨ret_bV HF.out.symm, drewN_bv (by rw [← hwk]; exact A7.out.bel) _⟩
                          · rcases p3 : inB x2 1 ((st.length : Int) - 1) with _ | _
                            · have HF : Hid (r = false) := CBE.out _ rfl (by
                                unfold callB; dsimp only
                                have h0 := HNN0'.out
                                rcases inB_no p3 with q | q
                                · rw [decide_eq_false (p := aheadOf ks i < x2) (by omega)]; simp
                                · rw [decide_eq_false (p := x2 < (st.length : Int)) (by omega)]; simp)
                              rw [hwk] at n0 n1 n2 m0 m1 m2 m3 m4 m5 m6 m7 m8 m9 ef
                              go_wp2
                              go_quiet (first | (go_at_call 23; exact Calls.quiet_of_same (in_is p1)) | (go_at_call 23; exact Calls.quiet_of_same (in_is p2)) | (go_at_call 23; exact Calls.quiet_of_same (in_is p3)))
                              go_wp2
                              go_ret
                              exact ⟨ret_bV HF.out.symm, drewN_bv (by rw [← hwk]; exact A7.out.bel) _⟩
                            · have hx2 := inB_yes p3
                              by_cases h0i : i = 0
                              · have HCT : Hid (∀ j (hj : j < ks.length), j < i + 1 → callB fs st.length (aheadOf ks j) ks[j] = true) := HN.out (by unfold callB; dsimp only; rw [p1, hLA, p2, decide_eq_true (p := aheadOf ks i < x2) (by subst h0i; rw [ahead_zero]; omega), decide_eq_true (p := x2 < (st.length : Int)) (by omega)]; rfl)
                                have t0 : decide ((0 : Int) < (i : Int)) = false := by simp; omega
                                have t0n : decide (0 < i) = false := by simp; omega
                                clear h0i
                                rw [hwk] at n0 n1 n2 m0 m1 m2 m3 m4 m5 m6 m7 m8 m9 ef
                                go_wp2
                                go_quiet (first | (go_at_call 23; exact Calls.quiet_of_same (in_is p1)) | (go_at_call 23; exact Calls.quiet_of_same (in_is p2)) | (go_at_call 23; exact Calls.quiet_of_same (in_is p3)))
                                go_wp2
                                go_round
                                case rel => exact ⟨i + 1, by omega, by go_num, drewN_av (by rw [← hwk]; exact A7.out) _, HCT⟩
                                case measure => simp [intOf]; omega
                              · obtain ⟨j, hij, eh, hge⟩ := HAH.out (by omega)
                                have hip : decide ((0 : Int) < (i : Int)) = true := by simp; omega
                                have hipn : decide (0 < i) = true := by simp; omega
                                have hw4 : IntKind.i64.wrap ((i : Int) - 1) = (j : Int) := by rw [IntKind.wrap_i64]; omega
                                have hjI : (j : Int) < (ks.length : Int) := by omega
                                have hjI0 : (0 : Int) ≤ (j : Int) := by omega
                                have eh : wk.cell? ⟨bk, ok + j * 3 + 2, none⟩ = some (.int .i64 (aheadOf ks i)) := by rw [hwk, World.cell?_alloc_lt _ _ _ (by have := A5.out.bel.size; show bk < _; omega)]; exact eh
                                clear hij h0i
                                by_cases h4 : x2 ≤ aheadOf ks i
                                · have HF : Hid (r = false) := CBE.out _ rfl (by unfold callB; dsimp only; rw [decide_eq_false (p := aheadOf ks i < x2) (by omega)]; simp)
                                  have t4 : decide (x2 ≤ aheadOf ks i) = true := decide_eq_true h4
                                  generalize aheadOf ks i = ah at eh h4 t4 hge
                                  rw [hwk] at n0 n1 n2 m0 m1 m2 m3 m4 m5 m6 m7 m8 m9 ef eh
                                  go_wp2
                                  go_quiet (first | (go_at_call 23; exact Calls.quiet_of_same (in_is p1)) | (go_at_call 23; exact Calls.quiet_of_same (in_is p2)) | (go_at_call 23; exact Calls.quiet_of_same (in_is p3)))
                                  go_wp2
                                  go_ret
                                  exact ⟨ret_bV HF.out.symm, drewN_bv (by rw [← hwk]; exact A7.out.bel) _⟩
                                · have HCT : Hid (∀ j (hj : j < ks.length), j < i + 1 → callB fs st.length (aheadOf ks j) ks[j] = true) := HN.out (by unfold callB; dsimp only; rw [p1, hLA, p2, decide_eq_true (p := aheadOf ks i < x2) (by omega), decide_eq_true (p := x2 < (st.length : Int)) (by omega)]; rfl)
                                  have t4 : decide (x2 ≤ aheadOf ks i) = false := decide_eq_false h4
                                  generalize aheadOf ks i = ah at eh h4 t4 hge
                                  rw [hwk] at n0 n1 n2 m0 m1 m2 m3 m4 m5 m6 m7 m8 m9 ef eh
                                  go_wp2
                                  go_quiet (first | (go_at_call 23; exact Calls.quiet_of_same (in_is p1)) | (go_at_call 23; exact Calls.quiet_of_same (in_is p2)) | (go_at_call 23; exact Calls.quiet_of_same (in_is p3)))
                                  go_wp2
                                  go_round
                                  case rel => exact ⟨i + 1, by omega, by go_num, drewN_av (by rw [← hwk]; exact A7.out) _, HCT⟩
                                  case measure => simp [intOf]; omega
                      · obtain rfl : i = ks.length := by omega
                        have CT : Hid (callsB fs st.length ks = true) := calls_yes fun j hj => HJ.out j hj hj
                        clear HJ
                        go_wp2
                        go_loopw [8] (fun v8 wr => ∃ i : Nat, i ≤ out.length ∧ v8 = .int .i64 i ∧ Hid (ArgK w wr [.slice a0 fs.length c0, .slice aw W.length cw, .int .i64 half, .int .i64 base, .int .i64 next, .slice a2 st.length c2, .slice a3 ks.length c3, .slice a4 out.length c4, .int .i64 code, .bool each] 35) ∧ Hid (∀ j (hj : j < out.length), j < i → inB out[j] (-1073741824) 1073741823 = true)) (fun v8 _ => out.length - (intOf v8).toNat)
                        case atStart => exact ⟨0, Nat.zero_le _, rfl, A5, fun j _ hj => absurd hj (Nat.not_lt_zero _)⟩
                        case round =>
                          clear k0 k1 k2 k3 k4 k5 k6 k7 k8 k9 A5
                          obtain ⟨i, hi, rfl, A6, HJ⟩ := hrel
                          have k0 : wr.cell? ⟨w.heap.size, 0, none⟩ = some (.slice a0 fs.length c0) := A6.out.cell 0 rfl
                          have k1 : wr.cell? ⟨w.heap.size, 1, none⟩ = some (.slice aw W.length cw) := A6.out.cell 1 rfl
                          have k2 : wr.cell? ⟨w.heap.size, 2, none⟩ = some (.int .i64 half) := A6.out.cell 2 rfl
                          have k3 : wr.cell? ⟨w.heap.size, 3, none⟩ = some (.int .i64 base) := A6.out.cell 3 rfl
                          have k4 : wr.cell? ⟨w.heap.size, 4, none⟩ = some (.int .i64 next) := A6.out.cell 4 rfl
                          have k5 : wr.cell? ⟨w.heap.size, 5, none⟩ = some (.slice a2 st.length c2) := A6.out.cell 5 rfl
                          have k6 : wr.cell? ⟨w.heap.size, 6, none⟩ = some (.slice a3 ks.length c3) := A6.out.cell 6 rfl
                          have k7 : wr.cell? ⟨w.heap.size, 7, none⟩ = some (.slice a4 out.length c4) := A6.out.cell 7 rfl
                          have k8 : wr.cell? ⟨w.heap.size, 8, none⟩ = some (.int .i64 code) := A6.out.cell 8 rfl
                          have k9 : wr.cell? ⟨w.heap.size, 9, none⟩ = some (.bool each) := A6.out.cell 9 rfl
                          by_cases hlt : i < out.length
                          · obtain ⟨b', o, rfl, hS, hc, -⟩ := OA.out i hlt
                            have e0 : wr.cell? ⟨b', o + i, none⟩ = some (.int .i64 out[i]) := (A6.out.bel.cell (p := ⟨b', o + i, none⟩) hS).trans hc
                            have iI : (i : Int) < (out.length : Int) := by omega
                            clear hc
                            rcases p2 : inB out[i] (-1073741824) 1073741823 with _ | _
                            · have HF : Hid (r = false) := by show _ = _; rw [HR.out]; unfold vmB; dsimp only; rw [words_no hlt p2]; simp
                              have hc3 := fun.word_is (w := wr) p2
                              generalize out[i] = y at e0 hc3
                              clear p2
                              go_wp2_with fail
                              refine hc3.mono ?_
                              rintro e w5 ⟨rfl, hx⟩
                              subst w5
                              clear hc3
                              go_wp2
                              go_ret
                              exact ⟨ret_bV HF.out.symm, A6.out.bel⟩
                            · have HN : Hid (∀ j (hj : j < out.length), j < i + 1 → inB out[j] (-1073741824) 1073741823 = true) := fun j hj h1 => by
                                by_cases e : j = i
                                · subst e; exact p2
                                · exact HJ.out j hj (by omega)
                              have hc3 := fun.word_is (w := wr) p2
                              generalize out[i] = y at e0 hc3
                              clear p2
                              go_wp2_with fail
                              refine hc3.mono ?_
                              rintro e w5 ⟨rfl, hx⟩
                              subst w5
                              clear hc3
                              go_wp2
                              go_round
                              case rel => exact ⟨i + 1, by omega, by go_num, A6, HN⟩
                              case measure => simp [intOf]; omega
                          · obtain rfl : i = out.length := by omega
                            have HF : Hid (r = true) := by
                              show _ = _
                              rw [HR.out]; unfold vmB; dsimp only; unfold okCallsB
                              rw [Q1.out, CT.out, RT.out, Q6.out, words_yes (fun j hj => HJ.out j hj hj)]
                              simp only [Bool.and_true, Bool.true_and, Bool.and_eq_true, Bool.not_eq_true', Bool.and_eq_false_iff, decide_eq_true_eq, decide_eq_false_iff_not]
                              have := HQ.out
                              exact ⟨this.1, this.2.1, by have := this.2.2; omega⟩
                            go_wp2
                            go_ret
                            exact ⟨ret_bV HF.out.symm, A6.out.bel⟩
            · have t5 : (code == 0) = false := by simp [q5c]
              have HQ : Hid (st.length ≤ 600 ∧ ks.length ≤ 120 ∧ ¬ (code = 0 ∧ ks.length = 0)) := ⟨q3, q4, q5⟩
              clear q5 q5c
              rcases q6 : inB code 0 5 with _ | _
              · have HF : Hid (r = false) := by show _ = _; rw [HR.out]; unfold vmB; dsimp only; rw [q6]; simp
                go_enter Tryz.func6, Tryz.ntmps6
                go_wp2_with fail
                refine hc1.mono ?_
                rintro e w1 ⟨rfl, hb⟩
                have A1 : Hid (ArgK w w1 [.slice a0 fs.length c0, .slice aw W.length cw, .int .i64 half, .int .i64 base, .int .i64 next, .slice a2 st.length c2, .slice a3 ks.length c3, .slice a4 out.length c4, .int .i64 code, .bool each] 35) := A0.out.on hb
                have hc2' := hc2 w1 (RH.out _ A1.out.bel)
                clear hc1 hc2 hb
                have k0 : w1.cell? ⟨w.heap.size, 0, none⟩ = some (.slice a0 fs.length c0) := A1.out.cell 0 rfl
                have k1 : w1.cell? ⟨w.heap.size, 1, none⟩ = some (.slice aw W.length cw) := A1.out.cell 1 rfl
                have k2 : w1.cell? ⟨w.heap.size, 2, none⟩ = some (.int .i64 half) := A1.out.cell 2 rfl
                have k3 : w1.cell? ⟨w.heap.size, 3, none⟩ = some (.int .i64 base) := A1.out.cell 3 rfl
                have k4 : w1.cell? ⟨w.heap.size, 4, none⟩ = some (.int .i64 next) := A1.out.cell 4 rfl
                have k5 : w1.cell? ⟨w.heap.size, 5, none⟩ = some (.slice a2 st.length c2) := A1.out.cell 5 rfl
                have k6 : w1.cell? ⟨w.heap.size, 6, none⟩ = some (.slice a3 ks.length c3) := A1.out.cell 6 rfl
                have k7 : w1.cell? ⟨w.heap.size, 7, none⟩ = some (.slice a4 out.length c4) := A1.out.cell 7 rfl
                have k8 : w1.cell? ⟨w.heap.size, 8, none⟩ = some (.int .i64 code) := A1.out.cell 8 rfl
                have k9 : w1.cell? ⟨w.heap.size, 9, none⟩ = some (.bool each) := A1.out.cell 9 rfl
                go_wp2_with fail
                refine hc2'.mono ?_
                rintro e w2 ⟨rfl, hb⟩
                have A2 : Hid (ArgK w w2 [.slice a0 fs.length c0, .slice aw W.length cw, .int .i64 half, .int .i64 base, .int .i64 next, .slice a2 st.length c2, .slice a3 ks.length c3, .slice a4 out.length c4, .int .i64 code, .bool each] 35) := A1.out.on hb
                clear hc2' hb k0 k1 k2 k3 k4 k5 k6 k7 k8 k9
                have k0 : w2.cell? ⟨w.heap.size, 0, none⟩ = some (.slice a0 fs.length c0) := A2.out.cell 0 rfl
                have k1 : w2.cell? ⟨w.heap.size, 1, none⟩ = some (.slice aw W.length cw) := A2.out.cell 1 rfl
                have k2 : w2.cell? ⟨w.heap.size, 2, none⟩ = some (.int .i64 half) := A2.out.cell 2 rfl
                have k3 : w2.cell? ⟨w.heap.size, 3, none⟩ = some (.int .i64 base) := A2.out.cell 3 rfl
                have k4 : w2.cell? ⟨w.heap.size, 4, none⟩ = some (.int .i64 next) := A2.out.cell 4 rfl
                have k5 : w2.cell? ⟨w.heap.size, 5, none⟩ = some (.slice a2 st.length c2) := A2.out.cell 5 rfl
                have k6 : w2.cell? ⟨w.heap.size, 6, none⟩ = some (.slice a3 ks.length c3) := A2.out.cell 6 rfl
                have k7 : w2.cell? ⟨w.heap.size, 7, none⟩ = some (.slice a4 out.length c4) := A2.out.cell 7 rfl
                have k8 : w2.cell? ⟨w.heap.size, 8, none⟩ = some (.int .i64 code) := A2.out.cell 8 rfl
                have k9 : w2.cell? ⟨w.heap.size, 9, none⟩ = some (.bool each) := A2.out.cell 9 rfl
                go_wp2_with fail
                refine (in_is (w := w2) q6).mono ?_
                rintro e w3 ⟨rfl, hx⟩
                subst w3
                go_wp2
                go_ret
                exact ⟨ret_bV HF.out.symm, A2.out.bel⟩
              · have Q6 := hidv q6
                have Q1 := hidv q1
                have Q2 := hidv q2
                go_enter Tryz.func6, Tryz.ntmps6
                go_wp2_with fail
                refine hc1.mono ?_
                rintro e w1 ⟨rfl, hb⟩
                have A1 : Hid (ArgK w w1 [.slice a0 fs.length c0, .slice aw W.length cw, .int .i64 half, .int .i64 base, .int .i64 next, .slice a2 st.length c2, .slice a3 ks.length c3, .slice a4 out.length c4, .int .i64 code, .bool each] 35) := A0.out.on hb
                have hc2' := hc2 w1 (RH.out _ A1.out.bel)
                clear hc1 hc2 hb
                have k0 : w1.cell? ⟨w.heap.size, 0, none⟩ = some (.slice a0 fs.length c0) := A1.out.cell 0 rfl
                have k1 : w1.cell? ⟨w.heap.size, 1, none⟩ = some (.slice aw W.length cw) := A1.out.cell 1 rfl
                have k2 : w1.cell? ⟨w.heap.size, 2, none⟩ = some (.int .i64 half) := A1.out.cell 2 rfl
                have k3 : w1.cell? ⟨w.heap.size, 3, none⟩ = some (.int .i64 base) := A1.out.cell 3 rfl
                have k4 : w1.cell? ⟨w.heap.size, 4, none⟩ = some (.int .i64 next) := A1.out.cell 4 rfl
                have k5 : w1.cell? ⟨w.heap.size, 5, none⟩ = some (.slice a2 st.length c2) := A1.out.cell 5 rfl
                have k6 : w1.cell? ⟨w.heap.size, 6, none⟩ = some (.slice a3 ks.length c3) := A1.out.cell 6 rfl
                have k7 : w1.cell? ⟨w.heap.size, 7, none⟩ = some (.slice a4 out.length c4) := A1.out.cell 7 rfl
                have k8 : w1.cell? ⟨w.heap.size, 8, none⟩ = some (.int .i64 code) := A1.out.cell 8 rfl
                have k9 : w1.cell? ⟨w.heap.size, 9, none⟩ = some (.bool each) := A1.out.cell 9 rfl
                go_wp2_with fail
                refine hc2'.mono ?_
                rintro e w2 ⟨rfl, hb⟩
                have A2 : Hid (ArgK w w2 [.slice a0 fs.length c0, .slice aw W.length cw, .int .i64 half, .int .i64 base, .int .i64 next, .slice a2 st.length c2, .slice a3 ks.length c3, .slice a4 out.length c4, .int .i64 code, .bool each] 35) := A1.out.on hb
                clear hc2' hb k0 k1 k2 k3 k4 k5 k6 k7 k8 k9
                have k0 : w2.cell? ⟨w.heap.size, 0, none⟩ = some (.slice a0 fs.length c0) := A2.out.cell 0 rfl
                have k1 : w2.cell? ⟨w.heap.size, 1, none⟩ = some (.slice aw W.length cw) := A2.out.cell 1 rfl
                have k2 : w2.cell? ⟨w.heap.size, 2, none⟩ = some (.int .i64 half) := A2.out.cell 2 rfl
                have k3 : w2.cell? ⟨w.heap.size, 3, none⟩ = some (.int .i64 base) := A2.out.cell 3 rfl
                have k4 : w2.cell? ⟨w.heap.size, 4, none⟩ = some (.int .i64 next) := A2.out.cell 4 rfl
                have k5 : w2.cell? ⟨w.heap.size, 5, none⟩ = some (.slice a2 st.length c2) := A2.out.cell 5 rfl
                have k6 : w2.cell? ⟨w.heap.size, 6, none⟩ = some (.slice a3 ks.length c3) := A2.out.cell 6 rfl
                have k7 : w2.cell? ⟨w.heap.size, 7, none⟩ = some (.slice a4 out.length c4) := A2.out.cell 7 rfl
                have k8 : w2.cell? ⟨w.heap.size, 8, none⟩ = some (.int .i64 code) := A2.out.cell 8 rfl
                have k9 : w2.cell? ⟨w.heap.size, 9, none⟩ = some (.bool each) := A2.out.cell 9 rfl
                go_wp2_with fail
                refine (in_is (w := w2) q6).mono ?_
                rintro e w3 ⟨rfl, hx⟩
                subst w3
                clear q1 q2 q6
                have hc3 := specPlacesOf (W, half, base, next) _ w2 (heap_head Q2.out) (RH.out _ A2.out.bel)
                rw [heap_places Q2.out] at hc3
                go_wp2_with fail
                refine hc3.mono ?_
                rintro e w4 ⟨⟨v4, l, rfl, hr4, hl4⟩, hb4⟩
                have hle := hl4 (by first | rfl | trivial)
                have A4 : Hid (ArgK w w4 [.slice a0 fs.length c0, .slice aw W.length cw, .int .i64 half, .int .i64 base, .int .i64 next, .slice a2 st.length c2, .slice a3 ks.length c3, .slice a4 out.length c4, .int .i64 code, .bool each] 35) := A2.out.on hb4
                have REP : Hid (intsSh.rep w4 (· < w4.heap.size) [v4] l) := intsSh.mono (intsp_rep hr4.sp) fun q hq => hq.2
                have HLE : Hid (l = (plT (W, half, base, next)).1) := hle
                clear hc3 hr4 hl4 hb4 hle k0 k1 k2 k3 k4 k5 k6 k7 k8 k9 A2 A1
                go_wp2
                go_loopw [5] (fun v5 wr => ∃ i : Nat, i ≤ st.length ∧ v5 = .int .i64 i ∧ wr = w4 ∧ Hid (∀ j (hj : j < st.length), j < i → thereB l st[j] = true)) (fun v5 _ => st.length - (intOf v5).toNat)
                case atStart => exact ⟨0, Nat.zero_le _, rfl, rfl, fun j _ hj => absurd hj (Nat.not_lt_zero _)⟩
                case round =>
                  obtain ⟨i, hi, rfl, hwr, HJ⟩ := hrel
                  subst wr
                  have k0 : w4.cell? ⟨w.heap.size, 0, none⟩ = some (.slice a0 fs.length c0) := A4.out.cell 0 rfl
                  have k1 : w4.cell? ⟨w.heap.size, 1, none⟩ = some (.slice aw W.length cw) := A4.out.cell 1 rfl
                  have k2 : w4.cell? ⟨w.heap.size, 2, none⟩ = some (.int .i64 half) := A4.out.cell 2 rfl
                  have k3 : w4.cell? ⟨w.heap.size, 3, none⟩ = some (.int .i64 base) := A4.out.cell 3 rfl
                  have k4 : w4.cell? ⟨w.heap.size, 4, none⟩ = some (.int .i64 next) := A4.out.cell 4 rfl
                  have k5 : w4.cell? ⟨w.heap.size, 5, none⟩ = some (.slice a2 st.length c2) := A4.out.cell 5 rfl
                  have k6 : w4.cell? ⟨w.heap.size, 6, none⟩ = some (.slice a3 ks.length c3) := A4.out.cell 6 rfl
                  have k7 : w4.cell? ⟨w.heap.size, 7, none⟩ = some (.slice a4 out.length c4) := A4.out.cell 7 rfl
                  have k8 : w4.cell? ⟨w.heap.size, 8, none⟩ = some (.int .i64 code) := A4.out.cell 8 rfl
                  have k9 : w4.cell? ⟨w.heap.size, 9, none⟩ = some (.bool each) := A4.out.cell 9 rfl
                  by_cases hlt : i < st.length
                  · obtain ⟨b', o, rfl, hS, hc, -⟩ := SA.out i hlt
                    have e0 : w4.cell? ⟨b', o + i, none⟩ = some (.int .i64 st[i]) := (A4.out.bel.cell (p := ⟨b', o + i, none⟩) hS).trans hc
                    have iI : (i : Int) < (st.length : Int) := by omega
                    clear hc
                    rcases p2 : thereB l st[i] with _ | _
                    · have HF : Hid (r = false) := by show _ = _; rw [HR.out]; unfold vmB; dsimp only; rw [right_root (T := (W, half, base, next)) hlt (by rw [← HLE.out]; exact p2)]; simp
                      have hc3 := there_is v4 w4 p2 REP.out
                      generalize st[i] = y at e0 hc3
                      clear p2
                      go_wp2_with fail
                      refine hc3.mono ?_
                      rintro e w5 ⟨rfl, hx⟩
                      subst w5
                      clear hc3
                      go_wp2
                      go_ret
                      exact ⟨ret_bV HF.out.symm, A4.out.bel⟩
                    · have HN : Hid (∀ j (hj : j < st.length), j < i + 1 → thereB l st[j] = true) := fun j hj h1 => by
                        by_cases e : j = i
                        · subst e; exact p2
                        · exact HJ.out j hj (by omega)
                      have hc3 := there_is v4 w4 p2 REP.out
                      generalize st[i] = y at e0 hc3
                      clear p2
                      go_wp2_with fail
                      refine hc3.mono ?_
                      rintro e w5 ⟨rfl, hx⟩
                      subst w5
                      clear hc3
                      go_wp2
                      go_round
                      case rel => exact ⟨i + 1, by omega, by go_num, by first | rfl | trivial, HN⟩
                      case measure => simp [intOf]; omega
                  · obtain rfl : i = st.length := by omega
                    have RT : Hid (rightB (W, half, base, next) st = true) := right_yes Q2.out fun j hj => by rw [← HLE.out]; exact HJ.out j hj hj
                    have HL60 := len_funs Q1.out
                    clear HJ REP HLE
                    go_wp2
                    go_loopw [6, 7] (fun v6 v7 wr => ∃ i : Nat, i ≤ ks.length ∧ v6 = .int .i64 i ∧ Hid (ArgK w wr [.slice a0 fs.length c0, .slice aw W.length cw, .int .i64 half, .int .i64 base, .int .i64 next, .slice a2 st.length c2, .slice a3 ks.length c3, .slice a4 out.length c4, .int .i64 code, .bool each] 35) ∧ Hid (∀ j (hj : j < ks.length), j < i → callB fs st.length (aheadOf ks j) ks[j] = true)) (fun v6 _ _ => ks.length - (intOf v6).toNat)
                    case atStart => exact ⟨0, Nat.zero_le _, rfl, A4, fun j _ hj => absurd hj (Nat.not_lt_zero _)⟩
                    case round =>
                      clear k0 k1 k2 k3 k4 k5 k6 k7 k8 k9 A4
                      obtain ⟨i, hi, rfl, A5, HJ⟩ := hrel
                      have k0 : wr.cell? ⟨w.heap.size, 0, none⟩ = some (.slice a0 fs.length c0) := A5.out.cell 0 rfl
                      have k1 : wr.cell? ⟨w.heap.size, 1, none⟩ = some (.slice aw W.length cw) := A5.out.cell 1 rfl
                      have k2 : wr.cell? ⟨w.heap.size, 2, none⟩ = some (.int .i64 half) := A5.out.cell 2 rfl
                      have k3 : wr.cell? ⟨w.heap.size, 3, none⟩ = some (.int .i64 base) := A5.out.cell 3 rfl
                      have k4 : wr.cell? ⟨w.heap.size, 4, none⟩ = some (.int .i64 next) := A5.out.cell 4 rfl
                      have k5 : wr.cell? ⟨w.heap.size, 5, none⟩ = some (.slice a2 st.length c2) := A5.out.cell 5 rfl
                      have k6 : wr.cell? ⟨w.heap.size, 6, none⟩ = some (.slice a3 ks.length c3) := A5.out.cell 6 rfl
                      have k7 : wr.cell? ⟨w.heap.size, 7, none⟩ = some (.slice a4 out.length c4) := A5.out.cell 7 rfl
                      have k8 : wr.cell? ⟨w.heap.size, 8, none⟩ = some (.int .i64 code) := A5.out.cell 8 rfl
                      have k9 : wr.cell? ⟨w.heap.size, 9, none⟩ = some (.bool each) := A5.out.cell 9 rfl
                      by_cases hlt : i < ks.length
                      · obtain ⟨bk, ok, rfl, hS, e0, e1, e2, r0, r1, r2⟩ := call_at CR.out hlt
                        have e0 := (A5.out.bel.cell (p := ⟨bk, ok + i * 3, none⟩) hS).trans e0
                        have e1 := (A5.out.bel.cell (p := ⟨bk, ok + i * 3 + 1, none⟩) hS).trans e1
                        have e2 := (A5.out.bel.cell (p := ⟨bk, ok + i * 3 + 2, none⟩) hS).trans e2
                        have iI : (i : Int) < (ks.length : Int) := by omega
                        have iI0 : (0 : Int) ≤ (i : Int) := by omega
                        have CBE : Hid (∀ b, callB fs st.length (aheadOf ks i) ks[i] = b → b = false → r = false) := fun b hb h0 => by rw [HR.out]; unfold vmB; dsimp only; unfold okCallsB; rw [calls_no hlt (by rw [hb]; exact h0)]; simp
                        have HN : Hid (callB fs st.length (aheadOf ks i) ks[i] = true → ∀ j (hj : j < ks.length), j < i + 1 → callB fs st.length (aheadOf ks j) ks[j] = true) := fun hy j hj h1 => by
                          by_cases e : j = i
                          · subst e; exact hy
                          · exact HJ.out j hj (by omega)
                        have HNN0 : Hid (∀ j, j < i → 0 ≤ aheadOf ks j) := fun j => by
                          induction j with
                          | zero => intro _; rw [ahead_zero]; omega
                          | succ j ih =>
                            intro hj
                            have hz := HJ.out j (by omega) (by omega)
                            unfold callB at hz
                            simp only [Bool.and_eq_true, decide_eq_true_eq] at hz
                            have := ih (by omega)
                            rw [ahead_succ (by omega)]; omega
                        have HAH : Hid (0 < i → ∃ j, i = j + 1 ∧ wr.cell? ⟨bk, ok + j * 3 + 2, none⟩ = some (.int .i64 (aheadOf ks i)) ∧ 1 ≤ aheadOf ks i) := fun h0 => by
                          obtain ⟨j, rfl⟩ : ∃ j, i = j + 1 := ⟨i - 1, by omega⟩
                          obtain ⟨bk', ok', eb, hS', -, -, e2', -⟩ := call_at CR.out (i := j) (by omega)
                          simp only [Option.some.injEq, Addr.mk.injEq, and_true] at eb
                          obtain ⟨rfl, rfl⟩ := eb
                          have hj := HJ.out j (by omega) (by omega)
                          unfold callB at hj
                          simp only [Bool.and_eq_true, decide_eq_true_eq] at hj
                          refine ⟨j, rfl, ?_, ?_⟩
                          · rw [ahead_succ (by omega)]; exact (A5.out.bel.cell (p := ⟨bk, ok + j * 3 + 2, none⟩) hS').trans e2'
                          · rw [ahead_succ (by omega)]; have := HNN0.out j (by omega); omega
                        have HNN0' : Hid (0 ≤ aheadOf ks i) := by
                          by_cases e : i = 0
                          · subst e; show (0 : Int) ≤ _; rw [ahead_zero]; omega
                          · obtain ⟨j, -, -, h⟩ := HAH.out (by omega); show (0 : Int) ≤ _; omega
                        obtain ⟨x0, x1, x2, hx⟩ : ∃ x0 x1 x2, ks[i] = (x0, x1, x2) := ⟨_, _, _, rfl⟩
                        rw [hx] at e0 e1 e2 r0 r1 r2 CBE HN
                        dsimp only at e0 e1 e2 r0 r1 r2
                        have hw1 : IntKind.i64.wrap ((fs.length : Int) - 1) = (fs.length : Int) - 1 := by rw [IntKind.wrap_i64]; omega
                        have hw2 : IntKind.i64.wrap ((st.length : Int) - 1) = (st.length : Int) - 1 := by rw [IntKind.wrap_i64]; omega
                        clear hx
                        obtain ⟨wk, hwk⟩ : ∃ wk, wk = wr.alloc (.cells #[.int .i64 x0, .int .i64 x1, .int .i64 x2] 57) := ⟨_, rfl⟩
                        have A7 : Hid (ArgK w wk [.slice a0 fs.length c0, .slice aw W.length cw, .int .i64 half, .int .i64 base, .int .i64 next, .slice a2 st.length c2, .slice (some ⟨bk, ok, none⟩) ks.length c3, .slice a4 out.length c4, .int .i64 code, .bool each] 35) := by show ArgK _ _ _ _; rw [hwk]; exact A5.out.on ((Below.refl _ _).alloc (Nat.le_refl _) _)
                        have n0 : wk.cell? ⟨wr.heap.size, 0, none⟩ = some (.int .i64 x0) := by rw [hwk]; simp
                        have n1 : wk.cell? ⟨wr.heap.size, 1, none⟩ = some (.int .i64 x1) := by rw [hwk]; simp
                        have n2 : wk.cell? ⟨wr.heap.size, 2, none⟩ = some (.int .i64 x2) := by rw [hwk]; simp
                        have m0 : wk.cell? ⟨w.heap.size, 0, none⟩ = some (.slice a0 fs.length c0) := A7.out.cell 0 rfl
                        have m1 : wk.cell? ⟨w.heap.size, 1, none⟩ = some (.slice aw W.length cw) := A7.out.cell 1 rfl
                        have m2 : wk.cell? ⟨w.heap.size, 2, none⟩ = some (.int .i64 half) := A7.out.cell 2 rfl
                        have m3 : wk.cell? ⟨w.heap.size, 3, none⟩ = some (.int .i64 base) := A7.out.cell 3 rfl
                        have m4 : wk.cell? ⟨w.heap.size, 4, none⟩ = some (.int .i64 next) := A7.out.cell 4 rfl
                        have m5 : wk.cell? ⟨w.heap.size, 5, none⟩ = some (.slice a2 st.length c2) := A7.out.cell 5 rfl
                        have m6 : wk.cell? ⟨w.heap.size, 6, none⟩ = some (.slice (some ⟨bk, ok, none⟩) ks.length c3) := A7.out.cell 6 rfl
                        have m7 : wk.cell? ⟨w.heap.size, 7, none⟩ = some (.slice a4 out.length c4) := A7.out.cell 7 rfl
                        have m8 : wk.cell? ⟨w.heap.size, 8, none⟩ = some (.int .i64 code) := A7.out.cell 8 rfl
                        have m9 : wk.cell? ⟨w.heap.size, 9, none⟩ = some (.bool each) := A7.out.cell 9 rfl
                        rcases p1 : inB x0 0 ((fs.length : Int) - 1) with _ | _
                        · have HF : Hid (r = false) := CBE.out _ rfl (by unfold callB; dsimp only; rw [p1]; rfl)
                          rw [hwk] at n0 n1 n2 m0 m1 m2 m3 m4 m5 m6 m7 m8 m9
                          go_wp2
                          go_quiet ((go_at_call 23; exact Calls.quiet_of_same (in_is p1)))
                          go_wp2
                          go_ret
                          exact ⟨ret_bV HF.out.symm, drewN_bv (by rw [← hwk]; exact A7.out.bel) _⟩
                        · obtain ⟨f, rfl⟩ : ∃ f : Nat, x0 = f := ⟨x0.toNat, by have := inB_yes p1; omega⟩
                          have hfl : f < fs.length := by have := inB_yes p1; omega
                          have hfI : (f : Int) < (fs.length : Int) := by omega
                          have hfI0 : (0 : Int) ≤ (f : Int) := by omega
                          obtain ⟨bf, of, a9, c9, rfl, hSf, ef⟩ := fun_at FR.out hfl
                          have ef := (A7.out.bel.cell (p := ⟨bf, of + f * 2 + 1, none⟩) hSf).trans ef
                          have hlf := len_list Q1.out hfl
                          have hLA : lenAt fs (f : Int) = fs[f].2.length := lenAt_get hfl rfl
                          generalize fs[f].2.length = ln at ef hlf hLA
                          have hw3 : IntKind.i64.wrap ((ln : Int) - 1) = (ln : Int) - 1 := by rw [IntKind.wrap_i64]; omega
                          rcases p2 : inB x1 0 ((ln : Int) - 1) with _ | _
                          · have HF : Hid (r = false) := CBE.out _ rfl (by unfold callB; dsimp only; rw [p1, hLA, p2]; rfl)
                            rw [hwk] at n0 n1 n2 m0 m1 m2 m3 m4 m5 m6 m7 m8 m9 ef
                            go_wp2
                            go_quiet (first | (go_at_call 23; exact Calls.quiet_of_same (in_is p1)) | (go_at_call 23; exact Calls.quiet_of_same (in_is p2)))
                            go_wp2
                            go_ret
                            exact ⟨ret_bV HF.out.symm, drewN_bv (by rw [← hwk]; exact A7.out.bel) _⟩
                          · rcases p3 : inB x2 1 ((st.length : Int) - 1) with _ | _
                            · have HF : Hid (r = false) := CBE.out _ rfl (by
                                unfold callB; dsimp only
                                have h0 := HNN0'.out
                                rcases inB_no p3 with q | q
                                · rw [decide_eq_false (p := aheadOf ks i < x2) (by omega)]; simp
                                · rw [decide_eq_false (p := x2 < (st.length : Int)) (by omega)]; simp)
                              rw [hwk] at n0 n1 n2 m0 m1 m2 m3 m4 m5 m6 m7 m8 m9 ef
                              go_wp2
                              go_quiet (first | (go_at_call 23; exact Calls.quiet_of_same (in_is p1)) | (go_at_call 23; exact Calls.quiet_of_same (in_is p2)) | (go_at_call 23; exact Calls.quiet_of_same (in_is p3)))
                              go_wp2
                              go_ret
                              exact ⟨ret_bV HF.out.symm, drewN_bv (by rw [← hwk]; exact A7.out.bel) _⟩
                            · have hx2 := inB_yes p3
                              by_cases h0i : i = 0
                              · have HCT : Hid (∀ j (hj : j < ks.length), j < i + 1 → callB fs st.length (aheadOf ks j) ks[j] = true) := HN.out (by unfold callB; dsimp only; rw [p1, hLA, p2, decide_eq_true (p := aheadOf ks i < x2) (by subst h0i; rw [ahead_zero]; omega), decide_eq_true (p := x2 < (st.length : Int)) (by omega)]; rfl)
                                have t0 : decide ((0 : Int) < (i : Int)) = false := by simp; omega
                                have t0n : decide (0 < i) = false := by simp; omega
                                clear h0i
                                rw [hwk] at n0 n1 n2 m0 m1 m2 m3 m4 m5 m6 m7 m8 m9 ef
                                go_wp2
                                go_quiet (first | (go_at_call 23; exact Calls.quiet_of_same (in_is p1)) | (go_at_call 23; exact Calls.quiet_of_same (in_is p2)) | (go_at_call 23; exact Calls.quiet_of_same (in_is p3)))
                                go_wp2
                                go_round
                                case rel => exact ⟨i + 1, by omega, by go_num, drewN_av (by rw [← hwk]; exact A7.out) _, HCT⟩
                                case measure => simp [intOf]; omega
                              · obtain ⟨j, hij, eh, hge⟩ := HAH.out (by omega)
                                have hip : decide ((0 : Int) < (i : Int)) = true := by simp; omega
                                have hipn : decide (0 < i) = true := by simp; omega
                                have hw4 : IntKind.i64.wrap ((i : Int) - 1) = (j : Int) := by rw [IntKind.wrap_i64]; omega
                                have hjI : (j : Int) < (ks.length : Int) := by omega
                                have hjI0 : (0 : Int) ≤ (j : Int) := by omega
                                have eh : wk.cell? ⟨bk, ok + j * 3 + 2, none⟩ = some (.int .i64 (aheadOf ks i)) := by rw [hwk, World.cell?_alloc_lt _ _ _ (by have := A5.out.bel.size; show bk < _; omega)]; exact eh
                                clear hij h0i
                                by_cases h4 : x2 ≤ aheadOf ks i
                                · have HF : Hid (r = false) := CBE.out _ rfl (by unfold callB; dsimp only; rw [decide_eq_false (p := aheadOf ks i < x2) (by omega)]; simp)
                                  have t4 : decide (x2 ≤ aheadOf ks i) = true := decide_eq_true h4
                                  generalize aheadOf ks i = ah at eh h4 t4 hge
                                  rw [hwk] at n0 n1 n2 m0 m1 m2 m3 m4 m5 m6 m7 m8 m9 ef eh
                                  go_wp2
                                  go_quiet (first | (go_at_call 23; exact Calls.quiet_of_same (in_is p1)) | (go_at_call 23; exact Calls.quiet_of_same (in_is p2)) | (go_at_call 23; exact Calls.quiet_of_same (in_is p3)))
                                  go_wp2
                                  go_ret
                                  exact ⟨ret_bV HF.out.symm, drewN_bv (by rw [← hwk]; exact A7.out.bel) _⟩
                                · have HCT : Hid (∀ j (hj : j < ks.length), j < i + 1 → callB fs st.length (aheadOf ks j) ks[j] = true) := HN.out (by unfold callB; dsimp only; rw [p1, hLA, p2, decide_eq_true (p := aheadOf ks i < x2) (by omega), decide_eq_true (p := x2 < (st.length : Int)) (by omega)]; rfl)
                                  have t4 : decide (x2 ≤ aheadOf ks i) = false := decide_eq_false h4
                                  generalize aheadOf ks i = ah at eh h4 t4 hge
                                  rw [hwk] at n0 n1 n2 m0 m1 m2 m3 m4 m5 m6 m7 m8 m9 ef eh
                                  go_wp2
                                  go_quiet (first | (go_at_call 23; exact Calls.quiet_of_same (in_is p1)) | (go_at_call 23; exact Calls.quiet_of_same (in_is p2)) | (go_at_call 23; exact Calls.quiet_of_same (in_is p3)))
                                  go_wp2
                                  go_round
                                  case rel => exact ⟨i + 1, by omega, by go_num, drewN_av (by rw [← hwk]; exact A7.out) _, HCT⟩
                                  case measure => simp [intOf]; omega
                      · obtain rfl : i = ks.length := by omega
                        have CT : Hid (callsB fs st.length ks = true) := calls_yes fun j hj => HJ.out j hj hj
                        clear HJ
                        go_wp2
                        go_loopw [8] (fun v8 wr => ∃ i : Nat, i ≤ out.length ∧ v8 = .int .i64 i ∧ Hid (ArgK w wr [.slice a0 fs.length c0, .slice aw W.length cw, .int .i64 half, .int .i64 base, .int .i64 next, .slice a2 st.length c2, .slice a3 ks.length c3, .slice a4 out.length c4, .int .i64 code, .bool each] 35) ∧ Hid (∀ j (hj : j < out.length), j < i → inB out[j] (-1073741824) 1073741823 = true)) (fun v8 _ => out.length - (intOf v8).toNat)
                        case atStart => exact ⟨0, Nat.zero_le _, rfl, A5, fun j _ hj => absurd hj (Nat.not_lt_zero _)⟩
                        case round =>
                          clear k0 k1 k2 k3 k4 k5 k6 k7 k8 k9 A5
                          obtain ⟨i, hi, rfl, A6, HJ⟩ := hrel
                          have k0 : wr.cell? ⟨w.heap.size, 0, none⟩ = some (.slice a0 fs.length c0) := A6.out.cell 0 rfl
                          have k1 : wr.cell? ⟨w.heap.size, 1, none⟩ = some (.slice aw W.length cw) := A6.out.cell 1 rfl
                          have k2 : wr.cell? ⟨w.heap.size, 2, none⟩ = some (.int .i64 half) := A6.out.cell 2 rfl
                          have k3 : wr.cell? ⟨w.heap.size, 3, none⟩ = some (.int .i64 base) := A6.out.cell 3 rfl
                          have k4 : wr.cell? ⟨w.heap.size, 4, none⟩ = some (.int .i64 next) := A6.out.cell 4 rfl
                          have k5 : wr.cell? ⟨w.heap.size, 5, none⟩ = some (.slice a2 st.length c2) := A6.out.cell 5 rfl
                          have k6 : wr.cell? ⟨w.heap.size, 6, none⟩ = some (.slice a3 ks.length c3) := A6.out.cell 6 rfl
                          have k7 : wr.cell? ⟨w.heap.size, 7, none⟩ = some (.slice a4 out.length c4) := A6.out.cell 7 rfl
                          have k8 : wr.cell? ⟨w.heap.size, 8, none⟩ = some (.int .i64 code) := A6.out.cell 8 rfl
                          have k9 : wr.cell? ⟨w.heap.size, 9, none⟩ = some (.bool each) := A6.out.cell 9 rfl
                          by_cases hlt : i < out.length
                          · obtain ⟨b', o, rfl, hS, hc, -⟩ := OA.out i hlt
                            have e0 : wr.cell? ⟨b', o + i, none⟩ = some (.int .i64 out[i]) := (A6.out.bel.cell (p := ⟨b', o + i, none⟩) hS).trans hc
                            have iI : (i : Int) < (out.length : Int) := by omega
                            clear hc
                            rcases p2 : inB out[i] (-1073741824) 1073741823 with _ | _
                            · have HF : Hid (r = false) := by show _ = _; rw [HR.out]; unfold vmB; dsimp only; rw [words_no hlt p2]; simp
                              have hc3 := fun.word_is (w := wr) p2
                              generalize out[i] = y at e0 hc3
                              clear p2
                              go_wp2_with fail
                              refine hc3.mono ?_
                              rintro e w5 ⟨rfl, hx⟩
                              subst w5
                              clear hc3
                              go_wp2
                              go_ret
                              exact ⟨ret_bV HF.out.symm, A6.out.bel⟩
                            · have HN : Hid (∀ j (hj : j < out.length), j < i + 1 → inB out[j] (-1073741824) 1073741823 = true) := fun j hj h1 => by
                                by_cases e : j = i
                                · subst e; exact p2
                                · exact HJ.out j hj (by omega)
                              have hc3 := fun.word_is (w := wr) p2
                              generalize out[i] = y at e0 hc3
                              clear p2
                              go_wp2_with fail
                              refine hc3.mono ?_
                              rintro e w5 ⟨rfl, hx⟩
                              subst w5
                              clear hc3
                              go_wp2
                              go_round
                              case rel => exact ⟨i + 1, by omega, by go_num, A6, HN⟩
                              case measure => simp [intOf]; omega
                          · obtain rfl : i = out.length := by omega
                            have HF : Hid (r = true) := by
                              show _ = _
                              rw [HR.out]; unfold vmB; dsimp only; unfold okCallsB
                              rw [Q1.out, CT.out, RT.out, Q6.out, words_yes (fun j hj => HJ.out j hj hj)]
                              simp only [Bool.and_true, Bool.true_and, Bool.and_eq_true, Bool.not_eq_true', Bool.and_eq_false_iff, decide_eq_true_eq, decide_eq_false_iff_not]
                              have := HQ.out
                              exact ⟨this.1, this.2.1, by have := this.2.2; omega⟩
                            go_wp2
                            go_ret
                            exact ⟨ret_bV HF.out.symm, A6.out.bel⟩
        · have HF : Hid (r = false) := by show _ = _; rw [HR.out]; unfold vmB; dsimp only; unfold okCallsB; simp [q4]
          have t4 : decide (120 < (ks.length : Int)) = true := by simp; omega
          go_enter Tryz.func6, Tryz.ntmps6
          go_wp2_with fail
          refine hc1.mono ?_
          rintro e w1 ⟨rfl, hb⟩
          have A1 : Hid (ArgK w w1 [.slice a0 fs.length c0, .slice aw W.length cw, .int .i64 half, .int .i64 base, .int .i64 next, .slice a2 st.length c2, .slice a3 ks.length c3, .slice a4 out.length c4, .int .i64 code, .bool each] 35) := A0.out.on hb
          have hc2' := hc2 w1 (RH.out _ A1.out.bel)
          clear hc1 hc2 hb
          have k0 : w1.cell? ⟨w.heap.size, 0, none⟩ = some (.slice a0 fs.length c0) := A1.out.cell 0 rfl
          have k1 : w1.cell? ⟨w.heap.size, 1, none⟩ = some (.slice aw W.length cw) := A1.out.cell 1 rfl
          have k2 : w1.cell? ⟨w.heap.size, 2, none⟩ = some (.int .i64 half) := A1.out.cell 2 rfl
          have k3 : w1.cell? ⟨w.heap.size, 3, none⟩ = some (.int .i64 base) := A1.out.cell 3 rfl
          have k4 : w1.cell? ⟨w.heap.size, 4, none⟩ = some (.int .i64 next) := A1.out.cell 4 rfl
          have k5 : w1.cell? ⟨w.heap.size, 5, none⟩ = some (.slice a2 st.length c2) := A1.out.cell 5 rfl
          have k6 : w1.cell? ⟨w.heap.size, 6, none⟩ = some (.slice a3 ks.length c3) := A1.out.cell 6 rfl
          have k7 : w1.cell? ⟨w.heap.size, 7, none⟩ = some (.slice a4 out.length c4) := A1.out.cell 7 rfl
          have k8 : w1.cell? ⟨w.heap.size, 8, none⟩ = some (.int .i64 code) := A1.out.cell 8 rfl
          have k9 : w1.cell? ⟨w.heap.size, 9, none⟩ = some (.bool each) := A1.out.cell 9 rfl
          go_wp2_with fail
          refine hc2'.mono ?_
          rintro e w2 ⟨rfl, hb⟩
          have A2 : Hid (ArgK w w2 [.slice a0 fs.length c0, .slice aw W.length cw, .int .i64 half, .int .i64 base, .int .i64 next, .slice a2 st.length c2, .slice a3 ks.length c3, .slice a4 out.length c4, .int .i64 code, .bool each] 35) := A1.out.on hb
          clear hc2' hb k0 k1 k2 k3 k4 k5 k6 k7 k8 k9
          have k0 : w2.cell? ⟨w.heap.size, 0, none⟩ = some (.slice a0 fs.length c0) := A2.out.cell 0 rfl
          have k1 : w2.cell? ⟨w.heap.size, 1, none⟩ = some (.slice aw W.length cw) := A2.out.cell 1 rfl
          have k2 : w2.cell? ⟨w.heap.size, 2, none⟩ = some (.int .i64 half) := A2.out.cell 2 rfl
          have k3 : w2.cell? ⟨w.heap.size, 3, none⟩ = some (.int .i64 base) := A2.out.cell 3 rfl
          have k4 : w2.cell? ⟨w.heap.size, 4, none⟩ = some (.int .i64 next) := A2.out.cell 4 rfl
          have k5 : w2.cell? ⟨w.heap.size, 5, none⟩ = some (.slice a2 st.length c2) := A2.out.cell 5 rfl
          have k6 : w2.cell? ⟨w.heap.size, 6, none⟩ = some (.slice a3 ks.length c3) := A2.out.cell 6 rfl
          have k7 : w2.cell? ⟨w.heap.size, 7, none⟩ = some (.slice a4 out.length c4) := A2.out.cell 7 rfl
          have k8 : w2.cell? ⟨w.heap.size, 8, none⟩ = some (.int .i64 code) := A2.out.cell 8 rfl
          have k9 : w2.cell? ⟨w.heap.size, 9, none⟩ = some (.bool each) := A2.out.cell 9 rfl
          go_wp2
          go_ret
          exact ⟨ret_bV HF.out.symm, A2.out.bel⟩
      · have HF : Hid (r = false) := by show _ = _; rw [HR.out]; unfold vmB; dsimp only; simp [q3]
        have t3 : decide (600 < (st.length : Int)) = true := by simp; omega
        go_enter Tryz.func6, Tryz.ntmps6
        go_wp2_with fail
        refine hc1.mono ?_
        rintro e w1 ⟨rfl, hb⟩
        have A1 : Hid (ArgK w w1 [.slice a0 fs.length c0, .slice aw W.length cw, .int .i64 half, .int .i64 base, .int .i64 next, .slice a2 st.length c2, .slice a3 ks.length c3, .slice a4 out.length c4, .int .i64 code, .bool each] 35) := A0.out.on hb
        have hc2' := hc2 w1 (RH.out _ A1.out.bel)
        clear hc1 hc2 hb
        have k0 : w1.cell? ⟨w.heap.size, 0, none⟩ = some (.slice a0 fs.length c0) := A1.out.cell 0 rfl
        have k1 : w1.cell? ⟨w.heap.size, 1, none⟩ = some (.slice aw W.length cw) := A1.out.cell 1 rfl
        have k2 : w1.cell? ⟨w.heap.size, 2, none⟩ = some (.int .i64 half) := A1.out.cell 2 rfl
        have k3 : w1.cell? ⟨w.heap.size, 3, none⟩ = some (.int .i64 base) := A1.out.cell 3 rfl
        have k4 : w1.cell? ⟨w.heap.size, 4, none⟩ = some (.int .i64 next) := A1.out.cell 4 rfl
        have k5 : w1.cell? ⟨w.heap.size, 5, none⟩ = some (.slice a2 st.length c2) := A1.out.cell 5 rfl
        have k6 : w1.cell? ⟨w.heap.size, 6, none⟩ = some (.slice a3 ks.length c3) := A1.out.cell 6 rfl
        have k7 : w1.cell? ⟨w.heap.size, 7, none⟩ = some (.slice a4 out.length c4) := A1.out.cell 7 rfl
        have k8 : w1.cell? ⟨w.heap.size, 8, none⟩ = some (.int .i64 code) := A1.out.cell 8 rfl
        have k9 : w1.cell? ⟨w.heap.size, 9, none⟩ = some (.bool each) := A1.out.cell 9 rfl
        go_wp2_with fail
        refine hc2'.mono ?_
        rintro e w2 ⟨rfl, hb⟩
        have A2 : Hid (ArgK w w2 [.slice a0 fs.length c0, .slice aw W.length cw, .int .i64 half, .int .i64 base, .int .i64 next, .slice a2 st.length c2, .slice a3 ks.length c3, .slice a4 out.length c4, .int .i64 code, .bool each] 35) := A1.out.on hb
        clear hc2' hb k0 k1 k2 k3 k4 k5 k6 k7 k8 k9
        have k0 : w2.cell? ⟨w.heap.size, 0, none⟩ = some (.slice a0 fs.length c0) := A2.out.cell 0 rfl
        have k1 : w2.cell? ⟨w.heap.size, 1, none⟩ = some (.slice aw W.length cw) := A2.out.cell 1 rfl
        have k2 : w2.cell? ⟨w.heap.size, 2, none⟩ = some (.int .i64 half) := A2.out.cell 2 rfl
        have k3 : w2.cell? ⟨w.heap.size, 3, none⟩ = some (.int .i64 base) := A2.out.cell 3 rfl
        have k4 : w2.cell? ⟨w.heap.size, 4, none⟩ = some (.int .i64 next) := A2.out.cell 4 rfl
        have k5 : w2.cell? ⟨w.heap.size, 5, none⟩ = some (.slice a2 st.length c2) := A2.out.cell 5 rfl
        have k6 : w2.cell? ⟨w.heap.size, 6, none⟩ = some (.slice a3 ks.length c3) := A2.out.cell 6 rfl
        have k7 : w2.cell? ⟨w.heap.size, 7, none⟩ = some (.slice a4 out.length c4) := A2.out.cell 7 rfl
        have k8 : w2.cell? ⟨w.heap.size, 8, none⟩ = some (.int .i64 code) := A2.out.cell 8 rfl
        have k9 : w2.cell? ⟨w.heap.size, 9, none⟩ = some (.bool each) := A2.out.cell 9 rfl
        go_wp2
        go_ret
        exact ⟨ret_bV HF.out.symm, A2.out.bel⟩

end Go.Proofs.YtjibmpebebephaaGreatDoor.vm
