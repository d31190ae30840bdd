/-
  For every bytes of a draw the law FnWords returns true: drawn numbers and places are read from their words as they were, and a word is one of both; the argument reads as it read before.
-/
import Derived.Test.YtphbbacpeojmlaaRows
import Derived.Test.YtphbbacpeojmlaaIntWordSpec
import Derived.Test.YtphbbacpeojmlaaIntWordImpl
import Derived.Test.YtphbbacpeojmlaaDraws17
import Derived.WalkKit
import Derived.ProofKit
import Derived.OpenShut
import Derived.Deep.DeepHandedRow
import Derived.ChangeOld
import Derived.Below
import Derived.Carry
namespace Go.Proofs.Ytphbbacpeojmlaa.fnWords
open Go.ChangeShapes Go.WideShapes Go.ChangeAt Go.RowKit Go.Proofs.Ytphbbacpeojmlaa Go.Proofs.Ytphbbacpeojmlaa.words Go.Proofs.Ytphbbacpeojmlaa.fun
set_option linter.unusedVariables false
set_option linter.unusedSimpArgs false
set_option maxRecDepth 100000

theorem own : ownKnob Try.prog.godebug = none := by kernel_rfl
theorem laidOut : laidOutB Try.prog = true := by kernel_rfl

theorem intWord_odd (n : Int) : intWordF n % 2 = 1 := by unfold intWordF; split <;> omega
theorem refWord_even (p : Int) : refWordF p % 2 = 0 := by unfold refWordF; split <;> omega
theorem intWord_half {n : Int} (h : inB n (-1073741824) 1073741823 = true) : intWordF n / 2 = n := by unfold intWordF; rw [h]; simp; omega
theorem refWord_half {p : Int} (h : inB p 0 6000 = true) : refWordF p / 2 = p := by unfold refWordF; rw [h]; simp
theorem intWord_in {n : Int} (h1 : -9223372036854775808 ≤ n) (h2 : n ≤ 9223372036854775807) : -9223372036854775808 ≤ intWordF n ∧ intWordF n ≤ 9223372036854775807 := by
  unfold intWordF
  split
  · rename_i h; have := inB_yes h; omega
  · omega
theorem refWord_in (p : Int) : -9223372036854775808 ≤ refWordF p ∧ refWordF p ≤ 9223372036854775807 := by
  unfold refWordF
  split
  · rename_i h; have := inB_yes h; omega
  · omega

set_option maxHeartbeats 1000000 in
theorem implWord_is {n : Int} {b : Bool} {w : World} (h : inB n (-1073741824) 1073741823 = b) :
    Calls Try.prog 20 #[.int .i64 n] w fun e w' => e = .returned (.bool b) ∧ w' = w := by
  cases b with
  | true =>
    have := inB_yes h
    go_enter Try.func20, Try.ntmps20
    go_wp2_with go_in
    all_goals
      go_ret
      exact ⟨by first | rfl | (simp; omega) | (simp at *; omega), rfl⟩
  | false =>
    have := inB_no h
    go_enter Try.func20, Try.ntmps20
    go_wp2_with go_in
    all_goals
      go_ret
      exact ⟨by first | rfl | (simp; omega) | (simp at *; omega), rfl⟩

theorem code_on {w w' : World} {a : Option Addr} {len : Nat} (h : cur.Code w.heap.size w a len) (hb : Below w.heap.size w w') : cur.Code w'.heap.size w' a len := by
  refine ⟨h.1, fun hl => ?_⟩
  obtain ⟨b, off, e, hlt, hz⟩ := h.2 hl
  refine ⟨b, off, e, Nat.lt_of_lt_of_le hlt hb.size, fun j hj => ?_⟩
  obtain ⟨z, hc1, h0, h1⟩ := hz j hj
  exact ⟨z, by rw [hb.cell (p := ⟨b, off + j, none⟩) hlt]; exact hc1, h0, h1⟩

theorem walk_big (a : Option Addr) (len cap : Nat) (hl : 1048576 < len) (hm : (len : Int) ≤ 9223372036854775807) (w : World) :
    Calls Try.prog 3 #[.slice a len cap] w fun e w' => e = .returned (.bool true) ∧ Below w.heap.size w w' := by
  have t1 : decide (1048576 < (len : Int)) = true := by simp; omega
  go_enter Try.func3, Try.ntmps3
  go_wp2
  go_ret
  exact ⟨rfl, Below.refl _ _⟩

set_option maxRecDepth 100000 in
set_option maxHeartbeats 4000000 in
theorem walk_small (a : Option Addr) (len cap : Nat) (w : World) (hC : cur.Code w.heap.size w a len) :
    Calls Try.prog 3 #[.slice a len cap] w fun e w' => e = .returned (.bool true) ∧ Below w.heap.size w w' := by
  have hl := hC.1
  have t1 : decide (1048576 < (len : Int)) = false := by simp; omega
  have HC : Hid (cur.Code w.heap.size w a len) := hC
  clear hC
  go_enter Try.func3, Try.ntmps3
  go_wp2_with (go_at_call 4; go_in)
  refine (cur.drawIntWord_any a len cap _ HC.out).mono ?_
  rintro e w1 ⟨n, rfl, n0, n1, hb⟩
  have B1 : Hid (Below w.heap.size w w1) := hb
  clear hb
  go_wp2_with fail
  refine (cur.drawRefWord_any a len cap _ (code_on HC.out B1.out)).mono ?_
  rintro e w2 ⟨p, rfl, p0, p1, hb⟩
  have B2 : Hid (Below w.heap.size w w2) := B1.out.trans (hb.mono B1.out.size)
  clear hb B1
  go_wp2_with fail
  refine (implIntWord n w2 n0 n1).mono ?_
  rintro e w3 ⟨rfl, hb⟩
  have B3 : Hid (Below w.heap.size w w3) := B2.out.trans (hb.mono B2.out.size)
  clear hb B2
  go_wp2_with fail
  refine (implRefWord p w3 p0 p1).mono ?_
  rintro e w4 ⟨rfl, hb⟩
  have B4 : Hid (Below w.heap.size w w4) := B3.out.trans (hb.mono B3.out.size)
  clear hb B3
  go_wp2_with fail
  refine (cur.drawWordInt_any a len cap _ (code_on HC.out B4.out)).mono ?_
  rintro e w5 ⟨x, rfl, x0, x1, hb⟩
  have B5 : Hid (Below w.heap.size w w5) := B4.out.trans (hb.mono B4.out.size)
  clear hb B4
  go_wp2_with fail
  refine (cur.drawWordRef_any a len cap _ (code_on HC.out B5.out)).mono ?_
  rintro e w6 ⟨y, rfl, y0, y1, hb⟩
  have B6 : Hid (Below w.heap.size w w6) := B5.out.trans (hb.mono B5.out.size)
  clear hb B5
  go_wp2_with fail
  refine (cur.drawIsRef_any a len cap _ (code_on HC.out B6.out)).mono ?_
  rintro e w7 ⟨z, rfl, z0, z1, hb⟩
  have B7 : Hid (Below w.heap.size w w7) := B6.out.trans (hb.mono B6.out.size)
  clear hb B6
  obtain ⟨A, hA⟩ : ∃ A, A = intWordF n := ⟨_, rfl⟩
  obtain ⟨B, hB⟩ : ∃ B, B = refWordF p := ⟨_, rfl⟩
  have SI : Hid (∀ W, Calls Try.prog 12 #[.int .i64 n] W fun e w' => e = .returned (.int .i64 A) ∧ Below W.heap.size W w') := fun W => by rw [hA]; exact specIntWord n W n0 n1
  have SR : Hid (∀ W, Calls Try.prog 13 #[.int .i64 p] W fun e w' => e = .returned (.int .i64 B) ∧ Below W.heap.size W w') := fun W => by rw [hB]; exact specRefWord p W p0 p1
  have a0 : -9223372036854775808 ≤ A ∧ A ≤ 9223372036854775807 := by rw [hA]; exact intWord_in n0 n1
  have b0 : -9223372036854775808 ≤ B ∧ B ≤ 9223372036854775807 := by rw [hB]; exact refWord_in p
  have FA : Hid (isRefF A = false) := by show _ = _; unfold isRefF; rw [hA, intWord_odd]; rfl
  have FB : Hid (isRefF B = true) := by show _ = _; unfold isRefF; rw [hB, refWord_even]; rfl
  have HA : Hid (inB n (-1073741824) 1073741823 = true → halfF A = n) := fun h => by unfold halfF; rw [hA]; exact intWord_half h
  have HB : Hid (inB p 0 6000 = true → halfF B = p) := fun h => by unfold halfF; rw [hB]; exact refWord_half h
  rw [← hA, ← hB]
  clear hA hB
  have IR : Hid (∀ W, Calls Try.prog 18 #[.int .i64 A] W fun e w' => e = .returned (.bool false) ∧ Below W.heap.size W w') := fun W => by have := implIsRef A W a0.1 a0.2; rw [FA.out] at this; exact this
  have IS : Hid (∀ W, Calls Try.prog 18 #[.int .i64 B] W fun e w' => e = .returned (.bool true) ∧ Below W.heap.size W w') := fun W => by have := implIsRef B W b0.1 b0.2; rw [FB.out] at this; exact this
  have G : Hid (∃ W7, W7 = w7) := ⟨_, rfl⟩
  have step : ∀ {w' w'' : World}, Below w.heap.size w w' → Below w'.heap.size w' w'' → Below w.heap.size w w'' := fun h1 h2 => h1.trans (h2.mono h1.size)
  have H2 : Hid (p < 0 ∨ (0 ≤ p ∧ 6000 < p) ∨ inB p 0 6000 = true) := by
    show _ ∨ _
    rcases q2 : inB p 0 6000 with _ | _
    · have := inB_no q2
      rcases Int.lt_or_le p 0 with z | z
      · exact .inl z
      · exact .inr (.inl ⟨z, by omega⟩)
    · exact .inr (.inr rfl)
  rcases q1 : inB n (-1073741824) 1073741823 with _ | _
  · rcases H2.out with h2 | ⟨h1, h2⟩ | q2
    · have p2 : decide (p < 0) = true := by simpa using h2
      go_wp2_with fail
      refine (SI.out _).mono ?_
      rintro e w8 ⟨rfl, hb⟩
      have B8 := step B7.out hb
      clear hb
      go_wp2_with fail
      refine (SR.out _).mono ?_
      rintro e w9 ⟨rfl, hb⟩
      have B9 := step B8 hb
      clear hb
      go_wp2_with fail
      refine (implWordInt x _ x0 x1).mono ?_
      rintro e w10 ⟨rfl, hb⟩
      have B10 := step B9 hb
      clear hb
      go_wp2_with fail
      refine (specWordInt x _ x0 x1).mono ?_
      rintro e w11 ⟨rfl, hb⟩
      have B11 := step B10 hb
      clear hb
      go_wp2_with fail
      refine (implWordRef y _ y0 y1).mono ?_
      rintro e w12 ⟨rfl, hb⟩
      have B12 := step B11 hb
      clear hb
      go_wp2_with fail
      refine (specWordRef y _ y0 y1).mono ?_
      rintro e w13 ⟨rfl, hb⟩
      have B13 := step B12 hb
      clear hb
      go_wp2_with fail
      refine (implIsRef z _ z0 z1).mono ?_
      rintro e w14 ⟨rfl, hb⟩
      have B14 := step B13 hb
      clear hb
      go_wp2_with fail
      refine (specIsRef z _ z0 z1).mono ?_
      rintro e w15 ⟨rfl, hb⟩
      have B15 := step B14 hb
      clear hb
      go_wp2_with fail
      refine (IR.out _).mono ?_
      rintro e w16 ⟨rfl, hb⟩
      have B16 := step B15 hb
      clear hb
      go_wp2_with fail
      refine (IS.out _).mono ?_
      rintro e w17 ⟨rfl, hb⟩
      have B17 := step B16 hb
      clear hb
      go_wp2_with (first
        | (go_at_call 20; refine (implWord_is q1).mono ?_; rintro e w' ⟨rfl, hx⟩; subst w'))
      all_goals
        go_ret
        exact ⟨by first | rfl | simp, by first | exact B19 | exact B18 | exact B17⟩
    · have p2 : decide (p < 0) = false := by simp; omega
      have p3 : decide (6000 < p) = true := by simpa using h2
      go_wp2_with fail
      refine (SI.out _).mono ?_
      rintro e w8 ⟨rfl, hb⟩
      have B8 := step B7.out hb
      clear hb
      go_wp2_with fail
      refine (SR.out _).mono ?_
      rintro e w9 ⟨rfl, hb⟩
      have B9 := step B8 hb
      clear hb
      go_wp2_with fail
      refine (implWordInt x _ x0 x1).mono ?_
      rintro e w10 ⟨rfl, hb⟩
      have B10 := step B9 hb
      clear hb
      go_wp2_with fail
      refine (specWordInt x _ x0 x1).mono ?_
      rintro e w11 ⟨rfl, hb⟩
      have B11 := step B10 hb
      clear hb
      go_wp2_with fail
      refine (implWordRef y _ y0 y1).mono ?_
      rintro e w12 ⟨rfl, hb⟩
      have B12 := step B11 hb
      clear hb
      go_wp2_with fail
      refine (specWordRef y _ y0 y1).mono ?_
      rintro e w13 ⟨rfl, hb⟩
      have B13 := step B12 hb
      clear hb
      go_wp2_with fail
      refine (implIsRef z _ z0 z1).mono ?_
      rintro e w14 ⟨rfl, hb⟩
      have B14 := step B13 hb
      clear hb
      go_wp2_with fail
      refine (specIsRef z _ z0 z1).mono ?_
      rintro e w15 ⟨rfl, hb⟩
      have B15 := step B14 hb
      clear hb
      go_wp2_with fail
      refine (IR.out _).mono ?_
      rintro e w16 ⟨rfl, hb⟩
      have B16 := step B15 hb
      clear hb
      go_wp2_with fail
      refine (IS.out _).mono ?_
      rintro e w17 ⟨rfl, hb⟩
      have B17 := step B16 hb
      clear hb
      go_wp2_with (first
        | (go_at_call 20; refine (implWord_is q1).mono ?_; rintro e w' ⟨rfl, hx⟩; subst w'))
      all_goals
        go_ret
        exact ⟨by first | rfl | simp, by first | exact B19 | exact B18 | exact B17⟩
    · have WR : Hid (∀ W, Calls Try.prog 16 #[.int .i64 B] W fun e w' => e = .returned (.int .i64 p) ∧ Below W.heap.size W w') := fun W => by have := implWordRef B W b0.1 b0.2; rw [HB.out q2] at this; exact this
      have := inB_yes q2
      have p2 : decide (p < 0) = false := by simp; omega
      have p3 : decide (6000 < p) = false := by simp; omega
      clear this
      go_wp2_with fail
      refine (SI.out _).mono ?_
      rintro e w8 ⟨rfl, hb⟩
      have B8 := step B7.out hb
      clear hb
      go_wp2_with fail
      refine (SR.out _).mono ?_
      rintro e w9 ⟨rfl, hb⟩
      have B9 := step B8 hb
      clear hb
      go_wp2_with fail
      refine (implWordInt x _ x0 x1).mono ?_
      rintro e w10 ⟨rfl, hb⟩
      have B10 := step B9 hb
      clear hb
      go_wp2_with fail
      refine (specWordInt x _ x0 x1).mono ?_
      rintro e w11 ⟨rfl, hb⟩
      have B11 := step B10 hb
      clear hb
      go_wp2_with fail
      refine (implWordRef y _ y0 y1).mono ?_
      rintro e w12 ⟨rfl, hb⟩
      have B12 := step B11 hb
      clear hb
      go_wp2_with fail
      refine (specWordRef y _ y0 y1).mono ?_
      rintro e w13 ⟨rfl, hb⟩
      have B13 := step B12 hb
      clear hb
      go_wp2_with fail
      refine (implIsRef z _ z0 z1).mono ?_
      rintro e w14 ⟨rfl, hb⟩
      have B14 := step B13 hb
      clear hb
      go_wp2_with fail
      refine (specIsRef z _ z0 z1).mono ?_
      rintro e w15 ⟨rfl, hb⟩
      have B15 := step B14 hb
      clear hb
      go_wp2_with fail
      refine (IR.out _).mono ?_
      rintro e w16 ⟨rfl, hb⟩
      have B16 := step B15 hb
      clear hb
      go_wp2_with fail
      refine (IS.out _).mono ?_
      rintro e w17 ⟨rfl, hb⟩
      have B17 := step B16 hb
      clear hb
      go_wp2_with (first
        | (go_at_call 20; refine (implWord_is q1).mono ?_; rintro e w' ⟨rfl, hx⟩; subst w')
        | (go_at_call 16; refine (WR.out _).mono ?_; rintro e w19 ⟨rfl, hb⟩; have B19 := step B17 hb; clear hb))
      all_goals
        go_ret
        exact ⟨by first | rfl | simp, by first | exact B19 | exact B18 | exact B17⟩
  · rcases H2.out with h2 | ⟨h1, h2⟩ | q2
    · have WI : Hid (∀ W, Calls Try.prog 14 #[.int .i64 A] W fun e w' => e = .returned (.int .i64 n) ∧ Below W.heap.size W w') := fun W => by have := implWordInt A W a0.1 a0.2; rw [HA.out q1] at this; exact this
      have p2 : decide (p < 0) = true := by simpa using h2
      go_wp2_with fail
      refine (SI.out _).mono ?_
      rintro e w8 ⟨rfl, hb⟩
      have B8 := step B7.out hb
      clear hb
      go_wp2_with fail
      refine (SR.out _).mono ?_
      rintro e w9 ⟨rfl, hb⟩
      have B9 := step B8 hb
      clear hb
      go_wp2_with fail
      refine (implWordInt x _ x0 x1).mono ?_
      rintro e w10 ⟨rfl, hb⟩
      have B10 := step B9 hb
      clear hb
      go_wp2_with fail
      refine (specWordInt x _ x0 x1).mono ?_
      rintro e w11 ⟨rfl, hb⟩
      have B11 := step B10 hb
      clear hb
      go_wp2_with fail
      refine (implWordRef y _ y0 y1).mono ?_
      rintro e w12 ⟨rfl, hb⟩
      have B12 := step B11 hb
      clear hb
      go_wp2_with fail
      refine (specWordRef y _ y0 y1).mono ?_
      rintro e w13 ⟨rfl, hb⟩
      have B13 := step B12 hb
      clear hb
      go_wp2_with fail
      refine (implIsRef z _ z0 z1).mono ?_
      rintro e w14 ⟨rfl, hb⟩
      have B14 := step B13 hb
      clear hb
      go_wp2_with fail
      refine (specIsRef z _ z0 z1).mono ?_
      rintro e w15 ⟨rfl, hb⟩
      have B15 := step B14 hb
      clear hb
      go_wp2_with fail
      refine (IR.out _).mono ?_
      rintro e w16 ⟨rfl, hb⟩
      have B16 := step B15 hb
      clear hb
      go_wp2_with fail
      refine (IS.out _).mono ?_
      rintro e w17 ⟨rfl, hb⟩
      have B17 := step B16 hb
      clear hb
      go_wp2_with (first
        | (go_at_call 20; refine (implWord_is q1).mono ?_; rintro e w' ⟨rfl, hx⟩; subst w')
        | (go_at_call 14; refine (WI.out _).mono ?_; rintro e w18 ⟨rfl, hb⟩; have B18 := step B17 hb; clear hb))
      all_goals
        go_ret
        exact ⟨by first | rfl | simp, by first | exact B19 | exact B18 | exact B17⟩
    · have WI : Hid (∀ W, Calls Try.prog 14 #[.int .i64 A] W fun e w' => e = .returned (.int .i64 n) ∧ Below W.heap.size W w') := fun W => by have := implWordInt A W a0.1 a0.2; rw [HA.out q1] at this; exact this
      have p2 : decide (p < 0) = false := by simp; omega
      have p3 : decide (6000 < p) = true := by simpa using h2
      go_wp2_with fail
      refine (SI.out _).mono ?_
      rintro e w8 ⟨rfl, hb⟩
      have B8 := step B7.out hb
      clear hb
      go_wp2_with fail
      refine (SR.out _).mono ?_
      rintro e w9 ⟨rfl, hb⟩
      have B9 := step B8 hb
      clear hb
      go_wp2_with fail
      refine (implWordInt x _ x0 x1).mono ?_
      rintro e w10 ⟨rfl, hb⟩
      have B10 := step B9 hb
      clear hb
      go_wp2_with fail
      refine (specWordInt x _ x0 x1).mono ?_
      rintro e w11 ⟨rfl, hb⟩
      have B11 := step B10 hb
      clear hb
      go_wp2_with fail
      refine (implWordRef y _ y0 y1).mono ?_
      rintro e w12 ⟨rfl, hb⟩
      have B12 := step B11 hb
      clear hb
      go_wp2_with fail
      refine (specWordRef y _ y0 y1).mono ?_
      rintro e w13 ⟨rfl, hb⟩
      have B13 := step B12 hb
      clear hb
      go_wp2_with fail
      refine (implIsRef z _ z0 z1).mono ?_
      rintro e w14 ⟨rfl, hb⟩
      have B14 := step B13 hb
      clear hb
      go_wp2_with fail
      refine (specIsRef z _ z0 z1).mono ?_
      rintro e w15 ⟨rfl, hb⟩
      have B15 := step B14 hb
      clear hb
      go_wp2_with fail
      refine (IR.out _).mono ?_
      rintro e w16 ⟨rfl, hb⟩
      have B16 := step B15 hb
      clear hb
      go_wp2_with fail
      refine (IS.out _).mono ?_
      rintro e w17 ⟨rfl, hb⟩
      have B17 := step B16 hb
      clear hb
      go_wp2_with (first
        | (go_at_call 20; refine (implWord_is q1).mono ?_; rintro e w' ⟨rfl, hx⟩; subst w')
        | (go_at_call 14; refine (WI.out _).mono ?_; rintro e w18 ⟨rfl, hb⟩; have B18 := step B17 hb; clear hb))
      all_goals
        go_ret
        exact ⟨by first | rfl | simp, by first | exact B19 | exact B18 | exact B17⟩
    · have WI : Hid (∀ W, Calls Try.prog 14 #[.int .i64 A] W fun e w' => e = .returned (.int .i64 n) ∧ Below W.heap.size W w') := fun W => by have := implWordInt A W a0.1 a0.2; rw [HA.out q1] at this; exact this
      have WR : Hid (∀ W, Calls Try.prog 16 #[.int .i64 B] W fun e w' => e = .returned (.int .i64 p) ∧ Below W.heap.size W w') := fun W => by have := implWordRef B W b0.1 b0.2; rw [HB.out q2] at this; exact this
      have := inB_yes q2
      have p2 : decide (p < 0) = false := by simp; omega
      have p3 : decide (6000 < p) = false := by simp; omega
      clear this
      go_wp2_with fail
      refine (SI.out _).mono ?_
      rintro e w8 ⟨rfl, hb⟩
      have B8 := step B7.out hb
      clear hb
      go_wp2_with fail
      refine (SR.out _).mono ?_
      rintro e w9 ⟨rfl, hb⟩
      have B9 := step B8 hb
      clear hb
      go_wp2_with fail
      refine (implWordInt x _ x0 x1).mono ?_
      rintro e w10 ⟨rfl, hb⟩
      have B10 := step B9 hb
      clear hb
      go_wp2_with fail
      refine (specWordInt x _ x0 x1).mono ?_
      rintro e w11 ⟨rfl, hb⟩
      have B11 := step B10 hb
      clear hb
      go_wp2_with fail
      refine (implWordRef y _ y0 y1).mono ?_
      rintro e w12 ⟨rfl, hb⟩
      have B12 := step B11 hb
      clear hb
      go_wp2_with fail
      refine (specWordRef y _ y0 y1).mono ?_
      rintro e w13 ⟨rfl, hb⟩
      have B13 := step B12 hb
      clear hb
      go_wp2_with fail
      refine (implIsRef z _ z0 z1).mono ?_
      rintro e w14 ⟨rfl, hb⟩
      have B14 := step B13 hb
      clear hb
      go_wp2_with fail
      refine (specIsRef z _ z0 z1).mono ?_
      rintro e w15 ⟨rfl, hb⟩
      have B15 := step B14 hb
      clear hb
      go_wp2_with fail
      refine (IR.out _).mono ?_
      rintro e w16 ⟨rfl, hb⟩
      have B16 := step B15 hb
      clear hb
      go_wp2_with fail
      refine (IS.out _).mono ?_
      rintro e w17 ⟨rfl, hb⟩
      have B17 := step B16 hb
      clear hb
      go_wp2_with (first
        | (go_at_call 20; refine (implWord_is q1).mono ?_; rintro e w' ⟨rfl, hx⟩; subst w')
        | (go_at_call 14; refine (WI.out _).mono ?_; rintro e w18 ⟨rfl, hb⟩; have B18 := step B17 hb; clear hb)
        | (go_at_call 16; refine (WR.out _).mono ?_; rintro e w19 ⟨rfl, hb⟩; have B19 := step B18 hb; clear hb))
      all_goals
        go_ret
        exact ⟨by first | rfl | simp, by first | exact B19 | exact B18 | exact B17⟩
theorem cell_lt {w : World} {b o : Nat} {v : Value} (h : w.cell? ⟨b, o, none⟩ = some v) : b < w.heap.size := by
  rcases Nat.lt_or_ge b w.heap.size with h' | h'
  · exact h'
  · simp [World.cell?, Array.getElem?_eq_none h'] at h

theorem walk (a : Option Addr) (len cap : Nat) (zs : List Int) (w : World)
    (hr : (a = none ∧ len = 0 ∧ cap = 0 ∧ zs = []) ∨ ∃ x, a = some x ∧ len ≤ cap ∧ cap ≤ maxLen ∧ zs.length = cap ∧ (∀ i, i < zs.length → w.cell? (x.add i) = some (.int .u8 (zs.getD i 0))) ∧ ∀ n ∈ zs, (Lit.int .u8 n).wf = true) :
    Calls Try.prog 3 #[.slice a len cap] w fun e w' => e = .returned (.bool true) ∧ Below w.heap.size w w' := by
  by_cases hl : len ≤ 1048576
  · refine walk_small a len cap w ⟨hl, fun h0 => ?_⟩
    rcases hr with ⟨_, h, _, _⟩ | ⟨x, rfl, hlc, hm, hz, hcell, hwz⟩
    · omega
    · obtain ⟨b, off, spot⟩ := x
      have hc := hcell 0 (by omega)
      have hspot : spot = none := by simpa [Addr.add] using World.cell?_spot hc
      subst hspot
      have hc' : ∀ j, j < len → w.cell? ⟨b, off + j, none⟩ = some (.int .u8 (zs.getD j 0)) := fun j hj => by
        have := hcell j (by omega)
        rwa [WideShapes.add_plain] at this
      refine ⟨b, off, rfl, cell_lt (hc' 0 h0), fun j hj => ⟨zs.getD j 0, hc' j hj, ?_⟩⟩
      have hmem : zs.getD j 0 ∈ zs := by
        rw [List.getD_eq_getElem?_getD, List.getElem?_eq_getElem (by omega)]
        exact List.getElem_mem _
      exact bounds_u8 (hwz _ hmem)
  · refine walk_big a len cap (by omega) ?_ w
    rcases hr with ⟨_, h, _, _⟩ | ⟨x, rfl, hlc, hm, hz, hcell, hwz⟩
    · omega
    · unfold maxLen at hm; omega

theorem lifted (os : Os) (started : os.Started) (H : Type) (enc : TypeId × Value → H) :
    ReturnsInHanded {} Try.checked os 3 .any (Rows.fnWordsSpec.pre6 enc Try.prog Try.f3 Rows.fnWordsRow.domain false) (Rows.fnWordsSpec.post enc Try.prog Try.f3 false true false false) := by
  refine returnsInHanded_of_change (C := Try.checked) own started (by kernel_rfl) Try.func3
    (ChangeSpec.witness6 (enc := enc) (C := Try.checked) false ⟨#[], #[.slice none 0 0], []⟩ 8 (by kernel_rfl) (by kernel_rfl) (by kernel_rfl) (by kernel_rfl)) ?_
  intro W base args ds gs before hval0 hW hcnd _
  have hval : ∀ (j : Nat) t v, Try.f3.params[j]? = some t → args[j]? = some v → Value.okWide Try.prog W .any base t v := hval0
  have hW' := hW
  obtain ⟨p, q, hA0, hV, rfl, hfz, hnd⟩ := hW
  have hA : DataW.TrodAll enc Try.prog W 0 (fun _ => true) true Try.f3.params.toList args.toList ds p := hA0
  rw [Try.params3] at hA hval
  obtain ⟨v0, vs0, d0, ds0, p0, q0, hargs, rfl, rfl, h0, r0⟩ := trodAll_cons hA
  obtain ⟨rfl, rfl, rfl⟩ := trodAll_nil r0
  obtain rfl : args = #[v0] := by cases args; simp_all
  obtain ⟨rfl, rfl⟩ := trodVars_none hV
  have k0 := h0
  have lt0 : ∀ x ∈ p0, x.block < W.heap.size := by obtain ⟨m, hm⟩ := k0; exact DataW.trod_lt m _ _ _ hm
  obtain ⟨a0, len0, cap0, rfl⟩ := okWide_slice Try.underlying22 (hval 0 22 v0 rfl rfl)
  obtain ⟨z0, w0⟩ : ∃ zs : List Int, (a0 = none ∧ len0 = 0 ∧ cap0 = 0 ∧ zs = []) ∨ ∃ x, a0 = some x ∧ len0 ≤ cap0 ∧ cap0 ≤ maxLen ∧ zs.length = cap0 ∧ (∀ i, i < zs.length → W.cell? (x.add i) = some (.int .u8 (zs.getD i 0))) ∧ ∀ n ∈ zs, (Lit.int .u8 n).wf = true := by
    obtain ⟨fuel, hf⟩ := h0
    rcases open_ints Try.underlying22 Try.underlying5 (by kernel_rfl) hf with ⟨hcs, _⟩ | ⟨x, l, c, zs, hcs, _, hl, hm, hz, _, hcell, hwz⟩
    · simp [Value.cells] at hcs
      obtain ⟨rfl, rfl, rfl⟩ := hcs
      exact ⟨[], .inl ⟨rfl, rfl, rfl, rfl⟩⟩
    · simp [Value.cells] at hcs
      obtain ⟨rfl, rfl, rfl⟩ := hcs
      exact ⟨zs, .inr ⟨_, rfl, hl, hm, by simpa using hz, hcell, hwz⟩⟩
  clear hA0 hval0
  refine (walk a0 len0 cap0 z0 W w0).mono fun e W' ⟨he, bel⟩ => ?_
  subst he
  exact ⟨_, rfl, _, _, _, [], _, [], hW', trodAll_mk1 (shut_bool Try.underlying4 _), (trodAll_cons_mk (Below.trod laidOut (by kernel_rfl) (of_decide_eq_true (by kernel_rfl)) k0 bel lt0) trodAll_mk0), rfl, bel.frame _, fun h => by cases h⟩

theorem over : Rows.fnWordsRow.holds Try.pinned (OpenSpec.ofChange Rows.fnWordsSpec) :=
  OpenClaim.holds_of_wide 3 Try.f3 rfl rfl rfl rfl rfl rfl rfl ⟨rfl, rfl, rfl, rfl, rfl⟩ rfl rfl rfl rfl rfl (by kernel_rfl) Try.func3 (by kernel_rfl)
    (of_decide_eq_true (by kernel_rfl)) (by unfold Func.isWrapper; first | (rw [if_pos (by decide +kernel)]; kernel_rfl) | (rw [if_neg (by decide +kernel)]; exact ⟨rfl, rfl⟩))
    (fun os started H enc _ => lifted os started H enc)

/-- THE STATEMENT. -/
theorem proved : Rows.FnWordsSaid :=
  over
#print axioms proved
end Go.Proofs.Ytphbbacpeojmlaa.fnWords
