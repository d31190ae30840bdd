/-
  The program's IntWord, RefWord, IsRef, WordInt and WordRef, at every number.
-/
import Derived.Test.YtphbbacpeojmlaaWordsSpec
import Derived.Test.YtphbbacpeojmlaaWordImpl
namespace Go.Proofs.Ytphbbacpeojmlaa.words
open Go Go.RowKit Go.Proofs.Ytphbbacpeojmlaa Go.Proofs.Ytphbbacpeojmlaa.fun
set_option linter.unusedVariables false
set_option linter.unusedSimpArgs false

set_option maxHeartbeats 1000000 in
theorem implIntWord (n : Int) (w : World) (h1 : -9223372036854775808 ≤ n) (h2 : n ≤ 9223372036854775807) :
    Calls Try.prog 7 #[.int .i64 n] w fun e w' => e = .returned (.int .i64 (intWordF n)) ∧ Below w.heap.size w w' := by
  rcases q : inB n (-1073741824) 1073741823 with _ | _
  · have HQ : Hid (intWordF n = 1) := by show _ = _; unfold intWordF; rw [q]; rfl
    go_enter Try.func7, Try.ntmps7
    go_wp2_with (go_at_call 20; refine (wordI_is q).mono ?_; rintro e w' ⟨rfl, hx⟩; subst w')
    go_ret
    exact ⟨ret_i HQ.out.symm, Below.refl _ _⟩
  · have HQ : Hid (intWordF n = 2 * n + 1) := by show _ = _; unfold intWordF; rw [q]; rfl
    have := inB_yes q
    go_enter Try.func7, Try.ntmps7
    go_wp2_with (go_at_call 20; refine (wordI_is q).mono ?_; rintro e w' ⟨rfl, hx⟩; subst w')
    go_ret
    exact ⟨ret_i HQ.out.symm, Below.refl _ _⟩
set_option maxHeartbeats 1000000 in
theorem implRefWord (n : Int) (w : World) (h1 : -9223372036854775808 ≤ n) (h2 : n ≤ 9223372036854775807) :
    Calls Try.prog 8 #[.int .i64 n] w fun e w' => e = .returned (.int .i64 (refWordF n)) ∧ Below w.heap.size w w' := by
  rcases q : inB n 0 6000 with _ | _
  · have HQ : Hid (refWordF n = 0) := by show _ = _; unfold refWordF; rw [q]; rfl
    by_cases h3 : n < 0
    · have t1 : decide (n < 0) = true := decide_eq_true h3
      go_enter Try.func8, Try.ntmps8
      go_wp2
      go_ret
      exact ⟨ret_i HQ.out.symm, Below.refl _ _⟩
    · have t1 : decide (n < 0) = false := decide_eq_false h3
      have t2 : decide (6000 < n) = true := by have := inB_no q; simp; omega
      go_enter Try.func8, Try.ntmps8
      go_wp2
      go_ret
      exact ⟨ret_i HQ.out.symm, Below.refl _ _⟩
  · have HQ : Hid (refWordF n = 2 * n) := by show _ = _; unfold refWordF; rw [q]; rfl
    have := inB_yes q
    have t1 : decide (n < 0) = false := decide_eq_false (by omega)
    have t2 : decide (6000 < n) = false := decide_eq_false (by omega)
    go_enter Try.func8, Try.ntmps8
    go_wp2
    go_ret
    exact ⟨ret_i HQ.out.symm, Below.refl _ _⟩
set_option maxHeartbeats 1000000 in
theorem implIsRef (n : Int) (w : World) (h1 : -9223372036854775808 ≤ n) (h2 : n ≤ 9223372036854775807) :
    Calls Try.prog 18 #[.int .i64 n] w fun e w' => e = .returned (.bool (isRefF n)) ∧ Below w.heap.size w w' := by
  have ha := and_one n
  go_enter Try.func18, Try.ntmps18
  go_wp2
  go_ret
  exact ⟨ret_b (by unfold isRefF; rw [Bool.eq_iff_iff]; simp), Below.refl _ _⟩
set_option maxHeartbeats 1000000 in
theorem implWordInt (n : Int) (w : World) (h1 : -9223372036854775808 ≤ n) (h2 : n ≤ 9223372036854775807) :
    Calls Try.prog 14 #[.int .i64 n] w fun e w' => e = .returned (.int .i64 (halfF n)) ∧ Below w.heap.size w w' := by
  go_enter Try.func14, Try.ntmps14
  go_wp2
  go_ret
  exact ⟨ret_i (by unfold halfF; first | rfl | omega), Below.refl _ _⟩
set_option maxHeartbeats 1000000 in
theorem implWordRef (n : Int) (w : World) (h1 : -9223372036854775808 ≤ n) (h2 : n ≤ 9223372036854775807) :
    Calls Try.prog 16 #[.int .i64 n] w fun e w' => e = .returned (.int .i64 (halfF n)) ∧ Below w.heap.size w w' := by
  go_enter Try.func16, Try.ntmps16
  go_wp2
  go_ret
  exact ⟨ret_i (by unfold halfF; first | rfl | omega), Below.refl _ _⟩

end Go.Proofs.Ytphbbacpeojmlaa.words
