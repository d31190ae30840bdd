/-
  The model's IntWord, RefWord, IsRef, WordInt and WordRef, at every number.
-/
import Derived.Test.YtigcpigmfcgaoaaB1
import Derived.Test.YtigcpigmfcgaoaaB2
import Derived.Test.YtigcpigmfcgaoaaB3
import Derived.Test.YtigcpigmfcgaoaaB4
import Derived.Test.YtigcpigmfcgaoaaB5
import Derived.Test.YtigcpigmfcgaoaaB6
import Derived.Test.YtigcpigmfcgaoaaB7
import Derived.Test.YtigcpigmfcgaoaaB8
import Derived.Test.YtigcpigmfcgaoaaB9
import Derived.Test.YtigcpigmfcgaoaaB10
import Derived.Test.YtigcpigmfcgaoaaB11
import Derived.Test.YtigcpigmfcgaoaaB12
import Derived.Test.YtigcpigmfcgaoaaB13
import Derived.Test.YtigcpigmfcgaoaaB14
import Derived.Test.YtigcpigmfcgaoaaB15
import Derived.Test.YtigcpigmfcgaoaaB16
import Derived.Test.YtigcpigmfcgaoaaB17
namespace Go.Proofs.Ytigcpigmfcgaoaa.words
open Go Go.RowKit Go.Proofs.Ytigcpigmfcgaoaa Go.Proofs.Ytigcpigmfcgaoaa.fun
set_option linter.unusedVariables false
set_option linter.unusedSimpArgs false

set_option maxHeartbeats 1000000 in
theorem specIntWord (n : Int) (w : World) (h1 : -9223372036854775808 ≤ n) (h2 : n ≤ 9223372036854775807) :
    Calls Try.prog 62 #[.int .i64 n] w fun e w' => e = .returned (.int .i64 (intWordF n)) ∧ Below w.heap.size w w' := by
  rcases q : inB n (-1073741824) 1073741823 with _ | _
  · have HQ : Hid (intWordF n = 1) := by show _ = _; unfold intWordF; rw [q]; rfl
    go_enter Try.func62, Try.ntmps62
    go_wp2_with (go_at_call 57; refine (word_is q).mono ?_; rintro e w' ⟨rfl, hx⟩; subst w')
    go_ret
    exact ⟨ret_i HQ.out.symm, Below.refl _ _⟩
  · have HQ : Hid (intWordF n = 2 * n + 1) := by show _ = _; unfold intWordF; rw [q]; rfl
    have := inB_yes q
    go_enter Try.func62, Try.ntmps62
    go_wp2_with (go_at_call 57; refine (word_is q).mono ?_; rintro e w' ⟨rfl, hx⟩; subst w')
    go_ret
    exact ⟨ret_i HQ.out.symm, Below.refl _ _⟩
set_option maxHeartbeats 1000000 in
theorem specRefWord (n : Int) (w : World) (h1 : -9223372036854775808 ≤ n) (h2 : n ≤ 9223372036854775807) :
    Calls Try.prog 63 #[.int .i64 n] w fun e w' => e = .returned (.int .i64 (refWordF n)) ∧ Below w.heap.size w w' := by
  rcases q : inB n 0 6000 with _ | _
  · have HQ : Hid (refWordF n = 0) := by show _ = _; unfold refWordF; rw [q]; rfl
    go_enter Try.func63, Try.ntmps63
    go_wp2_with (go_at_call 29; refine (in_is q).mono ?_; rintro e w' ⟨rfl, hx⟩; subst w')
    go_ret
    exact ⟨ret_i HQ.out.symm, Below.refl _ _⟩
  · have HQ : Hid (refWordF n = 2 * n) := by show _ = _; unfold refWordF; rw [q]; rfl
    have := inB_yes q
    go_enter Try.func63, Try.ntmps63
    go_wp2_with (go_at_call 29; refine (in_is q).mono ?_; rintro e w' ⟨rfl, hx⟩; subst w')
    go_ret
    exact ⟨ret_i HQ.out.symm, Below.refl _ _⟩
set_option maxHeartbeats 1000000 in
theorem specIsRef (n : Int) (w : World) (h1 : -9223372036854775808 ≤ n) (h2 : n ≤ 9223372036854775807) :
    Calls Try.prog 56 #[.int .i64 n] w fun e w' => e = .returned (.bool (isRefF n)) ∧ Below w.heap.size w w' := by
  have ha := and_one n
  go_enter Try.func56, Try.ntmps56
  go_wp2
  go_ret
  exact ⟨ret_b (by unfold isRefF; rw [Bool.eq_iff_iff]; simp), Below.refl _ _⟩
set_option maxHeartbeats 1000000 in
theorem specWordInt (n : Int) (w : World) (h1 : -9223372036854775808 ≤ n) (h2 : n ≤ 9223372036854775807) :
    Calls Try.prog 58 #[.int .i64 n] w fun e w' => e = .returned (.int .i64 (halfF n)) ∧ Below w.heap.size w w' := by
  go_enter Try.func58, Try.ntmps58
  go_wp2
  go_ret
  exact ⟨ret_i (by unfold halfF; first | rfl | omega), Below.refl _ _⟩
set_option maxHeartbeats 1000000 in
theorem specWordRef (n : Int) (w : World) (h1 : -9223372036854775808 ≤ n) (h2 : n ≤ 9223372036854775807) :
    Calls Try.prog 35 #[.int .i64 n] w fun e w' => e = .returned (.int .i64 (halfF n)) ∧ Below w.heap.size w w' := by
  go_enter Try.func35, Try.ntmps35
  go_wp2
  go_ret
  exact ⟨ret_i (by unfold halfF; first | rfl | omega), Below.refl _ _⟩

end Go.Proofs.Ytigcpigmfcgaoaa.words
