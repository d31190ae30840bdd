/-
  Slices of ints as they lie in memory, and the law's measure of them.
-/
import Derived.Test.YtempmfpnngbbeabChecked
import Derived.Test.YtempmfpnngbbeabRose
import Derived.WalkKit
import Derived.WalkLawsBesides
import Derived.Deep.QuietTactic
import Derived.BigQuiet
namespace Go.Proofs.Ytempmfpnngbbeab.ints
open Go.RowKit Go.Proofs.Ytempmfpnngbbeab.rose Go.Proofs.Ytempmfpnngbbeab
set_option linter.unusedVariables false

set_option maxHeartbeats 1000000 in
theorem szS_any (ks : List Int) (v : Value) (w : World) (l : Int) (h0 : 0 ≤ l) (h1 : l ≤ 1048576) (h : Sh.int.slice.rep w (· < w.heap.size) [v] ks) :
    Calls Try.prog 24 #[v, .int .i64 l] w fun e w' => e = .returned (.int .i64 (left ks.length l)) ∧ Below w.heap.size w w' := by
  obtain ⟨a, cap, css, e, hcap, hmax, -, -, -⟩ := h
  obtain rfl : v = .slice a ks.length cap := by simpa using e
  have hmx : (ks.length : Int) ≤ 9223372036854775807 := by unfold maxLen at hmax; omega
  clear e hcap hmax
  by_cases hn : (ks.length : Int) ≤ l
  · have t1 : decide (l - (ks.length : Int) < 0) = false := by simp; omega
    have hr : left ks.length l = l - ks.length := by unfold left; rw [if_pos hn]
    go_enter Try.func24, Try.ntmps24
    go_wp2
    go_ret
    exact ⟨by first | rfl | (rw [hr]; rfl), Below.refl _ _⟩
  · have t1 : decide (l - (ks.length : Int) < 0) = true := by simp; omega
    have hr : left ks.length l = -1 := by unfold left; rw [if_neg hn]
    go_enter Try.func24, Try.ntmps24
    go_wp2
    go_ret
    exact ⟨by first | rfl | (rw [hr]; rfl), Below.refl _ _⟩

end Go.Proofs.Ytempmfpnngbbeab.ints
