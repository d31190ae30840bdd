/-
  The model's words of a heap (chapter 17): what they answer; nothing is turned.
-/
import Derived.Test.YtempmfpnngbbeabSpecIn
import Derived.WalkSmall
namespace Go.Proofs.Ytempmfpnngbbeab.words
open Go Go.RowKit Go.Proofs.Ytempmfpnngbbeab Go.Proofs.Ytempmfpnngbbeab.fun
set_option linter.unusedVariables false
set_option linter.unusedSimpArgs false

def intWordF (n : Int) : Int := if inB n (-1073741824) 1073741823 then 2 * n + 1 else 1
def refWordF (p : Int) : Int := if inB p 0 6000 then 2 * p else 0
def isRefF (x : Int) : Bool := decide (x % 2 = 0)
def halfF (x : Int) : Int := x / 2

theorem ret_i {a b : Int} (h : a = b) : Ending.returned (.int .i64 a) = Ending.returned (.int .i64 b) := by rw [h]
theorem ret_b {a b : Bool} (h : a = b) : Ending.returned (.bool a) = Ending.returned (.bool b) := by rw [h]
theorem and_one (n : Int) : bits .and .i64 n 1 = n % 2 := by
  have h1 : (BitVec.ofInt 64 1).toNat = 2 ^ 1 - 1 := by decide
  have key : (BitVec.ofInt 64 n &&& BitVec.ofInt 64 1).toNat = (n % ((2 ^ 64 : Nat) : Int)).toNat % 2 ^ 1 := by
    rw [BitVec.toNat_and, BitVec.toNat_ofInt, h1, Nat.and_two_pow_sub_one_eq_mod]
  have e : bits .and .i64 n 1 = IntKind.i64.wrap ((BitVec.ofInt 64 n &&& BitVec.ofInt 64 1).toNat : Nat) := rfl
  rw [e, key, IntKind.wrap_i64]
  omega
theorem and_63 (n : Int) : bits .and .i64 n 63 = n % 64 := by
  have h1 : (BitVec.ofInt 64 63).toNat = 2 ^ 6 - 1 := by decide
  have key : (BitVec.ofInt 64 n &&& BitVec.ofInt 64 63).toNat = (n % ((2 ^ 64 : Nat) : Int)).toNat % 2 ^ 6 := by
    rw [BitVec.toNat_and, BitVec.toNat_ofInt, h1, Nat.and_two_pow_sub_one_eq_mod]
  have e : bits .and .i64 n 63 = IntKind.i64.wrap ((BitVec.ofInt 64 n &&& BitVec.ofInt 64 63).toNat : Nat) := rfl
  rw [e, key, IntKind.wrap_i64]
  omega

set_option maxHeartbeats 1000000 in
theorem word_is {n : Int} {b : Bool} {w : World} (h : inB n (-1073741824) 1073741823 = b) :
    Calls Try.prog 39 #[.int .i64 n] w fun e w' => e = .returned (.bool b) ∧ w' = w := by
  go_enter Try.func39, Try.ntmps39
  go_wp2_with (go_at_call 25; refine (in_is h).mono ?_; rintro e w' ⟨rfl, hx⟩; subst w')
  go_ret
  exact ⟨rfl, rfl⟩

end Go.Proofs.Ytempmfpnngbbeab.words
