/-
  Rounding and word tests, the program's and the model's: what each returns; the world is as it was. No condition beyond the int's bounds.
-/
import Derived.Test.YtckmhcjmahchnafDoorNumWalks
namespace Go.Proofs.YtckmhcjmahchnafDoor.words
open Go.RowKit plain
set_option linter.unusedVariables false

/-- n gone round to a word -/
def roundZ (n : Int) : Int := (n + 1073741824) % 2147483648 - 1073741824
def wordB (n : Int) : Bool := decide (-1073741824 ≤ n ∧ n ≤ 1073741823)
theorem wordB_yes {n : Int} (h0 : -1073741824 ≤ n) (h1 : n ≤ 1073741823) : wordB n = true := by unfold wordB; simp; omega
theorem wordB_no {n : Int} (h : n < -1073741824 ∨ 1073741823 < n) : wordB n = false := by unfold wordB; simp; omega
theorem round_word (n : Int) : wordB (roundZ n) = true := by unfold roundZ; exact wordB_yes (by omega) (by omega)
theorem round_same (n : Int) : (roundZ n == n) = wordB n := by
  unfold roundZ wordB
  rw [Bool.eq_iff_iff]
  simp
  omega

theorem mask31 (n : Int) : bits .and .i64 n 2147483647 = n % 2147483648 := by
  have key : ((BitVec.ofInt 64 n &&& BitVec.ofInt 64 2147483647).toNat : Int) = n % 2147483648 := by
    have e : (BitVec.ofInt 64 2147483647).toNat = 2147483647 := by decide
    have m : (BitVec.ofInt 64 n).toNat &&& 2147483647 = (BitVec.ofInt 64 n).toNat % 2147483648 := Nat.and_two_pow_sub_one_eq_mod _ 31
    have t : (BitVec.ofInt 64 n).toNat = (n % 18446744073709551616).toNat := by rw [BitVec.toNat_ofInt]; rfl
    rw [BitVec.toNat_and, e, m, t]
    omega
  show IntKind.i64.wrap ((BitVec.ofInt 64 n &&& BitVec.ofInt 64 2147483647).toNat : Nat) = n % 2147483648
  rw [key, IntKind.wrap_i64]
  omega

theorem ret_int {k : IntKind} {a b : Int} (h : a = b) : Ending.returned (.int k a) = .returned (.int k b) := by rw [h]
theorem ret_bool {a b : Bool} (h : a = b) : Ending.returned (.bool a) = .returned (.bool b) := by rw [h]

theorem implRound (n : Int) (w : World) : Calls Tryd.prog 14 #[.int .i64 n] w fun e w' => e = .returned (.int .i64 (roundZ n)) ∧ w' = w := by
  have E : Hid (wrap64 (bits BinOp.and IntKind.i64 (wrap64 (n + 1073741824)) 2147483647 + -1073741824) = roundZ n) := by
    show _ = _
    rw [mask31]; unfold wrap64 roundZ; omega
  go_enter Tryd.func14, Tryd.ntmps14
  go_wp2
  go_ret
  exact ⟨ret_int E.out, rfl⟩

theorem specRound (n : Int) (w : World) : Calls Tryd.prog 15 #[.int .i64 n] w fun e w' => e = .returned (.int .i64 (roundZ n)) ∧ w' = w := by
  by_cases h : n % 2147483648 ≤ 1073741823
  · have h1 : bits .and .i64 n 2147483647 ≤ 1073741823 := by rw [mask31]; exact h
    have E : Hid (bits BinOp.and IntKind.i64 n 2147483647 = roundZ n) := by show _ = _; rw [mask31]; unfold roundZ; omega
    go_enter Tryd.func15, Tryd.ntmps15
    go_wp2
    go_ret
    exact ⟨ret_int E.out, rfl⟩
  · have h1 : 1073741823 < bits .and .i64 n 2147483647 := by rw [mask31]; omega
    have E : Hid (wrap64 (bits BinOp.and IntKind.i64 n 2147483647 - 2147483648) = roundZ n) := by show _ = _; rw [mask31]; unfold roundZ wrap64; omega
    go_enter Tryd.func15, Tryd.ntmps15
    go_wp2
    go_ret
    exact ⟨ret_int E.out, rfl⟩

theorem implWordOk (n : Int) (w : World) : Calls Tryd.prog 9 #[.int .i64 n] w fun e w' => e = .returned (.bool (wordB n)) ∧ w' = w := by
  by_cases h1 : -1073741824 ≤ n
  · by_cases h2 : n ≤ 1073741823
    · have E : Hid (true = wordB n) := (wordB_yes h1 h2).symm
      go_enter Tryd.func9, Tryd.ntmps9
      go_wp2
      go_ret
      exact ⟨ret_bool E.out, rfl⟩
    · have E : Hid (false = wordB n) := (wordB_no (by omega)).symm
      go_enter Tryd.func9, Tryd.ntmps9
      go_wp2
      go_ret
      exact ⟨ret_bool E.out, rfl⟩
  · have E : Hid (false = wordB n) := (wordB_no (by omega)).symm
    go_enter Tryd.func9, Tryd.ntmps9
    go_wp2
    go_ret
    exact ⟨ret_bool E.out, rfl⟩

theorem specWordOk (n : Int) (w : World) : Calls Tryd.prog 16 #[.int .i64 n] w fun e w' => e = .returned (.bool (wordB n)) ∧ w' = w := by
  by_cases h1 : -1073741824 ≤ n
  · by_cases h2 : n ≤ 1073741823
    · have E : Hid (true = wordB n) := (wordB_yes h1 h2).symm
      go_enter Tryd.func16, Tryd.ntmps16
      go_wp2
      go_ret
      exact ⟨ret_bool E.out, rfl⟩
    · have E : Hid (false = wordB n) := (wordB_no (by omega)).symm
      go_enter Tryd.func16, Tryd.ntmps16
      go_wp2
      go_ret
      exact ⟨ret_bool E.out, rfl⟩
  · have E : Hid (false = wordB n) := (wordB_no (by omega)).symm
    go_enter Tryd.func16, Tryd.ntmps16
    go_wp2
    go_ret
    exact ⟨ret_bool E.out, rfl⟩

/-- impl.Digits: the decimal numeral. -/
theorem implDigits (n : Int) (h0 : -9223372036854775808 ≤ n) (h1 : n ≤ 9223372036854775807) (w : World) (htab : Lib.TabIs Tryd.prog w "internal/strconv.uint64pow10" .u64 Lib.pow10Tab) :
    Calls Tryd.prog 6 #[.int .i64 n] w fun e w' => e = .returned (.string ⟨(Lib.itoa n).toArray⟩) ∧ Below w.heap.size w w' := by
  have ht : Hid (Lib.TabIs Tryd.prog w "internal/strconv.uint64pow10" .u64 Lib.pow10Tab) := htab
  clear htab
  go_enter Tryd.func6, Tryd.ntmps6
  go_wp2_with (first | (go_at_call 27; refine (Tryd.strconv_Itoa n h0 h1 _ ht.out).mono ?_; rintro e w' ⟨rfl, k, os, rfl⟩) | go_in)
  go_ret
  exact ⟨rfl, numWalks.below_grow _ _ _⟩

/-! ### The numeral of an int, read back -/
theorem num_neg {n : Int} (h : n < 0) : numRes (Lib.itoa n) = (0, false) := by
  have e : Lib.itoa n = 45 :: Lib.decDigits n.natAbs := by unfold Lib.itoa; rw [if_pos h]
  rw [e]
  exact numRes_byte 0 45 rfl (by decide)
theorem num_great {n : Int} (h : 1073741823 < n) : numRes (Lib.itoa n) = (0, false) := by
  obtain ⟨u, rfl⟩ := Int.eq_ofNat_of_zero_le (show 0 ≤ n by omega)
  rw [numWalks.itoa_nat]
  exact numRes_great (decFrom_digits u) (by omega)
theorem num_word {n : Int} (h0 : 0 ≤ n) (h1 : n ≤ 1073741823) : numRes (Lib.itoa n) = (n, true) := numRes_atoi_yes h0 h1 rfl
/-- what is read is a word from 0 on, and the text its numeral; else 0 and false -/
theorem num_cases (l : List UInt8) : numRes l = (0, false) ∨ ∃ v : Int, numRes l = (v, true) ∧ 0 ≤ v ∧ v ≤ 1073741823 ∧ Lib.itoa v = l := by
  unfold numRes
  split
  · rename_i n _
    split
    · rename_i hh
      exact Or.inr ⟨(n : Int), rfl, by omega, by omega, by rw [numWalks.itoa_nat]; exact hh.2⟩
    · exact Or.inl rfl
  · exact Or.inl rfl
end Go.Proofs.YtckmhcjmahchnafDoor.words
