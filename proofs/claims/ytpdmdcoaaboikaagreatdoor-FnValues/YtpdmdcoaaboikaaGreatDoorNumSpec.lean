/-
  The model's Number, at every text: the word from 0 on of which the text is the numeral, and true; else 0 and false.
-/
import Derived.Test.YtpdmdcoaaboikaaGreatDoorWalks
import Derived.Test.YtpdmdcoaaboikaaGreatDoorPlain
import Derived.Lib.AppendIntMem
import Derived.Lib.AtoiBound
import Derived.Lib.SmallJoins
namespace Go.Proofs.YtpdmdcoaaboikaaGreatDoor.numWalks
open Go.RowKit plain

theorem ret_two {k : IntKind} {a a' : Int} {b b' : Bool} (h : a = a') (h' : b = b') : Ending.returned (.tuple #[.int k a, .bool b]) = .returned (.tuple #[.int k a', .bool b']) := by rw [h, h']
theorem ret_num {l : List UInt8} {r : Int × Bool} (h : numRes l = r) : Ending.returned (.tuple #[.int .i64 r.1, .bool r.2]) = .returned (.tuple #[.int .i64 (numRes l).1, .bool (numRes l).2]) := by rw [h]
theorem x_lt {l : List UInt8} {k x : Nat} (h : Lib.decFrom 0 (l.take k) = some x) (hk : k ≤ 9) : x < 1000000000 := by
  have := Lib.decFrom_lt _ _ _ h
  have hl : (l.take k).length ≤ 9 := Nat.le_trans (List.length_take_le _ _) hk
  have hp : 10 ^ (l.take k).length ≤ 10 ^ 9 := Nat.pow_le_pow_right (by decide) hl
  omega
theorem x_lt10 {l : List UInt8} {k x : Nat} (h : Lib.decFrom 0 (l.take k) = some x) (hk : k ≤ 10) : x < 10000000000 := by
  have := Lib.decFrom_lt _ _ _ h
  have hl : (l.take k).length ≤ 10 := Nat.le_trans (List.length_take_le _ _) hk
  have hp : 10 ^ (l.take k).length ≤ 10 ^ 10 := Nat.pow_le_pow_right (by decide) hl
  omega
theorem byte_at (s : ByteArray) (k : Nat) (h : k < s.size) : s.data.toList[k]? = some s[k] := by
  rw [List.getElem?_eq_getElem (by simpa using h)]; rfl
theorem digit_yes (b : UInt8) (h1 : 48 ≤ b.toNat) (h2 : b.toNat ≤ 57) : Lib.digitVal b = some (b.toNat - 48) := by
  unfold Lib.digitVal; rw [if_pos ⟨h1, h2⟩]
theorem digit_no (b : UInt8) (h : b.toNat < 48 ∨ 57 < b.toNat) : Lib.digitVal b = none := by
  unfold Lib.digitVal; rw [if_neg (by omega)]

theorem itoa_nat (x : Nat) : Lib.itoa (x : Int) = Lib.decDigits x := by
  unfold Lib.itoa; rw [if_neg (by omega)]; simp
theorem str_ne {x : Nat} {s : ByteArray} (h : (!Lib.itoa (x : Int) == s.toList) = true) : Lib.decDigits x ≠ s.data.toList := by
  rw [itoa_nat] at h
  simpa [ByteArray.toList_eq] using h
theorem str_ne' {v : Int} {s : ByteArray} (h : (!Lib.itoa v == s.toList) = true) : Lib.itoa v ≠ s.data.toList := by
  simpa [ByteArray.toList_eq] using h
theorem str_eq {v : Int} {s : ByteArray} (h : (!Lib.itoa v == s.toList) = false) : Lib.itoa v = s.data.toList := by
  simpa [ByteArray.toList_eq] using h

set_option maxHeartbeats 1000000 in
theorem spec_number (s : ByteArray) (w : World) (hs : s.size ≤ maxLen) (h1 : 1 ≤ s.size) (h10 : s.size ≤ 10) :
    Calls Tryz.prog 81 #[.string s] w fun e w' => e = .returned (.tuple #[.int .i64 (numRes s.data.toList).1, .bool (numRes s.data.toList).2]) ∧ Below w.heap.size w w' := by
  unfold maxLen at hs
  have t1 : decide ((s.size : Int) < 1) = false := by simp; omega
  have t2 : decide (10 < (s.size : Int)) = false := by simp; omega
  go_enter Tryz.func81, Tryz.ntmps81
  go_wp2
  go_loop [4, 5] (fun t i => ∃ k x : Nat, k ≤ s.size ∧ i = .int .i64 k ∧ t = .int .i64 x ∧ Hid (Lib.decFrom 0 (s.data.toList.take k) = some x)) (fun _ i => s.size - (intOf i).toNat)
  case atStart => exact ⟨0, 0, Nat.zero_le _, rfl, rfl, rfl⟩
  case round =>
    obtain ⟨k, x, hk, rfl, rfl, hx⟩ := hrel
    by_cases hlt : k < s.size
    · have hx9 := x_lt hx.out (by omega)
      by_cases hb1 : (s[k].toNat : Int) < 48
      · go_wp2
        go_ret2
        exact ⟨ret_num (r := (0, false)) (numRes_byte k s[k] (byte_at s k hlt) (digit_no _ (by omega))), Below.refl _ _⟩
      · by_cases hb2 : 57 < (s[k].toNat : Int)
        · go_wp2
          go_ret2
          exact ⟨ret_num (r := (0, false)) (numRes_byte k s[k] (byte_at s k hlt) (digit_no _ (by omega))), Below.refl _ _⟩
        · go_wp2
          refine ⟨⟨k + 1, x * 10 + (s[k].toNat - 48), by omega, by go_num, by go_num, ?_⟩, ?_⟩
          · exact Lib.decFrom_take _ _ _ _ s[k] _ hx.out (byte_at s k hlt) (digit_yes _ (by omega) (by omega))
          · simp [intOf]; omega
    · have hx10 := x_lt10 hx.out (by omega)
      have hx2 : Hid (Lib.decFrom 0 s.data.toList = some x) := by
        have := hx.out
        rwa [List.take_of_length_le (by simp; omega)] at this
      clear hx
      by_cases hw : (x : Int) ≤ 1073741823
      · go_wp2_with (first | (go_at_call 16; refine (walks.digits_any (x : Int) (by omega) (by omega) _).mono ?_; rintro e w1 ⟨rfl, hb⟩) | go_in)
        · go_ret2
          exact ⟨ret_num (r := (0, false)) (numRes_other hx2.out (str_ne ‹_›)), hb⟩
        · go_ret2
          exact ⟨ret_num (r := ((x : Int), true)) (numRes_atoi_yes (by omega) hw (str_eq ‹_›)), hb⟩
      · go_wp2_with (first | (go_at_call 16; refine (walks.digits_any (x : Int) (by omega) (by omega) _).mono ?_; rintro e w1 ⟨rfl, hb⟩) | go_in)
        go_ret2
        exact ⟨ret_num (r := (0, false)) (numRes_great hx2.out (by omega)), Below.refl _ _⟩

theorem list_len (s : ByteArray) : s.data.toList.length = s.size := by simp

theorem spec_empty (s : ByteArray) (w : World) (h0 : s.size = 0) :
    Calls Tryz.prog 81 #[.string s] w fun e w' => e = .returned (.tuple #[.int .i64 (numRes s.data.toList).1, .bool (numRes s.data.toList).2]) ∧ Below w.heap.size w w' := by
  have e0 : numRes s.data.toList = (0, false) := by
    have hl : s.data.toList = [] := List.eq_nil_of_length_eq_zero (by rw [list_len]; exact h0)
    rw [hl]; rfl
  have t1 : decide ((s.size : Int) < 1) = true := by simp; omega
  have E0 : Hid (numRes s.data.toList = (0, false)) := e0
  clear e0 h0
  go_enter Tryz.func81, Tryz.ntmps81
  go_wp2
  go_ret2
  exact ⟨ret_num (r := (0, false)) E0.out, Below.refl _ _⟩

theorem spec_long (s : ByteArray) (w : World) (hs : s.size ≤ maxLen) (h10 : 10 < s.size) :
    Calls Tryz.prog 81 #[.string s] w fun e w' => e = .returned (.tuple #[.int .i64 (numRes s.data.toList).1, .bool (numRes s.data.toList).2]) ∧ Below w.heap.size w w' := by
  unfold maxLen at hs
  have E0 : Hid (numRes s.data.toList = (0, false)) := numRes_long (by rw [list_len]; exact h10)
  have t1 : decide ((s.size : Int) < 1) = false := by simp; omega
  have t2 : decide (10 < (s.size : Int)) = true := by simp; omega
  go_enter Tryz.func81, Tryz.ntmps81
  go_wp2
  go_ret2
  exact ⟨ret_num (r := (0, false)) E0.out, Below.refl _ _⟩

/-- spec.Number, at every text. -/
theorem spec_any (s : ByteArray) (w : World) (hs : s.size ≤ maxLen) :
    Calls Tryz.prog 81 #[.string s] w fun e w' => e = .returned (.tuple #[.int .i64 (numRes s.data.toList).1, .bool (numRes s.data.toList).2]) ∧ Below w.heap.size w w' := by
  by_cases h0 : s.size = 0
  · exact spec_empty s w h0
  · by_cases h10 : s.size ≤ 10
    · exact spec_number s w hs (by omega) h10
    · exact spec_long s w hs (by omega)

end Go.Proofs.YtpdmdcoaaboikaaGreatDoor.numWalks
