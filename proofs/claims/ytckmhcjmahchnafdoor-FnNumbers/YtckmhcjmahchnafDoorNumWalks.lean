/-
  The model's Number and the program's, at every text: the word from 0 on of which the text is the numeral, and true; else 0 and false.
-/
import Derived.Test.YtckmhcjmahchnafDoorWalks
import Derived.Test.YtckmhcjmahchnafDoorPlain
import Derived.Test.YtckmhcjmahchnafDoorShelf
import Derived.Lib.AppendIntMem
import Derived.Lib.AtoiBound
import Derived.Lib.SmallJoins
namespace Go.Proofs.YtckmhcjmahchnafDoor.numWalks
open Go.RowKit plain

theorem ret_two {k : IntKind} {a a' : Int} {b b' : Bool} (h : a = a') (h' : b = b') : Ending.returned (.tuple #[.int k a, .bool b]) = .returned (.tuple #[.int k a', .bool b']) := by rw [h, h']
theorem ret_num {l : List UInt8} {r : Int × Bool} (h : numRes l = r) : Ending.returned (.tuple #[.int .i64 r.1, .bool r.2]) = .returned (.tuple #[.int .i64 (numRes l).1, .bool (numRes l).2]) := by rw [h]
theorem x_lt {l : List UInt8} {k x : Nat} (h : Lib.decFrom 0 (l.take k) = some x) (hk : k ≤ 9) : x < 1000000000 := by
  have := Lib.decFrom_lt _ _ _ h
  have hl : (l.take k).length ≤ 9 := Nat.le_trans (List.length_take_le _ _) hk
  have hp : 10 ^ (l.take k).length ≤ 10 ^ 9 := Nat.pow_le_pow_right (by decide) hl
  omega
theorem x_lt10 {l : List UInt8} {k x : Nat} (h : Lib.decFrom 0 (l.take k) = some x) (hk : k ≤ 10) : x < 10000000000 := by
  have := Lib.decFrom_lt _ _ _ h
  have hl : (l.take k).length ≤ 10 := Nat.le_trans (List.length_take_le _ _) hk
  have hp : 10 ^ (l.take k).length ≤ 10 ^ 10 := Nat.pow_le_pow_right (by decide) hl
  omega
theorem byte_at (s : ByteArray) (k : Nat) (h : k < s.size) : s.data.toList[k]? = some s[k] := by
  rw [List.getElem?_eq_getElem (by simpa using h)]; rfl
theorem digit_yes (b : UInt8) (h1 : 48 ≤ b.toNat) (h2 : b.toNat ≤ 57) : Lib.digitVal b = some (b.toNat - 48) := by
  unfold Lib.digitVal; rw [if_pos ⟨h1, h2⟩]
theorem digit_no (b : UInt8) (h : b.toNat < 48 ∨ 57 < b.toNat) : Lib.digitVal b = none := by
  unfold Lib.digitVal; rw [if_neg (by omega)]

theorem itoa_nat (x : Nat) : Lib.itoa (x : Int) = Lib.decDigits x := by
  unfold Lib.itoa; rw [if_neg (by omega)]; simp
theorem str_ne {x : Nat} {s : ByteArray} (h : (!Lib.itoa (x : Int) == s.toList) = true) : Lib.decDigits x ≠ s.data.toList := by
  rw [itoa_nat] at h
  simpa [ByteArray.toList_eq] using h
theorem str_ne' {v : Int} {s : ByteArray} (h : (!Lib.itoa v == s.toList) = true) : Lib.itoa v ≠ s.data.toList := by
  simpa [ByteArray.toList_eq] using h
theorem str_eq {v : Int} {s : ByteArray} (h : (!Lib.itoa v == s.toList) = false) : Lib.itoa v = s.data.toList := by
  simpa [ByteArray.toList_eq] using h

set_option maxHeartbeats 1000000 in
theorem spec_number (s : ByteArray) (w : World) (hs : s.size ≤ maxLen) (h1 : 1 ≤ s.size) (h10 : s.size ≤ 10) :
    Calls Tryd.prog 11 #[.string s] w fun e w' => e = .returned (.tuple #[.int .i64 (numRes s.data.toList).1, .bool (numRes s.data.toList).2]) ∧ Below w.heap.size w w' := by
  unfold maxLen at hs
  have t1 : decide ((s.size : Int) < 1) = false := by simp; omega
  have t2 : decide (10 < (s.size : Int)) = false := by simp; omega
  go_enter Tryd.func11, Tryd.ntmps11
  go_wp2
  go_loop [4, 5] (fun t i => ∃ k x : Nat, k ≤ s.size ∧ i = .int .i64 k ∧ t = .int .i64 x ∧ Hid (Lib.decFrom 0 (s.data.toList.take k) = some x)) (fun _ i => s.size - (intOf i).toNat)
  case atStart => exact ⟨0, 0, Nat.zero_le _, rfl, rfl, rfl⟩
  case round =>
    obtain ⟨k, x, hk, rfl, rfl, hx⟩ := hrel
    by_cases hlt : k < s.size
    · have hx9 := x_lt hx.out (by omega)
      by_cases hb1 : (s[k].toNat : Int) < 48
      · go_wp2
        go_ret2
        exact ⟨ret_num (r := (0, false)) (numRes_byte k s[k] (byte_at s k hlt) (digit_no _ (by omega))), Below.refl _ _⟩
      · by_cases hb2 : 57 < (s[k].toNat : Int)
        · go_wp2
          go_ret2
          exact ⟨ret_num (r := (0, false)) (numRes_byte k s[k] (byte_at s k hlt) (digit_no _ (by omega))), Below.refl _ _⟩
        · go_wp2
          refine ⟨⟨k + 1, x * 10 + (s[k].toNat - 48), by omega, by go_num, by go_num, ?_⟩, ?_⟩
          · exact Lib.decFrom_take _ _ _ _ s[k] _ hx.out (byte_at s k hlt) (digit_yes _ (by omega) (by omega))
          · simp [intOf]; omega
    · have hx10 := x_lt10 hx.out (by omega)
      have hx2 : Hid (Lib.decFrom 0 s.data.toList = some x) := by
        have := hx.out
        rwa [List.take_of_length_le (by simp; omega)] at this
      clear hx
      by_cases hw : (x : Int) ≤ 1073741823
      · go_wp2_with (first | (go_at_call 8; refine (walks.digits_any (x : Int) (by omega) (by omega) _).mono ?_; rintro e w1 ⟨rfl, hb⟩) | go_in)
        · go_ret2
          exact ⟨ret_num (r := (0, false)) (numRes_other hx2.out (str_ne ‹_›)), hb⟩
        · go_ret2
          exact ⟨ret_num (r := ((x : Int), true)) (numRes_atoi_yes (by omega) hw (str_eq ‹_›)), hb⟩
      · go_wp2_with (first | (go_at_call 8; refine (walks.digits_any (x : Int) (by omega) (by omega) _).mono ?_; rintro e w1 ⟨rfl, hb⟩) | go_in)
        go_ret2
        exact ⟨ret_num (r := (0, false)) (numRes_great hx2.out (by omega)), Below.refl _ _⟩

theorem list_len (s : ByteArray) : s.data.toList.length = s.size := by simp

theorem spec_empty (s : ByteArray) (w : World) (h0 : s.size = 0) :
    Calls Tryd.prog 11 #[.string s] w fun e w' => e = .returned (.tuple #[.int .i64 (numRes s.data.toList).1, .bool (numRes s.data.toList).2]) ∧ Below w.heap.size w w' := by
  have e0 : numRes s.data.toList = (0, false) := by
    have hl : s.data.toList = [] := List.eq_nil_of_length_eq_zero (by rw [list_len]; exact h0)
    rw [hl]; rfl
  have t1 : decide ((s.size : Int) < 1) = true := by simp; omega
  have E0 : Hid (numRes s.data.toList = (0, false)) := e0
  clear e0 h0
  go_enter Tryd.func11, Tryd.ntmps11
  go_wp2
  go_ret2
  exact ⟨ret_num (r := (0, false)) E0.out, Below.refl _ _⟩

theorem spec_long (s : ByteArray) (w : World) (hs : s.size ≤ maxLen) (h10 : 10 < s.size) :
    Calls Tryd.prog 11 #[.string s] w fun e w' => e = .returned (.tuple #[.int .i64 (numRes s.data.toList).1, .bool (numRes s.data.toList).2]) ∧ Below w.heap.size w w' := by
  unfold maxLen at hs
  have E0 : Hid (numRes s.data.toList = (0, false)) := numRes_long (by rw [list_len]; exact h10)
  have t1 : decide ((s.size : Int) < 1) = false := by simp; omega
  have t2 : decide (10 < (s.size : Int)) = true := by simp; omega
  go_enter Tryd.func11, Tryd.ntmps11
  go_wp2
  go_ret2
  exact ⟨ret_num (r := (0, false)) E0.out, Below.refl _ _⟩

/-- spec.Number, at every text. -/
theorem spec_any (s : ByteArray) (w : World) (hs : s.size ≤ maxLen) :
    Calls Tryd.prog 11 #[.string s] w fun e w' => e = .returned (.tuple #[.int .i64 (numRes s.data.toList).1, .bool (numRes s.data.toList).2]) ∧ Below w.heap.size w w' := by
  by_cases h0 : s.size = 0
  · exact spec_empty s w h0
  · by_cases h10 : s.size ≤ 10
    · exact spec_number s w hs (by omega) h10
    · exact spec_long s w hs (by omega)

theorem below_grow (w : World) (k : Nat) (os : Array Obj) : Below w.heap.size w (Sort.grow (w.drewN k) os) := by
  refine ⟨rfl, rfl, rfl, ?_, fun j hj => ?_⟩
  · show w.heap.size ≤ (w.heap ++ os).size
    simp
  · show (w.heap ++ os)[j]? = w.heap[j]?
    rw [Array.getElem?_append_left hj]

/-- what the road of the program's Number reads: the table of powers of ten, and an error's variable. -/
def Laid (w : World) : Prop := Lib.TabIs Tryd.prog w "internal/strconv.uint64pow10" .u64 Lib.pow10Tab ∧ ∃ tp p, w.var? Tryd.prog "strconv.ErrSyntax" = some #[.iface tp p]

theorem impl_long (s : ByteArray) (w : World) (hs : s.size ≤ maxLen) (h10 : 10 < s.size) :
    Calls Tryd.prog 7 #[.string s] w fun e w' => e = .returned (.tuple #[.int .i64 (numRes s.data.toList).1, .bool (numRes s.data.toList).2]) ∧ Below w.heap.size w w' := by
  unfold maxLen at hs
  have E0 : Hid (numRes s.data.toList = (0, false)) := numRes_long (by rw [list_len]; exact h10)
  have t2 : decide (10 < (s.size : Int)) = true := by simp; omega
  go_enter Tryd.func7, Tryd.ntmps7
  go_wp2
  go_ret2
  exact ⟨ret_num (r := (0, false)) E0.out, Below.refl _ _⟩

theorem impl_none (s : ByteArray) (w : World) (h10 : s.size ≤ 10) (ha : Lib.atoi s.data.toList = none) (hL : Laid w) :
    Calls Tryd.prog 7 #[.string s] w fun e w' => e = .returned (.tuple #[.int .i64 (numRes s.data.toList).1, .bool (numRes s.data.toList).2]) ∧ Below w.heap.size w w' := by
  have E0 : Hid (numRes s.data.toList = (0, false)) := numRes_atoi_none ha
  have t2 : decide (10 < (s.size : Int)) = false := by simp; omega
  obtain ⟨_, tp, p, hvar⟩ := hL
  have HA : Hid (Lib.atoi s.data.toList = none) := ha
  have HV : Hid (w.var? Tryd.prog "strconv.ErrSyntax" = some #[.iface tp p]) := hvar
  clear ha hvar
  go_enter Tryd.func7, Tryd.ntmps7
  go_wp2_with fail
  refine (Tryd.strconv_Atoi_err_var s (by omega) HA.out tp p _ HV.out).mono ?_
  rintro e w1 ⟨N, rfl, hN, hcell, hb⟩
  go_wp2
  go_ret2
  exact ⟨ret_num (r := (0, false)) E0.out, hb⟩

theorem impl_some (s : ByteArray) (v : Int) (w : World) (h10 : s.size ≤ 10) (ha : Lib.atoi s.data.toList = some v) (hL : Laid w) :
    Calls Tryd.prog 7 #[.string s] w fun e w' => e = .returned (.tuple #[.int .i64 (numRes s.data.toList).1, .bool (numRes s.data.toList).2]) ∧ Below w.heap.size w w' := by
  have t2 : decide (10 < (s.size : Int)) = false := by simp; omega
  have hT := Lib.tabBelow_of_tabIs hL.1
  have hbd := Lib.atoi_bound ha (by rw [list_len]; omega)
  have HA : Hid (Lib.atoi s.data.toList = some v) := ha
  clear ha hL
  by_cases hneg : v < 0
  · go_enter Tryd.func7, Tryd.ntmps7
    go_wp2_with fail
    refine (Tryd.strconv_Atoi s v (by omega) HA.out _).mono ?_
    rintro e w1 ⟨rfl, t, rfl⟩
    go_wp2
    go_ret2
    exact ⟨ret_num (r := (0, false)) (numRes_atoi_no HA.out (Or.inl hneg)), Lib.bytesWorld_below _ _ _⟩
  · by_cases hgr : v ≤ 1073741823
    · have t3 : decide (v < 0) = false := by simp; omega
      go_enter Tryd.func7, Tryd.ntmps7
      go_wp2_with fail
      refine (Tryd.strconv_Atoi s v (by omega) HA.out _).mono ?_
      rintro e w1 ⟨rfl, t, hw1⟩
      have hb1 : Below w.heap.size w w1 := by rw [hw1]; exact Lib.bytesWorld_below _ _ _
      clear hw1
      go_wp2_with (first | (go_at_call 27; refine (Tryd.strconv_Itoa v (by omega) (by omega) _ (hT.on hb1).here).mono ?_; rintro e w2 ⟨rfl, k, os, hw2⟩) | go_in)
      · go_ret2
        exact ⟨ret_num (r := (0, false)) (numRes_atoi_no HA.out (Or.inr (Or.inr (str_ne' ‹_›)))), hb1.trans ((below_grow _ _ _).mono hb1.size)⟩
      · go_ret2
        exact ⟨ret_num (r := (v, true)) (numRes_atoi_yes (by omega) hgr (str_eq ‹_›)), hb1.trans ((below_grow _ _ _).mono hb1.size)⟩
    · go_enter Tryd.func7, Tryd.ntmps7
      go_wp2_with fail
      refine (Tryd.strconv_Atoi s v (by omega) HA.out _).mono ?_
      rintro e w1 ⟨rfl, t, rfl⟩
      go_wp2
      go_ret2
      exact ⟨ret_num (r := (0, false)) (numRes_atoi_no HA.out (Or.inr (Or.inl (by omega)))), Lib.bytesWorld_below _ _ _⟩

/-- impl.Number, at every text. -/
theorem impl_any (s : ByteArray) (w : World) (hs : s.size ≤ maxLen) (hL : Laid w) :
    Calls Tryd.prog 7 #[.string s] w fun e w' => e = .returned (.tuple #[.int .i64 (numRes s.data.toList).1, .bool (numRes s.data.toList).2]) ∧ Below w.heap.size w w' := by
  by_cases h10 : s.size ≤ 10
  · cases ha : Lib.atoi s.data.toList with
    | none => exact impl_none s w h10 ha hL
    | some v => exact impl_some s v w h10 ha hL
  · exact impl_long s w hs (by omega)

theorem Laid.on {w w' : World} (h : Laid w) (hb : Below w.heap.size w w') : Laid w' := by
  obtain ⟨ht, tp, p, hv⟩ := h
  exact ⟨((Lib.tabBelow_of_tabIs ht).on hb).here, tp, p, Joins.var_stays (show Tryd.prog.globalNamed "strconv.ErrSyntax" = some 0 by kernel_rfl) hv hb (Nat.le_refl _)⟩
end Go.Proofs.YtckmhcjmahchnafDoor.numWalks
