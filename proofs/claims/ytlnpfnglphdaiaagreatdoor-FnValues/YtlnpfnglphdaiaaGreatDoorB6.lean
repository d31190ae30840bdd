/-
  The model's Number, at every text: the word from 0 on of which the text is the numeral, and true; else 0 and false.
  The model's Tokens, at every text: it comes back, with a list of tokens that ends with one of kind 0 and whose texts are short, or with none; nothing that was there is turned. (Not which tokens they are.)
-/
import Derived.Lib.AppendIntMem
import Derived.Lib.AtoiBound
import Derived.Lib.SmallJoins
import Derived.Laws.IdiomStrings
import Derived.Laws.Strings2
import Derived.Deep.QuietTactic
import Derived.BigQuiet
import Derived.OwnWalk
import Derived.Maps.AppendAt
import Derived.Laws.AppendOwn
import Derived.Test.YtlnpfnglphdaiaaGreatDoorB1
import Derived.Test.YtlnpfnglphdaiaaGreatDoorB2
import Derived.Test.YtlnpfnglphdaiaaGreatDoorB3
import Derived.Test.YtlnpfnglphdaiaaGreatDoorB4
import Derived.Test.YtlnpfnglphdaiaaGreatDoorB5
namespace Go.Proofs.YtlnpfnglphdaiaaGreatDoor.numWalks
open Go.RowKit plain

theorem ret_two {k : IntKind} {a a' : Int} {b b' : Bool} (h : a = a') (h' : b = b') : Ending.returned (.tuple #[.int k a, .bool b]) = .returned (.tuple #[.int k a', .bool b']) := by rw [h, h']
theorem ret_num {l : List UInt8} {r : Int × Bool} (h : numRes l = r) : Ending.returned (.tuple #[.int .i64 r.1, .bool r.2]) = .returned (.tuple #[.int .i64 (numRes l).1, .bool (numRes l).2]) := by rw [h]
theorem x_lt {l : List UInt8} {k x : Nat} (h : Lib.decFrom 0 (l.take k) = some x) (hk : k ≤ 9) : x < 1000000000 := by
  have := Lib.decFrom_lt _ _ _ h
  have hl : (l.take k).length ≤ 9 := Nat.le_trans (List.length_take_le _ _) hk
  have hp : 10 ^ (l.take k).length ≤ 10 ^ 9 := Nat.pow_le_pow_right (by decide) hl
  omega
theorem x_lt10 {l : List UInt8} {k x : Nat} (h : Lib.decFrom 0 (l.take k) = some x) (hk : k ≤ 10) : x < 10000000000 := by
  have := Lib.decFrom_lt _ _ _ h
  have hl : (l.take k).length ≤ 10 := Nat.le_trans (List.length_take_le _ _) hk
  have hp : 10 ^ (l.take k).length ≤ 10 ^ 10 := Nat.pow_le_pow_right (by decide) hl
  omega
theorem byte_at (s : ByteArray) (k : Nat) (h : k < s.size) : s.data.toList[k]? = some s[k] := by
  rw [List.getElem?_eq_getElem (by simpa using h)]; rfl
theorem digit_yes (b : UInt8) (h1 : 48 ≤ b.toNat) (h2 : b.toNat ≤ 57) : Lib.digitVal b = some (b.toNat - 48) := by
  unfold Lib.digitVal; rw [if_pos ⟨h1, h2⟩]
theorem digit_no (b : UInt8) (h : b.toNat < 48 ∨ 57 < b.toNat) : Lib.digitVal b = none := by
  unfold Lib.digitVal; rw [if_neg (by omega)]

theorem itoa_nat (x : Nat) : Lib.itoa (x : Int) = Lib.decDigits x := by
  unfold Lib.itoa; rw [if_neg (by omega)]; simp
theorem str_ne {x : Nat} {s : ByteArray} (h : (!Lib.itoa (x : Int) == s.toList) = true) : Lib.decDigits x ≠ s.data.toList := by
  rw [itoa_nat] at h
  simpa [ByteArray.toList_eq] using h
theorem str_ne' {v : Int} {s : ByteArray} (h : (!Lib.itoa v == s.toList) = true) : Lib.itoa v ≠ s.data.toList := by
  simpa [ByteArray.toList_eq] using h
theorem str_eq {v : Int} {s : ByteArray} (h : (!Lib.itoa v == s.toList) = false) : Lib.itoa v = s.data.toList := by
  simpa [ByteArray.toList_eq] using h

set_option maxHeartbeats 1000000 in
theorem spec_number (s : ByteArray) (w : World) (hs : s.size ≤ maxLen) (h1 : 1 ≤ s.size) (h10 : s.size ≤ 10) :
    Calls Tryz.prog 81 #[.string s] w fun e w' => e = .returned (.tuple #[.int .i64 (numRes s.data.toList).1, .bool (numRes s.data.toList).2]) ∧ Below w.heap.size w w' := by
  unfold maxLen at hs
  have t1 : decide ((s.size : Int) < 1) = false := by simp; omega
  have t2 : decide (10 < (s.size : Int)) = false := by simp; omega
  go_enter Tryz.func81, Tryz.ntmps81
  go_wp2
  go_loop [4, 5] (fun t i => ∃ k x : Nat, k ≤ s.size ∧ i = .int .i64 k ∧ t = .int .i64 x ∧ Hid (Lib.decFrom 0 (s.data.toList.take k) = some x)) (fun _ i => s.size - (intOf i).toNat)
  case atStart => exact ⟨0, 0, Nat.zero_le _, rfl, rfl, rfl⟩
  case round =>
    obtain ⟨k, x, hk, rfl, rfl, hx⟩ := hrel
    by_cases hlt : k < s.size
    · have hx9 := x_lt hx.out (by omega)
      by_cases hb1 : (s[k].toNat : Int) < 48
      · go_wp2
        go_ret2
        exact ⟨ret_num (r := (0, false)) (numRes_byte k s[k] (byte_at s k hlt) (digit_no _ (by omega))), Below.refl _ _⟩
      · by_cases hb2 : 57 < (s[k].toNat : Int)
        · go_wp2
          go_ret2
          exact ⟨ret_num (r := (0, false)) (numRes_byte k s[k] (byte_at s k hlt) (digit_no _ (by omega))), Below.refl _ _⟩
        · go_wp2
          refine ⟨⟨k + 1, x * 10 + (s[k].toNat - 48), by omega, by go_num, by go_num, ?_⟩, ?_⟩
          · exact Lib.decFrom_take _ _ _ _ s[k] _ hx.out (byte_at s k hlt) (digit_yes _ (by omega) (by omega))
          · simp [intOf]; omega
    · have hx10 := x_lt10 hx.out (by omega)
      have hx2 : Hid (Lib.decFrom 0 s.data.toList = some x) := by
        have := hx.out
        rwa [List.take_of_length_le (by simp; omega)] at this
      clear hx
      by_cases hw : (x : Int) ≤ 1073741823
      · go_wp2_with (first | (go_at_call 16; refine (walks.digits_any (x : Int) (by omega) (by omega) _).mono ?_; rintro e w1 ⟨rfl, hb⟩) | go_in)
        · go_ret2
          exact ⟨ret_num (r := (0, false)) (numRes_other hx2.out (str_ne ‹_›)), hb⟩
        · go_ret2
          exact ⟨ret_num (r := ((x : Int), true)) (numRes_atoi_yes (by omega) hw (str_eq ‹_›)), hb⟩
      · go_wp2_with (first | (go_at_call 16; refine (walks.digits_any (x : Int) (by omega) (by omega) _).mono ?_; rintro e w1 ⟨rfl, hb⟩) | go_in)
        go_ret2
        exact ⟨ret_num (r := (0, false)) (numRes_great hx2.out (by omega)), Below.refl _ _⟩

theorem list_len (s : ByteArray) : s.data.toList.length = s.size := by simp

theorem spec_empty (s : ByteArray) (w : World) (h0 : s.size = 0) :
    Calls Tryz.prog 81 #[.string s] w fun e w' => e = .returned (.tuple #[.int .i64 (numRes s.data.toList).1, .bool (numRes s.data.toList).2]) ∧ Below w.heap.size w w' := by
  have e0 : numRes s.data.toList = (0, false) := by
    have hl : s.data.toList = [] := List.eq_nil_of_length_eq_zero (by rw [list_len]; exact h0)
    rw [hl]; rfl
  have t1 : decide ((s.size : Int) < 1) = true := by simp; omega
  have E0 : Hid (numRes s.data.toList = (0, false)) := e0
  clear e0 h0
  go_enter Tryz.func81, Tryz.ntmps81
  go_wp2
  go_ret2
  exact ⟨ret_num (r := (0, false)) E0.out, Below.refl _ _⟩

theorem spec_long (s : ByteArray) (w : World) (hs : s.size ≤ maxLen) (h10 : 10 < s.size) :
    Calls Tryz.prog 81 #[.string s] w fun e w' => e = .returned (.tuple #[.int .i64 (numRes s.data.toList).1, .bool (numRes s.data.toList).2]) ∧ Below w.heap.size w w' := by
  unfold maxLen at hs
  have E0 : Hid (numRes s.data.toList = (0, false)) := numRes_long (by rw [list_len]; exact h10)
  have t1 : decide ((s.size : Int) < 1) = false := by simp; omega
  have t2 : decide (10 < (s.size : Int)) = true := by simp; omega
  go_enter Tryz.func81, Tryz.ntmps81
  go_wp2
  go_ret2
  exact ⟨ret_num (r := (0, false)) E0.out, Below.refl _ _⟩

/-- spec.Number, at every text. -/
theorem spec_any (s : ByteArray) (w : World) (hs : s.size ≤ maxLen) :
    Calls Tryz.prog 81 #[.string s] w fun e w' => e = .returned (.tuple #[.int .i64 (numRes s.data.toList).1, .bool (numRes s.data.toList).2]) ∧ Below w.heap.size w w' := by
  by_cases h0 : s.size = 0
  · exact spec_empty s w h0
  · by_cases h10 : s.size ≤ 10
    · exact spec_number s w hs (by omega) h10
    · exact spec_long s w hs (by omega)

end Go.Proofs.YtlnpfnglphdaiaaGreatDoor.numWalks

namespace Go.Proofs.YtlnpfnglphdaiaaGreatDoor.tok
open Go Go.RowKit Go.Deep Go.Proofs.YtlnpfnglphdaiaaGreatDoor.rose Go.Proofs.YtlnpfnglphdaiaaGreatDoor
set_option linter.unusedVariables false
set_option linter.unusedSimpArgs false

def smallB (z : Int) : Bool := decide (97 ≤ z) && decide (z ≤ 122)
def largeB (z : Int) : Bool := decide (65 ≤ z) && decide (z ≤ 90)
def digitB (z : Int) : Bool := decide (48 ≤ z) && decide (z ≤ 57)
theorem ret_b {a b : Bool} (h : a = b) : Ending.returned (.bool a) = Ending.returned (.bool b) := by rw [h]

theorem small_any (z : Int) (w : World) : Calls Tryz.prog 78 #[.int .u8 z] w fun e w' => e = .returned (.bool (smallB z)) ∧ w' = w := by
  by_cases h : 97 ≤ z
  · have E : Hid (smallB z = decide (z ≤ 122)) := by show _ = _; simp [smallB, h]
    go_enter Tryz.func78, Tryz.ntmps78
    go_wp2
    go_ret
    exact ⟨ret_b E.out.symm, rfl⟩
  · have E : Hid (smallB z = false) := by show _ = _; simp [smallB, h]
    go_enter Tryz.func78, Tryz.ntmps78
    go_wp2
    go_ret
    exact ⟨ret_b E.out.symm, rfl⟩
theorem large_any (z : Int) (w : World) : Calls Tryz.prog 79 #[.int .u8 z] w fun e w' => e = .returned (.bool (largeB z)) ∧ w' = w := by
  by_cases h : 65 ≤ z
  · have E : Hid (largeB z = decide (z ≤ 90)) := by show _ = _; simp [largeB, h]
    go_enter Tryz.func79, Tryz.ntmps79
    go_wp2
    go_ret
    exact ⟨ret_b E.out.symm, rfl⟩
  · have E : Hid (largeB z = false) := by show _ = _; simp [largeB, h]
    go_enter Tryz.func79, Tryz.ntmps79
    go_wp2
    go_ret
    exact ⟨ret_b E.out.symm, rfl⟩
theorem digit_any (z : Int) (w : World) : Calls Tryz.prog 80 #[.int .u8 z] w fun e w' => e = .returned (.bool (digitB z)) ∧ w' = w := by
  by_cases h : 48 ≤ z
  · have E : Hid (digitB z = decide (z ≤ 57)) := by show _ = _; simp [digitB, h]
    go_enter Tryz.func80, Tryz.ntmps80
    go_wp2
    go_ret
    exact ⟨ret_b E.out.symm, rfl⟩
  · have E : Hid (digitB z = false) := by show _ = _; simp [digitB, h]
    go_enter Tryz.func80, Tryz.ntmps80
    go_wp2
    go_ret
    exact ⟨ret_b E.out.symm, rfl⟩

theorem num_le (l : List UInt8) : 0 ≤ (plain.numRes l).1 ∧ (plain.numRes l).1 ≤ 1073741823 := by
  unfold plain.numRes
  split
  · split
    · rename_i h; exact ⟨by simp, by simp; omega⟩
    · simp
  · simp

theorem ext_size {s : ByteArray} {a b : Nat} (h : a ≤ b) (hb : b ≤ s.size) : (s.extract a b).size = b - a := by
  rw [ByteArray.size_extract]; omega

theorem sl_run (s : ByteArray) (a b : Nat) (i j : Int) (hi : i = a) (hj : j = b) (h : a ≤ b) (hb : b ≤ s.size) (W : World) : (Instr.slice 9 (.string s) (some (.int .i64 i)) (some (.int .i64 j)) none).run Tryz.prog W = .ok (.string (s.extract a b)) W := by
  subst hi hj
  have := run_slice_string (P := Tryz.prog) W 9 s .i64 .i64 (a : Int) (b : Int) Tryz.underlying9 (by omega) (by omega) (by omega)
  simpa using this

set_option maxRecDepth 100000 in
set_option maxHeartbeats 2000000 in
theorem sign_any (s : ByteArray) (at_ : Nat) (w : World) (hs : s.size ≤ 3000) (hat : at_ < s.size) :
    Calls Tryz.prog 82 #[.string s, .int .i64 at_] w fun e w' => (∃ t : ByteArray, e = .returned (.string t) ∧ t.size ≤ 2 ∧ at_ + t.size ≤ s.size) ∧ Below w.heap.size w w' := by
  have HE1 : Hid ((s.extract at_ (at_ + 1)).size = 1) := by show _ = _; rw [ext_size (by omega) (by omega)]; omega
  have hsl1 : ∀ W, (Instr.slice 9 (.string s) (some (.int .i64 at_)) (some (.int .i64 ((at_ : Int) + 1))) none).run Tryz.prog W = .ok (.string (s.extract at_ (at_ + 1))) W := fun W => sl_run s at_ (at_ + 1) _ _ rfl (by omega) (by omega) (by omega) W
  generalize s.extract at_ (at_ + 1) = x1 at HE1 hsl1
  by_cases h1 : (at_ : Int) + 1 < (s.size : Int)
  · have HE2 : Hid ((s.extract at_ (at_ + 2)).size = 2) := by show _ = _; rw [ext_size (by omega) (by omega)]; omega
    have hsl2 : ∀ W, (Instr.slice 9 (.string s) (some (.int .i64 at_)) (some (.int .i64 ((at_ : Int) + 2))) none).run Tryz.prog W = .ok (.string (s.extract at_ (at_ + 2))) W := fun W => sl_run s at_ (at_ + 2) _ _ rfl (by omega) (by omega) (by omega) W
    generalize s.extract at_ (at_ + 2) = x2 at HE2 hsl2
    have HX : Hid (x2.size ≤ 2 ∧ at_ + x2.size ≤ s.size) := by rw [HE2.out]; exact ⟨Nat.le_refl _, by omega⟩
    clear HE2
    go_enter Tryz.func82, Tryz.ntmps82
    go_wp2
    · go_ret
      exact ⟨⟨x2, rfl, HX.out.1, HX.out.2⟩, Below.refl _ _⟩
    · go_ret
      exact ⟨⟨x2, rfl, HX.out.1, HX.out.2⟩, Below.refl _ _⟩
    · clear hsl2
      go_loopw [6] (fun v6 wr => ∃ i : Nat, i ≤ 12 ∧ v6 = .int .i64 i ∧ Hid (Below w.heap.size w wr)) (fun v6 _ => 12 - (intOf v6).toNat)
      case atStart => exact ⟨0, Nat.zero_le _, rfl, Below.refl _ _⟩
      case round =>
        obtain ⟨i, hi, rfl, HB⟩ := hrel
        by_cases hlt : (i : Int) < 12
        · go_wp2
          go_quiet (fail)
          go_wp2
          · go_ret
            exact ⟨⟨x1, rfl, by rw [HE1.out]; omega, by rw [HE1.out]; omega⟩, below_drewN HB.out _⟩
          · exact ⟨⟨i + 1, by omega, by go_num, below_drewN HB.out _⟩, by simp [intOf]; omega⟩
        · go_wp2
          go_ret
          exact ⟨⟨⟨#[]⟩, rfl, by decide, by show at_ + 0 ≤ _; omega⟩, HB.out⟩
  · go_enter Tryz.func82, Tryz.ntmps82
    go_wp2
    go_loopw [6] (fun v6 wr => ∃ i : Nat, i ≤ 12 ∧ v6 = .int .i64 i ∧ Hid (Below w.heap.size w wr)) (fun v6 _ => 12 - (intOf v6).toNat)
    case atStart => exact ⟨0, Nat.zero_le _, rfl, Below.refl _ _⟩
    case round =>
      obtain ⟨i, hi, rfl, HB⟩ := hrel
      by_cases hlt : (i : Int) < 12
      · go_wp2
        go_quiet (fail)
        go_wp2
        · go_ret
          exact ⟨⟨x1, rfl, by rw [HE1.out]; omega, by rw [HE1.out]; omega⟩, below_drewN HB.out _⟩
        · exact ⟨⟨i + 1, by omega, by go_num, below_drewN HB.out _⟩, by simp [intOf]; omega⟩
      · go_wp2
        go_ret
        exact ⟨⟨⟨#[]⟩, rfl, by decide, by show at_ + 0 ≤ _; omega⟩, HB.out⟩

/-- What l2One gives: a token, the place behind it, and whether there is one. -/
def OneSays (s : ByteArray) (at_ : Nat) (w : World) (e : Ending) (w' : World) : Prop :=
  (∃ (k n to : Int) (t : ByteArray) (ok : Bool), e = .returned (.tuple #[.agg #[.int .i64 k, .string t, .int .i64 n, .int .i64 at_], .int .i64 to, .bool ok]) ∧ (ok = true → (at_ : Int) < to ∧ to ≤ s.size ∧ t.size ≤ 8 ∧ 0 ≤ n ∧ n ≤ 1073741823 ∧ 1 ≤ k ∧ k ≤ 4) ∧ (0 ≤ n ∧ n ≤ 1073741823) ∧ t.size ≤ 3000) ∧ Below w.heap.size w w'

theorem byte_letter {s : ByteArray} {i : Nat} (h : i < s.size) : (0 : Int) ≤ (s[i].toNat : Int) := by omega

theorem cells_one {w w1 : World} (hb : Below (w.alloc (.cells #[.int .i64 0, .string ⟨#[]⟩, .int .i64 0, .int .i64 0] 125)).heap.size (w.alloc (.cells #[.int .i64 0, .string ⟨#[]⟩, .int .i64 0, .int .i64 0] 125)) w1) : w1.heap[w.heap.size]? = some (.cells #[.int .i64 0, .string ⟨#[]⟩, .int .i64 0, .int .i64 0] 125) :=
  (hb.block _ (by simp)).trans (alloc_top _ _)

set_option maxRecDepth 100000 in
set_option maxHeartbeats 4000000 in
theorem one_sign (s : ByteArray) (at_ : Nat) (w : World) (hs : s.size ≤ 3000) (hat : at_ < s.size) (h1 : smallB s[at_].toNat = false) (h2 : largeB s[at_].toNat = false) (h3 : digitB s[at_].toNat = false) :
    Calls Tryz.prog 55 #[.string s, .int .i64 at_] w (OneSays s at_ w) := by
  obtain ⟨z, hz⟩ : ∃ z : Int, z = s[at_].toNat := ⟨_, rfl⟩
  rw [← hz] at h1 h2 h3
  have hix : ∀ W, (Instr.index 9 (.string s) (.int .i64 at_)).run Tryz.prog W = .ok (.int .u8 z) W := fun W => by rw [hz]; simp [go_sem, hat]
  clear hz
  have B0 : Hid (Below w.heap.size w (w.alloc (.cells #[.int .i64 0, .string ⟨#[]⟩, .int .i64 0, .int .i64 0] 125))) := (Below.refl _ _).alloc (Nat.le_refl _) _
  have c1 := small_any z (w.alloc (.cells #[.int .i64 0, .string ⟨#[]⟩, .int .i64 0, .int .i64 0] 125))
  have c2 := large_any z (w.alloc (.cells #[.int .i64 0, .string ⟨#[]⟩, .int .i64 0, .int .i64 0] 125))
  have c3 := digit_any z (w.alloc (.cells #[.int .i64 0, .string ⟨#[]⟩, .int .i64 0, .int .i64 0] 125))
  have c4 := sign_any s at_ (w.alloc (.cells #[.int .i64 0, .string ⟨#[]⟩, .int .i64 0, .int .i64 0] 125)) hs hat
  rw [h1] at c1
  rw [h2] at c2
  rw [h3] at c3
  clear h1 h2 h3
  go_enter Tryz.func55, Tryz.ntmps55
  go_wp2_with (first
    | (go_at_call 78; refine c1.mono ?_; rintro e w1 ⟨rfl, rfl⟩)
    | (go_at_call 79; refine c2.mono ?_; rintro e w1 ⟨rfl, rfl⟩)
    | (go_at_call 80; refine c3.mono ?_; rintro e w1 ⟨rfl, rfl⟩)
    | fail)
  refine c4.mono ?_
  rintro e w1 ⟨⟨t, rfl, ht, hto⟩, hb⟩
  have hp := cells_one hb
  have B1 : Hid (Below w.heap.size w w1) := B0.out.trans (hb.mono (by simp))
  clear hb c1 c2 c3 c4
  have k0 : w1.cell? ⟨w.heap.size, 0, none⟩ = some (.int .i64 0) := by simp [World.cell?, hp]
  have k1 : w1.cell? ⟨w.heap.size, 1, none⟩ = some (.string ⟨#[]⟩) := by simp [World.cell?, hp]
  have k2 : w1.cell? ⟨w.heap.size, 2, none⟩ = some (.int .i64 0) := by simp [World.cell?, hp]
  have k3 : w1.cell? ⟨w.heap.size, 3, none⟩ = some (.int .i64 0) := by simp [World.cell?, hp]
  have f1 : ∀ o, w1.frozen? ⟨w.heap.size, o, none⟩ = false := fun o => by simp [World.frozen?, hp]
  clear hp
  go_wp2
  refine bodyPost_ret (v := .tuple #[.agg #[.int .i64 4, .string t, .int .i64 0, .int .i64 at_], .int .i64 (at_ + t.size), .bool (!t.toList.isEmpty)]) (by simp [results, Tryz.f55, go_sem, k0, k1, k2, k3]; try omega) rfl ?_
  refine ⟨⟨4, 0, at_ + t.size, t, !t.toList.isEmpty, rfl, fun hok => ?_, by omega, by omega⟩, ?_⟩
  · have hp : 0 < t.size := by
      rcases Nat.eq_zero_or_pos t.size with h | h
      · exfalso
        have : t.toList = [] := by
          rw [ByteArray.toList_eq, show t.data = #[] from Array.eq_empty_of_size_eq_zero h]
        rw [this] at hok
        cases hok
      · exact h
    omega
  · repeat first | with_reducible exact B1.out | (refine Below.setCell ?_ (by first | (simp; done) | (simp; omega)) _)


theorem ix_run (s : ByteArray) (i : Nat) (h : i < s.size) (W : World) : (Instr.index 9 (.string s) (.int .i64 i)).run Tryz.prog W = .ok (.int .u8 s[i].toNat) W := by simp [go_sem, h]

set_option maxRecDepth 100000 in
set_option maxHeartbeats 4000000 in
theorem one_name (s : ByteArray) (at_ : Nat) (w : World) (hs : s.size ≤ 3000) (hat : at_ < s.size) (h12 : smallB s[at_].toNat = true ∨ (smallB s[at_].toNat = false ∧ largeB s[at_].toNat = true)) :
    Calls Tryz.prog 55 #[.string s, .int .i64 at_] w (OneSays s at_ w) := by
  obtain ⟨z, hz⟩ : ∃ z : Int, z = s[at_].toNat := ⟨_, rfl⟩
  have HLET : Hid (smallB s[at_].toNat = true ∨ largeB s[at_].toNat = true) := by
    rcases h12 with h | h
    · exact .inl h
    · exact .inr h.2
  rw [← hz] at h12
  have hix : ∀ W, (Instr.index 9 (.string s) (.int .i64 at_)).run Tryz.prog W = .ok (.int .u8 z) W := fun W => by rw [hz]; exact ix_run s at_ hat W
  have HSL : Hid (∀ j, at_ ≤ j → j ≤ s.size → ∀ W, (Instr.slice 9 (.string s) (some (.int .i64 at_)) (some (.int .i64 (j : Nat))) none).run Tryz.prog W = .ok (.string (s.extract at_ j)) W) := fun j h1 h2 W => sl_run s at_ j _ _ rfl rfl h1 h2 W
  clear hz
  obtain ⟨w0, hw0⟩ : ∃ w0, w0 = w.alloc (.cells #[.int .i64 0, .string ⟨#[]⟩, .int .i64 0, .int .i64 0] 125) := ⟨_, rfl⟩
  have B0 : Hid (Below w.heap.size w w0) := by show Below _ _ _; rw [hw0]; exact (Below.refl _ _).alloc (Nat.le_refl _) _
  have hp : w0.heap[w.heap.size]? = some (.cells #[.int .i64 0, .string ⟨#[]⟩, .int .i64 0, .int .i64 0] 125) := by rw [hw0]; exact alloc_top _ _
  have k0 : w0.cell? ⟨w.heap.size, 0, none⟩ = some (.int .i64 0) := by simp [World.cell?, hp]
  have k1 : w0.cell? ⟨w.heap.size, 1, none⟩ = some (.string ⟨#[]⟩) := by simp [World.cell?, hp]
  have k2 : w0.cell? ⟨w.heap.size, 2, none⟩ = some (.int .i64 0) := by simp [World.cell?, hp]
  have k3 : w0.cell? ⟨w.heap.size, 3, none⟩ = some (.int .i64 0) := by simp [World.cell?, hp]
  have f1 : ∀ o, w0.frozen? ⟨w.heap.size, o, none⟩ = false := fun o => by simp [World.frozen?, hp]
  have HW0 : Hid (w0 = w.alloc (.cells #[.int .i64 0, .string ⟨#[]⟩, .int .i64 0, .int .i64 0] 125)) := hw0
  clear hp hw0
  have HSM : Hid (∀ z w, Calls Tryz.prog 78 #[.int .u8 z] w fun e w' => e = .returned (.bool (smallB z)) ∧ w' = w) := small_any
  have HLA : Hid (∀ z w, Calls Tryz.prog 79 #[.int .u8 z] w fun e w' => e = .returned (.bool (largeB z)) ∧ w' = w) := large_any
  go_enter Tryz.func55, Tryz.ntmps55
  rcases h12 with h1 | ⟨h1, h2⟩
  · have c1 := small_any z
    rw [h1] at c1
    clear h1
    go_wp2_with (first | (go_at_call 78; refine (c1 _).mono ?_; rintro e w1 ⟨rfl, rfl⟩) | fail)
    rw [← HW0.out]
    clear c1
    go_loopw [7] (fun v7 wr => ∃ j : Nat, at_ ≤ j ∧ j ≤ s.size ∧ v7 = .int .i64 j ∧ wr = w0) (fun v7 _ => s.size - (intOf v7).toNat)
    case atStart => exact ⟨at_, Nat.le_refl _, by omega, rfl, rfl⟩
    case round =>
      obtain ⟨j, hj1, hj2, rfl, hwr⟩ := hrel
      subst hwr
      by_cases hlt : j < s.size
      · obtain ⟨y, hy⟩ : ∃ y : Int, y = s[j].toNat := ⟨_, rfl⟩
        have hiy : ∀ W, (Instr.index 9 (.string s) (.int .i64 j)).run Tryz.prog W = .ok (.int .u8 y) W := fun W => by rw [hy]; exact ix_run s j hlt W
        have HNE : Hid (smallB y = false → largeB y = false → at_ < j) := fun q1 q2 => by
          rcases Nat.lt_or_ge at_ j with h | h
          · exact h
          · exfalso
            have e : j = at_ := by omega
            subst e
            have := HLET.out
            rw [← hy, q1, q2] at this
            rcases this with h | h <;> cases h
        obtain ⟨b1, hb1⟩ : ∃ b, b = smallB y := ⟨_, rfl⟩
        obtain ⟨b2, hb2⟩ : ∃ b, b = largeB y := ⟨_, rfl⟩
        have HB1 : Hid (b1 = smallB y) := hb1
        have HB2 : Hid (b2 = largeB y) := hb2
        have d1 := HSM.out y
        have d2 := HLA.out y
        rw [← hb1] at d1
        rw [← hb2] at d2
        clear hy hb1 hb2
        cases b1 with
        | true =>
          go_wp2_with (first | (go_at_call 78; refine (d1 _).mono ?_; rintro e w1 ⟨rfl, rfl⟩) | (go_at_call 79; refine (d2 _).mono ?_; rintro e w1 ⟨rfl, rfl⟩) | fail)
          go_round
          case rel => exact ⟨j + 1, by omega, by omega, by go_num, by first | rfl | trivial⟩
          case measure => simp [intOf]; omega
        | false =>
        cases b2 with
        | true =>
          go_wp2_with (first | (go_at_call 78; refine (d1 _).mono ?_; rintro e w1 ⟨rfl, rfl⟩) | (go_at_call 79; refine (d2 _).mono ?_; rintro e w1 ⟨rfl, rfl⟩) | fail)
          go_round
          case rel => exact ⟨j + 1, by omega, by omega, by go_num, by first | rfl | trivial⟩
          case measure => simp [intOf]; omega
        | false =>
        have HJ : Hid (at_ < j) := HNE.out HB1.out.symm HB2.out.symm
        have hat_j : at_ < j := HJ.out
        have hxs := HSL.out j (by omega) (by omega)
        have HXZ : Hid ((s.extract at_ j).size = j - at_) := ext_size (by omega) (by omega)
        generalize s.extract at_ j = x at hxs HXZ
        have hle : ((j : Int) - (at_ : Int) ≤ 8) ↔ j - at_ ≤ 8 := by omega
        obtain ⟨bl, hbl⟩ : ∃ b, b = largeB z := ⟨_, rfl⟩
        have e2 := HLA.out z
        rw [← hbl] at e2
        clear hbl
        cases bl with
        | true =>
          go_wp2_with (first | (go_at_call 78; refine (d1 _).mono ?_; rintro e w1 ⟨rfl, rfl⟩) | (go_at_call 79; first | (refine (e2 _).mono ?_; rintro e w1 ⟨rfl, rfl⟩) | (refine (d2 _).mono ?_; rintro e w1 ⟨rfl, rfl⟩)) | fail)
          refine bodyPost_ret (v := .tuple #[.agg #[.int .i64 2, .string x, .int .i64 0, .int .i64 at_], .int .i64 j, .bool (decide ((j : Int) - (at_ : Int) ≤ 8))]) (by simp [results, Tryz.f55, go_sem, k0, k1, k2, k3]; try omega) rfl ?_
          refine ⟨⟨2, 0, j, x, _, rfl, fun hok => ?_, by omega, by rw [HXZ.out]; omega⟩, ?_⟩
          · have h8 := hle.1 (of_decide_eq_true hok)
            rw [HXZ.out]
            omega
          · repeat first | with_reducible exact B0.out | (refine Below.setCell ?_ (by first | (simp; done) | (simp; omega)) _)
        | false =>
          go_wp2_with (first | (go_at_call 78; refine (d1 _).mono ?_; rintro e w1 ⟨rfl, rfl⟩) | (go_at_call 79; first | (refine (e2 _).mono ?_; rintro e w1 ⟨rfl, rfl⟩) | (refine (d2 _).mono ?_; rintro e w1 ⟨rfl, rfl⟩)) | fail)
          refine bodyPost_ret (v := .tuple #[.agg #[.int .i64 1, .string x, .int .i64 0, .int .i64 at_], .int .i64 j, .bool (decide ((j : Int) - (at_ : Int) ≤ 8))]) (by simp [results, Tryz.f55, go_sem, k0, k1, k2, k3]; try omega) rfl ?_
          refine ⟨⟨1, 0, j, x, _, rfl, fun hok => ?_, by omega, by rw [HXZ.out]; omega⟩, ?_⟩
          · have h8 := hle.1 (of_decide_eq_true hok)
            rw [HXZ.out]
            omega
          · repeat first | with_reducible exact B0.out | (refine Below.setCell ?_ (by first | (simp; done) | (simp; omega)) _)
      · obtain rfl : j = s.size := by omega
        have HJ : Hid (at_ < s.size) := hat
        have d1 := HSM.out z
        have d2 := HLA.out z
        have hat_j : at_ < s.size := HJ.out
        have hxs := HSL.out s.size (by omega) (by omega)
        have HXZ : Hid ((s.extract at_ s.size).size = s.size - at_) := ext_size (by omega) (by omega)
        generalize s.extract at_ s.size = x at hxs HXZ
        have hle : ((s.size : Int) - (at_ : Int) ≤ 8) ↔ s.size - at_ ≤ 8 := by omega
        obtain ⟨bl, hbl⟩ : ∃ b, b = largeB z := ⟨_, rfl⟩
        have e2 := HLA.out z
        rw [← hbl] at e2
        clear hbl
        cases bl with
        | true =>
          go_wp2_with (first | (go_at_call 78; refine (d1 _).mono ?_; rintro e w1 ⟨rfl, rfl⟩) | (go_at_call 79; first | (refine (e2 _).mono ?_; rintro e w1 ⟨rfl, rfl⟩) | (refine (d2 _).mono ?_; rintro e w1 ⟨rfl, rfl⟩)) | fail)
          refine bodyPost_ret (v := .tuple #[.agg #[.int .i64 2, .string x, .int .i64 0, .int .i64 at_], .int .i64 s.size, .bool (decide ((s.size : Int) - (at_ : Int) ≤ 8))]) (by simp [results, Tryz.f55, go_sem, k0, k1, k2, k3]; try omega) rfl ?_
          refine ⟨⟨2, 0, s.size, x, _, rfl, fun hok => ?_, by omega, by rw [HXZ.out]; omega⟩, ?_⟩
          · have h8 := hle.1 (of_decide_eq_true hok)
            rw [HXZ.out]
            omega
          · repeat first | with_reducible exact B0.out | (refine Below.setCell ?_ (by first | (simp; done) | (simp; omega)) _)
        | false =>
          go_wp2_with (first | (go_at_call 78; refine (d1 _).mono ?_; rintro e w1 ⟨rfl, rfl⟩) | (go_at_call 79; first | (refine (e2 _).mono ?_; rintro e w1 ⟨rfl, rfl⟩) | (refine (d2 _).mono ?_; rintro e w1 ⟨rfl, rfl⟩)) | fail)
          refine bodyPost_ret (v := .tuple #[.agg #[.int .i64 1, .string x, .int .i64 0, .int .i64 at_], .int .i64 s.size, .bool (decide ((s.size : Int) - (at_ : Int) ≤ 8))]) (by simp [results, Tryz.f55, go_sem, k0, k1, k2, k3]; try omega) rfl ?_
          refine ⟨⟨1, 0, s.size, x, _, rfl, fun hok => ?_, by omega, by rw [HXZ.out]; omega⟩, ?_⟩
          · have h8 := hle.1 (of_decide_eq_true hok)
            rw [HXZ.out]
            omega
          · repeat first | with_reducible exact B0.out | (refine Below.setCell ?_ (by first | (simp; done) | (simp; omega)) _)
  · have c1 := small_any z
    have c2 := large_any z
    rw [h1] at c1
    rw [h2] at c2
    clear h1 h2
    go_wp2_with (first | (go_at_call 78; refine (c1 _).mono ?_; rintro e w1 ⟨rfl, rfl⟩) | (go_at_call 79; refine (c2 _).mono ?_; rintro e w1 ⟨rfl, rfl⟩) | fail)
    rw [← HW0.out]
    clear c1 c2
    go_loopw [7] (fun v7 wr => ∃ j : Nat, at_ ≤ j ∧ j ≤ s.size ∧ v7 = .int .i64 j ∧ wr = w0) (fun v7 _ => s.size - (intOf v7).toNat)
    case atStart => exact ⟨at_, Nat.le_refl _, by omega, rfl, rfl⟩
    case round =>
      obtain ⟨j, hj1, hj2, rfl, hwr⟩ := hrel
      subst hwr
      by_cases hlt : j < s.size
      · obtain ⟨y, hy⟩ : ∃ y : Int, y = s[j].toNat := ⟨_, rfl⟩
        have hiy : ∀ W, (Instr.index 9 (.string s) (.int .i64 j)).run Tryz.prog W = .ok (.int .u8 y) W := fun W => by rw [hy]; exact ix_run s j hlt W
        have HNE : Hid (smallB y = false → largeB y = false → at_ < j) := fun q1 q2 => by
          rcases Nat.lt_or_ge at_ j with h | h
          · exact h
          · exfalso
            have e : j = at_ := by omega
            subst e
            have := HLET.out
            rw [← hy, q1, q2] at this
            rcases this with h | h <;> cases h
        obtain ⟨b1, hb1⟩ : ∃ b, b = smallB y := ⟨_, rfl⟩
        obtain ⟨b2, hb2⟩ : ∃ b, b = largeB y := ⟨_, rfl⟩
        have HB1 : Hid (b1 = smallB y) := hb1
        have HB2 : Hid (b2 = largeB y) := hb2
        have d1 := HSM.out y
        have d2 := HLA.out y
        rw [← hb1] at d1
        rw [← hb2] at d2
        clear hy hb1 hb2
        cases b1 with
        | true =>
          go_wp2_with (first | (go_at_call 78; refine (d1 _).mono ?_; rintro e w1 ⟨rfl, rfl⟩) | (go_at_call 79; refine (d2 _).mono ?_; rintro e w1 ⟨rfl, rfl⟩) | fail)
          go_round
          case rel => exact ⟨j + 1, by omega, by omega, by go_num, by first | rfl | trivial⟩
          case measure => simp [intOf]; omega
        | false =>
        cases b2 with
        | true =>
          go_wp2_with (first | (go_at_call 78; refine (d1 _).mono ?_; rintro e w1 ⟨rfl, rfl⟩) | (go_at_call 79; refine (d2 _).mono ?_; rintro e w1 ⟨rfl, rfl⟩) | fail)
          go_round
          case rel => exact ⟨j + 1, by omega, by omega, by go_num, by first | rfl | trivial⟩
          case measure => simp [intOf]; omega
        | false =>
        have HJ : Hid (at_ < j) := HNE.out HB1.out.symm HB2.out.symm
        have hat_j : at_ < j := HJ.out
        have hxs := HSL.out j (by omega) (by omega)
        have HXZ : Hid ((s.extract at_ j).size = j - at_) := ext_size (by omega) (by omega)
        generalize s.extract at_ j = x at hxs HXZ
        have hle : ((j : Int) - (at_ : Int) ≤ 8) ↔ j - at_ ≤ 8 := by omega
        obtain ⟨bl, hbl⟩ : ∃ b, b = largeB z := ⟨_, rfl⟩
        have e2 := HLA.out z
        rw [← hbl] at e2
        clear hbl
        cases bl with
        | true =>
          go_wp2_with (first | (go_at_call 78; refine (d1 _).mono ?_; rintro e w1 ⟨rfl, rfl⟩) | (go_at_call 79; first | (refine (e2 _).mono ?_; rintro e w1 ⟨rfl, rfl⟩) | (refine (d2 _).mono ?_; rintro e w1 ⟨rfl, rfl⟩)) | fail)
          refine bodyPost_ret (v := .tuple #[.agg #[.int .i64 2, .string x, .int .i64 0, .int .i64 at_], .int .i64 j, .bool (decide ((j : Int) - (at_ : Int) ≤ 8))]) (by simp [results, Tryz.f55, go_sem, k0, k1, k2, k3]; try omega) rfl ?_
          refine ⟨⟨2, 0, j, x, _, rfl, fun hok => ?_, by omega, by rw [HXZ.out]; omega⟩, ?_⟩
          · have h8 := hle.1 (of_decide_eq_true hok)
            rw [HXZ.out]
            omega
          · repeat first | with_reducible exact B0.out | (refine Below.setCell ?_ (by first | (simp; done) | (simp; omega)) _)
        | false =>
          go_wp2_with (first | (go_at_call 78; refine (d1 _).mono ?_; rintro e w1 ⟨rfl, rfl⟩) | (go_at_call 79; first | (refine (e2 _).mono ?_; rintro e w1 ⟨rfl, rfl⟩) | (refine (d2 _).mono ?_; rintro e w1 ⟨rfl, rfl⟩)) | fail)
          refine bodyPost_ret (v := .tuple #[.agg #[.int .i64 1, .string x, .int .i64 0, .int .i64 at_], .int .i64 j, .bool (decide ((j : Int) - (at_ : Int) ≤ 8))]) (by simp [results, Tryz.f55, go_sem, k0, k1, k2, k3]; try omega) rfl ?_
          refine ⟨⟨1, 0, j, x, _, rfl, fun hok => ?_, by omega, by rw [HXZ.out]; omega⟩, ?_⟩
          · have h8 := hle.1 (of_decide_eq_true hok)
            rw [HXZ.out]
            omega
          · repeat first | with_reducible exact B0.out | (refine Below.setCell ?_ (by first | (simp; done) | (simp; omega)) _)
      · obtain rfl : j = s.size := by omega
        have HJ : Hid (at_ < s.size) := hat
        have d1 := HSM.out z
        have d2 := HLA.out z
        have hat_j : at_ < s.size := HJ.out
        have hxs := HSL.out s.size (by omega) (by omega)
        have HXZ : Hid ((s.extract at_ s.size).size = s.size - at_) := ext_size (by omega) (by omega)
        generalize s.extract at_ s.size = x at hxs HXZ
        have hle : ((s.size : Int) - (at_ : Int) ≤ 8) ↔ s.size - at_ ≤ 8 := by omega
        obtain ⟨bl, hbl⟩ : ∃ b, b = largeB z := ⟨_, rfl⟩
        have e2 := HLA.out z
        rw [← hbl] at e2
        clear hbl
        cases bl with
        | true =>
          go_wp2_with (first | (go_at_call 78; refine (d1 _).mono ?_; rintro e w1 ⟨rfl, rfl⟩) | (go_at_call 79; first | (refine (e2 _).mono ?_; rintro e w1 ⟨rfl, rfl⟩) | (refine (d2 _).mono ?_; rintro e w1 ⟨rfl, rfl⟩)) | fail)
          refine bodyPost_ret (v := .tuple #[.agg #[.int .i64 2, .string x, .int .i64 0, .int .i64 at_], .int .i64 s.size, .bool (decide ((s.size : Int) - (at_ : Int) ≤ 8))]) (by simp [results, Tryz.f55, go_sem, k0, k1, k2, k3]; try omega) rfl ?_
          refine ⟨⟨2, 0, s.size, x, _, rfl, fun hok => ?_, by omega, by rw [HXZ.out]; omega⟩, ?_⟩
          · have h8 := hle.1 (of_decide_eq_true hok)
            rw [HXZ.out]
            omega
          · repeat first | with_reducible exact B0.out | (refine Below.setCell ?_ (by first | (simp; done) | (simp; omega)) _)
        | false =>
          go_wp2_with (first | (go_at_call 78; refine (d1 _).mono ?_; rintro e w1 ⟨rfl, rfl⟩) | (go_at_call 79; first | (refine (e2 _).mono ?_; rintro e w1 ⟨rfl, rfl⟩) | (refine (d2 _).mono ?_; rintro e w1 ⟨rfl, rfl⟩)) | fail)
          refine bodyPost_ret (v := .tuple #[.agg #[.int .i64 1, .string x, .int .i64 0, .int .i64 at_], .int .i64 s.size, .bool (decide ((s.size : Int) - (at_ : Int) ≤ 8))]) (by simp [results, Tryz.f55, go_sem, k0, k1, k2, k3]; try omega) rfl ?_
          refine ⟨⟨1, 0, s.size, x, _, rfl, fun hok => ?_, by omega, by rw [HXZ.out]; omega⟩, ?_⟩
          · have h8 := hle.1 (of_decide_eq_true hok)
            rw [HXZ.out]
            omega
          · repeat first | with_reducible exact B0.out | (refine Below.setCell ?_ (by first | (simp; done) | (simp; omega)) _)

end Go.Proofs.YtlnpfnglphdaiaaGreatDoor.tok
