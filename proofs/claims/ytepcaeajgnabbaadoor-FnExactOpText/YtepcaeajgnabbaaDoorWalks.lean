/-
  The model's Digits, at every int, returns the decimal numeral and turns nothing that was there. No condition beyond the int's own bounds.
-/
import Derived.Test.YtepcaeajgnabbaaDoorChecked
import Derived.WalkKit
import Derived.WalkLawsBesides
import Derived.Lib.ItoaNum
import Derived.Laws.IdiomStrings
import Derived.Lib.ItoaLen
namespace Go.Proofs.YtepcaeajgnabbaaDoor.walks
open Go.RowKit
set_option maxRecDepth 100000

/-- the digits of m, none of 0 -/
def dd (m : Nat) : List UInt8 := if m = 0 then [] else Lib.decDigits m

theorem dd_step (m : Nat) (h : m ≠ 0) : dd m = dd (m / 10) ++ [UInt8.ofNat (48 + m % 10)] := by
  unfold dd
  rw [if_neg h]
  by_cases h10 : m < 10
  · rw [Lib.decDigits_one h10, if_pos (by omega), Nat.mod_eq_of_lt h10]; rfl
  · rw [Lib.decDigits, dif_neg h10, if_neg (by omega)]

/-- 'string([]byte{c})': the one byte. -/
theorem conv_one (w : World) (c : Int) (h0 : 0 ≤ c) (h1 : c < 256) :
    (convert 37 9 (.slice (some ⟨w.heap.size, 0, none⟩) 1 1)).run Tryd.prog (w.alloc (.cells #[.int .u8 c] 5)) = .ok (.string ⟨#[UInt8.ofNat c.toNat]⟩) (w.alloc (.cells #[.int .u8 c] 5)) := by
  have hc : ∀ j (hj : j < [UInt8.ofNat c.toNat].length), (w.alloc (.cells #[.int .u8 c] 5)).cell? ((⟨w.heap.size, 0, none⟩ : Addr).add j) = some (.int .u8 ([UInt8.ofNat c.toNat][j].toNat : Int)) := by
    intro j hj
    obtain rfl : j = 0 := by simpa using hj
    have e : ((UInt8.ofNat c.toNat).toNat : Int) = c := by simp [UInt8.toNat_ofNat']; omega
    simp only [List.getElem_cons_zero, e]
    exact World.cell?_alloc_new w _ 5 0
  exact run_convert_bytes_back (P := Tryd.prog) _ 37 9 5 ⟨w.heap.size, 0, none⟩ 1 [UInt8.ofNat c.toNat] Tryd.underlying37 Tryd.underlying5 Tryd.underlying9 hc

theorem byte_eq (m : Nat) : (48 : UInt8) + UInt8.ofNat (m % 10) = UInt8.ofNat (48 + m % 10) := by
  rw [UInt8.ofNat_add]; rfl

theorem dd_next {m u : Nat} {acc : List UInt8} (h : m ≠ 0) (ha : dd m ++ acc = dd u) : dd (m / 10) ++ (UInt8.ofNat (48 + m % 10) :: acc) = dd u := by
  rw [← ha, dd_step m h]; simp

theorem str_cons (b : UInt8) (acc : List UInt8) : Value.string ({ data := #[b] } ++ { data := acc.toArray }) = .string ⟨(b :: acc).toArray⟩ := by
  congr 1

theorem acc_le {m u : Nat} {acc : List UInt8} (hu : (u : Int) ≤ 9223372036854775808) (ha : dd m ++ acc = dd u) : acc.length ≤ 20 := by
  have h : (dd u).length ≤ 20 := by
    unfold dd
    split
    · simp
    · rw [Lib.decDigits_length]; exact Lib.nDigits_le20 u (by omega)
  rw [← ha, List.length_append] at h
  omega

theorem ret_str {a b : ByteArray} (h : a = b) : Ending.returned (.string a) = .returned (.string b) := by rw [h]

set_option maxHeartbeats 400000 in
theorem digits_pos (u : Nat) (hn : 0 < u) (hn2 : (u : Int) ≤ 9223372036854775807) (w : World) :
    Calls Tryd.prog 9 #[.int .i64 u] w fun e w' => e = .returned (.string ⟨(dd u).toArray⟩) ∧ Below w.heap.size w w' := by
  have e0 : ((u : Int) == 0) = false := beq_eq_false_iff_ne.2 (by omega)
  have e1 : decide ((u : Int) < 0) = false := by simp
  go_enter Tryd.func9, Tryd.ntmps9
  go_wp2
  go_loopw [0, 4, 5] (fun x o _ wr => ∃ (m : Nat) (acc : List UInt8), m ≤ u ∧ x = .int .i64 m ∧ o = .string ⟨acc.toArray⟩ ∧ Hid (dd m ++ acc = dd u) ∧ Below w.heap.size w wr) (fun x _ _ _ => (intOf x).toNat)
  case atStart => exact ⟨u, [], Nat.le_refl _, rfl, rfl, List.append_nil _, Below.refl _ _⟩
  case round =>
    obtain ⟨m, acc, hm, rfl, rfl, ha, hb⟩ := hrel
    have hl := acc_le (by omega) ha.out
    by_cases hz : m = 0
    · subst hz
      go_wp2
      go_ret
      exact ⟨ret_str (by rw [← ha.out]; rfl), hb⟩
    · have hm0 : ((m : Int) != 0) = true := by rw [bne_iff_ne]; omega
      have hcv := conv_one wr (48 + (m : Int) % 10) (by omega) (by omega)
      go_wp2
      refine ⟨⟨m / 10, UInt8.ofNat (48 + m % 10) :: acc, by omega, by go_num, ?_, dd_next hz ha.out, ?_⟩, ?_⟩
      · first | rfl | rw [byte_eq, str_cons]
      · exact hb.alloc hb.size _
      · simp [intOf]; omega

set_option maxHeartbeats 400000 in
theorem digits_neg (u : Nat) (hn : 0 < u) (hn2 : (u : Int) ≤ 9223372036854775808) (w : World) :
    Calls Tryd.prog 9 #[.int .i64 (-(u : Int))] w fun e w' => e = .returned (.string ⟨(45 :: dd u).toArray⟩) ∧ Below w.heap.size w w' := by
  have e0 : ((-(u : Int)) == 0) = false := beq_eq_false_iff_ne.2 (by omega)
  have e1 : decide (-(u : Int) < 0) = true := by simp; omega
  go_enter Tryd.func9, Tryd.ntmps9
  go_wp2
  go_loopw [0, 4, 5] (fun x o _ wr => ∃ (m : Nat) (acc : List UInt8), m ≤ u ∧ x = .int .i64 (-(m : Int)) ∧ o = .string ⟨acc.toArray⟩ ∧ Hid (dd m ++ acc = dd u) ∧ Below w.heap.size w wr) (fun x _ _ _ => (-(intOf x)).toNat)
  case atStart => exact ⟨u, [], Nat.le_refl _, rfl, rfl, List.append_nil _, Below.refl _ _⟩
  case round =>
    obtain ⟨m, acc, hm, rfl, rfl, ha, hb⟩ := hrel
    have hl := acc_le (by omega) ha.out
    by_cases hz : m = 0
    · subst hz
      go_wp2
      go_ret
      exact ⟨ret_str (by rw [← ha.out]; apply ByteArray.ext; simp [ByteArray.data_append, dd]), hb⟩
    · have hm0 : ((-(m : Int)) != 0) = true := by rw [bne_iff_ne]; omega
      have hcv := conv_one wr (48 + (m : Int) % 10) (by omega) (by omega)
      have hcv2 := fun (h : (m : Int) % 10 ≤ 0) => conv_one wr (48 + -((m : Int) % 10)) (by omega) (by omega)
      by_cases hd : 0 < (m : Int) % 10
      · clear hcv2
        go_wp2
        refine ⟨⟨m / 10, UInt8.ofNat (48 + m % 10) :: acc, by omega, by go_num, ?_, dd_next hz ha.out, ?_⟩, ?_⟩
        · first | rfl | rw [byte_eq, str_cons]
        · exact hb.alloc hb.size _
        · simp [intOf]; omega
      · have hcv2 := hcv2 (by omega)
        have hby : (48 + -((m : Int) % 10)).toNat = 48 + m % 10 := by omega
        have HB : Hid ((48 + -((m : Int) % 10)).toNat = 48 + m % 10) := hby
        clear hby hcv
        go_wp2
        refine ⟨⟨m / 10, UInt8.ofNat (48 + m % 10) :: acc, by omega, by go_num, ?_, dd_next hz ha.out, ?_⟩, ?_⟩
        · rw [HB.out, str_cons]
        · exact hb.alloc hb.size _
        · simp [intOf]; omega

theorem digits_zero (w : World) : Calls Tryd.prog 9 #[.int .i64 0] w fun e w' => e = .returned (.string ⟨#[48]⟩) ∧ Below w.heap.size w w' := by
  go_enter Tryd.func9, Tryd.ntmps9
  go_wp2
  go_ret
  exact ⟨rfl, Below.refl _ _⟩

/-- spec.Digits, at every int: its decimal numeral; of what was there nothing has turned. -/
theorem digits_any (n : Int) (h0 : -9223372036854775808 ≤ n) (h1 : n ≤ 9223372036854775807) (w : World) :
    Calls Tryd.prog 9 #[.int .i64 n] w fun e w' => e = .returned (.string ⟨(Lib.itoa n).toArray⟩) ∧ Below w.heap.size w w' := by
  rcases Int.lt_trichotomy n 0 with h | h | h
  · obtain ⟨u, rfl⟩ : ∃ u : Nat, n = -(u : Int) := ⟨n.natAbs, by omega⟩
    have e : Lib.itoa (-(u : Int)) = 45 :: dd u := by
      unfold Lib.itoa dd; rw [if_pos h, if_neg (by omega)]; simp
    rw [e]
    exact digits_neg u (by omega) (by omega) w
  · subst h
    have e : Lib.itoa 0 = [48] := by unfold Lib.itoa; rw [if_neg (by omega)]; exact Lib.decDigits_one (by decide)
    rw [e]
    exact digits_zero w
  · obtain ⟨u, rfl⟩ : ∃ u : Nat, n = (u : Int) := ⟨n.toNat, by omega⟩
    have e : Lib.itoa (u : Int) = dd u := by
      unfold Lib.itoa dd; rw [if_neg (by omega), if_neg (by omega)]; simp
    rw [e]
    exact digits_pos u (by omega) (by omega) w
end Go.Proofs.YtepcaeajgnabbaaDoor.walks
