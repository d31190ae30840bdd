/-
  The law's markText: of a number from 1 on a text that hangs on it alone; nothing that was there is turned.
-/
import Derived.Test.YtdfpihnddclccaaChecked
import Derived.WalkKit
import Derived.WalkLawsBesides
import Derived.Lib.ItoaNum
import Derived.Laws.IdiomStrings
import Derived.Lib.ItoaLen
namespace Go.Proofs.Ytdfpihnddclccaa.mark
open Go.RowKit
set_option linter.unusedVariables false

/-- the digits of m, none of 0 -/
def dd (m : Nat) : List UInt8 := if m = 0 then [] else Lib.decDigits m

theorem dd_step (m : Nat) (h : m ≠ 0) : dd m = dd (m / 10) ++ [UInt8.ofNat (48 + m % 10)] := by
  unfold dd
  rw [if_neg h]
  by_cases h10 : m < 10
  · rw [Lib.decDigits_one h10, if_pos (by omega), Nat.mod_eq_of_lt h10]; rfl
  · rw [Lib.decDigits, dif_neg h10, if_neg (by omega)]

def txt (k : Int) : ByteArray := ⟨(109 :: dd k.toNat).toArray⟩

theorem conv_one (w : World) (c : Int) (h0 : 0 ≤ c) (h1 : c < 256) :
    (convert 47 9 (.slice (some ⟨w.heap.size, 0, none⟩) 1 1)).run Try.prog (w.alloc (.cells #[.int .u8 c] 5)) = .ok (.string ⟨#[UInt8.ofNat c.toNat]⟩) (w.alloc (.cells #[.int .u8 c] 5)) := by
  have hc : ∀ j (hj : j < [UInt8.ofNat c.toNat].length), (w.alloc (.cells #[.int .u8 c] 5)).cell? ((⟨w.heap.size, 0, none⟩ : Addr).add j) = some (.int .u8 ([UInt8.ofNat c.toNat][j].toNat : Int)) := by
    intro j hj
    obtain rfl : j = 0 := by simpa using hj
    have e : ((UInt8.ofNat c.toNat).toNat : Int) = c := by simp [UInt8.toNat_ofNat']; omega
    simp only [List.getElem_cons_zero, e]
    exact World.cell?_alloc_new w _ 5 0
  exact run_convert_bytes_back (P := Try.prog) _ 47 9 5 ⟨w.heap.size, 0, none⟩ 1 [UInt8.ofNat c.toNat] Try.underlying47 Try.underlying5 Try.underlying9 hc

theorem byte_eq (m : Nat) : (48 : UInt8) + UInt8.ofNat (m % 10) = UInt8.ofNat (48 + m % 10) := by
  rw [UInt8.ofNat_add]; rfl
theorem dd_next {m u : Nat} {acc : List UInt8} (h : m ≠ 0) (ha : dd m ++ acc = dd u) : dd (m / 10) ++ (UInt8.ofNat (48 + m % 10) :: acc) = dd u := by
  rw [← ha, dd_step m h]; simp
theorem str_cons (b : UInt8) (acc : List UInt8) : Value.string ({ data := #[b] } ++ { data := acc.toArray }) = .string ⟨(b :: acc).toArray⟩ := by
  congr 1
theorem dd_le {u : Nat} (hu : (u : Int) ≤ 9223372036854775807) : (dd u).length ≤ 20 := by
  unfold dd
  split
  · simp
  · rw [Lib.decDigits_length]; exact Lib.nDigits_le20 u (by omega)
theorem acc_le {m u : Nat} {acc : List UInt8} (hu : (u : Int) ≤ 9223372036854775807) (ha : dd m ++ acc = dd u) : acc.length ≤ 20 := by
  have h := dd_le hu
  rw [← ha, List.length_append] at h
  omega
theorem ret_str {a b : ByteArray} (h : a = b) : Ending.returned (.string a) = .returned (.string b) := by rw [h]
theorem txt_size {k : Int} (h : k ≤ 9223372036854775807) : (txt k).size ≤ maxLen := by
  have := dd_le (u := k.toNat) (by omega)
  show (109 :: dd k.toNat).toArray.size ≤ _
  simp [maxLen]; omega

set_option maxHeartbeats 400000 in
theorem text_pos (u : Nat) (hn : 0 < u) (hn2 : (u : Int) ≤ 9223372036854775807) (w : World) :
    Calls Try.prog 23 #[.int .i64 u] w fun e w' => e = .returned (.string ⟨(109 :: dd u).toArray⟩) ∧ Below w.heap.size w w' := by
  have e1 : decide ((u : Int) ≤ 0) = false := by simp; omega
  go_enter Try.func23, Try.ntmps23
  go_wp2
  go_loopw [0, 3] (fun x o wr => ∃ (m : Nat) (acc : List UInt8), m ≤ u ∧ x = .int .i64 m ∧ o = .string ⟨acc.toArray⟩ ∧ Hid (dd m ++ acc = dd u) ∧ Below w.heap.size w wr) (fun x _ _ => (intOf x).toNat)
  case atStart => exact ⟨u, [], Nat.le_refl _, rfl, rfl, List.append_nil _, Below.refl _ _⟩
  case round =>
    obtain ⟨m, acc, hm, rfl, rfl, ha, hb⟩ := hrel
    have hl := acc_le (by omega) ha.out
    by_cases hz : m = 0
    · subst hz
      go_wp2
      go_ret
      exact ⟨ret_str (by rw [← ha.out]; apply ByteArray.ext; simp [ByteArray.data_append, dd]), hb⟩
    · have hcv := conv_one wr (48 + (m : Int) % 10) (by omega) (by omega)
      clear e1 hn
      have hm0 : 0 < m := by omega
      clear hz
      go_wp2
      refine ⟨⟨m / 10, UInt8.ofNat (48 + m % 10) :: acc, by omega, by go_num, ?_, dd_next (by omega) ha.out, ?_⟩, ?_⟩
      · first | rfl | rw [byte_eq, str_cons]
      · exact hb.alloc hb.size _
      · simp [intOf]; omega

theorem text_any (k : Int) (h0 : 1 ≤ k) (h1 : k ≤ 9223372036854775807) (w : World) :
    Calls Try.prog 23 #[.int .i64 k] w fun e w' => e = .returned (.string (txt k)) ∧ Below w.heap.size w w' := by
  obtain ⟨u, rfl⟩ : ∃ u : Nat, k = (u : Int) := ⟨k.toNat, by omega⟩
  exact text_pos u (by omega) h1 w

end Go.Proofs.Ytdfpihnddclccaa.mark
