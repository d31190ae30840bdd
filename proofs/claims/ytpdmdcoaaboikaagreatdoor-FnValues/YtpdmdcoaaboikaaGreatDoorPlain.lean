/-
  Plain facts on decimal numerals, no Go in sight: the number that a text spells, if it is a word from 0 on and the text is its numeral. No condition.
-/
import Derived.Lib.ItoaNum
import Derived.Lib.Atoi
namespace Go.Proofs.YtpdmdcoaaboikaaGreatDoor.plain
open Go

/-- The word from 0 on of which l is the numeral, and true; 0 and false. -/
def numRes (l : List UInt8) : Int × Bool :=
  match Lib.decNat l with
  | some n => if n ≤ 1073741823 ∧ Lib.decDigits n = l then ((n : Int), true) else (0, false)
  | none => (0, false)

theorem decFrom_snoc : ∀ (l : List UInt8) (acc n d : Nat) (b : UInt8), Lib.decFrom acc l = some n → Lib.digitVal b = some d → Lib.decFrom acc (l ++ [b]) = some (n * 10 + d)
  | [], acc, n, d, b, h, hd => by
    simp only [Lib.decFrom, Option.some.injEq] at h
    subst h
    simp [Lib.decFrom, hd]
  | a :: r, acc, n, d, b, h, hd => by
    simp only [Lib.decFrom, List.cons_append] at h ⊢
    cases ha : Lib.digitVal a with
    | none => simp [ha] at h
    | some e =>
      simp only [ha] at h ⊢
      exact decFrom_snoc r _ n d b h hd

theorem digitVal_of (d : Nat) (h : d < 10) : Lib.digitVal (UInt8.ofNat (48 + d)) = some d := by
  have e : (UInt8.ofNat (48 + d)).toNat = 48 + d := by simp [UInt8.toNat_ofNat']; omega
  unfold Lib.digitVal
  rw [e, if_pos (by omega)]
  simp

theorem decFrom_digits (n : Nat) : Lib.decFrom 0 (Lib.decDigits n) = some n := by
  induction n using Nat.strongRecOn with
  | ind n ih =>
    by_cases h : n < 10
    · rw [Lib.decDigits_one h]
      simp only [Lib.decFrom, digitVal_of n h, Nat.zero_mul, Nat.zero_add]
    · rw [Lib.decDigits, dif_neg h, decFrom_snoc _ _ _ _ _ (ih (n / 10) (by omega)) (digitVal_of (n % 10) (by omega))]
      congr 1
      omega

theorem digits_ne (n : Nat) : Lib.decDigits n ≠ [] := by
  intro h
  have := Lib.nDigits_pos n
  rw [← Lib.decDigits_length, h] at this
  simp at this

theorem decNat_digits (n : Nat) : Lib.decNat (Lib.decDigits n) = some n := by
  unfold Lib.decNat
  rw [if_neg (by simpa using digits_ne n), decFrom_digits]

theorem atoi_digits (n : Nat) : Lib.atoi (Lib.decDigits n) = some (n : Int) := by
  have hd := decFrom_digits n
  have hn := decNat_digits n
  revert hd hn
  cases Lib.decDigits n with
  | nil => intro h1 h2; simp [Lib.decNat] at h2
  | cons b r =>
    intro h1 h2
    obtain ⟨d, hb⟩ := Lib.digit_of_decFrom _ _ _ h1 0 b rfl
    unfold Lib.digitVal at hb
    split at hb
    · rename_i hh
      have h45 : (b == 45) = false := by
        rw [beq_eq_false_iff_ne]; intro e; subst e; revert hh; decide
      have h43 : (b == 43) = false := by
        rw [beq_eq_false_iff_ne]; intro e; subst e; revert hh; decide
      simp only [Lib.atoi, h45, h43, h2, Option.map_some, Bool.false_eq_true, if_false]
    · cases hb

theorem numRes_eq (n : Nat) (h : n ≤ 1073741823) : numRes (Lib.decDigits n) = ((n : Int), true) := by
  unfold numRes
  rw [decNat_digits]
  simp [h]

theorem numRes_no {l : List UInt8} (h : ∀ n : Nat, n ≤ 1073741823 → Lib.decDigits n ≠ l) : numRes l = (0, false) := by
  unfold numRes
  split
  · rename_i n _
    rw [if_neg]
    intro hh
    exact h n hh.1 hh.2
  · rfl

theorem nDigits_le : ∀ (k n : Nat), n < 10 ^ (k + 1) → Lib.nDigits n ≤ k + 1
  | 0, n, h => by rw [Lib.nDigits_small (by simpa using h)]; omega
  | k + 1, n, h => by
    by_cases h10 : n < 10
    · rw [Lib.nDigits_small h10]; omega
    · rw [Lib.nDigits_big h10]
      have := nDigits_le k (n / 10) (by rw [Nat.pow_succ] at h; omega)
      omega

theorem numRes_long {l : List UInt8} (h : 10 < l.length) : numRes l = (0, false) := by
  refine numRes_no fun n hn e => ?_
  have := nDigits_le 9 n (by omega)
  rw [← Lib.decDigits_length, e] at this
  omega

theorem numRes_nil : numRes [] = (0, false) := rfl

/-- a byte that is no digit -/
theorem numRes_byte {l : List UInt8} (k : Nat) (b : UInt8) (hb : l[k]? = some b) (hd : Lib.digitVal b = none) : numRes l = (0, false) := by
  refine numRes_no fun n _ e => ?_
  subst e
  obtain ⟨d, h⟩ := Lib.digit_of_decFrom _ _ _ (decFrom_digits n) k b hb
  rw [hd] at h
  cases h

/-- digits that spell x: too great -/
theorem numRes_great {l : List UInt8} {x : Nat} (h : Lib.decFrom 0 l = some x) (hx : 1073741823 < x) : numRes l = (0, false) := by
  refine numRes_no fun n hn e => ?_
  subst e
  rw [decFrom_digits] at h
  cases h
  omega

/-- digits that spell x, and are not its numeral -/
theorem numRes_other {l : List UInt8} {x : Nat} (h : Lib.decFrom 0 l = some x) (hx : Lib.decDigits x ≠ l) : numRes l = (0, false) := by
  refine numRes_no fun n _ e => ?_
  subst e
  rw [decFrom_digits] at h
  cases h
  exact hx rfl

theorem numRes_atoi_none {l : List UInt8} (h : Lib.atoi l = none) : numRes l = (0, false) := by
  refine numRes_no fun n _ e => ?_
  subst e
  rw [atoi_digits] at h
  cases h

theorem numRes_atoi_no {l : List UInt8} {v : Int} (h : Lib.atoi l = some v) (hv : v < 0 ∨ 1073741823 < v ∨ Lib.itoa v ≠ l) : numRes l = (0, false) := by
  refine numRes_no fun n hn e => ?_
  subst e
  rw [atoi_digits] at h
  cases h
  rcases hv with h1 | h1 | h1
  · omega
  · omega
  · apply h1
    unfold Lib.itoa
    rw [if_neg (by omega)]
    simp

theorem numRes_atoi_yes {l : List UInt8} {v : Int} (h0 : 0 ≤ v) (h1 : v ≤ 1073741823) (h : Lib.itoa v = l) : numRes l = (v, true) := by
  subst h
  obtain ⟨n, rfl⟩ := Int.eq_ofNat_of_zero_le h0
  have e : Lib.itoa (n : Int) = Lib.decDigits n := by unfold Lib.itoa; rw [if_neg (by omega)]; simp
  rw [e]
  exact numRes_eq n (by omega)
end Go.Proofs.YtpdmdcoaaboikaaGreatDoor.plain
