/-
  Numbers as bytes (chapter 16): told in plain data; no program named.
-/
import Derived.Test.YtlfchmmkaflglaaDoorChecked
import Derived.Test.YtlfchmmkaflglaaDoorInB
namespace Go.Proofs.YtlfchmmkaflglaaDoor.byts
open Go Go.Proofs.YtlfchmmkaflglaaDoor.fun
set_option linter.unusedVariables false

/-- Seven bits a byte, the low ones first, 128 more in each byte but the last one. -/
def vint (n : Nat) : List Int := if h : n ≤ 127 then [(n : Int)] else ((n % 128 + 128 : Nat) : Int) :: vint (n / 128)
termination_by n
decreasing_by omega
theorem vint_small {n : Nat} (h : n ≤ 127) : vint n = [(n : Int)] := by rw [vint, dif_pos h]
theorem vint_more {n : Nat} (h : 127 < n) : vint n = ((n % 128 + 128 : Nat) : Int) :: vint (n / 128) := by rw [vint, dif_neg (by omega)]
theorem vint_in (n : Nat) : ∀ x ∈ vint n, 0 ≤ x ∧ x ≤ 255 := by
  induction n using Nat.strongRecOn with
  | _ n ih =>
    intro x hx
    by_cases h : n ≤ 127
    · rw [vint_small h] at hx
      simp only [List.mem_singleton] at hx
      omega
    · rw [vint_more (by omega)] at hx
      rcases List.mem_cons.1 hx with rfl | hx
      · omega
      · exact ih (n / 128) (by omega) x hx
theorem vint_pos (n : Nat) : 0 < (vint n).length := by
  by_cases h : n ≤ 127
  · rw [vint_small h]; simp
  · rw [vint_more (by omega)]; simp
theorem vint_len {n k : Nat} (h : n < 128 ^ k) (hk : 0 < k) : (vint n).length ≤ k := by
  induction k generalizing n with
  | zero => omega
  | succ k ih =>
    by_cases hn : n ≤ 127
    · rw [vint_small hn]; simp
    · rw [vint_more (by omega), List.length_cons]
      have h2 : n / 128 < 128 ^ k := by rw [Nat.div_lt_iff_lt_mul (by omega)]; rw [Nat.pow_succ] at h; exact h
      have hk0 : 0 < k := by
        rcases Nat.eq_zero_or_pos k with rfl | q
        · simp at h2; omega
        · exact q
      have := ih h2 hk0
      omega
/-- A number's bytes: nothing of others. -/
def putB (n : Int) : List Int := if inB n 0 2147483647 then vint n.toNat else []
theorem putB_in (n : Int) : ∀ x ∈ putB n, 0 ≤ x ∧ x ≤ 255 := by
  unfold putB
  split
  · exact vint_in _
  · intro x hx; cases hx
theorem putB_len (n : Int) : (putB n).length ≤ 5 := by
  unfold putB
  split
  · rename_i h
    have := inB_yes h
    exact vint_len (k := 5) (by omega) (by omega)
  · simp

end Go.Proofs.YtlfchmmkaflglaaDoor.byts
