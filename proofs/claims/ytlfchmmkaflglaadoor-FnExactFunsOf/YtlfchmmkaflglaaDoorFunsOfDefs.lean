/-
  Functions out of bytes (chapter 16): told in plain data; no program named.
-/
import Derived.Test.YtlfchmmkaflglaaDoorFunsDefs
import Derived.Test.YtlfchmmkaflglaaDoorGetNumSpec
namespace Go.Proofs.YtlfchmmkaflglaaDoor.fun
open Go Go.Proofs.YtlfchmmkaflglaaDoor Go.Proofs.YtlfchmmkaflglaaDoor.byts
set_option linter.unusedVariables false

theorem getF_some {l : List Int} {k acc n j : Nat} (h : getF l k acc = some (n, j)) : k < j ∧ j ≤ k + l.length ∧ n ≤ 2147483647 := by
  induction l generalizing k acc with
  | nil => simp [getF] at h
  | cons d l ih =>
    unfold getF at h
    split at h
    · cases h
    · split at h
      · split at h
        · cases h
        · rename_i hn
          simp only [Option.some.injEq, Prod.mk.injEq] at h
          obtain ⟨rfl, rfl⟩ := h
          refine ⟨by omega, by simp only [List.length_cons]; omega, ?_⟩
          rcases Nat.lt_or_ge 2147483647 (acc + (d % 128).toNat * 128 ^ k) with q | q
          · exact absurd (.inr q) hn
          · exact q
      · have := ih h
        simp only [List.length_cons]
        omega
theorem getB_yes {b : List Int} {p : Nat} (h : (getB b (p : Int)).2.2 = true) : ∃ n j : Nat, getB b (p : Int) = ((n : Int), (j : Int), true) ∧ p < j ∧ j ≤ b.length ∧ n ≤ 2147483647 := by
  unfold getB at h ⊢
  rw [if_neg (by omega)] at h ⊢
  rw [Int.toNat_natCast] at h ⊢
  cases hg : getF (b.drop p) 0 0 with
  | none => rw [hg] at h; cases h
  | some x =>
    obtain ⟨n, j⟩ := x
    have h1 := getF_some hg
    rw [List.length_drop] at h1
    exact ⟨n, p + j, by simp, by omega, by omega, h1.2.2⟩
theorem getB_no {b : List Int} {p : Nat} (h : (getB b (p : Int)).2.2 = false) : getB b (p : Int) = (0, 0, false) := by
  unfold getB at h ⊢
  rw [if_neg (by omega)] at h ⊢
  cases hg : getF (b.drop (p : Int).toNat) 0 0 with
  | none => rfl
  | some x => rw [hg] at h; cases h

/-- A number is taken off the bytes: what it is, and where one stands behind it; 0 once there was none. -/
def numS (b : List Int) (p : Nat) (ok : Bool) : Nat × Nat × Bool :=
  if ok && (getB b (p : Int)).2.2 then ((getB b (p : Int)).1.toNat, (getB b (p : Int)).2.1.toNat, true) else (0, p, false)
theorem numS_in (b : List Int) (p : Nat) (ok : Bool) (hp : p ≤ b.length) : (numS b p ok).1 ≤ 2147483647 ∧ p ≤ (numS b p ok).2.1 ∧ (numS b p ok).2.1 ≤ b.length ∧ ((numS b p ok).2.2 = true → ok = true ∧ p < (numS b p ok).2.1) := by
  unfold numS
  split
  · rename_i h
    simp only [Bool.and_eq_true] at h
    obtain ⟨n, j, e, h1, h2, h3⟩ := getB_yes h.2
    rw [e]
    exact ⟨by simpa using h3, by simp; omega, by simpa using h2, fun _ => ⟨h.1, by simpa using h1⟩⟩
  · exact ⟨Nat.zero_le _, Nat.le_refl _, hp, fun h => by cases h⟩
/-- So many places. -/
def opsS (b : List Int) : Nat → Nat → Bool → List op.OpD × Nat × Bool
  | 0, p, ok => ([], p, ok)
  | n + 1, p, ok =>
    if ok then
      let x := numS b p ok
      let y := numS b x.2.1 x.2.2
      let z := numS b y.2.1 y.2.2
      let r := opsS b n z.2.1 z.2.2
      (((x.1 : Int), (y.1 : Int) - 1073741824, (z.1 : Int)) :: r.1, r.2)
    else ([], p, ok)
/-- So many functions. -/
def funsS (b : List Int) : Nat → Nat → Bool → List FunD × Nat × Bool
  | 0, p, ok => ([], p, ok)
  | n + 1, p, ok =>
    if ok then
      let x := numS b p ok
      let y := numS b x.2.1 x.2.2
      let z := opsS b y.1 y.2.1 y.2.2
      let r := funsS b n z.2.1 z.2.2
      (((x.1 : Int), z.1) :: r.1, r.2)
    else ([], p, ok)
/-- What the bytes are of. -/
def allS (b : List Int) : List FunD × Nat × Bool := funsS b (numS b 0 true).1 (numS b 0 true).2.1 (numS b 0 true).2.2
def funsOfB (b : List Int) : List FunD × Bool := if (allS b).2.2 && decide ((allS b).2.1 = b.length) && funsB (allS b).1 then ((allS b).1, true) else ([], false)

theorem opsS_off (b : List Int) (n p : Nat) : opsS b n p false = ([], p, false) := by cases n <;> rfl
theorem funsS_off (b : List Int) (n p : Nat) : funsS b n p false = ([], p, false) := by cases n <;> rfl
/-- One more place. -/
theorem opsS_step (b : List Int) (n p : Nat) : opsS b (n + 1) p true = (((((numS b p true).1 : Nat) : Int), (((numS b (numS b p true).2.1 (numS b p true).2.2).1 : Nat) : Int) - 1073741824, (((numS b (numS b (numS b p true).2.1 (numS b p true).2.2).2.1 (numS b (numS b p true).2.1 (numS b p true).2.2).2.2).1 : Nat) : Int)) ::
    (opsS b n (numS b (numS b (numS b p true).2.1 (numS b p true).2.2).2.1 (numS b (numS b p true).2.1 (numS b p true).2.2).2.2).2.1 (numS b (numS b (numS b p true).2.1 (numS b p true).2.2).2.1 (numS b (numS b p true).2.1 (numS b p true).2.2).2.2).2.2).1,
    (opsS b n (numS b (numS b (numS b p true).2.1 (numS b p true).2.2).2.1 (numS b (numS b p true).2.1 (numS b p true).2.2).2.2).2.1 (numS b (numS b (numS b p true).2.1 (numS b p true).2.2).2.1 (numS b (numS b p true).2.1 (numS b p true).2.2).2.2).2.2).2) := rfl

end Go.Proofs.YtlfchmmkaflglaaDoor.fun
