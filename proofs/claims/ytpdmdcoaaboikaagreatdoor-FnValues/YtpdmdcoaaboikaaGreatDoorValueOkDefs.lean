/-
  When a value is right: told of trees. No program.
-/
import Derived.Test.YtpdmdcoaaboikaaGreatDoorValueSh
import Derived.Test.YtpdmdcoaaboikaaGreatDoorSpots
import Derived.Laws.Strings
namespace Go.Proofs.YtpdmdcoaaboikaaGreatDoor.value
open Go Go.RowKit Go.Proofs.YtpdmdcoaaboikaaGreatDoor.rose Go.Proofs.YtpdmdcoaaboikaaGreatDoor
set_option linter.unusedVariables false

abbrev DataD := data.DataD

theorem spotsC_at {t i j : Nat} {xs : List con.ConD} {s : data.Spot} (h : s ∈ data.spotsC t i j xs) : s.i = i ∧ j ≤ s.j ∧ xs[s.j - j]? = some s.c := by
  induction xs generalizing t j with
  | nil => simp [data.spotsC] at h
  | cons x xs ih =>
    simp only [data.spotsC, List.mem_cons] at h
    rcases h with rfl | h
    · simp
    · obtain ⟨h1, h2, h3⟩ := ih h
      refine ⟨h1, by omega, ?_⟩
      rw [show s.j - j = (s.j - (j + 1)) + 1 by omega, List.getElem?_cons_succ]
      exact h3
theorem spots_at {t i : Nat} {xs : List DataD} {s : data.Spot} (h : s ∈ data.spots t i xs) : i ≤ s.i ∧ ∃ d, xs[s.i - i]? = some d ∧ d.2.2[s.j]? = some s.c := by
  induction xs generalizing t i with
  | nil => simp [data.spots] at h
  | cons x xs ih =>
    simp only [data.spots, List.mem_append] at h
    rcases h with h | h
    · obtain ⟨h1, h2, h3⟩ := spotsC_at h
      exact ⟨by omega, x, by simp [h1], by simpa using h3⟩
    · obtain ⟨h1, d, h2, h3⟩ := ih h
      refine ⟨by omega, d, ?_, h3⟩
      rw [show s.i - i = (s.i - (i + 1)) + 1 by omega, List.getElem?_cons_succ]
      exact h2

/-- How many types the first con of that name has. -/
def argsOf (ks : List DataD) (s : ByteArray) : Option Nat := ((data.spots 0 0 ks).find? (data.named s)).map fun y => y.c.2.length

def wordB (n : Int) : Bool := decide (-1073741824 ≤ n) && decide (n ≤ 1073741823)

/-- A value is right, its kids aside. -/
def OkL (ks : List DataD) (V : ValueD) : Prop :=
  (V.x.1 = 1 ∧ wordB V.x.2.1 = true ∧ V.x.2.2 = ⟨#[]⟩ ∧ V.kids.length = 0) ∨ (V.x.1 = 3 ∧ V.x.2.1 = 0 ∧ V.x.2.2 = ⟨#[]⟩ ∧ V.kids.length = 0) ∨ (V.x.1 = 2 ∧ V.x.2.1 = 0 ∧ argsOf ks V.x.2.2 = some V.kids.length)

mutual
/-- A value is right, however deep. -/
def OkP (ks : List DataD) : ValueD → Prop
  | .mk x vs => OkL ks (.mk x vs) ∧ OkS ks vs
def OkS (ks : List DataD) : List ValueD → Prop
  | [] => True
  | v :: vs => OkP ks v ∧ OkS ks vs
end
theorem okS_iff {ks : List DataD} {vs : List ValueD} : OkS ks vs ↔ ∀ v ∈ vs, OkP ks v := by
  induction vs with
  | nil => simp [OkS]
  | cons v vs ih => simp [OkS, ih]
theorem okP_iff {ks : List DataD} {V : ValueD} : OkP ks V ↔ OkL ks V ∧ ∀ v ∈ V.kids, OkP ks v := by
  cases V with
  | mk x vs => rw [OkP, okS_iff]; exact Iff.rfl

mutual
/-- How deep it is. -/
def dp : ValueD → Nat
  | .mk _ ks => dps ks + 1
def dps : List ValueD → Nat
  | [] => 0
  | k :: ks => max (dp k) (dps ks)
end
theorem dps_take {ks : List ValueD} {i : Nat} (h : i < ks.length) : dps (ks.take (i + 1)) = max (dps (ks.take i)) (dp ks[i]) := by
  induction ks generalizing i with
  | nil => simp at h
  | cons k ks ih =>
    cases i with
    | zero => simp [dps]
    | succ i => simp [dps, ih (by simpa using h)]
theorem dps_le {ks : List ValueD} {d : Nat} : dps ks ≤ d ↔ ∀ k ∈ ks, dp k ≤ d := by
  induction ks with
  | nil => simp [dps]
  | cons k ks ih => simp [dps, Nat.max_le, ih]
theorem dp_kids (V : ValueD) : dp V = dps V.kids + 1 := by cases V; rfl
theorem dp_kid {V v : ValueD} (h : v ∈ V.kids) : dp v + 1 ≤ dp V := by
  rw [dp_kids V]
  have := dps_le.1 (Nat.le_refl (dps V.kids)) v h
  omega
theorem dp_pos (V : ValueD) : 0 < dp V := by cases V; simp [dp]
theorem dp_le (T : ValueD) : dp T ≤ wt T + 1 := by
  induction T using ind with
  | h x ks ih =>
    have : dps ks ≤ ks.length + wts ks := by
      clear x
      induction ks with
      | nil => simp [dps]
      | cons k ks ih2 =>
        have h1 := ih k (by simp)
        have h2 := ih2 (fun q hq => ih q (by simp [hq]))
        simp [dps, wts]; omega
    obtain ⟨x0, x1, x2⟩ := x
    simp [dp, wt]; omega

mutual
/-- It and all that is within it. -/
def allT : ValueD → List ValueD
  | .mk x ks => .mk x ks :: allS ks
def allS : List ValueD → List ValueD
  | [] => []
  | k :: ks => allT k ++ allS ks
end
theorem allS_append (xs ys : List ValueD) : allS (xs ++ ys) = allS xs ++ allS ys := by
  induction xs with
  | nil => simp [allS]
  | cons k ks ih => simp [allS, ih]
theorem all_le (T : ValueD) : (allT T).length ≤ wt T + 1 := by
  induction T using ind with
  | h x ks ih =>
    obtain ⟨x0, x1, x2⟩ := x
    have : (allS ks).length ≤ ks.length + wts ks := by
      clear x0 x1 x2
      induction ks with
      | nil => simp [allS]
      | cons k ks ih2 =>
        have h1 := ih k (by simp)
        have h2 := ih2 fun q hq => ih q (by simp [hq])
        simp [allS, wts]
        omega
    simp [allT, wt]
    omega
theorem allT_kids (V : ValueD) : (allT V).length = (allS V.kids).length + 1 := by cases V; simp [allT, Rose.kids]
theorem len_all (l : List ValueD) : l.length ≤ (allS l).length := by
  induction l with
  | nil => simp [allS]
  | cons k ks ih => cases k with | mk x q => simp [allS, allT]; omega

noncomputable def okB (ks : List DataD) (V : ValueD) : Bool := @decide (OkP ks V) (Classical.propDecidable _)
theorem okB_true {ks : List DataD} {V : ValueD} (h : OkP ks V) : okB ks V = true := by unfold okB; exact @decide_eq_true _ (Classical.propDecidable _) h
theorem okB_false {ks : List DataD} {V : ValueD} (h : ¬ OkP ks V) : okB ks V = false := by unfold okB; exact @decide_eq_false _ (Classical.propDecidable _) h
theorem okB_iff {ks : List DataD} {V : ValueD} : okB ks V = true ↔ OkP ks V := by
  by_cases h : OkP ks V
  · simp [okB_true h, h]
  · simp [okB_false h, h]
theorem ret_b {a b : Bool} (h : a = b) : Ending.returned (.bool a) = Ending.returned (.bool b) := by rw [h]

/-- What ValueOk says. -/
noncomputable def rightB (ks : List DataD) (V : ValueD) : Bool := decide (dp V ≤ 200) && okB ks V

theorem bytes_ext {a b : ByteArray} (h : a.toList = b.toList) : a = b := by
  rw [ByteArray.toList_eq, ByteArray.toList_eq] at h
  obtain ⟨⟨x⟩⟩ := a
  obtain ⟨⟨y⟩⟩ := b
  simp at h
  rw [h]

end Go.Proofs.YtpdmdcoaaboikaaGreatDoor.value
