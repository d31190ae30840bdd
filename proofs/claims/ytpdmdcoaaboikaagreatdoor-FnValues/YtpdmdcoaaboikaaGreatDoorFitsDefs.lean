/-
  Whether a pattern fits a value, told of trees: what the model's Fits and the program's are held against.
-/
import Derived.Test.YtpdmdcoaaboikaaGreatDoorNodeSh
import Derived.Test.YtpdmdcoaaboikaaGreatDoorValueSh
import Derived.Laws.Strings
namespace Go.Proofs.YtpdmdcoaaboikaaGreatDoor.fits
open Go Go.RowKit Go.Proofs.YtpdmdcoaaboikaaGreatDoor.rose Go.Proofs.YtpdmdcoaaboikaaGreatDoor
set_option linter.unusedVariables false

abbrev Nd := node.Nd
abbrev ValueD := value.ValueD
abbrev ndSh := node.ndSh
abbrev valueSh := value.valueSh

theorem bytes_ext {a b : ByteArray} (h : a.toList = b.toList) : a = b := by
  rw [ByteArray.toList_eq, ByteArray.toList_eq] at h
  obtain ⟨⟨x⟩⟩ := a
  obtain ⟨⟨y⟩⟩ := b
  simp at h
  rw [h]

mutual
/-- A pattern fits a value. -/
def FitsP : Nd → ValueD → Prop
  | .mk x ks, V => x.1 = 17 ∨ x.1 = 18 ∨ (x.1 = 19 ∧ V.x.1 = 1 ∧ V.x.2.1 = x.2.1) ∨ (x.1 = 20 ∧ V.x.1 = 2 ∧ V.x.2.2 = x.2.2.1 ∧ V.kids.length = ks.length ∧ FitsS ks V.kids)
def FitsS : List Nd → List ValueD → Prop
  | [], _ => True
  | k :: ks, vs => ∀ v r, vs = v :: r → FitsP k v ∧ FitsS ks r
end

theorem fitsS_iff {ks : List Nd} : ∀ {vs : List ValueD}, FitsS ks vs ↔ ∀ i (h : i < ks.length) (h' : i < vs.length), FitsP ks[i] vs[i] := by
  induction ks with
  | nil => intro vs; simp [FitsS]
  | cons k ks ih =>
    intro vs
    cases vs with
    | nil => simp [FitsS]
    | cons v r =>
      constructor
      · intro h i h1 h2
        rw [FitsS] at h
        obtain ⟨h3, h4⟩ := h v r rfl
        cases i with
        | zero => exact h3
        | succ i => exact ih.1 h4 i (by simpa using h1) (by simpa using h2)
      · intro h
        rw [FitsS]
        intro v' r' e
        cases e
        exact ⟨h 0 (by simp) (by simp), ih.2 fun i h1 h2 => h (i + 1) (by simpa using h1) (by simpa using h2)⟩

theorem fitsP_iff {x : node.Pay} {ks : List Nd} {y : value.Pay} {vs : List ValueD} : FitsP (.mk x ks) (.mk y vs) ↔ x.1 = 17 ∨ x.1 = 18 ∨ (x.1 = 19 ∧ y.1 = 1 ∧ y.2.1 = x.2.1) ∨ (x.1 = 20 ∧ y.1 = 2 ∧ y.2.2 = x.2.2.1 ∧ vs.length = ks.length ∧ ∀ i (h : i < ks.length) (h' : i < vs.length), FitsP ks[i] vs[i]) := by
  rw [FitsP, ← fitsS_iff]
  exact Iff.rfl

noncomputable def fitsB (p : Nd) (v : ValueD) : Bool := @decide (FitsP p v) (Classical.propDecidable _)
theorem fitsB_true {p : Nd} {v : ValueD} (h : FitsP p v) : fitsB p v = true := by unfold fitsB; exact @decide_eq_true _ (Classical.propDecidable _) h
theorem fitsB_false {p : Nd} {v : ValueD} (h : ¬ FitsP p v) : fitsB p v = false := by unfold fitsB; exact @decide_eq_false _ (Classical.propDecidable _) h
theorem fitsB_iff {p : Nd} {v : ValueD} : fitsB p v = true ↔ FitsP p v := by
  by_cases h : FitsP p v
  · simp [fitsB_true h, h]
  · simp [fitsB_false h, h]

theorem ret_b {a b : Bool} (h : a = b) : Ending.returned (.bool a) = Ending.returned (.bool b) := by rw [h]

end Go.Proofs.YtpdmdcoaaboikaaGreatDoor.fits
