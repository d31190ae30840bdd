/-
  The type Con as it lies in memory.
-/
import Derived.Test.YtpdmdcoaaboikaaGreatDoorChecked
import Derived.Test.YtpdmdcoaaboikaaGreatDoorRose
import Derived.Test.YtpdmdcoaaboikaaGreatDoorTySh
import Derived.WalkKit
import Derived.WalkLawsBesides
import Derived.Deep.QuietTactic
import Derived.BigQuiet
namespace Go.Proofs.YtpdmdcoaaboikaaGreatDoor.con
open Go.RowKit Go.Proofs.YtpdmdcoaaboikaaGreatDoor.rose Go.Proofs.YtpdmdcoaaboikaaGreatDoor
set_option linter.unusedVariables false

abbrev ConD := ByteArray × List ty.TyD
abbrev conSh : Sh ConD := Sh.str.pair ty.tySh.slice

theorem con_open {w : World} {S : Nat → Prop} {cs : List Value} {T : ConD} (h : conSh.rep w S cs T) : ∃ x0 x1 a1 c1, T = (x0, x1) ∧ cs = [.string x0, .slice a1 x1.length c1] ∧ x0.size ≤ maxLen ∧ ty.tySh.slice.rep w S [.slice a1 x1.length c1] x1 := by
  obtain ⟨x0, x1⟩ := T
  obtain ⟨_, _, rfl, ⟨rfl, h0⟩, h1⟩ := h
  obtain ⟨a1, c1, rfl⟩ := slice_cells h1
  exact ⟨_, _, _, _, rfl, rfl, h0, h1⟩
theorem con_list {w : World} {S : Nat → Prop} {cs : List Value} {T : ConD} (h : conSh.rep w S cs T) : ∃ v0 v1, cs = [v0, v1] := by
  obtain ⟨x0, x1, a1, c1, -, rfl, -⟩ := con_open h
  exact ⟨_, _, rfl⟩
theorem con_shut {w : World} {S : Nat → Prop} {x0 : ByteArray} {x1 : List ty.TyD} {a1 : Option Addr} {c1 : Nat} (h0 : x0.size ≤ maxLen) (h1 : ty.tySh.slice.rep w S [.slice a1 x1.length c1] x1) : conSh.rep w S [.string x0, .slice a1 x1.length c1] ((x0, x1)) :=
  ⟨[_], _, rfl, ⟨rfl, h0⟩, h1⟩

theorem cons_open {w : World} {S : Nat → Prop} {v : Value} {ks : List ConD} (h : conSh.slice.rep w S [v] ks) : ∃ a cap css, v = .slice a ks.length cap ∧ ks.length ≤ cap ∧ cap ≤ maxLen ∧ RowAt w S 2 a ks.length css ∧ ∀ i (h : i < ks.length), conSh.rep w S (css i) ks[i] := by
  obtain ⟨a, cap, css, e, h1, h2, -, h3, h4⟩ := h
  exact ⟨a, cap, css, by simpa using e, h1, h2, h3, h4⟩

theorem con_cells {w : World} {S : Nat → Prop} {b o i : Nat} {cs : List Value} {T : ConD} (h : conSh.rep w S cs T) (hc : CellsAt w b (o + i * 2) cs) :
    ∃ v0 v1, cs = [v0, v1] ∧ w.cell? ⟨b, o + i * 2, none⟩ = some v0 ∧ w.cell? ⟨b, o + i * 2 + 1, none⟩ = some v1 := by
  obtain ⟨v0, v1, rfl⟩ := con_list h
  exact ⟨_, _, rfl, hc 0 _ rfl, hc 1 _ rfl⟩

/-- What it weighs. -/
def wt : ConD → Nat
  | (x0, x1) => x0.size + ((x1.length + ty.wts x1))
def wts : List ConD → Nat
  | [] => 0
  | k :: ks => wt k + wts ks

theorem wts_take {ks : List ConD} {i : Nat} (h : i < ks.length) : wts (ks.take (i + 1)) = wts (ks.take i) + wt ks[i] := by
  induction ks generalizing i with
  | nil => simp at h
  | cons k ks ih =>
    cases i with
    | zero => simp [wts]
    | succ i => simp [wts, ih (by simpa using h)]; omega
theorem wts_take_le (ks : List ConD) (i : Nat) : wts (ks.take i) ≤ wts ks := by
  induction ks generalizing i with
  | nil => simp [wts]
  | cons k ks ih =>
    cases i with
    | zero => simp [wts]
    | succ i => simp [wts]; exact ih i
theorem wt_mem {ks : List ConD} {k : ConD} (h : k ∈ ks) : wt k ≤ wts ks := by
  induction ks with
  | nil => cases h
  | cons a ks ih =>
    simp only [wts]
    rcases List.mem_cons.1 h with rfl | h
    · omega
    · have := ih h; omega

end Go.Proofs.YtpdmdcoaaboikaaGreatDoor.con
