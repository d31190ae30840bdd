/-
  The type Data as it lies in memory.
-/
import Derived.Test.YtpdmdcoaaboikaaGreatDoorChecked
import Derived.Test.YtpdmdcoaaboikaaGreatDoorRose
import Derived.Test.YtpdmdcoaaboikaaGreatDoorConSh
import Derived.WalkKit
import Derived.WalkLawsBesides
import Derived.Deep.QuietTactic
import Derived.BigQuiet
namespace Go.Proofs.YtpdmdcoaaboikaaGreatDoor.data
open Go.RowKit Go.Proofs.YtpdmdcoaaboikaaGreatDoor.rose Go.Proofs.YtpdmdcoaaboikaaGreatDoor
set_option linter.unusedVariables false

abbrev DataD := ByteArray × Int × List con.ConD
abbrev dataSh : Sh DataD := Sh.str.pair (Sh.int.pair con.conSh.slice)

theorem data_open {w : World} {S : Nat → Prop} {cs : List Value} {T : DataD} (h : dataSh.rep w S cs T) : ∃ x0 x1 x2 a2 c2, T = (x0, x1, x2) ∧ cs = [.string x0, .int .i64 x1, .slice a2 x2.length c2] ∧ x0.size ≤ maxLen ∧ (-9223372036854775808 ≤ x1 ∧ x1 ≤ 9223372036854775807) ∧ con.conSh.slice.rep w S [.slice a2 x2.length c2] x2 := by
  obtain ⟨x0, x1, x2⟩ := T
  obtain ⟨_, _, rfl, ⟨rfl, h0⟩, _, _, rfl, ⟨rfl, h1⟩, h2⟩ := h
  obtain ⟨a2, c2, rfl⟩ := slice_cells h2
  exact ⟨_, _, _, _, _, rfl, rfl, h0, h1, h2⟩
theorem data_list {w : World} {S : Nat → Prop} {cs : List Value} {T : DataD} (h : dataSh.rep w S cs T) : ∃ v0 v1 v2, cs = [v0, v1, v2] := by
  obtain ⟨x0, x1, x2, a2, c2, -, rfl, -⟩ := data_open h
  exact ⟨_, _, _, rfl⟩
theorem data_shut {w : World} {S : Nat → Prop} {x0 : ByteArray} {x1 : Int} {x2 : List con.ConD} {a2 : Option Addr} {c2 : Nat} (h0 : x0.size ≤ maxLen) (h1 : -9223372036854775808 ≤ x1 ∧ x1 ≤ 9223372036854775807) (h2 : con.conSh.slice.rep w S [.slice a2 x2.length c2] x2) : dataSh.rep w S [.string x0, .int .i64 x1, .slice a2 x2.length c2] ((x0, x1, x2)) :=
  ⟨[_], _, rfl, ⟨rfl, h0⟩, [_], _, rfl, ⟨rfl, h1⟩, h2⟩

theorem datas_open {w : World} {S : Nat → Prop} {v : Value} {ks : List DataD} (h : dataSh.slice.rep w S [v] ks) : ∃ a cap css, v = .slice a ks.length cap ∧ ks.length ≤ cap ∧ cap ≤ maxLen ∧ RowAt w S 3 a ks.length css ∧ ∀ i (h : i < ks.length), dataSh.rep w S (css i) ks[i] := by
  obtain ⟨a, cap, css, e, h1, h2, -, h3, h4⟩ := h
  exact ⟨a, cap, css, by simpa using e, h1, h2, h3, h4⟩

theorem data_cells {w : World} {S : Nat → Prop} {b o i : Nat} {cs : List Value} {T : DataD} (h : dataSh.rep w S cs T) (hc : CellsAt w b (o + i * 3) cs) :
    ∃ v0 v1 v2, cs = [v0, v1, v2] ∧ w.cell? ⟨b, o + i * 3, none⟩ = some v0 ∧ w.cell? ⟨b, o + i * 3 + 1, none⟩ = some v1 ∧ w.cell? ⟨b, o + i * 3 + 2, none⟩ = some v2 := by
  obtain ⟨v0, v1, v2, rfl⟩ := data_list h
  exact ⟨_, _, _, rfl, hc 0 _ rfl, hc 1 _ rfl, hc 2 _ rfl⟩

/-- What it weighs. -/
def wt : DataD → Nat
  | (x0, x1, x2) => x0.size + ((x2.length + con.wts x2))
def wts : List DataD → Nat
  | [] => 0
  | k :: ks => wt k + wts ks

theorem wts_take {ks : List DataD} {i : Nat} (h : i < ks.length) : wts (ks.take (i + 1)) = wts (ks.take i) + wt ks[i] := by
  induction ks generalizing i with
  | nil => simp at h
  | cons k ks ih =>
    cases i with
    | zero => simp [wts]
    | succ i => simp [wts, ih (by simpa using h)]; omega
theorem wts_take_le (ks : List DataD) (i : Nat) : wts (ks.take i) ≤ wts ks := by
  induction ks generalizing i with
  | nil => simp [wts]
  | cons k ks ih =>
    cases i with
    | zero => simp [wts]
    | succ i => simp [wts]; exact ih i
theorem wt_mem {ks : List DataD} {k : DataD} (h : k ∈ ks) : wt k ≤ wts ks := by
  induction ks with
  | nil => cases h
  | cons a ks ih =>
    simp only [wts]
    rcases List.mem_cons.1 h with rfl | h
    · omega
    · have := ih h; omega

end Go.Proofs.YtpdmdcoaaboikaaGreatDoor.data
