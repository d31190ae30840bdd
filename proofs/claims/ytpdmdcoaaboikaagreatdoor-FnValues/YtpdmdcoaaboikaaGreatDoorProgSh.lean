/-
  The type Prog as it lies in memory.
-/
import Derived.Test.YtpdmdcoaaboikaaGreatDoorDataSh
import Derived.Test.YtpdmdcoaaboikaaGreatDoorNodeSh
namespace Go.Proofs.YtpdmdcoaaboikaaGreatDoor.prog
open Go.RowKit Go.Proofs.YtpdmdcoaaboikaaGreatDoor.rose Go.Proofs.YtpdmdcoaaboikaaGreatDoor
set_option linter.unusedVariables false

abbrev ProgD := List data.DataD × node.Nd
abbrev progSh : Sh ProgD := data.dataSh.slice.pair node.ndSh

theorem prog_open {w : World} {S : Nat → Prop} {cs : List Value} {T : ProgD} (h : progSh.rep w S cs T) : ∃ x0 a0 c0 x1 u1_0 u1_1 u1_2 u1_3 u1_4, T = (x0, x1) ∧ cs = [.slice a0 x0.length c0, u1_0, u1_1, u1_2, u1_3, u1_4] ∧ data.dataSh.slice.rep w S [.slice a0 x0.length c0] x0 ∧ node.ndSh.rep w S [u1_0, u1_1, u1_2, u1_3, u1_4] x1 := by
  obtain ⟨x0, x1⟩ := T
  obtain ⟨_, _, rfl, h0, h1⟩ := h
  obtain ⟨a0, c0, rfl⟩ := slice_cells h0
  obtain ⟨u1_0, u1_1, u1_2, u1_3, u1_4, rfl⟩ := node.nd_list h1
  exact ⟨_, _, _, _, _, _, _, _, _, rfl, rfl, h0, h1⟩
theorem prog_list {w : World} {S : Nat → Prop} {cs : List Value} {T : ProgD} (h : progSh.rep w S cs T) : ∃ v0 v1 v2 v3 v4 v5, cs = [v0, v1, v2, v3, v4, v5] := by
  obtain ⟨x0, a0, c0, x1, u1_0, u1_1, u1_2, u1_3, u1_4, -, rfl, -⟩ := prog_open h
  exact ⟨_, _, _, _, _, _, rfl⟩
theorem prog_shut {w : World} {S : Nat → Prop} {x0 : List data.DataD} {x1 : node.Nd} {u1_0 : Value} {u1_1 : Value} {u1_2 : Value} {u1_3 : Value} {u1_4 : Value} {a0 : Option Addr} {c0 : Nat} (h0 : data.dataSh.slice.rep w S [.slice a0 x0.length c0] x0) (h1 : node.ndSh.rep w S [u1_0, u1_1, u1_2, u1_3, u1_4] x1) : progSh.rep w S [.slice a0 x0.length c0, u1_0, u1_1, u1_2, u1_3, u1_4] ((x0, x1)) :=
  ⟨[_], _, rfl, h0, h1⟩

theorem progs_open {w : World} {S : Nat → Prop} {v : Value} {ks : List ProgD} (h : progSh.slice.rep w S [v] ks) : ∃ a cap css, v = .slice a ks.length cap ∧ ks.length ≤ cap ∧ cap ≤ maxLen ∧ RowAt w S 6 a ks.length css ∧ ∀ i (h : i < ks.length), progSh.rep w S (css i) ks[i] := by
  obtain ⟨a, cap, css, e, h1, h2, -, h3, h4⟩ := h
  exact ⟨a, cap, css, by simpa using e, h1, h2, h3, h4⟩

theorem prog_cells {w : World} {S : Nat → Prop} {b o i : Nat} {cs : List Value} {T : ProgD} (h : progSh.rep w S cs T) (hc : CellsAt w b (o + i * 6) cs) :
    ∃ v0 v1 v2 v3 v4 v5, cs = [v0, v1, v2, v3, v4, v5] ∧ w.cell? ⟨b, o + i * 6, none⟩ = some v0 ∧ w.cell? ⟨b, o + i * 6 + 1, none⟩ = some v1 ∧ w.cell? ⟨b, o + i * 6 + 2, none⟩ = some v2 ∧ w.cell? ⟨b, o + i * 6 + 3, none⟩ = some v3 ∧ w.cell? ⟨b, o + i * 6 + 4, none⟩ = some v4 ∧ w.cell? ⟨b, o + i * 6 + 5, none⟩ = some v5 := by
  obtain ⟨v0, v1, v2, v3, v4, v5, rfl⟩ := prog_list h
  exact ⟨_, _, _, _, _, _, rfl, hc 0 _ rfl, hc 1 _ rfl, hc 2 _ rfl, hc 3 _ rfl, hc 4 _ rfl, hc 5 _ rfl⟩

/-- What it weighs. -/
def wt : ProgD → Nat
  | (x0, x1) => (x0.length + data.wts x0) + (node.wt x1)
def wts : List ProgD → Nat
  | [] => 0
  | k :: ks => wt k + wts ks

theorem wts_take {ks : List ProgD} {i : Nat} (h : i < ks.length) : wts (ks.take (i + 1)) = wts (ks.take i) + wt ks[i] := by
  induction ks generalizing i with
  | nil => simp at h
  | cons k ks ih =>
    cases i with
    | zero => simp [wts]
    | succ i => simp [wts, ih (by simpa using h)]; omega
theorem wts_take_le (ks : List ProgD) (i : Nat) : wts (ks.take i) ≤ wts ks := by
  induction ks generalizing i with
  | nil => simp [wts]
  | cons k ks ih =>
    cases i with
    | zero => simp [wts]
    | succ i => simp [wts]; exact ih i
theorem wt_mem {ks : List ProgD} {k : ProgD} (h : k ∈ ks) : wt k ≤ wts ks := by
  induction ks with
  | nil => cases h
  | cons a ks ih =>
    simp only [wts]
    rcases List.mem_cons.1 h with rfl | h
    · omega
    · have := ih h; omega

end Go.Proofs.YtpdmdcoaaboikaaGreatDoor.prog
