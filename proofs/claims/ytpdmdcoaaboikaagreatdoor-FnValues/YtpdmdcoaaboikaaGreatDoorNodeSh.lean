/-
  A Node as it lies in memory, and what it weighs.
-/
import Derived.Test.YtpdmdcoaaboikaaGreatDoorChecked
import Derived.Test.YtpdmdcoaaboikaaGreatDoorRose
import Derived.WalkKit
import Derived.WalkLawsBesides
import Derived.Deep.QuietTactic
import Derived.BigQuiet
namespace Go.Proofs.YtpdmdcoaaboikaaGreatDoor.node
open Go.RowKit Go.Proofs.YtpdmdcoaaboikaaGreatDoor.rose
set_option linter.unusedVariables false

abbrev Pay := Int × Int × ByteArray × ByteArray
abbrev Nd := Rose Pay
abbrev paySh : Sh Pay := Sh.int.pair (Sh.int.pair (Sh.str.pair Sh.str))
abbrev ndSh : Sh Nd := paySh.rose

/-- A node's cells. -/
theorem nd_open {w : World} {S : Nat → Prop} {cs : List Value} {T : Nd} (h : ndSh.rep w S cs T) : ∃ op n s t a cap ks, T = .mk (op, n, s, t) ks ∧ cs = [.int .i64 op, .int .i64 n, .string s, .string t, .slice a ks.length cap] ∧
    s.size ≤ maxLen ∧ t.size ≤ maxLen ∧ ndSh.slice.rep w S [.slice a ks.length cap] ks := by
  obtain ⟨⟨op, n, s, t⟩, ks⟩ := T
  obtain ⟨ps, kc, rfl, ⟨_, _, rfl, ⟨rfl, _⟩, _, _, rfl, ⟨rfl, _⟩, _, _, rfl, ⟨rfl, hs⟩, ⟨rfl, ht⟩⟩, a, cap, css, rfl, h1, h2, h5, h3, h4⟩ := rose_iff.1 h
  exact ⟨op, n, s, t, a, cap, ks, rfl, rfl, hs, ht, a, cap, css, rfl, h1, h2, h5, h3, h4⟩

theorem nd_ints {w : World} {S : Nat → Prop} {cs : List Value} {op n : Int} {s t : ByteArray} {ks : List Nd} (h : ndSh.rep w S cs (.mk (op, n, s, t) ks)) :
    (-9223372036854775808 ≤ op ∧ op ≤ 9223372036854775807) ∧ (-9223372036854775808 ≤ n ∧ n ≤ 9223372036854775807) := by
  obtain ⟨ps, kc, rfl, ⟨_, _, rfl, ⟨rfl, h1⟩, _, _, rfl, ⟨rfl, h2⟩, _⟩, _⟩ := rose_iff.1 h
  exact ⟨h1, h2⟩
theorem nd_shut {w : World} {S : Nat → Prop} {op n : Int} {s t : ByteArray} {v : Value} {ks : List Nd} (hop : -9223372036854775808 ≤ op ∧ op ≤ 9223372036854775807) (hn : -9223372036854775808 ≤ n ∧ n ≤ 9223372036854775807) (hs : s.size ≤ maxLen) (ht : t.size ≤ maxLen)
    (hk : ndSh.slice.rep w S [v] ks) : ndSh.rep w S [.int .i64 op, .int .i64 n, .string s, .string t, v] (.mk (op, n, s, t) ks) :=
  rose_iff.2 ⟨[.int .i64 op, .int .i64 n, .string s, .string t], [v], rfl, ⟨[_], _, rfl, ⟨rfl, hop⟩, [_], _, rfl, ⟨rfl, hn⟩, [_], [_], rfl, ⟨rfl, hs⟩, ⟨rfl, ht⟩⟩, hk⟩

/-- A slice of nodes, by its elements. -/
theorem nds_open {w : World} {S : Nat → Prop} {v : Value} {ks : List Nd} (h : ndSh.slice.rep w S [v] ks) : ∃ a cap css, v = .slice a ks.length cap ∧ ks.length ≤ cap ∧ cap ≤ maxLen ∧ RowAt w S 5 a ks.length css ∧ ∀ i (h : i < ks.length), ndSh.rep w S (css i) ks[i] := by
  obtain ⟨a, cap, css, e, h1, h2, -, h3, h4⟩ := h
  exact ⟨a, cap, css, by simpa using e, h1, h2, h3, h4⟩

theorem nds_none {w : World} {S : Nat → Prop} {n cap : Nat} {ks : List Nd} (h : ndSh.slice.rep w S [.slice none n cap] ks) : n = 0 ∧ cap = 0 ∧ ks = [] := by
  obtain ⟨a, cap, css, e, h1, h2, h5, h3, h4⟩ := h
  simp only [List.cons.injEq, Value.slice.injEq, and_true] at e
  obtain ⟨rfl, rfl, rfl⟩ := e
  have := h5 rfl
  subst this
  have : ks = [] := List.eq_nil_of_length_eq_zero (by omega)
  subst this
  exact ⟨rfl, rfl, rfl⟩

/-- Element i's five cells. -/
theorem nd_cells {w : World} {S : Nat → Prop} {b o i : Nat} {cs : List Value} {T : Nd} (h : ndSh.rep w S cs T) (hc : CellsAt w b (o + i * 5) cs) :
    ∃ v0 v1 v2 v3 v4, cs = [v0, v1, v2, v3, v4] ∧ w.cell? ⟨b, o + i * 5, none⟩ = some v0 ∧ w.cell? ⟨b, o + i * 5 + 1, none⟩ = some v1 ∧ w.cell? ⟨b, o + i * 5 + 2, none⟩ = some v2 ∧ w.cell? ⟨b, o + i * 5 + 3, none⟩ = some v3 ∧ w.cell? ⟨b, o + i * 5 + 4, none⟩ = some v4 := by
  obtain ⟨op, n, s, t, a, cap, ks, rfl, rfl, _, _, _⟩ := nd_open h
  exact ⟨_, _, _, _, _, rfl, hc 0 _ rfl, hc 1 _ rfl, hc 2 _ rfl, hc 3 _ rfl, hc 4 _ rfl⟩

theorem nd_list {w : World} {S : Nat → Prop} {cs : List Value} {T : Nd} (h : ndSh.rep w S cs T) : ∃ v0 v1 v2 v3 v4, cs = [v0, v1, v2, v3, v4] := by
  obtain ⟨op, n, s, t, a, cap, ks, rfl, rfl, _, _, _⟩ := nd_open h
  exact ⟨_, _, _, _, _, rfl⟩

mutual
/-- What a tree weighs. -/
def wt : Nd → Nat
  | .mk x ks => x.2.2.1.size + x.2.2.2.size + ks.length + wts ks
def wts : List Nd → Nat
  | [] => 0
  | k :: ks => wt k + wts ks
end

theorem wts_take {ks : List Nd} {i : Nat} (h : i < ks.length) : wts (ks.take (i + 1)) = wts (ks.take i) + wt ks[i] := by
  induction ks generalizing i with
  | nil => simp at h
  | cons k ks ih =>
    cases i with
    | zero => simp [wts]
    | succ i => simp [wts, ih (by simpa using h)]; omega
theorem wts_take_le (ks : List Nd) (i : Nat) : wts (ks.take i) ≤ wts ks := by
  induction ks generalizing i with
  | nil => simp [wts]
  | cons k ks ih =>
    cases i with
    | zero => simp [wts]
    | succ i => simp [wts]; exact ih i

theorem wt_mem {ks : List Nd} {k : Nd} (h : k ∈ ks) : wt k ≤ wts ks := by
  induction ks with
  | nil => cases h
  | cons a ks ih =>
    simp only [wts]
    rcases List.mem_cons.1 h with rfl | h
    · omega
    · have := ih h; omega


end Go.Proofs.YtpdmdcoaaboikaaGreatDoor.node
