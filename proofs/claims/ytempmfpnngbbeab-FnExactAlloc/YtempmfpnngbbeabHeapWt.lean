/-
  How much a heap holds.
-/
import Derived.Test.YtempmfpnngbbeabHeapSh
namespace Go.Proofs.Ytempmfpnngbbeab.heap
open Go.RowKit Go.Proofs.Ytempmfpnngbbeab.rose Go.Proofs.Ytempmfpnngbbeab
set_option linter.unusedVariables false
/-- What it weighs. -/
def wt : HeapD → Nat
  | (x0, x1, x2, x3) => x0.length
def wts : List HeapD → Nat
  | [] => 0
  | k :: ks => wt k + wts ks

theorem wts_take {ks : List HeapD} {i : Nat} (h : i < ks.length) : wts (ks.take (i + 1)) = wts (ks.take i) + wt ks[i] := by
  induction ks generalizing i with
  | nil => simp at h
  | cons k ks ih =>
    cases i with
    | zero => simp [wts]
    | succ i => simp [wts, ih (by simpa using h)]; omega
theorem wts_take_le (ks : List HeapD) (i : Nat) : wts (ks.take i) ≤ wts ks := by
  induction ks generalizing i with
  | nil => simp [wts]
  | cons k ks ih =>
    cases i with
    | zero => simp [wts]
    | succ i => simp [wts]; exact ih i
theorem wt_mem {ks : List HeapD} {k : HeapD} (h : k ∈ ks) : wt k ≤ wts ks := by
  induction ks with
  | nil => cases h
  | cons a ks ih =>
    simp only [wts]
    rcases List.mem_cons.1 h with rfl | h
    · omega
    · have := ih h; omega


end Go.Proofs.Ytempmfpnngbbeab.heap
