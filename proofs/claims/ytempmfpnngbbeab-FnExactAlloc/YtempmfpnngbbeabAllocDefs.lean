/-
  A block is put into a heap (chapter 17): told in plain data; no program named.
-/
import Derived.Test.YtempmfpnngbbeabHeapDefs
namespace Go.Proofs.Ytempmfpnngbbeab.heap
open Go Go.RowKit Go.Proofs.Ytempmfpnngbbeab.rose Go.Proofs.Ytempmfpnngbbeab Go.Proofs.Ytempmfpnngbbeab.fun
set_option linter.unusedVariables false

def headW (fn : Bool) (tag : Int) (many : Nat) : Int := 2 * (2 * (64 * tag + many) + (if fn then 1 else 0)) + 1
/-- Words are written from a place on. -/
def putW (W : List Int) (p : Nat) : List Int → List Int
  | [] => W
  | x :: xs => putW (W.set p x) (p + 1) xs
theorem putW_length (W : List Int) (p : Nat) (xs : List Int) : (putW W p xs).length = W.length := by
  induction xs generalizing W p with
  | nil => rfl
  | cons x xs ih => rw [putW, ih, List.length_set]
theorem putW_push (W : List Int) (p : Nat) (xs : List Int) (x : Int) : putW W p (xs ++ [x]) = (putW W p xs).set (p + xs.length) x := by
  induction xs generalizing W p with
  | nil => rfl
  | cons y xs ih =>
    rw [List.cons_append, putW, ih, putW, List.length_cons]
    congr 1
    omega
theorem putW_mem {W : List Int} {p : Nat} {xs : List Int} {y : Int} (h : y ∈ putW W p xs) : y ∈ W ∨ y ∈ xs := by
  induction xs generalizing W p with
  | nil => exact .inl h
  | cons x xs ih =>
    rcases ih h with q | q
    · rcases List.mem_or_eq_of_mem_set q with q | rfl
      · exact .inl q
      · exact .inr (List.mem_cons_self ..)
    · exact .inr (List.mem_cons_of_mem _ q)
/-- The heap with one more block behind all. -/
def moreF (T : HeapD) (fn : Bool) (tag : Int) (kids : List Int) : HeapD := (putW T.1 T.2.2.2.toNat (headW fn tag kids.length :: kids), T.2.1, T.2.2.1, T.2.2.2 + 1 + kids.length)
def allocF (T : HeapD) (fn : Bool) (tag : Int) (kids : List Int) : HeapD × Int × Bool :=
  if heapB T && inB tag 0 3000 && decide (kids.length ≤ 20) && decide ((kids.length : Int) < T.2.2.1 + T.2.1 - T.2.2.2) && heapB (moreF T fn tag kids) then (moreF T fn tag kids, T.2.2.2, true) else (T, 0, false)

end Go.Proofs.Ytempmfpnngbbeab.heap
