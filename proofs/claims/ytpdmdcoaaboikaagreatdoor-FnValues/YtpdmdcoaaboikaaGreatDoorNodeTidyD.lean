/-
  What a tidy node is: sorts, labels, how many kids, the kids' sorts.
-/
import Derived.Test.YtpdmdcoaaboikaaGreatDoorNodeSh
import Derived.Test.YtpdmdcoaaboikaaGreatDoorNodeDeepM
import Derived.Test.YtpdmdcoaaboikaaGreatDoorSpecWords4
namespace Go.Proofs.YtpdmdcoaaboikaaGreatDoor.node
open Go.RowKit Go.Proofs.YtpdmdcoaaboikaaGreatDoor.rose Go.Proofs.YtpdmdcoaaboikaaGreatDoor words4
set_option linter.unusedVariables false
set_option linter.unusedSimpArgs false

def sortB (op : Int) : Int := if op = 8 then 2 else if 1 ≤ op ∧ op ≤ 16 then 1 else if 17 ≤ op ∧ op ≤ 20 then 3 else 0
def labelB (op n : Int) (s t : ByteArray) : Bool :=
  if op = 1 ∨ op = 19 then decide (0 ≤ n ∧ n ≤ 1073741823) && (s.toList == [] && t.toList == [])
  else if op = 2 ∨ op = 3 ∨ op = 5 ∨ op = 18 then n == 0 && (nameB s && t.toList == [])
  else if op = 6 then n == 0 && (nameB s && nameB t)
  else if op = 15 ∨ op = 20 then n == 0 && (conB s && t.toList == [])
  else n == 0 && (s.toList == [] && t.toList == [])
def fitB (op : Int) (k : Nat) : Bool :=
  if op = 1 ∨ op = 2 ∨ op = 17 ∨ op = 18 ∨ op = 19 then (k : Int) == 0
  else if op = 3 ∨ op = 16 then (k : Int) == 1
  else if op = 9 then (k : Int) == 3
  else if op = 7 then decide (2 ≤ (k : Int))
  else if op = 15 ∨ op = 20 then true
  else (k : Int) == 2
def kidSortB (op : Int) (i : Nat) : Int := if op = 7 ∧ 0 < i then 2 else if op = 8 then (if i = 0 then 3 else 1) else sortB op

mutual
/-- Whether a node is tidy, where that sort is asked. -/
def okN (sort : Int) : Nd → Bool
  | .mk (op, n, s, t) ks => decide (sortB op = sort) && (labelB op n s t && (fitB op ks.length && okNs op 0 ks))
def okNs (op : Int) (i : Nat) : List Nd → Bool
  | [] => true
  | k :: ks => okN (kidSortB op i) k && okNs op (i + 1) ks
end

theorem op_cases (op : Int) : op = 1 ∨ op = 2 ∨ op = 3 ∨ op = 4 ∨ op = 5 ∨ op = 6 ∨ op = 7 ∨ op = 8 ∨ op = 9 ∨ op = 10 ∨ op = 11 ∨ op = 12 ∨ op = 13 ∨ op = 14 ∨ op = 15 ∨ op = 16 ∨ op = 17 ∨ op = 18 ∨ op = 19 ∨ op = 20 ∨ (op < 1 ∨ 20 < op) := by omega

theorem ret_int {k : IntKind} {a b : Int} (h : a = b) : Ending.returned (.int k a) = .returned (.int k b) := by rw [h]

end Go.Proofs.YtpdmdcoaaboikaaGreatDoor.node
