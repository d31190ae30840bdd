/-
  What a tidy con, data and program are, and the model's and the program's small facts of them.
-/
import Derived.Test.YtpdmdcoaaboikaaGreatDoorProgSh
import Derived.Test.YtpdmdcoaaboikaaGreatDoorTyTidyL
import Derived.Test.YtpdmdcoaaboikaaGreatDoorNodeTidyL
namespace Go.Proofs.YtpdmdcoaaboikaaGreatDoor.prog
open Go.RowKit Go.Proofs.YtpdmdcoaaboikaaGreatDoor.rose Go.Proofs.YtpdmdcoaaboikaaGreatDoor words4
set_option linter.unusedVariables false

def conOkB (vars : Int) (c : con.ConD) : Bool := conB c.1 && c.2.all (ty.tidyL vars 24)
def dataOkB (d : data.DataD) : Bool := conB d.1 && (decide (0 ≤ d.2.1) && (decide (d.2.1 ≤ 26) && (!((d.2.2.length : Int) == 0) && d.2.2.all (conOkB d.2.1))))
def progOkB (p : ProgD) : Bool := p.1.all dataOkB && node.tidyN 24 1 p.2

theorem all_take {α : Type} {p : α → Bool} {ks : List α} {i : Nat} (h : i < ks.length) : (ks.take (i + 1)).all p = ((ks.take i).all p && p ks[i]) := by
  rw [List.take_add_one, List.getElem?_eq_getElem h, List.all_append]; simp
theorem all_no {α : Type} {p : α → Bool} {ks : List α} {i : Nat} (h : i < ks.length) (hk : p ks[i] = false) : ks.all p = false := by
  rw [List.all_eq_false]; exact ⟨ks[i], List.getElem_mem h, by simp [hk]⟩

end Go.Proofs.YtpdmdcoaaboikaaGreatDoor.prog
