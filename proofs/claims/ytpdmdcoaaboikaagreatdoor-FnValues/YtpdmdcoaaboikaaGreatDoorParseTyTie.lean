/-
  What the model's parsing of types says, with any number of tokens left.
-/
import Derived.Test.YtpdmdcoaaboikaaGreatDoorParseTy
namespace Go.Proofs.YtpdmdcoaaboikaaGreatDoor.tok
open Go Go.RowKit Go.Deep Go.Proofs.YtpdmdcoaaboikaaGreatDoor.rose Go.Proofs.YtpdmdcoaaboikaaGreatDoor
set_option linter.unusedVariables false

theorem ty_all (E : Env) : ∀ N, GTold 96 tyP ty.wt E fun at_ => E.toks.length - at_ < N := by
  intro N
  induction N with
  | zero => exact fun w at_ bad h hN => absurd hN (Nat.not_lt_zero _)
  | succ N ih => exact fun w at_ bad h hN => ty_of E N ih (fun w at_ bad h hN => tyatom_of E N ih w at_ bad h hN) w at_ bad h (by omega)
theorem tyatom_any (E : Env) : GTold 86 tyP ty.wt E fun _ => True := fun w at_ bad h _ => tyatom_of E (E.toks.length - at_) (ty_all E _) w at_ bad h (Nat.le_refl _)
theorem alt_any (E : Env) : GTold 60 conP con.wt E fun _ => True := fun w at_ bad h _ => alt_of E (tyatom_any E) w at_ bad h trivial

end Go.Proofs.YtpdmdcoaaboikaaGreatDoor.tok
