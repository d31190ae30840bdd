/-
  What the model's parsing of expressions says, with any number of tokens left.
-/
import Derived.Test.YtpdmdcoaaboikaaGreatDoorParseCase
namespace Go.Proofs.YtpdmdcoaaboikaaGreatDoor.tok
open Go Go.RowKit Go.Deep Go.Proofs.YtpdmdcoaaboikaaGreatDoor.rose Go.Proofs.YtpdmdcoaaboikaaGreatDoor
set_option linter.unusedVariables false

theorem e_all (E : Env) : ∀ N, Told 45 E fun at_ => E.toks.length - at_ < N := by
  intro N
  induction N with
  | zero => exact fun w at_ bad h hN => absurd hN (Nat.not_lt_zero _)
  | succ N ih =>
    intro w at_ bad h hN
    have hat : Told 104 E fun at_ => E.toks.length - at_ ≤ N := fun w at_ bad h hN => atom_of E N ih w at_ bad h hN
    have hap : Told 102 E fun at_ => E.toks.length - at_ ≤ N := fun w at_ bad h hN => apply_of E N hat w at_ bad h hN
    have hpr : Told 99 E fun at_ => E.toks.length - at_ ≤ N := fun w at_ bad h hN => product_of E N hap w at_ bad h hN
    have hsu : Told 88 E fun at_ => E.toks.length - at_ ≤ N := fun w at_ bad h hN => sum_of E N hpr w at_ bad h hN
    have hco : Told 67 E fun at_ => E.toks.length - at_ ≤ N := fun w at_ bad h hN => compare_of E N hsu w at_ bad h hN
    have hpat : ∀ M, Told 87 E fun at_ => E.toks.length - at_ < M := by
      intro M
      induction M with
      | zero => exact fun w at_ bad h hN => absurd hN (Nat.not_lt_zero _)
      | succ M ihM =>
        intro w at_ bad h hN
        have hpa : Told 97 E fun at_ => E.toks.length - at_ ≤ M := fun w at_ bad h hN => patatom_of E M ihM w at_ bad h hN
        exact pat_of E M hpa w at_ bad h (by omega)
    exact e_of E N ih (fun w at_ bad h hN => let_of E N ih w at_ bad h hN.1 hN.2) (fun w at_ bad h hN => rec_of E N ih w at_ bad h hN.1 hN.2) (fun w at_ bad h hN => case_of E N ih (fun w at_ bad h hN => hpat (N + 1) w at_ bad h (by omega)) w at_ bad h hN) hco w at_ bad h (by omega)

theorem e_any (E : Env) : Told 45 E fun _ => True := fun w at_ bad h _ => e_all E (E.toks.length - at_ + 1) w at_ bad h (by omega)

end Go.Proofs.YtpdmdcoaaboikaaGreatDoor.tok
