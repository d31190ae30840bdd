/-
  How much the answer of FunsOf can hold.
-/
import Derived.Test.YtlfchmmkaflglaaDoorFunsOfSpec
import Derived.Test.YtlfchmmkaflglaaDoorFunsOfImpl
import Derived.Test.YtlfchmmkaflglaaDoorFunsBytesDefs
import Derived.Test.YtlfchmmkaflglaaDoorFunMark
namespace Go.Proofs.YtlfchmmkaflglaaDoor.fun
open Go Go.RowKit Go.Proofs.YtlfchmmkaflglaaDoor.rose Go.Proofs.YtlfchmmkaflglaaDoor Go.Proofs.YtlfchmmkaflglaaDoor.byts
set_option linter.unusedVariables false

theorem wts_le (c : Nat) : ∀ ks : List FunD, (∀ k ∈ ks, k.2.length ≤ c) → wts ks ≤ c * ks.length
  | [], _ => by simp [wts]
  | k :: ks, h => by
    have h1 := h k (List.mem_cons_self ..)
    have h2 := wts_le c ks fun y hy => h y (List.mem_cons_of_mem _ hy)
    have h3 : wt k = k.2.length := rfl
    rw [wts, List.length_cons, Nat.mul_succ, h3]
    omega
theorem funsOf_bound (b : List Int) : cnts (funsOfB b).1 ≤ 1073741824 := by
  unfold funsOfB
  split
  · rename_i h
    simp only [Bool.and_eq_true] at h
    have h1 := funs_len h.2
    have h2 := wts_le 3000 (allS b).1 fun k hk => by
      obtain ⟨j, hj, rfl⟩ := List.getElem_of_mem hk
      exact (fun_parts h.2 hj).2.1.2
    have h3 := cnts_le (allS b).1
    dsimp only
    omega
  · simp [cnts]

end Go.Proofs.YtlfchmmkaflglaaDoor.fun
