/-
  The program's tysOf: it hands over its iterator, with its argument in a new box.
-/
import Derived.Test.YtfekbchmgnpkaaaTysOf
import Derived.Stop.RegionWithIn
namespace Go.Proofs.Ytfekbchmgnpkaaa.ty
open Go.RowKit Go.Shelf Go.Proofs.Ytfekbchmgnpkaaa.rose Go.Proofs.Ytfekbchmgnpkaaa.rangeb Go.Proofs.Ytfekbchmgnpkaaa
set_option linter.unusedVariables false
set_option linter.unusedSimpArgs false
attribute [local go_sem] Oper.semAt_some

theorem tysOf_in (F : Fence) (n : Nat) (hF : F.fn 38) (hro : F.round = none) (v0 v1 v2 v3 : Value) (w : World) (o0 : v0.oneCell' = true) (o1 : v1.oneCell' = true) (o2 : v2.oneCell' = true) (o3 : v3.oneCell' = true) :
    CallsIn F n Try.prog 38 #[.agg #[v0, v1, v2, v3]] w fun e w' => e = .returned (.func (.func 69) #[] #[.pointer (some ⟨w.heap.size, 0, none⟩)]) ∧ w' = w.alloc (.cells #[v0, v1, v2, v3] 29) := by
  refine callsIn_of_wp Try.func38 rfl hF ?_ hro
  simp only [Try.ntmps38, List.size_toArray, List.length_cons, List.length_nil, Nat.reduceAdd, Nat.reduceSub, Array.replicate_succ, Array.replicate_zero, List.push_toArray, List.append_toArray, List.nil_append, List.cons_append]
  gi_wp2
  refine bodyPost_ret (results_tmp rfl _ _ _) rfl ?_
  exact ⟨rfl, rfl⟩

end Go.Proofs.Ytfekbchmgnpkaaa.ty
