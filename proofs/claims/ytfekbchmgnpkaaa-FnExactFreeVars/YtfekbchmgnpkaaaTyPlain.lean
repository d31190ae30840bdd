/-
  A type that lies apart lies in blocks that nothing froze.
-/
import Derived.Test.YtfekbchmgnpkaaaTySp
import Derived.Test.YtfekbchmgnpkaaaRoseQ
namespace Go.Proofs.Ytfekbchmgnpkaaa.ty
open Go.RowKit Go.Proofs.Ytfekbchmgnpkaaa.rose Go.Proofs.Ytfekbchmgnpkaaa
set_option linter.unusedVariables false

theorem typ_plain (T : TyD) : ∀ {w : World} {S : Nat → Prop} {cs : List Value}, tySp.rep w S cs T → tySh.rep w (fun b => S b ∧ Plain w b) cs T := by
  induction T using ind with
  | h x ks ih =>
    intro w S cs h
    obtain ⟨x0, x1, x2, x3, a3, c3, hT, rfl, f0, f1, f2, f3⟩ := typ_open h
    cases hT
    obtain ⟨a, cap, css, F, e, h1, h2, h3, hr⟩ := typs_open f3
    cases e
    refine ty_shut f0 f1 f2 ⟨a3, c3, css, rfl, h1, h2, h3, fun i hi => ?_, fun i hi => ?_⟩
    · obtain ⟨b, o, cur, t, rfl, q1, q2, q3, q4⟩ := hr.row (by omega)
      exact ⟨b, o, rfl, ⟨q1, cur, t, q2⟩, q4 i hi⟩
    · exact tySh.mono (ih ks[i] (List.getElem_mem hi) (hr.rep i hi)) fun b hb => ⟨hr.sub i hi b hb.1, hb.2⟩

end Go.Proofs.Ytfekbchmgnpkaaa.ty
