/-
  Schemes that lie apart lie in blocks that nothing froze.
-/
import Derived.Test.YtklcjjckelahcaaSchemeSp
import Derived.Test.YtklcjjckelahcaaTyPlain
namespace Go.Proofs.Ytklcjjckelahcaa.scheme
open Go.RowKit Go.Proofs.Ytklcjjckelahcaa.rose Go.Proofs.Ytklcjjckelahcaa
set_option linter.unusedVariables false

theorem ints_plain {w : World} {S : Nat → Prop} {v : Value} {ks : List Int} (h : ints.intsSp.rep w S [v] ks) : ints.intsSh.rep w (fun b => S b ∧ Plain w b) [v] ks := by
  obtain ⟨a, cap, css, F, e, h1, h2, h3, hr⟩ := h
  refine ⟨a, cap, css, e, h1, h2, h3, fun i hi => ?_, fun i hi => ?_⟩
  · obtain ⟨b, o, cur, t, rfl, q1, q2, q3, q4⟩ := hr.row (by omega)
    exact ⟨b, o, rfl, ⟨q1, cur, t, q2⟩, q4 i hi⟩
  · exact hr.rep i hi
theorem one_plain {w : World} {S : Nat → Prop} {cs : List Value} {T : SchemeD} (h : schemeSp.rep w S cs T) : schemeSh.rep w (fun b => S b ∧ Plain w b) cs T := by
  obtain ⟨x0, a0, c0, x1, u0, u1, u2, u3, S0, S1, rfl, rfl, f0, f1, s0, s1, -⟩ := schemep_open h
  exact scheme_shut (ints.intsSh.mono (ints_plain f0) fun b hb => ⟨s0 b hb.1, hb.2⟩) (ty.tySh.mono (ty.typ_plain x1 f1) fun b hb => ⟨s1 b hb.1, hb.2⟩)
theorem schemes_plain {w : World} {S : Nat → Prop} {v : Value} {ks : List SchemeD} (h : schemeSp.sslice.rep w S [v] ks) : schemeSh.slice.rep w (fun b => S b ∧ Plain w b) [v] ks := by
  obtain ⟨a, cap, css, F, e, h1, h2, h3, hr⟩ := schemeps_open h
  subst e
  refine ⟨a, cap, css, rfl, h1, h2, h3, fun i hi => ?_, fun i hi => ?_⟩
  · obtain ⟨b, o, cur, t, rfl, q1, q2, q3, q4⟩ := hr.row (by omega)
    exact ⟨b, o, rfl, ⟨q1, cur, t, q2⟩, q4 i hi⟩
  · exact schemeSh.mono (one_plain (hr.rep i hi)) fun b hb => ⟨hr.sub i hi b hb.1, hb.2⟩

end Go.Proofs.Ytklcjjckelahcaa.scheme
