/-
  A Scheme that lies in memory apart: its slices are all different blocks.
-/
import Derived.Test.YtklcjjckelahcaaSchemeSz
import Derived.Test.YtklcjjckelahcaaSep
import Derived.Test.YtklcjjckelahcaaTySp
import Derived.Test.YtklcjjckelahcaaInts
namespace Go.Proofs.Ytklcjjckelahcaa.scheme
open Go.RowKit Go.Proofs.Ytklcjjckelahcaa.rose Go.Proofs.Ytklcjjckelahcaa
set_option linter.unusedVariables false

abbrev schemeSp : Sh SchemeD := Sh.int.sslice.spair ty.tySp

theorem schemep_rep {w : World} {S : Nat → Prop} {cs : List Value} {T : SchemeD} (h : schemeSp.rep w S cs T) : schemeSh.rep w S cs T := (fun h => spair_rep (fun h => ints.intsp_rep h) (fun h => ty.typ_rep h) h) h
theorem schemeps_rep {w : World} {S : Nat → Prop} {cs : List Value} {ks : List SchemeD} (h : schemeSp.sslice.rep w S cs ks) : schemeSh.slice.rep w S cs ks := sslice_rep (A := schemeSp) (B := schemeSh) rfl (fun h => schemep_rep h) h

theorem schemep_shut {w : World} {S : Nat → Prop} {S0 S1 : Nat → Prop} {x0 : List Int} {x1 : ty.TyD} {u1_0 : Value} {u1_1 : Value} {u1_2 : Value} {u1_3 : Value} {a0 : Option Addr} {c0 : Nat} (h0 : Sh.int.sslice.rep w S0 [.slice a0 x0.length c0] x0) (h1 : ty.tySp.rep w S1 [u1_0, u1_1, u1_2, u1_3] x1) (s0 : ∀ b, S0 b → S b) (s1 : ∀ b, S1 b → S b) (d0_1 : ∀ b, S0 b → ¬ S1 b) : schemeSp.rep w S [.slice a0 x0.length c0, u1_0, u1_1, u1_2, u1_3] ((x0, x1)) :=
  schemeSp.mono (S := fun b => S0 b ∨ S1 b) ⟨[_], _, S0, S1, rfl, fun b h => Or.inl h, fun b h => Or.inr h, fun b h1 h2 => d0_1 b h1 h2, h0, h1⟩ fun b h => h.elim (fun g => s0 b g) (fun g => s1 b g)
theorem schemep_shutv {w : World} {S : Nat → Prop} {S0 S1 : Nat → Prop} {x0 : List Int} {x1 : ty.TyD} {u1_0 : Value} {u1_1 : Value} {u1_2 : Value} {u1_3 : Value} {v0 : Value} (h0 : Sh.int.sslice.rep w S0 [v0] x0) (h1 : ty.tySp.rep w S1 [u1_0, u1_1, u1_2, u1_3] x1) (s0 : ∀ b, S0 b → S b) (s1 : ∀ b, S1 b → S b) (d0_1 : ∀ b, S0 b → ¬ S1 b) : schemeSp.rep w S [v0, u1_0, u1_1, u1_2, u1_3] ((x0, x1)) :=
  schemeSp.mono (S := fun b => S0 b ∨ S1 b) ⟨[_], _, S0, S1, rfl, fun b h => Or.inl h, fun b h => Or.inr h, fun b h1 h2 => d0_1 b h1 h2, h0, h1⟩ fun b h => h.elim (fun g => s0 b g) (fun g => s1 b g)
theorem schemep_open {w : World} {S : Nat → Prop} {cs : List Value} {T : SchemeD} (h : schemeSp.rep w S cs T) : ∃ x0 a0 c0 x1 u1_0 u1_1 u1_2 u1_3, ∃ (S0 S1 : Nat → Prop), T = (x0, x1) ∧ cs = [.slice a0 x0.length c0, u1_0, u1_1, u1_2, u1_3] ∧ Sh.int.sslice.rep w S0 [.slice a0 x0.length c0] x0 ∧ ty.tySp.rep w S1 [u1_0, u1_1, u1_2, u1_3] x1 ∧ (∀ b, S0 b → S b) ∧ (∀ b, S1 b → S b) ∧ (∀ b, S0 b → ¬ S1 b) := by
  obtain ⟨x0, x1⟩ := T
  obtain ⟨_, _, A0, B0, rfl, ua0, ub0, ue0, h0, h1⟩ := h
  obtain ⟨a0, c0, rfl⟩ := sslice_cells h0
  obtain ⟨u1_0, u1_1, u1_2, u1_3, rfl⟩ := ty.ty_list (ty.typ_rep h1)
  exact ⟨_, _, _, _, _, _, _, _, A0, B0, rfl, rfl, h0, h1, fun b g => ua0 b g, fun b g => ub0 b (g), fun b g k => ue0 b g (k)⟩
theorem schemeps_open {w : World} {S : Nat → Prop} {v : Value} {ks : List SchemeD} (h : schemeSp.sslice.rep w S [v] ks) : ∃ a cap css F, v = .slice a ks.length cap ∧ ks.length ≤ cap ∧ cap ≤ maxLen ∧ (a = none → cap = 0) ∧ SRow schemeSp w S a css F ks := by
  obtain ⟨a, cap, css, F, e, h1, h2, h3, h4⟩ := h
  exact ⟨a, cap, css, F, by simpa using e, h1, h2, h3, h4⟩

end Go.Proofs.Ytklcjjckelahcaa.scheme
