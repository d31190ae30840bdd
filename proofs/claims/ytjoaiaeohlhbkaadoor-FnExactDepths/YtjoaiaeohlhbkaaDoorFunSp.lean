/-
  A Fun that lies in memory apart: its slices are all different blocks.
-/
import Derived.Test.YtjoaiaeohlhbkaaDoorFunSz
import Derived.Test.YtjoaiaeohlhbkaaDoorSep
import Derived.Test.YtjoaiaeohlhbkaaDoorOpSp
namespace Go.Proofs.YtjoaiaeohlhbkaaDoor.fun
open Go.RowKit Go.Proofs.YtjoaiaeohlhbkaaDoor.rose Go.Proofs.YtjoaiaeohlhbkaaDoor
set_option linter.unusedVariables false

abbrev funSp : Sh FunD := Sh.int.spair op.opSp.sslice

theorem funp_rep {w : World} {S : Nat → Prop} {cs : List Value} {T : FunD} (h : funSp.rep w S cs T) : funSh.rep w S cs T := (fun h => spair_rep (fun h => h) (fun h => op.opps_rep h) h) h
theorem funps_rep {w : World} {S : Nat → Prop} {cs : List Value} {ks : List FunD} (h : funSp.sslice.rep w S cs ks) : funSh.slice.rep w S cs ks := sslice_rep (A := funSp) (B := funSh) rfl (fun h => funp_rep h) h

theorem funp_shut {w : World} {S : Nat → Prop} {x0 : Int} {x1 : List op.OpD} {a1 : Option Addr} {c1 : Nat} (h0 : -9223372036854775808 ≤ x0 ∧ x0 ≤ 9223372036854775807) (h1 : op.opSp.sslice.rep w S [.slice a1 x1.length c1] x1) : funSp.rep w S [.int .i64 x0, .slice a1 x1.length c1] ((x0, x1)) :=
  ⟨[_], _, (fun _ => False), S, rfl, fun b h => h.elim, fun b h => h, fun b h => h.elim, ⟨rfl, h0⟩, h1⟩
theorem funp_shutv {w : World} {S : Nat → Prop} {x0 : Int} {x1 : List op.OpD} {v1 : Value} (h0 : -9223372036854775808 ≤ x0 ∧ x0 ≤ 9223372036854775807) (h1 : op.opSp.sslice.rep w S [v1] x1) : funSp.rep w S [.int .i64 x0, v1] ((x0, x1)) :=
  ⟨[_], _, (fun _ => False), S, rfl, fun b h => h.elim, fun b h => h, fun b h => h.elim, ⟨rfl, h0⟩, h1⟩
theorem funp_open {w : World} {S : Nat → Prop} {cs : List Value} {T : FunD} (h : funSp.rep w S cs T) : ∃ x0 x1 a1 c1, T = (x0, x1) ∧ cs = [.int .i64 x0, .slice a1 x1.length c1] ∧ (-9223372036854775808 ≤ x0 ∧ x0 ≤ 9223372036854775807) ∧ op.opSp.sslice.rep w S [.slice a1 x1.length c1] x1 := by
  obtain ⟨x0, x1⟩ := T
  obtain ⟨_, _, A0, B0, rfl, ua0, ub0, ue0, ⟨rfl, h0⟩, h1⟩ := h
  obtain ⟨a1, c1, rfl⟩ := sslice_cells h1
  exact ⟨_, _, _, _, rfl, rfl, h0, op.opSp.sslice.mono h1 fun b g => ub0 b (g)⟩
theorem funps_open {w : World} {S : Nat → Prop} {v : Value} {ks : List FunD} (h : funSp.sslice.rep w S [v] ks) : ∃ a cap css F, v = .slice a ks.length cap ∧ ks.length ≤ cap ∧ cap ≤ maxLen ∧ (a = none → cap = 0) ∧ SRow funSp w S a css F ks := by
  obtain ⟨a, cap, css, F, e, h1, h2, h3, h4⟩ := h
  exact ⟨a, cap, css, F, by simpa using e, h1, h2, h3, h4⟩

end Go.Proofs.YtjoaiaeohlhbkaaDoor.fun
