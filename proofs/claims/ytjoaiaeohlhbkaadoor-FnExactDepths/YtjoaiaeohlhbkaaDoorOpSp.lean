/-
  An Op that lies in memory apart: it holds no memory; a slice of them is one block.
-/
import Derived.Test.YtjoaiaeohlhbkaaDoorOpSh
import Derived.Test.YtjoaiaeohlhbkaaDoorSep
namespace Go.Proofs.YtjoaiaeohlhbkaaDoor.op
open Go.RowKit Go.Proofs.YtjoaiaeohlhbkaaDoor.rose Go.Proofs.YtjoaiaeohlhbkaaDoor
set_option linter.unusedVariables false

abbrev opSp : Sh OpD := opSh
theorem opp_rep {w : World} {S : Nat → Prop} {cs : List Value} {T : OpD} (h : opSp.rep w S cs T) : opSh.rep w S cs T := h
theorem opps_rep {w : World} {S : Nat → Prop} {cs : List Value} {ks : List OpD} (h : opSp.sslice.rep w S cs ks) : opSh.slice.rep w S cs ks := sslice_rep (A := opSp) (B := opSh) rfl (fun h => h) h
theorem opp_shut {w : World} {S : Nat → Prop} {x0 : Int} {x1 : Int} {x2 : Int} (h0 : -9223372036854775808 ≤ x0 ∧ x0 ≤ 9223372036854775807) (h1 : -9223372036854775808 ≤ x1 ∧ x1 ≤ 9223372036854775807) (h2 : -9223372036854775808 ≤ x2 ∧ x2 ≤ 9223372036854775807) : opSp.rep w S [.int .i64 x0, .int .i64 x1, .int .i64 x2] ((x0, x1, x2)) := op_shut h0 h1 h2
theorem opp_shutv {w : World} {S : Nat → Prop} {x0 : Int} {x1 : Int} {x2 : Int} (h0 : -9223372036854775808 ≤ x0 ∧ x0 ≤ 9223372036854775807) (h1 : -9223372036854775808 ≤ x1 ∧ x1 ≤ 9223372036854775807) (h2 : -9223372036854775808 ≤ x2 ∧ x2 ≤ 9223372036854775807) : opSp.rep w S [.int .i64 x0, .int .i64 x1, .int .i64 x2] ((x0, x1, x2)) := op_shut h0 h1 h2
theorem opp_open {w : World} {S : Nat → Prop} {cs : List Value} {T : OpD} (h : opSp.rep w S cs T) : ∃ x0 x1 x2, T = (x0, x1, x2) ∧ cs = [.int .i64 x0, .int .i64 x1, .int .i64 x2] ∧ (-9223372036854775808 ≤ x0 ∧ x0 ≤ 9223372036854775807) ∧ (-9223372036854775808 ≤ x1 ∧ x1 ≤ 9223372036854775807) ∧ (-9223372036854775808 ≤ x2 ∧ x2 ≤ 9223372036854775807) := op_open h
theorem opps_open {w : World} {S : Nat → Prop} {v : Value} {ks : List OpD} (h : opSp.sslice.rep w S [v] ks) : ∃ a cap css F, v = .slice a ks.length cap ∧ ks.length ≤ cap ∧ cap ≤ maxLen ∧ (a = none → cap = 0) ∧ SRow opSp w S a css F ks := by
  obtain ⟨a, cap, css, F, e, h1, h2, h3, h4⟩ := h
  exact ⟨a, cap, css, F, by simpa using e, h1, h2, h3, h4⟩

end Go.Proofs.YtjoaiaeohlhbkaaDoor.op
