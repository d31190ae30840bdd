/-
  The law's type Fun as it lies in memory.
-/
import Derived.Test.YtjoaiaeohlhbkaaDoorChecked
import Derived.Test.YtjoaiaeohlhbkaaDoorRose
import Derived.Test.YtjoaiaeohlhbkaaDoorOpSh
import Derived.WalkKit
import Derived.WalkLawsBesides
import Derived.Deep.QuietTactic
import Derived.BigQuiet
namespace Go.Proofs.YtjoaiaeohlhbkaaDoor.fun
open Go.RowKit Go.Proofs.YtjoaiaeohlhbkaaDoor.rose Go.Proofs.YtjoaiaeohlhbkaaDoor
set_option linter.unusedVariables false

abbrev FunD := Int × List op.OpD
abbrev funSh : Sh FunD := Sh.int.pair op.opSh.slice

theorem fun_open {w : World} {S : Nat → Prop} {cs : List Value} {T : FunD} (h : funSh.rep w S cs T) : ∃ x0 x1 a1 c1, T = (x0, x1) ∧ cs = [.int .i64 x0, .slice a1 x1.length c1] ∧ (-9223372036854775808 ≤ x0 ∧ x0 ≤ 9223372036854775807) ∧ op.opSh.slice.rep w S [.slice a1 x1.length c1] x1 := by
  obtain ⟨x0, x1⟩ := T
  obtain ⟨_, _, rfl, ⟨rfl, h0⟩, h1⟩ := h
  obtain ⟨a1, c1, rfl⟩ := slice_cells h1
  exact ⟨_, _, _, _, rfl, rfl, h0, h1⟩
theorem fun_list {w : World} {S : Nat → Prop} {cs : List Value} {T : FunD} (h : funSh.rep w S cs T) : ∃ v0 v1, cs = [v0, v1] := by
  obtain ⟨x0, x1, a1, c1, -, rfl, -⟩ := fun_open h
  exact ⟨_, _, rfl⟩
theorem fun_shut {w : World} {S : Nat → Prop} {x0 : Int} {x1 : List op.OpD} {a1 : Option Addr} {c1 : Nat} (h0 : -9223372036854775808 ≤ x0 ∧ x0 ≤ 9223372036854775807) (h1 : op.opSh.slice.rep w S [.slice a1 x1.length c1] x1) : funSh.rep w S [.int .i64 x0, .slice a1 x1.length c1] ((x0, x1)) :=
  ⟨[_], _, rfl, ⟨rfl, h0⟩, h1⟩

theorem funs_open {w : World} {S : Nat → Prop} {v : Value} {ks : List FunD} (h : funSh.slice.rep w S [v] ks) : ∃ a cap css, v = .slice a ks.length cap ∧ ks.length ≤ cap ∧ cap ≤ maxLen ∧ RowAt w S 2 a ks.length css ∧ ∀ i (h : i < ks.length), funSh.rep w S (css i) ks[i] := by
  obtain ⟨a, cap, css, e, h1, h2, -, h3, h4⟩ := h
  exact ⟨a, cap, css, by simpa using e, h1, h2, h3, h4⟩

theorem fun_cells {w : World} {S : Nat → Prop} {b o i : Nat} {cs : List Value} {T : FunD} (h : funSh.rep w S cs T) (hc : CellsAt w b (o + i * 2) cs) :
    ∃ v0 v1, cs = [v0, v1] ∧ w.cell? ⟨b, o + i * 2, none⟩ = some v0 ∧ w.cell? ⟨b, o + i * 2 + 1, none⟩ = some v1 := by
  obtain ⟨v0, v1, rfl⟩ := fun_list h
  exact ⟨_, _, rfl, hc 0 _ rfl, hc 1 _ rfl⟩

end Go.Proofs.YtjoaiaeohlhbkaaDoor.fun
