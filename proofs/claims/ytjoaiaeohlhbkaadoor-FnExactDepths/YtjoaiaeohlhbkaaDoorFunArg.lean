/-
  A Fun that came in as an argument lies in memory as its cells.
-/
import Derived.Test.YtjoaiaeohlhbkaaDoorFunSz
import Derived.Test.YtjoaiaeohlhbkaaDoorOpArg
import Derived.ProofKit
import Derived.OpenShut
namespace Go.Proofs.YtjoaiaeohlhbkaaDoor.fun
open Go.RowKit Go.ChangeShapes Go.WideShapes Go.Proofs.YtjoaiaeohlhbkaaDoor.rose Go.Proofs.YtjoaiaeohlhbkaaDoor
set_option linter.unusedVariables false
set_option maxRecDepth 100000

section
variable {H : Type} {enc : TypeId × Value → H} {w : World} {spare : Nat → Bool} {held : Bool}

theorem cells_fun : Tryd.prog.cellsOf 37 = 2 := by kernel_rfl

theorem opens_fun (n : Nat) : OpensAt enc Tryd.prog w spare held n funSh 37 := by
  intro fuel cs x hf h
  obtain ⟨xs, m, rfl, -, hl, hlen, hfl⟩ := DataW.trod_struct Tryd.underlying37 h
  rw [cells_fun] at hl
  have hlen5 : xs.length = 2 := hlen
  match cs, hl with
  | [c0, c1], _ =>
    match xs, hlen5 with
    | [y0, y1], _ =>
      have f0 := hfl 0 _ rfl
      have f1 := hfl 1 _ rfl
      simp only [List.getElem?_cons_zero, List.getElem?_cons_succ] at f0 f1
      obtain ⟨p0, h0⟩ := opens_int (w := w) Tryd.underlying3 n m _ _ (by omega) f0
      obtain ⟨p1, h1⟩ := op.opens_ops (w := w) n m _ _ (by omega) f1
      exact ⟨(p0, p1), [c0], _, rfl, h0, h1⟩
theorem opens_funs (n : Nat) : OpensAt enc Tryd.prog w spare held n funSh.slice 22 := fun fuel cs x hf h => opens_slice (n := n) Tryd.underlying22 cells_fun (by decide) (opens_fun n) fuel cs x (by omega) h

/-- THE ARGUMENT. -/
theorem arg_fun {v : Value} {d : DataW H} {ps : List MemPlace} {r : Reach} {b : Nat} (hval : Value.okWide Tryd.prog w r b 37 v) (h : DataW.Trod enc Tryd.prog w 0 spare held 37 v d ps) : ∃ cs T, v = .agg cs.toArray ∧ funSh.rep w (· < w.heap.size) cs T := by
  obtain ⟨cs, rfl, _⟩ := okWide_struct Tryd.underlying37 hval
  obtain ⟨fuel, hf⟩ := h
  obtain ⟨T, hT⟩ := opens_fun (enc := enc) (w := w) (spare := spare) (held := held) fuel fuel _ _ (Nat.le_refl _) hf
  exact ⟨cs.toList, T, by simp, hT⟩
end

end Go.Proofs.YtjoaiaeohlhbkaaDoor.fun
