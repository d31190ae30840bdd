/-
  A Bind that came in as an argument lies in memory as its cells.
-/
import Derived.Test.YtfekbchmgnpkaaaBindSz
import Derived.Test.YtfekbchmgnpkaaaTyArg
import Derived.ProofKit
import Derived.OpenShut
namespace Go.Proofs.Ytfekbchmgnpkaaa.bind
open Go.RowKit Go.ChangeShapes Go.WideShapes Go.Proofs.Ytfekbchmgnpkaaa.rose Go.Proofs.Ytfekbchmgnpkaaa
set_option linter.unusedVariables false
set_option maxRecDepth 100000

section
variable {H : Type} {enc : TypeId × Value → H} {w : World} {spare : Nat → Bool} {held : Bool}

theorem cells_bind : Try.prog.cellsOf 65 = 5 := by kernel_rfl

theorem opens_bind (n : Nat) : OpensAt enc Try.prog w spare held n bindSh 65 := by
  intro fuel cs x hf h
  obtain ⟨xs, m, rfl, -, hl, hlen, hfl⟩ := DataW.trod_struct Try.underlying65 h
  rw [cells_bind] at hl
  have hlen5 : xs.length = 2 := hlen
  match cs, hl with
  | [c0, c1, c2, c3, c4], _ =>
    match xs, hlen5 with
    | [y0, y1], _ =>
      have f0 := hfl 0 _ rfl
      have f1 := hfl 1 _ rfl
      simp only [List.getElem?_cons_zero, List.getElem?_cons_succ] at f0 f1
      obtain ⟨p0, h0⟩ := opens_int (w := w) Try.underlying3 n m _ _ (by omega) f0
      obtain ⟨p1, h1⟩ := ty.opens_ty (w := w) n m _ _ (by omega) f1
      exact ⟨(p0, p1), [c0], _, rfl, h0, h1⟩
theorem opens_binds (n : Nat) : OpensAt enc Try.prog w spare held n bindSh.slice 34 := fun fuel cs x hf h => opens_slice (n := n) Try.underlying34 cells_bind (by decide) (opens_bind n) fuel cs x (by omega) h

/-- THE ARGUMENT. -/
theorem arg_bind {v : Value} {d : DataW H} {ps : List MemPlace} {r : Reach} {b : Nat} (hval : Value.okWide Try.prog w r b 65 v) (h : DataW.Trod enc Try.prog w 0 spare held 65 v d ps) : ∃ cs T, v = .agg cs.toArray ∧ bindSh.rep w (· < w.heap.size) cs T := by
  obtain ⟨cs, rfl, _⟩ := okWide_struct Try.underlying65 hval
  obtain ⟨fuel, hf⟩ := h
  obtain ⟨T, hT⟩ := opens_bind (enc := enc) (w := w) (spare := spare) (held := held) fuel fuel _ _ (Nat.le_refl _) hf
  exact ⟨cs.toList, T, by simp, hT⟩
end

end Go.Proofs.Ytfekbchmgnpkaaa.bind
