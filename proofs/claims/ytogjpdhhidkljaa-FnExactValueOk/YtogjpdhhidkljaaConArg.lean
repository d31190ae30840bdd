/-
  A Con that came in as an argument lies in memory as its cells.
-/
import Derived.Test.YtogjpdhhidkljaaConSz
import Derived.Test.YtogjpdhhidkljaaTyArg
import Derived.ProofKit
import Derived.OpenShut
namespace Go.Proofs.Ytogjpdhhidkljaa.con
open Go.RowKit Go.ChangeShapes Go.WideShapes Go.Proofs.Ytogjpdhhidkljaa.rose Go.Proofs.Ytogjpdhhidkljaa
set_option linter.unusedVariables false
set_option maxRecDepth 100000

section
variable {H : Type} {enc : TypeId × Value → H} {w : World} {spare : Nat → Bool} {held : Bool}

theorem cells_con : Try.prog.cellsOf 109 = 2 := by kernel_rfl

theorem opens_con (n : Nat) : OpensAt enc Try.prog w spare held n conSh 109 := by
  intro fuel cs x hf h
  obtain ⟨xs, m, rfl, -, hl, hlen, hfl⟩ := DataW.trod_struct Try.underlying109 h
  rw [cells_con] at hl
  have hlen5 : xs.length = 2 := hlen
  match cs, hl with
  | [c0, c1], _ =>
    match xs, hlen5 with
    | [y0, y1], _ =>
      have f0 := hfl 0 _ rfl
      have f1 := hfl 1 _ rfl
      simp only [List.getElem?_cons_zero, List.getElem?_cons_succ] at f0 f1
      obtain ⟨p0, h0⟩ := opens_str (w := w) Try.underlying9 n m _ _ (by omega) f0
      obtain ⟨p1, h1⟩ := ty.opens_tys (w := w) n m _ _ (by omega) f1
      exact ⟨(p0, p1), [c0], _, rfl, h0, h1⟩
theorem opens_cons (n : Nat) : OpensAt enc Try.prog w spare held n conSh.slice 58 := fun fuel cs x hf h => opens_slice (n := n) Try.underlying58 cells_con (by decide) (opens_con n) fuel cs x (by omega) h

/-- THE ARGUMENT. -/
theorem arg_con {v : Value} {d : DataW H} {ps : List MemPlace} {r : Reach} {b : Nat} (hval : Value.okWide Try.prog w r b 109 v) (h : DataW.Trod enc Try.prog w 0 spare held 109 v d ps) : ∃ cs T, v = .agg cs.toArray ∧ conSh.rep w (· < w.heap.size) cs T := by
  obtain ⟨cs, rfl, _⟩ := okWide_struct Try.underlying109 hval
  obtain ⟨fuel, hf⟩ := h
  obtain ⟨T, hT⟩ := opens_con (enc := enc) (w := w) (spare := spare) (held := held) fuel fuel _ _ (Nat.le_refl _) hf
  exact ⟨cs.toList, T, by simp, hT⟩
end

end Go.Proofs.Ytogjpdhhidkljaa.con
