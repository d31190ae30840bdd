/-
  A Data that came in as an argument lies in memory as its cells.
-/
import Derived.Test.YtogjpdhhidkljaaDataSz
import Derived.Test.YtogjpdhhidkljaaConArg
import Derived.ProofKit
import Derived.OpenShut
namespace Go.Proofs.Ytogjpdhhidkljaa.data
open Go.RowKit Go.ChangeShapes Go.WideShapes Go.Proofs.Ytogjpdhhidkljaa.rose Go.Proofs.Ytogjpdhhidkljaa
set_option linter.unusedVariables false
set_option maxRecDepth 100000

section
variable {H : Type} {enc : TypeId × Value → H} {w : World} {spare : Nat → Bool} {held : Bool}

theorem cells_data : Try.prog.cellsOf 60 = 3 := by kernel_rfl

theorem opens_data (n : Nat) : OpensAt enc Try.prog w spare held n dataSh 60 := by
  intro fuel cs x hf h
  obtain ⟨xs, m, rfl, -, hl, hlen, hfl⟩ := DataW.trod_struct Try.underlying60 h
  rw [cells_data] at hl
  have hlen5 : xs.length = 3 := hlen
  match cs, hl with
  | [c0, c1, c2], _ =>
    match xs, hlen5 with
    | [y0, y1, y2], _ =>
      have f0 := hfl 0 _ rfl
      have f1 := hfl 1 _ rfl
      have f2 := hfl 2 _ rfl
      simp only [List.getElem?_cons_zero, List.getElem?_cons_succ] at f0 f1 f2
      obtain ⟨p0, h0⟩ := opens_str (w := w) Try.underlying9 n m _ _ (by omega) f0
      obtain ⟨p1, h1⟩ := opens_int (w := w) Try.underlying3 n m _ _ (by omega) f1
      obtain ⟨p2, h2⟩ := con.opens_cons (w := w) n m _ _ (by omega) f2
      exact ⟨(p0, p1, p2), [c0], _, rfl, h0, [c1], _, rfl, h1, h2⟩
theorem opens_datas (n : Nat) : OpensAt enc Try.prog w spare held n dataSh.slice 42 := fun fuel cs x hf h => opens_slice (n := n) Try.underlying42 cells_data (by decide) (opens_data n) fuel cs x (by omega) h

/-- THE ARGUMENT. -/
theorem arg_data {v : Value} {d : DataW H} {ps : List MemPlace} {r : Reach} {b : Nat} (hval : Value.okWide Try.prog w r b 60 v) (h : DataW.Trod enc Try.prog w 0 spare held 60 v d ps) : ∃ cs T, v = .agg cs.toArray ∧ dataSh.rep w (· < w.heap.size) cs T := by
  obtain ⟨cs, rfl, _⟩ := okWide_struct Try.underlying60 hval
  obtain ⟨fuel, hf⟩ := h
  obtain ⟨T, hT⟩ := opens_data (enc := enc) (w := w) (spare := spare) (held := held) fuel fuel _ _ (Nat.le_refl _) hf
  exact ⟨cs.toList, T, by simp, hT⟩
end

end Go.Proofs.Ytogjpdhhidkljaa.data
