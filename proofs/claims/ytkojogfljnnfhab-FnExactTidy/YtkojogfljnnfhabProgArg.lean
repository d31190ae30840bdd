/-
  A Prog that came in as an argument lies in memory as its cells.
-/
import Derived.Test.YtkojogfljnnfhabProgSz
import Derived.Test.YtkojogfljnnfhabDataArg
import Derived.Test.YtkojogfljnnfhabNodeArg
import Derived.ProofKit
import Derived.OpenShut
namespace Go.Proofs.Ytkojogfljnnfhab.prog
open Go.RowKit Go.ChangeShapes Go.WideShapes Go.Proofs.Ytkojogfljnnfhab.rose Go.Proofs.Ytkojogfljnnfhab
set_option linter.unusedVariables false
set_option maxRecDepth 100000

section
variable {H : Type} {enc : TypeId × Value → H} {w : World} {spare : Nat → Bool} {held : Bool}

theorem cells_prog : Try.prog.cellsOf 27 = 6 := by kernel_rfl

theorem opens_prog (n : Nat) : OpensAt enc Try.prog w spare held n progSh 27 := by
  intro fuel cs x hf h
  obtain ⟨xs, m, rfl, -, hl, hlen, hfl⟩ := DataW.trod_struct Try.underlying27 h
  rw [cells_prog] at hl
  have hlen5 : xs.length = 2 := hlen
  match cs, hl with
  | [c0, c1, c2, c3, c4, c5], _ =>
    match xs, hlen5 with
    | [y0, y1], _ =>
      have f0 := hfl 0 _ rfl
      have f1 := hfl 1 _ rfl
      simp only [List.getElem?_cons_zero, List.getElem?_cons_succ] at f0 f1
      obtain ⟨p0, h0⟩ := data.opens_datas (w := w) n m _ _ (by omega) f0
      obtain ⟨p1, h1⟩ := node.opens_nd (w := w) n m _ _ (by omega) f1
      exact ⟨(p0, p1), [c0], _, rfl, h0, h1⟩

/-- THE ARGUMENT. -/
theorem arg_prog {v : Value} {d : DataW H} {ps : List MemPlace} {r : Reach} {b : Nat} (hval : Value.okWide Try.prog w r b 27 v) (h : DataW.Trod enc Try.prog w 0 spare held 27 v d ps) : ∃ cs T, v = .agg cs.toArray ∧ progSh.rep w (· < w.heap.size) cs T := by
  obtain ⟨cs, rfl, _⟩ := okWide_struct Try.underlying27 hval
  obtain ⟨fuel, hf⟩ := h
  obtain ⟨T, hT⟩ := opens_prog (enc := enc) (w := w) (spare := spare) (held := held) fuel fuel _ _ (Nat.le_refl _) hf
  exact ⟨cs.toList, T, by simp, hT⟩
end

end Go.Proofs.Ytkojogfljnnfhab.prog
