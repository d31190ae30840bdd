/-
  A Ir that came in as an argument lies in memory as its cells.
-/
import Derived.Test.YtndlhmpglpehcaaIrSz
import Derived.ProofKit
import Derived.OpenShut
namespace Go.Proofs.Ytndlhmpglpehcaa.ir
open Go.RowKit Go.ChangeShapes Go.WideShapes Go.Proofs.Ytndlhmpglpehcaa.rose Go.Proofs.Ytndlhmpglpehcaa
set_option linter.unusedVariables false
set_option maxRecDepth 100000

section
variable {H : Type} {enc : TypeId × Value → H} {w : World} {spare : Nat → Bool} {held : Bool}

theorem cells_ir : Try.prog.cellsOf 24 = 3 := by kernel_rfl

theorem opens2_ir (n : Nat) : OpensAt enc Try.prog w spare held n irSh 24 ∧ OpensAt enc Try.prog w spare held n irSh.slice 22 := by
  refine opens_rose (A := paySh) (s := 22) (t := 24) Try.underlying22 cells_ir ?_ n
  intro n hs fuel cs x hf h
  obtain ⟨xs, m, rfl, -, hl, hlen, hfl⟩ := DataW.trod_struct Try.underlying24 h
  rw [cells_ir] at hl
  have hlen5 : xs.length = 3 := hlen
  match cs, hl with
  | [c0, c1, c2], _ =>
    match xs, hlen5 with
    | [y0, y1, y2], _ =>
      have f0 := hfl 0 _ rfl
      have f1 := hfl 1 _ rfl
      have f2 := hfl 2 _ rfl
      simp only [List.getElem?_cons_zero, List.getElem?_cons_succ] at f0 f1 f2
      obtain ⟨p0, h0⟩ := opens_int (w := w) Try.underlying3 n m _ _ (by omega) f0
      obtain ⟨p1, h1⟩ := opens_int (w := w) Try.underlying3 n m _ _ (by omega) f1
      obtain ⟨p2, h2⟩ := hs m _ _ (by omega) f2
      exact ⟨.mk (p0, p1) p2, rose_iff.2 ⟨[c0, c1], [c2], rfl, ⟨[c0], _, rfl, h0, h1⟩, h2⟩⟩
theorem opens_ir (n : Nat) : OpensAt enc Try.prog w spare held n irSh 24 := (opens2_ir n).1
theorem opens_irs (n : Nat) : OpensAt enc Try.prog w spare held n irSh.slice 22 := (opens2_ir n).2

/-- THE ARGUMENT. -/
theorem arg_ir {v : Value} {d : DataW H} {ps : List MemPlace} {r : Reach} {b : Nat} (hval : Value.okWide Try.prog w r b 24 v) (h : DataW.Trod enc Try.prog w 0 spare held 24 v d ps) : ∃ cs T, v = .agg cs.toArray ∧ irSh.rep w (· < w.heap.size) cs T := by
  obtain ⟨cs, rfl, _⟩ := okWide_struct Try.underlying24 hval
  obtain ⟨fuel, hf⟩ := h
  obtain ⟨T, hT⟩ := opens_ir (enc := enc) (w := w) (spare := spare) (held := held) fuel fuel _ _ (Nat.le_refl _) hf
  exact ⟨cs.toList, T, by simp, hT⟩
end

end Go.Proofs.Ytndlhmpglpehcaa.ir
