/-
  A Heap that came in as an argument lies in memory as its cells.
-/
import Derived.Test.YtempmfpnngbbeabHeapSh
import Derived.Test.YtempmfpnngbbeabIntsArg
import Derived.ProofKit
import Derived.OpenShut
namespace Go.Proofs.Ytempmfpnngbbeab.heap
open Go.RowKit Go.ChangeShapes Go.WideShapes Go.Proofs.Ytempmfpnngbbeab.rose Go.Proofs.Ytempmfpnngbbeab
set_option linter.unusedVariables false
set_option maxRecDepth 100000

section
variable {H : Type} {enc : TypeId × Value → H} {w : World} {spare : Nat → Bool} {held : Bool}

theorem cells_heap : Try.prog.cellsOf 24 = 4 := by kernel_rfl

theorem opens_heap (n : Nat) : OpensAt enc Try.prog w spare held n heapSh 24 := by
  intro fuel cs x hf h
  obtain ⟨xs, m, rfl, -, hl, hlen, hfl⟩ := DataW.trod_struct Try.underlying24 h
  rw [cells_heap] at hl
  have hlen5 : xs.length = 4 := hlen
  match cs, hl with
  | [c0, c1, c2, c3], _ =>
    match xs, hlen5 with
    | [y0, y1, y2, y3], _ =>
      have f0 := hfl 0 _ rfl
      have f1 := hfl 1 _ rfl
      have f2 := hfl 2 _ rfl
      have f3 := hfl 3 _ rfl
      simp only [List.getElem?_cons_zero, List.getElem?_cons_succ] at f0 f1 f2 f3
      obtain ⟨p0, h0⟩ := opens_ints (w := w) n m _ _ (by omega) f0
      obtain ⟨p1, h1⟩ := opens_int (w := w) Try.underlying3 n m _ _ (by omega) f1
      obtain ⟨p2, h2⟩ := opens_int (w := w) Try.underlying3 n m _ _ (by omega) f2
      obtain ⟨p3, h3⟩ := opens_int (w := w) Try.underlying3 n m _ _ (by omega) f3
      exact ⟨(p0, p1, p2, p3), [c0], _, rfl, h0, [c1], _, rfl, h1, [c2], _, rfl, h2, h3⟩

/-- THE ARGUMENT. -/
theorem arg_heap {v : Value} {d : DataW H} {ps : List MemPlace} {r : Reach} {b : Nat} (hval : Value.okWide Try.prog w r b 24 v) (h : DataW.Trod enc Try.prog w 0 spare held 24 v d ps) : ∃ cs T, v = .agg cs.toArray ∧ heapSh.rep w (· < w.heap.size) cs T := by
  obtain ⟨cs, rfl, _⟩ := okWide_struct Try.underlying24 hval
  obtain ⟨fuel, hf⟩ := h
  obtain ⟨T, hT⟩ := opens_heap (enc := enc) (w := w) (spare := spare) (held := held) fuel fuel _ _ (Nat.le_refl _) hf
  exact ⟨cs.toList, T, by simp, hT⟩
end

end Go.Proofs.Ytempmfpnngbbeab.heap
