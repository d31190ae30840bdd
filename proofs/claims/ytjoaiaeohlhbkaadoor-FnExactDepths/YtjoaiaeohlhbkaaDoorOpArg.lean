/-
  A Op that came in as an argument lies in memory as its cells.
-/
import Derived.Test.YtjoaiaeohlhbkaaDoorOpSz
import Derived.ProofKit
import Derived.OpenShut
namespace Go.Proofs.YtjoaiaeohlhbkaaDoor.op
open Go.RowKit Go.ChangeShapes Go.WideShapes Go.Proofs.YtjoaiaeohlhbkaaDoor.rose Go.Proofs.YtjoaiaeohlhbkaaDoor
set_option linter.unusedVariables false
set_option maxRecDepth 100000

section
variable {H : Type} {enc : TypeId × Value → H} {w : World} {spare : Nat → Bool} {held : Bool}

theorem cells_op : Tryd.prog.cellsOf 70 = 3 := by kernel_rfl

theorem opens_op (n : Nat) : OpensAt enc Tryd.prog w spare held n opSh 70 := by
  intro fuel cs x hf h
  obtain ⟨xs, m, rfl, -, hl, hlen, hfl⟩ := DataW.trod_struct Tryd.underlying70 h
  rw [cells_op] at hl
  have hlen5 : xs.length = 3 := hlen
  match cs, hl with
  | [c0, c1, c2], _ =>
    match xs, hlen5 with
    | [y0, y1, y2], _ =>
      have f0 := hfl 0 _ rfl
      have f1 := hfl 1 _ rfl
      have f2 := hfl 2 _ rfl
      simp only [List.getElem?_cons_zero, List.getElem?_cons_succ] at f0 f1 f2
      obtain ⟨p0, h0⟩ := opens_int (w := w) Tryd.underlying3 n m _ _ (by omega) f0
      obtain ⟨p1, h1⟩ := opens_int (w := w) Tryd.underlying3 n m _ _ (by omega) f1
      obtain ⟨p2, h2⟩ := opens_int (w := w) Tryd.underlying3 n m _ _ (by omega) f2
      exact ⟨(p0, p1, p2), [c0], _, rfl, h0, [c1], _, rfl, h1, h2⟩
theorem opens_ops (n : Nat) : OpensAt enc Tryd.prog w spare held n opSh.slice 35 := fun fuel cs x hf h => opens_slice (n := n) Tryd.underlying35 cells_op (by decide) (opens_op n) fuel cs x (by omega) h

/-- THE ARGUMENT. -/
theorem arg_op {v : Value} {d : DataW H} {ps : List MemPlace} {r : Reach} {b : Nat} (hval : Value.okWide Tryd.prog w r b 70 v) (h : DataW.Trod enc Tryd.prog w 0 spare held 70 v d ps) : ∃ cs T, v = .agg cs.toArray ∧ opSh.rep w (· < w.heap.size) cs T := by
  obtain ⟨cs, rfl, _⟩ := okWide_struct Tryd.underlying70 hval
  obtain ⟨fuel, hf⟩ := h
  obtain ⟨T, hT⟩ := opens_op (enc := enc) (w := w) (spare := spare) (held := held) fuel fuel _ _ (Nat.le_refl _) hf
  exact ⟨cs.toList, T, by simp, hT⟩
end

end Go.Proofs.YtjoaiaeohlhbkaaDoor.op
