/-
  A Typed that came in as an argument lies in memory as its cells.
-/
import Derived.Test.YtklcjjckelahcaaTypedSz
import Derived.Test.YtklcjjckelahcaaTyArg
import Derived.Test.YtklcjjckelahcaaIntsArg
import Derived.ProofKit
import Derived.OpenShut
namespace Go.Proofs.Ytklcjjckelahcaa.typed
open Go.RowKit Go.ChangeShapes Go.WideShapes Go.Proofs.Ytklcjjckelahcaa.rose Go.Proofs.Ytklcjjckelahcaa
set_option linter.unusedVariables false
set_option maxRecDepth 100000

section
variable {H : Type} {enc : TypeId × Value → H} {w : World} {spare : Nat → Bool} {held : Bool}

theorem cells_typed : Try.prog.cellsOf 28 = 11 := by kernel_rfl

theorem opens2_typed (n : Nat) : OpensAt enc Try.prog w spare held n typedSh 28 ∧ OpensAt enc Try.prog w spare held n typedSh.slice 26 := by
  refine opens_rose (A := paySh) (s := 26) (t := 28) Try.underlying26 cells_typed ?_ n
  intro n hs fuel cs x hf h
  obtain ⟨xs, m, rfl, -, hl, hlen, hfl⟩ := DataW.trod_struct Try.underlying28 h
  rw [cells_typed] at hl
  have hlen5 : xs.length = 8 := hlen
  match cs, hl with
  | [c0, c1, c2, c3, c4, c5, c6, c7, c8, c9, c10], _ =>
    match xs, hlen5 with
    | [y0, y1, y2, y3, y4, y5, y6, y7], _ =>
      have f0 := hfl 0 _ rfl
      have f1 := hfl 1 _ rfl
      have f2 := hfl 2 _ rfl
      have f3 := hfl 3 _ rfl
      have f4 := hfl 4 _ rfl
      have f5 := hfl 5 _ rfl
      have f6 := hfl 6 _ rfl
      have f7 := hfl 7 _ rfl
      simp only [List.getElem?_cons_zero, List.getElem?_cons_succ] at f0 f1 f2 f3 f4 f5 f6 f7
      obtain ⟨p0, h0⟩ := opens_int (w := w) Try.underlying3 n m _ _ (by omega) f0
      obtain ⟨p1, h1⟩ := opens_int (w := w) Try.underlying3 n m _ _ (by omega) f1
      obtain ⟨p2, h2⟩ := opens_str (w := w) Try.underlying9 n m _ _ (by omega) f2
      obtain ⟨p3, h3⟩ := opens_str (w := w) Try.underlying9 n m _ _ (by omega) f3
      obtain ⟨p4, h4⟩ := ty.opens_ty (w := w) n m _ _ (by omega) f4
      obtain ⟨p5, h5⟩ := ty.opens_tys (w := w) n m _ _ (by omega) f5
      obtain ⟨p6, h6⟩ := opens_ints (w := w) n m _ _ (by omega) f6
      obtain ⟨p7, h7⟩ := hs m _ _ (by omega) f7
      exact ⟨.mk (p0, p1, p2, p3, p4, p5, p6) p7, rose_iff.2 ⟨[c0, c1, c2, c3, c4, c5, c6, c7, c8, c9], [c10], rfl, ⟨[c0], _, rfl, h0, [c1], _, rfl, h1, [c2], _, rfl, h2, [c3], _, rfl, h3, [c4, c5, c6, c7], _, rfl, h4, [c8], _, rfl, h5, h6⟩, h7⟩⟩
theorem opens_typed (n : Nat) : OpensAt enc Try.prog w spare held n typedSh 28 := (opens2_typed n).1
theorem opens_typeds (n : Nat) : OpensAt enc Try.prog w spare held n typedSh.slice 26 := (opens2_typed n).2

/-- THE ARGUMENT. -/
theorem arg_typed {v : Value} {d : DataW H} {ps : List MemPlace} {r : Reach} {b : Nat} (hval : Value.okWide Try.prog w r b 28 v) (h : DataW.Trod enc Try.prog w 0 spare held 28 v d ps) : ∃ cs T, v = .agg cs.toArray ∧ typedSh.rep w (· < w.heap.size) cs T := by
  obtain ⟨cs, rfl, _⟩ := okWide_struct Try.underlying28 hval
  obtain ⟨fuel, hf⟩ := h
  obtain ⟨T, hT⟩ := opens_typed (enc := enc) (w := w) (spare := spare) (held := held) fuel fuel _ _ (Nat.le_refl _) hf
  exact ⟨cs.toList, T, by simp, hT⟩
end

end Go.Proofs.Ytklcjjckelahcaa.typed
