/-
  Cells that are written one by one: what is as it was. No program named.
-/
import Derived.Test.YtlfchmmkaflglaaDoorGrown
import Derived.Test.YtlfchmmkaflglaaDoorRowSet
namespace Go.Proofs.YtlfchmmkaflglaaDoor.rose
open Go Go.RowKit
set_option linter.unusedVariables false

/-- Nothing but the cells S is turned. -/
structure Wr (S : Nat → Nat → Prop) (w w' : World) : Prop where
  os : w'.os = w.os
  tape : w'.tape = w.tape
  output : w'.output = w.output
  size : w'.heap.size = w.heap.size
  block : ∀ k, (∀ o, ¬ S k o) → w'.heap[k]? = w.heap[k]?
  cells : ∀ (k : Nat) (cur : Array Value) (t : TypeId) (f : Nat × Nat), w.heap[k]? = some (.cells cur t f) → ∃ cur' : Array Value, w'.heap[k]? = some (.cells cur' t f) ∧ cur'.size = cur.size ∧ ∀ o, ¬ S k o → cur'[o]? = cur[o]?

theorem Wr.refl (S : Nat → Nat → Prop) (w : World) : Wr S w w := ⟨rfl, rfl, rfl, rfl, fun _ _ => rfl, fun k cur t f h => ⟨cur, h, rfl, fun _ _ => rfl⟩⟩
theorem Wr.trans {S : Nat → Nat → Prop} {w w1 w2 : World} (h : Wr S w w1) (h2 : Wr S w1 w2) : Wr S w w2 :=
  ⟨h2.os.trans h.os, h2.tape.trans h.tape, h2.output.trans h.output, h2.size.trans h.size, fun k hk => (h2.block k hk).trans (h.block k hk), fun k cur t f hc => by
    obtain ⟨c1, e1, s1, o1⟩ := h.cells k cur t f hc
    obtain ⟨c2, e2, s2, o2⟩ := h2.cells k c1 t f e1
    exact ⟨c2, e2, s2.trans s1, fun o ho => (o2 o ho).trans (o1 o ho)⟩⟩
theorem Wr.mono {S T : Nat → Nat → Prop} {w w' : World} (h : Wr S w w') (hs : ∀ k o, S k o → T k o) : Wr T w w' :=
  ⟨h.os, h.tape, h.output, h.size, fun k hk => h.block k fun o ho => hk o (hs k o ho), fun k cur t f hc => by
    obtain ⟨c1, e1, s1, o1⟩ := h.cells k cur t f hc
    exact ⟨c1, e1, s1, fun o ho => o1 o fun q => ho (hs k o q)⟩⟩
theorem Wr.set {S : Nat → Nat → Prop} (w : World) (g j : Nat) (u : Value) (hs : S g j) : Wr S w (w.setCell ⟨g, j, none⟩ u) := by
  refine ⟨rfl, rfl, rfl, by simp [World.setCell], fun k hk => ?_, fun k cur t f hc => ?_⟩
  · exact Below.heap_setCell _ _ _ _ fun e => hk j (by subst e; exact hs)
  · by_cases e : k = g
    · subst e
      refine ⟨cur.setIfInBounds j u, by simp [World.setCell, Array.getElem?_modify, hc], by simp, fun o ho => ?_⟩
      rw [Array.getElem?_setIfInBounds_ne]
      intro e
      subst e
      exact ho hs
    · exact ⟨cur, (Below.heap_setCell _ _ _ _ e).trans hc, rfl, fun _ _ => rfl⟩
theorem Wr.drew {S : Nat → Nat → Prop} {w w' : World} (h : Wr S w w') : Wr S w w'.drew := ⟨h.os, h.tape, h.output, h.size, h.block, h.cells⟩
theorem Wr.below {S : Nat → Nat → Prop} {w w' : World} {n : Nat} (h : Wr S w w') (hs : ∀ k o, S k o → n ≤ k) (hn : n ≤ w.heap.size) : Below n w w' :=
  ⟨h.os, h.tape, h.output, by have := h.size; omega, fun k hk => h.block k fun o ho => by have := hs k o ho; omega⟩

/-- A cell that may be written. -/
def Cell (w : World) (g o : Nat) (u : Value) : Prop := ∃ (cur : Array Value) (t : TypeId), w.heap[g]? = some (.cells cur t (0, 0)) ∧ cur[o]? = some u
theorem Cell.lt {w : World} {g o : Nat} {u : Value} (h : Cell w g o u) : g < w.heap.size := by obtain ⟨c, t, h, -⟩ := h; exact (Array.getElem?_eq_some_iff.1 h).1
theorem Cell.cell {w : World} {g o : Nat} {u : Value} (h : Cell w g o u) : w.cell? ⟨g, o, none⟩ = some u := by obtain ⟨c, t, h, h2⟩ := h; simp [World.cell?, h, h2]
theorem Cell.frz {w : World} {g o : Nat} {u : Value} (h : Cell w g o u) : w.frozen? ⟨g, o, none⟩ = false := by obtain ⟨c, t, h, h2⟩ := h; simp [World.frozen?, h]
theorem Cell.wr {S : Nat → Nat → Prop} {w w' : World} {g o : Nat} {u : Value} (h : Cell w g o u) (hw : Wr S w w') (hn : ¬ S g o) : Cell w' g o u := by
  obtain ⟨c, t, h, h2⟩ := h
  obtain ⟨c1, e1, s1, o1⟩ := hw.cells g c t _ h
  exact ⟨c1, t, e1, (o1 o hn).trans h2⟩
/-- It is there still, whatever it holds. -/
theorem Cell.stay {S : Nat → Nat → Prop} {w w' : World} {g o : Nat} {u : Value} (h : Cell w g o u) (hw : Wr S w w') : ∃ u', Cell w' g o u' := by
  obtain ⟨c, t, h, h2⟩ := h
  obtain ⟨c1, e1, s1, o1⟩ := hw.cells g c t _ h
  have : o < c1.size := by rw [s1]; exact (Array.getElem?_eq_some_iff.1 h2).1
  exact ⟨c1[o], c1, t, e1, Array.getElem?_eq_getElem this⟩
theorem Cell.set {w : World} {g o : Nat} {u : Value} (h : Cell w g o u) (x : Value) : Cell (w.setCell ⟨g, o, none⟩ x) g o x := by
  obtain ⟨c, t, h, h2⟩ := h
  refine ⟨c.setIfInBounds o x, t, by simp [World.setCell, Array.getElem?_modify, h], ?_⟩
  rw [Array.getElem?_setIfInBounds_self_of_lt (Array.getElem?_eq_some_iff.1 h2).1]
theorem Cell.other {w : World} {g o g' o' : Nat} {u : Value} (h : Cell w g o u) (x : Value) (hne : ¬ (g = g' ∧ o = o')) : Cell (w.setCell ⟨g', o', none⟩ x) g o u :=
  h.wr (Wr.set (S := fun k j => k = g' ∧ j = o') w g' o' x ⟨rfl, rfl⟩) hne
theorem Cell.same {w w' : World} {g o : Nat} {u : Value} (h : Cell w g o u) (e : w'.heap[g]? = w.heap[g]?) : Cell w' g o u := by
  obtain ⟨c, t, h, h2⟩ := h
  exact ⟨c, t, e.trans h, h2⟩
theorem Cell.on {w w' : World} {g o : Nat} {u : Value} (h : Cell w g o u) (hb : Below w.heap.size w w') : Cell w' g o u := h.same (hb.block g h.lt)
theorem Cell.new (w : World) (t : TypeId) (c : Array Value) (o : Nat) (u : Value) (h : c[o]? = some u) : Cell (w.alloc (.cells c t)) w.heap.size o u := ⟨c, t, alloc_top _ _, h⟩

end Go.Proofs.YtlfchmmkaflglaaDoor.rose
