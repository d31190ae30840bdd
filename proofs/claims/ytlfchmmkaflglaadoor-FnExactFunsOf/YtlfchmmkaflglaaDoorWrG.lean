/-
  Cells that are written one by one, while new memory is made; a row that is made at once and filled from the left. No program named.
-/
import Derived.Test.YtlfchmmkaflglaaDoorWr
import Derived.Laws.MakeOwn
namespace Go.Proofs.YtlfchmmkaflglaaDoor.rose
open Go Go.RowKit
set_option linter.unusedVariables false

/-- Of what was there nothing but the cells S is turned. -/
structure Wg (S : Nat → Nat → Prop) (w w' : World) : Prop where
  os : w'.os = w.os
  tape : w'.tape = w.tape
  output : w'.output = w.output
  size : w.heap.size ≤ w'.heap.size
  block : ∀ k, k < w.heap.size → (∀ o, ¬ S k o) → w'.heap[k]? = w.heap[k]?
  cells : ∀ (k : Nat) (cur : Array Value) (t : TypeId) (f : Nat × Nat), w.heap[k]? = some (.cells cur t f) → ∃ cur' : Array Value, w'.heap[k]? = some (.cells cur' t f) ∧ cur'.size = cur.size ∧ ∀ o, ¬ S k o → cur'[o]? = cur[o]?

theorem Wr.wg {S : Nat → Nat → Prop} {w w' : World} (h : Wr S w w') : Wg S w w' := ⟨h.os, h.tape, h.output, Nat.le_of_eq h.size.symm, fun k _ => h.block k, h.cells⟩
theorem Wg.refl (S : Nat → Nat → Prop) (w : World) : Wg S w w := (Wr.refl S w).wg
theorem Wg.trans {S T : Nat → Nat → Prop} {w w1 w2 : World} (h : Wg S w w1) (h2 : Wg T w1 w2) (hT : ∀ k o, k < w.heap.size → T k o → S k o) : Wg S w w2 :=
  ⟨h2.os.trans h.os, h2.tape.trans h.tape, h2.output.trans h.output, Nat.le_trans h.size h2.size, fun k hk hn => (h2.block k (Nat.lt_of_lt_of_le hk h.size) fun o ho => hn o (hT k o hk ho)).trans (h.block k hk hn), fun k cur t f hc => by
    obtain ⟨c1, e1, s1, o1⟩ := h.cells k cur t f hc
    obtain ⟨c2, e2, s2, o2⟩ := h2.cells k c1 t f e1
    have hk : k < w.heap.size := (Array.getElem?_eq_some_iff.1 hc).1
    exact ⟨c2, e2, s2.trans s1, fun o ho => (o2 o fun q => ho (hT k o hk q)).trans (o1 o ho)⟩⟩
theorem Wg.mono {S T : Nat → Nat → Prop} {w w' : World} (h : Wg S w w') (hs : ∀ k o, k < w.heap.size → S k o → T k o) : Wg T w w' := (Wg.refl T w).trans h hs
theorem Wg.ofBelow {S : Nat → Nat → Prop} {w w' : World} (h : Below w.heap.size w w') : Wg S w w' :=
  ⟨h.os, h.tape, h.output, h.size, fun k hk _ => h.block k hk, fun k cur t f hc => ⟨cur, (h.block k (Array.getElem?_eq_some_iff.1 hc).1).trans hc, rfl, fun _ _ => rfl⟩⟩
theorem Wg.alloc {S : Nat → Nat → Prop} {w w' : World} (h : Wg S w w') (X : Obj) : Wg S w (w'.alloc X) :=
  h.trans (T := S) (Wg.ofBelow ((Below.refl _ _).alloc (Nat.le_refl _) X)) fun _ _ _ q => q
theorem Wg.drew {S : Nat → Nat → Prop} {w w' : World} (h : Wg S w w') : Wg S w w'.drew := ⟨h.os, h.tape, h.output, h.size, h.block, h.cells⟩
/-- One more cell is written: one of S, or in a block that is new. -/
theorem Wg.set {S : Nat → Nat → Prop} {w w' : World} (h : Wg S w w') (g j : Nat) (u : Value) (hs : g < w.heap.size → S g j) : Wg S w (w'.setCell ⟨g, j, none⟩ u) :=
  h.trans (Wr.set (S := fun k o => k = g ∧ o = j) w' g j u ⟨rfl, rfl⟩).wg fun k o hk e => by obtain ⟨rfl, rfl⟩ := e; exact hs hk
theorem Wg.below {S : Nat → Nat → Prop} {w w' : World} {n : Nat} (h : Wg S w w') (hs : ∀ k o, k < w.heap.size → S k o → n ≤ k) (hn : n ≤ w.heap.size) : Below n w w' :=
  ⟨h.os, h.tape, h.output, by have := h.size; omega, fun k hk => h.block k (by omega) fun o ho => by have := hs k o (by omega) ho; omega⟩
theorem Cell.wg {S : Nat → Nat → Prop} {w w' : World} {g o : Nat} {u : Value} (h : Cell w g o u) (hw : Wg S w w') (hn : ¬ S g o) : Cell w' g o u := by
  obtain ⟨c, t, h, h2⟩ := h
  obtain ⟨c1, e1, s1, o1⟩ := hw.cells g c t _ h
  exact ⟨c1, t, e1, (o1 o hn).trans h2⟩
theorem Cell.stayg {S : Nat → Nat → Prop} {w w' : World} {g o : Nat} {u : Value} (h : Cell w g o u) (hw : Wg S w w') : ∃ u', Cell w' g o u' := by
  obtain ⟨c, t, h, h2⟩ := h
  obtain ⟨c1, e1, s1, o1⟩ := hw.cells g c t _ h
  have : o < c1.size := by rw [s1]; exact (Array.getElem?_eq_some_iff.1 h2).1
  exact ⟨c1[o], c1, t, e1, Array.getElem?_eq_getElem this⟩

/-- A row that was made at once holds one more. -/
theorem own_put {T : Nat → Nat → Prop} {w w' : World} {base : Nat} {t : TypeId} {sz g k cap : Nat} {xs cs : List Value} (h : w.ownsRow base t sz (.slice (some ⟨g, 0, none⟩) k cap) k xs) (hk : k < cap) (hcs : cs.length = sz) (hw : Wg T w w')
    (hT : ∀ o, T g o → k * sz ≤ o) (hc : ∀ j u, cs[j]? = some u → Cell w' g (k * sz + j) u) : w'.ownsRow base t sz (.slice (some ⟨g, 0, none⟩) (k + 1) cap) (k + 1) (xs ++ cs) := by
  obtain ⟨hl, hv⟩ := h
  refine ⟨by rw [List.length_append, hl, hcs, Nat.succ_mul], Or.inr ?_⟩
  rcases hv with ⟨h, _⟩ | ⟨g', c', cur, h1, h2, h3, h4, h5, h6, h7⟩
  · cases h
  · cases h1
    obtain ⟨c1, e1, s1, o1⟩ := hw.cells g cur t _ h3
    refine ⟨g, cap, c1, rfl, h2, e1, hk, h5, s1.trans h6, ?_⟩
    have hsz : (k + 1) * sz ≤ cap * sz := Nat.mul_le_mul_right _ hk
    rw [Nat.succ_mul] at hsz ⊢
    apply List.ext_getElem?
    intro j
    rw [List.getElem?_take]
    by_cases hj : j < k * sz
    · rw [if_pos (by omega), List.getElem?_append_left (by omega), ← h7, List.getElem?_take, if_pos hj, Array.getElem?_toList, Array.getElem?_toList]
      exact o1 j fun q => by have := hT j q; omega
    · rw [List.getElem?_append_right (by omega), hl]
      by_cases hj2 : j < k * sz + sz
      · rw [if_pos hj2]
        have hlt : j - k * sz < cs.length := by omega
        obtain ⟨c2, t2, e2, e3⟩ := hc (j - k * sz) _ (List.getElem?_eq_getElem hlt)
        rw [e1] at e2
        simp only [Option.some.injEq, Obj.cells.injEq] at e2
        obtain ⟨rfl, -, -⟩ := e2
        rw [List.getElem?_eq_getElem hlt, Array.getElem?_toList, ← e3]
        congr 1
        omega
      · rw [if_neg hj2, List.getElem?_eq_none (by omega)]
/-- It grows by one, in its place. -/
theorem Grown.put {α : Type} {A : Sh α} {T : Nat → Nat → Prop} {t : TypeId} {w w' : World} {base g cap : Nat} {xs : List α} {cs : List Value} {x : α} {lo hi : Nat} (h : Grown A t w base (.slice (some ⟨g, 0, none⟩) xs.length cap) xs) (hk : xs.length < cap) (hw : Wg T w w')
    (hT : ∀ o, T g o → xs.length * A.k ≤ o) (hO : ∀ b, base ≤ b → b < w.heap.size → b ≠ g → ∀ o, ¬ T b o) (hx : A.rep w' (fun b => lo ≤ b ∧ b < hi) cs x) (hc : ∀ j u, cs[j]? = some u → Cell w' g (xs.length * A.k + j) u) (h1 : w.heap.size ≤ lo) (h2 : hi ≤ w'.heap.size) :
    Grown A t w' base (.slice (some ⟨g, 0, none⟩) (xs ++ [x]).length cap) (xs ++ [x]) := by
  have hg := h.own (g := g) rfl
  obtain ⟨css, F, hr, hp, hf, ha⟩ := h
  refine ⟨fun i => if i < xs.length then css i else cs, fun i => if i < xs.length then F i else fun b => lo ≤ b ∧ b < hi, ?_, fun i hi => ?_, fun i hi b => ?_, fun i j hi hj hne b => ?_⟩
  · rw [List.length_append, List.length_singleton, flat_succ, if_neg (Nat.lt_irrefl _)]
    have : flat (fun i => if i < xs.length then css i else cs) xs.length = flat css xs.length := by
      unfold flat
      exact Go.Deep.flatMap_congr_range fun i hi => by simp [hi]
    rw [this]
    exact own_put hr hk (A.len hx) hw hT hc
  · rw [List.length_append, List.length_singleton] at hi
    by_cases hlt : i < xs.length
    · simp only [if_pos hlt]
      rw [List.getElem_append_left hlt]
      exact A.on (hp i hlt) fun b hS => hw.block b (hf i hlt b hS).2.1 (hO b (hf i hlt b hS).1 (hf i hlt b hS).2.1 fun e => (hf i hlt b hS).2.2 (by rw [e]; rfl))
    · simp only [if_neg hlt]
      rw [List.getElem_append_right (by omega)]
      simp only [List.getElem_singleton]
      exact hx
  · rw [List.length_append, List.length_singleton] at hi
    by_cases hlt : i < xs.length
    · simp only [if_pos hlt]
      intro hS
      obtain ⟨q1, q2, q3⟩ := hf i hlt b hS
      exact ⟨q1, Nat.lt_of_lt_of_le q2 hw.size, q3⟩
    · simp only [if_neg hlt]
      intro hS
      refine ⟨by omega, by omega, fun e => ?_⟩
      simp only [Value.ownBlock, Option.some.injEq] at e
      omega
  · rw [List.length_append, List.length_singleton] at hi hj
    by_cases h3 : i < xs.length
    · by_cases h4 : j < xs.length
      · simp only [if_pos h3, if_pos h4]; exact ha i j h3 h4 hne b
      · simp only [if_pos h3, if_neg h4]
        intro q1 q2
        have := (hf i h3 b q1).2.1; omega
    · by_cases h4 : j < xs.length
      · simp only [if_neg h3, if_pos h4]
        intro q1 q2
        have := (hf j h4 b q2).2.1; omega
      · omega
/-- Nothing of a row that was made is filled yet. -/
theorem Grown.made {α : Type} (A : Sh α) (t : TypeId) (w : World) (z : Array Value) (n : Nat) (hn : n ≤ maxLen) {base : Nat} (h : base ≤ w.heap.size) : Grown A t (w.alloc (.cells (madeCells z (n * A.k)) t)) base (.slice (some ⟨w.heap.size, 0, none⟩) 0 n) ([] : List α) :=
  ⟨fun _ => [], fun _ _ => False, ⟨by simp [flat], Or.inr ⟨w.heap.size, n, madeCells z (n * A.k), rfl, h, alloc_top _ _, Nat.zero_le _, hn, size_madeCells _ _, by simp [flat]⟩⟩, fun i h => absurd h (Nat.not_lt_zero _), fun i h => absurd h (Nat.not_lt_zero _), fun i j h => absurd h (Nat.not_lt_zero _)⟩
/-- A cell that is not filled yet is there. -/
theorem Grown.spare {α : Type} {A : Sh α} {t : TypeId} {w : World} {base g cap n : Nat} {xs : List α} (h : Grown A t w base (.slice (some ⟨g, 0, none⟩) n cap) xs) {o : Nat} (ho : o < cap * A.k) : ∃ u, Cell w g o u := by
  obtain ⟨css, F, ⟨hl, hv⟩, -⟩ := h
  rcases hv with ⟨h, _⟩ | ⟨g', c', cur, h1, h2, h3, h4, h5, h6, h7⟩
  · cases h
  · cases h1
    exact ⟨cur[o]'(by omega), cur, t, h3, Array.getElem?_eq_getElem (by omega)⟩
theorem Grown.len_ {α : Type} {A : Sh α} {t : TypeId} {w : World} {base : Nat} {a : Option Addr} {n cap : Nat} {xs : List α} (h : Grown A t w base (.slice a n cap) xs) : n = xs.length := by
  obtain ⟨a', c', e⟩ := h.slice
  simp only [Value.slice.injEq] at e
  exact e.2.1

end Go.Proofs.YtlfchmmkaflglaaDoor.rose
