/-
  One element of a row turns: cells of its own, and blocks of its own, in whatever order; what such a turning leaves of a row whose elements lie apart.
-/
import Derived.Test.YtempmfpnngbbeabSep
namespace Go.Proofs.Ytempmfpnngbbeab.rose
open Go.RowKit Go.Deep Go.ChangeShapes Go.WideShapes
set_option linter.unusedVariables false

/-- Only cells of one block from lo on up to hi have turned, and blocks of F. -/
structure Turn2 (b lo hi : Nat) (F : Nat → Prop) (w w' : World) : Prop where
  only : Only (fun q => q = b ∨ F q) w w'
  blk : ∀ cur t, w.heap[b]? = some (.cells cur t) → ∃ cur', w'.heap[b]? = some (.cells cur' t)
  out : ∀ o, (o < lo ∨ hi ≤ o) → w'.cell? ⟨b, o, none⟩ = w.cell? ⟨b, o, none⟩

theorem Turn2.refl (b lo hi : Nat) (F : Nat → Prop) (w : World) : Turn2 b lo hi F w w := ⟨Only.refl _ _, fun cur t h => ⟨cur, h⟩, fun _ _ => rfl⟩
theorem Turn2.trans {b lo hi : Nat} {F : Nat → Prop} {u v w : World} (h : Turn2 b lo hi F u v) (k : Turn2 b lo hi F v w) : Turn2 b lo hi F u w :=
  ⟨h.only.trans k.only, fun cur t hc => by obtain ⟨c1, h1⟩ := h.blk cur t hc; exact k.blk c1 t h1, fun o ho => (k.out o ho).trans (h.out o ho)⟩
theorem Turn2.mono {b lo hi : Nat} {F F' : Nat → Prop} {w w' : World} (h : Turn2 b lo hi F w w') (hf : ∀ q, F q → F' q) : Turn2 b lo hi F' w w' := ⟨h.only.mono fun q _ e => e.elim Or.inl fun g => Or.inr (hf q g), h.blk, h.out⟩
theorem Turn2.below {b lo hi : Nat} {F : Nat → Prop} {u w w' : World} (h0 : Turn2 b lo hi F u w) (h : Below w.heap.size w w') (hb : b < w.heap.size) : Turn2 b lo hi F u w' :=
  h0.trans ⟨Only.ofBelow h, fun cur t hc => ⟨cur, (h.block b hb).trans hc⟩, fun o _ => h.cell (p := ⟨b, o, none⟩) hb⟩
theorem Turn2.set {b lo hi : Nat} {F : Nat → Prop} {u w : World} (h0 : Turn2 b lo hi F u w) (o : Nat) (v : Value) (h1 : lo ≤ o) (h2 : o < hi) : Turn2 b lo hi F u (w.setCell ⟨b, o, none⟩ v) := by
  have ht : Turned b lo hi w (w.setCell ⟨b, o, none⟩ v) := Turned.set w o v h1 h2
  exact h0.trans ⟨ht.only.mono fun q _ e => Or.inl e, ht.blk, ht.out⟩
theorem Turn2.calls {b lo hi : Nat} {F Q : Nat → Prop} {u w w' : World} (h0 : Turn2 b lo hi F u w) (h : Only Q w w') (hb : b < w.heap.size) (hq : ∀ q, Q q → F q) (hn : ¬ Q b) : Turn2 b lo hi F u w' := by
  have e := h.block b hb hn
  exact h0.trans ⟨h.mono fun q _ hQ => Or.inr (hq q hQ), fun cur t hc => ⟨cur, e.trans hc⟩, fun o _ => World.cell?_of_block (w := w) (a := ⟨b, o, none⟩) e⟩
theorem Turn2.fz {b lo hi : Nat} {F : Nat → Prop} {w w' : World} (h : Turn2 b lo hi F w w') {cur : Array Value} {t : TypeId} (hc : w.heap[b]? = some (.cells cur t)) (q : Nat) : w'.frozen? ⟨b, q, none⟩ = false := by
  obtain ⟨c, h1⟩ := h.blk cur t hc
  simp [World.frozen?, h1]
theorem cell_only {Q : Nat → Prop} {w w' : World} {b o : Nat} (h : Only Q w w') (hb : b < w.heap.size) (hn : ¬ Q b) : w'.cell? ⟨b, o, none⟩ = w.cell? ⟨b, o, none⟩ := World.cell?_of_block (w := w) (a := ⟨b, o, none⟩) (h.block b hb hn)
theorem size_set (w : World) (a : Addr) (v : Value) : (w.setCell a v).heap.size = w.heap.size := by simp [World.setCell]
theorem block_set {w : World} {b o q : Nat} {v : Value} (h : q ≠ b) : (w.setCell ⟨b, o, none⟩ v).heap[q]? = w.heap[q]? := Below.heap_setCell _ _ _ _ h

theorem cell_set_other (w : World) (p q : Addr) (v : Value) (h : q.block ≠ p.block) : (w.setCell p v).cell? q = w.cell? q := World.cell?_of_block (w := w) (a := q) (Below.heap_setCell _ _ _ _ h)

/-- One element, and what lies in its blocks, has turned. -/
theorem SRow.turn2 {α : Type} {A : Sh α} {w w' : World} {S : Nat → Prop} {a : Option Addr} {css : Nat → List Value} {F : Nat → Nat → Prop} {xs : List α} (h : SRow A w S a css F xs) (hS : ∀ b, S b → b < w.heap.size)
    {i b o : Nat} (hi : i < xs.length) (ha : a = some ⟨b, o, none⟩) (ht : Turn2 b (o + i * A.k) (o + i * A.k + A.k) (F i) w w') {cs : List Value} {x : α} (hc : CellsAt w' b (o + i * A.k) cs) (hr : A.rep w' (F i) cs x) :
    SRow A w' S a (fun j => if j = i then cs else css j) F (xs.set i x) ∧ Only S w w' := by
  obtain ⟨b', o', cur, t, e, h1, h2, h3, h4⟩ := h.row (by omega)
  rw [ha] at e
  cases e
  have hbw : b < w.heap.size := hS b h1
  obtain ⟨c1, hc1⟩ := ht.blk cur t h2
  refine ⟨⟨fun h0 => ?_, fun j hj => h.sub j (by simpa using hj), fun j l hj hl => h.apart j l (by simpa using hj) (by simpa using hl), fun j hj => ?_⟩, ?_⟩
  · refine ⟨b, o, c1, t, ha, h1, hc1, fun j hj => h3 j (by simpa using hj), fun j hj => ?_⟩
    by_cases e : j = i
    · subst e
      simp only [if_pos]
      exact hc
    · simp only [if_neg e]
      intro q v hq
      have hj' : j < xs.length := by simpa using hj
      have hql : q < A.k := by
        rcases Nat.lt_or_ge q A.k with h' | h'
        · exact h'
        · rw [List.getElem?_eq_none (by rw [A.len (h.rep j hj')]; exact h')] at hq; cases hq
      rw [ht.out _ ?_]
      · exact h4 j hj' q v hq
      · rcases Nat.lt_or_gt_of_ne e with hlt | hlt
        · left
          have := Nat.mul_le_mul_right A.k (show j + 1 ≤ i by omega)
          rw [Nat.succ_mul] at this; omega
        · right
          have := Nat.mul_le_mul_right A.k (show i + 1 ≤ j by omega)
          rw [Nat.succ_mul] at this; omega
  · have hj' : j < xs.length := by simpa using hj
    by_cases e : j = i
    · subst e
      simp only [if_pos, List.getElem_set_self]
      exact hr
    · simp only [if_neg e]
      rw [List.getElem_set_ne (Ne.symm e)]
      refine A.on (h.rep j hj') fun q hq => ?_
      exact ht.only.block q (hS q (h.sub j hj' q hq)) fun e' => e'.elim (fun e1 => h3 j hj' (e1 ▸ hq)) (h.apart j i hj' hi e q hq)
  · exact ht.only.mono fun q _ hq => hq.elim (fun e1 => by rw [e1]; exact h1) (fun hf => h.sub i hi q hf)

end Go.Proofs.Ytempmfpnngbbeab.rose
