/-
  One element of a row turns: cells of its own, and blocks of its own, in whatever order; what such a turning leaves of a row whose elements lie apart.
  What a law keeps while it goes on: values in blocks of its own, and what lies behind them; what a call leaves of them.
  A slice of ints that a call has built itself, from a block number on.
  A cell of a row of the call's own is turned; a row that is kept elsewhere.
  The model's l17There and l17Places, where HeapOk calls them.
-/
import Derived.OwnWalk
import Derived.Laws.AppendOwn
import Derived.Maps.AppendAt
import Derived.WalkSmall
import Derived.Test.YthpdkjenadngoaaGreatDoorB1
import Derived.Test.YthpdkjenadngoaaGreatDoorB2
import Derived.Test.YthpdkjenadngoaaGreatDoorB3
namespace Go.Proofs.YthpdkjenadngoaaGreatDoor.rose
open Go.RowKit Go.Deep Go.ChangeShapes Go.WideShapes
set_option linter.unusedVariables false

/-- Only cells of one block from lo on up to hi have turned, and blocks of F. -/
structure Turn2 (b lo hi : Nat) (F : Nat → Prop) (w w' : World) : Prop where
  only : Only (fun q => q = b ∨ F q) w w'
  blk : ∀ cur t, w.heap[b]? = some (.cells cur t) → ∃ cur', w'.heap[b]? = some (.cells cur' t)
  out : ∀ o, (o < lo ∨ hi ≤ o) → w'.cell? ⟨b, o, none⟩ = w.cell? ⟨b, o, none⟩

theorem Turn2.refl (b lo hi : Nat) (F : Nat → Prop) (w : World) : Turn2 b lo hi F w w := ⟨Only.refl _ _, fun cur t h => ⟨cur, h⟩, fun _ _ => rfl⟩
theorem Turn2.trans {b lo hi : Nat} {F : Nat → Prop} {u v w : World} (h : Turn2 b lo hi F u v) (k : Turn2 b lo hi F v w) : Turn2 b lo hi F u w :=
  ⟨h.only.trans k.only, fun cur t hc => by obtain ⟨c1, h1⟩ := h.blk cur t hc; exact k.blk c1 t h1, fun o ho => (k.out o ho).trans (h.out o ho)⟩
theorem Turn2.mono {b lo hi : Nat} {F F' : Nat → Prop} {w w' : World} (h : Turn2 b lo hi F w w') (hf : ∀ q, F q → F' q) : Turn2 b lo hi F' w w' := ⟨h.only.mono fun q _ e => e.elim Or.inl fun g => Or.inr (hf q g), h.blk, h.out⟩
theorem Turn2.below {b lo hi : Nat} {F : Nat → Prop} {u w w' : World} (h0 : Turn2 b lo hi F u w) (h : Below w.heap.size w w') (hb : b < w.heap.size) : Turn2 b lo hi F u w' :=
  h0.trans ⟨Only.ofBelow h, fun cur t hc => ⟨cur, (h.block b hb).trans hc⟩, fun o _ => h.cell (p := ⟨b, o, none⟩) hb⟩
theorem Turn2.set {b lo hi : Nat} {F : Nat → Prop} {u w : World} (h0 : Turn2 b lo hi F u w) (o : Nat) (v : Value) (h1 : lo ≤ o) (h2 : o < hi) : Turn2 b lo hi F u (w.setCell ⟨b, o, none⟩ v) := by
  have ht : Turned b lo hi w (w.setCell ⟨b, o, none⟩ v) := Turned.set w o v h1 h2
  exact h0.trans ⟨ht.only.mono fun q _ e => Or.inl e, ht.blk, ht.out⟩
theorem Turn2.calls {b lo hi : Nat} {F Q : Nat → Prop} {u w w' : World} (h0 : Turn2 b lo hi F u w) (h : Only Q w w') (hb : b < w.heap.size) (hq : ∀ q, Q q → F q) (hn : ¬ Q b) : Turn2 b lo hi F u w' := by
  have e := h.block b hb hn
  exact h0.trans ⟨h.mono fun q _ hQ => Or.inr (hq q hQ), fun cur t hc => ⟨cur, e.trans hc⟩, fun o _ => World.cell?_of_block (w := w) (a := ⟨b, o, none⟩) e⟩
theorem Turn2.fz {b lo hi : Nat} {F : Nat → Prop} {w w' : World} (h : Turn2 b lo hi F w w') {cur : Array Value} {t : TypeId} (hc : w.heap[b]? = some (.cells cur t)) (q : Nat) : w'.frozen? ⟨b, q, none⟩ = false := by
  obtain ⟨c, h1⟩ := h.blk cur t hc
  simp [World.frozen?, h1]
theorem cell_only {Q : Nat → Prop} {w w' : World} {b o : Nat} (h : Only Q w w') (hb : b < w.heap.size) (hn : ¬ Q b) : w'.cell? ⟨b, o, none⟩ = w.cell? ⟨b, o, none⟩ := World.cell?_of_block (w := w) (a := ⟨b, o, none⟩) (h.block b hb hn)
theorem size_set (w : World) (a : Addr) (v : Value) : (w.setCell a v).heap.size = w.heap.size := by simp [World.setCell]
theorem block_set {w : World} {b o q : Nat} {v : Value} (h : q ≠ b) : (w.setCell ⟨b, o, none⟩ v).heap[q]? = w.heap[q]? := Below.heap_setCell _ _ _ _ h

theorem cell_set_other (w : World) (p q : Addr) (v : Value) (h : q.block ≠ p.block) : (w.setCell p v).cell? q = w.cell? q := World.cell?_of_block (w := w) (a := q) (Below.heap_setCell _ _ _ _ h)

/-- One element, and what lies in its blocks, has turned. -/
theorem SRow.turn2 {α : Type} {A : Sh α} {w w' : World} {S : Nat → Prop} {a : Option Addr} {css : Nat → List Value} {F : Nat → Nat → Prop} {xs : List α} (h : SRow A w S a css F xs) (hS : ∀ b, S b → b < w.heap.size)
    {i b o : Nat} (hi : i < xs.length) (ha : a = some ⟨b, o, none⟩) (ht : Turn2 b (o + i * A.k) (o + i * A.k + A.k) (F i) w w') {cs : List Value} {x : α} (hc : CellsAt w' b (o + i * A.k) cs) (hr : A.rep w' (F i) cs x) :
    SRow A w' S a (fun j => if j = i then cs else css j) F (xs.set i x) ∧ Only S w w' := by
  obtain ⟨b', o', cur, t, e, h1, h2, h3, h4⟩ := h.row (by omega)
  rw [ha] at e
  cases e
  have hbw : b < w.heap.size := hS b h1
  obtain ⟨c1, hc1⟩ := ht.blk cur t h2
  refine ⟨⟨fun h0 => ?_, fun j hj => h.sub j (by simpa using hj), fun j l hj hl => h.apart j l (by simpa using hj) (by simpa using hl), fun j hj => ?_⟩, ?_⟩
  · refine ⟨b, o, c1, t, ha, h1, hc1, fun j hj => h3 j (by simpa using hj), fun j hj => ?_⟩
    by_cases e : j = i
    · subst e
      simp only [if_pos]
      exact hc
    · simp only [if_neg e]
      intro q v hq
      have hj' : j < xs.length := by simpa using hj
      have hql : q < A.k := by
        rcases Nat.lt_or_ge q A.k with h' | h'
        · exact h'
        · rw [List.getElem?_eq_none (by rw [A.len (h.rep j hj')]; exact h')] at hq; cases hq
      rw [ht.out _ ?_]
      · exact h4 j hj' q v hq
      · rcases Nat.lt_or_gt_of_ne e with hlt | hlt
        · left
          have := Nat.mul_le_mul_right A.k (show j + 1 ≤ i by omega)
          rw [Nat.succ_mul] at this; omega
        · right
          have := Nat.mul_le_mul_right A.k (show i + 1 ≤ j by omega)
          rw [Nat.succ_mul] at this; omega
  · have hj' : j < xs.length := by simpa using hj
    by_cases e : j = i
    · subst e
      simp only [if_pos, List.getElem_set_self]
      exact hr
    · simp only [if_neg e]
      rw [List.getElem_set_ne (Ne.symm e)]
      refine A.on (h.rep j hj') fun q hq => ?_
      exact ht.only.block q (hS q (h.sub j hj' q hq)) fun e' => e'.elim (fun e1 => h3 j hj' (e1 ▸ hq)) (h.apart j i hj' hi e q hq)
  · exact ht.only.mono fun q _ hq => hq.elim (fun e1 => by rw [e1]; exact h1) (fun hf => h.sub i hi q hf)

end Go.Proofs.YthpdkjenadngoaaGreatDoor.rose

namespace Go.Proofs.YthpdkjenadngoaaGreatDoor.rose
open Go.RowKit Go.Deep Go.ChangeShapes Go.WideShapes
set_option linter.unusedVariables false

/-- A value in block nb, and what lies behind it, from block lo on below hi. -/
structure Itm {α : Type} (A : Sh α) (wk : World) (nb : Nat) (cs : List Value) (t : TypeId) (lo hi : Nat) (x : α) : Prop where
  blk : wk.heap[nb]? = some (.cells cs.toArray t)
  top : hi ≤ wk.heap.size
  rep : A.rep wk (fun b => lo ≤ b ∧ b < hi) cs x

section
variable {α : Type} {A : Sh α} {wk wl : World} {nb lo hi : Nat} {cs : List Value} {t : TypeId} {x : α}

theorem Itm.lt (h : Itm A wk nb cs t lo hi x) : nb < wk.heap.size := (Array.getElem?_eq_some_iff.1 h.blk).1
theorem Itm.on (h : Itm A wk nb cs t lo hi x) (hb : Below wk.heap.size wk wl) : Itm A wl nb cs t lo hi x :=
  ⟨(hb.block nb h.lt).trans h.blk, Nat.le_trans h.top hb.size, A.on h.rep fun b hS => hb.block b (by have := h.top; omega)⟩
theorem Itm.only {Q : Nat → Prop} (h : Itm A wk nb cs t lo hi x) (ho : Only Q wk wl) (hn : ¬ Q nb) (hd : ∀ b, lo ≤ b → b < hi → ¬ Q b) : Itm A wl nb cs t lo hi x :=
  ⟨(ho.block nb h.lt hn).trans h.blk, Nat.le_trans h.top ho.size, A.on h.rep fun b hS => ho.block b (by have := h.top; omega) (hd b hS.1 hS.2)⟩
theorem Itm.in_ (h : Itm A wk nb cs t lo hi x) : A.rep wk (· < wk.heap.size) cs x := A.mono h.rep fun b hb => by have := h.top; omega
theorem Itm.cell (h : Itm A wk nb cs t lo hi x) (j : Nat) {v : Value} (hj : cs[j]? = some v) : wk.cell? ⟨nb, j, none⟩ = some v := by
  simp only [World.cell?, h.blk]
  simpa using hj
theorem Itm.new (hr : A.rep wk (fun b => lo ≤ b ∧ b < hi) cs x) (hh : hi ≤ wk.heap.size) {arr : Array Value} (ha : arr = cs.toArray) : Itm A (wk.alloc (.cells arr t)) wk.heap.size cs t lo hi x := by
  subst ha
  have hA : Below wk.heap.size wk (wk.alloc (.cells cs.toArray t)) := (Below.refl _ _).alloc (Nat.le_refl _) _
  exact ⟨alloc_top _ _, Nat.le_trans hh hA.size, A.on hr fun b hS => hA.block b (by omega)⟩
theorem Itm.as {B : Sh α} (h : Itm A wk nb cs t lo hi x) (hc : ∀ {w S cs x}, A.rep w S cs x → B.rep w S cs x) : Itm B wk nb cs t lo hi x := ⟨h.blk, h.top, hc h.rep⟩
end

/-- A slice in a slot, and what lies behind it, from block lo on below hi. -/
structure ItmS {α : Type} (A : Sh α) (wk : World) (v : Value) (lo hi : Nat) (x : α) : Prop where
  top : hi ≤ wk.heap.size
  rep : A.rep wk (fun b => lo ≤ b ∧ b < hi) [v] x
theorem ItmS.on {α : Type} {A : Sh α} {wk wl : World} {v : Value} {lo hi : Nat} {x : α} (h : ItmS A wk v lo hi x) (hb : Below wk.heap.size wk wl) : ItmS A wl v lo hi x :=
  ⟨Nat.le_trans h.top hb.size, A.on h.rep fun b hS => hb.block b (by have := h.top; omega)⟩
theorem ItmS.only {α : Type} {A : Sh α} {wk wl : World} {v : Value} {lo hi : Nat} {x : α} {Q : Nat → Prop} (h : ItmS A wk v lo hi x) (ho : Only Q wk wl) (hd : ∀ b, lo ≤ b → b < hi → ¬ Q b) : ItmS A wl v lo hi x :=
  ⟨Nat.le_trans h.top ho.size, A.on h.rep fun b hS => ho.block b (by have := h.top; omega) (hd b hS.1 hS.2)⟩
theorem ItmS.in_ {α : Type} {A : Sh α} {wk : World} {v : Value} {lo hi : Nat} {x : α} (h : ItmS A wk v lo hi x) : A.rep wk (· < wk.heap.size) [v] x := A.mono h.rep fun b hb => by have := h.top; omega
theorem ItmS.as {α : Type} {A B : Sh α} {wk : World} {v : Value} {lo hi : Nat} {x : α} (h : ItmS A wk v lo hi x) (hc : ∀ {w S cs x}, A.rep w S cs x → B.rep w S cs x) : ItmS B wk v lo hi x := ⟨h.top, hc h.rep⟩

/-- The argument's own block. -/
structure ArgK (w wk : World) (cs : List Value) (t : TypeId) : Prop where
  bel : Below w.heap.size w wk
  blk : wk.heap[w.heap.size]? = some (.cells cs.toArray t)
theorem ArgK.lt {w wk : World} {cs : List Value} {t : TypeId} (h : ArgK w wk cs t) : w.heap.size < wk.heap.size := (Array.getElem?_eq_some_iff.1 h.blk).1
theorem ArgK.on {w wk wl : World} {cs : List Value} {t : TypeId} (h : ArgK w wk cs t) (hb : Below wk.heap.size wk wl) : ArgK w wl cs t := ⟨h.bel.trans (hb.mono h.bel.size), (hb.block _ h.lt).trans h.blk⟩
theorem ArgK.only {w wk wl : World} {cs : List Value} {t : TypeId} {Q : Nat → Prop} (h : ArgK w wk cs t) (ho : Only Q wk wl) (hQ : ∀ b, Q b → w.heap.size < b) : ArgK w wl cs t :=
  ⟨h.bel.trans (ho.below (Nat.le_of_lt h.lt) fun b hb => Nat.le_of_lt (hQ b hb)), (ho.block _ h.lt fun hq => Nat.lt_irrefl _ (hQ _ hq)).trans h.blk⟩
theorem ArgK.drew {w wk : World} {cs : List Value} {t : TypeId} (h : ArgK w wk cs t) : ArgK w wk.drew cs t := ⟨h.bel.drew, h.blk⟩
theorem ArgK.cell {w wk : World} {cs : List Value} {t : TypeId} (h : ArgK w wk cs t) (j : Nat) {v : Value} (hj : cs[j]? = some v) : wk.cell? ⟨w.heap.size, j, none⟩ = some v := by
  simp only [World.cell?, h.blk]
  simpa using hj
theorem ArgK.new (w : World) (cs : List Value) (t : TypeId) {arr : Array Value} (ha : arr = cs.toArray) : ArgK w (w.alloc (.cells arr t)) cs t := by
  subst ha
  exact ⟨(Below.refl _ _).alloc (Nat.le_refl _) _, alloc_top _ _⟩

end Go.Proofs.YthpdkjenadngoaaGreatDoor.rose

namespace Go.Proofs.YthpdkjenadngoaaGreatDoor.ints
open Go.RowKit Go.Proofs.YthpdkjenadngoaaGreatDoor.rose Go.Proofs.YthpdkjenadngoaaGreatDoor
set_option linter.unusedVariables false

def InR (x : Int) : Prop := -9223372036854775808 ≤ x ∧ x ≤ 9223372036854775807

def IRow (w : World) (base : Nat) (v : Value) (l : List Int) : Prop := w.ownsRow base 3 1 v l.length (l.map (Value.int .i64)) ∧ ∀ x ∈ l, InR x

theorem IRow.nil (w : World) (base : Nat) : IRow w base (.slice none 0 0) [] := ⟨World.ownsRow_nil w base 3 1, fun x hx => by cases hx⟩
theorem IRow.lt {w : World} {base : Nat} {v : Value} {l : List Int} (h : IRow w base v l) : ∀ k, v.ownBlock = some k → base ≤ k ∧ k < w.heap.size := h.1.lt
theorem IRow.keep {w w' : World} {base : Nat} {v : Value} {l : List Int} (h : IRow w base v l) (hb : Below w.heap.size w w') : IRow w' base v l := by
  refine ⟨⟨h.1.1, ?_⟩, h.2⟩
  rcases h.1.2 with h0 | ⟨g, cap, cur, h1, h2, h3, h4⟩
  · exact Or.inl h0
  · have hg : g < w.heap.size := (Array.getElem?_eq_some_iff.1 h3).1
    exact Or.inr ⟨g, cap, cur, h1, h2, (hb.block g hg).trans h3, h4⟩
theorem IRow.open {w : World} {base : Nat} {v : Value} {l : List Int} (h : IRow w base v l) : (v = .slice none 0 0 ∧ l = []) ∨ ∃ g cap, v = .slice (some ⟨g, 0, none⟩) l.length cap ∧ base ≤ g ∧ g < w.heap.size ∧ l.length ≤ cap ∧ cap ≤ maxLen ∧ (∀ i (hi : i < l.length), w.cell? ⟨g, i, none⟩ = some (.int .i64 l[i])) ∧ ∃ cur t, w.heap[g]? = some (.cells cur t) := by
  rcases h.1.2 with ⟨h0, h1⟩ | ⟨g, cap, cur, h1, h2, h3, h4, h5, h6⟩
  · exact Or.inl ⟨h0, List.eq_nil_of_length_eq_zero h1⟩
  · refine Or.inr ⟨g, cap, h1, h2, (Array.getElem?_eq_some_iff.1 h3).1, h4, h5, fun i hi => ?_, cur, _, h3⟩
    have ho := h.1
    rw [h1] at ho
    have := ho.cellAt i (by omega)
    rw [this]
    simp [hi]
theorem IRow.sp {w : World} {base : Nat} {v : Value} {l : List Int} (h : IRow w base v l) : intsSp.rep w (fun b => base ≤ b ∧ b < w.heap.size) [v] l := by
  rcases h.open with ⟨rfl, rfl⟩ | ⟨g, cap, rfl, h2, h3, h4, h5, h6, cur, t, h7⟩
  · exact ⟨none, 0, fun _ => [], fun _ _ => False, rfl, Nat.le_refl _, Nat.zero_le _, fun _ => rfl, fun h0 => absurd h0 (Nat.not_lt_zero _), fun i hi => absurd hi (Nat.not_lt_zero _), fun i j hi => absurd hi (Nat.not_lt_zero _), fun i hi => absurd hi (Nat.not_lt_zero _)⟩
  · refine ⟨some ⟨g, 0, none⟩, cap, fun i => [.int .i64 (l.getD i 0)], fun _ _ => False, rfl, h4, h5, (fun h => by cases h), fun h0 => ⟨g, 0, cur, t, rfl, ⟨h2, h3⟩, h7, fun _ _ h => h, fun i hi q u hq => ?_⟩, fun i hi b h => h.elim, fun i j hi hj hne b h => h.elim, fun i hi => ⟨by simp [List.getD, hi], h.2 _ (List.getElem_mem hi)⟩⟩
    match q, hq with
    | 0, hq =>
      simp at hq; subst hq
      have := h6 i hi
      simpa [Sh.int, List.getD, hi] using this
    | _ + 1, hq => simp at hq

theorem info_int : (Tryz.prog.info? 3).map (fun i => (i.zero, i.size, i.bytes)) = some (some (.int .i64 0), 1, 8) := by kernel_rfl
theorem int_info : ∃ ti, Tryz.prog.info? 3 = some ti ∧ ti.zero = some (.int .i64 0) ∧ ti.size = 1 ∧ ti.bytes = 8 := by
  obtain ⟨i, hi, hzz⟩ := Option.map_eq_some_iff.1 info_int
  simp only [Prod.mk.injEq] at hzz
  exact ⟨i, hi, hzz⟩

theorem IRow.more {w : World} {base : Nat} {v : Value} {xs ys : List Int} (h : w.ownsRow base 3 1 v (xs.length + ys.length) (xs.map (Value.int .i64) ++ ys.map (Value.int .i64))) (hx : ∀ x ∈ xs, InR x) (hy : ∀ x ∈ ys, InR x) : IRow w base v (xs ++ ys) := by
  refine ⟨by rw [List.length_append, List.map_append]; exact h, fun x hm => ?_⟩
  rcases List.mem_append.1 hm with q | q
  · exact hx x q
  · exact hy x q

end Go.Proofs.YthpdkjenadngoaaGreatDoor.ints

namespace Go.Proofs.YthpdkjenadngoaaGreatDoor.rose
open Go Go.RowKit
set_option linter.unusedVariables false

theorem own_set {w : World} {base : Nat} {t : TypeId} {k g n c j : Nat} {xs : List Value} {u : Value} (h : w.ownsRow base t k (.slice (some ⟨g, 0, none⟩) n c) n xs) (hj : j < n * k) : (w.setCell ⟨g, j, none⟩ u).ownsRow base t k (.slice (some ⟨g, 0, none⟩) n c) n (xs.set j u) := by
  obtain ⟨hl, hv⟩ := h
  refine ⟨by simpa using hl, Or.inr ?_⟩
  rcases hv with ⟨h, _⟩ | ⟨g', c', cur, h1, h2, h3, h4, h5, h6, h7⟩
  · cases h
  · cases h1
    refine ⟨g, c, cur.setIfInBounds j u, rfl, h2, by simp [World.setCell, Array.getElem?_modify, h3], h4, h5, by simpa using h6, ?_⟩
    rw [← h7]
    simp [List.take_set]
theorem own_same {w w' : World} {base : Nat} {t : TypeId} {k n : Nat} {v : Value} {xs : List Value} (h : w.ownsRow base t k v n xs) (hb : ∀ q, v.ownBlock = some q → w'.heap[q]? = w.heap[q]?) : w'.ownsRow base t k v n xs := by
  refine ⟨h.1, ?_⟩
  rcases h.2 with h0 | ⟨g, cap, cur, h1, h2, h3, h4⟩
  · exact Or.inl h0
  · exact Or.inr ⟨g, cap, cur, h1, h2, (hb g (by rw [h1]; rfl)).trans h3, h4⟩
theorem own_form {w : World} {base : Nat} {t : TypeId} {k n : Nat} {v : Value} {xs : List Value} (h : w.ownsRow base t k v n xs) : ∃ a c, v = .slice a n c := by
  rcases h.2 with ⟨rfl, h0⟩ | ⟨_, _, _, rfl, _⟩
  · exact ⟨_, _, by rw [h0]⟩
  · exact ⟨_, _, rfl⟩
theorem new_cell (w : World) (t : TypeId) (u : Value) : ∀ j x, [u][j]? = some x → (w.alloc (.cells #[u] t)).cell? ((⟨w.heap.size, 0, none⟩ : Addr).add j) = some x := by
  intro j x hj
  match j, hj with
  | 0, hj =>
    simp at hj; subst hj
    rw [add_plain]
    simp
  | _ + 1, hj => simp at hj
theorem own_base {w : World} {base base' : Nat} {t : TypeId} {k n : Nat} {v : Value} {xs : List Value} (h : w.ownsRow base t k v n xs) (hb : base' ≤ base) : w.ownsRow base' t k v n xs := by
  refine ⟨h.1, ?_⟩
  rcases h.2 with h0 | ⟨g, cap, cur, h1, h2, h3, h4⟩
  · exact Or.inl h0
  · exact Or.inr ⟨g, cap, cur, h1, by omega, h3, h4⟩
theorem below_block {B : Nat} {w w' : World} (h : Below B w w') {b : Nat} (hb : b < B) : w'.heap[b]? = w.heap[b]? := h.block b hb

end Go.Proofs.YthpdkjenadngoaaGreatDoor.rose

namespace Go.Proofs.YthpdkjenadngoaaGreatDoor.heap
open Go Go.RowKit Go.Proofs.YthpdkjenadngoaaGreatDoor.rose Go.Proofs.YthpdkjenadngoaaGreatDoor Go.Proofs.YthpdkjenadngoaaGreatDoor.fun Go.Proofs.YthpdkjenadngoaaGreatDoor.words Go.Proofs.YthpdkjenadngoaaGreatDoor.ints
set_option linter.unusedVariables false
set_option linter.unusedSimpArgs false

set_option maxHeartbeats 2000000 in
theorem there_is {l : List Int} {x : Int} {b : Bool} (v : Value) (w : World) (hb : thereB l x = b) (h : intsSh.rep w (· < w.heap.size) [v] l) : Calls Tryz.prog 54 #[v, .int .i64 x] w fun e w' => e = .returned (.bool b) ∧ w' = w := by
  unfold thereB at hb
  obtain ⟨a, cap, hv⟩ : ∃ a c, v = .slice a l.length c := by obtain ⟨a, c, e⟩ := slice_cells h; simp only [List.cons.injEq, and_true] at e; exact ⟨a, c, e⟩
  rcases q : decide (x % 2 = 0) with _ | _
  · rw [if_neg (of_decide_eq_false q)] at hb
    clear h
    subst hv
    go_enter Tryz.func54, Tryz.ntmps54
    go_wp2_with (first | (go_at_call 58; refine (isref_is q).mono ?_; rintro e w' ⟨rfl, hx⟩; subst w') | (go_at_call 65; refine (wordint_is _ _).mono ?_; rintro e w' ⟨rfl, hx⟩; subst w') | (go_at_call 88; refine (words.word_is hb).mono ?_; rintro e w' ⟨rfl, hx⟩; subst w'))
    go_ret
    exact ⟨rfl, rfl⟩
  · rw [if_pos (of_decide_eq_true q)] at hb
    have hcall : Hid (Calls Tryz.prog 59 #[v, .int .i64 (x / 2)] w fun e w' => e = .returned (.bool b) ∧ w' = w) := in7_is v w hb h
    clear h hb
    subst hv
    go_enter Tryz.func54, Tryz.ntmps54
    go_wp2_with (first | (go_at_call 58; refine (isref_is q).mono ?_; rintro e w' ⟨rfl, hx⟩; subst w') | (go_at_call 60; refine (wordref_is _ _).mono ?_; rintro e w' ⟨rfl, hx⟩; subst w') | (go_at_call 59; refine hcall.out.mono ?_; rintro e w' ⟨rfl, hx⟩; subst w'))
    go_ret
    exact ⟨rfl, rfl⟩

theorem irow_push {w : World} {base : Nat} {a : Option Addr} {c : Nat} {l : List Int} {x : Int} (h : w.ownsRow base 3 1 (.slice a (l.length + 1) c) (l.length + 1) (l.map (Value.int .i64) ++ [.int .i64 x])) (hl : ∀ y ∈ l, InR y) (hx : InR x) : IRow w base (.slice a (l ++ [x]).length c) (l ++ [x]) := by
  refine ⟨by rw [List.length_append, List.length_singleton, List.map_append]; exact h, fun y hy => ?_⟩
  rcases List.mem_append.1 hy with hy | hy
  · exact hl y hy
  · simp only [List.mem_singleton] at hy; subst hy; exact hx
theorem irow_lit0 (w : World) {base : Nat} (h : base ≤ w.heap.size) : IRow (w.alloc (.cells #[] 3)) base (.slice (some ⟨w.heap.size, 0, none⟩) 0 0) [] :=
  ⟨World.ownsRow_lit w #[] 0 h (Nat.zero_le _) rfl, fun x hx => by cases hx⟩
theorem irow_base0 {w : World} {base base' : Nat} {v : Value} {l : List Int} (h : IRow w base v l) (hb : base' ≤ base) : IRow w base' v l := ⟨own_base h.1 hb, h.2⟩

/-- Where the loop over blocks stands. -/
structure LS (w wr : World) (cs : List Value) (v : Value) (T : HeapD) (p : Nat) (l : List Int) : Prop where
  arg : ArgK w wr cs 26
  row : IRow wr (w.heap.size + 1) v l
  all : plT T = (l ++ (plF T.1 T.2.2.2.toNat p).1, (plF T.1 T.2.2.2.toNat p).2)
  len : l.length ≤ p

set_option maxRecDepth 100000 in
set_option maxHeartbeats 8000000 in
theorem specPlacesOf (T : HeapD) (cs : List Value) (w : World) (hd : headB T = true) (h : heapSh.rep w (· < w.heap.size) cs T) :
    Calls Tryz.prog 53 #[.agg cs.toArray] w fun e w' => (∃ v' l, e = .returned (.tuple #[v', .bool (plT T).2]) ∧ IRow w' w.heap.size v' l ∧ ((plT T).2 = true → l = (plT T).1)) ∧ Below w.heap.size w w' := by
  obtain ⟨W, a0, c0, half, base, next, rfl, rfl, f0, f1, f2, f3⟩ := heap_open h
  obtain ⟨a, cap, e, hcap, hmax, hat⟩ := ints_open f0
  cases e
  have HA : Hid _ := hat
  have H1 := head_in hd
  dsimp only at H1
  obtain ⟨g1, g2, g3, g4, g5, g6⟩ := H1
  obtain ⟨hn, rfl⟩ : ∃ z : Nat, half = z := ⟨half.toNat, by omega⟩
  obtain ⟨bn, rfl⟩ : ∃ z : Nat, base = z := ⟨base.toNat, by omega⟩
  obtain ⟨nx, rfl⟩ : ∃ z : Nat, next = z := ⟨next.toNat, by omega⟩
  have hnl : nx ≤ W.length ∧ W.length ≤ 6000 := by omega
  obtain ⟨r, hr⟩ : ∃ r, r = plT (W, (hn : Int), (bn : Int), (nx : Int)) := ⟨_, rfl⟩
  have HR : Hid (r = plT (W, (hn : Int), (bn : Int), (nx : Int))) := hr
  rw [← hr]
  obtain ⟨ti, hti, hz0, hz1, hz2⟩ := int_info
  have TI : Hid (Tryz.prog.info? 3 = some ti ∧ ti.zero = some (.int .i64 0) ∧ ti.size = 1 ∧ ti.bytes = 8) := ⟨hti, hz0, hz1, hz2⟩
  obtain ⟨cs, hcs⟩ : ∃ cs : List Value, cs = [.slice a0 W.length c0, .int .i64 hn, .int .i64 bn, .int .i64 nx] := ⟨_, rfl⟩
  have HCS : Hid (cs = [.slice a0 W.length c0, .int .i64 hn, .int .i64 bn, .int .i64 nx]) := hcs
  have A0 : Hid (ArgK w (w.alloc (.cells #[.slice a0 W.length c0, .int .i64 hn, .int .i64 bn, .int .i64 nx] 26)) cs 26) := ArgK.new _ _ _ (by rw [hcs])
  have HPL : Hid (plT (W, (hn : Int), (bn : Int), (nx : Int)) = plF W nx bn) := by show _ = _; simp [plT]
  have hmx : (W.length : Int) ≤ 9223372036854775807 := by omega
  clear h f0 f1 f2 f3 hcap hmax hat hd hr hti hz0 hz1 hz2 hcs
  go_enter Tryz.func53, Tryz.ntmps53
  go_wp2
  go_loopw [4, 5] (fun v4 v5 wr => ∃ (p : Nat) (l : List Int) (a4 : Option Addr) (c4 : Nat), bn ≤ p ∧ p ≤ 6100 ∧ v5 = .int .i64 p ∧ v4 = .slice a4 l.length c4 ∧ Hid (LS w wr cs (.slice a4 l.length c4) (W, (hn : Int), (bn : Int), (nx : Int)) p l)) (fun _ v5 _ => 6200 - (intOf v5).toNat)
  case atStart =>
    refine ⟨bn, [], _, _, Nat.le_refl _, by omega, rfl, rfl, ⟨A0.out.on ((Below.refl _ _).alloc (Nat.le_refl _) _), ?_, by simp [plT], Nat.zero_le _⟩⟩
    have := irow_lit0 (w.alloc (.cells #[.slice a0 W.length c0, .int .i64 hn, .int .i64 bn, .int .i64 nx] 26)) (base := w.heap.size + 1) (by simp)
    rw [World.size_alloc] at this
    exact this
  case round =>
    obtain ⟨p, l, a4, c4, hbp, hp6, rfl, rfl, HL⟩ := hrel
    have k0 : wr.cell? ⟨w.heap.size, 0, none⟩ = some (.slice a0 W.length c0) := HL.out.arg.cell 0 (by rw [HCS.out]; rfl)
    have k3 : wr.cell? ⟨w.heap.size, 3, none⟩ = some (.int .i64 nx) := HL.out.arg.cell 3 (by rw [HCS.out]; rfl)
    have BW : Hid (Below w.heap.size w wr) := HL.out.arg.bel
    by_cases hlt : p < nx
    · obtain ⟨b, o, rfl, hS, hc, hr1, hr2⟩ := HA.out p (by omega)
      have e0 : wr.cell? ⟨b, o + p, none⟩ = some (.int .i64 W[p]) := (BW.out.cell (p := ⟨b, o + p, none⟩) hS).trans hc
      have hgd : W.getD p 0 = W[p] := by rw [List.getD_eq_getElem?_getD, List.getElem?_eq_getElem (by omega)]; rfl
      have pI : (p : Int) < (W.length : Int) := by omega
      have hcall := of_is W[p] wr hr1 hr2
      have hm := many_in W[p]
      obtain ⟨x, hx⟩ : ∃ x, x = W[p] := ⟨_, rfl⟩
      rw [← hx] at e0 hgd hcall hm hr1 hr2
      have HX : Hid (W.getD p 0 = x) := hgd
      obtain ⟨tg, htg⟩ : ∃ t, t = tagF x := ⟨_, rfl⟩
      obtain ⟨mn, hmn⟩ : ∃ t : Nat, (t : Int) = manyF x := ⟨(manyF x).toNat, by omega⟩
      rw [← htg, ← hmn] at hcall
      have HB : Hid (badH (W.getD p 0) ((nx : Int) - p) = (decide (x < 0) || decide (x % 2 = 0) || decide (3000 < tg) || decide (20 < (mn : Int)) || decide ((nx : Int) - p ≤ (mn : Int)))) := by show _ = _; rw [HX.out]; unfold badH; rw [← htg, ← hmn]
      have HMN : Hid ((manyF (W.getD p 0)).toNat = mn) := by show _ = _; rw [HX.out]; omega
      have hm63 : mn ≤ 63 := by omega
      have HBAD : Hid (badH (W.getD p 0) ((nx : Int) - p) = true → r = (l, false)) := fun hbd => by
        rw [HR.out, HL.out.all]
        show (l ++ (plF W (nx : Int).toNat p).1, (plF W (nx : Int).toNat p).2) = _
        rw [Int.toNat_natCast, plF_bad hlt hbd]; simp
      clear hc hx htg hmn hgd hm
      by_cases c1 : x < 0
      · have t1 : decide (x < 0) = true := by simpa using c1
        have HF : Hid (r = (l, false)) := HBAD.out (by rw [HB.out, t1]; rfl)
        go_wp2_with (first | (go_at_call 34; refine hcall.mono ?_; rintro e w' ⟨rfl, hx'⟩; subst w') | (go_at_call 58; refine (isref_is (by assumption)).mono ?_; rintro e w' ⟨rfl, hx'⟩; subst w'))
        go_ret2
        rw [HF.out]
        exact ⟨⟨_, l, rfl, irow_base0 HL.out.row (by omega), fun e => by cases e⟩, BW.out⟩
      have t1 : decide (x < 0) = false := by simpa using c1
      rcases t2 : decide (x % 2 = 0) with _ | _
      · by_cases c3 : 3000 < tg
        · have t3 : decide ((3000 : Int) < tg) = true := by simpa using c3
          have HF : Hid (r = (l, false)) := HBAD.out (by rw [HB.out, t3]; simp)
          go_wp2_with (first | (go_at_call 34; refine hcall.mono ?_; rintro e w' ⟨rfl, hx'⟩; subst w') | (go_at_call 58; refine (isref_is (by assumption)).mono ?_; rintro e w' ⟨rfl, hx'⟩; subst w'))
          go_ret2
          rw [HF.out]
          exact ⟨⟨_, l, rfl, irow_base0 HL.out.row (by omega), fun e => by cases e⟩, BW.out⟩
        have t3 : decide ((3000 : Int) < tg) = false := by simpa using c3
        by_cases z4 : 20 < mn
        · have t4 : decide ((20 : Int) < (mn : Int)) = true := by simp; omega
          have HF : Hid (r = (l, false)) := HBAD.out (by rw [HB.out, t4]; simp)
          go_wp2_with (first | (go_at_call 34; refine hcall.mono ?_; rintro e w' ⟨rfl, hx'⟩; subst w') | (go_at_call 58; refine (isref_is (by assumption)).mono ?_; rintro e w' ⟨rfl, hx'⟩; subst w'))
          go_ret2
          rw [HF.out]
          exact ⟨⟨_, l, rfl, irow_base0 HL.out.row (by omega), fun e => by cases e⟩, BW.out⟩
        have t4 : decide ((20 : Int) < (mn : Int)) = false := by simp; omega
        by_cases c5 : (nx : Int) - p ≤ (mn : Int)
        · have t5 : decide ((nx : Int) - (p : Int) ≤ (mn : Int)) = true := by simpa using c5
          have HF : Hid (r = (l, false)) := HBAD.out (by rw [HB.out, t5]; simp)
          go_wp2_with (first | (go_at_call 34; refine hcall.mono ?_; rintro e w' ⟨rfl, hx'⟩; subst w') | (go_at_call 58; refine (isref_is (by assumption)).mono ?_; rintro e w' ⟨rfl, hx'⟩; subst w'))
          go_ret2
          rw [HF.out]
          exact ⟨⟨_, l, rfl, irow_base0 HL.out.row (by omega), fun e => by cases e⟩, BW.out⟩
        have t5 : decide ((nx : Int) - (p : Int) ≤ (mn : Int)) = false := by simpa using c5
        have HF : Hid (badH (W.getD p 0) ((nx : Int) - p) = false) := by show _ = _; rw [HB.out, t1, t2, t3, t4, t5]; rfl
        have HO : Hid (∀ g, (Value.slice a4 l.length c4).ownBlock = some g → w.heap.size + 1 ≤ g ∧ g < wr.heap.size) := fun g hg => HL.out.row.lt g hg
        have RD : Hid (∀ X, (wr.alloc X).ownsRow (w.heap.size + 1) 3 1 (.slice a4 l.length c4) l.length (l.map (Value.int .i64))) := fun X => (HL.out.row.keep ((Below.refl _ _).alloc (Nat.le_refl _) X)).1
        have hll : l.length ≤ 6100 := by have := HL.out.len; omega
        have ZW : Hid (w.heap.size < wr.heap.size) := HL.out.arg.lt
        go_wp2_with (first
          | (go_at_call 34; refine hcall.mono ?_; rintro e w' ⟨rfl, hx'⟩; subst w')
          | (go_at_call 58; refine (isref_is (by assumption)).mono ?_; rintro e w' ⟨rfl, hx'⟩; subst w')
          | (at_builtin; refine wpList_append_own_at _ rfl (.tmp 51) (.tmp 53) 24 rfl (w.heap.size + 1) 3 ti _ 1 8 Tryz.underlying24 TI.out.1 TI.out.2.1 TI.out.2.2.1 TI.out.2.2.2 rfl (by decide) (.slice a4 l.length c4) _ _ rfl (RD.out _) ⟨wr.heap.size, 0, none⟩ 1 1 [.int .i64 p] rfl rfl (new_cell _ _ _) (by simp; rfl) (by unfold maxLen; omega) (by omega) (by have := ZW.out; simp; omega) ?_; intro v6 w6 o6 g6 n6 e6; obtain ⟨a6, c6, rfl⟩ := own_form o6))
        have NX : Hid (LS w w6 cs (.slice a6 (l ++ [(p : Int)]).length c6) (W, (hn : Int), (bn : Int), (nx : Int)) (p + 1 + mn) (l ++ [(p : Int)])) := by
          have hA : Below wr.heap.size wr (wr.alloc (.cells #[.int .i64 p] 3)) := (Below.refl _ _).alloc (Nat.le_refl _) _
          have hz := ZW.out
          refine ⟨⟨(BW.out.trans (hA.mono (by omega))).grown g6 (by simp; omega) fun g hg => by have := (HO.out g hg).1; omega, ?_⟩, irow_push o6 HL.out.row.2 (by unfold InR; omega), ?_, by rw [List.length_append, List.length_singleton]; have := HL.out.len; omega⟩
          · exact (g6.block _ (by simp; omega) fun e => by have := (HO.out _ e.symm).1; omega).trans ((hA.block _ hz).trans HL.out.arg.blk)
          · rw [HL.out.all]
            show (l ++ (plF W (nx : Int).toNat p).1, (plF W (nx : Int).toNat p).2) = (_ ++ (plF W (nx : Int).toNat _).1, (plF W (nx : Int).toNat _).2)
            rw [Int.toNat_natCast, plF_more hlt HF.out, HMN.out]; simp
        clear o6 g6 n6 e6
        go_round
        case rel => exact ⟨p + 1 + mn, l ++ [(p : Int)], a6, c6, by omega, by omega, by go_num, by simp, NX⟩
        case measure => simp [intOf]; omega
      · have HF : Hid (r = (l, false)) := HBAD.out (by rw [HB.out, t2]; simp)
        go_wp2_with (first | (go_at_call 34; refine hcall.mono ?_; rintro e w' ⟨rfl, hx'⟩; subst w') | (go_at_call 58; refine (isref_is (by assumption)).mono ?_; rintro e w' ⟨rfl, hx'⟩; subst w'))
        go_ret2
        rw [HF.out]
        exact ⟨⟨_, l, rfl, irow_base0 HL.out.row (by omega), fun e => by cases e⟩, BW.out⟩
    · have HE : Hid (r = (l, true)) := by
        show _ = _; rw [HR.out, HL.out.all]
        show (l ++ (plF W (nx : Int).toNat p).1, (plF W (nx : Int).toNat p).2) = _
        rw [Int.toNat_natCast, plF_end (by omega)]; simp
      go_wp2
      go_ret2
      rw [HE.out]
      exact ⟨⟨_, l, rfl, irow_base0 HL.out.row (by omega), fun _ => rfl⟩, BW.out⟩

end Go.Proofs.YthpdkjenadngoaaGreatDoor.heap
