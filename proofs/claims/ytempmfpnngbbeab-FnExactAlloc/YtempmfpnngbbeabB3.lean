/-
  One element of a row turns: cells of its own, and blocks of its own, in whatever order; what such a turning leaves of a row whose elements lie apart.
  What a law keeps while it goes on: values in blocks of its own, and what lies behind them; what a call leaves of them.
  What a law keeps while it goes on, further: an argument's own block; a value, or a slice, and what lies behind it.
  The law's type Heap as it lies in memory.
  How much a heap holds.
  Slices of ints as they lie in memory, and the law's measure of them.
  The law's type Heap as it lies in memory, and the law's measure of it (szHeap and of slices): what is left of a number when the weight is taken off it, or -1; nothing that was there is turned.
-/
import Derived.Test.YtempmfpnngbbeabChecked
import Derived.WalkKit
import Derived.WalkLawsBesides
import Derived.Deep.QuietTactic
import Derived.BigQuiet
import Derived.Test.YtempmfpnngbbeabB1
import Derived.Test.YtempmfpnngbbeabB2
namespace Go.Proofs.Ytempmfpnngbbeab.rose
open Go.RowKit Go.Deep Go.ChangeShapes Go.WideShapes
set_option linter.unusedVariables false

/-- Only cells of one block from lo on up to hi have turned, and blocks of F. -/
structure Turn2 (b lo hi : Nat) (F : Nat → Prop) (w w' : World) : Prop where
  only : Only (fun q => q = b ∨ F q) w w'
  blk : ∀ cur t, w.heap[b]? = some (.cells cur t) → ∃ cur', w'.heap[b]? = some (.cells cur' t)
  out : ∀ o, (o < lo ∨ hi ≤ o) → w'.cell? ⟨b, o, none⟩ = w.cell? ⟨b, o, none⟩

theorem Turn2.refl (b lo hi : Nat) (F : Nat → Prop) (w : World) : Turn2 b lo hi F w w := ⟨Only.refl _ _, fun cur t h => ⟨cur, h⟩, fun _ _ => rfl⟩
theorem Turn2.trans {b lo hi : Nat} {F : Nat → Prop} {u v w : World} (h : Turn2 b lo hi F u v) (k : Turn2 b lo hi F v w) : Turn2 b lo hi F u w :=
  ⟨h.only.trans k.only, fun cur t hc => by obtain ⟨c1, h1⟩ := h.blk cur t hc; exact k.blk c1 t h1, fun o ho => (k.out o ho).trans (h.out o ho)⟩
theorem Turn2.mono {b lo hi : Nat} {F F' : Nat → Prop} {w w' : World} (h : Turn2 b lo hi F w w') (hf : ∀ q, F q → F' q) : Turn2 b lo hi F' w w' := ⟨h.only.mono fun q _ e => e.elim Or.inl fun g => Or.inr (hf q g), h.blk, h.out⟩
theorem Turn2.below {b lo hi : Nat} {F : Nat → Prop} {u w w' : World} (h0 : Turn2 b lo hi F u w) (h : Below w.heap.size w w') (hb : b < w.heap.size) : Turn2 b lo hi F u w' :=
  h0.trans ⟨Only.ofBelow h, fun cur t hc => ⟨cur, (h.block b hb).trans hc⟩, fun o _ => h.cell (p := ⟨b, o, none⟩) hb⟩
theorem Turn2.set {b lo hi : Nat} {F : Nat → Prop} {u w : World} (h0 : Turn2 b lo hi F u w) (o : Nat) (v : Value) (h1 : lo ≤ o) (h2 : o < hi) : Turn2 b lo hi F u (w.setCell ⟨b, o, none⟩ v) := by
  have ht : Turned b lo hi w (w.setCell ⟨b, o, none⟩ v) := Turned.set w o v h1 h2
  exact h0.trans ⟨ht.only.mono fun q _ e => Or.inl e, ht.blk, ht.out⟩
theorem Turn2.calls {b lo hi : Nat} {F Q : Nat → Prop} {u w w' : World} (h0 : Turn2 b lo hi F u w) (h : Only Q w w') (hb : b < w.heap.size) (hq : ∀ q, Q q → F q) (hn : ¬ Q b) : Turn2 b lo hi F u w' := by
  have e := h.block b hb hn
  exact h0.trans ⟨h.mono fun q _ hQ => Or.inr (hq q hQ), fun cur t hc => ⟨cur, e.trans hc⟩, fun o _ => World.cell?_of_block (w := w) (a := ⟨b, o, none⟩) e⟩
theorem Turn2.fz {b lo hi : Nat} {F : Nat → Prop} {w w' : World} (h : Turn2 b lo hi F w w') {cur : Array Value} {t : TypeId} (hc : w.heap[b]? = some (.cells cur t)) (q : Nat) : w'.frozen? ⟨b, q, none⟩ = false := by
  obtain ⟨c, h1⟩ := h.blk cur t hc
  simp [World.frozen?, h1]
theorem cell_only {Q : Nat → Prop} {w w' : World} {b o : Nat} (h : Only Q w w') (hb : b < w.heap.size) (hn : ¬ Q b) : w'.cell? ⟨b, o, none⟩ = w.cell? ⟨b, o, none⟩ := World.cell?_of_block (w := w) (a := ⟨b, o, none⟩) (h.block b hb hn)
theorem size_set (w : World) (a : Addr) (v : Value) : (w.setCell a v).heap.size = w.heap.size := by simp [World.setCell]
theorem block_set {w : World} {b o q : Nat} {v : Value} (h : q ≠ b) : (w.setCell ⟨b, o, none⟩ v).heap[q]? = w.heap[q]? := Below.heap_setCell _ _ _ _ h

theorem cell_set_other (w : World) (p q : Addr) (v : Value) (h : q.block ≠ p.block) : (w.setCell p v).cell? q = w.cell? q := World.cell?_of_block (w := w) (a := q) (Below.heap_setCell _ _ _ _ h)

/-- One element, and what lies in its blocks, has turned. -/
theorem SRow.turn2 {α : Type} {A : Sh α} {w w' : World} {S : Nat → Prop} {a : Option Addr} {css : Nat → List Value} {F : Nat → Nat → Prop} {xs : List α} (h : SRow A w S a css F xs) (hS : ∀ b, S b → b < w.heap.size)
    {i b o : Nat} (hi : i < xs.length) (ha : a = some ⟨b, o, none⟩) (ht : Turn2 b (o + i * A.k) (o + i * A.k + A.k) (F i) w w') {cs : List Value} {x : α} (hc : CellsAt w' b (o + i * A.k) cs) (hr : A.rep w' (F i) cs x) :
    SRow A w' S a (fun j => if j = i then cs else css j) F (xs.set i x) ∧ Only S w w' := by
  obtain ⟨b', o', cur, t, e, h1, h2, h3, h4⟩ := h.row (by omega)
  rw [ha] at e
  cases e
  have hbw : b < w.heap.size := hS b h1
  obtain ⟨c1, hc1⟩ := ht.blk cur t h2
  refine ⟨⟨fun h0 => ?_, fun j hj => h.sub j (by simpa using hj), fun j l hj hl => h.apart j l (by simpa using hj) (by simpa using hl), fun j hj => ?_⟩, ?_⟩
  · refine ⟨b, o, c1, t, ha, h1, hc1, fun j hj => h3 j (by simpa using hj), fun j hj => ?_⟩
    by_cases e : j = i
    · subst e
      simp only [if_pos]
      exact hc
    · simp only [if_neg e]
      intro q v hq
      have hj' : j < xs.length := by simpa using hj
      have hql : q < A.k := by
        rcases Nat.lt_or_ge q A.k with h' | h'
        · exact h'
        · rw [List.getElem?_eq_none (by rw [A.len (h.rep j hj')]; exact h')] at hq; cases hq
      rw [ht.out _ ?_]
      · exact h4 j hj' q v hq
      · rcases Nat.lt_or_gt_of_ne e with hlt | hlt
        · left
          have := Nat.mul_le_mul_right A.k (show j + 1 ≤ i by omega)
          rw [Nat.succ_mul] at this; omega
        · right
          have := Nat.mul_le_mul_right A.k (show i + 1 ≤ j by omega)
          rw [Nat.succ_mul] at this; omega
  · have hj' : j < xs.length := by simpa using hj
    by_cases e : j = i
    · subst e
      simp only [if_pos, List.getElem_set_self]
      exact hr
    · simp only [if_neg e]
      rw [List.getElem_set_ne (Ne.symm e)]
      refine A.on (h.rep j hj') fun q hq => ?_
      exact ht.only.block q (hS q (h.sub j hj' q hq)) fun e' => e'.elim (fun e1 => h3 j hj' (e1 ▸ hq)) (h.apart j i hj' hi e q hq)
  · exact ht.only.mono fun q _ hq => hq.elim (fun e1 => by rw [e1]; exact h1) (fun hf => h.sub i hi q hf)

end Go.Proofs.Ytempmfpnngbbeab.rose

namespace Go.Proofs.Ytempmfpnngbbeab.rose
open Go.RowKit Go.Deep Go.ChangeShapes Go.WideShapes
set_option linter.unusedVariables false

/-- A value in block nb, and what lies behind it, from block lo on below hi. -/
structure Itm {α : Type} (A : Sh α) (wk : World) (nb : Nat) (cs : List Value) (t : TypeId) (lo hi : Nat) (x : α) : Prop where
  blk : wk.heap[nb]? = some (.cells cs.toArray t)
  top : hi ≤ wk.heap.size
  rep : A.rep wk (fun b => lo ≤ b ∧ b < hi) cs x

section
variable {α : Type} {A : Sh α} {wk wl : World} {nb lo hi : Nat} {cs : List Value} {t : TypeId} {x : α}

theorem Itm.lt (h : Itm A wk nb cs t lo hi x) : nb < wk.heap.size := (Array.getElem?_eq_some_iff.1 h.blk).1
theorem Itm.on (h : Itm A wk nb cs t lo hi x) (hb : Below wk.heap.size wk wl) : Itm A wl nb cs t lo hi x :=
  ⟨(hb.block nb h.lt).trans h.blk, Nat.le_trans h.top hb.size, A.on h.rep fun b hS => hb.block b (by have := h.top; omega)⟩
theorem Itm.only {Q : Nat → Prop} (h : Itm A wk nb cs t lo hi x) (ho : Only Q wk wl) (hn : ¬ Q nb) (hd : ∀ b, lo ≤ b → b < hi → ¬ Q b) : Itm A wl nb cs t lo hi x :=
  ⟨(ho.block nb h.lt hn).trans h.blk, Nat.le_trans h.top ho.size, A.on h.rep fun b hS => ho.block b (by have := h.top; omega) (hd b hS.1 hS.2)⟩
theorem Itm.in_ (h : Itm A wk nb cs t lo hi x) : A.rep wk (· < wk.heap.size) cs x := A.mono h.rep fun b hb => by have := h.top; omega
theorem Itm.cell (h : Itm A wk nb cs t lo hi x) (j : Nat) {v : Value} (hj : cs[j]? = some v) : wk.cell? ⟨nb, j, none⟩ = some v := by
  simp only [World.cell?, h.blk]
  simpa using hj
theorem Itm.new (hr : A.rep wk (fun b => lo ≤ b ∧ b < hi) cs x) (hh : hi ≤ wk.heap.size) {arr : Array Value} (ha : arr = cs.toArray) : Itm A (wk.alloc (.cells arr t)) wk.heap.size cs t lo hi x := by
  subst ha
  have hA : Below wk.heap.size wk (wk.alloc (.cells cs.toArray t)) := (Below.refl _ _).alloc (Nat.le_refl _) _
  exact ⟨alloc_top _ _, Nat.le_trans hh hA.size, A.on hr fun b hS => hA.block b (by omega)⟩
theorem Itm.as {B : Sh α} (h : Itm A wk nb cs t lo hi x) (hc : ∀ {w S cs x}, A.rep w S cs x → B.rep w S cs x) : Itm B wk nb cs t lo hi x := ⟨h.blk, h.top, hc h.rep⟩
end

/-- A slice in a slot, and what lies behind it, from block lo on below hi. -/
structure ItmS {α : Type} (A : Sh α) (wk : World) (v : Value) (lo hi : Nat) (x : α) : Prop where
  top : hi ≤ wk.heap.size
  rep : A.rep wk (fun b => lo ≤ b ∧ b < hi) [v] x
theorem ItmS.on {α : Type} {A : Sh α} {wk wl : World} {v : Value} {lo hi : Nat} {x : α} (h : ItmS A wk v lo hi x) (hb : Below wk.heap.size wk wl) : ItmS A wl v lo hi x :=
  ⟨Nat.le_trans h.top hb.size, A.on h.rep fun b hS => hb.block b (by have := h.top; omega)⟩
theorem ItmS.only {α : Type} {A : Sh α} {wk wl : World} {v : Value} {lo hi : Nat} {x : α} {Q : Nat → Prop} (h : ItmS A wk v lo hi x) (ho : Only Q wk wl) (hd : ∀ b, lo ≤ b → b < hi → ¬ Q b) : ItmS A wl v lo hi x :=
  ⟨Nat.le_trans h.top ho.size, A.on h.rep fun b hS => ho.block b (by have := h.top; omega) (hd b hS.1 hS.2)⟩
theorem ItmS.in_ {α : Type} {A : Sh α} {wk : World} {v : Value} {lo hi : Nat} {x : α} (h : ItmS A wk v lo hi x) : A.rep wk (· < wk.heap.size) [v] x := A.mono h.rep fun b hb => by have := h.top; omega
theorem ItmS.as {α : Type} {A B : Sh α} {wk : World} {v : Value} {lo hi : Nat} {x : α} (h : ItmS A wk v lo hi x) (hc : ∀ {w S cs x}, A.rep w S cs x → B.rep w S cs x) : ItmS B wk v lo hi x := ⟨h.top, hc h.rep⟩

/-- The argument's own block. -/
structure ArgK (w wk : World) (cs : List Value) (t : TypeId) : Prop where
  bel : Below w.heap.size w wk
  blk : wk.heap[w.heap.size]? = some (.cells cs.toArray t)
theorem ArgK.lt {w wk : World} {cs : List Value} {t : TypeId} (h : ArgK w wk cs t) : w.heap.size < wk.heap.size := (Array.getElem?_eq_some_iff.1 h.blk).1
theorem ArgK.on {w wk wl : World} {cs : List Value} {t : TypeId} (h : ArgK w wk cs t) (hb : Below wk.heap.size wk wl) : ArgK w wl cs t := ⟨h.bel.trans (hb.mono h.bel.size), (hb.block _ h.lt).trans h.blk⟩
theorem ArgK.only {w wk wl : World} {cs : List Value} {t : TypeId} {Q : Nat → Prop} (h : ArgK w wk cs t) (ho : Only Q wk wl) (hQ : ∀ b, Q b → w.heap.size < b) : ArgK w wl cs t :=
  ⟨h.bel.trans (ho.below (Nat.le_of_lt h.lt) fun b hb => Nat.le_of_lt (hQ b hb)), (ho.block _ h.lt fun hq => Nat.lt_irrefl _ (hQ _ hq)).trans h.blk⟩
theorem ArgK.drew {w wk : World} {cs : List Value} {t : TypeId} (h : ArgK w wk cs t) : ArgK w wk.drew cs t := ⟨h.bel.drew, h.blk⟩
theorem ArgK.cell {w wk : World} {cs : List Value} {t : TypeId} (h : ArgK w wk cs t) (j : Nat) {v : Value} (hj : cs[j]? = some v) : wk.cell? ⟨w.heap.size, j, none⟩ = some v := by
  simp only [World.cell?, h.blk]
  simpa using hj
theorem ArgK.new (w : World) (cs : List Value) (t : TypeId) {arr : Array Value} (ha : arr = cs.toArray) : ArgK w (w.alloc (.cells arr t)) cs t := by
  subst ha
  exact ⟨(Below.refl _ _).alloc (Nat.le_refl _) _, alloc_top _ _⟩

end Go.Proofs.Ytempmfpnngbbeab.rose

namespace Go.Proofs.Ytempmfpnngbbeab.rose
open Go.RowKit Go.Deep Go.ChangeShapes Go.WideShapes
set_option linter.unusedVariables false

/-- An argument's own block. -/
structure BoxK (wk : World) (nb : Nat) (cs : List Value) (t : TypeId) : Prop where
  blk : wk.heap[nb]? = some (.cells cs.toArray t)
theorem BoxK.lt {wk : World} {nb : Nat} {cs : List Value} {t : TypeId} (h : BoxK wk nb cs t) : nb < wk.heap.size := (Array.getElem?_eq_some_iff.1 h.blk).1
theorem BoxK.on {wk wl : World} {nb : Nat} {cs : List Value} {t : TypeId} (h : BoxK wk nb cs t) (hb : Below wk.heap.size wk wl) : BoxK wl nb cs t := ⟨(hb.block nb h.lt).trans h.blk⟩
theorem BoxK.only {wk wl : World} {nb : Nat} {cs : List Value} {t : TypeId} {Q : Nat → Prop} (h : BoxK wk nb cs t) (ho : Only Q wk wl) (hn : Q nb → False) : BoxK wl nb cs t := ⟨(ho.block nb h.lt hn).trans h.blk⟩
theorem BoxK.cell {wk : World} {nb : Nat} {cs : List Value} {t : TypeId} (h : BoxK wk nb cs t) (j : Nat) {v : Value} (hj : cs[j]? = some v) : wk.cell? ⟨nb, j, none⟩ = some v := by
  simp only [World.cell?, h.blk]
  simpa using hj

/-- A value, and what lies behind it, from block lo on below hi. -/
structure ItmR {α : Type} (A : Sh α) (wk : World) (cs : List Value) (lo hi : Nat) (x : α) : Prop where
  top : hi ≤ wk.heap.size
  rep : A.rep wk (fun b => lo ≤ b ∧ b < hi) cs x
theorem ItmR.on {α : Type} {A : Sh α} {wk wl : World} {cs : List Value} {lo hi : Nat} {x : α} (h : ItmR A wk cs lo hi x) (hb : Below wk.heap.size wk wl) : ItmR A wl cs lo hi x :=
  ⟨Nat.le_trans h.top hb.size, A.on h.rep fun b hS => hb.block b (by have := h.top; omega)⟩
theorem ItmR.only {α : Type} {A : Sh α} {wk wl : World} {cs : List Value} {lo hi : Nat} {x : α} {Q : Nat → Prop} (h : ItmR A wk cs lo hi x) (ho : Only Q wk wl) (hd : ∀ b, lo ≤ b → b < hi → Q b → False) : ItmR A wl cs lo hi x :=
  ⟨Nat.le_trans h.top ho.size, A.on h.rep fun b hS => ho.block b (by have := h.top; omega) (hd b hS.1 hS.2)⟩

end Go.Proofs.Ytempmfpnngbbeab.rose

namespace Go.Proofs.Ytempmfpnngbbeab.heap
open Go.RowKit Go.Proofs.Ytempmfpnngbbeab.rose Go.Proofs.Ytempmfpnngbbeab
set_option linter.unusedVariables false

abbrev HeapD := List Int × Int × Int × Int
abbrev heapSh : Sh HeapD := Sh.int.slice.pair (Sh.int.pair (Sh.int.pair Sh.int))

theorem heap_open {w : World} {S : Nat → Prop} {cs : List Value} {T : HeapD} (h : heapSh.rep w S cs T) : ∃ x0 a0 c0 x1 x2 x3, T = (x0, x1, x2, x3) ∧ cs = [.slice a0 x0.length c0, .int .i64 x1, .int .i64 x2, .int .i64 x3] ∧ Sh.int.slice.rep w S [.slice a0 x0.length c0] x0 ∧ (-9223372036854775808 ≤ x1 ∧ x1 ≤ 9223372036854775807) ∧ (-9223372036854775808 ≤ x2 ∧ x2 ≤ 9223372036854775807) ∧ (-9223372036854775808 ≤ x3 ∧ x3 ≤ 9223372036854775807) := by
  obtain ⟨x0, x1, x2, x3⟩ := T
  obtain ⟨_, _, rfl, h0, _, _, rfl, ⟨rfl, h1⟩, _, _, rfl, ⟨rfl, h2⟩, ⟨rfl, h3⟩⟩ := h
  obtain ⟨a0, c0, rfl⟩ := slice_cells h0
  exact ⟨_, _, _, _, _, _, rfl, rfl, h0, h1, h2, h3⟩
theorem heap_list {w : World} {S : Nat → Prop} {cs : List Value} {T : HeapD} (h : heapSh.rep w S cs T) : ∃ v0 v1 v2 v3, cs = [v0, v1, v2, v3] := by
  obtain ⟨x0, a0, c0, x1, x2, x3, -, rfl, -⟩ := heap_open h
  exact ⟨_, _, _, _, rfl⟩
theorem heap_shut {w : World} {S : Nat → Prop} {x0 : List Int} {x1 : Int} {x2 : Int} {x3 : Int} {a0 : Option Addr} {c0 : Nat} (h0 : Sh.int.slice.rep w S [.slice a0 x0.length c0] x0) (h1 : -9223372036854775808 ≤ x1 ∧ x1 ≤ 9223372036854775807) (h2 : -9223372036854775808 ≤ x2 ∧ x2 ≤ 9223372036854775807) (h3 : -9223372036854775808 ≤ x3 ∧ x3 ≤ 9223372036854775807) : heapSh.rep w S [.slice a0 x0.length c0, .int .i64 x1, .int .i64 x2, .int .i64 x3] ((x0, x1, x2, x3)) :=
  ⟨[_], _, rfl, h0, [_], _, rfl, ⟨rfl, h1⟩, [_], _, rfl, ⟨rfl, h2⟩, ⟨rfl, h3⟩⟩

theorem heaps_open {w : World} {S : Nat → Prop} {v : Value} {ks : List HeapD} (h : heapSh.slice.rep w S [v] ks) : ∃ a cap css, v = .slice a ks.length cap ∧ ks.length ≤ cap ∧ cap ≤ maxLen ∧ RowAt w S 4 a ks.length css ∧ ∀ i (h : i < ks.length), heapSh.rep w S (css i) ks[i] := by
  obtain ⟨a, cap, css, e, h1, h2, -, h3, h4⟩ := h
  exact ⟨a, cap, css, by simpa using e, h1, h2, h3, h4⟩

theorem heap_cells {w : World} {S : Nat → Prop} {b o i : Nat} {cs : List Value} {T : HeapD} (h : heapSh.rep w S cs T) (hc : CellsAt w b (o + i * 4) cs) :
    ∃ v0 v1 v2 v3, cs = [v0, v1, v2, v3] ∧ w.cell? ⟨b, o + i * 4, none⟩ = some v0 ∧ w.cell? ⟨b, o + i * 4 + 1, none⟩ = some v1 ∧ w.cell? ⟨b, o + i * 4 + 2, none⟩ = some v2 ∧ w.cell? ⟨b, o + i * 4 + 3, none⟩ = some v3 := by
  obtain ⟨v0, v1, v2, v3, rfl⟩ := heap_list h
  exact ⟨_, _, _, _, rfl, hc 0 _ rfl, hc 1 _ rfl, hc 2 _ rfl, hc 3 _ rfl⟩

end Go.Proofs.Ytempmfpnngbbeab.heap

namespace Go.Proofs.Ytempmfpnngbbeab.heap
open Go.RowKit Go.Proofs.Ytempmfpnngbbeab.rose Go.Proofs.Ytempmfpnngbbeab
set_option linter.unusedVariables false
/-- What it weighs. -/
def wt : HeapD → Nat
  | (x0, x1, x2, x3) => x0.length
def wts : List HeapD → Nat
  | [] => 0
  | k :: ks => wt k + wts ks

theorem wts_take {ks : List HeapD} {i : Nat} (h : i < ks.length) : wts (ks.take (i + 1)) = wts (ks.take i) + wt ks[i] := by
  induction ks generalizing i with
  | nil => simp at h
  | cons k ks ih =>
    cases i with
    | zero => simp [wts]
    | succ i => simp [wts, ih (by simpa using h)]; omega
theorem wts_take_le (ks : List HeapD) (i : Nat) : wts (ks.take i) ≤ wts ks := by
  induction ks generalizing i with
  | nil => simp [wts]
  | cons k ks ih =>
    cases i with
    | zero => simp [wts]
    | succ i => simp [wts]; exact ih i
theorem wt_mem {ks : List HeapD} {k : HeapD} (h : k ∈ ks) : wt k ≤ wts ks := by
  induction ks with
  | nil => cases h
  | cons a ks ih =>
    simp only [wts]
    rcases List.mem_cons.1 h with rfl | h
    · omega
    · have := ih h; omega


end Go.Proofs.Ytempmfpnngbbeab.heap

namespace Go.Proofs.Ytempmfpnngbbeab.ints
open Go.RowKit Go.Proofs.Ytempmfpnngbbeab.rose Go.Proofs.Ytempmfpnngbbeab
set_option linter.unusedVariables false

set_option maxHeartbeats 1000000 in
theorem szS_any (ks : List Int) (v : Value) (w : World) (l : Int) (h0 : 0 ≤ l) (h1 : l ≤ 1048576) (h : Sh.int.slice.rep w (· < w.heap.size) [v] ks) :
    Calls Try.prog 24 #[v, .int .i64 l] w fun e w' => e = .returned (.int .i64 (left ks.length l)) ∧ Below w.heap.size w w' := by
  obtain ⟨a, cap, css, e, hcap, hmax, -, -, -⟩ := h
  obtain rfl : v = .slice a ks.length cap := by simpa using e
  have hmx : (ks.length : Int) ≤ 9223372036854775807 := by unfold maxLen at hmax; omega
  clear e hcap hmax
  by_cases hn : (ks.length : Int) ≤ l
  · have t1 : decide (l - (ks.length : Int) < 0) = false := by simp; omega
    have hr : left ks.length l = l - ks.length := by unfold left; rw [if_pos hn]
    go_enter Try.func24, Try.ntmps24
    go_wp2
    go_ret
    exact ⟨by first | rfl | (rw [hr]; rfl), Below.refl _ _⟩
  · have t1 : decide (l - (ks.length : Int) < 0) = true := by simp; omega
    have hr : left ks.length l = -1 := by unfold left; rw [if_neg hn]
    go_enter Try.func24, Try.ntmps24
    go_wp2
    go_ret
    exact ⟨by first | rfl | (rw [hr]; rfl), Below.refl _ _⟩

end Go.Proofs.Ytempmfpnngbbeab.ints

namespace Go.Proofs.Ytempmfpnngbbeab.heap
open Go.RowKit Go.Proofs.Ytempmfpnngbbeab.rose Go.Proofs.Ytempmfpnngbbeab
set_option linter.unusedVariables false

def SzSays (T : HeapD) : Prop := ∀ cs w l, 0 ≤ l → l ≤ 1048576 → heapSh.rep w (· < w.heap.size) cs T →
  Calls Try.prog 7 #[.agg cs.toArray, .int .i64 l] w fun e w' => e = .returned (.int .i64 (left (wt T) l)) ∧ Below w.heap.size w w'

set_option maxHeartbeats 1000000 in
theorem sz_any (T : HeapD) : SzSays T := by
  intro cs w l h0 h1 h
  obtain ⟨x0, a0, c0, x1, x2, x3, rfl, rfl, f0, f1, f2, f3⟩ := heap_open h
  clear h
  have K0 : ∀ (l' : Int) (w' : World), 0 ≤ l' → l' ≤ 1048576 → Below w.heap.size w w' → Calls Try.prog 24 #[.slice a0 x0.length c0, .int .i64 l'] w' fun e w'' => e = .returned (.int .i64 (left (x0.length) l')) ∧ Below w'.heap.size w' w'' :=
    fun l' w' h2 h3 hb => ints.szS_any x0 _ w' l' h2 h3 (Sh.int.slice.mono (Sh.int.slice.below f0 hb) fun b hlt => Nat.lt_of_lt_of_le hlt hb.size)
  clear f0 f1 f2 f3
  have hw : wt ((x0, x1, x2, x3)) = x0.length := by simp [wt]
  rw [hw]
  clear hw
  go_enter Try.func7, Try.ntmps7
  go_wp2_with fail
  refine (K0 _ _ (by omega) (by omega) ((Below.refl _ _).alloc (Nat.le_refl _) _)).mono ?_
  rintro e w1 ⟨rfl, hb⟩
  have B1 : Hid (Below w.heap.size w w1) := ((Below.refl _ _).alloc (Nat.le_refl _) _).trans (hb.mono (by simp))
  have z1 : w.heap.size < w1.heap.size := Nat.lt_of_lt_of_le (by simp) hb.size
  clear hb K0
  by_cases h10 : ((x0.length : Nat) : Int) ≤ l
  · have hl : left x0.length (l) = l - (x0.length : Nat) := by unfold left; rw [if_pos (by omega)]
    rw [hl]
    clear hl
    have t0 : decide (l - (x0.length : Nat) < 0) = false := by simp; omega
    have hr : left (x0.length) l = l - (x0.length : Nat) := by unfold left; rw [if_pos (by omega)]; try omega
    go_wp2
    go_ret
    exact ⟨by first | rfl | (rw [hr]; rfl), B1.out⟩
  · have hl : left x0.length (l) = -1 := by unfold left; rw [if_neg (by omega)]
    have hr : left (x0.length) l = -1 := by unfold left; rw [if_neg (by omega)]
    rw [hl]
    clear hl
    go_wp2
    go_ret
    exact ⟨by first | rfl | (rw [hr]; rfl), B1.out⟩


end Go.Proofs.Ytempmfpnngbbeab.heap
