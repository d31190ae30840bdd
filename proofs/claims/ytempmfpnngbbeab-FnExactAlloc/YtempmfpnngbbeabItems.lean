/-
  What a law keeps while it goes on: values in blocks of its own, and what lies behind them; what a call leaves of them.
-/
import Derived.Test.YtempmfpnngbbeabSep2
namespace Go.Proofs.Ytempmfpnngbbeab.rose
open Go.RowKit Go.Deep Go.ChangeShapes Go.WideShapes
set_option linter.unusedVariables false

/-- A value in block nb, and what lies behind it, from block lo on below hi. -/
structure Itm {α : Type} (A : Sh α) (wk : World) (nb : Nat) (cs : List Value) (t : TypeId) (lo hi : Nat) (x : α) : Prop where
  blk : wk.heap[nb]? = some (.cells cs.toArray t)
  top : hi ≤ wk.heap.size
  rep : A.rep wk (fun b => lo ≤ b ∧ b < hi) cs x

section
variable {α : Type} {A : Sh α} {wk wl : World} {nb lo hi : Nat} {cs : List Value} {t : TypeId} {x : α}

theorem Itm.lt (h : Itm A wk nb cs t lo hi x) : nb < wk.heap.size := (Array.getElem?_eq_some_iff.1 h.blk).1
theorem Itm.on (h : Itm A wk nb cs t lo hi x) (hb : Below wk.heap.size wk wl) : Itm A wl nb cs t lo hi x :=
  ⟨(hb.block nb h.lt).trans h.blk, Nat.le_trans h.top hb.size, A.on h.rep fun b hS => hb.block b (by have := h.top; omega)⟩
theorem Itm.only {Q : Nat → Prop} (h : Itm A wk nb cs t lo hi x) (ho : Only Q wk wl) (hn : ¬ Q nb) (hd : ∀ b, lo ≤ b → b < hi → ¬ Q b) : Itm A wl nb cs t lo hi x :=
  ⟨(ho.block nb h.lt hn).trans h.blk, Nat.le_trans h.top ho.size, A.on h.rep fun b hS => ho.block b (by have := h.top; omega) (hd b hS.1 hS.2)⟩
theorem Itm.in_ (h : Itm A wk nb cs t lo hi x) : A.rep wk (· < wk.heap.size) cs x := A.mono h.rep fun b hb => by have := h.top; omega
theorem Itm.cell (h : Itm A wk nb cs t lo hi x) (j : Nat) {v : Value} (hj : cs[j]? = some v) : wk.cell? ⟨nb, j, none⟩ = some v := by
  simp only [World.cell?, h.blk]
  simpa using hj
theorem Itm.new (hr : A.rep wk (fun b => lo ≤ b ∧ b < hi) cs x) (hh : hi ≤ wk.heap.size) {arr : Array Value} (ha : arr = cs.toArray) : Itm A (wk.alloc (.cells arr t)) wk.heap.size cs t lo hi x := by
  subst ha
  have hA : Below wk.heap.size wk (wk.alloc (.cells cs.toArray t)) := (Below.refl _ _).alloc (Nat.le_refl _) _
  exact ⟨alloc_top _ _, Nat.le_trans hh hA.size, A.on hr fun b hS => hA.block b (by omega)⟩
theorem Itm.as {B : Sh α} (h : Itm A wk nb cs t lo hi x) (hc : ∀ {w S cs x}, A.rep w S cs x → B.rep w S cs x) : Itm B wk nb cs t lo hi x := ⟨h.blk, h.top, hc h.rep⟩
end

/-- A slice in a slot, and what lies behind it, from block lo on below hi. -/
structure ItmS {α : Type} (A : Sh α) (wk : World) (v : Value) (lo hi : Nat) (x : α) : Prop where
  top : hi ≤ wk.heap.size
  rep : A.rep wk (fun b => lo ≤ b ∧ b < hi) [v] x
theorem ItmS.on {α : Type} {A : Sh α} {wk wl : World} {v : Value} {lo hi : Nat} {x : α} (h : ItmS A wk v lo hi x) (hb : Below wk.heap.size wk wl) : ItmS A wl v lo hi x :=
  ⟨Nat.le_trans h.top hb.size, A.on h.rep fun b hS => hb.block b (by have := h.top; omega)⟩
theorem ItmS.only {α : Type} {A : Sh α} {wk wl : World} {v : Value} {lo hi : Nat} {x : α} {Q : Nat → Prop} (h : ItmS A wk v lo hi x) (ho : Only Q wk wl) (hd : ∀ b, lo ≤ b → b < hi → ¬ Q b) : ItmS A wl v lo hi x :=
  ⟨Nat.le_trans h.top ho.size, A.on h.rep fun b hS => ho.block b (by have := h.top; omega) (hd b hS.1 hS.2)⟩
theorem ItmS.in_ {α : Type} {A : Sh α} {wk : World} {v : Value} {lo hi : Nat} {x : α} (h : ItmS A wk v lo hi x) : A.rep wk (· < wk.heap.size) [v] x := A.mono h.rep fun b hb => by have := h.top; omega
theorem ItmS.as {α : Type} {A B : Sh α} {wk : World} {v : Value} {lo hi : Nat} {x : α} (h : ItmS A wk v lo hi x) (hc : ∀ {w S cs x}, A.rep w S cs x → B.rep w S cs x) : ItmS B wk v lo hi x := ⟨h.top, hc h.rep⟩

/-- The argument's own block. -/
structure ArgK (w wk : World) (cs : List Value) (t : TypeId) : Prop where
  bel : Below w.heap.size w wk
  blk : wk.heap[w.heap.size]? = some (.cells cs.toArray t)
theorem ArgK.lt {w wk : World} {cs : List Value} {t : TypeId} (h : ArgK w wk cs t) : w.heap.size < wk.heap.size := (Array.getElem?_eq_some_iff.1 h.blk).1
theorem ArgK.on {w wk wl : World} {cs : List Value} {t : TypeId} (h : ArgK w wk cs t) (hb : Below wk.heap.size wk wl) : ArgK w wl cs t := ⟨h.bel.trans (hb.mono h.bel.size), (hb.block _ h.lt).trans h.blk⟩
theorem ArgK.only {w wk wl : World} {cs : List Value} {t : TypeId} {Q : Nat → Prop} (h : ArgK w wk cs t) (ho : Only Q wk wl) (hQ : ∀ b, Q b → w.heap.size < b) : ArgK w wl cs t :=
  ⟨h.bel.trans (ho.below (Nat.le_of_lt h.lt) fun b hb => Nat.le_of_lt (hQ b hb)), (ho.block _ h.lt fun hq => Nat.lt_irrefl _ (hQ _ hq)).trans h.blk⟩
theorem ArgK.drew {w wk : World} {cs : List Value} {t : TypeId} (h : ArgK w wk cs t) : ArgK w wk.drew cs t := ⟨h.bel.drew, h.blk⟩
theorem ArgK.cell {w wk : World} {cs : List Value} {t : TypeId} (h : ArgK w wk cs t) (j : Nat) {v : Value} (hj : cs[j]? = some v) : wk.cell? ⟨w.heap.size, j, none⟩ = some v := by
  simp only [World.cell?, h.blk]
  simpa using hj
theorem ArgK.new (w : World) (cs : List Value) (t : TypeId) {arr : Array Value} (ha : arr = cs.toArray) : ArgK w (w.alloc (.cells arr t)) cs t := by
  subst ha
  exact ⟨(Below.refl _ _).alloc (Nat.le_refl _) _, alloc_top _ _⟩

end Go.Proofs.Ytempmfpnngbbeab.rose
