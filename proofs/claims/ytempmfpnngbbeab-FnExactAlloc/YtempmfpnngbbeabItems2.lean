/-
  What a law keeps while it goes on, further: an argument's own block; a value, or a slice, and what lies behind it.
-/
import Derived.Test.YtempmfpnngbbeabItems
namespace Go.Proofs.Ytempmfpnngbbeab.rose
open Go.RowKit Go.Deep Go.ChangeShapes Go.WideShapes
set_option linter.unusedVariables false

/-- An argument's own block. -/
structure BoxK (wk : World) (nb : Nat) (cs : List Value) (t : TypeId) : Prop where
  blk : wk.heap[nb]? = some (.cells cs.toArray t)
theorem BoxK.lt {wk : World} {nb : Nat} {cs : List Value} {t : TypeId} (h : BoxK wk nb cs t) : nb < wk.heap.size := (Array.getElem?_eq_some_iff.1 h.blk).1
theorem BoxK.on {wk wl : World} {nb : Nat} {cs : List Value} {t : TypeId} (h : BoxK wk nb cs t) (hb : Below wk.heap.size wk wl) : BoxK wl nb cs t := ⟨(hb.block nb h.lt).trans h.blk⟩
theorem BoxK.only {wk wl : World} {nb : Nat} {cs : List Value} {t : TypeId} {Q : Nat → Prop} (h : BoxK wk nb cs t) (ho : Only Q wk wl) (hn : Q nb → False) : BoxK wl nb cs t := ⟨(ho.block nb h.lt hn).trans h.blk⟩
theorem BoxK.cell {wk : World} {nb : Nat} {cs : List Value} {t : TypeId} (h : BoxK wk nb cs t) (j : Nat) {v : Value} (hj : cs[j]? = some v) : wk.cell? ⟨nb, j, none⟩ = some v := by
  simp only [World.cell?, h.blk]
  simpa using hj

/-- A value, and what lies behind it, from block lo on below hi. -/
structure ItmR {α : Type} (A : Sh α) (wk : World) (cs : List Value) (lo hi : Nat) (x : α) : Prop where
  top : hi ≤ wk.heap.size
  rep : A.rep wk (fun b => lo ≤ b ∧ b < hi) cs x
theorem ItmR.on {α : Type} {A : Sh α} {wk wl : World} {cs : List Value} {lo hi : Nat} {x : α} (h : ItmR A wk cs lo hi x) (hb : Below wk.heap.size wk wl) : ItmR A wl cs lo hi x :=
  ⟨Nat.le_trans h.top hb.size, A.on h.rep fun b hS => hb.block b (by have := h.top; omega)⟩
theorem ItmR.only {α : Type} {A : Sh α} {wk wl : World} {cs : List Value} {lo hi : Nat} {x : α} {Q : Nat → Prop} (h : ItmR A wk cs lo hi x) (ho : Only Q wk wl) (hd : ∀ b, lo ≤ b → b < hi → Q b → False) : ItmR A wl cs lo hi x :=
  ⟨Nat.le_trans h.top ho.size, A.on h.rep fun b hS => ho.block b (by have := h.top; omega) (hd b hS.1 hS.2)⟩

end Go.Proofs.Ytempmfpnngbbeab.rose
