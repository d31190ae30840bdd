/-
  What a law keeps while it goes on: values in blocks of its own, and what lies behind them; what a call leaves of them.
  What a law keeps while it goes on, further: an argument's own block; a value, or a slice, and what lies behind it.
  The law's type Op as it lies in memory.
  The law's type Fun as it lies in memory.
  The law's type Heap as it lies in memory.
  The law's type Call as it lies in memory.
  The law's type Vm as it lies in memory.
  The law's measure of slices of Ops: what is left of a number when their length is taken off it, or -1.
-/
import Derived.Test.YtjibmpebebephaaGreatDoorChecked
import Derived.WalkKit
import Derived.WalkLawsBesides
import Derived.Deep.QuietTactic
import Derived.BigQuiet
import Derived.Test.YtjibmpebebephaaGreatDoorB1
import Derived.Test.YtjibmpebebephaaGreatDoorB2
import Derived.Test.YtjibmpebebephaaGreatDoorB3
namespace Go.Proofs.YtjibmpebebephaaGreatDoor.rose
open Go.RowKit Go.Deep Go.ChangeShapes Go.WideShapes
set_option linter.unusedVariables false

/-- A value in block nb, and what lies behind it, from block lo on below hi. -/
structure Itm {α : Type} (A : Sh α) (wk : World) (nb : Nat) (cs : List Value) (t : TypeId) (lo hi : Nat) (x : α) : Prop where
  blk : wk.heap[nb]? = some (.cells cs.toArray t)
  top : hi ≤ wk.heap.size
  rep : A.rep wk (fun b => lo ≤ b ∧ b < hi) cs x

section
variable {α : Type} {A : Sh α} {wk wl : World} {nb lo hi : Nat} {cs : List Value} {t : TypeId} {x : α}

theorem Itm.lt (h : Itm A wk nb cs t lo hi x) : nb < wk.heap.size := (Array.getElem?_eq_some_iff.1 h.blk).1
theorem Itm.on (h : Itm A wk nb cs t lo hi x) (hb : Below wk.heap.size wk wl) : Itm A wl nb cs t lo hi x :=
  ⟨(hb.block nb h.lt).trans h.blk, Nat.le_trans h.top hb.size, A.on h.rep fun b hS => hb.block b (by have := h.top; omega)⟩
theorem Itm.only {Q : Nat → Prop} (h : Itm A wk nb cs t lo hi x) (ho : Only Q wk wl) (hn : ¬ Q nb) (hd : ∀ b, lo ≤ b → b < hi → ¬ Q b) : Itm A wl nb cs t lo hi x :=
  ⟨(ho.block nb h.lt hn).trans h.blk, Nat.le_trans h.top ho.size, A.on h.rep fun b hS => ho.block b (by have := h.top; omega) (hd b hS.1 hS.2)⟩
theorem Itm.in_ (h : Itm A wk nb cs t lo hi x) : A.rep wk (· < wk.heap.size) cs x := A.mono h.rep fun b hb => by have := h.top; omega
theorem Itm.cell (h : Itm A wk nb cs t lo hi x) (j : Nat) {v : Value} (hj : cs[j]? = some v) : wk.cell? ⟨nb, j, none⟩ = some v := by
  simp only [World.cell?, h.blk]
  simpa using hj
theorem Itm.new (hr : A.rep wk (fun b => lo ≤ b ∧ b < hi) cs x) (hh : hi ≤ wk.heap.size) {arr : Array Value} (ha : arr = cs.toArray) : Itm A (wk.alloc (.cells arr t)) wk.heap.size cs t lo hi x := by
  subst ha
  have hA : Below wk.heap.size wk (wk.alloc (.cells cs.toArray t)) := (Below.refl _ _).alloc (Nat.le_refl _) _
  exact ⟨alloc_top _ _, Nat.le_trans hh hA.size, A.on hr fun b hS => hA.block b (by omega)⟩
theorem Itm.as {B : Sh α} (h : Itm A wk nb cs t lo hi x) (hc : ∀ {w S cs x}, A.rep w S cs x → B.rep w S cs x) : Itm B wk nb cs t lo hi x := ⟨h.blk, h.top, hc h.rep⟩
end

/-- A slice in a slot, and what lies behind it, from block lo on below hi. -/
structure ItmS {α : Type} (A : Sh α) (wk : World) (v : Value) (lo hi : Nat) (x : α) : Prop where
  top : hi ≤ wk.heap.size
  rep : A.rep wk (fun b => lo ≤ b ∧ b < hi) [v] x
theorem ItmS.on {α : Type} {A : Sh α} {wk wl : World} {v : Value} {lo hi : Nat} {x : α} (h : ItmS A wk v lo hi x) (hb : Below wk.heap.size wk wl) : ItmS A wl v lo hi x :=
  ⟨Nat.le_trans h.top hb.size, A.on h.rep fun b hS => hb.block b (by have := h.top; omega)⟩
theorem ItmS.only {α : Type} {A : Sh α} {wk wl : World} {v : Value} {lo hi : Nat} {x : α} {Q : Nat → Prop} (h : ItmS A wk v lo hi x) (ho : Only Q wk wl) (hd : ∀ b, lo ≤ b → b < hi → ¬ Q b) : ItmS A wl v lo hi x :=
  ⟨Nat.le_trans h.top ho.size, A.on h.rep fun b hS => ho.block b (by have := h.top; omega) (hd b hS.1 hS.2)⟩
theorem ItmS.in_ {α : Type} {A : Sh α} {wk : World} {v : Value} {lo hi : Nat} {x : α} (h : ItmS A wk v lo hi x) : A.rep wk (· < wk.heap.size) [v] x := A.mono h.rep fun b hb => by have := h.top; omega
theorem ItmS.as {α : Type} {A B : Sh α} {wk : World} {v : Value} {lo hi : Nat} {x : α} (h : ItmS A wk v lo hi x) (hc : ∀ {w S cs x}, A.rep w S cs x → B.rep w S cs x) : ItmS B wk v lo hi x := ⟨h.top, hc h.rep⟩

/-- The argument's own block. -/
structure ArgK (w wk : World) (cs : List Value) (t : TypeId) : Prop where
  bel : Below w.heap.size w wk
  blk : wk.heap[w.heap.size]? = some (.cells cs.toArray t)
theorem ArgK.lt {w wk : World} {cs : List Value} {t : TypeId} (h : ArgK w wk cs t) : w.heap.size < wk.heap.size := (Array.getElem?_eq_some_iff.1 h.blk).1
theorem ArgK.on {w wk wl : World} {cs : List Value} {t : TypeId} (h : ArgK w wk cs t) (hb : Below wk.heap.size wk wl) : ArgK w wl cs t := ⟨h.bel.trans (hb.mono h.bel.size), (hb.block _ h.lt).trans h.blk⟩
theorem ArgK.only {w wk wl : World} {cs : List Value} {t : TypeId} {Q : Nat → Prop} (h : ArgK w wk cs t) (ho : Only Q wk wl) (hQ : ∀ b, Q b → w.heap.size < b) : ArgK w wl cs t :=
  ⟨h.bel.trans (ho.below (Nat.le_of_lt h.lt) fun b hb => Nat.le_of_lt (hQ b hb)), (ho.block _ h.lt fun hq => Nat.lt_irrefl _ (hQ _ hq)).trans h.blk⟩
theorem ArgK.drew {w wk : World} {cs : List Value} {t : TypeId} (h : ArgK w wk cs t) : ArgK w wk.drew cs t := ⟨h.bel.drew, h.blk⟩
theorem ArgK.cell {w wk : World} {cs : List Value} {t : TypeId} (h : ArgK w wk cs t) (j : Nat) {v : Value} (hj : cs[j]? = some v) : wk.cell? ⟨w.heap.size, j, none⟩ = some v := by
  simp only [World.cell?, h.blk]
  simpa using hj
theorem ArgK.new (w : World) (cs : List Value) (t : TypeId) {arr : Array Value} (ha : arr = cs.toArray) : ArgK w (w.alloc (.cells arr t)) cs t := by
  subst ha
  exact ⟨(Below.refl _ _).alloc (Nat.le_refl _) _, alloc_top _ _⟩

end Go.Proofs.YtjibmpebebephaaGreatDoor.rose

namespace Go.Proofs.YtjibmpebebephaaGreatDoor.rose
open Go.RowKit Go.Deep Go.ChangeShapes Go.WideShapes
set_option linter.unusedVariables false

/-- An argument's own block. -/
structure BoxK (wk : World) (nb : Nat) (cs : List Value) (t : TypeId) : Prop where
  blk : wk.heap[nb]? = some (.cells cs.toArray t)
theorem BoxK.lt {wk : World} {nb : Nat} {cs : List Value} {t : TypeId} (h : BoxK wk nb cs t) : nb < wk.heap.size := (Array.getElem?_eq_some_iff.1 h.blk).1
theorem BoxK.on {wk wl : World} {nb : Nat} {cs : List Value} {t : TypeId} (h : BoxK wk nb cs t) (hb : Below wk.heap.size wk wl) : BoxK wl nb cs t := ⟨(hb.block nb h.lt).trans h.blk⟩
theorem BoxK.only {wk wl : World} {nb : Nat} {cs : List Value} {t : TypeId} {Q : Nat → Prop} (h : BoxK wk nb cs t) (ho : Only Q wk wl) (hn : Q nb → False) : BoxK wl nb cs t := ⟨(ho.block nb h.lt hn).trans h.blk⟩
theorem BoxK.cell {wk : World} {nb : Nat} {cs : List Value} {t : TypeId} (h : BoxK wk nb cs t) (j : Nat) {v : Value} (hj : cs[j]? = some v) : wk.cell? ⟨nb, j, none⟩ = some v := by
  simp only [World.cell?, h.blk]
  simpa using hj

/-- A value, and what lies behind it, from block lo on below hi. -/
structure ItmR {α : Type} (A : Sh α) (wk : World) (cs : List Value) (lo hi : Nat) (x : α) : Prop where
  top : hi ≤ wk.heap.size
  rep : A.rep wk (fun b => lo ≤ b ∧ b < hi) cs x
theorem ItmR.on {α : Type} {A : Sh α} {wk wl : World} {cs : List Value} {lo hi : Nat} {x : α} (h : ItmR A wk cs lo hi x) (hb : Below wk.heap.size wk wl) : ItmR A wl cs lo hi x :=
  ⟨Nat.le_trans h.top hb.size, A.on h.rep fun b hS => hb.block b (by have := h.top; omega)⟩
theorem ItmR.only {α : Type} {A : Sh α} {wk wl : World} {cs : List Value} {lo hi : Nat} {x : α} {Q : Nat → Prop} (h : ItmR A wk cs lo hi x) (ho : Only Q wk wl) (hd : ∀ b, lo ≤ b → b < hi → Q b → False) : ItmR A wl cs lo hi x :=
  ⟨Nat.le_trans h.top ho.size, A.on h.rep fun b hS => ho.block b (by have := h.top; omega) (hd b hS.1 hS.2)⟩

end Go.Proofs.YtjibmpebebephaaGreatDoor.rose

namespace Go.Proofs.YtjibmpebebephaaGreatDoor.op
open Go.RowKit Go.Proofs.YtjibmpebebephaaGreatDoor.rose Go.Proofs.YtjibmpebebephaaGreatDoor
set_option linter.unusedVariables false

abbrev OpD := Int × Int × Int
abbrev opSh : Sh OpD := Sh.int.pair (Sh.int.pair Sh.int)

theorem op_open {w : World} {S : Nat → Prop} {cs : List Value} {T : OpD} (h : opSh.rep w S cs T) : ∃ x0 x1 x2, T = (x0, x1, x2) ∧ cs = [.int .i64 x0, .int .i64 x1, .int .i64 x2] ∧ (-9223372036854775808 ≤ x0 ∧ x0 ≤ 9223372036854775807) ∧ (-9223372036854775808 ≤ x1 ∧ x1 ≤ 9223372036854775807) ∧ (-9223372036854775808 ≤ x2 ∧ x2 ≤ 9223372036854775807) := by
  obtain ⟨x0, x1, x2⟩ := T
  obtain ⟨_, _, rfl, ⟨rfl, h0⟩, _, _, rfl, ⟨rfl, h1⟩, ⟨rfl, h2⟩⟩ := h
  exact ⟨_, _, _, rfl, rfl, h0, h1, h2⟩
theorem op_list {w : World} {S : Nat → Prop} {cs : List Value} {T : OpD} (h : opSh.rep w S cs T) : ∃ v0 v1 v2, cs = [v0, v1, v2] := by
  obtain ⟨x0, x1, x2, -, rfl, -⟩ := op_open h
  exact ⟨_, _, _, rfl⟩
theorem op_shut {w : World} {S : Nat → Prop} {x0 : Int} {x1 : Int} {x2 : Int} (h0 : -9223372036854775808 ≤ x0 ∧ x0 ≤ 9223372036854775807) (h1 : -9223372036854775808 ≤ x1 ∧ x1 ≤ 9223372036854775807) (h2 : -9223372036854775808 ≤ x2 ∧ x2 ≤ 9223372036854775807) : opSh.rep w S [.int .i64 x0, .int .i64 x1, .int .i64 x2] ((x0, x1, x2)) :=
  ⟨[_], _, rfl, ⟨rfl, h0⟩, [_], _, rfl, ⟨rfl, h1⟩, ⟨rfl, h2⟩⟩

theorem ops_open {w : World} {S : Nat → Prop} {v : Value} {ks : List OpD} (h : opSh.slice.rep w S [v] ks) : ∃ a cap css, v = .slice a ks.length cap ∧ ks.length ≤ cap ∧ cap ≤ maxLen ∧ RowAt w S 3 a ks.length css ∧ ∀ i (h : i < ks.length), opSh.rep w S (css i) ks[i] := by
  obtain ⟨a, cap, css, e, h1, h2, -, h3, h4⟩ := h
  exact ⟨a, cap, css, by simpa using e, h1, h2, h3, h4⟩

theorem op_cells {w : World} {S : Nat → Prop} {b o i : Nat} {cs : List Value} {T : OpD} (h : opSh.rep w S cs T) (hc : CellsAt w b (o + i * 3) cs) :
    ∃ v0 v1 v2, cs = [v0, v1, v2] ∧ w.cell? ⟨b, o + i * 3, none⟩ = some v0 ∧ w.cell? ⟨b, o + i * 3 + 1, none⟩ = some v1 ∧ w.cell? ⟨b, o + i * 3 + 2, none⟩ = some v2 := by
  obtain ⟨v0, v1, v2, rfl⟩ := op_list h
  exact ⟨_, _, _, rfl, hc 0 _ rfl, hc 1 _ rfl, hc 2 _ rfl⟩


end Go.Proofs.YtjibmpebebephaaGreatDoor.op

namespace Go.Proofs.YtjibmpebebephaaGreatDoor.fun
open Go.RowKit Go.Proofs.YtjibmpebebephaaGreatDoor.rose Go.Proofs.YtjibmpebebephaaGreatDoor
set_option linter.unusedVariables false

abbrev FunD := Int × List op.OpD
abbrev funSh : Sh FunD := Sh.int.pair op.opSh.slice

theorem fun_open {w : World} {S : Nat → Prop} {cs : List Value} {T : FunD} (h : funSh.rep w S cs T) : ∃ x0 x1 a1 c1, T = (x0, x1) ∧ cs = [.int .i64 x0, .slice a1 x1.length c1] ∧ (-9223372036854775808 ≤ x0 ∧ x0 ≤ 9223372036854775807) ∧ op.opSh.slice.rep w S [.slice a1 x1.length c1] x1 := by
  obtain ⟨x0, x1⟩ := T
  obtain ⟨_, _, rfl, ⟨rfl, h0⟩, h1⟩ := h
  obtain ⟨a1, c1, rfl⟩ := slice_cells h1
  exact ⟨_, _, _, _, rfl, rfl, h0, h1⟩
theorem fun_list {w : World} {S : Nat → Prop} {cs : List Value} {T : FunD} (h : funSh.rep w S cs T) : ∃ v0 v1, cs = [v0, v1] := by
  obtain ⟨x0, x1, a1, c1, -, rfl, -⟩ := fun_open h
  exact ⟨_, _, rfl⟩
theorem fun_shut {w : World} {S : Nat → Prop} {x0 : Int} {x1 : List op.OpD} {a1 : Option Addr} {c1 : Nat} (h0 : -9223372036854775808 ≤ x0 ∧ x0 ≤ 9223372036854775807) (h1 : op.opSh.slice.rep w S [.slice a1 x1.length c1] x1) : funSh.rep w S [.int .i64 x0, .slice a1 x1.length c1] ((x0, x1)) :=
  ⟨[_], _, rfl, ⟨rfl, h0⟩, h1⟩

theorem funs_open {w : World} {S : Nat → Prop} {v : Value} {ks : List FunD} (h : funSh.slice.rep w S [v] ks) : ∃ a cap css, v = .slice a ks.length cap ∧ ks.length ≤ cap ∧ cap ≤ maxLen ∧ RowAt w S 2 a ks.length css ∧ ∀ i (h : i < ks.length), funSh.rep w S (css i) ks[i] := by
  obtain ⟨a, cap, css, e, h1, h2, -, h3, h4⟩ := h
  exact ⟨a, cap, css, by simpa using e, h1, h2, h3, h4⟩

theorem fun_cells {w : World} {S : Nat → Prop} {b o i : Nat} {cs : List Value} {T : FunD} (h : funSh.rep w S cs T) (hc : CellsAt w b (o + i * 2) cs) :
    ∃ v0 v1, cs = [v0, v1] ∧ w.cell? ⟨b, o + i * 2, none⟩ = some v0 ∧ w.cell? ⟨b, o + i * 2 + 1, none⟩ = some v1 := by
  obtain ⟨v0, v1, rfl⟩ := fun_list h
  exact ⟨_, _, rfl, hc 0 _ rfl, hc 1 _ rfl⟩

end Go.Proofs.YtjibmpebebephaaGreatDoor.fun

namespace Go.Proofs.YtjibmpebebephaaGreatDoor.heap
open Go.RowKit Go.Proofs.YtjibmpebebephaaGreatDoor.rose Go.Proofs.YtjibmpebebephaaGreatDoor
set_option linter.unusedVariables false

abbrev HeapD := List Int × Int × Int × Int
abbrev heapSh : Sh HeapD := Sh.int.slice.pair (Sh.int.pair (Sh.int.pair Sh.int))

theorem heap_open {w : World} {S : Nat → Prop} {cs : List Value} {T : HeapD} (h : heapSh.rep w S cs T) : ∃ x0 a0 c0 x1 x2 x3, T = (x0, x1, x2, x3) ∧ cs = [.slice a0 x0.length c0, .int .i64 x1, .int .i64 x2, .int .i64 x3] ∧ Sh.int.slice.rep w S [.slice a0 x0.length c0] x0 ∧ (-9223372036854775808 ≤ x1 ∧ x1 ≤ 9223372036854775807) ∧ (-9223372036854775808 ≤ x2 ∧ x2 ≤ 9223372036854775807) ∧ (-9223372036854775808 ≤ x3 ∧ x3 ≤ 9223372036854775807) := by
  obtain ⟨x0, x1, x2, x3⟩ := T
  obtain ⟨_, _, rfl, h0, _, _, rfl, ⟨rfl, h1⟩, _, _, rfl, ⟨rfl, h2⟩, ⟨rfl, h3⟩⟩ := h
  obtain ⟨a0, c0, rfl⟩ := slice_cells h0
  exact ⟨_, _, _, _, _, _, rfl, rfl, h0, h1, h2, h3⟩
theorem heap_list {w : World} {S : Nat → Prop} {cs : List Value} {T : HeapD} (h : heapSh.rep w S cs T) : ∃ v0 v1 v2 v3, cs = [v0, v1, v2, v3] := by
  obtain ⟨x0, a0, c0, x1, x2, x3, -, rfl, -⟩ := heap_open h
  exact ⟨_, _, _, _, rfl⟩
theorem heap_shut {w : World} {S : Nat → Prop} {x0 : List Int} {x1 : Int} {x2 : Int} {x3 : Int} {a0 : Option Addr} {c0 : Nat} (h0 : Sh.int.slice.rep w S [.slice a0 x0.length c0] x0) (h1 : -9223372036854775808 ≤ x1 ∧ x1 ≤ 9223372036854775807) (h2 : -9223372036854775808 ≤ x2 ∧ x2 ≤ 9223372036854775807) (h3 : -9223372036854775808 ≤ x3 ∧ x3 ≤ 9223372036854775807) : heapSh.rep w S [.slice a0 x0.length c0, .int .i64 x1, .int .i64 x2, .int .i64 x3] ((x0, x1, x2, x3)) :=
  ⟨[_], _, rfl, h0, [_], _, rfl, ⟨rfl, h1⟩, [_], _, rfl, ⟨rfl, h2⟩, ⟨rfl, h3⟩⟩

theorem heaps_open {w : World} {S : Nat → Prop} {v : Value} {ks : List HeapD} (h : heapSh.slice.rep w S [v] ks) : ∃ a cap css, v = .slice a ks.length cap ∧ ks.length ≤ cap ∧ cap ≤ maxLen ∧ RowAt w S 4 a ks.length css ∧ ∀ i (h : i < ks.length), heapSh.rep w S (css i) ks[i] := by
  obtain ⟨a, cap, css, e, h1, h2, -, h3, h4⟩ := h
  exact ⟨a, cap, css, by simpa using e, h1, h2, h3, h4⟩

theorem heap_cells {w : World} {S : Nat → Prop} {b o i : Nat} {cs : List Value} {T : HeapD} (h : heapSh.rep w S cs T) (hc : CellsAt w b (o + i * 4) cs) :
    ∃ v0 v1 v2 v3, cs = [v0, v1, v2, v3] ∧ w.cell? ⟨b, o + i * 4, none⟩ = some v0 ∧ w.cell? ⟨b, o + i * 4 + 1, none⟩ = some v1 ∧ w.cell? ⟨b, o + i * 4 + 2, none⟩ = some v2 ∧ w.cell? ⟨b, o + i * 4 + 3, none⟩ = some v3 := by
  obtain ⟨v0, v1, v2, v3, rfl⟩ := heap_list h
  exact ⟨_, _, _, _, rfl, hc 0 _ rfl, hc 1 _ rfl, hc 2 _ rfl, hc 3 _ rfl⟩

end Go.Proofs.YtjibmpebebephaaGreatDoor.heap

namespace Go.Proofs.YtjibmpebebephaaGreatDoor.call
open Go.RowKit Go.Proofs.YtjibmpebebephaaGreatDoor.rose Go.Proofs.YtjibmpebebephaaGreatDoor
set_option linter.unusedVariables false

abbrev CallD := Int × Int × Int
abbrev callSh : Sh CallD := Sh.int.pair (Sh.int.pair Sh.int)

theorem call_open {w : World} {S : Nat → Prop} {cs : List Value} {T : CallD} (h : callSh.rep w S cs T) : ∃ x0 x1 x2, T = (x0, x1, x2) ∧ cs = [.int .i64 x0, .int .i64 x1, .int .i64 x2] ∧ (-9223372036854775808 ≤ x0 ∧ x0 ≤ 9223372036854775807) ∧ (-9223372036854775808 ≤ x1 ∧ x1 ≤ 9223372036854775807) ∧ (-9223372036854775808 ≤ x2 ∧ x2 ≤ 9223372036854775807) := by
  obtain ⟨x0, x1, x2⟩ := T
  obtain ⟨_, _, rfl, ⟨rfl, h0⟩, _, _, rfl, ⟨rfl, h1⟩, ⟨rfl, h2⟩⟩ := h
  exact ⟨_, _, _, rfl, rfl, h0, h1, h2⟩
theorem call_list {w : World} {S : Nat → Prop} {cs : List Value} {T : CallD} (h : callSh.rep w S cs T) : ∃ v0 v1 v2, cs = [v0, v1, v2] := by
  obtain ⟨x0, x1, x2, -, rfl, -⟩ := call_open h
  exact ⟨_, _, _, rfl⟩
theorem call_shut {w : World} {S : Nat → Prop} {x0 : Int} {x1 : Int} {x2 : Int} (h0 : -9223372036854775808 ≤ x0 ∧ x0 ≤ 9223372036854775807) (h1 : -9223372036854775808 ≤ x1 ∧ x1 ≤ 9223372036854775807) (h2 : -9223372036854775808 ≤ x2 ∧ x2 ≤ 9223372036854775807) : callSh.rep w S [.int .i64 x0, .int .i64 x1, .int .i64 x2] ((x0, x1, x2)) :=
  ⟨[_], _, rfl, ⟨rfl, h0⟩, [_], _, rfl, ⟨rfl, h1⟩, ⟨rfl, h2⟩⟩

theorem calls_open {w : World} {S : Nat → Prop} {v : Value} {ks : List CallD} (h : callSh.slice.rep w S [v] ks) : ∃ a cap css, v = .slice a ks.length cap ∧ ks.length ≤ cap ∧ cap ≤ maxLen ∧ RowAt w S 3 a ks.length css ∧ ∀ i (h : i < ks.length), callSh.rep w S (css i) ks[i] := by
  obtain ⟨a, cap, css, e, h1, h2, -, h3, h4⟩ := h
  exact ⟨a, cap, css, by simpa using e, h1, h2, h3, h4⟩

theorem call_cells {w : World} {S : Nat → Prop} {b o i : Nat} {cs : List Value} {T : CallD} (h : callSh.rep w S cs T) (hc : CellsAt w b (o + i * 3) cs) :
    ∃ v0 v1 v2, cs = [v0, v1, v2] ∧ w.cell? ⟨b, o + i * 3, none⟩ = some v0 ∧ w.cell? ⟨b, o + i * 3 + 1, none⟩ = some v1 ∧ w.cell? ⟨b, o + i * 3 + 2, none⟩ = some v2 := by
  obtain ⟨v0, v1, v2, rfl⟩ := call_list h
  exact ⟨_, _, _, rfl, hc 0 _ rfl, hc 1 _ rfl, hc 2 _ rfl⟩


end Go.Proofs.YtjibmpebebephaaGreatDoor.call

namespace Go.Proofs.YtjibmpebebephaaGreatDoor.vm
open Go.RowKit Go.Proofs.YtjibmpebebephaaGreatDoor.rose Go.Proofs.YtjibmpebebephaaGreatDoor
set_option linter.unusedVariables false

abbrev VmD := List fun.FunD × heap.HeapD × List Int × List call.CallD × List Int × Int × Bool
abbrev vmSh : Sh VmD := fun.funSh.slice.pair (heap.heapSh.pair (Sh.int.slice.pair (call.callSh.slice.pair (Sh.int.slice.pair (Sh.int.pair Sh.bool)))))

theorem vm_open {w : World} {S : Nat → Prop} {cs : List Value} {T : VmD} (h : vmSh.rep w S cs T) : ∃ x0 a0 c0 x1 u1_0 u1_1 u1_2 u1_3 x2 a2 c2 x3 a3 c3 x4 a4 c4 x5 x6, T = (x0, x1, x2, x3, x4, x5, x6) ∧ cs = [.slice a0 x0.length c0, u1_0, u1_1, u1_2, u1_3, .slice a2 x2.length c2, .slice a3 x3.length c3, .slice a4 x4.length c4, .int .i64 x5, .bool x6] ∧ fun.funSh.slice.rep w S [.slice a0 x0.length c0] x0 ∧ heap.heapSh.rep w S [u1_0, u1_1, u1_2, u1_3] x1 ∧ Sh.int.slice.rep w S [.slice a2 x2.length c2] x2 ∧ call.callSh.slice.rep w S [.slice a3 x3.length c3] x3 ∧ Sh.int.slice.rep w S [.slice a4 x4.length c4] x4 ∧ (-9223372036854775808 ≤ x5 ∧ x5 ≤ 9223372036854775807) := by
  obtain ⟨x0, x1, x2, x3, x4, x5, x6⟩ := T
  obtain ⟨_, _, rfl, h0, _, _, rfl, h1, _, _, rfl, h2, _, _, rfl, h3, _, _, rfl, h4, _, _, rfl, ⟨rfl, h5⟩, rfl⟩ := h
  obtain ⟨a0, c0, rfl⟩ := slice_cells h0
  obtain ⟨u1_0, u1_1, u1_2, u1_3, rfl⟩ := heap.heap_list h1
  obtain ⟨a2, c2, rfl⟩ := slice_cells h2
  obtain ⟨a3, c3, rfl⟩ := slice_cells h3
  obtain ⟨a4, c4, rfl⟩ := slice_cells h4
  exact ⟨_, _, _, _, _, _, _, _, _, _, _, _, _, _, _, _, _, _, _, rfl, rfl, h0, h1, h2, h3, h4, h5⟩
theorem vm_list {w : World} {S : Nat → Prop} {cs : List Value} {T : VmD} (h : vmSh.rep w S cs T) : ∃ v0 v1 v2 v3 v4 v5 v6 v7 v8 v9, cs = [v0, v1, v2, v3, v4, v5, v6, v7, v8, v9] := by
  obtain ⟨x0, a0, c0, x1, u1_0, u1_1, u1_2, u1_3, x2, a2, c2, x3, a3, c3, x4, a4, c4, x5, x6, -, rfl, -⟩ := vm_open h
  exact ⟨_, _, _, _, _, _, _, _, _, _, rfl⟩
theorem vm_shut {w : World} {S : Nat → Prop} {x0 : List fun.FunD} {x1 : heap.HeapD} {x2 : List Int} {x3 : List call.CallD} {x4 : List Int} {x5 : Int} {x6 : Bool} {u1_0 : Value} {u1_1 : Value} {u1_2 : Value} {u1_3 : Value} {a0 : Option Addr} {c0 : Nat} {a2 : Option Addr} {c2 : Nat} {a3 : Option Addr} {c3 : Nat} {a4 : Option Addr} {c4 : Nat} (h0 : fun.funSh.slice.rep w S [.slice a0 x0.length c0] x0) (h1 : heap.heapSh.rep w S [u1_0, u1_1, u1_2, u1_3] x1) (h2 : Sh.int.slice.rep w S [.slice a2 x2.length c2] x2) (h3 : call.callSh.slice.rep w S [.slice a3 x3.length c3] x3) (h4 : Sh.int.slice.rep w S [.slice a4 x4.length c4] x4) (h5 : -9223372036854775808 ≤ x5 ∧ x5 ≤ 9223372036854775807) : vmSh.rep w S [.slice a0 x0.length c0, u1_0, u1_1, u1_2, u1_3, .slice a2 x2.length c2, .slice a3 x3.length c3, .slice a4 x4.length c4, .int .i64 x5, .bool x6] ((x0, x1, x2, x3, x4, x5, x6)) :=
  ⟨[_], _, rfl, h0, [_, _, _, _], _, rfl, h1, [_], _, rfl, h2, [_], _, rfl, h3, [_], _, rfl, h4, [_], _, rfl, ⟨rfl, h5⟩, rfl⟩

theorem vms_open {w : World} {S : Nat → Prop} {v : Value} {ks : List VmD} (h : vmSh.slice.rep w S [v] ks) : ∃ a cap css, v = .slice a ks.length cap ∧ ks.length ≤ cap ∧ cap ≤ maxLen ∧ RowAt w S 10 a ks.length css ∧ ∀ i (h : i < ks.length), vmSh.rep w S (css i) ks[i] := by
  obtain ⟨a, cap, css, e, h1, h2, -, h3, h4⟩ := h
  exact ⟨a, cap, css, by simpa using e, h1, h2, h3, h4⟩

theorem vm_cells {w : World} {S : Nat → Prop} {b o i : Nat} {cs : List Value} {T : VmD} (h : vmSh.rep w S cs T) (hc : CellsAt w b (o + i * 10) cs) :
    ∃ v0 v1 v2 v3 v4 v5 v6 v7 v8 v9, cs = [v0, v1, v2, v3, v4, v5, v6, v7, v8, v9] ∧ w.cell? ⟨b, o + i * 10, none⟩ = some v0 ∧ w.cell? ⟨b, o + i * 10 + 1, none⟩ = some v1 ∧ w.cell? ⟨b, o + i * 10 + 2, none⟩ = some v2 ∧ w.cell? ⟨b, o + i * 10 + 3, none⟩ = some v3 ∧ w.cell? ⟨b, o + i * 10 + 4, none⟩ = some v4 ∧ w.cell? ⟨b, o + i * 10 + 5, none⟩ = some v5 ∧ w.cell? ⟨b, o + i * 10 + 6, none⟩ = some v6 ∧ w.cell? ⟨b, o + i * 10 + 7, none⟩ = some v7 ∧ w.cell? ⟨b, o + i * 10 + 8, none⟩ = some v8 ∧ w.cell? ⟨b, o + i * 10 + 9, none⟩ = some v9 := by
  obtain ⟨v0, v1, v2, v3, v4, v5, v6, v7, v8, v9, rfl⟩ := vm_list h
  exact ⟨_, _, _, _, _, _, _, _, _, _, rfl, hc 0 _ rfl, hc 1 _ rfl, hc 2 _ rfl, hc 3 _ rfl, hc 4 _ rfl, hc 5 _ rfl, hc 6 _ rfl, hc 7 _ rfl, hc 8 _ rfl, hc 9 _ rfl⟩

end Go.Proofs.YtjibmpebebephaaGreatDoor.vm

namespace Go.Proofs.YtjibmpebebephaaGreatDoor.op
open Go.RowKit Go.Proofs.YtjibmpebebephaaGreatDoor.rose Go.Proofs.YtjibmpebebephaaGreatDoor
set_option linter.unusedVariables false

set_option maxHeartbeats 1000000 in
theorem szS_any (ks : List OpD) (v : Value) (w : World) (l : Int) (h0 : 0 ≤ l) (h1 : l ≤ 1048576) (h : opSh.slice.rep w (· < w.heap.size) [v] ks) :
    Calls Tryz.prog 70 #[v, .int .i64 l] w fun e w' => e = .returned (.int .i64 (left ks.length l)) ∧ Below w.heap.size w w' := by
  obtain ⟨a, cap, css, e, hcap, hmax, -, -, -⟩ := h
  obtain rfl : v = .slice a ks.length cap := by simpa using e
  have hmx : (ks.length : Int) ≤ 9223372036854775807 := by unfold maxLen at hmax; omega
  clear e hcap hmax
  by_cases hn : (ks.length : Int) ≤ l
  · have t1 : decide (l - (ks.length : Int) < 0) = false := by simp; omega
    have hr : left ks.length l = l - ks.length := by unfold left; rw [if_pos hn]
    go_enter Tryz.func70, Tryz.ntmps70
    go_wp2
    go_ret
    exact ⟨by first | rfl | (rw [hr]; rfl), Below.refl _ _⟩
  · have t1 : decide (l - (ks.length : Int) < 0) = true := by simp; omega
    have hr : left ks.length l = -1 := by unfold left; rw [if_neg hn]
    go_enter Tryz.func70, Tryz.ntmps70
    go_wp2
    go_ret
    exact ⟨by first | rfl | (rw [hr]; rfl), Below.refl _ _⟩

end Go.Proofs.YtjibmpebebephaaGreatDoor.op
