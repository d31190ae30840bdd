/-
  What a law keeps while it goes on: values in blocks of its own, and what lies behind them; what a call leaves of them.
  What a law keeps while it goes on, further: an argument's own block; a value, or a slice, and what lies behind it.
  The law's type Heap as it lies in memory.
  How much a heap holds.
  Slices of ints as they lie in memory, and the law's measure of them.
  The law's type Heap as it lies in memory, and the law's measure of it (szHeap and of slices): what is left of a number when the weight is taken off it, or -1; nothing that was there is turned.
  A slice of ints that came in lies in memory as its cells.
  A Heap that came in as an argument lies in memory as its cells.
  Slices of ints as they lie in memory.
  A Heap that lies in memory apart: its slices are all different blocks.
  The law's copies of slices of ints: the same in new memory, all of it apart; nothing that was there is turned.
-/
import Derived.Test.YtojhldciehfhfaaChecked
import Derived.WalkKit
import Derived.WalkLawsBesides
import Derived.Deep.QuietTactic
import Derived.BigQuiet
import Derived.ProofKit
import Derived.OpenShut
import Derived.Laws.MakeOwn
import Derived.Deep.OwnRows
import Derived.Test.YtojhldciehfhfaaB1
import Derived.Test.YtojhldciehfhfaaB2
namespace Go.Proofs.Ytojhldciehfhfaa.rose
open Go.RowKit Go.Deep Go.ChangeShapes Go.WideShapes
set_option linter.unusedVariables false

/-- A value in block nb, and what lies behind it, from block lo on below hi. -/
structure Itm {α : Type} (A : Sh α) (wk : World) (nb : Nat) (cs : List Value) (t : TypeId) (lo hi : Nat) (x : α) : Prop where
  blk : wk.heap[nb]? = some (.cells cs.toArray t)
  top : hi ≤ wk.heap.size
  rep : A.rep wk (fun b => lo ≤ b ∧ b < hi) cs x

section
variable {α : Type} {A : Sh α} {wk wl : World} {nb lo hi : Nat} {cs : List Value} {t : TypeId} {x : α}

theorem Itm.lt (h : Itm A wk nb cs t lo hi x) : nb < wk.heap.size := (Array.getElem?_eq_some_iff.1 h.blk).1
theorem Itm.on (h : Itm A wk nb cs t lo hi x) (hb : Below wk.heap.size wk wl) : Itm A wl nb cs t lo hi x :=
  ⟨(hb.block nb h.lt).trans h.blk, Nat.le_trans h.top hb.size, A.on h.rep fun b hS => hb.block b (by have := h.top; omega)⟩
theorem Itm.only {Q : Nat → Prop} (h : Itm A wk nb cs t lo hi x) (ho : Only Q wk wl) (hn : ¬ Q nb) (hd : ∀ b, lo ≤ b → b < hi → ¬ Q b) : Itm A wl nb cs t lo hi x :=
  ⟨(ho.block nb h.lt hn).trans h.blk, Nat.le_trans h.top ho.size, A.on h.rep fun b hS => ho.block b (by have := h.top; omega) (hd b hS.1 hS.2)⟩
theorem Itm.in_ (h : Itm A wk nb cs t lo hi x) : A.rep wk (· < wk.heap.size) cs x := A.mono h.rep fun b hb => by have := h.top; omega
theorem Itm.cell (h : Itm A wk nb cs t lo hi x) (j : Nat) {v : Value} (hj : cs[j]? = some v) : wk.cell? ⟨nb, j, none⟩ = some v := by
  simp only [World.cell?, h.blk]
  simpa using hj
theorem Itm.new (hr : A.rep wk (fun b => lo ≤ b ∧ b < hi) cs x) (hh : hi ≤ wk.heap.size) {arr : Array Value} (ha : arr = cs.toArray) : Itm A (wk.alloc (.cells arr t)) wk.heap.size cs t lo hi x := by
  subst ha
  have hA : Below wk.heap.size wk (wk.alloc (.cells cs.toArray t)) := (Below.refl _ _).alloc (Nat.le_refl _) _
  exact ⟨alloc_top _ _, Nat.le_trans hh hA.size, A.on hr fun b hS => hA.block b (by omega)⟩
theorem Itm.as {B : Sh α} (h : Itm A wk nb cs t lo hi x) (hc : ∀ {w S cs x}, A.rep w S cs x → B.rep w S cs x) : Itm B wk nb cs t lo hi x := ⟨h.blk, h.top, hc h.rep⟩
end

/-- A slice in a slot, and what lies behind it, from block lo on below hi. -/
structure ItmS {α : Type} (A : Sh α) (wk : World) (v : Value) (lo hi : Nat) (x : α) : Prop where
  top : hi ≤ wk.heap.size
  rep : A.rep wk (fun b => lo ≤ b ∧ b < hi) [v] x
theorem ItmS.on {α : Type} {A : Sh α} {wk wl : World} {v : Value} {lo hi : Nat} {x : α} (h : ItmS A wk v lo hi x) (hb : Below wk.heap.size wk wl) : ItmS A wl v lo hi x :=
  ⟨Nat.le_trans h.top hb.size, A.on h.rep fun b hS => hb.block b (by have := h.top; omega)⟩
theorem ItmS.only {α : Type} {A : Sh α} {wk wl : World} {v : Value} {lo hi : Nat} {x : α} {Q : Nat → Prop} (h : ItmS A wk v lo hi x) (ho : Only Q wk wl) (hd : ∀ b, lo ≤ b → b < hi → ¬ Q b) : ItmS A wl v lo hi x :=
  ⟨Nat.le_trans h.top ho.size, A.on h.rep fun b hS => ho.block b (by have := h.top; omega) (hd b hS.1 hS.2)⟩
theorem ItmS.in_ {α : Type} {A : Sh α} {wk : World} {v : Value} {lo hi : Nat} {x : α} (h : ItmS A wk v lo hi x) : A.rep wk (· < wk.heap.size) [v] x := A.mono h.rep fun b hb => by have := h.top; omega
theorem ItmS.as {α : Type} {A B : Sh α} {wk : World} {v : Value} {lo hi : Nat} {x : α} (h : ItmS A wk v lo hi x) (hc : ∀ {w S cs x}, A.rep w S cs x → B.rep w S cs x) : ItmS B wk v lo hi x := ⟨h.top, hc h.rep⟩

/-- The argument's own block. -/
structure ArgK (w wk : World) (cs : List Value) (t : TypeId) : Prop where
  bel : Below w.heap.size w wk
  blk : wk.heap[w.heap.size]? = some (.cells cs.toArray t)
theorem ArgK.lt {w wk : World} {cs : List Value} {t : TypeId} (h : ArgK w wk cs t) : w.heap.size < wk.heap.size := (Array.getElem?_eq_some_iff.1 h.blk).1
theorem ArgK.on {w wk wl : World} {cs : List Value} {t : TypeId} (h : ArgK w wk cs t) (hb : Below wk.heap.size wk wl) : ArgK w wl cs t := ⟨h.bel.trans (hb.mono h.bel.size), (hb.block _ h.lt).trans h.blk⟩
theorem ArgK.only {w wk wl : World} {cs : List Value} {t : TypeId} {Q : Nat → Prop} (h : ArgK w wk cs t) (ho : Only Q wk wl) (hQ : ∀ b, Q b → w.heap.size < b) : ArgK w wl cs t :=
  ⟨h.bel.trans (ho.below (Nat.le_of_lt h.lt) fun b hb => Nat.le_of_lt (hQ b hb)), (ho.block _ h.lt fun hq => Nat.lt_irrefl _ (hQ _ hq)).trans h.blk⟩
theorem ArgK.drew {w wk : World} {cs : List Value} {t : TypeId} (h : ArgK w wk cs t) : ArgK w wk.drew cs t := ⟨h.bel.drew, h.blk⟩
theorem ArgK.cell {w wk : World} {cs : List Value} {t : TypeId} (h : ArgK w wk cs t) (j : Nat) {v : Value} (hj : cs[j]? = some v) : wk.cell? ⟨w.heap.size, j, none⟩ = some v := by
  simp only [World.cell?, h.blk]
  simpa using hj
theorem ArgK.new (w : World) (cs : List Value) (t : TypeId) {arr : Array Value} (ha : arr = cs.toArray) : ArgK w (w.alloc (.cells arr t)) cs t := by
  subst ha
  exact ⟨(Below.refl _ _).alloc (Nat.le_refl _) _, alloc_top _ _⟩

end Go.Proofs.Ytojhldciehfhfaa.rose

namespace Go.Proofs.Ytojhldciehfhfaa.rose
open Go.RowKit Go.Deep Go.ChangeShapes Go.WideShapes
set_option linter.unusedVariables false

/-- An argument's own block. -/
structure BoxK (wk : World) (nb : Nat) (cs : List Value) (t : TypeId) : Prop where
  blk : wk.heap[nb]? = some (.cells cs.toArray t)
theorem BoxK.lt {wk : World} {nb : Nat} {cs : List Value} {t : TypeId} (h : BoxK wk nb cs t) : nb < wk.heap.size := (Array.getElem?_eq_some_iff.1 h.blk).1
theorem BoxK.on {wk wl : World} {nb : Nat} {cs : List Value} {t : TypeId} (h : BoxK wk nb cs t) (hb : Below wk.heap.size wk wl) : BoxK wl nb cs t := ⟨(hb.block nb h.lt).trans h.blk⟩
theorem BoxK.only {wk wl : World} {nb : Nat} {cs : List Value} {t : TypeId} {Q : Nat → Prop} (h : BoxK wk nb cs t) (ho : Only Q wk wl) (hn : Q nb → False) : BoxK wl nb cs t := ⟨(ho.block nb h.lt hn).trans h.blk⟩
theorem BoxK.cell {wk : World} {nb : Nat} {cs : List Value} {t : TypeId} (h : BoxK wk nb cs t) (j : Nat) {v : Value} (hj : cs[j]? = some v) : wk.cell? ⟨nb, j, none⟩ = some v := by
  simp only [World.cell?, h.blk]
  simpa using hj

/-- A value, and what lies behind it, from block lo on below hi. -/
structure ItmR {α : Type} (A : Sh α) (wk : World) (cs : List Value) (lo hi : Nat) (x : α) : Prop where
  top : hi ≤ wk.heap.size
  rep : A.rep wk (fun b => lo ≤ b ∧ b < hi) cs x
theorem ItmR.on {α : Type} {A : Sh α} {wk wl : World} {cs : List Value} {lo hi : Nat} {x : α} (h : ItmR A wk cs lo hi x) (hb : Below wk.heap.size wk wl) : ItmR A wl cs lo hi x :=
  ⟨Nat.le_trans h.top hb.size, A.on h.rep fun b hS => hb.block b (by have := h.top; omega)⟩
theorem ItmR.only {α : Type} {A : Sh α} {wk wl : World} {cs : List Value} {lo hi : Nat} {x : α} {Q : Nat → Prop} (h : ItmR A wk cs lo hi x) (ho : Only Q wk wl) (hd : ∀ b, lo ≤ b → b < hi → Q b → False) : ItmR A wl cs lo hi x :=
  ⟨Nat.le_trans h.top ho.size, A.on h.rep fun b hS => ho.block b (by have := h.top; omega) (hd b hS.1 hS.2)⟩

end Go.Proofs.Ytojhldciehfhfaa.rose

namespace Go.Proofs.Ytojhldciehfhfaa.heap
open Go.RowKit Go.Proofs.Ytojhldciehfhfaa.rose Go.Proofs.Ytojhldciehfhfaa
set_option linter.unusedVariables false

abbrev HeapD := List Int × Int × Int × Int
abbrev heapSh : Sh HeapD := Sh.int.slice.pair (Sh.int.pair (Sh.int.pair Sh.int))

theorem heap_open {w : World} {S : Nat → Prop} {cs : List Value} {T : HeapD} (h : heapSh.rep w S cs T) : ∃ x0 a0 c0 x1 x2 x3, T = (x0, x1, x2, x3) ∧ cs = [.slice a0 x0.length c0, .int .i64 x1, .int .i64 x2, .int .i64 x3] ∧ Sh.int.slice.rep w S [.slice a0 x0.length c0] x0 ∧ (-9223372036854775808 ≤ x1 ∧ x1 ≤ 9223372036854775807) ∧ (-9223372036854775808 ≤ x2 ∧ x2 ≤ 9223372036854775807) ∧ (-9223372036854775808 ≤ x3 ∧ x3 ≤ 9223372036854775807) := by
  obtain ⟨x0, x1, x2, x3⟩ := T
  obtain ⟨_, _, rfl, h0, _, _, rfl, ⟨rfl, h1⟩, _, _, rfl, ⟨rfl, h2⟩, ⟨rfl, h3⟩⟩ := h
  obtain ⟨a0, c0, rfl⟩ := slice_cells h0
  exact ⟨_, _, _, _, _, _, rfl, rfl, h0, h1, h2, h3⟩
theorem heap_list {w : World} {S : Nat → Prop} {cs : List Value} {T : HeapD} (h : heapSh.rep w S cs T) : ∃ v0 v1 v2 v3, cs = [v0, v1, v2, v3] := by
  obtain ⟨x0, a0, c0, x1, x2, x3, -, rfl, -⟩ := heap_open h
  exact ⟨_, _, _, _, rfl⟩
theorem heap_shut {w : World} {S : Nat → Prop} {x0 : List Int} {x1 : Int} {x2 : Int} {x3 : Int} {a0 : Option Addr} {c0 : Nat} (h0 : Sh.int.slice.rep w S [.slice a0 x0.length c0] x0) (h1 : -9223372036854775808 ≤ x1 ∧ x1 ≤ 9223372036854775807) (h2 : -9223372036854775808 ≤ x2 ∧ x2 ≤ 9223372036854775807) (h3 : -9223372036854775808 ≤ x3 ∧ x3 ≤ 9223372036854775807) : heapSh.rep w S [.slice a0 x0.length c0, .int .i64 x1, .int .i64 x2, .int .i64 x3] ((x0, x1, x2, x3)) :=
  ⟨[_], _, rfl, h0, [_], _, rfl, ⟨rfl, h1⟩, [_], _, rfl, ⟨rfl, h2⟩, ⟨rfl, h3⟩⟩

theorem heaps_open {w : World} {S : Nat → Prop} {v : Value} {ks : List HeapD} (h : heapSh.slice.rep w S [v] ks) : ∃ a cap css, v = .slice a ks.length cap ∧ ks.length ≤ cap ∧ cap ≤ maxLen ∧ RowAt w S 4 a ks.length css ∧ ∀ i (h : i < ks.length), heapSh.rep w S (css i) ks[i] := by
  obtain ⟨a, cap, css, e, h1, h2, -, h3, h4⟩ := h
  exact ⟨a, cap, css, by simpa using e, h1, h2, h3, h4⟩

theorem heap_cells {w : World} {S : Nat → Prop} {b o i : Nat} {cs : List Value} {T : HeapD} (h : heapSh.rep w S cs T) (hc : CellsAt w b (o + i * 4) cs) :
    ∃ v0 v1 v2 v3, cs = [v0, v1, v2, v3] ∧ w.cell? ⟨b, o + i * 4, none⟩ = some v0 ∧ w.cell? ⟨b, o + i * 4 + 1, none⟩ = some v1 ∧ w.cell? ⟨b, o + i * 4 + 2, none⟩ = some v2 ∧ w.cell? ⟨b, o + i * 4 + 3, none⟩ = some v3 := by
  obtain ⟨v0, v1, v2, v3, rfl⟩ := heap_list h
  exact ⟨_, _, _, _, rfl, hc 0 _ rfl, hc 1 _ rfl, hc 2 _ rfl, hc 3 _ rfl⟩

end Go.Proofs.Ytojhldciehfhfaa.heap

namespace Go.Proofs.Ytojhldciehfhfaa.heap
open Go.RowKit Go.Proofs.Ytojhldciehfhfaa.rose Go.Proofs.Ytojhldciehfhfaa
set_option linter.unusedVariables false
/-- What it weighs. -/
def wt : HeapD → Nat
  | (x0, x1, x2, x3) => x0.length
def wts : List HeapD → Nat
  | [] => 0
  | k :: ks => wt k + wts ks

theorem wts_take {ks : List HeapD} {i : Nat} (h : i < ks.length) : wts (ks.take (i + 1)) = wts (ks.take i) + wt ks[i] := by
  induction ks generalizing i with
  | nil => simp at h
  | cons k ks ih =>
    cases i with
    | zero => simp [wts]
    | succ i => simp [wts, ih (by simpa using h)]; omega
theorem wts_take_le (ks : List HeapD) (i : Nat) : wts (ks.take i) ≤ wts ks := by
  induction ks generalizing i with
  | nil => simp [wts]
  | cons k ks ih =>
    cases i with
    | zero => simp [wts]
    | succ i => simp [wts]; exact ih i
theorem wt_mem {ks : List HeapD} {k : HeapD} (h : k ∈ ks) : wt k ≤ wts ks := by
  induction ks with
  | nil => cases h
  | cons a ks ih =>
    simp only [wts]
    rcases List.mem_cons.1 h with rfl | h
    · omega
    · have := ih h; omega


end Go.Proofs.Ytojhldciehfhfaa.heap

namespace Go.Proofs.Ytojhldciehfhfaa.ints
open Go.RowKit Go.Proofs.Ytojhldciehfhfaa.rose Go.Proofs.Ytojhldciehfhfaa
set_option linter.unusedVariables false

set_option maxHeartbeats 1000000 in
theorem szS_any (ks : List Int) (v : Value) (w : World) (l : Int) (h0 : 0 ≤ l) (h1 : l ≤ 1048576) (h : Sh.int.slice.rep w (· < w.heap.size) [v] ks) :
    Calls Try.prog 15 #[v, .int .i64 l] w fun e w' => e = .returned (.int .i64 (left ks.length l)) ∧ Below w.heap.size w w' := by
  obtain ⟨a, cap, css, e, hcap, hmax, -, -, -⟩ := h
  obtain rfl : v = .slice a ks.length cap := by simpa using e
  have hmx : (ks.length : Int) ≤ 9223372036854775807 := by unfold maxLen at hmax; omega
  clear e hcap hmax
  by_cases hn : (ks.length : Int) ≤ l
  · have t1 : decide (l - (ks.length : Int) < 0) = false := by simp; omega
    have hr : left ks.length l = l - ks.length := by unfold left; rw [if_pos hn]
    go_enter Try.func15, Try.ntmps15
    go_wp2
    go_ret
    exact ⟨by first | rfl | (rw [hr]; rfl), Below.refl _ _⟩
  · have t1 : decide (l - (ks.length : Int) < 0) = true := by simp; omega
    have hr : left ks.length l = -1 := by unfold left; rw [if_neg hn]
    go_enter Try.func15, Try.ntmps15
    go_wp2
    go_ret
    exact ⟨by first | rfl | (rw [hr]; rfl), Below.refl _ _⟩

end Go.Proofs.Ytojhldciehfhfaa.ints

namespace Go.Proofs.Ytojhldciehfhfaa.heap
open Go.RowKit Go.Proofs.Ytojhldciehfhfaa.rose Go.Proofs.Ytojhldciehfhfaa
set_option linter.unusedVariables false

def SzSays (T : HeapD) : Prop := ∀ cs w l, 0 ≤ l → l ≤ 1048576 → heapSh.rep w (· < w.heap.size) cs T →
  Calls Try.prog 4 #[.agg cs.toArray, .int .i64 l] w fun e w' => e = .returned (.int .i64 (left (wt T) l)) ∧ Below w.heap.size w w'

set_option maxHeartbeats 1000000 in
theorem sz_any (T : HeapD) : SzSays T := by
  intro cs w l h0 h1 h
  obtain ⟨x0, a0, c0, x1, x2, x3, rfl, rfl, f0, f1, f2, f3⟩ := heap_open h
  clear h
  have K0 : ∀ (l' : Int) (w' : World), 0 ≤ l' → l' ≤ 1048576 → Below w.heap.size w w' → Calls Try.prog 15 #[.slice a0 x0.length c0, .int .i64 l'] w' fun e w'' => e = .returned (.int .i64 (left (x0.length) l')) ∧ Below w'.heap.size w' w'' :=
    fun l' w' h2 h3 hb => ints.szS_any x0 _ w' l' h2 h3 (Sh.int.slice.mono (Sh.int.slice.below f0 hb) fun b hlt => Nat.lt_of_lt_of_le hlt hb.size)
  clear f0 f1 f2 f3
  have hw : wt ((x0, x1, x2, x3)) = x0.length := by simp [wt]
  rw [hw]
  clear hw
  go_enter Try.func4, Try.ntmps4
  go_wp2_with fail
  refine (K0 _ _ (by omega) (by omega) ((Below.refl _ _).alloc (Nat.le_refl _) _)).mono ?_
  rintro e w1 ⟨rfl, hb⟩
  have B1 : Hid (Below w.heap.size w w1) := ((Below.refl _ _).alloc (Nat.le_refl _) _).trans (hb.mono (by simp))
  have z1 : w.heap.size < w1.heap.size := Nat.lt_of_lt_of_le (by simp) hb.size
  clear hb K0
  by_cases h10 : ((x0.length : Nat) : Int) ≤ l
  · have hl : left x0.length (l) = l - (x0.length : Nat) := by unfold left; rw [if_pos (by omega)]
    rw [hl]
    clear hl
    have t0 : decide (l - (x0.length : Nat) < 0) = false := by simp; omega
    have hr : left (x0.length) l = l - (x0.length : Nat) := by unfold left; rw [if_pos (by omega)]; try omega
    go_wp2
    go_ret
    exact ⟨by first | rfl | (rw [hr]; rfl), B1.out⟩
  · have hl : left x0.length (l) = -1 := by unfold left; rw [if_neg (by omega)]
    have hr : left (x0.length) l = -1 := by unfold left; rw [if_neg (by omega)]
    rw [hl]
    clear hl
    go_wp2
    go_ret
    exact ⟨by first | rfl | (rw [hr]; rfl), B1.out⟩


end Go.Proofs.Ytojhldciehfhfaa.heap

namespace Go.Proofs.Ytojhldciehfhfaa
open Go.RowKit Go.ChangeShapes Go.WideShapes Go.Proofs.Ytojhldciehfhfaa.rose
set_option maxRecDepth 100000

theorem cells_int : Try.prog.cellsOf 3 = 1 := by kernel_rfl
theorem opens_ints {H : Type} {enc : TypeId × Value → H} {w : World} {spare : Nat → Bool} {held : Bool} (n : Nat) : OpensAt enc Try.prog w spare held n Sh.int.slice 22 := fun fuel cs x hf h => opens_slice (A := Sh.int) (n := n) Try.underlying22 cells_int (by decide) (opens_int Try.underlying3 n) fuel cs x (by omega) h

end Go.Proofs.Ytojhldciehfhfaa

namespace Go.Proofs.Ytojhldciehfhfaa.heap
open Go.RowKit Go.ChangeShapes Go.WideShapes Go.Proofs.Ytojhldciehfhfaa.rose Go.Proofs.Ytojhldciehfhfaa
set_option linter.unusedVariables false
set_option maxRecDepth 100000

section
variable {H : Type} {enc : TypeId × Value → H} {w : World} {spare : Nat → Bool} {held : Bool}

theorem cells_heap : Try.prog.cellsOf 24 = 4 := by kernel_rfl

theorem opens_heap (n : Nat) : OpensAt enc Try.prog w spare held n heapSh 24 := by
  intro fuel cs x hf h
  obtain ⟨xs, m, rfl, -, hl, hlen, hfl⟩ := DataW.trod_struct Try.underlying24 h
  rw [cells_heap] at hl
  have hlen5 : xs.length = 4 := hlen
  match cs, hl with
  | [c0, c1, c2, c3], _ =>
    match xs, hlen5 with
    | [y0, y1, y2, y3], _ =>
      have f0 := hfl 0 _ rfl
      have f1 := hfl 1 _ rfl
      have f2 := hfl 2 _ rfl
      have f3 := hfl 3 _ rfl
      simp only [List.getElem?_cons_zero, List.getElem?_cons_succ] at f0 f1 f2 f3
      obtain ⟨p0, h0⟩ := opens_ints (w := w) n m _ _ (by omega) f0
      obtain ⟨p1, h1⟩ := opens_int (w := w) Try.underlying3 n m _ _ (by omega) f1
      obtain ⟨p2, h2⟩ := opens_int (w := w) Try.underlying3 n m _ _ (by omega) f2
      obtain ⟨p3, h3⟩ := opens_int (w := w) Try.underlying3 n m _ _ (by omega) f3
      exact ⟨(p0, p1, p2, p3), [c0], _, rfl, h0, [c1], _, rfl, h1, [c2], _, rfl, h2, h3⟩

/-- THE ARGUMENT. -/
theorem arg_heap {v : Value} {d : DataW H} {ps : List MemPlace} {r : Reach} {b : Nat} (hval : Value.okWide Try.prog w r b 24 v) (h : DataW.Trod enc Try.prog w 0 spare held 24 v d ps) : ∃ cs T, v = .agg cs.toArray ∧ heapSh.rep w (· < w.heap.size) cs T := by
  obtain ⟨cs, rfl, _⟩ := okWide_struct Try.underlying24 hval
  obtain ⟨fuel, hf⟩ := h
  obtain ⟨T, hT⟩ := opens_heap (enc := enc) (w := w) (spare := spare) (held := held) fuel fuel _ _ (Nat.le_refl _) hf
  exact ⟨cs.toList, T, by simp, hT⟩
end

end Go.Proofs.Ytojhldciehfhfaa.heap

namespace Go.Proofs.Ytojhldciehfhfaa.ints
open Go.RowKit Go.Proofs.Ytojhldciehfhfaa.rose Go.Proofs.Ytojhldciehfhfaa
set_option linter.unusedVariables false

abbrev intsSh : Sh (List Int) := Sh.int.slice
abbrev intsSp : Sh (List Int) := Sh.int.sslice

theorem intsp_rep {w : World} {S : Nat → Prop} {cs : List Value} {ks : List Int} (h : intsSp.rep w S cs ks) : intsSh.rep w S cs ks := sslice_rep (A := Sh.int) (B := Sh.int) rfl (fun h => h) h

theorem ints_open {w : World} {S : Nat → Prop} {v : Value} {ks : List Int} (h : intsSh.rep w S [v] ks) : ∃ a cap, v = .slice a ks.length cap ∧ ks.length ≤ cap ∧ cap ≤ maxLen ∧ ∀ i (h : i < ks.length), ∃ b o, a = some ⟨b, o, none⟩ ∧ S b ∧ w.cell? ⟨b, o + i, none⟩ = some (.int .i64 ks[i]) ∧ -9223372036854775808 ≤ ks[i] ∧ ks[i] ≤ 9223372036854775807 := by
  obtain ⟨a, cap, css, e, h1, h2, -, h3, h4⟩ := h
  refine ⟨a, cap, by simpa using e, h1, h2, fun i hi => ?_⟩
  obtain ⟨b, o, rfl, hS, hc⟩ := h3 i hi
  obtain ⟨hcs, hn⟩ := h4 i hi
  rw [hcs] at hc
  have := hc 0 _ rfl
  exact ⟨b, o, rfl, hS, by simpa [Sh.int] using this, hn⟩

end Go.Proofs.Ytojhldciehfhfaa.ints

namespace Go.Proofs.Ytojhldciehfhfaa.heap
open Go.RowKit Go.Proofs.Ytojhldciehfhfaa.rose Go.Proofs.Ytojhldciehfhfaa
set_option linter.unusedVariables false

abbrev heapSp : Sh HeapD := Sh.int.sslice.spair (Sh.int.spair (Sh.int.spair Sh.int))

theorem heapp_rep {w : World} {S : Nat → Prop} {cs : List Value} {T : HeapD} (h : heapSp.rep w S cs T) : heapSh.rep w S cs T := (fun h => spair_rep (fun h => ints.intsp_rep h) (fun h => spair_rep (fun h => h) (fun h => spair_rep (fun h => h) (fun h => h) h) h) h) h
theorem heapp_shut {w : World} {S : Nat → Prop} {x0 : List Int} {x1 : Int} {x2 : Int} {x3 : Int} {a0 : Option Addr} {c0 : Nat} (h0 : Sh.int.sslice.rep w S [.slice a0 x0.length c0] x0) (h1 : -9223372036854775808 ≤ x1 ∧ x1 ≤ 9223372036854775807) (h2 : -9223372036854775808 ≤ x2 ∧ x2 ≤ 9223372036854775807) (h3 : -9223372036854775808 ≤ x3 ∧ x3 ≤ 9223372036854775807) : heapSp.rep w S [.slice a0 x0.length c0, .int .i64 x1, .int .i64 x2, .int .i64 x3] ((x0, x1, x2, x3)) :=
  ⟨[_], _, S, (fun _ => False), rfl, fun b h => h, fun b h => h.elim, fun b h1 h2 => h2.elim, h0, [_], _, (fun _ => False), (fun _ => False), rfl, fun b h => h.elim, fun b h => h.elim, fun b h => h.elim, ⟨rfl, h1⟩, [_], _, (fun _ => False), (fun _ => False), rfl, fun b h => h.elim, fun b h => h.elim, fun b h => h.elim, ⟨rfl, h2⟩, ⟨rfl, h3⟩⟩
theorem heapp_shutv {w : World} {S : Nat → Prop} {x0 : List Int} {x1 : Int} {x2 : Int} {x3 : Int} {v0 : Value} (h0 : Sh.int.sslice.rep w S [v0] x0) (h1 : -9223372036854775808 ≤ x1 ∧ x1 ≤ 9223372036854775807) (h2 : -9223372036854775808 ≤ x2 ∧ x2 ≤ 9223372036854775807) (h3 : -9223372036854775808 ≤ x3 ∧ x3 ≤ 9223372036854775807) : heapSp.rep w S [v0, .int .i64 x1, .int .i64 x2, .int .i64 x3] ((x0, x1, x2, x3)) :=
  ⟨[_], _, S, (fun _ => False), rfl, fun b h => h, fun b h => h.elim, fun b h1 h2 => h2.elim, h0, [_], _, (fun _ => False), (fun _ => False), rfl, fun b h => h.elim, fun b h => h.elim, fun b h => h.elim, ⟨rfl, h1⟩, [_], _, (fun _ => False), (fun _ => False), rfl, fun b h => h.elim, fun b h => h.elim, fun b h => h.elim, ⟨rfl, h2⟩, ⟨rfl, h3⟩⟩
theorem heapp_open {w : World} {S : Nat → Prop} {cs : List Value} {T : HeapD} (h : heapSp.rep w S cs T) : ∃ x0 a0 c0 x1 x2 x3, T = (x0, x1, x2, x3) ∧ cs = [.slice a0 x0.length c0, .int .i64 x1, .int .i64 x2, .int .i64 x3] ∧ Sh.int.sslice.rep w S [.slice a0 x0.length c0] x0 ∧ (-9223372036854775808 ≤ x1 ∧ x1 ≤ 9223372036854775807) ∧ (-9223372036854775808 ≤ x2 ∧ x2 ≤ 9223372036854775807) ∧ (-9223372036854775808 ≤ x3 ∧ x3 ≤ 9223372036854775807) := by
  obtain ⟨x0, x1, x2, x3⟩ := T
  obtain ⟨_, _, A0, B0, rfl, ua0, ub0, ue0, h0, _, _, A1, B1, rfl, ua1, ub1, ue1, ⟨rfl, h1⟩, _, _, A2, B2, rfl, ua2, ub2, ue2, ⟨rfl, h2⟩, ⟨rfl, h3⟩⟩ := h
  obtain ⟨a0, c0, rfl⟩ := sslice_cells h0
  exact ⟨_, _, _, _, _, _, rfl, rfl, Sh.int.sslice.mono h0 fun b g => ua0 b g, h1, h2, h3⟩

end Go.Proofs.Ytojhldciehfhfaa.heap

namespace Go.Proofs.Ytojhldciehfhfaa.ints
open Go.RowKit Go.Proofs.Ytojhldciehfhfaa.rose Go.Proofs.Ytojhldciehfhfaa
set_option linter.unusedVariables false

theorem infoT_int : (Try.prog.info? 3).map (fun i => (i.zero, i.size, i.bytes)) = some (some (.int .i64 0), 1, 8) := by kernel_rfl

theorem make_int (n : Nat) (h : n ≤ 1048576) (w : World) : (Instr.makeSlice 22 (.int .i64 (n : Int)) (.int .i64 (n : Int))).run Try.prog w = .ok (.slice (some ⟨w.heap.size, 0, none⟩) n n)
    (w.alloc (.cells (madeCells #[.int .i64 0] (n * 1)) 3)) := by
  obtain ⟨i, hi, hzz⟩ := Option.map_eq_some_iff.1 infoT_int
  simp only [Prod.mk.injEq] at hzz
  obtain ⟨hz, hs, hb⟩ := hzz
  have := run_make (P := Try.prog) w 22 3 i _ Try.underlying22 hi hz .i64 .i64 n n (by omega) (by omega) (by rw [hb]; omega) (by omega)
  simpa [hs, Value.cells] using this

set_option maxHeartbeats 1000000 in
theorem toPS_any (ks : List Int) (v : Value) (w : World) (hw : ks.length ≤ 1048576) (h : Sh.int.slice.rep w (· < w.heap.size) [v] ks) :
    Calls Try.prog 7 #[v] w fun e w' => (∃ v', e = .returned v' ∧ Sh.int.sslice.rep w' (fun b => w.heap.size ≤ b ∧ b < w'.heap.size) [v'] ks) ∧ Below w.heap.size w w' := by
  obtain ⟨a, cap, rfl, hcap, hmax, hat⟩ := ints_open h
  have HA : Hid _ := hat
  have hn : ks.length ≤ 1048576 := hw
  clear h hcap hmax hat
  have hmk := make_int ks.length hn
  go_enter Try.func7, Try.ntmps7
  go_wp2
  clear hmk
  generalize hw1 : w.alloc _ = w1
  have F1 : SFilling Sh.int 3 w1 w.heap.size ks.length 0 ks := by
    subst hw1
    have := SFilling.start (A := Sh.int) (t := 3) (w := w) (z := #[.int .i64 0]) (n := ks.length) (xs := ks)
    rwa [show ks.length * Sh.int.k = ks.length from Nat.mul_one _] at this
  have B1 : Below w.heap.size w w1 := by subst hw1; exact (Below.refl _ _).alloc (Nat.le_refl _) _
  have Z1 : w.heap.size < w1.heap.size := by subst hw1; simp
  clear hw1
  go_loopw [4] (fun v4 wr => ∃ i : Nat, i ≤ ks.length ∧ v4 = .int .i64 i ∧ Hid (SFilling Sh.int 3 wr w.heap.size ks.length i ks ∧ Below w.heap.size w wr ∧ w.heap.size < wr.heap.size)) (fun v4 _ => ks.length - (intOf v4).toNat)
  case atStart => exact ⟨0, Nat.zero_le _, rfl, F1, B1, Z1⟩
  case round =>
    obtain ⟨i, hi, rfl, HF⟩ := hrel
    by_cases hlt : i < ks.length
    · obtain ⟨b, o, rfl, hS, hc, hn1, hn2⟩ := HA.out i hlt
      obtain ⟨F, HB, hZ⟩ := HF.out
      have e0 := (HB.cell (p := ⟨b, o + i, none⟩) hS).trans hc
      have hst := F.store (P := Try.prog) (Below.refl _ wr) hZ hlt (cs := [.int .i64 ks[i]]) rfl (by simp [Value.oneCell'])
      have F2 : Hid (SFilling Sh.int 3 (wr.setCells w.heap.size (i * 1) [.int .i64 ks[i]]) w.heap.size ks.length (i + 1) ks) := F.step (Below.refl _ wr) hZ hlt hlt ⟨rfl, hn1, hn2⟩
      have B2 : Hid (Below w.heap.size w (wr.setCells w.heap.size (i * 1) [.int .i64 ks[i]])) := HB.trans (setCells_below (Nat.le_refl _) _ _)
      have Z2 : Hid (w.heap.size < (wr.setCells w.heap.size (i * 1) [.int .i64 ks[i]]).heap.size) := by show _ < _; rw [setCells_size]; exact hZ
      obtain ⟨cur, hcur, hsz⟩ := F.blk
      have fz : ∀ q, wr.frozen? ⟨w.heap.size, q, none⟩ = false := fun q => by simp [World.frozen?, hcur]
      obtain ⟨u, hu⟩ : ∃ u, wr.cell? ⟨w.heap.size, i, none⟩ = some u := ⟨cur[i]'(by simp only [Sh.int] at hsz; omega), by simp [World.cell?, hcur]⟩
      have hk1 : Sh.int.k = 1 := rfl
      rw [hk1] at hst
      clear F HB hZ HF hc hcur
      generalize ks[i] = x0 at e0 hst F2 B2 Z2
      simp only [World.setCells, Nat.mul_one] at F2 B2 Z2
      go_wp2
      go_round
      case rel => exact ⟨i + 1, by omega, by go_num, F2.out, B2.out, Z2.out⟩
      case measure => simp [intOf]; omega
    · obtain rfl : i = ks.length := by omega
      go_wp2
      go_ret
      obtain ⟨F, HB, hZ⟩ := HF.out
      exact ⟨⟨_, rfl, F.done hZ (by unfold maxLen; omega)⟩, HB⟩

theorem toS_any (ks : List Int) (v : Value) (w : World) (hw : ks.length ≤ 1048576) (h : Sh.int.slice.rep w (· < w.heap.size) [v] ks) :
    Calls Try.prog 7 #[v] w fun e w' => (∃ v', e = .returned v' ∧ Sh.int.slice.rep w' (fun b => w.heap.size ≤ b ∧ b < w'.heap.size) [v'] ks) ∧ Below w.heap.size w w' :=
  (toPS_any ks v w hw h).mono fun e w' ⟨⟨v', h1, h2⟩, h3⟩ => ⟨⟨v', h1, intsp_rep h2⟩, h3⟩

end Go.Proofs.Ytojhldciehfhfaa.ints
