/-
  A row of the call's own that grows by one element after the other, each of which lies in blocks of its own; an append as a step of a region that draws its order.
  A heap at work while another block is turned.
  The program's blocks that are met (metBlocks): how they lie in memory; number.
-/
import Derived.Maps.AppendAt
import Derived.Laws.AppendOwn
import Derived.Deep.RegionLaw
import Derived.Shelf.Abstract
import Derived.Deep.RegionHeld3
import Derived.Test.YtjibmpebebephaaGreatDoorB1
import Derived.Test.YtjibmpebebephaaGreatDoorB2
import Derived.Test.YtjibmpebebephaaGreatDoorB3
import Derived.Test.YtjibmpebebephaaGreatDoorB4
import Derived.Test.YtjibmpebebephaaGreatDoorB5
import Derived.Test.YtjibmpebebephaaGreatDoorB6
import Derived.Test.YtjibmpebebephaaGreatDoorB7
import Derived.Test.YtjibmpebebephaaGreatDoorB8
import Derived.Test.YtjibmpebebephaaGreatDoorB9
import Derived.Test.YtjibmpebebephaaGreatDoorB10
import Derived.Test.YtjibmpebebephaaGreatDoorB11
import Derived.Test.YtjibmpebebephaaGreatDoorB12
import Derived.Test.YtjibmpebebephaaGreatDoorB13
import Derived.Test.YtjibmpebebephaaGreatDoorB14
import Derived.Test.YtjibmpebebephaaGreatDoorB15
import Derived.Test.YtjibmpebebephaaGreatDoorB16
import Derived.Test.YtjibmpebebephaaGreatDoorB17
import Derived.Test.YtjibmpebebephaaGreatDoorB18
import Derived.Test.YtjibmpebebephaaGreatDoorB19
import Derived.Test.YtjibmpebebephaaGreatDoorB20
import Derived.Test.YtjibmpebebephaaGreatDoorB21
import Derived.Test.YtjibmpebebephaaGreatDoorB22
import Derived.Test.YtjibmpebebephaaGreatDoorB23
namespace Go.Proofs.YtjibmpebebephaaGreatDoor.rose
open Go Go.RowKit Go.Deep Go.ChangeShapes Go.WideShapes
set_option linter.unusedVariables false

/-- An append to a row of the call's own, as one step of a region that draws its order. -/
theorem step_append_own {P : Program} {ops : Array Oper} {o : Oper} {a : Act} {w : World} {K : Act → World → Prop} {Q : Exit → Act → World → Prop} {E : Prop}
    (hg : o.guard = none) (s x : Operand) (t : TypeId) (hop : o.op = Op.call { callee := Callee.builtin Builtin.append, args := #[s, x], argTypes := #[t, t] })
    (base : Nat) (e : TypeId) (i : TypeInfo) (z : Value) (size bytes : Nat) (h1 : P.underlying t = some (.slice e)) (h2 : P.info? e = some i) (h3 : i.zero = some z) (h4 : i.size = size) (h5 : i.bytes = bytes) (h6 : z.cells.size = size) (h7 : 0 < size)
    (v : Value) (n : Nat) (xs : List Value) (hs : a.eval s = v) (hown : w.ownsRow base e size v n xs)
    (ad : Addr) (m c : Nat) (news : List Value) (hx : a.eval x = .slice (some ad) m c) (hn : news.length = m * size) (hc : ∀ j u, news[j]? = some u → w.cell? (ad.add j) = some u) (h1c : ∀ u ∈ news, u.oneCell' = true)
    (b1 : n + m ≤ maxLen) (b2 : (n + m) * bytes ≤ 140737488355328) (hbase : base ≤ w.heap.size)
    (hK : ∀ a' l' c' w', w'.ownsRow base e size (.slice a' l' c') (n + m) (xs ++ news) → w.grownBy w' v.ownBlock → ((Value.slice a' l' c').ownBlock = v.ownBlock ∨ (Value.slice a' l' c').ownBlock = some w.heap.size) → K (a.put o.dst (.slice a' l' c')) w') :
    if Region.wanted o (yielded ops a.tmps) = true then Oper.wp P o a w K Q else E := by
  have hw : Region.wanted o (yielded ops a.tmps) = true := by simp [Region.wanted, hg]
  rw [if_pos hw]
  obtain ⟨v', w', hrun, r1, r2, -, r3⟩ := run_append_own_at (P := P) w base t o.type e i z size bytes h1 h2 h3 h4 h5 h6 h7 v n xs hown ad m c news hn hc h1c b1 b2 hbase
  obtain ⟨a', l', c', rfl⟩ : ∃ a' l' c', v' = .slice a' l' c' := by
    rcases r1.2 with ⟨rfl, _⟩ | ⟨_, _, _, rfl, _⟩
    · exact ⟨_, _, _, rfl⟩
    · exact ⟨_, _, _, rfl⟩
  unfold Oper.wp
  simp [execOp, hop, resolve, invoke, builtin, hs, hx, hrun, Result.andThen]
  exact hK a' l' c' w' r1 r2 r3

/-- A call of a Go function by its contract, as one step of a region that draws its order. -/
theorem step_call {P : Program} {ops : Array Oper} {o : Oper} {a : Act} {w : World} {K : Act → World → Prop} {Q : Exit → Act → World → Prop} {E : Prop}
    (hg : o.guard = none) (f : FuncId) (hent : Enters P f) (xs : Array Operand) (ts : Array TypeId) (hop : o.op = Op.call { callee := Callee.value (Operand.func f), args := xs, argTypes := ts }) (args : Array Value)
    (R : Ending → World → Prop) (h : Calls P f args w R) (ha : xs.map a.eval = args) (hK : ∀ e w', R e w' → ∃ v, e = .returned v ∧ K (a.put o.dst v) w') :
    if Region.wanted o (yielded ops a.tmps) = true then Oper.wp P o a w K Q else E := by
  have hw : Region.wanted o (yielded ops a.tmps) = true := by simp [Region.wanted, hg]
  rw [if_pos hw]
  have hr : (execOp a.eval o).run P w = .ok (.enter f args) w := by
    subst ha
    obtain ⟨dst, op, ty, pos, after, guard⟩ := o
    have hop' : op = Op.call { callee := Callee.value (Operand.func f), args := xs, argTypes := ts } := hop
    subst hop'
    have hx : execOp a.eval { dst, op := .call { callee := .value (.func f), args := xs, argTypes := ts }, type := ty, pos, after, guard } = callFunc f (xs.map a.eval) := by
      show callFunc f (#[] ++ xs.map a.eval ++ #[]) = _
      simp
    rw [hx]
    exact hent _ _
  unfold Oper.wp
  rw [hr, Oper.upon_enter]
  refine h.mono fun e w' hR => ?_
  obtain ⟨v, rfl, hk⟩ := hK e w' hR
  exact hk

/-- The cells of a new block. -/
theorem cells_new (w : World) (cs : List Value) (t : TypeId) (arr : Array Value) (ha : arr = cs.toArray) : ∀ j u, cs[j]? = some u → (w.alloc (.cells arr t)).cell? ((⟨w.heap.size, 0, none⟩ : Addr).add j) = some u := by
  subst ha
  intro j u hj
  have hh : (w.alloc (.cells cs.toArray t)).heap[w.heap.size]? = some (.cells cs.toArray t) := alloc_top w (.cells cs.toArray t)
  rw [add_plain, Nat.zero_add]
  simp only [World.cell?, hh]
  simpa using hj

/-- WHAT HAS GROWN: element i's cells, and the blocks in which the rest of it lies. -/
def Grown {α : Type} (A : Sh α) (t : TypeId) (w : World) (base : Nat) (v : Value) (xs : List α) : Prop :=
  ∃ (css : Nat → List Value) (F : Nat → Nat → Prop), w.ownsRow base t A.k v xs.length (flat css xs.length) ∧ (∀ i (h : i < xs.length), A.rep w (F i) (css i) xs[i]) ∧
    (∀ i, i < xs.length → ∀ b, F i b → base ≤ b ∧ b < w.heap.size ∧ v.ownBlock ≠ some b) ∧ ∀ i j, i < xs.length → j < xs.length → i ≠ j → ∀ b, F i b → ¬ F j b

theorem Grown.nil {α : Type} (A : Sh α) (t : TypeId) (w : World) (base : Nat) : Grown A t w base (.slice none 0 0) ([] : List α) :=
  ⟨fun _ => [], fun _ _ => False, World.ownsRow_nil w base t A.k, fun i h => absurd h (Nat.not_lt_zero _), fun i h => absurd h (Nat.not_lt_zero _), fun i j h => absurd h (Nat.not_lt_zero _)⟩

theorem Grown.on {α : Type} {A : Sh α} {t : TypeId} {w w' : World} {base : Nat} {v : Value} {xs : List α} (h : Grown A t w base v xs) (hs : w.heap.size ≤ w'.heap.size) (hb : ∀ b, base ≤ b → b < w.heap.size → w'.heap[b]? = w.heap[b]?) : Grown A t w' base v xs := by
  obtain ⟨css, F, ⟨hl, hv⟩, hr, hf, ha⟩ := h
  refine ⟨css, F, ⟨hl, ?_⟩, fun i hi => A.on (hr i hi) fun b hS => hb b (hf i hi b hS).1 (hf i hi b hS).2.1, fun i hi b hS => ⟨(hf i hi b hS).1, Nat.lt_of_lt_of_le (hf i hi b hS).2.1 hs, (hf i hi b hS).2.2⟩, ha⟩
  rcases hv with h0 | ⟨g, cap, cur, h1, h2, h3, h4⟩
  · exact Or.inl h0
  · exact Or.inr ⟨g, cap, cur, h1, h2, by rw [hb g h2 (Array.getElem?_eq_some_iff.1 h3).1]; exact h3, h4⟩

theorem Grown.row {α : Type} {A : Sh α} {t : TypeId} {w : World} {base : Nat} {v : Value} {xs : List α} (h : Grown A t w base v xs) : ∃ ys, w.ownsRow base t A.k v xs.length ys := by
  obtain ⟨css, F, h1, -⟩ := h
  exact ⟨_, h1⟩
theorem Grown.slice {α : Type} {A : Sh α} {t : TypeId} {w : World} {base : Nat} {v : Value} {xs : List α} (h : Grown A t w base v xs) : ∃ a c, v = .slice a xs.length c := by
  obtain ⟨css, F, ⟨hl, hv⟩, -⟩ := h
  rcases hv with ⟨rfl, h0⟩ | ⟨g, cap, cur, h1, -⟩
  · exact ⟨_, _, by rw [h0]⟩
  · exact ⟨_, _, h1⟩
theorem Grown.own {α : Type} {A : Sh α} {t : TypeId} {w : World} {base : Nat} {v : Value} {xs : List α} (h : Grown A t w base v xs) {g : Nat} (hg : v.ownBlock = some g) : base ≤ g ∧ g < w.heap.size := by
  obtain ⟨css, F, ⟨hl, hv⟩, -⟩ := h
  rcases hv with ⟨rfl, h0⟩ | ⟨q, cap, cur, rfl, h2, h3, -⟩
  · cases hg
  · simp only [Value.ownBlock, Option.some.injEq] at hg
    subst hg
    exact ⟨h2, (Array.getElem?_eq_some_iff.1 h3).1⟩

/-- One more: its rest lies in blocks that are new since w; the append made w' of w1. -/
theorem Grown.push {α : Type} {A : Sh α} {t : TypeId} {w w1 w' : World} {base : Nat} {v : Value} {xs : List α} {css : Nat → List Value} {F : Nat → Nat → Prop} {a' : Option Addr} {l' c' : Nat} {cs : List Value} {x : α} {lo hi : Nat}
    (hr : ∀ i (h : i < xs.length), A.rep w1 (F i) (css i) xs[i]) (hf : ∀ i, i < xs.length → ∀ b, F i b → base ≤ b ∧ b < lo ∧ v.ownBlock ≠ some b) (ha : ∀ i j, i < xs.length → j < xs.length → i ≠ j → ∀ b, F i b → ¬ F j b)
    (hv : ∀ g, v.ownBlock = some g → g < lo) (hx : A.rep w1 (fun b => lo ≤ b ∧ b < hi) cs x) (hb : base ≤ lo) (h1 : lo ≤ hi) (h2 : hi ≤ w1.heap.size)
    (ho : w'.ownsRow base t A.k (.slice a' l' c') (xs.length + 1) (flat css xs.length ++ cs)) (hg : w1.grownBy w' v.ownBlock) (hat : (Value.slice a' l' c').ownBlock = v.ownBlock ∨ (Value.slice a' l' c').ownBlock = some w1.heap.size) :
    Grown A t w' base (.slice a' l' c') (xs ++ [x]) := by
  have same : ∀ b, b < w1.heap.size → v.ownBlock ≠ some b → w'.heap[b]? = w1.heap[b]? := fun b hb hn => hg.block b hb fun e => hn e.symm
  refine ⟨fun i => if i < xs.length then css i else cs, fun i => if i < xs.length then F i else fun b => lo ≤ b ∧ b < hi, ?_, fun i hi => ?_, fun i hi b => ?_, fun i j hi hj hne b => ?_⟩
  · rw [List.length_append, List.length_singleton, flat_succ, if_neg (Nat.lt_irrefl _)]
    have : flat (fun i => if i < xs.length then css i else cs) xs.length = flat css xs.length := by
      unfold flat
      exact Go.Deep.flatMap_congr_range fun i hi => by simp [hi]
    rw [this]
    exact ho
  · rw [List.length_append, List.length_singleton] at hi
    by_cases hlt : i < xs.length
    · simp only [if_pos hlt]
      rw [List.getElem_append_left hlt]
      exact A.on (hr i hlt) fun b hS => same b (by have := (hf i hlt b hS).2.1; omega) (hf i hlt b hS).2.2
    · simp only [if_neg hlt]
      rw [List.getElem_append_right (by omega)]
      simp only [List.getElem_singleton]
      exact A.on hx fun b hS => same b (by omega) fun e => by have := hv b e; omega
  · rw [List.length_append, List.length_singleton] at hi
    by_cases hlt : i < xs.length
    · simp only [if_pos hlt]
      intro hS
      obtain ⟨q1, q2, q3⟩ := hf i hlt b hS
      refine ⟨q1, by have := hg.size; omega, fun e => ?_⟩
      rcases hat with h | h
      · exact q3 (h.symm.trans e)
      · rw [h] at e; simp only [Option.some.injEq] at e; omega
    · simp only [if_neg hlt]
      intro hS
      refine ⟨by omega, by have := hg.size; omega, fun e => ?_⟩
      rcases hat with h | h
      · have := hv b (h.symm.trans e); omega
      · rw [h] at e; simp only [Option.some.injEq] at e; omega
  · rw [List.length_append, List.length_singleton] at hi hj
    by_cases h1 : i < xs.length
    · by_cases h2 : j < xs.length
      · simp only [if_pos h1, if_pos h2]; exact ha i j h1 h2 hne b
      · simp only [if_pos h1, if_neg h2]
        intro q1 q2
        have := (hf i h1 b q1).2.1; omega
    · by_cases h2 : j < xs.length
      · simp only [if_neg h1, if_pos h2]
        intro q1 q2
        have := (hf j h2 b q2).2.1; omega
      · omega

/-- What has grown lies apart. -/
theorem Grown.sslice {α : Type} {A : Sh α} {t : TypeId} {w : World} {base : Nat} {v : Value} {xs : List α} (h : Grown A t w base v xs) (hk : 0 < A.k) : A.sslice.rep w (fun b => base ≤ b ∧ b < w.heap.size) [v] xs := by
  obtain ⟨css, F, ⟨hl, hv⟩, hr, hf, ha⟩ := h
  rcases hv with ⟨rfl, h0⟩ | ⟨g, cap, cur, rfl, h2, h3, h4, h5, h6, h7⟩
  · have : xs = [] := List.eq_nil_of_length_eq_zero h0
    subst this
    exact ⟨none, 0, fun _ => [], fun _ _ => False, rfl, Nat.le_refl _, Nat.zero_le _, fun _ => rfl, fun h => absurd h (Nat.lt_irrefl _), fun i hi => absurd hi (Nat.not_lt_zero _), fun i j hi => absurd hi (Nat.not_lt_zero _), fun i hi => absurd hi (Nat.not_lt_zero _)⟩
  · have hg : g < w.heap.size := (Array.getElem?_eq_some_iff.1 h3).1
    refine ⟨some ⟨g, 0, none⟩, cap, css, F, rfl, h4, h5, (fun h => by cases h), fun _ => ⟨g, 0, cur, t, rfl, ⟨h2, hg⟩, h3, fun i hi q => (hf i hi g q).2.2 rfl, fun i hi j u hj => ?_⟩, fun i hi b hS => ⟨(hf i hi b hS).1, (hf i hi b hS).2.1⟩, ha, hr⟩
    have hjk : j < A.k := by
      rcases Nat.lt_or_ge j A.k with h' | h'
      · exact h'
      · rw [List.getElem?_eq_none (by rw [A.len (hr i hi)]; exact h')] at hj; cases hj
    have hf' := flat_get (css := css) (n := xs.length) (k := A.k) (fun i hi => A.len (hr i hi)) hi hjk
    rw [hj, ← h7, List.getElem?_take] at hf'
    have hlt : i * A.k + j < xs.length * A.k := by
      have := Nat.mul_le_mul_right A.k (show i + 1 ≤ xs.length by omega)
      rw [Nat.succ_mul] at this; omega
    rw [if_pos hlt] at hf'
    simp only [World.cell?, h3, Nat.zero_add]
    rw [Array.getElem?_toList] at hf'
    exact hf'

end Go.Proofs.YtjibmpebebephaaGreatDoor.rose

namespace Go.Proofs.YtjibmpebebephaaGreatDoor.heap
open Go Go.RowKit Go.Proofs.YtjibmpebebephaaGreatDoor.rose Go.Proofs.YtjibmpebebephaaGreatDoor Go.Proofs.YtjibmpebebephaaGreatDoor.fun Go.Proofs.YtjibmpebebephaaGreatDoor.words Go.Proofs.YtjibmpebebephaaGreatDoor.ints
set_option linter.unusedVariables false
set_option linter.unusedSimpArgs false

/-- A cell of another block is written. -/
theorem HH.other {B hb hm : Nat} {wv : Value} {W : List Int} {half base next : Nat} {lk : Int} {M : List Bool} {w : World} (h : HH B hb hm wv W half base next lk M w) {g : Nat} (j : Nat) (v : Value) (h1 : ¬ g = hb) (h2 : ¬ g = hm) (h3 : B ≤ g) : HH B hb hm wv W half base next lk M (w.setCell ⟨g, j, none⟩ v) :=
  ⟨h.lo, (Below.heap_setCell _ _ _ _ (by show hb ≠ g; omega)).trans h.blk, (Below.heap_setCell _ _ _ _ (by show hm ≠ g; omega)).trans h.mks, h.len, intsSh.on h.wds fun b hb' => Below.heap_setCell _ _ _ _ (by show b ≠ g; omega), h.siz⟩
theorem setr3 {w : World} {r : Nat} {t : TypeId} {u0 u1 u2 : Value} (v0 v1 v2 : Value) (h : w.heap[r]? = some (.cells #[u0, u1, u2] t)) : (((w.setCell ⟨r, 0, none⟩ v0).setCell ⟨r, 1, none⟩ v1).setCell ⟨r, 2, none⟩ v2).heap[r]? = some (.cells #[v0, v1, v2] t) := by
  simp [World.setCell, Array.getElem?_modify, h]
theorem HH.res {B hb hm : Nat} {wv : Value} {W : List Int} {half base next : Nat} {lk : Int} {M : List Bool} {w : World} (h : HH B hb hm wv W half base next lk M w) {g : Nat} (v0 v1 v2 : Value) (h1 : ¬ g = hb) (h2 : ¬ g = hm) (h3 : B ≤ g) : HH B hb hm wv W half base next lk M (((w.setCell ⟨g, 0, none⟩ v0).setCell ⟨g, 1, none⟩ v1).setCell ⟨g, 2, none⟩ v2) :=
  ((h.other 0 v0 h1 h2 h3).other 1 v1 h1 h2 h3).other 2 v2 h1 h2 h3
theorem cell_res3 {w : World} {g r j : Nat} {u : Value} (v0 v1 v2 : Value) (h : w.cell? ⟨g, j, none⟩ = some u) (hne : ¬ r = g) : (((w.setCell ⟨r, 0, none⟩ v0).setCell ⟨r, 1, none⟩ v1).setCell ⟨r, 2, none⟩ v2).cell? ⟨g, j, none⟩ = some u := by
  have e : (((w.setCell ⟨r, 0, none⟩ v0).setCell ⟨r, 1, none⟩ v1).setCell ⟨r, 2, none⟩ v2).heap[g]? = w.heap[g]? :=
    ((Below.heap_setCell _ _ _ _ (by show g ≠ r; omega)).trans (Below.heap_setCell _ _ _ _ (by show g ≠ r; omega))).trans (Below.heap_setCell _ _ _ _ (by show g ≠ r; omega))
  rw [← h]
  simp only [World.cell?, e]
theorem irow_res3 {w : World} {base r : Nat} {v : Value} {l : List Int} (v0 v1 v2 : Value) (h : IRow w base v l) (hr : r < base) : IRow (((w.setCell ⟨r, 0, none⟩ v0).setCell ⟨r, 1, none⟩ v1).setCell ⟨r, 2, none⟩ v2) base v l :=
  ⟨own_same h.1 fun q hq => by
    have := (h.lt q hq).1
    exact ((Below.heap_setCell _ _ _ _ (by show q ≠ r; omega)).trans (Below.heap_setCell _ _ _ _ (by show q ≠ r; omega))).trans (Below.heap_setCell _ _ _ _ (by show q ≠ r; omega)), h.2⟩

end Go.Proofs.YtjibmpebebephaaGreatDoor.heap

namespace Go.Proofs.YtjibmpebebephaaGreatDoor.heap
open Go Go.RowKit Go.Deep Go.Proofs.YtjibmpebebephaaGreatDoor.rose Go.Proofs.YtjibmpebebephaaGreatDoor Go.Proofs.YtjibmpebebephaaGreatDoor.fun Go.Proofs.YtjibmpebebephaaGreatDoor.words Go.Proofs.YtjibmpebebephaaGreatDoor.ints
set_option linter.unusedVariables false
set_option linter.unusedSimpArgs false

theorem blk_cellH {w : World} {g i : Nat} {cs : Array Value} {t : TypeId} {u : Value} (h : w.heap[g]? = some (.cells cs t)) (hi : cs[i]? = some u) : w.cell? ⟨g, i, none⟩ = some u := by simp [World.cell?, h, hi]
theorem wordRef_same (x : Int) (w : World) (h1 : -9223372036854775808 ≤ x) (h2 : x ≤ 9223372036854775807) :
    Calls Tryz.prog 111 #[.int .i64 x] w fun e w' => e = .returned (.int .i64 (x / 2)) ∧ w' = w := by
  go_enter Tryz.func111, Tryz.ntmps111
  go_wp2
  go_ret
  exact ⟨ret_i (by first | rfl | omega | (simp; done) | (simp; omega)), rfl⟩
theorem wordRef_b (x : Int) (w : World) (h1 : -9223372036854775808 ≤ x) (h2 : x ≤ 9223372036854775807) :
    Calls Tryz.prog 111 #[.int .i64 x] w fun e w' => e = .returned (.int .i64 (x / 2)) ∧ Below w.heap.size w w' :=
  (wordRef_same x w h1 h2).mono fun e w' ⟨h, he⟩ => ⟨h, by rw [he]; exact Below.refl _ _⟩
theorem isRef_bel {x : Int} {b : Bool} (hb : decide (x % 2 = 0) = b) (w : World) (h1 : -9223372036854775808 ≤ x) (h2 : x ≤ 9223372036854775807) :
    Calls Tryz.prog 105 #[.int .i64 x] w fun e w' => e = .returned (.bool b) ∧ Below w.heap.size w w' :=
  (isRef_b hb w h1 h2).mono fun e w' ⟨h, he⟩ => ⟨h, by rw [he]; exact Below.refl _ _⟩

/-- Which block of O begins at the j-th place of the half, or -1. -/
def numO (base : Nat) (O : List Int) (j : Nat) : Int := if ((base + j : Nat) : Int) ∈ O then (O.idxOf ((base + j : Nat) : Int) : Nat) else -1
def numsO (base half : Nat) (O : List Int) : List Int := (List.range half).map (numO base O)
theorem numsO_len (base half : Nat) (O : List Int) : (numsO base half O).length = half := by simp [numsO]
theorem numsO_nil (base half : Nat) : numsO base half [] = List.replicate half (-1) := by
  apply List.ext_getElem
  · simp [numsO]
  · intro i h1 h2; simp [numsO, numO]
theorem numsO_push {base half : Nat} {O : List Int} {j : Nat} (hj : j < half) (hn : ((base + j : Nat) : Int) ∉ O) : numsO base half (O ++ [((base + j : Nat) : Int)]) = (numsO base half O).set j O.length := by
  apply List.ext_getElem
  · simp [numsO]
  · intro i h1 h2
    have hi : i < half := by simpa [numsO] using h1
    by_cases e : i = j
    · subst e
      have hn' : ¬ ((base : Int) + (i : Int)) ∈ O := by simpa using hn
      simp [numsO, numO, List.idxOf_append, hn']
    · rw [List.getElem_set_ne (by omega)]
      have e3 : ¬ ((base + i : Nat) : Int) = ((base + j : Nat) : Int) := by omega
      simp only [numsO, List.getElem_map, List.getElem_range, numO, List.mem_append, List.mem_singleton]
      by_cases e2 : ((base + i : Nat) : Int) ∈ O
      · rw [if_pos (.inl e2), if_pos e2, List.idxOf_append, if_pos e2]
      · rw [if_neg (by simp only [e2, e3, or_self, not_false_eq_true]), if_neg e2]

/-- The blocks that were met, as they lie in memory: their places v, their numbers' block nb. -/
structure Met (B nb : Nat) (v : Value) (base half : Nat) (O : List Int) (w : World) : Prop where
  lo : B ≤ nb ∧ v.ownBlock ≠ some nb
  plc : IRow w B v O
  num : w.heap[nb]? = some (.cells ((numsO base half O).map (Value.int .i64)).toArray 3)
  siz : half ≤ 3000 ∧ base ≤ 3000 ∧ O.length ≤ half ∧ (∀ x ∈ O, (base : Int) ≤ x ∧ x < base + half)
  nod : O.Nodup
/-- .. in a block of their own. -/
structure MB (B mb nb : Nat) (v : Value) (base half : Nat) (O : List Int) (w : World) : Prop where
  met : Met B nb v base half O w
  lo : B ≤ mb ∧ mb ≠ nb ∧ v.ownBlock ≠ some mb
  blk : w.heap[mb]? = some (.cells #[.int .i64 base, v, .slice (some ⟨nb, 0, none⟩) half half] 69)
section
variable {B mb nb : Nat} {v : Value} {base half : Nat} {O : List Int} {w w' : World}
theorem Met.lt (h : Met B nb v base half O w) : nb < w.heap.size := (Array.getElem?_eq_some_iff.1 h.num).1
theorem MB.lt (h : MB B mb nb v base half O w) : mb < w.heap.size ∧ nb < w.heap.size := ⟨(Array.getElem?_eq_some_iff.1 h.blk).1, h.met.lt⟩
theorem Met.on (h : Met B nb v base half O w) (hB : Below w.heap.size w w') : Met B nb v base half O w' := ⟨h.lo, h.plc.keep hB, (hB.block nb h.lt).trans h.num, h.siz, h.nod⟩
theorem MB.on (h : MB B mb nb v base half O w) (hB : Below w.heap.size w w') : MB B mb nb v base half O w' := ⟨h.met.on hB, h.lo, (hB.block mb h.lt.1).trans h.blk⟩
/-- Blocks elsewhere may turn. -/
theorem Met.other (h : Met B nb v base half O w) (e1 : w'.heap[nb]? = w.heap[nb]?) (e2 : ∀ q, v.ownBlock = some q → w'.heap[q]? = w.heap[q]?) : Met B nb v base half O w' := ⟨h.lo, ⟨own_same h.plc.1 e2, h.plc.2⟩, e1.trans h.num, h.siz, h.nod⟩
theorem Met.nc (h : Met B nb v base half O w) {j : Nat} (hj : j < half) : w.cell? ⟨nb, j, none⟩ = some (.int .i64 (numO base O j)) := by
  simp [World.cell?, h.num, numsO, hj]
theorem MB.c0 (h : MB B mb nb v base half O w) : w.cell? ⟨mb, 0, none⟩ = some (.int .i64 base) := by simp [World.cell?, h.blk]
theorem MB.c1 (h : MB B mb nb v base half O w) : w.cell? ⟨mb, 1, none⟩ = some v := by simp [World.cell?, h.blk]
theorem MB.c2 (h : MB B mb nb v base half O w) : w.cell? ⟨mb, 2, none⟩ = some (.slice (some ⟨nb, 0, none⟩) half half) := by simp [World.cell?, h.blk]
theorem MB.frz (h : MB B mb nb v base half O w) (j : Nat) : w.frozen? ⟨mb, j, none⟩ = false := by simp [World.frozen?, h.blk]
theorem MB.nfrz (h : MB B mb nb v base half O w) (j : Nat) : w.frozen? ⟨nb, j, none⟩ = false := by simp [World.frozen?, h.met.num]
theorem numO_in (h : O.length ≤ 3000) (j : Nat) : -1 ≤ numO base O j ∧ numO base O j ≤ 3000 := by
  unfold numO
  split
  · rename_i hm
    have := List.idxOf_lt_length_iff.2 hm
    omega
  · omega
end

set_option maxRecDepth 100000 in
set_option maxHeartbeats 4000000 in
theorem number_is (base : Nat) (v : Value) (nb half j : Nat) (x r : Int) (w : World) (hx : x / 2 = ((base + j : Nat) : Int)) (hj : j < half) (hh : half ≤ 3000 ∧ base ≤ 3000) (h1 : -9223372036854775808 ≤ x) (h2 : x ≤ 9223372036854775807) (hc : w.cell? ⟨nb, j, none⟩ = some (.int .i64 r)) (hn : nb < w.heap.size) :
    Calls Tryz.prog 115 #[.agg #[.int .i64 base, v, .slice (some ⟨nb, 0, none⟩) half half], .int .i64 x] w fun e w' => e = .returned (.int .i64 r) ∧ Below w.heap.size w w' := by
  have hcall : ∀ X : World, Calls Tryz.prog 111 #[.int .i64 x] X fun e w' => e = .returned (.int .i64 ((base : Int) + j)) ∧ Below X.heap.size X w' := fun X => (wordRef_b x X h1 h2).mono fun e w' ⟨he, hb⟩ => ⟨by rw [he, hx]; simp, hb⟩
  have T0 := alloc_top w (.cells #[.int .i64 base, v, .slice (some ⟨nb, 0, none⟩) half half] 69)
  have K0 : Hid (Below w.heap.size w (w.alloc (.cells #[.int .i64 base, v, .slice (some ⟨nb, 0, none⟩) half half] 69))) := (Below.refl _ _).alloc (Nat.le_refl _) _
  have hz : w.heap.size < (w.alloc (.cells #[.int .i64 base, v, .slice (some ⟨nb, 0, none⟩) half half] 69)).heap.size := by simp
  have cn : (w.alloc (.cells #[.int .i64 base, v, .slice (some ⟨nb, 0, none⟩) half half] 69)).cell? ⟨nb, j, none⟩ = some (.int .i64 r) := (K0.out.cell (p := ⟨nb, j, none⟩) hn).trans hc
  have hnz : nb < (w.alloc (.cells #[.int .i64 base, v, .slice (some ⟨nb, 0, none⟩) half half] 69)).heap.size := by simp; omega
  have c0 : (w.alloc (.cells #[.int .i64 base, v, .slice (some ⟨nb, 0, none⟩) half half] 69)).cell? ⟨w.heap.size, 0, none⟩ = some (.int .i64 base) := blk_cellH (i := 0) T0 rfl
  have c2 : (w.alloc (.cells #[.int .i64 base, v, .slice (some ⟨nb, 0, none⟩) half half] 69)).cell? ⟨w.heap.size, 2, none⟩ = some (.slice (some ⟨nb, 0, none⟩) half half) := blk_cellH (i := 2) T0 rfl
  have c0n : (w.alloc (.cells #[.int .i64 base, v, .slice (some ⟨nb, 0, none⟩) half half] 69)).drew.cell? ⟨w.heap.size, 0, none⟩ = some (.int .i64 base) := c0
  have c2n : (w.alloc (.cells #[.int .i64 base, v, .slice (some ⟨nb, 0, none⟩) half half] 69)).drew.cell? ⟨w.heap.size, 2, none⟩ = some (.slice (some ⟨nb, 0, none⟩) half half) := c2
  have cnn : (w.alloc (.cells #[.int .i64 base, v, .slice (some ⟨nb, 0, none⟩) half half] 69)).drew.cell? ⟨nb, j, none⟩ = some (.int .i64 r) := cn
  have e1 : IntKind.i64.wrap ((base : Int) + j - base) = (j : Int) := by rw [IntKind.wrap_i64]; omega
  have e2 : (base : Int) + j - base = (j : Int) := by omega
  have e3 : IntKind.i64.wrap (j : Int) = (j : Int) := by rw [IntKind.wrap_i64]; omega
  have e4 : ¬ ((j : Int) < 0) := by omega
  have e5 : ((j : Int)).toNat = j := by omega
  have jI : (j : Int) < (half : Int) := by omega
  have j0 : (0 : Int) ≤ (j : Int) := by omega
  clear T0 hc hx
  go_enter Tryz.func115, Tryz.ntmps115
  go_wp2
  go_region_held3 (fun X => X.cell? ⟨w.heap.size, 0, none⟩ = some (.int .i64 base) ∧ X.cell? ⟨w.heap.size, 2, none⟩ = some (.slice (some ⟨nb, 0, none⟩) half half) ∧ X.cell? ⟨nb, j, none⟩ = some (.int .i64 r))
    (exact ⟨(by first | with_reducible exact c0 | with_reducible exact c0n), (by first | with_reducible exact c2 | with_reducible exact c2n), (by first | with_reducible exact cn | with_reducible exact cnn)⟩)
    (first | (go_at_call 111; refine (hcall _).mono ?_; rintro e w1 ⟨rfl, hB⟩; have K1 : Hid (Below w.heap.size w w1) := K0.out.drew.trans (hB.mono K0.out.size); replace c0 : w1.cell? ⟨w.heap.size, 0, none⟩ = some (.int .i64 base) := (hB.cell (p := ⟨w.heap.size, 0, none⟩) hz).trans c0; replace c2 : w1.cell? ⟨w.heap.size, 2, none⟩ = some (.slice (some ⟨nb, 0, none⟩) half half) := (hB.cell (p := ⟨w.heap.size, 2, none⟩) hz).trans c2; replace cn : w1.cell? ⟨nb, j, none⟩ = some (.int .i64 r) := (hB.cell (p := ⟨nb, j, none⟩) hnz).trans cn; clear hB))
  go_wp2
  go_ret
  exact ⟨rfl, K1.out⟩

end Go.Proofs.YtjibmpebebephaaGreatDoor.heap
