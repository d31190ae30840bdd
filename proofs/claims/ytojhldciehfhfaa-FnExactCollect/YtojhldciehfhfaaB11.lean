/-
  A row of the call's own that grows by one element after the other, each of which lies in blocks of its own; an append as a step of a region that draws its order.
  The model's l17Copy: the same heap in new memory; nothing that was there is turned.
-/
import Derived.Maps.AppendAt
import Derived.Laws.AppendOwn
import Derived.Deep.RegionLaw
import Derived.Shelf.Abstract
import Derived.Deep.RegionHeld3
import Derived.Test.YtojhldciehfhfaaB1
import Derived.Test.YtojhldciehfhfaaB2
import Derived.Test.YtojhldciehfhfaaB3
import Derived.Test.YtojhldciehfhfaaB4
import Derived.Test.YtojhldciehfhfaaB5
import Derived.Test.YtojhldciehfhfaaB6
import Derived.Test.YtojhldciehfhfaaB7
import Derived.Test.YtojhldciehfhfaaB8
import Derived.Test.YtojhldciehfhfaaB9
import Derived.Test.YtojhldciehfhfaaB10
namespace Go.Proofs.Ytojhldciehfhfaa.rose
open Go Go.RowKit Go.Deep Go.ChangeShapes Go.WideShapes
set_option linter.unusedVariables false

/-- An append to a row of the call's own, as one step of a region that draws its order. -/
theorem step_append_own {P : Program} {ops : Array Oper} {o : Oper} {a : Act} {w : World} {K : Act → World → Prop} {Q : Exit → Act → World → Prop} {E : Prop}
    (hg : o.guard = none) (s x : Operand) (t : TypeId) (hop : o.op = Op.call { callee := Callee.builtin Builtin.append, args := #[s, x], argTypes := #[t, t] })
    (base : Nat) (e : TypeId) (i : TypeInfo) (z : Value) (size bytes : Nat) (h1 : P.underlying t = some (.slice e)) (h2 : P.info? e = some i) (h3 : i.zero = some z) (h4 : i.size = size) (h5 : i.bytes = bytes) (h6 : z.cells.size = size) (h7 : 0 < size)
    (v : Value) (n : Nat) (xs : List Value) (hs : a.eval s = v) (hown : w.ownsRow base e size v n xs)
    (ad : Addr) (m c : Nat) (news : List Value) (hx : a.eval x = .slice (some ad) m c) (hn : news.length = m * size) (hc : ∀ j u, news[j]? = some u → w.cell? (ad.add j) = some u) (h1c : ∀ u ∈ news, u.oneCell' = true)
    (b1 : n + m ≤ maxLen) (b2 : (n + m) * bytes ≤ 140737488355328) (hbase : base ≤ w.heap.size)
    (hK : ∀ a' l' c' w', w'.ownsRow base e size (.slice a' l' c') (n + m) (xs ++ news) → w.grownBy w' v.ownBlock → ((Value.slice a' l' c').ownBlock = v.ownBlock ∨ (Value.slice a' l' c').ownBlock = some w.heap.size) → K (a.put o.dst (.slice a' l' c')) w') :
    if Region.wanted o (yielded ops a.tmps) = true then Oper.wp P o a w K Q else E := by
  have hw : Region.wanted o (yielded ops a.tmps) = true := by simp [Region.wanted, hg]
  rw [if_pos hw]
  obtain ⟨v', w', hrun, r1, r2, -, r3⟩ := run_append_own_at (P := P) w base t o.type e i z size bytes h1 h2 h3 h4 h5 h6 h7 v n xs hown ad m c news hn hc h1c b1 b2 hbase
  obtain ⟨a', l', c', rfl⟩ : ∃ a' l' c', v' = .slice a' l' c' := by
    rcases r1.2 with ⟨rfl, _⟩ | ⟨_, _, _, rfl, _⟩
    · exact ⟨_, _, _, rfl⟩
    · exact ⟨_, _, _, rfl⟩
  unfold Oper.wp
  simp [execOp, hop, resolve, invoke, builtin, hs, hx, hrun, Result.andThen]
  exact hK a' l' c' w' r1 r2 r3

/-- A call of a Go function by its contract, as one step of a region that draws its order. -/
theorem step_call {P : Program} {ops : Array Oper} {o : Oper} {a : Act} {w : World} {K : Act → World → Prop} {Q : Exit → Act → World → Prop} {E : Prop}
    (hg : o.guard = none) (f : FuncId) (hent : Enters P f) (xs : Array Operand) (ts : Array TypeId) (hop : o.op = Op.call { callee := Callee.value (Operand.func f), args := xs, argTypes := ts }) (args : Array Value)
    (R : Ending → World → Prop) (h : Calls P f args w R) (ha : xs.map a.eval = args) (hK : ∀ e w', R e w' → ∃ v, e = .returned v ∧ K (a.put o.dst v) w') :
    if Region.wanted o (yielded ops a.tmps) = true then Oper.wp P o a w K Q else E := by
  have hw : Region.wanted o (yielded ops a.tmps) = true := by simp [Region.wanted, hg]
  rw [if_pos hw]
  have hr : (execOp a.eval o).run P w = .ok (.enter f args) w := by
    subst ha
    obtain ⟨dst, op, ty, pos, after, guard⟩ := o
    have hop' : op = Op.call { callee := Callee.value (Operand.func f), args := xs, argTypes := ts } := hop
    subst hop'
    have hx : execOp a.eval { dst, op := .call { callee := .value (.func f), args := xs, argTypes := ts }, type := ty, pos, after, guard } = callFunc f (xs.map a.eval) := by
      show callFunc f (#[] ++ xs.map a.eval ++ #[]) = _
      simp
    rw [hx]
    exact hent _ _
  unfold Oper.wp
  rw [hr, Oper.upon_enter]
  refine h.mono fun e w' hR => ?_
  obtain ⟨v, rfl, hk⟩ := hK e w' hR
  exact hk

/-- The cells of a new block. -/
theorem cells_new (w : World) (cs : List Value) (t : TypeId) (arr : Array Value) (ha : arr = cs.toArray) : ∀ j u, cs[j]? = some u → (w.alloc (.cells arr t)).cell? ((⟨w.heap.size, 0, none⟩ : Addr).add j) = some u := by
  subst ha
  intro j u hj
  have hh : (w.alloc (.cells cs.toArray t)).heap[w.heap.size]? = some (.cells cs.toArray t) := alloc_top w (.cells cs.toArray t)
  rw [add_plain, Nat.zero_add]
  simp only [World.cell?, hh]
  simpa using hj

/-- WHAT HAS GROWN: element i's cells, and the blocks in which the rest of it lies. -/
def Grown {α : Type} (A : Sh α) (t : TypeId) (w : World) (base : Nat) (v : Value) (xs : List α) : Prop :=
  ∃ (css : Nat → List Value) (F : Nat → Nat → Prop), w.ownsRow base t A.k v xs.length (flat css xs.length) ∧ (∀ i (h : i < xs.length), A.rep w (F i) (css i) xs[i]) ∧
    (∀ i, i < xs.length → ∀ b, F i b → base ≤ b ∧ b < w.heap.size ∧ v.ownBlock ≠ some b) ∧ ∀ i j, i < xs.length → j < xs.length → i ≠ j → ∀ b, F i b → ¬ F j b

theorem Grown.nil {α : Type} (A : Sh α) (t : TypeId) (w : World) (base : Nat) : Grown A t w base (.slice none 0 0) ([] : List α) :=
  ⟨fun _ => [], fun _ _ => False, World.ownsRow_nil w base t A.k, fun i h => absurd h (Nat.not_lt_zero _), fun i h => absurd h (Nat.not_lt_zero _), fun i j h => absurd h (Nat.not_lt_zero _)⟩

theorem Grown.on {α : Type} {A : Sh α} {t : TypeId} {w w' : World} {base : Nat} {v : Value} {xs : List α} (h : Grown A t w base v xs) (hs : w.heap.size ≤ w'.heap.size) (hb : ∀ b, base ≤ b → b < w.heap.size → w'.heap[b]? = w.heap[b]?) : Grown A t w' base v xs := by
  obtain ⟨css, F, ⟨hl, hv⟩, hr, hf, ha⟩ := h
  refine ⟨css, F, ⟨hl, ?_⟩, fun i hi => A.on (hr i hi) fun b hS => hb b (hf i hi b hS).1 (hf i hi b hS).2.1, fun i hi b hS => ⟨(hf i hi b hS).1, Nat.lt_of_lt_of_le (hf i hi b hS).2.1 hs, (hf i hi b hS).2.2⟩, ha⟩
  rcases hv with h0 | ⟨g, cap, cur, h1, h2, h3, h4⟩
  · exact Or.inl h0
  · exact Or.inr ⟨g, cap, cur, h1, h2, by rw [hb g h2 (Array.getElem?_eq_some_iff.1 h3).1]; exact h3, h4⟩

theorem Grown.row {α : Type} {A : Sh α} {t : TypeId} {w : World} {base : Nat} {v : Value} {xs : List α} (h : Grown A t w base v xs) : ∃ ys, w.ownsRow base t A.k v xs.length ys := by
  obtain ⟨css, F, h1, -⟩ := h
  exact ⟨_, h1⟩
theorem Grown.slice {α : Type} {A : Sh α} {t : TypeId} {w : World} {base : Nat} {v : Value} {xs : List α} (h : Grown A t w base v xs) : ∃ a c, v = .slice a xs.length c := by
  obtain ⟨css, F, ⟨hl, hv⟩, -⟩ := h
  rcases hv with ⟨rfl, h0⟩ | ⟨g, cap, cur, h1, -⟩
  · exact ⟨_, _, by rw [h0]⟩
  · exact ⟨_, _, h1⟩
theorem Grown.own {α : Type} {A : Sh α} {t : TypeId} {w : World} {base : Nat} {v : Value} {xs : List α} (h : Grown A t w base v xs) {g : Nat} (hg : v.ownBlock = some g) : base ≤ g ∧ g < w.heap.size := by
  obtain ⟨css, F, ⟨hl, hv⟩, -⟩ := h
  rcases hv with ⟨rfl, h0⟩ | ⟨q, cap, cur, rfl, h2, h3, -⟩
  · cases hg
  · simp only [Value.ownBlock, Option.some.injEq] at hg
    subst hg
    exact ⟨h2, (Array.getElem?_eq_some_iff.1 h3).1⟩

/-- One more: its rest lies in blocks that are new since w; the append made w' of w1. -/
theorem Grown.push {α : Type} {A : Sh α} {t : TypeId} {w w1 w' : World} {base : Nat} {v : Value} {xs : List α} {css : Nat → List Value} {F : Nat → Nat → Prop} {a' : Option Addr} {l' c' : Nat} {cs : List Value} {x : α} {lo hi : Nat}
    (hr : ∀ i (h : i < xs.length), A.rep w1 (F i) (css i) xs[i]) (hf : ∀ i, i < xs.length → ∀ b, F i b → base ≤ b ∧ b < lo ∧ v.ownBlock ≠ some b) (ha : ∀ i j, i < xs.length → j < xs.length → i ≠ j → ∀ b, F i b → ¬ F j b)
    (hv : ∀ g, v.ownBlock = some g → g < lo) (hx : A.rep w1 (fun b => lo ≤ b ∧ b < hi) cs x) (hb : base ≤ lo) (h1 : lo ≤ hi) (h2 : hi ≤ w1.heap.size)
    (ho : w'.ownsRow base t A.k (.slice a' l' c') (xs.length + 1) (flat css xs.length ++ cs)) (hg : w1.grownBy w' v.ownBlock) (hat : (Value.slice a' l' c').ownBlock = v.ownBlock ∨ (Value.slice a' l' c').ownBlock = some w1.heap.size) :
    Grown A t w' base (.slice a' l' c') (xs ++ [x]) := by
  have same : ∀ b, b < w1.heap.size → v.ownBlock ≠ some b → w'.heap[b]? = w1.heap[b]? := fun b hb hn => hg.block b hb fun e => hn e.symm
  refine ⟨fun i => if i < xs.length then css i else cs, fun i => if i < xs.length then F i else fun b => lo ≤ b ∧ b < hi, ?_, fun i hi => ?_, fun i hi b => ?_, fun i j hi hj hne b => ?_⟩
  · rw [List.length_append, List.length_singleton, flat_succ, if_neg (Nat.lt_irrefl _)]
    have : flat (fun i => if i < xs.length then css i else cs) xs.length = flat css xs.length := by
      unfold flat
      exact Go.Deep.flatMap_congr_range fun i hi => by simp [hi]
    rw [this]
    exact ho
  · rw [List.length_append, List.length_singleton] at hi
    by_cases hlt : i < xs.length
    · simp only [if_pos hlt]
      rw [List.getElem_append_left hlt]
      exact A.on (hr i hlt) fun b hS => same b (by have := (hf i hlt b hS).2.1; omega) (hf i hlt b hS).2.2
    · simp only [if_neg hlt]
      rw [List.getElem_append_right (by omega)]
      simp only [List.getElem_singleton]
      exact A.on hx fun b hS => same b (by omega) fun e => by have := hv b e; omega
  · rw [List.length_append, List.length_singleton] at hi
    by_cases hlt : i < xs.length
    · simp only [if_pos hlt]
      intro hS
      obtain ⟨q1, q2, q3⟩ := hf i hlt b hS
      refine ⟨q1, by have := hg.size; omega, fun e => ?_⟩
      rcases hat with h | h
      · exact q3 (h.symm.trans e)
      · rw [h] at e; simp only [Option.some.injEq] at e; omega
    · simp only [if_neg hlt]
      intro hS
      refine ⟨by omega, by have := hg.size; omega, fun e => ?_⟩
      rcases hat with h | h
      · have := hv b (h.symm.trans e); omega
      · rw [h] at e; simp only [Option.some.injEq] at e; omega
  · rw [List.length_append, List.length_singleton] at hi hj
    by_cases h1 : i < xs.length
    · by_cases h2 : j < xs.length
      · simp only [if_pos h1, if_pos h2]; exact ha i j h1 h2 hne b
      · simp only [if_pos h1, if_neg h2]
        intro q1 q2
        have := (hf i h1 b q1).2.1; omega
    · by_cases h2 : j < xs.length
      · simp only [if_neg h1, if_pos h2]
        intro q1 q2
        have := (hf j h2 b q2).2.1; omega
      · omega

/-- What has grown lies apart. -/
theorem Grown.sslice {α : Type} {A : Sh α} {t : TypeId} {w : World} {base : Nat} {v : Value} {xs : List α} (h : Grown A t w base v xs) (hk : 0 < A.k) : A.sslice.rep w (fun b => base ≤ b ∧ b < w.heap.size) [v] xs := by
  obtain ⟨css, F, ⟨hl, hv⟩, hr, hf, ha⟩ := h
  rcases hv with ⟨rfl, h0⟩ | ⟨g, cap, cur, rfl, h2, h3, h4, h5, h6, h7⟩
  · have : xs = [] := List.eq_nil_of_length_eq_zero h0
    subst this
    exact ⟨none, 0, fun _ => [], fun _ _ => False, rfl, Nat.le_refl _, Nat.zero_le _, fun _ => rfl, fun h => absurd h (Nat.lt_irrefl _), fun i hi => absurd hi (Nat.not_lt_zero _), fun i j hi => absurd hi (Nat.not_lt_zero _), fun i hi => absurd hi (Nat.not_lt_zero _)⟩
  · have hg : g < w.heap.size := (Array.getElem?_eq_some_iff.1 h3).1
    refine ⟨some ⟨g, 0, none⟩, cap, css, F, rfl, h4, h5, (fun h => by cases h), fun _ => ⟨g, 0, cur, t, rfl, ⟨h2, hg⟩, h3, fun i hi q => (hf i hi g q).2.2 rfl, fun i hi j u hj => ?_⟩, fun i hi b hS => ⟨(hf i hi b hS).1, (hf i hi b hS).2.1⟩, ha, hr⟩
    have hjk : j < A.k := by
      rcases Nat.lt_or_ge j A.k with h' | h'
      · exact h'
      · rw [List.getElem?_eq_none (by rw [A.len (hr i hi)]; exact h')] at hj; cases hj
    have hf' := flat_get (css := css) (n := xs.length) (k := A.k) (fun i hi => A.len (hr i hi)) hi hjk
    rw [hj, ← h7, List.getElem?_take] at hf'
    have hlt : i * A.k + j < xs.length * A.k := by
      have := Nat.mul_le_mul_right A.k (show i + 1 ≤ xs.length by omega)
      rw [Nat.succ_mul] at this; omega
    rw [if_pos hlt] at hf'
    simp only [World.cell?, h3, Nat.zero_add]
    rw [Array.getElem?_toList] at hf'
    exact hf'

end Go.Proofs.Ytojhldciehfhfaa.rose

namespace Go.Proofs.Ytojhldciehfhfaa.heap
open Go Go.RowKit Go.Deep Go.Proofs.Ytojhldciehfhfaa.rose Go.Proofs.Ytojhldciehfhfaa Go.Proofs.Ytojhldciehfhfaa.fun Go.Proofs.Ytojhldciehfhfaa.words Go.Proofs.Ytojhldciehfhfaa.ints
set_option linter.unusedVariables false
set_option linter.unusedSimpArgs false
set_option linter.unnecessarySimpa false

set_option maxRecDepth 100000 in
set_option maxHeartbeats 8000000 in
theorem copy_is (T : HeapD) (cs : List Value) (w : World) (hw : (wt T) ≤ 1048576) (h : heapSh.rep w (· < w.heap.size) cs T) :
    Calls Try.prog 17 #[.agg cs.toArray] w fun e w' => (∃ a c, e = .returned (.agg #[.slice a T.1.length c, .int .i64 T.2.1, .int .i64 T.2.2.1, .int .i64 T.2.2.2]) ∧ IRow w' w.heap.size (.slice a T.1.length c) T.1) ∧ Below w.heap.size w w' := by
  obtain ⟨W, a0, c0, half, base, next, rfl, rfl, f0, f1, f2, f3⟩ := heap_open h
  obtain ⟨a, cap, e, hcap, hmax, hat⟩ := ints_open f0
  cases e
  dsimp only
  have hwl : W.length ≤ 1048576 := hw
  have HA : Hid _ := hat
  have RNG : Hid (∀ y ∈ W, InR y) := fun y hy => by
    obtain ⟨j, hj, e⟩ := List.getElem_of_mem hy
    obtain ⟨_, _, _, _, _, r3, r4⟩ := HA.out j hj
    rw [← e]; exact ⟨r3, r4⟩
  obtain ⟨ti, hti, hz0, hz1, hz2⟩ := int_info
  have TI : Hid (Try.prog.info? 3 = some ti ∧ ti.zero = some (.int .i64 0) ∧ ti.size = 1 ∧ ti.bytes = 8) := ⟨hti, hz0, hz1, hz2⟩
  clear h f0 f1 f2 f3 hcap hmax hat hw hti hz0 hz1 hz2
  cases a0 with
  | none =>
    have hW : W = [] := by
      cases W with
      | nil => rfl
      | cons x xs => obtain ⟨b, o, e, _⟩ := HA.out 0 (by simp); cases e
    subst hW
    go_enter Try.func17, Try.ntmps17
    go_wp2
    go_region
    all_goals
      go_wp2
      refine bodyPost_ret (v := .agg #[.slice (some ⟨w.heap.size + 1 + 1, 0, none⟩) 0 0, .int .i64 half, .int .i64 base, .int .i64 next]) (by simp [results, Try.f17, go_sem]) rfl ?_
      have hr := irow_lit0 ((w.alloc (.cells #[.slice none 0 c0, .int .i64 half, .int .i64 base, .int .i64 next] 26)).alloc (.cells #[.slice (some ⟨w.heap.size + 1 + 1, 0, none⟩) 0 0, .int .i64 half, .int .i64 base, .int .i64 next] 26)) (base := w.heap.size) (by simp; omega)
      rw [World.size_alloc, World.size_alloc] at hr
      exact ⟨⟨_, _, rfl, hr⟩, ((((Below.refl _ _).alloc (Nat.le_refl _) _).alloc (by simp) _).alloc (by simp; omega) _).drew⟩
  | some ad =>
    have BW : Below w.heap.size w ((w.alloc (.cells #[.slice (some ad) W.length c0, .int .i64 half, .int .i64 base, .int .i64 next] 26)).alloc (.cells #[.slice none 0 0, .int .i64 0, .int .i64 0, .int .i64 0] 26)) := ((Below.refl _ _).alloc (Nat.le_refl _) _).alloc (by simp) _
    have Z2 : Hid (((w.alloc (.cells #[.slice (some ad) W.length c0, .int .i64 half, .int .i64 base, .int .i64 next] 26)).alloc (.cells #[.slice none 0 0, .int .i64 0, .int .i64 0, .int .i64 0] 26)).heap.size = w.heap.size + 2) := by show _ = _; simp
    have X0 : Hid (((w.alloc (.cells #[.slice (some ad) W.length c0, .int .i64 half, .int .i64 base, .int .i64 next] 26)).alloc (.cells #[.slice none 0 0, .int .i64 0, .int .i64 0, .int .i64 0] 26)).heap[w.heap.size]? = some (.cells #[.slice (some ad) W.length c0, .int .i64 half, .int .i64 base, .int .i64 next] 26)) := by
      show _ = _; rw [Below.heap_alloc _ _ _ (by simp)]; exact alloc_top _ _
    have X1 : Hid (((w.alloc (.cells #[.slice (some ad) W.length c0, .int .i64 half, .int .i64 base, .int .i64 next] 26)).alloc (.cells #[.slice none 0 0, .int .i64 0, .int .i64 0, .int .i64 0] 26)).heap[w.heap.size + 1]? = some (.cells #[.slice none 0 0, .int .i64 0, .int .i64 0, .int .i64 0] 26)) := by
      have := alloc_top (w.alloc (.cells #[.slice (some ad) W.length c0, .int .i64 half, .int .i64 base, .int .i64 next] 26)) (.cells #[.slice none 0 0, .int .i64 0, .int .i64 0, .int .i64 0] 26)
      rwa [World.size_alloc] at this
    have L0 : Hid ((((w.alloc (.cells #[.slice (some ad) W.length c0, .int .i64 half, .int .i64 base, .int .i64 next] 26)).alloc (.cells #[.slice none 0 0, .int .i64 0, .int .i64 0, .int .i64 0] 26)).alloc (.cells #[] 3)).drew.ownsRow (w.heap.size + 2) 3 1 (.slice (some ⟨w.heap.size + 1 + 1, 0, none⟩) 0 0) 0 []) := by
      have := World.ownsRow_lit ((w.alloc (.cells #[.slice (some ad) W.length c0, .int .i64 half, .int .i64 base, .int .i64 next] 26)).alloc (.cells #[.slice none 0 0, .int .i64 0, .int .i64 0, .int .i64 0] 26)) #[] (e := 3) (size := 1) (base := w.heap.size + 2) 0 (by rw [Z2.out]; exact Nat.le_refl _) (Nat.zero_le _) rfl
      rw [Z2.out] at this
      exact this
    have NW : Hid (∀ j u, (W.map (Value.int .i64))[j]? = some u → (((w.alloc (.cells #[.slice (some ad) W.length c0, .int .i64 half, .int .i64 base, .int .i64 next] 26)).alloc (.cells #[.slice none 0 0, .int .i64 0, .int .i64 0, .int .i64 0] 26)).alloc (.cells #[] 3)).drew.cell? (ad.add j) = some u) := fun j u hu => by
      rw [List.getElem?_map] at hu
      obtain ⟨y, hy, rfl⟩ := Option.map_eq_some_iff.1 hu
      obtain ⟨hq, rfl⟩ := List.getElem?_eq_some_iff.1 hy
      obtain ⟨b, o, hbo, hS, hc, -, -⟩ := HA.out j hq
      cases hbo
      rw [add_plain]
      exact (((BW.alloc (by rw [Z2.out]; omega) (.cells #[] 3)).drew).cell (p := ⟨b, o + j, none⟩) hS).trans hc
    have LM : Hid ((W.map (Value.int .i64)).length = W.length * 1) := by show _ = _; simp
    have O1 : Hid (∀ u ∈ W.map (Value.int .i64), u.oneCell' = true) := fun u hu => by obtain ⟨y, _, rfl⟩ := List.mem_map.1 hu; rfl
    have XA : (((w.alloc (.cells #[.slice (some ad) W.length c0, .int .i64 half, .int .i64 base, .int .i64 next] 26)).alloc (.cells #[.slice none 0 0, .int .i64 0, .int .i64 0, .int .i64 0] 26)).alloc (.cells #[] 3)).heap[w.heap.size]? = some (.cells #[.slice (some ad) W.length c0, .int .i64 half, .int .i64 base, .int .i64 next] 26) := (Below.heap_alloc _ _ _ (by rw [Z2.out]; omega)).trans X0.out
    have HBW : Hid (Below w.heap.size w ((w.alloc (.cells #[.slice (some ad) W.length c0, .int .i64 half, .int .i64 base, .int .i64 next] 26)).alloc (.cells #[.slice none 0 0, .int .i64 0, .int .i64 0, .int .i64 0] 26))) := BW
    clear BW
    have j0 : ((w.alloc (.cells #[.slice (some ad) W.length c0, .int .i64 half, .int .i64 base, .int .i64 next] 26)).alloc (.cells #[.slice none 0 0, .int .i64 0, .int .i64 0, .int .i64 0] 26)).cell? ⟨w.heap.size, 0, none⟩ = some (.slice (some ad) W.length c0) := by have := X0.out; simp [World.cell?, this]
    have k0 : (((w.alloc (.cells #[.slice (some ad) W.length c0, .int .i64 half, .int .i64 base, .int .i64 next] 26)).alloc (.cells #[.slice none 0 0, .int .i64 0, .int .i64 0, .int .i64 0] 26)).alloc (.cells #[] 3)).cell? ⟨w.heap.size, 0, none⟩ = some (.slice (some ad) W.length c0) := by simp [World.cell?, XA]
    have j1 : ((w.alloc (.cells #[.slice (some ad) W.length c0, .int .i64 half, .int .i64 base, .int .i64 next] 26)).alloc (.cells #[.slice none 0 0, .int .i64 0, .int .i64 0, .int .i64 0] 26)).cell? ⟨w.heap.size, 1, none⟩ = some (.int .i64 half) := by have := X0.out; simp [World.cell?, this]
    have k1 : (((w.alloc (.cells #[.slice (some ad) W.length c0, .int .i64 half, .int .i64 base, .int .i64 next] 26)).alloc (.cells #[.slice none 0 0, .int .i64 0, .int .i64 0, .int .i64 0] 26)).alloc (.cells #[] 3)).cell? ⟨w.heap.size, 1, none⟩ = some (.int .i64 half) := by simp [World.cell?, XA]
    have j2 : ((w.alloc (.cells #[.slice (some ad) W.length c0, .int .i64 half, .int .i64 base, .int .i64 next] 26)).alloc (.cells #[.slice none 0 0, .int .i64 0, .int .i64 0, .int .i64 0] 26)).cell? ⟨w.heap.size, 2, none⟩ = some (.int .i64 base) := by have := X0.out; simp [World.cell?, this]
    have k2 : (((w.alloc (.cells #[.slice (some ad) W.length c0, .int .i64 half, .int .i64 base, .int .i64 next] 26)).alloc (.cells #[.slice none 0 0, .int .i64 0, .int .i64 0, .int .i64 0] 26)).alloc (.cells #[] 3)).cell? ⟨w.heap.size, 2, none⟩ = some (.int .i64 base) := by simp [World.cell?, XA]
    have j3 : ((w.alloc (.cells #[.slice (some ad) W.length c0, .int .i64 half, .int .i64 base, .int .i64 next] 26)).alloc (.cells #[.slice none 0 0, .int .i64 0, .int .i64 0, .int .i64 0] 26)).cell? ⟨w.heap.size, 3, none⟩ = some (.int .i64 next) := by have := X0.out; simp [World.cell?, this]
    have k3 : (((w.alloc (.cells #[.slice (some ad) W.length c0, .int .i64 half, .int .i64 base, .int .i64 next] 26)).alloc (.cells #[.slice none 0 0, .int .i64 0, .int .i64 0, .int .i64 0] 26)).alloc (.cells #[] 3)).cell? ⟨w.heap.size, 3, none⟩ = some (.int .i64 next) := by simp [World.cell?, XA]
    clear XA
    go_enter Try.func17, Try.ntmps17
    go_wp2
    go_region_held3 (fun W' => W'.cell? ⟨w.heap.size, 0, none⟩ = some (.slice (some ad) W.length c0) ∧ W'.cell? ⟨w.heap.size, 1, none⟩ = some (.int .i64 half) ∧ W'.cell? ⟨w.heap.size, 2, none⟩ = some (.int .i64 base) ∧ W'.cell? ⟨w.heap.size, 3, none⟩ = some (.int .i64 next))
      (first | exact ⟨y0, y1, y2, y3⟩ | exact ⟨(by (repeat rw [cell_set_other _ _ _ _ (by show w.heap.size ≠ w.heap.size + 1; omega)]); exact y0), (by (repeat rw [cell_set_other _ _ _ _ (by show w.heap.size ≠ w.heap.size + 1; omega)]); exact y1), (by (repeat rw [cell_set_other _ _ _ _ (by show w.heap.size ≠ w.heap.size + 1; omega)]); exact y2), (by (repeat rw [cell_set_other _ _ _ _ (by show w.heap.size ≠ w.heap.size + 1; omega)]); exact y3)⟩ | exact ⟨by simpa using k0, by simpa using k1, by simpa using k2, by simpa using k3⟩ | exact ⟨by simpa using j0, by simpa using j1, by simpa using j2, by simpa using j3⟩)
      (first
        | (refine step_append_own rfl (.tmp 3) (.tmp 5) 22 rfl (w.heap.size + 2) 3 ti _ 1 8 Try.underlying22 TI.out.1 TI.out.2.1 TI.out.2.2.1 TI.out.2.2.2 rfl (by decide) (.slice (some ⟨w.heap.size + 1 + 1, 0, none⟩) 0 0) 0 [] (by simp [Act.eval, Act.put]) L0.out ad W.length c0 (W.map (Value.int .i64)) (by simp [Act.eval, Act.put]) LM.out NW.out O1.out (by unfold maxLen; omega) (by omega) (by have := Z2.out; simp) ?_; intro ua ul uc w3 hown3 hgrow3 hat3
           have hB3 : Below (w.heap.size + 2) ((w.alloc (.cells #[.slice (some ad) W.length c0, .int .i64 half, .int .i64 base, .int .i64 next] 26)).alloc (.cells #[.slice none 0 0, .int .i64 0, .int .i64 0, .int .i64 0] 26)) w3 := ((Below.refl _ ((w.alloc (.cells #[.slice (some ad) W.length c0, .int .i64 half, .int .i64 base, .int .i64 next] 26)).alloc (.cells #[.slice none 0 0, .int .i64 0, .int .i64 0, .int .i64 0] 26))).alloc (by rw [Z2.out]; exact Nat.le_refl _) _).drew.grown hgrow3 (by simp) (fun k hk => by cases hk; show w.heap.size + 2 ≤ w.heap.size + 1 + 1; omega)
           have hG0 := (hB3.block w.heap.size (by omega)).trans X0.out
           have hG1 := (hB3.block (w.heap.size + 1) (by omega)).trans X1.out
           have y0 : w3.cell? ⟨w.heap.size, 0, none⟩ = some (.slice (some ad) W.length c0) := by simp [World.cell?, hG0]
           have y1 : w3.cell? ⟨w.heap.size, 1, none⟩ = some (.int .i64 half) := by simp [World.cell?, hG0]
           have y2 : w3.cell? ⟨w.heap.size, 2, none⟩ = some (.int .i64 base) := by simp [World.cell?, hG0]
           have y3 : w3.cell? ⟨w.heap.size, 3, none⟩ = some (.int .i64 next) := by simp [World.cell?, hG0]
           have z0 : w3.cell? ⟨w.heap.size + 1, 0, none⟩ = some (.slice none 0 0) := by simp [World.cell?, hG1]
           have z1 : w3.cell? ⟨w.heap.size + 1, 1, none⟩ = some (.int .i64 0) := by simp [World.cell?, hG1]
           have z2 : w3.cell? ⟨w.heap.size + 1, 2, none⟩ = some (.int .i64 0) := by simp [World.cell?, hG1]
           have z3 : w3.cell? ⟨w.heap.size + 1, 3, none⟩ = some (.int .i64 0) := by simp [World.cell?, hG1]
           have zf : ∀ j, w3.frozen? ⟨w.heap.size + 1, j, none⟩ = false := fun j => by simp [World.frozen?, hG1]))
    all_goals
      obtain ⟨ua', uc', hue⟩ := own_form hown3
      cases hue
      have hI3 : IRow w3 (w.heap.size + 2) (.slice ua (0 + W.length) uc) W := ⟨by have := hown3; rw [Nat.zero_add, List.nil_append] at this; rw [Nat.zero_add]; exact this, RNG.out⟩
      have hB : Below w.heap.size w w3 := HBW.out.trans (hB3.mono (by omega))
      go_wp2
      refine bodyPost_ret (v := .agg #[.slice ua (0 + W.length) uc, .int .i64 half, .int .i64 base, .int .i64 next]) (by simp [results, Try.f17, go_sem, z0, z1, z2, z3]) rfl ?_
      refine ⟨⟨ua, uc, by rw [Nat.zero_add], ?_⟩, ?_⟩
      · have hI4 : IRow w3 w.heap.size (.slice ua W.length uc) W := irow_base0 (by have := hI3; rw [Nat.zero_add] at this; exact this) (by omega)
        refine ⟨own_same hI4.1 fun q hq => ?_, RNG.out⟩
        have := (hI3.lt q (by rw [Nat.zero_add]; exact hq)).1
        repeat rw [Below.heap_setCell _ _ _ _ (by show q ≠ w.heap.size + 1; omega)]
      · repeat first | with_reducible exact hB | (refine Below.setCell ?_ (by show w.heap.size ≤ w.heap.size + 1; omega) _)

end Go.Proofs.Ytojhldciehfhfaa.heap
