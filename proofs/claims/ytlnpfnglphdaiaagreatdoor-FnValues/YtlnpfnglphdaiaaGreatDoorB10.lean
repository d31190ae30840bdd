/-
  A row of the call's own that grows by one element after the other, each of which lies in blocks of its own; an append as a step of a region that draws its order.
  What a parsing function of the model holds while it goes on, of any kind of data: its answer's block, data in blocks of their own, a block whose row of kids grows.
  The model's l3Var: some number; nothing but the cursor is turned.
-/
import Derived.Maps.AppendAt
import Derived.Laws.AppendOwn
import Derived.Deep.RegionLaw
import Derived.Shelf.Abstract
import Derived.Test.YtlnpfnglphdaiaaGreatDoorB1
import Derived.Test.YtlnpfnglphdaiaaGreatDoorB2
import Derived.Test.YtlnpfnglphdaiaaGreatDoorB3
import Derived.Test.YtlnpfnglphdaiaaGreatDoorB4
import Derived.Test.YtlnpfnglphdaiaaGreatDoorB5
import Derived.Test.YtlnpfnglphdaiaaGreatDoorB6
import Derived.Test.YtlnpfnglphdaiaaGreatDoorB7
import Derived.Test.YtlnpfnglphdaiaaGreatDoorB8
import Derived.Test.YtlnpfnglphdaiaaGreatDoorB9
namespace Go.Proofs.YtlnpfnglphdaiaaGreatDoor.rose
open Go Go.RowKit Go.Deep Go.ChangeShapes Go.WideShapes
set_option linter.unusedVariables false

/-- An append to a row of the call's own, as one step of a region that draws its order. -/
theorem step_append_own {P : Program} {ops : Array Oper} {o : Oper} {a : Act} {w : World} {K : Act → World → Prop} {Q : Exit → Act → World → Prop} {E : Prop}
    (hg : o.guard = none) (s x : Operand) (t : TypeId) (hop : o.op = Op.call { callee := Callee.builtin Builtin.append, args := #[s, x], argTypes := #[t, t] })
    (base : Nat) (e : TypeId) (i : TypeInfo) (z : Value) (size bytes : Nat) (h1 : P.underlying t = some (.slice e)) (h2 : P.info? e = some i) (h3 : i.zero = some z) (h4 : i.size = size) (h5 : i.bytes = bytes) (h6 : z.cells.size = size) (h7 : 0 < size)
    (v : Value) (n : Nat) (xs : List Value) (hs : a.eval s = v) (hown : w.ownsRow base e size v n xs)
    (ad : Addr) (m c : Nat) (news : List Value) (hx : a.eval x = .slice (some ad) m c) (hn : news.length = m * size) (hc : ∀ j u, news[j]? = some u → w.cell? (ad.add j) = some u) (h1c : ∀ u ∈ news, u.oneCell' = true)
    (b1 : n + m ≤ maxLen) (b2 : (n + m) * bytes ≤ 140737488355328) (hbase : base ≤ w.heap.size)
    (hK : ∀ a' l' c' w', w'.ownsRow base e size (.slice a' l' c') (n + m) (xs ++ news) → w.grownBy w' v.ownBlock → ((Value.slice a' l' c').ownBlock = v.ownBlock ∨ (Value.slice a' l' c').ownBlock = some w.heap.size) → K (a.put o.dst (.slice a' l' c')) w') :
    if Region.wanted o (yielded ops a.tmps) = true then Oper.wp P o a w K Q else E := by
  have hw : Region.wanted o (yielded ops a.tmps) = true := by simp [Region.wanted, hg]
  rw [if_pos hw]
  obtain ⟨v', w', hrun, r1, r2, -, r3⟩ := run_append_own_at (P := P) w base t o.type e i z size bytes h1 h2 h3 h4 h5 h6 h7 v n xs hown ad m c news hn hc h1c b1 b2 hbase
  obtain ⟨a', l', c', rfl⟩ : ∃ a' l' c', v' = .slice a' l' c' := by
    rcases r1.2 with ⟨rfl, _⟩ | ⟨_, _, _, rfl, _⟩
    · exact ⟨_, _, _, rfl⟩
    · exact ⟨_, _, _, rfl⟩
  unfold Oper.wp
  simp [execOp, hop, resolve, invoke, builtin, hs, hx, hrun, Result.andThen]
  exact hK a' l' c' w' r1 r2 r3

/-- A call of a Go function by its contract, as one step of a region that draws its order. -/
theorem step_call {P : Program} {ops : Array Oper} {o : Oper} {a : Act} {w : World} {K : Act → World → Prop} {Q : Exit → Act → World → Prop} {E : Prop}
    (hg : o.guard = none) (f : FuncId) (hent : Enters P f) (xs : Array Operand) (ts : Array TypeId) (hop : o.op = Op.call { callee := Callee.value (Operand.func f), args := xs, argTypes := ts }) (args : Array Value)
    (R : Ending → World → Prop) (h : Calls P f args w R) (ha : xs.map a.eval = args) (hK : ∀ e w', R e w' → ∃ v, e = .returned v ∧ K (a.put o.dst v) w') :
    if Region.wanted o (yielded ops a.tmps) = true then Oper.wp P o a w K Q else E := by
  have hw : Region.wanted o (yielded ops a.tmps) = true := by simp [Region.wanted, hg]
  rw [if_pos hw]
  have hr : (execOp a.eval o).run P w = .ok (.enter f args) w := by
    subst ha
    obtain ⟨dst, op, ty, pos, after, guard⟩ := o
    have hop' : op = Op.call { callee := Callee.value (Operand.func f), args := xs, argTypes := ts } := hop
    subst hop'
    have hx : execOp a.eval { dst, op := .call { callee := .value (.func f), args := xs, argTypes := ts }, type := ty, pos, after, guard } = callFunc f (xs.map a.eval) := by
      show callFunc f (#[] ++ xs.map a.eval ++ #[]) = _
      simp
    rw [hx]
    exact hent _ _
  unfold Oper.wp
  rw [hr, Oper.upon_enter]
  refine h.mono fun e w' hR => ?_
  obtain ⟨v, rfl, hk⟩ := hK e w' hR
  exact hk

/-- The cells of a new block. -/
theorem cells_new (w : World) (cs : List Value) (t : TypeId) (arr : Array Value) (ha : arr = cs.toArray) : ∀ j u, cs[j]? = some u → (w.alloc (.cells arr t)).cell? ((⟨w.heap.size, 0, none⟩ : Addr).add j) = some u := by
  subst ha
  intro j u hj
  have hh : (w.alloc (.cells cs.toArray t)).heap[w.heap.size]? = some (.cells cs.toArray t) := alloc_top w (.cells cs.toArray t)
  rw [add_plain, Nat.zero_add]
  simp only [World.cell?, hh]
  simpa using hj

/-- WHAT HAS GROWN: element i's cells, and the blocks in which the rest of it lies. -/
def Grown {α : Type} (A : Sh α) (t : TypeId) (w : World) (base : Nat) (v : Value) (xs : List α) : Prop :=
  ∃ (css : Nat → List Value) (F : Nat → Nat → Prop), w.ownsRow base t A.k v xs.length (flat css xs.length) ∧ (∀ i (h : i < xs.length), A.rep w (F i) (css i) xs[i]) ∧
    (∀ i, i < xs.length → ∀ b, F i b → base ≤ b ∧ b < w.heap.size ∧ v.ownBlock ≠ some b) ∧ ∀ i j, i < xs.length → j < xs.length → i ≠ j → ∀ b, F i b → ¬ F j b

theorem Grown.nil {α : Type} (A : Sh α) (t : TypeId) (w : World) (base : Nat) : Grown A t w base (.slice none 0 0) ([] : List α) :=
  ⟨fun _ => [], fun _ _ => False, World.ownsRow_nil w base t A.k, fun i h => absurd h (Nat.not_lt_zero _), fun i h => absurd h (Nat.not_lt_zero _), fun i j h => absurd h (Nat.not_lt_zero _)⟩

theorem Grown.on {α : Type} {A : Sh α} {t : TypeId} {w w' : World} {base : Nat} {v : Value} {xs : List α} (h : Grown A t w base v xs) (hs : w.heap.size ≤ w'.heap.size) (hb : ∀ b, base ≤ b → b < w.heap.size → w'.heap[b]? = w.heap[b]?) : Grown A t w' base v xs := by
  obtain ⟨css, F, ⟨hl, hv⟩, hr, hf, ha⟩ := h
  refine ⟨css, F, ⟨hl, ?_⟩, fun i hi => A.on (hr i hi) fun b hS => hb b (hf i hi b hS).1 (hf i hi b hS).2.1, fun i hi b hS => ⟨(hf i hi b hS).1, Nat.lt_of_lt_of_le (hf i hi b hS).2.1 hs, (hf i hi b hS).2.2⟩, ha⟩
  rcases hv with h0 | ⟨g, cap, cur, h1, h2, h3, h4⟩
  · exact Or.inl h0
  · exact Or.inr ⟨g, cap, cur, h1, h2, by rw [hb g h2 (Array.getElem?_eq_some_iff.1 h3).1]; exact h3, h4⟩

theorem Grown.row {α : Type} {A : Sh α} {t : TypeId} {w : World} {base : Nat} {v : Value} {xs : List α} (h : Grown A t w base v xs) : ∃ ys, w.ownsRow base t A.k v xs.length ys := by
  obtain ⟨css, F, h1, -⟩ := h
  exact ⟨_, h1⟩
theorem Grown.slice {α : Type} {A : Sh α} {t : TypeId} {w : World} {base : Nat} {v : Value} {xs : List α} (h : Grown A t w base v xs) : ∃ a c, v = .slice a xs.length c := by
  obtain ⟨css, F, ⟨hl, hv⟩, -⟩ := h
  rcases hv with ⟨rfl, h0⟩ | ⟨g, cap, cur, h1, -⟩
  · exact ⟨_, _, by rw [h0]⟩
  · exact ⟨_, _, h1⟩
theorem Grown.own {α : Type} {A : Sh α} {t : TypeId} {w : World} {base : Nat} {v : Value} {xs : List α} (h : Grown A t w base v xs) {g : Nat} (hg : v.ownBlock = some g) : base ≤ g ∧ g < w.heap.size := by
  obtain ⟨css, F, ⟨hl, hv⟩, -⟩ := h
  rcases hv with ⟨rfl, h0⟩ | ⟨q, cap, cur, rfl, h2, h3, -⟩
  · cases hg
  · simp only [Value.ownBlock, Option.some.injEq] at hg
    subst hg
    exact ⟨h2, (Array.getElem?_eq_some_iff.1 h3).1⟩

/-- One more: its rest lies in blocks that are new since w; the append made w' of w1. -/
theorem Grown.push {α : Type} {A : Sh α} {t : TypeId} {w w1 w' : World} {base : Nat} {v : Value} {xs : List α} {css : Nat → List Value} {F : Nat → Nat → Prop} {a' : Option Addr} {l' c' : Nat} {cs : List Value} {x : α} {lo hi : Nat}
    (hr : ∀ i (h : i < xs.length), A.rep w1 (F i) (css i) xs[i]) (hf : ∀ i, i < xs.length → ∀ b, F i b → base ≤ b ∧ b < lo ∧ v.ownBlock ≠ some b) (ha : ∀ i j, i < xs.length → j < xs.length → i ≠ j → ∀ b, F i b → ¬ F j b)
    (hv : ∀ g, v.ownBlock = some g → g < lo) (hx : A.rep w1 (fun b => lo ≤ b ∧ b < hi) cs x) (hb : base ≤ lo) (h1 : lo ≤ hi) (h2 : hi ≤ w1.heap.size)
    (ho : w'.ownsRow base t A.k (.slice a' l' c') (xs.length + 1) (flat css xs.length ++ cs)) (hg : w1.grownBy w' v.ownBlock) (hat : (Value.slice a' l' c').ownBlock = v.ownBlock ∨ (Value.slice a' l' c').ownBlock = some w1.heap.size) :
    Grown A t w' base (.slice a' l' c') (xs ++ [x]) := by
  have same : ∀ b, b < w1.heap.size → v.ownBlock ≠ some b → w'.heap[b]? = w1.heap[b]? := fun b hb hn => hg.block b hb fun e => hn e.symm
  refine ⟨fun i => if i < xs.length then css i else cs, fun i => if i < xs.length then F i else fun b => lo ≤ b ∧ b < hi, ?_, fun i hi => ?_, fun i hi b => ?_, fun i j hi hj hne b => ?_⟩
  · rw [List.length_append, List.length_singleton, flat_succ, if_neg (Nat.lt_irrefl _)]
    have : flat (fun i => if i < xs.length then css i else cs) xs.length = flat css xs.length := by
      unfold flat
      exact Go.Deep.flatMap_congr_range fun i hi => by simp [hi]
    rw [this]
    exact ho
  · rw [List.length_append, List.length_singleton] at hi
    by_cases hlt : i < xs.length
    · simp only [if_pos hlt]
      rw [List.getElem_append_left hlt]
      exact A.on (hr i hlt) fun b hS => same b (by have := (hf i hlt b hS).2.1; omega) (hf i hlt b hS).2.2
    · simp only [if_neg hlt]
      rw [List.getElem_append_right (by omega)]
      simp only [List.getElem_singleton]
      exact A.on hx fun b hS => same b (by omega) fun e => by have := hv b e; omega
  · rw [List.length_append, List.length_singleton] at hi
    by_cases hlt : i < xs.length
    · simp only [if_pos hlt]
      intro hS
      obtain ⟨q1, q2, q3⟩ := hf i hlt b hS
      refine ⟨q1, by have := hg.size; omega, fun e => ?_⟩
      rcases hat with h | h
      · exact q3 (h.symm.trans e)
      · rw [h] at e; simp only [Option.some.injEq] at e; omega
    · simp only [if_neg hlt]
      intro hS
      refine ⟨by omega, by have := hg.size; omega, fun e => ?_⟩
      rcases hat with h | h
      · have := hv b (h.symm.trans e); omega
      · rw [h] at e; simp only [Option.some.injEq] at e; omega
  · rw [List.length_append, List.length_singleton] at hi hj
    by_cases h1 : i < xs.length
    · by_cases h2 : j < xs.length
      · simp only [if_pos h1, if_pos h2]; exact ha i j h1 h2 hne b
      · simp only [if_pos h1, if_neg h2]
        intro q1 q2
        have := (hf i h1 b q1).2.1; omega
    · by_cases h2 : j < xs.length
      · simp only [if_neg h1, if_pos h2]
        intro q1 q2
        have := (hf j h2 b q2).2.1; omega
      · omega

/-- What has grown lies apart. -/
theorem Grown.sslice {α : Type} {A : Sh α} {t : TypeId} {w : World} {base : Nat} {v : Value} {xs : List α} (h : Grown A t w base v xs) (hk : 0 < A.k) : A.sslice.rep w (fun b => base ≤ b ∧ b < w.heap.size) [v] xs := by
  obtain ⟨css, F, ⟨hl, hv⟩, hr, hf, ha⟩ := h
  rcases hv with ⟨rfl, h0⟩ | ⟨g, cap, cur, rfl, h2, h3, h4, h5, h6, h7⟩
  · have : xs = [] := List.eq_nil_of_length_eq_zero h0
    subst this
    exact ⟨none, 0, fun _ => [], fun _ _ => False, rfl, Nat.le_refl _, Nat.zero_le _, fun _ => rfl, fun h => absurd h (Nat.lt_irrefl _), fun i hi => absurd hi (Nat.not_lt_zero _), fun i j hi => absurd hi (Nat.not_lt_zero _), fun i hi => absurd hi (Nat.not_lt_zero _)⟩
  · have hg : g < w.heap.size := (Array.getElem?_eq_some_iff.1 h3).1
    refine ⟨some ⟨g, 0, none⟩, cap, css, F, rfl, h4, h5, (fun h => by cases h), fun _ => ⟨g, 0, cur, t, rfl, ⟨h2, hg⟩, h3, fun i hi q => (hf i hi g q).2.2 rfl, fun i hi j u hj => ?_⟩, fun i hi b hS => ⟨(hf i hi b hS).1, (hf i hi b hS).2.1⟩, ha, hr⟩
    have hjk : j < A.k := by
      rcases Nat.lt_or_ge j A.k with h' | h'
      · exact h'
      · rw [List.getElem?_eq_none (by rw [A.len (hr i hi)]; exact h')] at hj; cases hj
    have hf' := flat_get (css := css) (n := xs.length) (k := A.k) (fun i hi => A.len (hr i hi)) hi hjk
    rw [hj, ← h7, List.getElem?_take] at hf'
    have hlt : i * A.k + j < xs.length * A.k := by
      have := Nat.mul_le_mul_right A.k (show i + 1 ≤ xs.length by omega)
      rw [Nat.succ_mul] at this; omega
    rw [if_pos hlt] at hf'
    simp only [World.cell?, h3, Nat.zero_add]
    rw [Array.getElem?_toList] at hf'
    exact hf'

end Go.Proofs.YtlnpfnglphdaiaaGreatDoor.rose

namespace Go.Proofs.YtlnpfnglphdaiaaGreatDoor.tok
open Go Go.RowKit Go.Deep Go.Proofs.YtlnpfnglphdaiaaGreatDoor.rose Go.Proofs.YtlnpfnglphdaiaaGreatDoor
set_option linter.unusedVariables false
set_option linter.unusedSimpArgs false

theorem blk_cellG {w : World} {b i : Nat} {cur : Array Value} {t : TypeId} {v : Value} (h : w.heap[b]? = some (.cells cur t)) (hi : cur[i]? = some v) : w.cell? ⟨b, i, none⟩ = some v := by simp [World.cell?, h, hi]
theorem blk_freeG {w : World} {b i : Nat} {cur : Array Value} {t : TypeId} (h : w.heap[b]? = some (.cells cur t)) : w.frozen? ⟨b, i, none⟩ = false := by simp [World.frozen?, h]
theorem grown_noneG {w w' : World} (r : Option Nat) (h : Below w.heap.size w w') : w.grownBy w' r := ⟨h.os, h.tape, h.output, h.size, fun k hk _ => h.block k hk⟩
theorem grown_setG (w : World) (p o : Nat) (v : Value) : w.grownBy (w.setCell ⟨p, o, none⟩ v) (some p) :=
  ⟨rfl, rfl, rfl, by simp [World.setCell], fun k _ hne => Below.heap_setCell _ _ _ _ (fun e => hne (by rw [e]))⟩

/-- What a parsing function says: data in new memory; where nothing was wrong, it went on, and what it gives weighs no more than ten for each token that it took. -/
def Gives {α : Type} (A : Sh α) (wf : α → Nat) (E : Env) (w : World) (at_ : Nat) (bad : Int) (e : Ending) (w' : World) : Prop :=
  ∃ (at' : Nat) (bad' : Int) (cs : List Value) (T : α), e = .returned (.agg cs.toArray) ∧ A.rep w' (fun b => w.heap.size ≤ b ∧ b < w'.heap.size) cs T ∧ St E w' at' bad' ∧ w.grownBy w' (some E.cb) ∧ at_ ≤ at' ∧
    (0 ≤ bad' ∨ (bad' = bad ∧ at_ < at' ∧ wf T + 2 ≤ 10 * (at' - at_)))
def GTold {α : Type} (f : FuncId) (A : Sh α) (wf : α → Nat) (E : Env) (ok : Nat → Prop) : Prop := ∀ w at_ bad, St E w at_ bad → ok at_ → Calls Tryz.prog f #[.pointer (some ⟨E.cb, 0, none⟩)] w (Gives A wf E w at_ bad)

/-- Where a parsing function stands: its answer's block is new and empty. -/
structure Gx (Z : Obj) (E : Env) (w wr : World) (at' : Nat) (bad' : Int) : Prop where
  st : St E wr at' bad'
  gr : w.grownBy wr (some E.cb)
  res : wr.heap[w.heap.size]? = some Z
  cb : E.cb < w.heap.size

section
variable {Z : Obj} {E : Env} {w wr w2 : World} {at' at2 : Nat} {bad' bad2 : Int}
theorem Gx.lt (h : Gx Z E w wr at' bad') : w.heap.size < wr.heap.size := (Array.getElem?_eq_some_iff.1 h.res).1
theorem Gx.by (h : Gx Z E w wr at' bad') (hg : wr.grownBy w2 (some E.cb)) (hs : St E w2 at2 bad2) : Gx Z E w w2 at2 bad2 := by
  have hc := h.cb
  exact ⟨hs, grown_by_by h.gr hg, (hg.block _ h.lt fun e => by simp only [Option.some.injEq] at e; omega).trans h.res, h.cb⟩
theorem Gx.on (h : Gx Z E w wr at' bad') (hb : Below wr.heap.size wr w2) : Gx Z E w w2 at' bad' := h.by (grown_noneG _ hb) (h.st.on hb)
theorem Gx.start (h : St E w at' bad') (hw : w2 = w.alloc Z) : Gx Z E w w2 at' bad' := by
  have b0 : Below w.heap.size w w2 := by rw [hw]; exact (Below.refl _ _).alloc (Nat.le_refl _) _
  exact ⟨h.on b0, grown_noneG _ b0, by rw [hw]; exact alloc_top _ _, h.cblt⟩
end

/-- Data in a block of their own, all of it from block lo on. -/
structure Gh {α : Type} (A : Sh α) (t : TypeId) (wr : World) (lo nb : Nat) (cs : List Value) (T : α) : Prop where
  blk : wr.heap[nb]? = some (.cells cs.toArray t)
  le : lo ≤ nb
  rep : A.rep wr (fun b => lo ≤ b ∧ b < wr.heap.size) cs T

section
variable {α : Type} {A : Sh α} {t : TypeId} {wr w2 : World} {lo nb c : Nat} {cs : List Value} {T : α}
theorem Gh.lt (h : Gh A t wr lo nb cs T) : nb < wr.heap.size := (Array.getElem?_eq_some_iff.1 h.blk).1
theorem Gh.by (h : Gh A t wr lo nb cs T) (hg : wr.grownBy w2 (some c)) (hc : c < lo) : Gh A t w2 lo nb cs T := by
  have := h.le
  exact ⟨(hg.block _ h.lt fun e => by simp only [Option.some.injEq] at e; omega).trans h.blk, h.le, A.mono (A.on h.rep fun b hS => hg.block b hS.2 fun e => by simp only [Option.some.injEq] at e; omega) fun b hS => ⟨hS.1, Nat.lt_of_lt_of_le hS.2 hg.size⟩⟩
theorem Gh.on (h : Gh A t wr lo nb cs T) (hb : Below wr.heap.size wr w2) : Gh A t w2 lo nb cs T :=
  ⟨(hb.block _ h.lt).trans h.blk, h.le, A.mono (A.on h.rep fun b hS => hb.block b hS.2) fun b hS => ⟨hS.1, Nat.lt_of_lt_of_le hS.2 hb.size⟩⟩
theorem Gh.new (hr : A.rep wr (fun b => lo ≤ b ∧ b < wr.heap.size) cs T) (hl : lo ≤ wr.heap.size) (hw : w2 = wr.alloc (.cells cs.toArray t)) : Gh A t w2 lo wr.heap.size cs T := by
  have b2 : Below wr.heap.size wr w2 := by rw [hw]; exact (Below.refl _ _).alloc (Nat.le_refl _) _
  exact ⟨by rw [hw]; exact alloc_top _ _, hl, A.mono (A.on hr fun b hS => b2.block b hS.2) fun b hS => ⟨hS.1, Nat.lt_of_lt_of_le hS.2 b2.size⟩⟩
end

/-- The answer is written. -/
theorem answerG {α : Type} {A : Sh α} {wf : α → Nat} {E : Env} {w w1 w' : World} {cs : List Value} {T : α} {at_ at' : Nat} {bad bad' : Int} (h : St E w at_ bad) (hgw : w.grownBy w1 (some E.cb)) (hz : w.heap.size < w1.heap.size)
    (hr : A.rep w1 (fun b => w.heap.size < b ∧ b < w1.heap.size) cs T) (hs : St E w1 at' bad') (hle : at_ ≤ at') (hx : 0 ≤ bad' ∨ (bad' = bad ∧ at_ < at' ∧ wf T + 2 ≤ 10 * (at' - at_)))
    (hg' : w1.grownBy w' (some w.heap.size)) : Gives A wf E w at_ bad (.returned (.agg cs.toArray)) w' := by
  have hc := h.cblt
  have ht := h.top
  have z2 := hg'.size
  refine ⟨at', bad', cs, T, rfl, A.mono (A.on hr fun b hS => hg'.block b hS.2 fun e => by simp only [Option.some.injEq] at e; omega) fun b hS => ⟨by omega, by omega⟩, hs.keep z2 fun b hS => hg'.block b ?_ fun e => ?_, ⟨hg'.os.trans hgw.os, hg'.tape.trans hgw.tape, hg'.output.trans hgw.output, by omega, fun q hq hn => (hg'.block q (by omega) fun e => by simp only [Option.some.injEq] at e; omega).trans (hgw.block q hq hn)⟩, hle, hx⟩
  · rcases hS with hS | hS | rfl
    · have := (h.ns b hS).1; omega
    · omega
    · omega
  · simp only [Option.some.injEq] at e
    rcases hS with hS | hS | hS
    · have := (h.ns _ hS).1; omega
    · omega
    · omega

/-- The row v of these, its own; they lie in blocks behind w's, none of them Ab or the row. -/
def GKids {α : Type} (A : Sh α) (te : TypeId) (w wr : World) (Ab : Nat) (v : Value) (xs : List α) : Prop :=
  ∃ css : Nat → List Value, wr.ownsRow (w.heap.size + 1) te A.k v xs.length (flat css xs.length) ∧ ∀ i (h : i < xs.length), A.rep wr (fun b => w.heap.size < b ∧ b < wr.heap.size ∧ b ≠ Ab ∧ v.ownBlock ≠ some b) (css i) xs[i]

/-- A block whose row of kids grows. hd: the block, by the row; W: what these weigh. -/
structure Gc {α : Type} (A : Sh α) (te : TypeId) (Z : Obj) (hd : Value → Obj) (W : List α → Nat) (E : Env) (w wr : World) (Ab : Nat) (v : Value) (xs : List α) (at_ : Nat) (bad : Int) (at' : Nat) (bad' : Int) : Prop where
  cx : Gx Z E w wr at' bad'
  acc : wr.heap[Ab]? = some (hd v)
  ab : w.heap.size < Ab
  row : GKids A te w wr Ab v xs
  own : v.ownBlock ≠ some Ab
  top : E.B ≤ w.heap.size
  ns : ∀ b, E.NS b → b < w.heap.size ∨ (b ≠ Ab ∧ v.ownBlock ≠ some b ∧ b < wr.heap.size ∧ w.heap.size < b)
  le : at_ ≤ at'
  hx : 0 ≤ bad' ∨ (bad' = bad ∧ at_ < at' ∧ W xs + 2 ≤ 10 * (at' - at_))

section
variable {α : Type} {A : Sh α} {te : TypeId} {Z : Obj} {hd : Value → Obj} {W : List α → Nat} {E : Env} {w wr w2 : World} {Ab : Nat} {v : Value} {xs : List α} {at_ at' at2 : Nat} {bad bad' bad2 : Int}

theorem Gc.ablt (h : Gc A te Z hd W E w wr Ab v xs at_ bad at' bad') : Ab < wr.heap.size := (Array.getElem?_eq_some_iff.1 h.acc).1
theorem GKids.ownlt (h : GKids A te w wr Ab v xs) {g : Nat} (hg : v.ownBlock = some g) : w.heap.size < g ∧ g < wr.heap.size := by
  obtain ⟨css, hr, -⟩ := h
  have := World.ownsRow.lt hr g hg
  omega
theorem GKids.nil (w wr : World) (Ab : Nat) : GKids A te w wr Ab (.slice none 0 0) [] := ⟨fun _ => [], World.ownsRow_nil wr _ te A.k, fun i hi => absurd hi (Nat.not_lt_zero _)⟩
theorem GKids.keep (h : GKids A te w wr Ab v xs) (hz : wr.heap.size ≤ w2.heap.size) (hb : ∀ b, w.heap.size < b → b < wr.heap.size → b ≠ Ab → w2.heap[b]? = wr.heap[b]?) (ho : v.ownBlock ≠ some Ab) : GKids A te w w2 Ab v xs := by
  obtain ⟨css, hr, hk⟩ := h
  refine ⟨css, ?_, fun i hi => A.mono (A.on (hk i hi) fun b hS => hb b hS.1 hS.2.1 hS.2.2.1) fun b hS => ⟨hS.1, Nat.lt_of_lt_of_le hS.2.1 hz, hS.2.2⟩⟩
  obtain ⟨hl, hv⟩ := hr
  refine ⟨hl, ?_⟩
  rcases hv with h0 | ⟨g, cap, cur, h1, h2, h3, h4⟩
  · exact Or.inl h0
  · exact Or.inr ⟨g, cap, cur, h1, h2, by rw [hb g (by omega) (Array.getElem?_eq_some_iff.1 h3).1 (fun e => ho (by rw [h1, ← e]; rfl))]; exact h3, h4⟩

theorem Gc.by (h : Gc A te Z hd W E w wr Ab v xs at_ bad at' bad') (hg : wr.grownBy w2 (some E.cb)) (hs : St E w2 at2 bad2) (hle : at' ≤ at2) (hx : 0 ≤ bad2 ∨ bad2 = bad') : Gc A te Z hd W E w w2 Ab v xs at_ bad at2 bad2 := by
  have hc := h.cx.cb
  have ha := h.ab
  have hl := h.le
  have hz := hg.size
  refine ⟨h.cx.by hg hs, (hg.block _ h.ablt fun e => by simp only [Option.some.injEq] at e; omega).trans h.acc, h.ab, h.row.keep hg.size (fun b h1 h2 _ => hg.block b h2 fun e => by simp only [Option.some.injEq] at e; omega) h.own, h.own, h.top, fun b hS => (h.ns b hS).imp id fun hq => ⟨hq.1, hq.2.1, by omega, hq.2.2.2⟩, by omega, ?_⟩
  rcases hx with hx | rfl
  · exact .inl hx
  · rcases h.hx with h' | ⟨e, h', h''⟩
    · exact .inl h'
    · exact .inr ⟨e, by omega, by omega⟩
theorem Gc.on (h : Gc A te Z hd W E w wr Ab v xs at_ bad at' bad') (hb : Below wr.heap.size wr w2) : Gc A te Z hd W E w w2 Ab v xs at_ bad at' bad' := h.by (grown_noneG _ hb) (h.cx.st.on hb) (Nat.le_refl _) (.inr rfl)

/-- One more. -/
theorem Gc.push {w3 w4 : World} {cs : List Value} {T : α} {ua : Option Addr} {ul uc r0 : Nat} {css : Nat → List Value} (h : Gc A te Z hd W E w wr Ab v xs at_ bad at' bad')
    (hk : ∀ i (h : i < xs.length), A.rep wr (fun b => w.heap.size < b ∧ b < wr.heap.size ∧ b ≠ Ab ∧ v.ownBlock ≠ some b) (css i) xs[i])
    (hr : A.rep wr (fun b => r0 ≤ b ∧ b < wr.heap.size) cs T) (hr0 : Ab < r0) (hrw : w.heap.size < r0) (hro : ∀ g, v.ownBlock = some g → g < r0) (hb2 : Below wr.heap.size wr w2) (hx : 0 ≤ bad' ∨ (bad' = bad ∧ at_ < at' ∧ W (xs ++ [T]) + 2 ≤ 10 * (at' - at_)))
    (ho : w3.ownsRow (w.heap.size + 1) te A.k (.slice ua ul uc) (xs.length + 1) (flat css xs.length ++ cs)) (hg3 : w2.grownBy w3 v.ownBlock) (hat : (Value.slice ua ul uc).ownBlock = v.ownBlock ∨ (Value.slice ua ul uc).ownBlock = some w2.heap.size)
    (idx : Nat) (hw4 : w4 = w3.setCell ⟨Ab, idx, none⟩ (.slice ua ul uc)) (hset : w3.heap[Ab]? = some (hd v) → w4.heap[Ab]? = some (hd (.slice ua ul uc))) : Gc A te Z hd W E w w4 Ab (.slice ua ul uc) (xs ++ [T]) at_ bad at' bad' := by
  have hc := h.cx.cb
  have ha := h.ab
  have hal := h.ablt
  have z2 := hb2.size
  have z3 := hg3.size
  have z4 : w4.heap.size = w3.heap.size := by rw [hw4]; simp [World.setCell]
  have o4 : ∀ b, b ≠ Ab → w4.heap[b]? = w3.heap[b]? := fun b hb => by rw [hw4]; exact Below.heap_setCell _ _ _ _ hb
  have s3 : ∀ b, b < w2.heap.size → v.ownBlock ≠ some b → w3.heap[b]? = w2.heap[b]? := fun b hb hn => hg3.block b hb fun e => hn e.symm
  have nlo : ∀ b, b ≤ w.heap.size → v.ownBlock ≠ some b := fun b hb e => by have := (h.row.ownlt e).1; omega
  have same : ∀ b, b < wr.heap.size → b ≠ Ab → v.ownBlock ≠ some b → w4.heap[b]? = wr.heap[b]? := fun b h1 h2 h3 => (o4 b h2).trans ((s3 b (by omega) h3).trans (hb2.block b h1))
  have acc3 : w3.heap[Ab]? = some (hd v) := (s3 Ab (by omega) h.own).trans ((hb2.block Ab hal).trans h.acc)
  have nown : (Value.slice ua ul uc).ownBlock ≠ some Ab := by
    rcases hat with e | e
    · rw [e]; exact h.own
    · rw [e]; intro e'; simp only [Option.some.injEq] at e'; omega
  have newown : ∀ b, b < wr.heap.size → v.ownBlock ≠ some b → (Value.slice ua ul uc).ownBlock ≠ some b := fun b h1 h2 => by
    rcases hat with e | e
    · rw [e]; exact h2
    · rw [e]; intro e'; simp only [Option.some.injEq] at e'; omega
  have low : ∀ b, b ≤ w.heap.size → w4.heap[b]? = wr.heap[b]? := fun b hb => same b (by omega) (by omega) (nlo b hb)
  have htop := h.top
  have hcx : Gx Z E w w4 at' bad' := by
    refine ⟨h.cx.st.keep (by omega) fun b hS => ?_, ⟨?_, ?_, ?_, by have := h.cx.gr.size; omega, fun q hq hn => (low q (by omega)).trans (h.cx.gr.block q hq hn)⟩, (low _ (Nat.le_refl _)).trans h.cx.res, h.cx.cb⟩
    · rcases hS with hS | hS | rfl
      · rcases h.ns b hS with h' | ⟨h1, h2, h3, -⟩
        · exact low b (by omega)
        · exact same b h3 h1 h2
      · exact low b (by omega)
      · exact low _ (by omega)
    · rw [hw4]; exact hg3.os.trans (hb2.os.trans h.cx.gr.os)
    · rw [hw4]; exact hg3.tape.trans (hb2.tape.trans h.cx.gr.tape)
    · rw [hw4]; exact hg3.output.trans (hb2.output.trans h.cx.gr.output)
  refine ⟨hcx, hset acc3, h.ab, ⟨fun i => if i < xs.length then css i else (fun _ => cs) (i - xs.length), ?_, fun i hi => ?_⟩, nown, h.top, fun b hS => (h.ns b hS).imp id fun hq => ⟨hq.1, newown b hq.2.2.1 hq.2.1, by omega, hq.2.2.2⟩, h.le, hx⟩
  · rw [List.length_append, List.length_singleton, flat_append css (fun _ => cs) xs.length 1]
    have e1 : flat (fun _ => cs) 1 = cs := by simp [flat]
    rw [e1]
    obtain ⟨hl, hv⟩ := ho
    refine ⟨hl, ?_⟩
    rcases hv with h0 | ⟨g, cap, cur, h1, h2, h3, h4⟩
    · exact Or.inl h0
    · exact Or.inr ⟨g, cap, cur, h1, h2, by rw [o4 g fun e => nown (by rw [h1, ← e]; rfl)]; exact h3, h4⟩
  · rw [List.length_append, List.length_singleton] at hi
    by_cases hlt : i < xs.length
    · simp only [if_pos hlt]
      rw [List.getElem_append_left hlt]
      exact A.mono (A.on (hk i hlt) fun b hS => same b hS.2.1 hS.2.2.1 hS.2.2.2) fun b hS => ⟨hS.1, by omega, hS.2.2.1, newown b hS.2.1 hS.2.2.2⟩
    · simp only [if_neg hlt]
      rw [List.getElem_append_right (by omega)]
      have hno : ∀ b, r0 ≤ b → v.ownBlock ≠ some b := fun b hb e => by have := hro b e; omega
      have e0 : i - xs.length = 0 := by omega
      simp only [e0, List.getElem_cons_zero]
      exact A.mono (A.on hr fun b hS => same b hS.2 (by omega) (hno b hS.1)) fun b hS => ⟨by omega, by omega, by omega, newown b hS.2 (hno b hS.1)⟩

theorem GKids.slice (h : GKids A te w wr Ab v xs) : ∃ a c, v = .slice a xs.length c := by
  obtain ⟨css, hr, -⟩ := h
  rcases hr.2 with ⟨h1, h0⟩ | ⟨g, cap, cur, h1, -⟩
  · exact ⟨none, 0, by rw [h1, h0]⟩
  · exact ⟨_, _, h1⟩
theorem GKids.rep (h : GKids A te w wr Ab v xs) (hA : 0 < A.k) : A.slice.rep wr (fun b => w.heap.size < b ∧ b < wr.heap.size) [v] xs := by
  obtain ⟨css, hr, hk⟩ := h
  have := Own.slice (A := A) (t := te) (base := w.heap.size + 1) (S := fun b => w.heap.size < b ∧ b < wr.heap.size) (v := v) (xs := xs) (w := wr) ⟨css, hr, fun i hi => A.mono (hk i hi) fun b hS => ⟨hS.1, hS.2.1⟩⟩ hA
  exact A.slice.mono this fun b hS => by rcases hS with h | h <;> omega
theorem GKids.repP {B : Sh α} (h : GKids (Sh.plain B) te w wr Ab v xs) (hA : 0 < B.k) : (Sh.plain B.slice).rep wr (fun b => w.heap.size < b ∧ b < wr.heap.size) [v] xs := by
  obtain ⟨css, hr, hk⟩ := h
  exact Own.sliceP (A := B) (t := te) (base := w.heap.size + 1) (S := fun b => (w.heap.size < b ∧ b < wr.heap.size) ∧ Plain wr b) (v := v) (xs := xs) (w := wr) ⟨css, hr, fun i hi => B.mono (hk i hi) fun b hS => ⟨⟨hS.1.1, hS.1.2.1⟩, hS.2⟩⟩ hA fun b h1 h2 h3 => ⟨⟨by omega, h2⟩, h3⟩
end

abbrev tyP : Sh ty.TyD := ty.tySh.plain
abbrev conP : Sh con.ConD := con.conSh.plain
abbrev dataP : Sh data.DataD := data.dataSh.plain
abbrev tyPs : Sh (List ty.TyD) := ty.tySh.slice.plain
abbrev conPs : Sh (List con.ConD) := con.conSh.slice.plain
abbrev dataPs : Sh (List data.DataD) := data.dataSh.slice.plain

end Go.Proofs.YtlnpfnglphdaiaaGreatDoor.tok

namespace Go.Proofs.YtlnpfnglphdaiaaGreatDoor.tok
open Go Go.RowKit Go.Deep Go.Proofs.YtlnpfnglphdaiaaGreatDoor.rose Go.Proofs.YtlnpfnglphdaiaaGreatDoor
set_option linter.unusedVariables false
set_option linter.unusedSimpArgs false

/-- That a var is none is told. -/
theorem St.told {E : Env} {w : World} {at_ : Nat} {bad : Int} (h : St E w at_ bad) (b : Bool) : St E (w.setCell ⟨E.cb, 4, none⟩ (.bool b)) at_ bad := by
  obtain ⟨va, vc, names, nn, h1, h2, h3⟩ := h.blk
  have hoth : ∀ k, k ≠ E.cb → (w.setCell ⟨E.cb, 4, none⟩ (.bool b)).heap[k]? = w.heap[k]? := fun k hk => Below.heap_setCell _ _ _ _ hk
  have hz : (w.setCell ⟨E.cb, 4, none⟩ (.bool b)).heap.size = w.heap.size := by simp [World.setCell]
  exact ⟨⟨va, vc, names, b, by simp [World.setCell, Array.getElem?_modify, h1], Sh.str.slice.on h2 fun b hS => hoth b (h.ns b hS).2, h3⟩, fun b hS => ⟨by rw [hz]; exact (h.ns b hS).1, (h.ns b hS).2⟩, tokSh.slice.on h.rep fun b hS => hoth b hS.2, h.lt, h.len, h.fine, h.last, h.bad0, by rw [hz]; exact h.top⟩

set_option maxRecDepth 100000 in
set_option maxHeartbeats 4000000 in
theorem var_any (E : Env) (w : World) (at_ : Nat) (bad : Int) (h : St E w at_ bad) (s : ByteArray) :
    Calls Tryz.prog 95 #[.pointer (some ⟨E.cb, 0, none⟩), .string s] w fun e w' => (∃ n : Nat, e = .returned (.int .i64 n) ∧ n ≤ 3001) ∧ St E w' at_ bad ∧ w.grownBy w' (some E.cb) := by
  have HS : Hid (St E w at_ bad) := h
  obtain ⟨va, vc, names, nn, hblk, hnm, hnl, -⟩ := h.blk
  obtain ⟨a, c, css, e, h1, h2, h5, hrow, hk⟩ := hnm
  simp only [List.cons.injEq, Value.slice.injEq, and_true, true_and] at e
  obtain ⟨rfl, rfl⟩ := e
  have HR : Hid (∀ i (h : i < names.length), ∃ b o, va = some ⟨b, o, none⟩ ∧ w.cell? ⟨b, o + i, none⟩ = some (.string names[i])) := fun i hi => by
    obtain ⟨b, o, e, -, hc⟩ := hrow i hi
    obtain ⟨hcs, -⟩ := hk i hi
    rw [hcs] at hc
    have := hc 0 _ rfl
    exact ⟨b, o, e, by simpa [Sh.str] using this⟩
  have c3 : w.cell? ⟨E.cb, 3, none⟩ = some (.slice va names.length vc) := blk_cellG (i := 3) hblk rfl
  have c4 : w.cell? ⟨E.cb, 4, none⟩ = some (.bool nn) := blk_cellG (i := 4) hblk rfl
  have fz : ∀ o, w.frozen? ⟨E.cb, o, none⟩ = false := fun o => blk_freeG hblk
  have hnl2 : (names.length : Int) ≤ 3001 := by omega
  clear hblk hrow hk h1 h2 h5 h
  go_enter Tryz.func95, Tryz.ntmps95
  go_wp2
  go_loopw [5] (fun v5 wr => ∃ i : Nat, i ≤ names.length ∧ v5 = .int .i64 i ∧ Hid (wr = w)) (fun v5 _ => names.length - (intOf v5).toNat)
  case atStart => exact ⟨0, Nat.zero_le _, rfl, rfl⟩
  case round =>
    obtain ⟨i, hi, rfl, HE⟩ := hrel
    have hwr := HE.out
    subst hwr
    by_cases hlt : i < names.length
    · obtain ⟨b, o, rfl, hc⟩ := HR.out i hlt
      have hii : (i : Int) < (names.length : Int) := by omega
      by_cases heq : (names[i].toList == s.toList) = true
      · go_wp2
        go_ret
        exact ⟨⟨i, rfl, by omega⟩, HS.out, grown_self _ _⟩
      · have heq' : (names[i].toList == s.toList) = false := by simpa using heq
        clear heq
        go_wp2
        go_round
        case rel => exact ⟨i + 1, by omega, by go_num, trivial⟩
        case measure => simp [intOf]; omega
    · obtain rfl : i = names.length := by omega
      go_wp2
      go_ret
      exact ⟨⟨0, rfl, by omega⟩, HS.out.told true, grown_setG _ _ _ _⟩

end Go.Proofs.YtlnpfnglphdaiaaGreatDoor.tok
