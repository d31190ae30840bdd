/-
  A row of the call's own that grows by one element after the other, each of which lies in blocks of its own; an append as a step of a region that draws its order.
  What is turned while a call works in blocks of its own and in some that it was handed. No program is named.
  The model's l1In; nothing is turned.
  The model's words of a heap (chapter 17): what they answer; nothing is turned.
  The model's IsRef, WordInt, WordRef, l17Of and l7In, at every argument; nothing is turned.
  A slice of ints that a call has built itself, from a block number on.
  A cell of a row of the call's own is turned; a row that is kept elsewhere.
-/
import Derived.Maps.AppendAt
import Derived.Laws.AppendOwn
import Derived.Deep.RegionLaw
import Derived.Shelf.Abstract
import Derived.Deep.QuietTactic
import Derived.BigQuiet
import Derived.Test.YtjofmoebijdccaaGreatChecked
import Derived.WalkKit
import Derived.WalkLawsBesides
import Derived.WalkSmall
import Derived.OwnWalk
import Derived.Test.YtjofmoebijdccaaGreatB1
import Derived.Test.YtjofmoebijdccaaGreatB2
import Derived.Test.YtjofmoebijdccaaGreatB3
import Derived.Test.YtjofmoebijdccaaGreatB4
import Derived.Test.YtjofmoebijdccaaGreatB5
import Derived.Test.YtjofmoebijdccaaGreatB6
import Derived.Test.YtjofmoebijdccaaGreatB7
import Derived.Test.YtjofmoebijdccaaGreatB8
import Derived.Test.YtjofmoebijdccaaGreatB9
import Derived.Test.YtjofmoebijdccaaGreatB10
import Derived.Test.YtjofmoebijdccaaGreatB11
import Derived.Test.YtjofmoebijdccaaGreatB12
import Derived.Test.YtjofmoebijdccaaGreatB13
import Derived.Test.YtjofmoebijdccaaGreatB14
import Derived.Test.YtjofmoebijdccaaGreatB15
import Derived.Test.YtjofmoebijdccaaGreatB16
namespace Go.Proofs.YtjofmoebijdccaaGreat.rose
open Go Go.RowKit Go.Deep Go.ChangeShapes Go.WideShapes
set_option linter.unusedVariables false

/-- An append to a row of the call's own, as one step of a region that draws its order. -/
theorem step_append_own {P : Program} {ops : Array Oper} {o : Oper} {a : Act} {w : World} {K : Act → World → Prop} {Q : Exit → Act → World → Prop} {E : Prop}
    (hg : o.guard = none) (s x : Operand) (t : TypeId) (hop : o.op = Op.call { callee := Callee.builtin Builtin.append, args := #[s, x], argTypes := #[t, t] })
    (base : Nat) (e : TypeId) (i : TypeInfo) (z : Value) (size bytes : Nat) (h1 : P.underlying t = some (.slice e)) (h2 : P.info? e = some i) (h3 : i.zero = some z) (h4 : i.size = size) (h5 : i.bytes = bytes) (h6 : z.cells.size = size) (h7 : 0 < size)
    (v : Value) (n : Nat) (xs : List Value) (hs : a.eval s = v) (hown : w.ownsRow base e size v n xs)
    (ad : Addr) (m c : Nat) (news : List Value) (hx : a.eval x = .slice (some ad) m c) (hn : news.length = m * size) (hc : ∀ j u, news[j]? = some u → w.cell? (ad.add j) = some u) (h1c : ∀ u ∈ news, u.oneCell' = true)
    (b1 : n + m ≤ maxLen) (b2 : (n + m) * bytes ≤ 140737488355328) (hbase : base ≤ w.heap.size)
    (hK : ∀ a' l' c' w', w'.ownsRow base e size (.slice a' l' c') (n + m) (xs ++ news) → w.grownBy w' v.ownBlock → ((Value.slice a' l' c').ownBlock = v.ownBlock ∨ (Value.slice a' l' c').ownBlock = some w.heap.size) → K (a.put o.dst (.slice a' l' c')) w') :
    if Region.wanted o (yielded ops a.tmps) = true then Oper.wp P o a w K Q else E := by
  have hw : Region.wanted o (yielded ops a.tmps) = true := by simp [Region.wanted, hg]
  rw [if_pos hw]
  obtain ⟨v', w', hrun, r1, r2, -, r3⟩ := run_append_own_at (P := P) w base t o.type e i z size bytes h1 h2 h3 h4 h5 h6 h7 v n xs hown ad m c news hn hc h1c b1 b2 hbase
  obtain ⟨a', l', c', rfl⟩ : ∃ a' l' c', v' = .slice a' l' c' := by
    rcases r1.2 with ⟨rfl, _⟩ | ⟨_, _, _, rfl, _⟩
    · exact ⟨_, _, _, rfl⟩
    · exact ⟨_, _, _, rfl⟩
  unfold Oper.wp
  simp [execOp, hop, resolve, invoke, builtin, hs, hx, hrun, Result.andThen]
  exact hK a' l' c' w' r1 r2 r3

/-- A call of a Go function by its contract, as one step of a region that draws its order. -/
theorem step_call {P : Program} {ops : Array Oper} {o : Oper} {a : Act} {w : World} {K : Act → World → Prop} {Q : Exit → Act → World → Prop} {E : Prop}
    (hg : o.guard = none) (f : FuncId) (hent : Enters P f) (xs : Array Operand) (ts : Array TypeId) (hop : o.op = Op.call { callee := Callee.value (Operand.func f), args := xs, argTypes := ts }) (args : Array Value)
    (R : Ending → World → Prop) (h : Calls P f args w R) (ha : xs.map a.eval = args) (hK : ∀ e w', R e w' → ∃ v, e = .returned v ∧ K (a.put o.dst v) w') :
    if Region.wanted o (yielded ops a.tmps) = true then Oper.wp P o a w K Q else E := by
  have hw : Region.wanted o (yielded ops a.tmps) = true := by simp [Region.wanted, hg]
  rw [if_pos hw]
  have hr : (execOp a.eval o).run P w = .ok (.enter f args) w := by
    subst ha
    obtain ⟨dst, op, ty, pos, after, guard⟩ := o
    have hop' : op = Op.call { callee := Callee.value (Operand.func f), args := xs, argTypes := ts } := hop
    subst hop'
    have hx : execOp a.eval { dst, op := .call { callee := .value (.func f), args := xs, argTypes := ts }, type := ty, pos, after, guard } = callFunc f (xs.map a.eval) := by
      show callFunc f (#[] ++ xs.map a.eval ++ #[]) = _
      simp
    rw [hx]
    exact hent _ _
  unfold Oper.wp
  rw [hr, Oper.upon_enter]
  refine h.mono fun e w' hR => ?_
  obtain ⟨v, rfl, hk⟩ := hK e w' hR
  exact hk

/-- The cells of a new block. -/
theorem cells_new (w : World) (cs : List Value) (t : TypeId) (arr : Array Value) (ha : arr = cs.toArray) : ∀ j u, cs[j]? = some u → (w.alloc (.cells arr t)).cell? ((⟨w.heap.size, 0, none⟩ : Addr).add j) = some u := by
  subst ha
  intro j u hj
  have hh : (w.alloc (.cells cs.toArray t)).heap[w.heap.size]? = some (.cells cs.toArray t) := alloc_top w (.cells cs.toArray t)
  rw [add_plain, Nat.zero_add]
  simp only [World.cell?, hh]
  simpa using hj

/-- WHAT HAS GROWN: element i's cells, and the blocks in which the rest of it lies. -/
def Grown {α : Type} (A : Sh α) (t : TypeId) (w : World) (base : Nat) (v : Value) (xs : List α) : Prop :=
  ∃ (css : Nat → List Value) (F : Nat → Nat → Prop), w.ownsRow base t A.k v xs.length (flat css xs.length) ∧ (∀ i (h : i < xs.length), A.rep w (F i) (css i) xs[i]) ∧
    (∀ i, i < xs.length → ∀ b, F i b → base ≤ b ∧ b < w.heap.size ∧ v.ownBlock ≠ some b) ∧ ∀ i j, i < xs.length → j < xs.length → i ≠ j → ∀ b, F i b → ¬ F j b

theorem Grown.nil {α : Type} (A : Sh α) (t : TypeId) (w : World) (base : Nat) : Grown A t w base (.slice none 0 0) ([] : List α) :=
  ⟨fun _ => [], fun _ _ => False, World.ownsRow_nil w base t A.k, fun i h => absurd h (Nat.not_lt_zero _), fun i h => absurd h (Nat.not_lt_zero _), fun i j h => absurd h (Nat.not_lt_zero _)⟩

theorem Grown.on {α : Type} {A : Sh α} {t : TypeId} {w w' : World} {base : Nat} {v : Value} {xs : List α} (h : Grown A t w base v xs) (hs : w.heap.size ≤ w'.heap.size) (hb : ∀ b, base ≤ b → b < w.heap.size → w'.heap[b]? = w.heap[b]?) : Grown A t w' base v xs := by
  obtain ⟨css, F, ⟨hl, hv⟩, hr, hf, ha⟩ := h
  refine ⟨css, F, ⟨hl, ?_⟩, fun i hi => A.on (hr i hi) fun b hS => hb b (hf i hi b hS).1 (hf i hi b hS).2.1, fun i hi b hS => ⟨(hf i hi b hS).1, Nat.lt_of_lt_of_le (hf i hi b hS).2.1 hs, (hf i hi b hS).2.2⟩, ha⟩
  rcases hv with h0 | ⟨g, cap, cur, h1, h2, h3, h4⟩
  · exact Or.inl h0
  · exact Or.inr ⟨g, cap, cur, h1, h2, by rw [hb g h2 (Array.getElem?_eq_some_iff.1 h3).1]; exact h3, h4⟩

theorem Grown.row {α : Type} {A : Sh α} {t : TypeId} {w : World} {base : Nat} {v : Value} {xs : List α} (h : Grown A t w base v xs) : ∃ ys, w.ownsRow base t A.k v xs.length ys := by
  obtain ⟨css, F, h1, -⟩ := h
  exact ⟨_, h1⟩
theorem Grown.slice {α : Type} {A : Sh α} {t : TypeId} {w : World} {base : Nat} {v : Value} {xs : List α} (h : Grown A t w base v xs) : ∃ a c, v = .slice a xs.length c := by
  obtain ⟨css, F, ⟨hl, hv⟩, -⟩ := h
  rcases hv with ⟨rfl, h0⟩ | ⟨g, cap, cur, h1, -⟩
  · exact ⟨_, _, by rw [h0]⟩
  · exact ⟨_, _, h1⟩
theorem Grown.own {α : Type} {A : Sh α} {t : TypeId} {w : World} {base : Nat} {v : Value} {xs : List α} (h : Grown A t w base v xs) {g : Nat} (hg : v.ownBlock = some g) : base ≤ g ∧ g < w.heap.size := by
  obtain ⟨css, F, ⟨hl, hv⟩, -⟩ := h
  rcases hv with ⟨rfl, h0⟩ | ⟨q, cap, cur, rfl, h2, h3, -⟩
  · cases hg
  · simp only [Value.ownBlock, Option.some.injEq] at hg
    subst hg
    exact ⟨h2, (Array.getElem?_eq_some_iff.1 h3).1⟩

/-- One more: its rest lies in blocks that are new since w; the append made w' of w1. -/
theorem Grown.push {α : Type} {A : Sh α} {t : TypeId} {w w1 w' : World} {base : Nat} {v : Value} {xs : List α} {css : Nat → List Value} {F : Nat → Nat → Prop} {a' : Option Addr} {l' c' : Nat} {cs : List Value} {x : α} {lo hi : Nat}
    (hr : ∀ i (h : i < xs.length), A.rep w1 (F i) (css i) xs[i]) (hf : ∀ i, i < xs.length → ∀ b, F i b → base ≤ b ∧ b < lo ∧ v.ownBlock ≠ some b) (ha : ∀ i j, i < xs.length → j < xs.length → i ≠ j → ∀ b, F i b → ¬ F j b)
    (hv : ∀ g, v.ownBlock = some g → g < lo) (hx : A.rep w1 (fun b => lo ≤ b ∧ b < hi) cs x) (hb : base ≤ lo) (h1 : lo ≤ hi) (h2 : hi ≤ w1.heap.size)
    (ho : w'.ownsRow base t A.k (.slice a' l' c') (xs.length + 1) (flat css xs.length ++ cs)) (hg : w1.grownBy w' v.ownBlock) (hat : (Value.slice a' l' c').ownBlock = v.ownBlock ∨ (Value.slice a' l' c').ownBlock = some w1.heap.size) :
    Grown A t w' base (.slice a' l' c') (xs ++ [x]) := by
  have same : ∀ b, b < w1.heap.size → v.ownBlock ≠ some b → w'.heap[b]? = w1.heap[b]? := fun b hb hn => hg.block b hb fun e => hn e.symm
  refine ⟨fun i => if i < xs.length then css i else cs, fun i => if i < xs.length then F i else fun b => lo ≤ b ∧ b < hi, ?_, fun i hi => ?_, fun i hi b => ?_, fun i j hi hj hne b => ?_⟩
  · rw [List.length_append, List.length_singleton, flat_succ, if_neg (Nat.lt_irrefl _)]
    have : flat (fun i => if i < xs.length then css i else cs) xs.length = flat css xs.length := by
      unfold flat
      exact Go.Deep.flatMap_congr_range fun i hi => by simp [hi]
    rw [this]
    exact ho
  · rw [List.length_append, List.length_singleton] at hi
    by_cases hlt : i < xs.length
    · simp only [if_pos hlt]
      rw [List.getElem_append_left hlt]
      exact A.on (hr i hlt) fun b hS => same b (by have := (hf i hlt b hS).2.1; omega) (hf i hlt b hS).2.2
    · simp only [if_neg hlt]
      rw [List.getElem_append_right (by omega)]
      simp only [List.getElem_singleton]
      exact A.on hx fun b hS => same b (by omega) fun e => by have := hv b e; omega
  · rw [List.length_append, List.length_singleton] at hi
    by_cases hlt : i < xs.length
    · simp only [if_pos hlt]
      intro hS
      obtain ⟨q1, q2, q3⟩ := hf i hlt b hS
      refine ⟨q1, by have := hg.size; omega, fun e => ?_⟩
      rcases hat with h | h
      · exact q3 (h.symm.trans e)
      · rw [h] at e; simp only [Option.some.injEq] at e; omega
    · simp only [if_neg hlt]
      intro hS
      refine ⟨by omega, by have := hg.size; omega, fun e => ?_⟩
      rcases hat with h | h
      · have := hv b (h.symm.trans e); omega
      · rw [h] at e; simp only [Option.some.injEq] at e; omega
  · rw [List.length_append, List.length_singleton] at hi hj
    by_cases h1 : i < xs.length
    · by_cases h2 : j < xs.length
      · simp only [if_pos h1, if_pos h2]; exact ha i j h1 h2 hne b
      · simp only [if_pos h1, if_neg h2]
        intro q1 q2
        have := (hf i h1 b q1).2.1; omega
    · by_cases h2 : j < xs.length
      · simp only [if_neg h1, if_pos h2]
        intro q1 q2
        have := (hf j h2 b q2).2.1; omega
      · omega

/-- What has grown lies apart. -/
theorem Grown.sslice {α : Type} {A : Sh α} {t : TypeId} {w : World} {base : Nat} {v : Value} {xs : List α} (h : Grown A t w base v xs) (hk : 0 < A.k) : A.sslice.rep w (fun b => base ≤ b ∧ b < w.heap.size) [v] xs := by
  obtain ⟨css, F, ⟨hl, hv⟩, hr, hf, ha⟩ := h
  rcases hv with ⟨rfl, h0⟩ | ⟨g, cap, cur, rfl, h2, h3, h4, h5, h6, h7⟩
  · have : xs = [] := List.eq_nil_of_length_eq_zero h0
    subst this
    exact ⟨none, 0, fun _ => [], fun _ _ => False, rfl, Nat.le_refl _, Nat.zero_le _, fun _ => rfl, fun h => absurd h (Nat.lt_irrefl _), fun i hi => absurd hi (Nat.not_lt_zero _), fun i j hi => absurd hi (Nat.not_lt_zero _), fun i hi => absurd hi (Nat.not_lt_zero _)⟩
  · have hg : g < w.heap.size := (Array.getElem?_eq_some_iff.1 h3).1
    refine ⟨some ⟨g, 0, none⟩, cap, css, F, rfl, h4, h5, (fun h => by cases h), fun _ => ⟨g, 0, cur, t, rfl, ⟨h2, hg⟩, h3, fun i hi q => (hf i hi g q).2.2 rfl, fun i hi j u hj => ?_⟩, fun i hi b hS => ⟨(hf i hi b hS).1, (hf i hi b hS).2.1⟩, ha, hr⟩
    have hjk : j < A.k := by
      rcases Nat.lt_or_ge j A.k with h' | h'
      · exact h'
      · rw [List.getElem?_eq_none (by rw [A.len (hr i hi)]; exact h')] at hj; cases hj
    have hf' := flat_get (css := css) (n := xs.length) (k := A.k) (fun i hi => A.len (hr i hi)) hi hjk
    rw [hj, ← h7, List.getElem?_take] at hf'
    have hlt : i * A.k + j < xs.length * A.k := by
      have := Nat.mul_le_mul_right A.k (show i + 1 ≤ xs.length by omega)
      rw [Nat.succ_mul] at this; omega
    rw [if_pos hlt] at hf'
    simp only [World.cell?, h3, Nat.zero_add]
    rw [Array.getElem?_toList] at hf'
    exact hf'

end Go.Proofs.YtjofmoebijdccaaGreat.rose

namespace Go.Proofs.YtjofmoebijdccaaGreat.rose
open Go Go.RowKit
set_option linter.unusedVariables false

section
variable {S : Nat → Prop} {w w1 w2 : World}
theorem Only.alloc (h : Only S w w1) (X : Obj) : Only S w (w1.alloc X) :=
  h.trans (Only.ofBelow ((Below.refl _ _).alloc (Nat.le_refl _) X))
theorem Only.bel (h : Only S w w1) (hb : Below w1.heap.size w1 w2) : Only S w w2 := h.trans (Only.ofBelow hb)
theorem Only.set (h : Only S w w1) (g j : Nat) (u : Value) (hg : g < w.heap.size → S g) : Only S w (w1.setCell ⟨g, j, none⟩ u) :=
  ⟨h.os, h.tape, h.output, Nat.le_trans h.size (Nat.le_of_eq (by simp [World.setCell])), fun k hk hn => (Below.heap_setCell _ _ _ _ (by show k ≠ g; intro e; subst e; exact hn (hg hk))).trans (h.block k hk hn)⟩
theorem Only.grown {row : Option Nat} (h : Only S w w1) (hg : w1.grownBy w2 row) (hr : ∀ g, row = some g → g < w.heap.size → S g) : Only S w w2 :=
  ⟨hg.os.trans h.os, hg.tape.trans h.tape, hg.output.trans h.output, Nat.le_trans h.size hg.size, fun k hk hn => (hg.block k (Nat.lt_of_lt_of_le hk h.size) (fun e => hn (hr k e.symm hk))).trans (h.block k hk hn)⟩
theorem Only.drewN (h : Only S w w1) (n : Nat) : Only S w (w1.drewN n) := ⟨h.os, h.tape, h.output, h.size, h.block⟩
end

end Go.Proofs.YtjofmoebijdccaaGreat.rose

namespace Go.Proofs.YtjofmoebijdccaaGreat.fun
open Go.RowKit Go.Proofs.YtjofmoebijdccaaGreat
set_option linter.unusedVariables false
set_option linter.unusedSimpArgs false

theorem ret_boolF {a b : Bool} (h : a = b) : Ending.returned (.bool a) = Ending.returned (.bool b) := by rw [h]

set_option maxHeartbeats 1000000 in
theorem in_is {n lo hi : Int} {b : Bool} {w : World} (h : inB n lo hi = b) :
    Calls Tryz.prog 62 #[.int .i64 n, .int .i64 lo, .int .i64 hi] w fun e w' => e = .returned (.bool b) ∧ w' = w := by
  by_cases h1 : lo ≤ n
  · go_enter Tryz.func62, Tryz.ntmps62
    go_wp2
    go_ret
    exact ⟨ret_boolF (by rw [← h]; simp [inB, h1]), rfl⟩
  · have h2 : decide (lo ≤ n) = false := decide_eq_false h1
    go_enter Tryz.func62, Tryz.ntmps62
    go_wp2
    go_ret
    exact ⟨ret_boolF (by rw [← h]; simp only [inB, h2, Bool.false_and]), rfl⟩

end Go.Proofs.YtjofmoebijdccaaGreat.fun

namespace Go.Proofs.YtjofmoebijdccaaGreat.words
open Go Go.RowKit Go.Proofs.YtjofmoebijdccaaGreat Go.Proofs.YtjofmoebijdccaaGreat.fun
set_option linter.unusedVariables false
set_option linter.unusedSimpArgs false

def intWordF (n : Int) : Int := if inB n (-1073741824) 1073741823 then 2 * n + 1 else 1
def refWordF (p : Int) : Int := if inB p 0 6000 then 2 * p else 0
def isRefF (x : Int) : Bool := decide (x % 2 = 0)
def halfF (x : Int) : Int := x / 2

theorem ret_i {a b : Int} (h : a = b) : Ending.returned (.int .i64 a) = Ending.returned (.int .i64 b) := by rw [h]
theorem ret_b {a b : Bool} (h : a = b) : Ending.returned (.bool a) = Ending.returned (.bool b) := by rw [h]
theorem and_one (n : Int) : bits .and .i64 n 1 = n % 2 := by
  have h1 : (BitVec.ofInt 64 1).toNat = 2 ^ 1 - 1 := by decide
  have key : (BitVec.ofInt 64 n &&& BitVec.ofInt 64 1).toNat = (n % ((2 ^ 64 : Nat) : Int)).toNat % 2 ^ 1 := by
    rw [BitVec.toNat_and, BitVec.toNat_ofInt, h1, Nat.and_two_pow_sub_one_eq_mod]
  have e : bits .and .i64 n 1 = IntKind.i64.wrap ((BitVec.ofInt 64 n &&& BitVec.ofInt 64 1).toNat : Nat) := rfl
  rw [e, key, IntKind.wrap_i64]
  omega
theorem and_63 (n : Int) : bits .and .i64 n 63 = n % 64 := by
  have h1 : (BitVec.ofInt 64 63).toNat = 2 ^ 6 - 1 := by decide
  have key : (BitVec.ofInt 64 n &&& BitVec.ofInt 64 63).toNat = (n % ((2 ^ 64 : Nat) : Int)).toNat % 2 ^ 6 := by
    rw [BitVec.toNat_and, BitVec.toNat_ofInt, h1, Nat.and_two_pow_sub_one_eq_mod]
  have e : bits .and .i64 n 63 = IntKind.i64.wrap ((BitVec.ofInt 64 n &&& BitVec.ofInt 64 63).toNat : Nat) := rfl
  rw [e, key, IntKind.wrap_i64]
  omega

set_option maxHeartbeats 1000000 in
theorem word_is {n : Int} {b : Bool} {w : World} (h : inB n (-1073741824) 1073741823 = b) :
    Calls Tryz.prog 86 #[.int .i64 n] w fun e w' => e = .returned (.bool b) ∧ w' = w := by
  go_enter Tryz.func86, Tryz.ntmps86
  go_wp2_with (go_at_call 62; refine (in_is h).mono ?_; rintro e w' ⟨rfl, hx⟩; subst w')
  go_ret
  exact ⟨rfl, rfl⟩

end Go.Proofs.YtjofmoebijdccaaGreat.words

namespace Go.Proofs.YtjofmoebijdccaaGreat.heap
open Go Go.RowKit Go.Proofs.YtjofmoebijdccaaGreat.rose Go.Proofs.YtjofmoebijdccaaGreat Go.Proofs.YtjofmoebijdccaaGreat.fun Go.Proofs.YtjofmoebijdccaaGreat.words
set_option linter.unusedVariables false
set_option linter.unusedSimpArgs false

set_option maxHeartbeats 1000000 in
theorem isref_is {n : Int} {b : Bool} {w : World} (h : decide (n % 2 = 0) = b) : Calls Tryz.prog 65 #[.int .i64 n] w fun e w' => e = .returned (.bool b) ∧ w' = w := by
  have ha := and_one n
  go_enter Tryz.func65, Tryz.ntmps65
  go_wp2
  go_ret
  exact ⟨ret_b (by rw [← h, Bool.eq_iff_iff]; simp), rfl⟩
set_option maxHeartbeats 1000000 in
theorem wordint_is (n : Int) (w : World) : Calls Tryz.prog 66 #[.int .i64 n] w fun e w' => e = .returned (.int .i64 (n / 2)) ∧ w' = w := by
  go_enter Tryz.func66, Tryz.ntmps66
  go_wp2
  go_ret
  exact ⟨ret_i (by first | rfl | omega), rfl⟩
set_option maxHeartbeats 1000000 in
theorem wordref_is (n : Int) (w : World) : Calls Tryz.prog 67 #[.int .i64 n] w fun e w' => e = .returned (.int .i64 (n / 2)) ∧ w' = w := by
  go_enter Tryz.func67, Tryz.ntmps67
  go_wp2
  go_ret
  exact ⟨ret_i (by first | rfl | omega), rfl⟩
set_option maxHeartbeats 2000000 in
theorem of_is (n : Int) (w : World) (h1 : -9223372036854775808 ≤ n) (h2 : n ≤ 9223372036854775807) : Calls Tryz.prog 63 #[.int .i64 n] w fun e w' => e = .returned (.tuple #[.bool (funF n), .int .i64 (tagF n), .int .i64 (manyF n)]) ∧ w' = w := by
  have ha := and_one (n / 2)
  have hb := and_63 (n / 2 / 2)
  have hq : IntKind.i64.wrap (Int.tdiv (n / 2 / 2) 64) = Int.tdiv (n / 2 / 2) 64 := IntWalk.i64_quo' _ _ (by omega)
  go_enter Tryz.func63, Tryz.ntmps63
  go_wp2
  refine bodyPost_ret (v := .tuple #[.bool (funF n), .int .i64 (tagF n), .int .i64 (manyF n)]) (by simp [results, Tryz.f63, go_sem, funF, tagF, manyF]; try (rw [Bool.eq_iff_iff]; simp)) rfl ?_
  exact ⟨rfl, rfl⟩
set_option maxHeartbeats 1000000 in
theorem in7_is {l : List Int} {x : Int} {b : Bool} (v : Value) (w : World) (hb : decide (x ∈ l) = b) (h : ints.intsSh.rep w (· < w.heap.size) [v] l) : Calls Tryz.prog 68 #[v, .int .i64 x] w fun e w' => e = .returned (.bool b) ∧ w' = w := by
  obtain ⟨a, cap, rfl, hcap, hmax, hat⟩ := ints.ints_open h
  have hmx : (l.length : Int) ≤ 9223372036854775807 := by unfold maxLen at hmax; omega
  have HA : Hid _ := hat
  have HB : Hid (decide (x ∈ l) = b) := hb
  clear h hcap hmax hat hb
  go_enter Tryz.func68, Tryz.ntmps68
  go_wp2
  go_loopw [5] (fun v5 wr => ∃ i : Nat, i ≤ l.length ∧ v5 = .int .i64 i ∧ wr = w ∧ Hid (∀ j (hj : j < l.length), j < i → l[j] ≠ x)) (fun v5 _ => l.length - (intOf v5).toNat)
  case atStart => exact ⟨0, Nat.zero_le _, rfl, rfl, fun j _ hj => absurd hj (Nat.not_lt_zero _)⟩
  case round =>
    obtain ⟨i, hi, rfl, hwr, HJ⟩ := hrel
    subst wr
    by_cases hlt : i < l.length
    · obtain ⟨b', o, rfl, hS, hc, -⟩ := HA.out i hlt
      have e0 : w.cell? ⟨b', o + i, none⟩ = some (.int .i64 l[i]) := hc
      clear hc
      by_cases he : l[i] = x
      · have HE : Hid (b = true) := by show _ = _; rw [← HB.out]; simp only [decide_eq_true_eq]; rw [← he]; exact List.getElem_mem hlt
        rw [he] at e0
        go_wp2
        go_ret
        exact ⟨ret_b HE.out.symm, rfl⟩
      · have hne : (l[i] == x) = false := by simpa using he
        have HN : Hid (∀ j (hj : j < l.length), j < i + 1 → l[j] ≠ x) := fun j hj h1 => by
          by_cases q : j = i
          · subst q; exact he
          · exact HJ.out j hj (by omega)
        generalize l[i] = y at e0 hne
        clear he
        go_wp2
        go_round
        case rel => exact ⟨i + 1, by omega, by go_num, by first | rfl | trivial, HN⟩
        case measure => simp [intOf]; omega
    · obtain rfl : i = l.length := by omega
      have HE : Hid (b = false) := by
        show _ = _; rw [← HB.out]; simp only [decide_eq_false_iff_not]
        intro hm
        obtain ⟨j, hj, e⟩ := List.getElem_of_mem hm
        exact HJ.out j hj hj e
      go_wp2
      go_ret
      exact ⟨ret_b HE.out.symm, rfl⟩

end Go.Proofs.YtjofmoebijdccaaGreat.heap

namespace Go.Proofs.YtjofmoebijdccaaGreat.ints
open Go.RowKit Go.Proofs.YtjofmoebijdccaaGreat.rose Go.Proofs.YtjofmoebijdccaaGreat
set_option linter.unusedVariables false

def InR (x : Int) : Prop := -9223372036854775808 ≤ x ∧ x ≤ 9223372036854775807

def IRow (w : World) (base : Nat) (v : Value) (l : List Int) : Prop := w.ownsRow base 3 1 v l.length (l.map (Value.int .i64)) ∧ ∀ x ∈ l, InR x

theorem IRow.nil (w : World) (base : Nat) : IRow w base (.slice none 0 0) [] := ⟨World.ownsRow_nil w base 3 1, fun x hx => by cases hx⟩
theorem IRow.lt {w : World} {base : Nat} {v : Value} {l : List Int} (h : IRow w base v l) : ∀ k, v.ownBlock = some k → base ≤ k ∧ k < w.heap.size := h.1.lt
theorem IRow.keep {w w' : World} {base : Nat} {v : Value} {l : List Int} (h : IRow w base v l) (hb : Below w.heap.size w w') : IRow w' base v l := by
  refine ⟨⟨h.1.1, ?_⟩, h.2⟩
  rcases h.1.2 with h0 | ⟨g, cap, cur, h1, h2, h3, h4⟩
  · exact Or.inl h0
  · have hg : g < w.heap.size := (Array.getElem?_eq_some_iff.1 h3).1
    exact Or.inr ⟨g, cap, cur, h1, h2, (hb.block g hg).trans h3, h4⟩
theorem IRow.open {w : World} {base : Nat} {v : Value} {l : List Int} (h : IRow w base v l) : (v = .slice none 0 0 ∧ l = []) ∨ ∃ g cap, v = .slice (some ⟨g, 0, none⟩) l.length cap ∧ base ≤ g ∧ g < w.heap.size ∧ l.length ≤ cap ∧ cap ≤ maxLen ∧ (∀ i (hi : i < l.length), w.cell? ⟨g, i, none⟩ = some (.int .i64 l[i])) ∧ ∃ cur t, w.heap[g]? = some (.cells cur t) := by
  rcases h.1.2 with ⟨h0, h1⟩ | ⟨g, cap, cur, h1, h2, h3, h4, h5, h6⟩
  · exact Or.inl ⟨h0, List.eq_nil_of_length_eq_zero h1⟩
  · refine Or.inr ⟨g, cap, h1, h2, (Array.getElem?_eq_some_iff.1 h3).1, h4, h5, fun i hi => ?_, cur, _, h3⟩
    have ho := h.1
    rw [h1] at ho
    have := ho.cellAt i (by omega)
    rw [this]
    simp [hi]
theorem IRow.sp {w : World} {base : Nat} {v : Value} {l : List Int} (h : IRow w base v l) : intsSp.rep w (fun b => base ≤ b ∧ b < w.heap.size) [v] l := by
  rcases h.open with ⟨rfl, rfl⟩ | ⟨g, cap, rfl, h2, h3, h4, h5, h6, cur, t, h7⟩
  · exact ⟨none, 0, fun _ => [], fun _ _ => False, rfl, Nat.le_refl _, Nat.zero_le _, fun _ => rfl, fun h0 => absurd h0 (Nat.not_lt_zero _), fun i hi => absurd hi (Nat.not_lt_zero _), fun i j hi => absurd hi (Nat.not_lt_zero _), fun i hi => absurd hi (Nat.not_lt_zero _)⟩
  · refine ⟨some ⟨g, 0, none⟩, cap, fun i => [.int .i64 (l.getD i 0)], fun _ _ => False, rfl, h4, h5, (fun h => by cases h), fun h0 => ⟨g, 0, cur, t, rfl, ⟨h2, h3⟩, h7, fun _ _ h => h, fun i hi q u hq => ?_⟩, fun i hi b h => h.elim, fun i j hi hj hne b h => h.elim, fun i hi => ⟨by simp [List.getD, hi], h.2 _ (List.getElem_mem hi)⟩⟩
    match q, hq with
    | 0, hq =>
      simp at hq; subst hq
      have := h6 i hi
      simpa [Sh.int, List.getD, hi] using this
    | _ + 1, hq => simp at hq

theorem info_int : (Tryz.prog.info? 3).map (fun i => (i.zero, i.size, i.bytes)) = some (some (.int .i64 0), 1, 8) := by kernel_rfl
theorem int_info : ∃ ti, Tryz.prog.info? 3 = some ti ∧ ti.zero = some (.int .i64 0) ∧ ti.size = 1 ∧ ti.bytes = 8 := by
  obtain ⟨i, hi, hzz⟩ := Option.map_eq_some_iff.1 info_int
  simp only [Prod.mk.injEq] at hzz
  exact ⟨i, hi, hzz⟩

theorem IRow.more {w : World} {base : Nat} {v : Value} {xs ys : List Int} (h : w.ownsRow base 3 1 v (xs.length + ys.length) (xs.map (Value.int .i64) ++ ys.map (Value.int .i64))) (hx : ∀ x ∈ xs, InR x) (hy : ∀ x ∈ ys, InR x) : IRow w base v (xs ++ ys) := by
  refine ⟨by rw [List.length_append, List.map_append]; exact h, fun x hm => ?_⟩
  rcases List.mem_append.1 hm with q | q
  · exact hx x q
  · exact hy x q

end Go.Proofs.YtjofmoebijdccaaGreat.ints

namespace Go.Proofs.YtjofmoebijdccaaGreat.rose
open Go Go.RowKit
set_option linter.unusedVariables false

theorem own_set {w : World} {base : Nat} {t : TypeId} {k g n c j : Nat} {xs : List Value} {u : Value} (h : w.ownsRow base t k (.slice (some ⟨g, 0, none⟩) n c) n xs) (hj : j < n * k) : (w.setCell ⟨g, j, none⟩ u).ownsRow base t k (.slice (some ⟨g, 0, none⟩) n c) n (xs.set j u) := by
  obtain ⟨hl, hv⟩ := h
  refine ⟨by simpa using hl, Or.inr ?_⟩
  rcases hv with ⟨h, _⟩ | ⟨g', c', cur, h1, h2, h3, h4, h5, h6, h7⟩
  · cases h
  · cases h1
    refine ⟨g, c, cur.setIfInBounds j u, rfl, h2, by simp [World.setCell, Array.getElem?_modify, h3], h4, h5, by simpa using h6, ?_⟩
    rw [← h7]
    simp [List.take_set]
theorem own_same {w w' : World} {base : Nat} {t : TypeId} {k n : Nat} {v : Value} {xs : List Value} (h : w.ownsRow base t k v n xs) (hb : ∀ q, v.ownBlock = some q → w'.heap[q]? = w.heap[q]?) : w'.ownsRow base t k v n xs := by
  refine ⟨h.1, ?_⟩
  rcases h.2 with h0 | ⟨g, cap, cur, h1, h2, h3, h4⟩
  · exact Or.inl h0
  · exact Or.inr ⟨g, cap, cur, h1, h2, (hb g (by rw [h1]; rfl)).trans h3, h4⟩
theorem own_form {w : World} {base : Nat} {t : TypeId} {k n : Nat} {v : Value} {xs : List Value} (h : w.ownsRow base t k v n xs) : ∃ a c, v = .slice a n c := by
  rcases h.2 with ⟨rfl, h0⟩ | ⟨_, _, _, rfl, _⟩
  · exact ⟨_, _, by rw [h0]⟩
  · exact ⟨_, _, rfl⟩
theorem new_cell (w : World) (t : TypeId) (u : Value) : ∀ j x, [u][j]? = some x → (w.alloc (.cells #[u] t)).cell? ((⟨w.heap.size, 0, none⟩ : Addr).add j) = some x := by
  intro j x hj
  match j, hj with
  | 0, hj =>
    simp at hj; subst hj
    rw [add_plain]
    simp
  | _ + 1, hj => simp at hj
theorem own_base {w : World} {base base' : Nat} {t : TypeId} {k n : Nat} {v : Value} {xs : List Value} (h : w.ownsRow base t k v n xs) (hb : base' ≤ base) : w.ownsRow base' t k v n xs := by
  refine ⟨h.1, ?_⟩
  rcases h.2 with h0 | ⟨g, cap, cur, h1, h2, h3, h4⟩
  · exact Or.inl h0
  · exact Or.inr ⟨g, cap, cur, h1, by omega, h3, h4⟩
theorem below_block {B : Nat} {w w' : World} (h : Below B w w') {b : Nat} (hb : b < B) : w'.heap[b]? = w.heap[b]? := h.block b hb

end Go.Proofs.YtjofmoebijdccaaGreat.rose
