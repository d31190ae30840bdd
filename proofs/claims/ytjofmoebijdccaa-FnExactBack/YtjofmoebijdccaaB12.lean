/-
  What a word of a heap stands for as a value (chapter 20): told in plain data; no program is named.
  A row of the call's own that grows by one element after the other, each of which lies in blocks of its own; an append as a step of a region that draws its order.
  What is turned while a call works in blocks of its own and in some that it was handed. No program is named.
  The model's l1In; nothing is turned.
  The model's words of a heap (chapter 17): what they answer; nothing is turned.
-/
import Derived.Maps.AppendAt
import Derived.Laws.AppendOwn
import Derived.Deep.RegionLaw
import Derived.Shelf.Abstract
import Derived.Deep.QuietTactic
import Derived.BigQuiet
import Derived.Test.YtjofmoebijdccaaChecked
import Derived.WalkKit
import Derived.WalkLawsBesides
import Derived.WalkSmall
import Derived.Test.YtjofmoebijdccaaB1
import Derived.Test.YtjofmoebijdccaaB2
import Derived.Test.YtjofmoebijdccaaB3
import Derived.Test.YtjofmoebijdccaaB4
import Derived.Test.YtjofmoebijdccaaB5
import Derived.Test.YtjofmoebijdccaaB6
import Derived.Test.YtjofmoebijdccaaB7
import Derived.Test.YtjofmoebijdccaaB8
import Derived.Test.YtjofmoebijdccaaB9
import Derived.Test.YtjofmoebijdccaaB10
import Derived.Test.YtjofmoebijdccaaB11
namespace Go.Proofs.Ytjofmoebijdccaa.back
open Go Go.RowKit Go.Proofs.Ytjofmoebijdccaa.rose Go.Proofs.Ytjofmoebijdccaa Go.Proofs.Ytjofmoebijdccaa.heap
set_option linter.unusedVariables false

abbrev VD := value.ValueD
abbrev PD := value.Pay

/-- A row of words, one behind the other, told by f, which says how many values are left. -/
def rowB (f : Nat → Int → Option (VD × Nat)) : Nat → List Int → Option (List VD × Nat)
  | r, [] => some ([], r)
  | r, x :: xs => match f r x with
    | none => none
    | some v => match rowB f v.2 xs with
      | none => none
      | some vs => some (v.1 :: vs.1, vs.2)
/-- A word, by what stands on top of it (g), at most d within each other, with r values left. -/
def backD (g : Int → Option (PD × List Int)) : Nat → Nat → Int → Option (VD × Nat)
  | 0, _, _ => none
  | d + 1, r, x => if r = 0 then none else match g x with
    | none => none
    | some p => match rowB (backD g d) (r - 1) p.2 with
      | none => none
      | some vs => some (.mk p.1 vs.1, vs.2)
/-- A con's name and how many kids it has, by its tag. -/
def conAt (ks : List data.DataD) (tag : Int) : Option data.Spot := (data.spots 0 0 ks).find? (data.tagged tag)
/-- What stands on top of a word, and the words of its kids. -/
def topB (ks : List data.DataD) (T : HeapD) (x : Int) : Option (PD × List Int) :=
  if x % 2 = 0 then
    if x / 2 ∈ (plT T).1 then
      if funF (T.1.getD (x / 2).toNat 0) then some ((3, 0, ⟨#[]⟩), [])
      else match conAt ks (tagF (T.1.getD (x / 2).toNat 0)) with
        | none => none
        | some s => if (s.c.2.length : Int) = manyF (T.1.getD (x / 2).toNat 0) then some ((2, 0, s.c.1), (T.1.drop ((x / 2).toNat + 1)).take s.c.2.length) else none
    else none
  else some ((1, x / 2, ⟨#[]⟩), [])
def zeroV : VD := .mk (0, 0, ⟨#[]⟩) []
def backF (ks : List data.DataD) (T : HeapD) (x : Int) : VD × Bool :=
  if heapB T = true then match backD (topB ks T) 200 4000 x with
    | some v => (v.1, true)
    | none => (zeroV, false)
  else (zeroV, false)

/-! ### Each way -/
theorem back_zero (g : Int → Option (PD × List Int)) (r : Nat) (x : Int) : backD g 0 r x = none := rfl
theorem back_full (g : Int → Option (PD × List Int)) (d : Nat) (x : Int) : backD g d 0 x = none := by cases d <;> simp [backD]
theorem back_none {g : Int → Option (PD × List Int)} {d r : Nat} {x : Int} (h : g x = none) : backD g d r x = none := by
  cases d with
  | zero => rfl
  | succ d => simp only [backD, h]; split <;> rfl
theorem back_leaf {g : Int → Option (PD × List Int)} {d r : Nat} {x : Int} {p : PD} (h : g x = some (p, [])) : backD g (d + 1) (r + 1) x = some (.mk p [], r) := by
  simp [backD, h, rowB]
theorem back_row {g : Int → Option (PD × List Int)} {d r : Nat} {x : Int} {p : PD} {xs : List Int} {vs : List VD} {q : Nat} (h : g x = some (p, xs)) (hr : rowB (backD g d) r xs = some (vs, q)) : backD g (d + 1) (r + 1) x = some (.mk p vs, q) := by
  simp [backD, h, hr]
theorem back_rowno {g : Int → Option (PD × List Int)} {d r : Nat} {x : Int} {p : PD} {xs : List Int} (h : g x = some (p, xs)) (hr : rowB (backD g d) r xs = none) : backD g (d + 1) (r + 1) x = none := by
  simp [backD, h, hr]

/-! ### How many are left -/
theorem row_left {f : Nat → Int → Option (VD × Nat)} (hf : ∀ r x v q, f r x = some (v, q) → q ≤ r) {xs : List Int} {r q : Nat} {vs : List VD} (h : rowB f r xs = some (vs, q)) : q ≤ r := by
  induction xs generalizing r vs with
  | nil => simp only [rowB, Option.some.injEq, Prod.mk.injEq] at h; omega
  | cons x xs ih =>
    simp only [rowB] at h
    split at h
    · cases h
    · rename_i v hv
      split at h
      · cases h
      · rename_i vs' hvs
        simp only [Option.some.injEq, Prod.mk.injEq] at h
        have h1 := hf r x v.1 v.2 hv
        have h2 := ih (vs := vs'.1) (r := v.2) (by rw [hvs, ← h.2])
        omega
theorem back_left {g : Int → Option (PD × List Int)} {d r : Nat} {x : Int} {v : VD} {q : Nat} (h : backD g d r x = some (v, q)) : q ≤ r := by
  induction d generalizing r x v q with
  | zero => cases h
  | succ d ih =>
    simp only [backD] at h
    split at h
    · cases h
    · split at h
      · cases h
      · split at h
        · cases h
        · rename_i vs hvs
          simp only [Option.some.injEq, Prod.mk.injEq] at h
          have := row_left (fun r x v q hh => ih (r := r) (x := x) (v := v) (q := q) hh) (vs := vs.1) (q := vs.2) hvs
          omega

/-! ### A row from the left -/
/-- Where a row stands: its first words are vs, and r values are left. -/
def Stand (f : Nat → Int → Option (VD × Nat)) (r0 : Nat) (xs : List Int) (i : Nat) (vs : List VD) (r : Nat) : Prop :=
  vs.length = i ∧ i ≤ xs.length ∧ rowB f r0 xs = (rowB f r (xs.drop i)).map fun t => (vs ++ t.1, t.2)
theorem Stand.start (f : Nat → Int → Option (VD × Nat)) (r0 : Nat) (xs : List Int) : Stand f r0 xs 0 [] r0 := by
  refine ⟨rfl, Nat.zero_le _, ?_⟩
  rw [List.drop_zero]
  cases rowB f r0 xs <;> rfl
theorem Stand.step {f : Nat → Int → Option (VD × Nat)} {r0 : Nat} {xs : List Int} {i : Nat} {vs : List VD} {r q : Nat} {v : VD} (h : Stand f r0 xs i vs r) (hi : i < xs.length) (hv : f r xs[i] = some (v, q)) : Stand f r0 xs (i + 1) (vs ++ [v]) q := by
  obtain ⟨h1, h2, h3⟩ := h
  refine ⟨by simp [h1], hi, ?_⟩
  rw [h3, List.drop_eq_getElem_cons hi]
  simp only [rowB, hv]
  cases rowB f q (xs.drop (i + 1)) <;> simp
theorem Stand.fail {f : Nat → Int → Option (VD × Nat)} {r0 : Nat} {xs : List Int} {i : Nat} {vs : List VD} {r : Nat} (h : Stand f r0 xs i vs r) (hi : i < xs.length) (hv : f r xs[i] = none) : rowB f r0 xs = none := by
  obtain ⟨h1, h2, h3⟩ := h
  rw [h3, List.drop_eq_getElem_cons hi]
  simp only [rowB, hv, Option.map_none]
theorem Stand.done {f : Nat → Int → Option (VD × Nat)} {r0 : Nat} {xs : List Int} {vs : List VD} {r : Nat} (h : Stand f r0 xs xs.length vs r) : rowB f r0 xs = some (vs, r) := by
  obtain ⟨h1, h2, h3⟩ := h
  rw [h3, List.drop_length]
  simp [rowB]
theorem stand_left {g : Int → Option (PD × List Int)} {d r0 i r : Nat} {xs : List Int} {vs : List VD} (h : Stand (backD g d) r0 xs i vs r) {v : VD} {q : Nat} (hi : i < xs.length) (hv : backD g d r xs[i] = some (v, q)) : q ≤ r := back_left hv

/-! ### What stands on top, each way -/
section
variable {ks : List data.DataD} {T : HeapD} {x : Int}
theorem top_int (h : ¬ x % 2 = 0) : topB ks T x = some ((1, x / 2, ⟨#[]⟩), []) := by unfold topB; rw [if_neg h]
theorem top_nowhere (h : x % 2 = 0) (h2 : ¬ x / 2 ∈ (plT T).1) : topB ks T x = none := by unfold topB; rw [if_pos h, if_neg h2]
theorem top_fun (h : x % 2 = 0) (h2 : x / 2 ∈ (plT T).1) (h3 : funF (T.1.getD (x / 2).toNat 0) = true) : topB ks T x = some ((3, 0, ⟨#[]⟩), []) := by unfold topB; rw [if_pos h, if_pos h2, if_pos h3]
theorem top_nocon (h : x % 2 = 0) (h2 : x / 2 ∈ (plT T).1) (h3 : funF (T.1.getD (x / 2).toNat 0) = false) (h4 : conAt ks (tagF (T.1.getD (x / 2).toNat 0)) = none) : topB ks T x = none := by
  unfold topB; rw [if_pos h, if_pos h2, h3, h4]; simp
theorem top_other {s : data.Spot} (h : x % 2 = 0) (h2 : x / 2 ∈ (plT T).1) (h3 : funF (T.1.getD (x / 2).toNat 0) = false) (h4 : conAt ks (tagF (T.1.getD (x / 2).toNat 0)) = some s) (h5 : ¬ (s.c.2.length : Int) = manyF (T.1.getD (x / 2).toNat 0)) : topB ks T x = none := by
  unfold topB; rw [if_pos h, if_pos h2, h3, h4]; simp only [Bool.false_eq_true, if_false, h5]
theorem top_con {s : data.Spot} (h : x % 2 = 0) (h2 : x / 2 ∈ (plT T).1) (h3 : funF (T.1.getD (x / 2).toNat 0) = false) (h4 : conAt ks (tagF (T.1.getD (x / 2).toNat 0)) = some s) (h5 : (s.c.2.length : Int) = manyF (T.1.getD (x / 2).toNat 0)) :
    topB ks T x = some ((2, 0, s.c.1), (T.1.drop ((x / 2).toNat + 1)).take s.c.2.length) := by
  unfold topB; rw [if_pos h, if_pos h2, h3, h4]; simp only [Bool.false_eq_true, if_false, if_true, h5]
end

/-! ### A con by its tag -/
theorem spotsC_mem {t i j : Nat} {xs : List con.ConD} {s : data.Spot} (h : s ∈ data.spotsC t i j xs) : ∃ q, ∃ hq : q < xs.length, s = ⟨t + q, i, j + q, xs[q]⟩ := by
  induction xs generalizing t j with
  | nil => simp [data.spotsC] at h
  | cons x xs ih =>
    simp only [data.spotsC, List.mem_cons] at h
    rcases h with rfl | h
    · exact ⟨0, by simp, rfl⟩
    · obtain ⟨q, hq, rfl⟩ := ih h
      exact ⟨q + 1, by simpa using hq, by simp; omega⟩
theorem spots_mem {t i : Nat} {xs : List data.DataD} {s : data.Spot} (h : s ∈ data.spots t i xs) : ∃ p q, ∃ hp : p < xs.length, ∃ hq : q < xs[p].2.2.length, s.i = i + p ∧ s.j = q ∧ s.c = xs[p].2.2[q] := by
  induction xs generalizing t i with
  | nil => simp [data.spots] at h
  | cons x xs ih =>
    simp only [data.spots, List.mem_append] at h
    rcases h with h | h
    · obtain ⟨q, hq, rfl⟩ := spotsC_mem h
      exact ⟨0, q, by simp, by simpa using hq, by simp, by simp, rfl⟩
    · obtain ⟨p, q, hp, hq, h1, h2, h3⟩ := ih h
      exact ⟨p + 1, q, by simpa using hp, by simpa using hq, by omega, h2, by simpa using h3⟩
theorem con_spot {ks : List data.DataD} {tag : Int} {s : data.Spot} (h : conAt ks tag = some s) : data.tagB ks tag = ((s.tag : Int), (s.i : Int), (s.j : Int)) ∧ ∃ hi : s.i < ks.length, ∃ hj : s.j < ks[s.i].2.2.length, ks[s.i].2.2[s.j] = s.c := by
  refine ⟨by unfold data.tagB; unfold conAt at h; rw [h]; rfl, ?_⟩
  obtain ⟨p, q, hp, hq, h1, h2, h3⟩ := spots_mem (List.mem_of_find?_eq_some h)
  rw [Nat.zero_add] at h1
  subst h1 h2
  exact ⟨hp, hq, h3.symm⟩
theorem con_nowhere {ks : List data.DataD} {tag : Int} (h : conAt ks tag = none) : data.tagB ks tag = (-1, -1, -1) := by unfold data.tagB; unfold conAt at h; rw [h]; rfl
/-- The con with a tag is the one that so many are ahead of. -/
theorem spotsC_get {t i j q : Nat} {xs : List con.ConD} (h : q < (data.spotsC t i j xs).length) : (data.spotsC t i j xs)[q].tag = t + q := by
  induction xs generalizing t j q with
  | nil => simp [data.spotsC] at h
  | cons x xs ih =>
    cases q with
    | zero => simp [data.spotsC]
    | succ q => simp only [data.spotsC, List.getElem_cons_succ]; rw [ih]; omega
theorem spots_get {t i q : Nat} {xs : List data.DataD} (h : q < (data.spots t i xs).length) : (data.spots t i xs)[q].tag = t + q := by
  induction xs generalizing t i q with
  | nil => simp [data.spots] at h
  | cons x xs ih =>
    simp only [data.spots] at h ⊢
    rcases Nat.lt_or_ge q (data.spotsC t i 0 x.2.2).length with hq | hq
    · rw [List.getElem_append_left hq, spotsC_get]
    · rw [List.getElem_append_right hq, ih]
      rw [data.spotsC_length] at hq ⊢
      omega
theorem con_get {ks : List data.DataD} {n : Nat} (h : n < (data.spots 0 0 ks).length) : conAt ks (n : Int) = some (data.spots 0 0 ks)[n] := by
  unfold conAt
  have hp : (data.spots 0 0 ks).take n ++ [(data.spots 0 0 ks)[n]] <+: data.spots 0 0 ks := by
    rw [← List.take_succ_eq_append_getElem h]; exact List.take_prefix _ _
  refine data.find_pre hp (fun y hy => ?_) (by unfold data.tagged; rw [spots_get h]; simp)
  obtain ⟨q, hq, rfl⟩ := List.getElem_of_mem hy
  rw [List.length_take] at hq
  unfold data.tagged
  rw [List.getElem_take, spots_get]
  simp
  omega
theorem con_out {ks : List data.DataD} {tag : Int} (h : tag < 0 ∨ ((data.spots 0 0 ks).length : Int) ≤ tag) : conAt ks tag = none := by
  unfold conAt
  refine data.find_no fun y hy => ?_
  obtain ⟨q, hq, rfl⟩ := List.getElem_of_mem hy
  unfold data.tagged
  rw [spots_get]
  simp
  omega

end Go.Proofs.Ytjofmoebijdccaa.back

namespace Go.Proofs.Ytjofmoebijdccaa.rose
open Go Go.RowKit Go.Deep Go.ChangeShapes Go.WideShapes
set_option linter.unusedVariables false

/-- An append to a row of the call's own, as one step of a region that draws its order. -/
theorem step_append_own {P : Program} {ops : Array Oper} {o : Oper} {a : Act} {w : World} {K : Act → World → Prop} {Q : Exit → Act → World → Prop} {E : Prop}
    (hg : o.guard = none) (s x : Operand) (t : TypeId) (hop : o.op = Op.call { callee := Callee.builtin Builtin.append, args := #[s, x], argTypes := #[t, t] })
    (base : Nat) (e : TypeId) (i : TypeInfo) (z : Value) (size bytes : Nat) (h1 : P.underlying t = some (.slice e)) (h2 : P.info? e = some i) (h3 : i.zero = some z) (h4 : i.size = size) (h5 : i.bytes = bytes) (h6 : z.cells.size = size) (h7 : 0 < size)
    (v : Value) (n : Nat) (xs : List Value) (hs : a.eval s = v) (hown : w.ownsRow base e size v n xs)
    (ad : Addr) (m c : Nat) (news : List Value) (hx : a.eval x = .slice (some ad) m c) (hn : news.length = m * size) (hc : ∀ j u, news[j]? = some u → w.cell? (ad.add j) = some u) (h1c : ∀ u ∈ news, u.oneCell' = true)
    (b1 : n + m ≤ maxLen) (b2 : (n + m) * bytes ≤ 140737488355328) (hbase : base ≤ w.heap.size)
    (hK : ∀ a' l' c' w', w'.ownsRow base e size (.slice a' l' c') (n + m) (xs ++ news) → w.grownBy w' v.ownBlock → ((Value.slice a' l' c').ownBlock = v.ownBlock ∨ (Value.slice a' l' c').ownBlock = some w.heap.size) → K (a.put o.dst (.slice a' l' c')) w') :
    if Region.wanted o (yielded ops a.tmps) = true then Oper.wp P o a w K Q else E := by
  have hw : Region.wanted o (yielded ops a.tmps) = true := by simp [Region.wanted, hg]
  rw [if_pos hw]
  obtain ⟨v', w', hrun, r1, r2, -, r3⟩ := run_append_own_at (P := P) w base t o.type e i z size bytes h1 h2 h3 h4 h5 h6 h7 v n xs hown ad m c news hn hc h1c b1 b2 hbase
  obtain ⟨a', l', c', rfl⟩ : ∃ a' l' c', v' = .slice a' l' c' := by
    rcases r1.2 with ⟨rfl, _⟩ | ⟨_, _, _, rfl, _⟩
    · exact ⟨_, _, _, rfl⟩
    · exact ⟨_, _, _, rfl⟩
  unfold Oper.wp
  simp [execOp, hop, resolve, invoke, builtin, hs, hx, hrun, Result.andThen]
  exact hK a' l' c' w' r1 r2 r3

/-- A call of a Go function by its contract, as one step of a region that draws its order. -/
theorem step_call {P : Program} {ops : Array Oper} {o : Oper} {a : Act} {w : World} {K : Act → World → Prop} {Q : Exit → Act → World → Prop} {E : Prop}
    (hg : o.guard = none) (f : FuncId) (hent : Enters P f) (xs : Array Operand) (ts : Array TypeId) (hop : o.op = Op.call { callee := Callee.value (Operand.func f), args := xs, argTypes := ts }) (args : Array Value)
    (R : Ending → World → Prop) (h : Calls P f args w R) (ha : xs.map a.eval = args) (hK : ∀ e w', R e w' → ∃ v, e = .returned v ∧ K (a.put o.dst v) w') :
    if Region.wanted o (yielded ops a.tmps) = true then Oper.wp P o a w K Q else E := by
  have hw : Region.wanted o (yielded ops a.tmps) = true := by simp [Region.wanted, hg]
  rw [if_pos hw]
  have hr : (execOp a.eval o).run P w = .ok (.enter f args) w := by
    subst ha
    obtain ⟨dst, op, ty, pos, after, guard⟩ := o
    have hop' : op = Op.call { callee := Callee.value (Operand.func f), args := xs, argTypes := ts } := hop
    subst hop'
    have hx : execOp a.eval { dst, op := .call { callee := .value (.func f), args := xs, argTypes := ts }, type := ty, pos, after, guard } = callFunc f (xs.map a.eval) := by
      show callFunc f (#[] ++ xs.map a.eval ++ #[]) = _
      simp
    rw [hx]
    exact hent _ _
  unfold Oper.wp
  rw [hr, Oper.upon_enter]
  refine h.mono fun e w' hR => ?_
  obtain ⟨v, rfl, hk⟩ := hK e w' hR
  exact hk

/-- The cells of a new block. -/
theorem cells_new (w : World) (cs : List Value) (t : TypeId) (arr : Array Value) (ha : arr = cs.toArray) : ∀ j u, cs[j]? = some u → (w.alloc (.cells arr t)).cell? ((⟨w.heap.size, 0, none⟩ : Addr).add j) = some u := by
  subst ha
  intro j u hj
  have hh : (w.alloc (.cells cs.toArray t)).heap[w.heap.size]? = some (.cells cs.toArray t) := alloc_top w (.cells cs.toArray t)
  rw [add_plain, Nat.zero_add]
  simp only [World.cell?, hh]
  simpa using hj

/-- WHAT HAS GROWN: element i's cells, and the blocks in which the rest of it lies. -/
def Grown {α : Type} (A : Sh α) (t : TypeId) (w : World) (base : Nat) (v : Value) (xs : List α) : Prop :=
  ∃ (css : Nat → List Value) (F : Nat → Nat → Prop), w.ownsRow base t A.k v xs.length (flat css xs.length) ∧ (∀ i (h : i < xs.length), A.rep w (F i) (css i) xs[i]) ∧
    (∀ i, i < xs.length → ∀ b, F i b → base ≤ b ∧ b < w.heap.size ∧ v.ownBlock ≠ some b) ∧ ∀ i j, i < xs.length → j < xs.length → i ≠ j → ∀ b, F i b → ¬ F j b

theorem Grown.nil {α : Type} (A : Sh α) (t : TypeId) (w : World) (base : Nat) : Grown A t w base (.slice none 0 0) ([] : List α) :=
  ⟨fun _ => [], fun _ _ => False, World.ownsRow_nil w base t A.k, fun i h => absurd h (Nat.not_lt_zero _), fun i h => absurd h (Nat.not_lt_zero _), fun i j h => absurd h (Nat.not_lt_zero _)⟩

theorem Grown.on {α : Type} {A : Sh α} {t : TypeId} {w w' : World} {base : Nat} {v : Value} {xs : List α} (h : Grown A t w base v xs) (hs : w.heap.size ≤ w'.heap.size) (hb : ∀ b, base ≤ b → b < w.heap.size → w'.heap[b]? = w.heap[b]?) : Grown A t w' base v xs := by
  obtain ⟨css, F, ⟨hl, hv⟩, hr, hf, ha⟩ := h
  refine ⟨css, F, ⟨hl, ?_⟩, fun i hi => A.on (hr i hi) fun b hS => hb b (hf i hi b hS).1 (hf i hi b hS).2.1, fun i hi b hS => ⟨(hf i hi b hS).1, Nat.lt_of_lt_of_le (hf i hi b hS).2.1 hs, (hf i hi b hS).2.2⟩, ha⟩
  rcases hv with h0 | ⟨g, cap, cur, h1, h2, h3, h4⟩
  · exact Or.inl h0
  · exact Or.inr ⟨g, cap, cur, h1, h2, by rw [hb g h2 (Array.getElem?_eq_some_iff.1 h3).1]; exact h3, h4⟩

theorem Grown.row {α : Type} {A : Sh α} {t : TypeId} {w : World} {base : Nat} {v : Value} {xs : List α} (h : Grown A t w base v xs) : ∃ ys, w.ownsRow base t A.k v xs.length ys := by
  obtain ⟨css, F, h1, -⟩ := h
  exact ⟨_, h1⟩
theorem Grown.slice {α : Type} {A : Sh α} {t : TypeId} {w : World} {base : Nat} {v : Value} {xs : List α} (h : Grown A t w base v xs) : ∃ a c, v = .slice a xs.length c := by
  obtain ⟨css, F, ⟨hl, hv⟩, -⟩ := h
  rcases hv with ⟨rfl, h0⟩ | ⟨g, cap, cur, h1, -⟩
  · exact ⟨_, _, by rw [h0]⟩
  · exact ⟨_, _, h1⟩
theorem Grown.own {α : Type} {A : Sh α} {t : TypeId} {w : World} {base : Nat} {v : Value} {xs : List α} (h : Grown A t w base v xs) {g : Nat} (hg : v.ownBlock = some g) : base ≤ g ∧ g < w.heap.size := by
  obtain ⟨css, F, ⟨hl, hv⟩, -⟩ := h
  rcases hv with ⟨rfl, h0⟩ | ⟨q, cap, cur, rfl, h2, h3, -⟩
  · cases hg
  · simp only [Value.ownBlock, Option.some.injEq] at hg
    subst hg
    exact ⟨h2, (Array.getElem?_eq_some_iff.1 h3).1⟩

/-- One more: its rest lies in blocks that are new since w; the append made w' of w1. -/
theorem Grown.push {α : Type} {A : Sh α} {t : TypeId} {w w1 w' : World} {base : Nat} {v : Value} {xs : List α} {css : Nat → List Value} {F : Nat → Nat → Prop} {a' : Option Addr} {l' c' : Nat} {cs : List Value} {x : α} {lo hi : Nat}
    (hr : ∀ i (h : i < xs.length), A.rep w1 (F i) (css i) xs[i]) (hf : ∀ i, i < xs.length → ∀ b, F i b → base ≤ b ∧ b < lo ∧ v.ownBlock ≠ some b) (ha : ∀ i j, i < xs.length → j < xs.length → i ≠ j → ∀ b, F i b → ¬ F j b)
    (hv : ∀ g, v.ownBlock = some g → g < lo) (hx : A.rep w1 (fun b => lo ≤ b ∧ b < hi) cs x) (hb : base ≤ lo) (h1 : lo ≤ hi) (h2 : hi ≤ w1.heap.size)
    (ho : w'.ownsRow base t A.k (.slice a' l' c') (xs.length + 1) (flat css xs.length ++ cs)) (hg : w1.grownBy w' v.ownBlock) (hat : (Value.slice a' l' c').ownBlock = v.ownBlock ∨ (Value.slice a' l' c').ownBlock = some w1.heap.size) :
    Grown A t w' base (.slice a' l' c') (xs ++ [x]) := by
  have same : ∀ b, b < w1.heap.size → v.ownBlock ≠ some b → w'.heap[b]? = w1.heap[b]? := fun b hb hn => hg.block b hb fun e => hn e.symm
  refine ⟨fun i => if i < xs.length then css i else cs, fun i => if i < xs.length then F i else fun b => lo ≤ b ∧ b < hi, ?_, fun i hi => ?_, fun i hi b => ?_, fun i j hi hj hne b => ?_⟩
  · rw [List.length_append, List.length_singleton, flat_succ, if_neg (Nat.lt_irrefl _)]
    have : flat (fun i => if i < xs.length then css i else cs) xs.length = flat css xs.length := by
      unfold flat
      exact Go.Deep.flatMap_congr_range fun i hi => by simp [hi]
    rw [this]
    exact ho
  · rw [List.length_append, List.length_singleton] at hi
    by_cases hlt : i < xs.length
    · simp only [if_pos hlt]
      rw [List.getElem_append_left hlt]
      exact A.on (hr i hlt) fun b hS => same b (by have := (hf i hlt b hS).2.1; omega) (hf i hlt b hS).2.2
    · simp only [if_neg hlt]
      rw [List.getElem_append_right (by omega)]
      simp only [List.getElem_singleton]
      exact A.on hx fun b hS => same b (by omega) fun e => by have := hv b e; omega
  · rw [List.length_append, List.length_singleton] at hi
    by_cases hlt : i < xs.length
    · simp only [if_pos hlt]
      intro hS
      obtain ⟨q1, q2, q3⟩ := hf i hlt b hS
      refine ⟨q1, by have := hg.size; omega, fun e => ?_⟩
      rcases hat with h | h
      · exact q3 (h.symm.trans e)
      · rw [h] at e; simp only [Option.some.injEq] at e; omega
    · simp only [if_neg hlt]
      intro hS
      refine ⟨by omega, by have := hg.size; omega, fun e => ?_⟩
      rcases hat with h | h
      · have := hv b (h.symm.trans e); omega
      · rw [h] at e; simp only [Option.some.injEq] at e; omega
  · rw [List.length_append, List.length_singleton] at hi hj
    by_cases h1 : i < xs.length
    · by_cases h2 : j < xs.length
      · simp only [if_pos h1, if_pos h2]; exact ha i j h1 h2 hne b
      · simp only [if_pos h1, if_neg h2]
        intro q1 q2
        have := (hf i h1 b q1).2.1; omega
    · by_cases h2 : j < xs.length
      · simp only [if_neg h1, if_pos h2]
        intro q1 q2
        have := (hf j h2 b q2).2.1; omega
      · omega

/-- What has grown lies apart. -/
theorem Grown.sslice {α : Type} {A : Sh α} {t : TypeId} {w : World} {base : Nat} {v : Value} {xs : List α} (h : Grown A t w base v xs) (hk : 0 < A.k) : A.sslice.rep w (fun b => base ≤ b ∧ b < w.heap.size) [v] xs := by
  obtain ⟨css, F, ⟨hl, hv⟩, hr, hf, ha⟩ := h
  rcases hv with ⟨rfl, h0⟩ | ⟨g, cap, cur, rfl, h2, h3, h4, h5, h6, h7⟩
  · have : xs = [] := List.eq_nil_of_length_eq_zero h0
    subst this
    exact ⟨none, 0, fun _ => [], fun _ _ => False, rfl, Nat.le_refl _, Nat.zero_le _, fun _ => rfl, fun h => absurd h (Nat.lt_irrefl _), fun i hi => absurd hi (Nat.not_lt_zero _), fun i j hi => absurd hi (Nat.not_lt_zero _), fun i hi => absurd hi (Nat.not_lt_zero _)⟩
  · have hg : g < w.heap.size := (Array.getElem?_eq_some_iff.1 h3).1
    refine ⟨some ⟨g, 0, none⟩, cap, css, F, rfl, h4, h5, (fun h => by cases h), fun _ => ⟨g, 0, cur, t, rfl, ⟨h2, hg⟩, h3, fun i hi q => (hf i hi g q).2.2 rfl, fun i hi j u hj => ?_⟩, fun i hi b hS => ⟨(hf i hi b hS).1, (hf i hi b hS).2.1⟩, ha, hr⟩
    have hjk : j < A.k := by
      rcases Nat.lt_or_ge j A.k with h' | h'
      · exact h'
      · rw [List.getElem?_eq_none (by rw [A.len (hr i hi)]; exact h')] at hj; cases hj
    have hf' := flat_get (css := css) (n := xs.length) (k := A.k) (fun i hi => A.len (hr i hi)) hi hjk
    rw [hj, ← h7, List.getElem?_take] at hf'
    have hlt : i * A.k + j < xs.length * A.k := by
      have := Nat.mul_le_mul_right A.k (show i + 1 ≤ xs.length by omega)
      rw [Nat.succ_mul] at this; omega
    rw [if_pos hlt] at hf'
    simp only [World.cell?, h3, Nat.zero_add]
    rw [Array.getElem?_toList] at hf'
    exact hf'

end Go.Proofs.Ytjofmoebijdccaa.rose

namespace Go.Proofs.Ytjofmoebijdccaa.rose
open Go Go.RowKit
set_option linter.unusedVariables false

section
variable {S : Nat → Prop} {w w1 w2 : World}
theorem Only.alloc (h : Only S w w1) (X : Obj) : Only S w (w1.alloc X) :=
  h.trans (Only.ofBelow ((Below.refl _ _).alloc (Nat.le_refl _) X))
theorem Only.bel (h : Only S w w1) (hb : Below w1.heap.size w1 w2) : Only S w w2 := h.trans (Only.ofBelow hb)
theorem Only.set (h : Only S w w1) (g j : Nat) (u : Value) (hg : g < w.heap.size → S g) : Only S w (w1.setCell ⟨g, j, none⟩ u) :=
  ⟨h.os, h.tape, h.output, Nat.le_trans h.size (Nat.le_of_eq (by simp [World.setCell])), fun k hk hn => (Below.heap_setCell _ _ _ _ (by show k ≠ g; intro e; subst e; exact hn (hg hk))).trans (h.block k hk hn)⟩
theorem Only.grown {row : Option Nat} (h : Only S w w1) (hg : w1.grownBy w2 row) (hr : ∀ g, row = some g → g < w.heap.size → S g) : Only S w w2 :=
  ⟨hg.os.trans h.os, hg.tape.trans h.tape, hg.output.trans h.output, Nat.le_trans h.size hg.size, fun k hk hn => (hg.block k (Nat.lt_of_lt_of_le hk h.size) (fun e => hn (hr k e.symm hk))).trans (h.block k hk hn)⟩
theorem Only.drewN (h : Only S w w1) (n : Nat) : Only S w (w1.drewN n) := ⟨h.os, h.tape, h.output, h.size, h.block⟩
end

end Go.Proofs.Ytjofmoebijdccaa.rose

namespace Go.Proofs.Ytjofmoebijdccaa.fun
open Go.RowKit Go.Proofs.Ytjofmoebijdccaa
set_option linter.unusedVariables false
set_option linter.unusedSimpArgs false

theorem ret_boolF {a b : Bool} (h : a = b) : Ending.returned (.bool a) = Ending.returned (.bool b) := by rw [h]

set_option maxHeartbeats 1000000 in
theorem in_is {n lo hi : Int} {b : Bool} {w : World} (h : inB n lo hi = b) :
    Calls Try.prog 37 #[.int .i64 n, .int .i64 lo, .int .i64 hi] w fun e w' => e = .returned (.bool b) ∧ w' = w := by
  by_cases h1 : lo ≤ n
  · go_enter Try.func37, Try.ntmps37
    go_wp2
    go_ret
    exact ⟨ret_boolF (by rw [← h]; simp [inB, h1]), rfl⟩
  · have h2 : decide (lo ≤ n) = false := decide_eq_false h1
    go_enter Try.func37, Try.ntmps37
    go_wp2
    go_ret
    exact ⟨ret_boolF (by rw [← h]; simp only [inB, h2, Bool.false_and]), rfl⟩

end Go.Proofs.Ytjofmoebijdccaa.fun

namespace Go.Proofs.Ytjofmoebijdccaa.words
open Go Go.RowKit Go.Proofs.Ytjofmoebijdccaa Go.Proofs.Ytjofmoebijdccaa.fun
set_option linter.unusedVariables false
set_option linter.unusedSimpArgs false

def intWordF (n : Int) : Int := if inB n (-1073741824) 1073741823 then 2 * n + 1 else 1
def refWordF (p : Int) : Int := if inB p 0 6000 then 2 * p else 0
def isRefF (x : Int) : Bool := decide (x % 2 = 0)
def halfF (x : Int) : Int := x / 2

theorem ret_i {a b : Int} (h : a = b) : Ending.returned (.int .i64 a) = Ending.returned (.int .i64 b) := by rw [h]
theorem ret_b {a b : Bool} (h : a = b) : Ending.returned (.bool a) = Ending.returned (.bool b) := by rw [h]
theorem and_one (n : Int) : bits .and .i64 n 1 = n % 2 := by
  have h1 : (BitVec.ofInt 64 1).toNat = 2 ^ 1 - 1 := by decide
  have key : (BitVec.ofInt 64 n &&& BitVec.ofInt 64 1).toNat = (n % ((2 ^ 64 : Nat) : Int)).toNat % 2 ^ 1 := by
    rw [BitVec.toNat_and, BitVec.toNat_ofInt, h1, Nat.and_two_pow_sub_one_eq_mod]
  have e : bits .and .i64 n 1 = IntKind.i64.wrap ((BitVec.ofInt 64 n &&& BitVec.ofInt 64 1).toNat : Nat) := rfl
  rw [e, key, IntKind.wrap_i64]
  omega
theorem and_63 (n : Int) : bits .and .i64 n 63 = n % 64 := by
  have h1 : (BitVec.ofInt 64 63).toNat = 2 ^ 6 - 1 := by decide
  have key : (BitVec.ofInt 64 n &&& BitVec.ofInt 64 63).toNat = (n % ((2 ^ 64 : Nat) : Int)).toNat % 2 ^ 6 := by
    rw [BitVec.toNat_and, BitVec.toNat_ofInt, h1, Nat.and_two_pow_sub_one_eq_mod]
  have e : bits .and .i64 n 63 = IntKind.i64.wrap ((BitVec.ofInt 64 n &&& BitVec.ofInt 64 63).toNat : Nat) := rfl
  rw [e, key, IntKind.wrap_i64]
  omega

set_option maxHeartbeats 1000000 in
theorem word_is {n : Int} {b : Bool} {w : World} (h : inB n (-1073741824) 1073741823 = b) :
    Calls Try.prog 60 #[.int .i64 n] w fun e w' => e = .returned (.bool b) ∧ w' = w := by
  go_enter Try.func60, Try.ntmps60
  go_wp2_with (go_at_call 37; refine (in_is h).mono ?_; rintro e w' ⟨rfl, hx⟩; subst w')
  go_ret
  exact ⟨rfl, rfl⟩

end Go.Proofs.Ytjofmoebijdccaa.words
