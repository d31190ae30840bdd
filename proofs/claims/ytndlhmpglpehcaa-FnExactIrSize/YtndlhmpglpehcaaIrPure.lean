/-
  How many are within a tree, list by list: the lists at work, what is known of lists that were met, and what each step makes of both.
-/
import Derived.Test.YtndlhmpglpehcaaIrSz
import Derived.Test.YtndlhmpglpehcaaOwnMore
import Derived.Test.YtndlhmpglpehcaaKeyMap2
namespace Go.Proofs.Ytndlhmpglpehcaa.ir
open Go Go.RowKit Go.Proofs.Ytndlhmpglpehcaa.rose Go.Proofs.Ytndlhmpglpehcaa
set_option linter.unusedVariables false
set_option linter.unusedSimpArgs false

theorem ir_sole : irSh.Sole := (Sh.Sole.pair Sh.int_sole Sh.int_sole).rose

mutual
/-- How many are within it, itself too. -/
def cnt : IrD → Nat
  | .mk _ ks => 1 + cnts ks
def cnts : List IrD → Nat
  | [] => 0
  | k :: ks => cnt k + cnts ks
end
theorem cnt_kids (T : IrD) : cnt T = 1 + cnts T.kids := by cases T; simp [cnt, Rose.kids]
theorem cnts_take {ks : List IrD} {i : Nat} (h : i < ks.length) : cnts (ks.take (i + 1)) = cnts (ks.take i) + cnt ks[i] := by
  induction ks generalizing i with
  | nil => simp at h
  | cons k ks ih =>
    cases i with
    | zero => simp [cnts]
    | succ i => simp [cnts, ih (by simpa using h)]; omega
theorem cnts_drop {ks : List IrD} {i : Nat} (h : i < ks.length) : cnts (ks.drop i) = cnt ks[i] + cnts (ks.drop (i + 1)) := by
  rw [List.drop_eq_getElem_cons h]; simp [cnts]
theorem cnts_drop_le (ks : List IrD) (i : Nat) : cnts (ks.drop i) ≤ cnts ks := by
  induction ks generalizing i with
  | nil => simp
  | cons k ks ih =>
    cases i with
    | zero => simp
    | succ i => simp [cnts]; have := ih i; omega
theorem cnts_take_le (ks : List IrD) (i : Nat) : cnts (ks.take i) ≤ cnts ks := by
  induction ks generalizing i with
  | nil => simp
  | cons k ks ih =>
    cases i with
    | zero => simp [cnts]
    | succ i => simp [cnts]; have := ih i; omega
theorem cnts_lt {ks : List IrD} {i : Nat} (h : i < ks.length) : cnts ks[i].kids < cnts ks := by
  have h1 := cnts_drop h
  have h2 := cnts_drop_le ks i
  have h3 := cnt_kids ks[i]
  omega
theorem cnt_le (T : IrD) : cnt T ≤ wt T + 1 := by
  induction T using ind with
  | h x ks ih =>
    obtain ⟨x0, x1⟩ := x
    have : cnts ks ≤ ks.length + wts ks := by
      clear x0 x1
      induction ks with
      | nil => simp [cnts]
      | cons k ks ih2 =>
        have h1 := ih k (by simp)
        have h2 := ih2 fun q hq => ih q (by simp [hq])
        simp [cnts, wts]
        omega
    simp [cnt, wt]
    omega

/-- A list, and where it lies. -/
abbrev AtD := Option Addr × Nat × List IrD
def AtD.v (x : AtD) : Value := .slice x.1 x.2.2.length x.2.1
/-- What it is kept by. -/
def AtD.key (x : AtD) : Option Addr × Int := if x.2.2.length = 0 then (none, 0) else (x.1, (x.2.2.length : Int))
/-- A list of which some are counted, with all that is within them. -/
abbrev FrD := AtD × Nat × Nat
def frCells (x : FrD) : List Value := [x.1.v, .int .i64 x.2.1, .int .i64 x.2.2]
def frSh : Sh FrD where
  k := 3
  rep := fun w S cs x => cs = frCells x ∧ irSh.slice.rep w S [x.1.v] x.1.2.2
  len := by rintro _ _ _ _ ⟨rfl, _⟩; rfl
  on := fun h hb => ⟨h.1, irSh.slice.on h.2 hb⟩
  mono := fun h hb => ⟨h.1, irSh.slice.mono h.2 hb⟩
  one := by
    rintro _ _ _ _ ⟨rfl, _⟩ v hv
    simp only [frCells, List.mem_cons, List.not_mem_nil, or_false] at hv
    rcases hv with rfl | rfl | rfl <;> rfl

/-- The list x is that of the kids of y's element i, as memory has it. -/
def KidsAt (W0 : World) (y : AtD) (i : Nat) (x : AtD) : Prop :=
  ∃ b o, y.1 = some ⟨b, o, none⟩ ∧ W0.cell? ⟨b, o + i * 3 + 2, none⟩ = some x.v ∧ ∃ h : i < y.2.2.length, x.2.2 = y.2.2[i].kids
theorem KidsAt.sole {W0 : World} {y : AtD} {i : Nat} {x x' : AtD} (h : KidsAt W0 y i x) (h' : KidsAt W0 y i x') : x = x' := by
  obtain ⟨b, o, e, hc, hl, hk⟩ := h
  obtain ⟨b', o', e', hc', hl', hk'⟩ := h'
  rw [e] at e'
  cases e'
  rw [hc] at hc'
  obtain ⟨a, c, ks⟩ := x
  obtain ⟨a', c', ks'⟩ := x'
  simp only [AtD.v, Option.some.injEq, Value.slice.injEq] at hc'
  dsimp only at hk hk'
  obtain ⟨rfl, -, rfl⟩ := hc'
  rw [hk, hk']
theorem KidsAt.lt {W0 : World} {y : AtD} {i : Nat} {x : AtD} (h : KidsAt W0 y i x) : i < y.2.2.length := by
  obtain ⟨_, _, _, _, h, _⟩ := h
  exact h
theorem KidsAt.less {W0 : World} {y : AtD} {i : Nat} {x : AtD} (h : KidsAt W0 y i x) : cnts x.2.2 < cnts y.2.2 := by
  obtain ⟨_, _, _, _, h, e⟩ := h
  rw [e]
  exact cnts_lt h
theorem KidsAt.one {W0 : World} {y : AtD} {i : Nat} {x : AtD} (h : KidsAt W0 y i x) : ∃ h : i < y.2.2.length, cnt y.2.2[i] = 1 + cnts x.2.2 := by
  obtain ⟨_, _, _, _, h, e⟩ := h
  exact ⟨h, by rw [e]; exact cnt_kids _⟩

/-- The kids of an element. -/
theorem kids_at {W0 : World} {S : Nat → Prop} {y : AtD} (h : irSh.slice.rep W0 S [y.v] y.2.2) {i : Nat} (hi : i < y.2.2.length) :
    ∃ (b o : Nat) (c0 c1 : Value) (x : AtD), y.1 = some ⟨b, o, none⟩ ∧ S b ∧ W0.cell? ⟨b, o + i * 3, none⟩ = some c0 ∧ W0.cell? ⟨b, o + i * 3 + 1, none⟩ = some c1 ∧ W0.cell? ⟨b, o + i * 3 + 2, none⟩ = some x.v ∧ KidsAt W0 y i x ∧ irSh.slice.rep W0 S [x.v] x.2.2 := by
  obtain ⟨a, cap, css, e, h1, h2, hrow, hk⟩ := irs_open h
  simp only [AtD.v, Value.slice.injEq] at e
  obtain ⟨b, o, ea, hS, hc⟩ := hrow i hi
  obtain ⟨x0, x1, x2, a2, c2, hT, hcs, -, -, hr⟩ := ir_open (hk i hi)
  rw [hcs] at hc
  have e0 := hc 0 _ rfl
  have e1 := hc 1 _ rfl
  have e2 := hc 2 _ rfl
  refine ⟨b, o, _, _, (a2, c2, x2), by rw [e.1]; exact ea, hS, e0, e1, e2, ⟨b, o, by rw [e.1]; exact ea, e2, hi, ?_⟩, hr⟩
  rw [hT]; rfl

/-- What is known by one key is one. -/
theorem key_sole {W0 : World} {S S' : Nat → Prop} {x x' : AtD} (h : irSh.slice.rep W0 S [x.v] x.2.2) (h' : irSh.slice.rep W0 S' [x'.v] x'.2.2) (e : x.key = x'.key) : x.2.2 = x'.2.2 := by
  unfold AtD.key at e
  by_cases h0 : x.2.2.length = 0
  · by_cases h1 : x'.2.2.length = 0
    · rw [List.eq_nil_of_length_eq_zero h0, List.eq_nil_of_length_eq_zero h1]
    · rw [if_pos h0, if_neg h1] at e
      simp only [Prod.mk.injEq] at e
      omega
  · by_cases h1 : x'.2.2.length = 0
    · rw [if_neg h0, if_pos h1] at e
      simp only [Prod.mk.injEq] at e
      omega
    · rw [if_neg h0, if_neg h1] at e
      simp only [Prod.mk.injEq] at e
      obtain ⟨ea, el⟩ := e
      have el : x.2.2.length = x'.2.2.length := by omega
      obtain ⟨b, o, _, _, _, eb, -⟩ := kids_at h (i := 0) (by omega)
      unfold AtD.v at h h'
      rw [← ea, eb] at h'
      rw [eb] at h
      have := ir_sole.take h h' (by omega)
      rw [this, List.take_of_length_le (by omega)]

/-- Each list at work is the kids' of one in the list about it. -/
def Chain (W0 : World) (wh : AtD) : List FrD → Prop
  | [] => True
  | [x] => x.1 = wh
  | x :: y :: r => KidsAt W0 y.1 y.2.1 x.1 ∧ Chain W0 wh (y :: r)
theorem Chain.rest {W0 : World} {wh : AtD} {x : FrD} {r : List FrD} (h : Chain W0 wh (x :: r)) : Chain W0 wh r := by
  cases r with
  | nil => trivial
  | cons y r => exact h.2
theorem Chain.lt {W0 : World} {wh : AtD} : ∀ {r : List FrD} {x : FrD}, Chain W0 wh (x :: r) → ∀ y ∈ r, cnts x.1.2.2 < cnts y.1.2.2
  | [], _, _, y, hy => by cases hy
  | z :: r, x, h, y, hy => by
    have h1 := h.1.less
    rcases List.mem_cons.1 hy with rfl | hy
    · exact h1
    · exact Nat.lt_trans h1 (Chain.lt h.2 y hy)
theorem Chain.turn {W0 : World} {wh : AtD} {a : AtD} {p q : Nat × Nat} {r : List FrD} (h : Chain W0 wh ((a, p) :: r)) : Chain W0 wh ((a, q) :: r) := by
  cases r with
  | nil => exact h
  | cons y r => exact h

/-- What is still to be done. -/
def mu : List FrD → Nat
  | [] => 0
  | x :: r => 2 + 3 * cnts (x.1.2.2.drop (x.2.1 + 1)) + mu r
def msr (f : Bool) : List FrD → Nat
  | [] => 0
  | x :: r => if f then 2 + 3 * cnts (x.1.2.2.drop (x.2.1 + 1)) + mu r else 1 + 3 * cnts (x.1.2.2.drop x.2.1) + mu r
theorem mu_len (st : List FrD) : st.length ≤ mu st := by
  induction st with
  | nil => simp [mu]
  | cons x r ih => simp [mu]; omega
theorem msr_len (f : Bool) (st : List FrD) : st.length ≤ msr f st := by
  cases st with
  | nil => simp [msr]
  | cons x r =>
    have := mu_len r
    simp only [msr, List.length_cons]
    split <;> omega

theorem len_le (ks : List IrD) : ks.length ≤ cnts ks := by
  induction ks with
  | nil => simp
  | cons k ks ih => cases k; simp [cnts, cnt]; omega
theorem Chain.le {W0 : World} {wh : AtD} : ∀ {r : List FrD} {x : FrD}, Chain W0 wh (x :: r) → cnts x.1.2.2 ≤ cnts wh.2.2
  | [], x, h => by rw [show x.1 = wh from h]; exact Nat.le_refl _
  | y :: r, x, h => Nat.le_trans (Nat.le_of_lt h.1.less) (Chain.le h.2)
theorem msr_true (st : List FrD) : msr true st = mu st := by cases st <;> simp [msr, mu]
theorem msr_pop (f : Bool) (a : Option Addr) (c : Nat) (ks : List IrD) (s : Nat) (r : List FrD) : msr true r + 1 ≤ msr f (((a, c, ks), ks.length, s) :: r) := by
  rw [msr_true]
  simp only [msr]
  split <;> omega
theorem msr_count (f : Bool) {a : Option Addr} {c : Nat} {ks : List IrD} {i s s' : Nat} {r : List FrD} (h : i < ks.length) : msr false (((a, c, ks), i + 1, s') :: r) + 1 ≤ msr f (((a, c, ks), i, s) :: r) := by
  have h1 := cnts_drop h
  have h2 := cnt_kids ks[i]
  cases f <;> simp only [msr, Bool.false_eq_true, if_false, if_true] <;> omega
theorem msr_push {a b : Option Addr} {c d : Nat} {ks js : List IrD} {i s : Nat} {r : List FrD} (h : i < ks.length) (hj : js = ks[i].kids) : msr false (((b, d, js), 0, 0) :: ((a, c, ks), i, s) :: r) + 1 ≤ msr false (((a, c, ks), i, s) :: r) := by
  have h1 := cnts_drop h
  have h2 := cnt_kids ks[i]
  rw [← hj] at h2
  simp only [msr, mu, Bool.false_eq_true, if_false, List.drop_zero]
  omega

section
variable {P : Program} {kt : TypeId}

/-- WHAT HOLDS BETWEEN TWO STEPS: st are the lists at work, the innermost first, v the slice of them; m is what is known; f: the next one's kids are known. -/
structure ZInv (K : KeyKind P kt (Option Addr × Int)) (t : TypeId) (W0 : World) (mb base : Nat) (wh : AtD) (wr : World) (f : Bool) (m : List ((Option Addr × Int) × Value)) (st : List FrD) (v : Value) : Prop where
  size : base ≤ wr.heap.size
  low : ∀ b, b < base → b ≠ mb → wr.heap[b]? = W0.heap[b]?
  map : KMap K wr mb m
  keys : ∀ e ∈ m, ∃ x : AtD, e.1 = x.key ∧ irSh.slice.rep W0 (fun b => b < base ∧ b ≠ mb ∧ Plain W0 b) [x.v] x.2.2
  vals : ∀ q val, klook K q m = some val → (∃ x : AtD, x.key = q ∧ irSh.slice.rep W0 (fun b => b < base ∧ b ≠ mb ∧ Plain W0 b) [x.v] x.2.2 ∧ val = .int .i64 (cnts x.2.2 : Nat)) ∨ (∃ x ∈ st, x.1.key = q ∧ val = .int .i64 9223372036854775807)
  ok : ∀ x ∈ st, irSh.slice.rep W0 (fun b => b < base ∧ b ≠ mb ∧ Plain W0 b) [x.1.v] x.1.2.2 ∧ x.2.1 ≤ x.1.2.2.length ∧ x.2.2 = cnts (x.1.2.2.take x.2.1)
  chain : Chain W0 wh st
  row : rose.Own frSh t wr base (fun b => b < base ∧ b ≠ mb ∧ Plain W0 b) v st.reverse
  none_ : st = [] → klook K wh.key m = some (.int .i64 (cnts wh.2.2 : Nat))
  flag : f = true → ∀ x r, st = x :: r → ∃ y, KidsAt W0 x.1 x.2.1 y ∧ (klook K y.key m).isSome = true

variable {K : KeyKind P kt (Option Addr × Int)} {t : TypeId} {W0 wr : World} {mb base : Nat} {wh : AtD} {f : Bool} {m : List ((Option Addr × Int) × Value)} {st r : List FrD} {v : Value} {x : FrD}

theorem ZInv.on {w' : World} (h : ZInv K t W0 mb base wh wr f m st v) (hmb : mb < base) (hb : Below wr.heap.size wr w') : ZInv K t W0 mb base wh w' f m st v where
  size := Nat.le_trans h.size hb.size
  low := fun b h1 h2 => (hb.block b (Nat.lt_of_lt_of_le h1 h.size)).trans (h.low b h1 h2)
  map := h.map.on (hb.block mb (Nat.lt_of_lt_of_le hmb h.size))
  keys := h.keys
  vals := h.vals
  ok := h.ok
  chain := h.chain
  row := h.row.on fun b hh => by
    rcases hh with hh | hh
    · exact hb.block b (Nat.lt_of_lt_of_le hh.1 h.size)
    · exact hb.block b hh
  none_ := h.none_
  flag := h.flag

/-- A list that lies there may be asked for. -/
theorem key_plain {x : AtD} (hr : irSh.slice.rep W0 (fun b => b < base ∧ b ≠ mb ∧ Plain W0 b) [x.v] x.2.2) (low : ∀ b, b < base → b ≠ mb → wr.heap[b]? = W0.heap[b]?) : ∀ a, x.key.1 = some a → Plain wr a.block := by
  intro a ha
  unfold AtD.key at ha
  split at ha
  · cases ha
  · obtain ⟨b, o, _, _, _, eb, hS, -⟩ := kids_at hr (i := 0) (by omega)
    dsimp only at ha
    rw [eb] at ha
    cases ha
    exact hS.2.2.on (low b hS.1 hS.2.1)
theorem ZInv.okm (h : ZInv K t W0 mb base wh wr f m st v) (hK : ∀ w p, K.ok w p ↔ ∀ a, p.1 = some a → Plain w a.block) : ∀ e ∈ m, K.ok wr e.1 := fun e he => by
  obtain ⟨x, e1, hr⟩ := h.keys e he
  rw [hK, e1]
  exact key_plain hr h.low

/-- What the slice of the lists at work looks like. -/
theorem ZInv.top (h : ZInv K t W0 mb base wh wr f m (x :: r) v) : ∃ g cap, v = .slice (some ⟨g, 0, none⟩) (r.length + 1) cap ∧ base ≤ g ∧ g < wr.heap.size ∧ r.length + 1 ≤ cap ∧ cap ≤ maxLen ∧ (∃ cur, wr.heap[g]? = some (.cells cur t) ∧ cur.size = cap * 3) ∧
    wr.cell? ⟨g, r.length * 3, none⟩ = some x.1.v ∧ wr.cell? ⟨g, r.length * 3 + 1, none⟩ = some (.int .i64 x.2.1) ∧ wr.cell? ⟨g, r.length * 3 + 2, none⟩ = some (.int .i64 x.2.2) := by
  obtain ⟨css, hown, hr⟩ := h.row
  have hl : (x :: r).reverse.length = r.length + 1 := by simp
  rw [hl] at hown
  have hcl : ∀ i, i < r.length + 1 → (css i).length = 3 := fun i hi => frSh.len (hr i (by simpa using hi))
  have hrt := hr r.length (by simp)
  have hx : (x :: r).reverse[r.length]'(by simp) = x := by simp
  rw [hx] at hrt
  have hcs := hrt.1
  rcases hown.2 with ⟨_, h0⟩ | ⟨g, cap, cur, h1, h2, h3, h4, h5, h6, h7⟩
  · omega
  · subst h1
    have hg : g < wr.heap.size := (Array.getElem?_eq_some_iff.1 h3).1
    have e0 := own_cell hown hcl (i := r.length) (q := 0) (v := x.1.v) (by omega) (by rw [hcs]; rfl)
    have e1 := own_cell hown hcl (i := r.length) (q := 1) (v := .int .i64 x.2.1) (by omega) (by rw [hcs]; rfl)
    have e2 := own_cell hown hcl (i := r.length) (q := 2) (v := .int .i64 x.2.2) (by omega) (by rw [hcs]; rfl)
    exact ⟨g, cap, rfl, h2, hg, h4, h5, ⟨cur, h3, h6⟩, e0, e1, e2⟩
theorem ZInv.bot (h : ZInv K t W0 mb base wh wr f m [] v) : ∃ a c, v = .slice a 0 c := by
  obtain ⟨css, hown, -⟩ := h.row
  rcases hown.2 with ⟨h, _⟩ | ⟨g, c, cur, h, _⟩
  · exact ⟨_, _, h⟩
  · exact ⟨_, _, h⟩

/-- A cell of the call's own row is turned. -/
theorem row_set {w : World} {base : Nat} {t : TypeId} {k g n c j : Nat} {xs : List Value} {u : Value} (h : w.ownsRow base t k (.slice (some ⟨g, 0, none⟩) n c) n xs) (hj : j < n * k) : (w.setCell ⟨g, j, none⟩ u).ownsRow base t k (.slice (some ⟨g, 0, none⟩) n c) n (xs.set j u) := by
  obtain ⟨hl, hv⟩ := h
  refine ⟨by simpa using hl, Or.inr ?_⟩
  rcases hv with ⟨h, _⟩ | ⟨g', c', cur, h1, h2, h3, h4, h5, h6, h7⟩
  · cases h
  · cases h1
    refine ⟨g, c, cur.setIfInBounds j u, rfl, h2, by simp [World.setCell, Array.getElem?_modify, h3], h4, h5, by simpa using h6, ?_⟩
    rw [← h7]
    simp [List.take_set]

/-- One more is counted. -/
theorem ZInv.count {a : AtD} {n s n' s' g cap : Nat} (h : ZInv K t W0 mb base wh wr f m ((a, n, s) :: r) (.slice (some ⟨g, 0, none⟩) (r.length + 1) cap)) (hmb : mb < base) (hg : base ≤ g) (hn : n' ≤ a.2.2.length) (hs : s' = cnts (a.2.2.take n')) :
    ZInv K t W0 mb base wh ((wr.setCell ⟨g, r.length * 3 + 1, none⟩ (.int .i64 n')).setCell ⟨g, r.length * 3 + 2, none⟩ (.int .i64 s')) false m ((a, n', s') :: r) (.slice (some ⟨g, 0, none⟩) (r.length + 1) cap) := by
  have hbk : ∀ b, b < base → ((wr.setCell ⟨g, r.length * 3 + 1, none⟩ (.int .i64 n')).setCell ⟨g, r.length * 3 + 2, none⟩ (.int .i64 s')).heap[b]? = wr.heap[b]? := fun b hb => by
    rw [Below.heap_setCell _ _ _ _ (by show b ≠ g; omega), Below.heap_setCell _ _ _ _ (by show b ≠ g; omega)]
  refine ⟨by simpa [World.setCell] using h.size, fun b h1 h2 => (hbk b h1).trans (h.low b h1 h2), h.map.on (hbk mb hmb), h.keys, ?_, ?_, h.chain.turn, ?_, (fun e => by cases e), (fun e => by cases e)⟩
  · intro q val hq
    rcases h.vals q val hq with h1 | ⟨x, hx, h1, h2⟩
    · exact .inl h1
    · refine .inr ?_
      rcases List.mem_cons.1 hx with rfl | hx
      · exact ⟨_, List.mem_cons_self .., h1, h2⟩
      · exact ⟨x, List.mem_cons_of_mem _ hx, h1, h2⟩
  · intro x hx
    rcases List.mem_cons.1 hx with rfl | hx
    · exact ⟨(h.ok _ (List.mem_cons_self ..)).1, hn, hs⟩
    · exact h.ok x (List.mem_cons_of_mem _ hx)
  · obtain ⟨css, hown, hr⟩ := h.row
    have hl : ∀ y : FrD, (y :: r).reverse.length = r.length + 1 := fun y => by simp
    rw [hl] at hown
    have hcl : ∀ i, i < r.length + 1 → (css i).length = 3 := fun i hi => frSh.len (hr i (by simpa using hi))
    have hrt := hr r.length (by simp)
    have hx : ∀ y : FrD, (y :: r).reverse[r.length]'(by simp) = y := fun y => by simp
    rw [hx] at hrt
    have hcs := hrt.1
    have hfl := flat_length (css := css) (n := r.length) (k := 3) fun i hi => hcl i (by omega)
    have o1 := row_set (j := r.length * 3 + 1) (u := .int .i64 n') hown (by show _ < (r.length + 1) * 3; omega)
    have o2 := row_set (j := r.length * 3 + 2) (u := .int .i64 s') o1 (by show _ < (r.length + 1) * 3; omega)
    have hfe : ((flat css (r.length + 1)).set (r.length * 3 + 1) (.int .i64 n')).set (r.length * 3 + 2) (.int .i64 s') = flat (fun i => if i = r.length then frCells (a, n', s') else css i) (r.length + 1) := by
      have hfc : flat (fun i => if i = r.length then frCells (a, n', s') else css i) r.length = flat css r.length := by
        unfold flat
        exact Go.Deep.flatMap_congr_range fun i hi => by simp [Nat.ne_of_lt hi]
      rw [flat_succ, flat_succ, hfc, hcs]
      simp [List.set_append, hfl, frCells, show ¬ r.length * 3 + 1 < r.length * 3 by omega, show ¬ r.length * 3 + 2 < r.length * 3 by omega, show r.length * 3 + 1 - r.length * 3 = 1 by omega, show r.length * 3 + 2 - r.length * 3 = 2 by omega]
    rw [hfe] at o2
    refine ⟨fun i => if i = r.length then frCells (a, n', s') else css i, by rw [hl]; exact o2, fun i hi => ?_⟩
    have hi' : i < r.length + 1 := by simpa using hi
    by_cases hir : i = r.length
    · subst hir
      rw [hx]
      simp only [if_pos]
      refine ⟨rfl, irSh.slice.on hrt.2 fun b hS => hbk b hS.1⟩
    · simp only [if_neg hir]
      have h1 := hr i (by simpa using hi')
      have e1 : ∀ y : FrD, (y :: r).reverse[i]'(by simpa using hi') = r.reverse[i]'(by simp; omega) := fun y => by
        simp only [List.reverse_cons]
        rw [List.getElem_append_left (by simp; omega)]
      rw [e1] at h1 ⊢
      exact frSh.on h1 fun b hS => hbk b hS.1

/-- What is known turns: a key has another value. -/
theorem ZInv.known {w' : World} {m' : List ((Option Addr × Int) × Value)} {y : AtD} {val : Value} (h : ZInv K t W0 mb base wh wr f m st v) (hmb : mb < base) (hy : irSh.slice.rep W0 (fun b => b < base ∧ b ≠ mb ∧ Plain W0 b) [y.v] y.2.2)
    (hm' : KMap K w' mb m') (hmm : ∀ e ∈ m', e ∈ m ∨ e = (y.key, val)) (hg : wr.grownBy w' (some mb)) :
    base ≤ w'.heap.size ∧ (∀ b, b < base → b ≠ mb → w'.heap[b]? = W0.heap[b]?) ∧ (∀ e ∈ m', ∃ x : AtD, e.1 = x.key ∧ irSh.slice.rep W0 (fun b => b < base ∧ b ≠ mb ∧ Plain W0 b) [x.v] x.2.2) ∧ rose.Own frSh t w' base (fun b => b < base ∧ b ≠ mb ∧ Plain W0 b) v st.reverse := by
  have hz : wr.heap.size ≤ w'.heap.size := hg.size
  have hbk : ∀ b, b < wr.heap.size → b ≠ mb → w'.heap[b]? = wr.heap[b]? := fun b h1 h2 => hg.block b h1 fun e => h2 (Option.some.inj e)
  refine ⟨Nat.le_trans h.size hz, fun b h1 h2 => (hbk b (Nat.lt_of_lt_of_le h1 h.size) h2).trans (h.low b h1 h2), ?_, ?_⟩
  · intro e he
    rcases hmm e he with he | rfl
    · exact h.keys e he
    · exact ⟨y, rfl, hy⟩
  · obtain ⟨css, ⟨hl2, hv⟩, hr2⟩ := h.row
    refine ⟨css, ⟨hl2, ?_⟩, fun i hi => frSh.on (hr2 i hi) fun b hS => hbk b (Nat.lt_of_lt_of_le hS.1 h.size) hS.2.1⟩
    rcases hv with h0 | ⟨g, cap, cur, h1, h2, h3, h4⟩
    · exact Or.inl h0
    · have hg : g < wr.heap.size := (Array.getElem?_eq_some_iff.1 h3).1
      exact Or.inr ⟨g, cap, cur, h1, h2, by rw [hbk g hg (by omega)]; exact h3, h4⟩

/-- The innermost list is counted: what it has is known, and it is taken off. -/
theorem ZInv.pop {w' : World} {m' : List ((Option Addr × Int) × Value)} {a : AtD} {s g cap : Nat} (h : ZInv K t W0 mb base wh wr f m ((a, a.2.2.length, s) :: r) (.slice (some ⟨g, 0, none⟩) (r.length + 1) cap)) (hmb : mb < base)
    (hm' : KMap K w' mb m') (hmm : ∀ e ∈ m', e ∈ m ∨ e = (a.key, .int .i64 s)) (hlk : ∀ q, klook K q m' = if @decide (q = a.key) (K.dec q a.key) then some (.int .i64 s) else klook K q m) (hg : wr.grownBy w' (some mb)) :
    ZInv K t W0 mb base wh w' true m' r (.slice (some ⟨g, 0, none⟩) r.length cap) := by
  obtain ⟨hrep, -, hs⟩ := h.ok _ (List.mem_cons_self ..)
  dsimp only at hrep hs
  rw [List.take_length] at hs
  obtain ⟨h1, h2, h3, h4⟩ := h.known hmb hrep hm' hmm hg
  have hown : klook K a.key m' = some (.int .i64 s) := by rw [hlk]; simp
  refine ⟨h1, h2, hm', h3, ?_, fun x hx => h.ok x (List.mem_cons_of_mem _ hx), h.chain.rest, ?_, ?_, ?_⟩
  · intro q val hq
    rw [hlk] at hq
    split at hq
    · rename_i hqa
      have hqa : q = a.key := of_decide_eq_true (inst := K.dec q a.key) hqa
      cases hq
      exact .inl ⟨a, hqa.symm, hrep, by rw [hs]⟩
    · rename_i hqa
      rcases h.vals q val hq with h5 | ⟨x, hx, h5, h6⟩
      · exact .inl h5
      · rcases List.mem_cons.1 hx with rfl | hx
        · exact absurd h5.symm (by simpa using hqa)
        · exact .inr ⟨x, hx, h5, h6⟩
  · obtain ⟨css, hown, hr⟩ := h4
    have hl : ((a, a.2.2.length, s) :: r).reverse.length = r.length + 1 := by simp
    rw [hl] at hown
    have hcl : ∀ i, i < r.length + 1 → (css i).length = 3 := fun i hi => frSh.len (hr i (by simpa using hi))
    refine ⟨css, ?_, fun i hi => ?_⟩
    · have := shrink hown
      rw [show frSh.k = 3 from rfl, rose.flat_take css r.length hcl] at this
      rw [List.length_reverse]
      exact this
    · have hi' : i < r.length := by simpa using hi
      have h1 := hr i (by simp; omega)
      have e1 : ((a, a.2.2.length, s) :: r).reverse[i]'(by simp; omega) = r.reverse[i]'hi := by
        simp only [List.reverse_cons]
        rw [List.getElem_append_left (by simpa using hi)]
      rwa [e1] at h1
  · intro e
    subst e
    have : a = wh := h.chain
    rw [← this, hown, hs]
  · intro _ x q e
    subst e
    exact ⟨a, h.chain.1, by rw [hown]; rfl⟩

/-- What is known of the kids of the next one is how many are within them. -/
theorem ZInv.found {y : AtD} {val : Value} (h : ZInv K t W0 mb base wh wr f m (x :: r) v) (hy : KidsAt W0 x.1 x.2.1 y) (hr : irSh.slice.rep W0 (fun b => b < base ∧ b ≠ mb ∧ Plain W0 b) [y.v] y.2.2) (hv : klook K y.key m = some val) : val = .int .i64 (cnts y.2.2 : Nat) := by
  rcases h.vals _ _ hv with ⟨z, h1, h2, h3⟩ | ⟨z, hz, h1, h2⟩
  · rw [h3, key_sole h2 hr h1]
  · have h3 := key_sole (h.ok z hz).1 hr h1
    have h4 := hy.less
    rcases List.mem_cons.1 hz with rfl | hz
    · rw [h3] at h4; omega
    · have h5 := h.chain.lt z hz
      rw [h3] at h5; omega

/-- The kids of the next one are taken up. -/
theorem ZInv.push {w1 w' : World} {m' : List ((Option Addr × Int) × Value)} {y : AtD} {v' : Value} (h : ZInv K t W0 mb base wh wr f m (x :: r) v) (hmb : mb < base) (hy : KidsAt W0 x.1 x.2.1 y) (hr : irSh.slice.rep W0 (fun b => b < base ∧ b ≠ mb ∧ Plain W0 b) [y.v] y.2.2)
    (hm' : KMap K w1 mb m') (hmm : ∀ e ∈ m', e ∈ m ∨ e = (y.key, .int .i64 9223372036854775807)) (hlk : ∀ q, klook K q m' = if @decide (q = y.key) (K.dec q y.key) then some (.int .i64 9223372036854775807) else klook K q m)
    (hbase : base ≤ w1.heap.size) (hlow : ∀ b, b < base → b ≠ mb → w1.heap[b]? = W0.heap[b]?) {css : Nat → List Value} (hv : w1.ownsRow base t 3 v (r.length + 1) (flat css (r.length + 1))) (hcr : ∀ i (h : i < (x :: r).reverse.length), frSh.rep w1 (fun b => b < base ∧ b ≠ mb ∧ Plain W0 b) (css i) (x :: r).reverse[i])
    (hk : ∀ e ∈ m', ∃ x : AtD, e.1 = x.key ∧ irSh.slice.rep W0 (fun b => b < base ∧ b ≠ mb ∧ Plain W0 b) [x.v] x.2.2)
    (hv' : w'.ownsRow base t 3 v' (r.length + 1 + 1) (flat css (r.length + 1) ++ [y.v, .int .i64 0, .int .i64 0])) (hg : w1.grownBy w' v.ownBlock) : ZInv K t W0 mb base wh w' false m' ((y, 0, 0) :: x :: r) v' := by
  have hz : w1.heap.size ≤ w'.heap.size := hg.size
  have hown : ∀ b, b < base → v.ownBlock ≠ some b := fun b hb e => by
    have := (World.ownsRow.lt hv b e).1
    omega
  have hbk : ∀ b, b < base → w'.heap[b]? = w1.heap[b]? := fun b h1 => hg.block b (Nat.lt_of_lt_of_le h1 hbase) fun e => hown b h1 e.symm
  refine ⟨Nat.le_trans hbase hz, fun b h1 h2 => (hbk b h1).trans (hlow b h1 h2), hm'.on (hbk mb hmb), hk, ?_, ?_, ⟨hy, h.chain⟩, ?_, (fun e => by cases e), (fun e => by cases e)⟩
  · intro q val hq
    rw [hlk] at hq
    split at hq
    · rename_i hqa
      have hqa : q = y.key := of_decide_eq_true (inst := K.dec q y.key) hqa
      cases hq
      exact .inr ⟨_, List.mem_cons_self .., hqa.symm, rfl⟩
    · rcases h.vals q val hq with h5 | ⟨z, hz, h5, h6⟩
      · exact .inl h5
      · exact .inr ⟨z, List.mem_cons_of_mem _ hz, h5, h6⟩
  · intro z hz
    rcases List.mem_cons.1 hz with rfl | hz
    · exact ⟨hr, Nat.zero_le _, by simp [cnts]⟩
    · exact h.ok z hz
  · have hrp : frSh.rep w1 (fun b => b < base ∧ b ≠ mb ∧ Plain W0 b) [y.v, .int .i64 0, .int .i64 0] (y, 0, 0) := ⟨rfl, irSh.slice.on hr fun b hS => hlow b hS.1 hS.2.1⟩
    have hl : (x :: r).reverse.length = r.length + 1 := by simp
    have := Own.more (A := frSh) (t := t) (xs := (x :: r).reverse) (ys := [(y, 0, 0)]) (css := css) (css2 := fun _ => [y.v, .int .i64 0, .int .i64 0]) (v := v) (w := w1) (base := base) (S := fun b => b < base ∧ b ≠ mb ∧ Plain W0 b) (by rw [hl]; exact hv) hcr
      (fun i hi => by have : i = 0 := by simp at hi; omega
                      subst this; exact hrp) (fun b hS => hS.1) hbase (v' := v') (w' := w') (by rw [hl, show flat (fun _ => [y.v, Value.int .i64 0, .int .i64 0]) [((y, 0, 0) : FrD)].length = [y.v, .int .i64 0, .int .i64 0] by simp [flat]]; exact hv') hg
    simpa using this
end

end Go.Proofs.Ytndlhmpglpehcaa.ir
