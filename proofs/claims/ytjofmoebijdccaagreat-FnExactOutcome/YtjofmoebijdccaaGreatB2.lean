/-
  Data that lie in memory apart: a slice whose row and whose elements' blocks are all different ones, a tree of such slices; what a loop that turns one element after the other leaves of them; what a loop that fills a row leaves.
  One element of a row turns: cells of its own, and blocks of its own, in whatever order; what such a turning leaves of a row whose elements lie apart.
  What a law keeps while it goes on: values in blocks of its own, and what lies behind them; what a call leaves of them.
  What a law keeps while it goes on, further: an argument's own block; a value, or a slice, and what lies behind it.
-/
import Derived.Test.YtjofmoebijdccaaGreatB1
namespace Go.Proofs.YtjofmoebijdccaaGreat.rose
open Go.RowKit Go.Deep Go.ChangeShapes Go.WideShapes
set_option linter.unusedVariables false

/-! ### What has turned -/

/-- w' is as w was but for blocks of S, and new ones. -/
structure Only (S : Nat → Prop) (w w' : World) : Prop where
  os : w'.os = w.os
  tape : w'.tape = w.tape
  output : w'.output = w.output
  size : w.heap.size ≤ w'.heap.size
  block : ∀ k, k < w.heap.size → ¬ S k → w'.heap[k]? = w.heap[k]?

theorem Only.refl (S : Nat → Prop) (w : World) : Only S w w := ⟨rfl, rfl, rfl, Nat.le_refl _, fun _ _ _ => rfl⟩
theorem Only.trans {S : Nat → Prop} {a b c : World} (h : Only S a b) (k : Only S b c) : Only S a c :=
  ⟨k.os.trans h.os, k.tape.trans h.tape, k.output.trans h.output, Nat.le_trans h.size k.size, fun i hi hn => (k.block i (Nat.lt_of_lt_of_le hi h.size) hn).trans (h.block i hi hn)⟩
theorem Only.mono {S S' : Nat → Prop} {w w' : World} (h : Only S w w') (hs : ∀ b, b < w.heap.size → S b → S' b) : Only S' w w' := ⟨h.os, h.tape, h.output, h.size, fun k hk hn => h.block k hk fun q => hn (hs k hk q)⟩
theorem Only.ofBelow {S : Nat → Prop} {w w' : World} (h : Below w.heap.size w w') : Only S w w' := ⟨h.os, h.tape, h.output, h.size, fun k hk _ => h.block k hk⟩
theorem Only.below {S : Nat → Prop} {w w' : World} {B : Nat} (h : Only S w w') (hB : B ≤ w.heap.size) (hs : ∀ b, S b → B ≤ b) : Below B w w' := ⟨h.os, h.tape, h.output, h.size, fun k hk => h.block k (by omega) fun q => by have := hs k q; omega⟩
theorem Only.drew {S : Nat → Prop} {a w : World} (h : Only S a w) : Only S a w.drew := ⟨h.os, h.tape, h.output, h.size, h.block⟩

/-- .. but for cells of one block, from lo on up to hi. -/
structure Turned (b lo hi : Nat) (w w' : World) : Prop where
  only : Only (· = b) w w'
  blk : ∀ cur t, w.heap[b]? = some (.cells cur t) → ∃ cur', w'.heap[b]? = some (.cells cur' t)
  out : ∀ o, (o < lo ∨ hi ≤ o) → w'.cell? ⟨b, o, none⟩ = w.cell? ⟨b, o, none⟩

theorem Turned.refl (b lo hi : Nat) (w : World) : Turned b lo hi w w := ⟨Only.refl _ _, fun cur t h => ⟨cur, h⟩, fun _ _ => rfl⟩
theorem Turned.trans {b lo hi : Nat} {u v w : World} (h : Turned b lo hi u v) (k : Turned b lo hi v w) : Turned b lo hi u w :=
  ⟨h.only.trans k.only, fun cur t hc => by obtain ⟨c1, h1⟩ := h.blk cur t hc; exact k.blk c1 t h1, fun o ho => (k.out o ho).trans (h.out o ho)⟩
theorem Turned.below {b lo hi : Nat} {w w' : World} (h : Below w.heap.size w w') (hb : b < w.heap.size) : Turned b lo hi w w' :=
  ⟨Only.ofBelow h, fun cur t hc => ⟨cur, (h.block b hb).trans hc⟩, fun o _ => h.cell (p := ⟨b, o, none⟩) hb⟩
theorem cell_set_ne {w : World} {b o q : Nat} {v : Value} (h : q ≠ o) : (w.setCell ⟨b, o, none⟩ v).cell? ⟨b, q, none⟩ = w.cell? ⟨b, q, none⟩ := by
  have := World.cell?_setCells_out b [v] o w ⟨b, q, none⟩ (fun _ _ => by simp; omega)
  simpa [World.setCells] using this
theorem cell_set_eq {w : World} {b o : Nat} {v u : Value} (h : w.cell? ⟨b, o, none⟩ = some u) : (w.setCell ⟨b, o, none⟩ v).cell? ⟨b, o, none⟩ = some v := by
  have := World.cell?_setCells_in b [v] o w (fun j hj => by
    obtain rfl : j = 0 := by simpa using hj
    rw [Nat.add_zero, h]; rfl) 0 (by simp)
  simpa [World.setCells] using this
theorem Turned.set {b lo hi : Nat} (w : World) (o : Nat) (v : Value) (h1 : lo ≤ o) (h2 : o < hi) : Turned b lo hi w (w.setCell ⟨b, o, none⟩ v) := by
  refine ⟨⟨rfl, rfl, rfl, by simp [World.setCell], fun k hk hn => Below.heap_setCell _ _ _ _ hn⟩, fun cur t hc => ?_, fun q hq => cell_set_ne (by omega)⟩
  obtain ⟨c, h1, _⟩ := setCells_block b [v] o w cur hc
  exact ⟨c, by simpa [World.setCells] using h1⟩

theorem Turned.fz {b lo hi : Nat} {w w' : World} (h : Turned b lo hi w w') {cur : Array Value} {t : TypeId} (hc : w.heap[b]? = some (.cells cur t)) (q : Nat) : w'.frozen? ⟨b, q, none⟩ = false := by
  obtain ⟨c, h1⟩ := h.blk cur t hc
  simp [World.frozen?, h1]

/-! ### Slices that lie apart -/

structure SRow {α : Type} (A : Sh α) (w : World) (S : Nat → Prop) (a : Option Addr) (css : Nat → List Value) (F : Nat → Nat → Prop) (xs : List α) : Prop where
  row : 0 < xs.length → ∃ b o cur t, a = some ⟨b, o, none⟩ ∧ S b ∧ w.heap[b]? = some (.cells cur t) ∧ (∀ i, i < xs.length → ¬ F i b) ∧ ∀ i, i < xs.length → CellsAt w b (o + i * A.k) (css i)
  sub : ∀ i, i < xs.length → ∀ b, F i b → S b
  apart : ∀ i j, i < xs.length → j < xs.length → i ≠ j → ∀ b, F i b → ¬ F j b
  rep : ∀ i (h : i < xs.length), A.rep w (F i) (css i) xs[i]

theorem SRow.on {α : Type} {A : Sh α} {w w' : World} {S : Nat → Prop} {a : Option Addr} {css : Nat → List Value} {F : Nat → Nat → Prop} {xs : List α} (h : SRow A w S a css F xs) (hb : ∀ b, S b → w'.heap[b]? = w.heap[b]?) : SRow A w' S a css F xs where
  row := fun h0 => by
    obtain ⟨b, o, cur, t, rfl, h1, h2, h3, h4⟩ := h.row h0
    exact ⟨b, o, cur, t, rfl, h1, by rw [hb b h1]; exact h2, h3, fun i hi => (h4 i hi).on (hb b h1)⟩
  sub := h.sub
  apart := h.apart
  rep := fun i hi => A.on (h.rep i hi) fun b hf => hb b (h.sub i hi b hf)
theorem SRow.mono {α : Type} {A : Sh α} {w : World} {S S' : Nat → Prop} {a : Option Addr} {css : Nat → List Value} {F : Nat → Nat → Prop} {xs : List α} (h : SRow A w S a css F xs) (hs : ∀ b, S b → S' b) : SRow A w S' a css F xs where
  row := fun h0 => by
    obtain ⟨b, o, cur, t, rfl, h1, h2, h3, h4⟩ := h.row h0
    exact ⟨b, o, cur, t, rfl, hs b h1, h2, h3, h4⟩
  sub := fun i hi b hf => hs b (h.sub i hi b hf)
  apart := h.apart
  rep := h.rep

/-- One element, and what lies in its blocks, has turned. -/
theorem SRow.turn {α : Type} {A : Sh α} {w w1 w' : World} {S : Nat → Prop} {a : Option Addr} {css : Nat → List Value} {F : Nat → Nat → Prop} {xs : List α} (h : SRow A w S a css F xs) (hS : ∀ b, S b → b < w.heap.size)
    {i b o : Nat} (hi : i < xs.length) (ha : a = some ⟨b, o, none⟩) (ht : Turned b (o + i * A.k) (o + i * A.k + A.k) w w1) (hf : Only (F i) w1 w') {cs : List Value} {x : α} (hc : CellsAt w1 b (o + i * A.k) cs) (hr : A.rep w' (F i) cs x) :
    SRow A w' S a (fun j => if j = i then cs else css j) F (xs.set i x) ∧ Only S w w' := by
  obtain ⟨b', o', cur, t, e, h1, h2, h3, h4⟩ := h.row (by omega)
  rw [ha] at e
  cases e
  have hbw : b < w.heap.size := hS b h1
  have hb1 : b < w1.heap.size := Nat.lt_of_lt_of_le hbw ht.only.size
  obtain ⟨c1, hc1⟩ := ht.blk cur t h2
  have hb' := hf.block b hb1 (h3 i hi)
  refine ⟨⟨fun h0 => ?_, fun j hj => h.sub j (by simpa using hj), fun j l hj hl => h.apart j l (by simpa using hj) (by simpa using hl), fun j hj => ?_⟩, ?_⟩
  · refine ⟨b, o, c1, t, ha, h1, by rw [hb']; exact hc1, fun j hj => h3 j (by simpa using hj), fun j hj => ?_⟩
    by_cases e : j = i
    · subst e
      simp only [if_pos]
      exact hc.on hb'
    · simp only [if_neg e]
      intro q v hq
      have hj' : j < xs.length := by simpa using hj
      have hql : q < A.k := by
        rcases Nat.lt_or_ge q A.k with h' | h'
        · exact h'
        · rw [List.getElem?_eq_none (by rw [A.len (h.rep j hj')]; exact h')] at hq; cases hq
      rw [World.cell?_of_block (w := w1) (a := ⟨b, o + j * A.k + q, none⟩) hb', ht.out _ ?_]
      · exact h4 j hj' q v hq
      · rcases Nat.lt_or_gt_of_ne e with hlt | hlt
        · left
          have := Nat.mul_le_mul_right A.k (show j + 1 ≤ i by omega)
          rw [Nat.succ_mul] at this; omega
        · right
          have := Nat.mul_le_mul_right A.k (show i + 1 ≤ j by omega)
          rw [Nat.succ_mul] at this; omega
  · have hj' : j < xs.length := by simpa using hj
    by_cases e : j = i
    · subst e
      simp only [if_pos, List.getElem_set_self]
      exact hr
    · simp only [if_neg e]
      rw [List.getElem_set_ne (Ne.symm e)]
      refine A.on (h.rep j hj') fun q hq => ?_
      have hqs := hS q (h.sub j hj' q hq)
      rw [hf.block q (Nat.lt_of_lt_of_le hqs ht.only.size) (h.apart j i hj' hi e q hq)]
      exact ht.only.block q hqs fun e' => h3 j hj' (e' ▸ hq)
  · refine (ht.only.mono fun q _ e' => by rw [e']; exact h1).trans (hf.mono fun q _ hq => h.sub i hi q hq)

def SpRep {α : Type} (A : Sh α) (w : World) (S : Nat → Prop) (cs : List Value) (xs : List α) : Prop :=
  ∃ (a : Option Addr) (cap : Nat) (css : Nat → List Value) (F : Nat → Nat → Prop), cs = [.slice a xs.length cap] ∧ xs.length ≤ cap ∧ cap ≤ maxLen ∧ (a = none → cap = 0) ∧ SRow A w S a css F xs

def Sh.sslice {α : Type} (A : Sh α) : Sh (List α) where
  k := 1
  rep := SpRep A
  len := by rintro _ _ _ _ ⟨a, cap, css, F, rfl, _⟩; rfl
  on := by rintro _ _ _ _ _ ⟨a, cap, css, F, rfl, h1, h2, h3, h4⟩ h; exact ⟨a, cap, css, F, rfl, h1, h2, h3, h4.on h⟩
  mono := by rintro _ _ _ _ _ ⟨a, cap, css, F, rfl, h1, h2, h3, h4⟩ h; exact ⟨a, cap, css, F, rfl, h1, h2, h3, h4.mono h⟩
  one := by rintro _ _ _ _ ⟨a, cap, css, F, rfl, _⟩ v hv; simp at hv; subst hv; rfl

/-- Two that lie apart. -/
def Sh.spair {α β : Type} (A : Sh α) (B : Sh β) : Sh (α × β) where
  k := A.k + B.k
  rep := fun w S cs x => ∃ c1 c2 S1 S2, cs = c1 ++ c2 ∧ (∀ b, S1 b → S b) ∧ (∀ b, S2 b → S b) ∧ (∀ b, S1 b → ¬ S2 b) ∧ A.rep w S1 c1 x.1 ∧ B.rep w S2 c2 x.2
  len := by rintro _ _ _ _ ⟨c1, c2, S1, S2, rfl, _, _, _, h1, h2⟩; simp [A.len h1, B.len h2]
  on := by rintro _ _ _ _ _ ⟨c1, c2, S1, S2, rfl, s1, s2, s3, h1, h2⟩ h; exact ⟨c1, c2, S1, S2, rfl, s1, s2, s3, A.on h1 fun b hb => h b (s1 b hb), B.on h2 fun b hb => h b (s2 b hb)⟩
  mono := by rintro _ _ _ _ _ ⟨c1, c2, S1, S2, rfl, s1, s2, s3, h1, h2⟩ h; exact ⟨c1, c2, S1, S2, rfl, fun b hb => h b (s1 b hb), fun b hb => h b (s2 b hb), s3, h1, h2⟩
  one := by
    rintro _ _ _ _ ⟨c1, c2, S1, S2, rfl, _, _, _, h1, h2⟩ v hv
    rcases List.mem_append.1 hv with hv | hv
    · exact A.one h1 v hv
    · exact B.one h2 v hv

/-- A tree of such slices. -/
inductive RoseSp {α : Type} (A : Sh α) (w : World) : (Nat → Prop) → List Value → Rose α → Prop where
  | mk {S P0 : Nat → Prop} {ps : List Value} {x : α} {a : Option Addr} {cap : Nat} {kids : List (Rose α)} (css : Nat → List Value) (F : Nat → Nat → Prop) (hp : A.rep w P0 ps x) (h0 : ∀ b, P0 b → S b) (hcap : kids.length ≤ cap) (hmax : cap ≤ maxLen) (hnone : a = none → cap = 0)
      (row : 0 < kids.length → ∃ b o cur t, a = some ⟨b, o, none⟩ ∧ (S b ∧ ¬ P0 b) ∧ w.heap[b]? = some (.cells cur t) ∧ (∀ i, i < kids.length → ¬ F i b) ∧ ∀ i, i < kids.length → CellsAt w b (o + i * (A.k + 1)) (css i))
      (sub : ∀ i, i < kids.length → ∀ b, F i b → S b ∧ ¬ P0 b) (apart : ∀ i j, i < kids.length → j < kids.length → i ≠ j → ∀ b, F i b → ¬ F j b)
      (hk : ∀ i (h : i < kids.length), RoseSp A w (F i) (css i) kids[i]) : RoseSp A w S (ps ++ [.slice a kids.length cap]) (.mk x kids)

def Sh.srose {α : Type} (A : Sh α) : Sh (Rose α) where
  k := A.k + 1
  rep := fun w S cs x => RoseSp A w S cs x
  len := by rintro _ _ _ _ ⟨css, F, hp, _, _, _, _, _, _, _⟩; simp [A.len hp]
  on := by
    intro w w' S cs x h
    induction h with
    | mk css F hp h0 hcap hmax hnone row sub apart hk ih =>
      intro hb
      refine .mk css F (A.on hp fun b h => hb b (h0 b h)) h0 hcap hmax hnone (fun hl => ?_) sub apart fun i hi => ih i hi fun b hf => hb b (sub i hi b hf).1
      obtain ⟨b, o, cur, t, rfl, h1, h2, h3, h4⟩ := row hl
      exact ⟨b, o, cur, t, rfl, h1, by rw [hb b h1.1]; exact h2, h3, fun i hi => (h4 i hi).on (hb b h1.1)⟩
  mono := by
    intro w S S' cs x h hb
    cases h with
    | mk css F hp h0 hcap hmax hnone row sub apart hk =>
      refine .mk css F hp (fun b h => hb b (h0 b h)) hcap hmax hnone (fun hl => ?_) (fun i hi b hf => ⟨hb b (sub i hi b hf).1, (sub i hi b hf).2⟩) apart hk
      obtain ⟨b, o, cur, t, rfl, h1, r⟩ := row hl
      exact ⟨b, o, cur, t, rfl, ⟨hb b h1.1, h1.2⟩, r⟩
  one := by
    rintro _ _ _ _ ⟨css, F, hp, _, _, _, _, _, _, _⟩ v hv
    rcases List.mem_append.1 hv with hv | hv
    · exact A.one hp v hv
    · simp at hv; subst hv; rfl

theorem srose_iff {α : Type} {A : Sh α} {w : World} {S : Nat → Prop} {cs : List Value} {x : α} {kids : List (Rose α)} :
    A.srose.rep w S cs (.mk x kids) ↔ (A.spair A.srose.sslice).rep w S cs (x, kids) := by
  constructor
  · intro h
    cases h with
    | @mk _ P0 _ _ _ _ _ css F hp h0 hcap hmax hnone row sub apart hk =>
      exact ⟨_, _, P0, fun b => S b ∧ ¬ P0 b, rfl, h0, fun b hb => hb.1, fun b h1 h2 => h2.2 h1, hp, _, _, css, F, rfl, hcap, hmax, hnone, ⟨row, sub, apart, hk⟩⟩
  · rintro ⟨c1, c2, S1, S2, rfl, s1, s2, s3, h1, a, cap, css, F, rfl, h2, h3, h4, h5⟩
    refine .mk css F h1 s1 h2 h3 h4 (fun hl => ?_) (fun i hi b hf => ?_) h5.apart h5.rep
    · obtain ⟨b, o, cur, t, rfl, q1, r⟩ := h5.row hl
      exact ⟨b, o, cur, t, rfl, ⟨s2 b q1, fun q => s3 b q q1⟩, r⟩
    · have := h5.sub i hi b hf
      exact ⟨s2 b this, fun q => s3 b q this⟩

/-! ### .. lie as the others do -/

theorem sslice_rep {α : Type} {A B : Sh α} (hk : A.k = B.k) (h : ∀ {w S cs x}, A.rep w S cs x → B.rep w S cs x) {w : World} {S : Nat → Prop} {cs : List Value} {xs : List α} (hr : A.sslice.rep w S cs xs) : B.slice.rep w S cs xs := by
  obtain ⟨a, cap, css, F, rfl, h1, h2, h3, h4⟩ := hr
  refine ⟨a, cap, css, rfl, h1, h2, h3, fun i hi => ?_, fun i hi => B.mono (h (h4.rep i hi)) (h4.sub i hi)⟩
  obtain ⟨b, o, cur, t, rfl, q1, q2, q3, q4⟩ := h4.row (by omega)
  exact ⟨b, o, rfl, q1, by rw [← hk]; exact q4 i hi⟩
theorem spair_rep {α β : Type} {A A' : Sh α} {B B' : Sh β} (hA : ∀ {w S cs x}, A.rep w S cs x → A'.rep w S cs x) (hB : ∀ {w S cs x}, B.rep w S cs x → B'.rep w S cs x) {w : World} {S : Nat → Prop} {cs : List Value} {x : α × β} (hr : (A.spair B).rep w S cs x) : (A'.pair B').rep w S cs x := by
  obtain ⟨c1, c2, S1, S2, rfl, s1, s2, s3, h1, h2⟩ := hr
  exact ⟨c1, c2, rfl, A'.mono (hA h1) s1, B'.mono (hB h2) s2⟩
theorem srose_rep {α : Type} {A A' : Sh α} (hA : ∀ {w S cs x}, A.rep w S cs x → A'.rep w S cs x) (hk : A.k = A'.k) {w : World} {S : Nat → Prop} {cs : List Value} {T : Rose α} (h : A.srose.rep w S cs T) : A'.rose.rep w S cs T := by
  replace h : RoseSp A w S cs T := h
  induction h with
  | mk css F hp h0 hcap hmax hnone row sub apart hk' ih =>
    refine .mk css (A'.mono (hA hp) h0) hcap hmax hnone (fun i hi => ?_) fun i hi => A'.rose.mono (ih i hi) fun b hf => (sub i hi b hf).1
    obtain ⟨b, o, cur, t, rfl, q1, q2, q3, q4⟩ := row (by omega)
    exact ⟨b, o, rfl, q1.1, by rw [← hk]; exact q4 i hi⟩

/-- An element's cells, and that they may be written. -/
theorem SRow.at {α : Type} {A : Sh α} {w : World} {S : Nat → Prop} {a : Option Addr} {css : Nat → List Value} {F : Nat → Nat → Prop} {xs : List α} (h : SRow A w S a css F xs) {i : Nat} (hi : i < xs.length) :
    ∃ b o, a = some ⟨b, o, none⟩ ∧ S b ∧ ¬ F i b ∧ CellsAt w b (o + i * A.k) (css i) ∧ (∀ q, w.frozen? ⟨b, q, none⟩ = false) ∧ ∃ cur t, w.heap[b]? = some (.cells cur t) := by
  obtain ⟨b, o, cur, t, rfl, q1, q2, q3, q4⟩ := h.row (by omega)
  exact ⟨b, o, rfl, q1, q3 i hi, q4 i hi, fun q => by simp [World.frozen?, q2], cur, t, q2⟩

/-! ### A row that a loop fills with such -/

structure SFilling {α : Type} (A : Sh α) (t : TypeId) (w : World) (g n i : Nat) (xs : List α) : Prop where
  blk : ∃ cur, w.heap[g]? = some (.cells cur t) ∧ cur.size = n * A.k
  laid : ∃ (css : Nat → List Value) (F : Nat → Nat → Prop), (∀ j (h : j < xs.length), j < i → CellsAt w g (0 + j * A.k) (css j) ∧ A.rep w (F j) (css j) xs[j] ∧ ∀ b, F j b → g < b ∧ b < w.heap.size) ∧ ∀ j l, j < i → l < i → j < xs.length → l < xs.length → j ≠ l → ∀ b, F j b → ¬ F l b

theorem SFilling.plain {α : Type} {A : Sh α} {t : TypeId} {w : World} {g n i : Nat} {xs : List α} (h : SFilling A t w g n i xs) : Filling A t w g n i xs := by
  obtain ⟨css, F, h1, h2⟩ := h.laid
  exact ⟨h.blk, css, fun j hj hji => ⟨(h1 j hj hji).1, A.mono (h1 j hj hji).2.1 (h1 j hj hji).2.2⟩⟩

theorem SFilling.start {α : Type} {A : Sh α} {t : TypeId} {w : World} {z : Array Value} {n : Nat} {xs : List α} : SFilling A t (w.alloc (.cells (madeCells z (n * A.k)) t)) w.heap.size n 0 xs :=
  ⟨⟨madeCells z (n * A.k), by show (w.heap.push _)[w.heap.size]? = _; simp, size_madeCells _ _⟩, fun _ => [], fun _ _ => False, fun j _ hj => absurd hj (Nat.not_lt_zero _), fun j l hj => absurd hj (Nat.not_lt_zero _)⟩

theorem SFilling.store {α : Type} {A : Sh α} {t : TypeId} {P : Program} {w w1 : World} {g n i : Nat} {xs : List α} (h : SFilling A t w g n i xs) (hb : Below w.heap.size w w1) (hg : g < w.heap.size) (hi : i < n) {cs : List Value} (hl : cs.length = A.k) (h1 : ∀ v ∈ cs, v.oneCell' = true) :
    Sem.run P (storeCells ⟨g, i * A.k, none⟩ cs) w1 = .ok () (w1.setCells g (i * A.k) cs) := h.plain.store hb hg hi hl h1

theorem SFilling.step {α : Type} {A : Sh α} {t : TypeId} {w w1 : World} {g n i : Nat} {xs : List α} (h : SFilling A t w g n i xs) (hb : Below w.heap.size w w1) (hg : g < w.heap.size) (hi : i < n) (hx : i < xs.length) {cs : List Value}
    (hr : A.rep w1 (fun b => w.heap.size ≤ b ∧ b < w1.heap.size) cs xs[i]) : SFilling A t (w1.setCells g (i * A.k) cs) g n (i + 1) xs := by
  obtain ⟨cur, hc, hs⟩ := h.blk
  rw [← hb.block g hg] at hc
  have hl := A.len hr
  have hle : i * A.k + A.k ≤ n * A.k := by rw [← Nat.succ_mul]; exact Nat.mul_le_mul_right _ hi
  obtain ⟨css, F, hcss, hap⟩ := h.laid
  refine ⟨?_, fun j => if j = i then cs else css j, fun j => if j = i then (fun b => w.heap.size ≤ b ∧ b < w1.heap.size) else F j, fun j hj hji => ?_, fun j l hj hl' hjx hlx hne b => ?_⟩
  · obtain ⟨c, h1, h2⟩ := setCells_block g cs (i * A.k) w1 cur hc
    exact ⟨c, h1, by rw [h2, hs]⟩
  · by_cases he : j = i
    · subst he
      simp only [if_pos]
      refine ⟨fun q v hq => ?_, ?_, fun b hS => by rw [setCells_size]; exact ⟨by omega, hS.2⟩⟩
      · have hql : q < cs.length := by
          rcases Nat.lt_or_ge q cs.length with h' | h'
          · exact h'
          · rw [List.getElem?_eq_none h'] at hq; cases hq
        have := World.cell?_setCells_in g cs (j * A.k) w1 (fun q' hq' => by simp [World.cell?, hc]; omega) q hql
        rw [Nat.zero_add, this]
        rw [List.getElem?_eq_getElem hql] at hq
        exact hq
      · exact A.on hr fun b hS => setCells_other g (by omega) _ _ _
    · simp only [if_neg he]
      obtain ⟨h1, h2, h3⟩ := hcss j hj (by omega)
      have hjk : j * A.k + A.k ≤ i * A.k := by rw [← Nat.succ_mul]; exact Nat.mul_le_mul_right _ (by omega)
      refine ⟨fun q v hq => ?_, ?_, fun b hS => ?_⟩
      · have hql : q < A.k := by
          rcases Nat.lt_or_ge q A.k with h' | h'
          · exact h'
          · rw [List.getElem?_eq_none (by rw [A.len h2]; exact h')] at hq; cases hq
        rw [World.cell?_setCells_out g cs (i * A.k) w1 _ (fun _ _ => Or.inl (by simp; omega)), World.cell?_of_block (w := w) (a := ⟨g, 0 + j * A.k + q, none⟩) (hb.block g hg)]
        exact h1 q v hq
      · exact A.on (A.on h2 fun b hS => hb.block b (h3 b hS).2) fun b hS => setCells_other g (by have := (h3 b hS).1; omega) _ _ _
      · rw [setCells_size]
        have := h3 b hS
        exact ⟨this.1, Nat.lt_of_lt_of_le this.2 hb.size⟩
  · by_cases e1 : j = i
    · by_cases e2 : l = i
      · omega
      · simp only [if_pos e1, if_neg e2]
        intro q1 q2
        have := ((hcss l hlx (by omega)).2.2 b q2).2
        omega
    · by_cases e2 : l = i
      · simp only [if_pos e2, if_neg e1]
        intro q1 q2
        have := ((hcss j hjx (by omega)).2.2 b q1).2
        omega
      · simp only [if_neg e1, if_neg e2]
        exact hap j l (by omega) (by omega) hjx hlx hne b

theorem SFilling.done {α : Type} {A : Sh α} {t : TypeId} {w : World} {g : Nat} {xs : List α} (h : SFilling A t w g xs.length xs.length xs) (hg : g < w.heap.size) (hm : xs.length ≤ maxLen) : A.sslice.rep w (fun b => g ≤ b ∧ b < w.heap.size) [.slice (some ⟨g, 0, none⟩) xs.length xs.length] xs := by
  obtain ⟨css, F, hcss, hap⟩ := h.laid
  obtain ⟨cur, hc, -⟩ := h.blk
  exact ⟨_, _, css, F, rfl, Nat.le_refl _, hm, (fun h => by cases h), fun _ => ⟨g, 0, cur, t, rfl, ⟨Nat.le_refl _, hg⟩, hc, fun i hi q => by have := ((hcss i hi hi).2.2 g q).1; omega, fun i hi => (hcss i hi hi).1⟩, fun i hi b hf => ⟨by have := (hcss i hi hi).2.2 b hf; omega, ((hcss i hi hi).2.2 b hf).2⟩, fun i j hi hj => hap i j hi hj hi hj, fun i hi => (hcss i hi hi).2.1⟩

theorem sslice_cells {α : Type} {A : Sh α} {w : World} {S : Nat → Prop} {cs : List Value} {xs : List α} (h : A.sslice.rep w S cs xs) : ∃ a cap, cs = [.slice a xs.length cap] := by
  obtain ⟨a, cap, css, F, rfl, _⟩ := h
  exact ⟨a, cap, rfl⟩

/-! ### What lies in blocks that stay -/

theorem Sh.stay {α : Type} (A : Sh α) {w w' : World} {S : Nat → Prop} {cs : List Value} {x : α} (h : A.rep w S cs x) (hb : Below w.heap.size w w') (hS : ∀ b, S b → b < w.heap.size) : A.rep w' S cs x := A.on h fun b hs => hb.block b (hS b hs)
theorem Sh.stayOnly {α : Type} (A : Sh α) {w w' : World} {S Q : Nat → Prop} {cs : List Value} {x : α} (h : A.rep w S cs x) (ho : Only Q w w') (hS : ∀ b, S b → b < w.heap.size ∧ ¬ Q b) : A.rep w' S cs x := A.on h fun b hs => ho.block b (hS b hs).1 (hS b hs).2
theorem Sh.in_ {α : Type} (A : Sh α) {w : World} {S : Nat → Prop} {cs : List Value} {x : α} (h : A.rep w S cs x) (hS : ∀ b, S b → b < w.heap.size) : A.rep w (· < w.heap.size) cs x := A.mono h hS

end Go.Proofs.YtjofmoebijdccaaGreat.rose

namespace Go.Proofs.YtjofmoebijdccaaGreat.rose
open Go.RowKit Go.Deep Go.ChangeShapes Go.WideShapes
set_option linter.unusedVariables false

/-- Only cells of one block from lo on up to hi have turned, and blocks of F. -/
structure Turn2 (b lo hi : Nat) (F : Nat → Prop) (w w' : World) : Prop where
  only : Only (fun q => q = b ∨ F q) w w'
  blk : ∀ cur t, w.heap[b]? = some (.cells cur t) → ∃ cur', w'.heap[b]? = some (.cells cur' t)
  out : ∀ o, (o < lo ∨ hi ≤ o) → w'.cell? ⟨b, o, none⟩ = w.cell? ⟨b, o, none⟩

theorem Turn2.refl (b lo hi : Nat) (F : Nat → Prop) (w : World) : Turn2 b lo hi F w w := ⟨Only.refl _ _, fun cur t h => ⟨cur, h⟩, fun _ _ => rfl⟩
theorem Turn2.trans {b lo hi : Nat} {F : Nat → Prop} {u v w : World} (h : Turn2 b lo hi F u v) (k : Turn2 b lo hi F v w) : Turn2 b lo hi F u w :=
  ⟨h.only.trans k.only, fun cur t hc => by obtain ⟨c1, h1⟩ := h.blk cur t hc; exact k.blk c1 t h1, fun o ho => (k.out o ho).trans (h.out o ho)⟩
theorem Turn2.mono {b lo hi : Nat} {F F' : Nat → Prop} {w w' : World} (h : Turn2 b lo hi F w w') (hf : ∀ q, F q → F' q) : Turn2 b lo hi F' w w' := ⟨h.only.mono fun q _ e => e.elim Or.inl fun g => Or.inr (hf q g), h.blk, h.out⟩
theorem Turn2.below {b lo hi : Nat} {F : Nat → Prop} {u w w' : World} (h0 : Turn2 b lo hi F u w) (h : Below w.heap.size w w') (hb : b < w.heap.size) : Turn2 b lo hi F u w' :=
  h0.trans ⟨Only.ofBelow h, fun cur t hc => ⟨cur, (h.block b hb).trans hc⟩, fun o _ => h.cell (p := ⟨b, o, none⟩) hb⟩
theorem Turn2.set {b lo hi : Nat} {F : Nat → Prop} {u w : World} (h0 : Turn2 b lo hi F u w) (o : Nat) (v : Value) (h1 : lo ≤ o) (h2 : o < hi) : Turn2 b lo hi F u (w.setCell ⟨b, o, none⟩ v) := by
  have ht : Turned b lo hi w (w.setCell ⟨b, o, none⟩ v) := Turned.set w o v h1 h2
  exact h0.trans ⟨ht.only.mono fun q _ e => Or.inl e, ht.blk, ht.out⟩
theorem Turn2.calls {b lo hi : Nat} {F Q : Nat → Prop} {u w w' : World} (h0 : Turn2 b lo hi F u w) (h : Only Q w w') (hb : b < w.heap.size) (hq : ∀ q, Q q → F q) (hn : ¬ Q b) : Turn2 b lo hi F u w' := by
  have e := h.block b hb hn
  exact h0.trans ⟨h.mono fun q _ hQ => Or.inr (hq q hQ), fun cur t hc => ⟨cur, e.trans hc⟩, fun o _ => World.cell?_of_block (w := w) (a := ⟨b, o, none⟩) e⟩
theorem Turn2.fz {b lo hi : Nat} {F : Nat → Prop} {w w' : World} (h : Turn2 b lo hi F w w') {cur : Array Value} {t : TypeId} (hc : w.heap[b]? = some (.cells cur t)) (q : Nat) : w'.frozen? ⟨b, q, none⟩ = false := by
  obtain ⟨c, h1⟩ := h.blk cur t hc
  simp [World.frozen?, h1]
theorem cell_only {Q : Nat → Prop} {w w' : World} {b o : Nat} (h : Only Q w w') (hb : b < w.heap.size) (hn : ¬ Q b) : w'.cell? ⟨b, o, none⟩ = w.cell? ⟨b, o, none⟩ := World.cell?_of_block (w := w) (a := ⟨b, o, none⟩) (h.block b hb hn)
theorem size_set (w : World) (a : Addr) (v : Value) : (w.setCell a v).heap.size = w.heap.size := by simp [World.setCell]
theorem block_set {w : World} {b o q : Nat} {v : Value} (h : q ≠ b) : (w.setCell ⟨b, o, none⟩ v).heap[q]? = w.heap[q]? := Below.heap_setCell _ _ _ _ h

theorem cell_set_other (w : World) (p q : Addr) (v : Value) (h : q.block ≠ p.block) : (w.setCell p v).cell? q = w.cell? q := World.cell?_of_block (w := w) (a := q) (Below.heap_setCell _ _ _ _ h)

/-- One element, and what lies in its blocks, has turned. -/
theorem SRow.turn2 {α : Type} {A : Sh α} {w w' : World} {S : Nat → Prop} {a : Option Addr} {css : Nat → List Value} {F : Nat → Nat → Prop} {xs : List α} (h : SRow A w S a css F xs) (hS : ∀ b, S b → b < w.heap.size)
    {i b o : Nat} (hi : i < xs.length) (ha : a = some ⟨b, o, none⟩) (ht : Turn2 b (o + i * A.k) (o + i * A.k + A.k) (F i) w w') {cs : List Value} {x : α} (hc : CellsAt w' b (o + i * A.k) cs) (hr : A.rep w' (F i) cs x) :
    SRow A w' S a (fun j => if j = i then cs else css j) F (xs.set i x) ∧ Only S w w' := by
  obtain ⟨b', o', cur, t, e, h1, h2, h3, h4⟩ := h.row (by omega)
  rw [ha] at e
  cases e
  have hbw : b < w.heap.size := hS b h1
  obtain ⟨c1, hc1⟩ := ht.blk cur t h2
  refine ⟨⟨fun h0 => ?_, fun j hj => h.sub j (by simpa using hj), fun j l hj hl => h.apart j l (by simpa using hj) (by simpa using hl), fun j hj => ?_⟩, ?_⟩
  · refine ⟨b, o, c1, t, ha, h1, hc1, fun j hj => h3 j (by simpa using hj), fun j hj => ?_⟩
    by_cases e : j = i
    · subst e
      simp only [if_pos]
      exact hc
    · simp only [if_neg e]
      intro q v hq
      have hj' : j < xs.length := by simpa using hj
      have hql : q < A.k := by
        rcases Nat.lt_or_ge q A.k with h' | h'
        · exact h'
        · rw [List.getElem?_eq_none (by rw [A.len (h.rep j hj')]; exact h')] at hq; cases hq
      rw [ht.out _ ?_]
      · exact h4 j hj' q v hq
      · rcases Nat.lt_or_gt_of_ne e with hlt | hlt
        · left
          have := Nat.mul_le_mul_right A.k (show j + 1 ≤ i by omega)
          rw [Nat.succ_mul] at this; omega
        · right
          have := Nat.mul_le_mul_right A.k (show i + 1 ≤ j by omega)
          rw [Nat.succ_mul] at this; omega
  · have hj' : j < xs.length := by simpa using hj
    by_cases e : j = i
    · subst e
      simp only [if_pos, List.getElem_set_self]
      exact hr
    · simp only [if_neg e]
      rw [List.getElem_set_ne (Ne.symm e)]
      refine A.on (h.rep j hj') fun q hq => ?_
      exact ht.only.block q (hS q (h.sub j hj' q hq)) fun e' => e'.elim (fun e1 => h3 j hj' (e1 ▸ hq)) (h.apart j i hj' hi e q hq)
  · exact ht.only.mono fun q _ hq => hq.elim (fun e1 => by rw [e1]; exact h1) (fun hf => h.sub i hi q hf)

end Go.Proofs.YtjofmoebijdccaaGreat.rose

namespace Go.Proofs.YtjofmoebijdccaaGreat.rose
open Go.RowKit Go.Deep Go.ChangeShapes Go.WideShapes
set_option linter.unusedVariables false

/-- A value in block nb, and what lies behind it, from block lo on below hi. -/
structure Itm {α : Type} (A : Sh α) (wk : World) (nb : Nat) (cs : List Value) (t : TypeId) (lo hi : Nat) (x : α) : Prop where
  blk : wk.heap[nb]? = some (.cells cs.toArray t)
  top : hi ≤ wk.heap.size
  rep : A.rep wk (fun b => lo ≤ b ∧ b < hi) cs x

section
variable {α : Type} {A : Sh α} {wk wl : World} {nb lo hi : Nat} {cs : List Value} {t : TypeId} {x : α}

theorem Itm.lt (h : Itm A wk nb cs t lo hi x) : nb < wk.heap.size := (Array.getElem?_eq_some_iff.1 h.blk).1
theorem Itm.on (h : Itm A wk nb cs t lo hi x) (hb : Below wk.heap.size wk wl) : Itm A wl nb cs t lo hi x :=
  ⟨(hb.block nb h.lt).trans h.blk, Nat.le_trans h.top hb.size, A.on h.rep fun b hS => hb.block b (by have := h.top; omega)⟩
theorem Itm.only {Q : Nat → Prop} (h : Itm A wk nb cs t lo hi x) (ho : Only Q wk wl) (hn : ¬ Q nb) (hd : ∀ b, lo ≤ b → b < hi → ¬ Q b) : Itm A wl nb cs t lo hi x :=
  ⟨(ho.block nb h.lt hn).trans h.blk, Nat.le_trans h.top ho.size, A.on h.rep fun b hS => ho.block b (by have := h.top; omega) (hd b hS.1 hS.2)⟩
theorem Itm.in_ (h : Itm A wk nb cs t lo hi x) : A.rep wk (· < wk.heap.size) cs x := A.mono h.rep fun b hb => by have := h.top; omega
theorem Itm.cell (h : Itm A wk nb cs t lo hi x) (j : Nat) {v : Value} (hj : cs[j]? = some v) : wk.cell? ⟨nb, j, none⟩ = some v := by
  simp only [World.cell?, h.blk]
  simpa using hj
theorem Itm.new (hr : A.rep wk (fun b => lo ≤ b ∧ b < hi) cs x) (hh : hi ≤ wk.heap.size) {arr : Array Value} (ha : arr = cs.toArray) : Itm A (wk.alloc (.cells arr t)) wk.heap.size cs t lo hi x := by
  subst ha
  have hA : Below wk.heap.size wk (wk.alloc (.cells cs.toArray t)) := (Below.refl _ _).alloc (Nat.le_refl _) _
  exact ⟨alloc_top _ _, Nat.le_trans hh hA.size, A.on hr fun b hS => hA.block b (by omega)⟩
theorem Itm.as {B : Sh α} (h : Itm A wk nb cs t lo hi x) (hc : ∀ {w S cs x}, A.rep w S cs x → B.rep w S cs x) : Itm B wk nb cs t lo hi x := ⟨h.blk, h.top, hc h.rep⟩
end

/-- A slice in a slot, and what lies behind it, from block lo on below hi. -/
structure ItmS {α : Type} (A : Sh α) (wk : World) (v : Value) (lo hi : Nat) (x : α) : Prop where
  top : hi ≤ wk.heap.size
  rep : A.rep wk (fun b => lo ≤ b ∧ b < hi) [v] x
theorem ItmS.on {α : Type} {A : Sh α} {wk wl : World} {v : Value} {lo hi : Nat} {x : α} (h : ItmS A wk v lo hi x) (hb : Below wk.heap.size wk wl) : ItmS A wl v lo hi x :=
  ⟨Nat.le_trans h.top hb.size, A.on h.rep fun b hS => hb.block b (by have := h.top; omega)⟩
theorem ItmS.only {α : Type} {A : Sh α} {wk wl : World} {v : Value} {lo hi : Nat} {x : α} {Q : Nat → Prop} (h : ItmS A wk v lo hi x) (ho : Only Q wk wl) (hd : ∀ b, lo ≤ b → b < hi → ¬ Q b) : ItmS A wl v lo hi x :=
  ⟨Nat.le_trans h.top ho.size, A.on h.rep fun b hS => ho.block b (by have := h.top; omega) (hd b hS.1 hS.2)⟩
theorem ItmS.in_ {α : Type} {A : Sh α} {wk : World} {v : Value} {lo hi : Nat} {x : α} (h : ItmS A wk v lo hi x) : A.rep wk (· < wk.heap.size) [v] x := A.mono h.rep fun b hb => by have := h.top; omega
theorem ItmS.as {α : Type} {A B : Sh α} {wk : World} {v : Value} {lo hi : Nat} {x : α} (h : ItmS A wk v lo hi x) (hc : ∀ {w S cs x}, A.rep w S cs x → B.rep w S cs x) : ItmS B wk v lo hi x := ⟨h.top, hc h.rep⟩

/-- The argument's own block. -/
structure ArgK (w wk : World) (cs : List Value) (t : TypeId) : Prop where
  bel : Below w.heap.size w wk
  blk : wk.heap[w.heap.size]? = some (.cells cs.toArray t)
theorem ArgK.lt {w wk : World} {cs : List Value} {t : TypeId} (h : ArgK w wk cs t) : w.heap.size < wk.heap.size := (Array.getElem?_eq_some_iff.1 h.blk).1
theorem ArgK.on {w wk wl : World} {cs : List Value} {t : TypeId} (h : ArgK w wk cs t) (hb : Below wk.heap.size wk wl) : ArgK w wl cs t := ⟨h.bel.trans (hb.mono h.bel.size), (hb.block _ h.lt).trans h.blk⟩
theorem ArgK.only {w wk wl : World} {cs : List Value} {t : TypeId} {Q : Nat → Prop} (h : ArgK w wk cs t) (ho : Only Q wk wl) (hQ : ∀ b, Q b → w.heap.size < b) : ArgK w wl cs t :=
  ⟨h.bel.trans (ho.below (Nat.le_of_lt h.lt) fun b hb => Nat.le_of_lt (hQ b hb)), (ho.block _ h.lt fun hq => Nat.lt_irrefl _ (hQ _ hq)).trans h.blk⟩
theorem ArgK.drew {w wk : World} {cs : List Value} {t : TypeId} (h : ArgK w wk cs t) : ArgK w wk.drew cs t := ⟨h.bel.drew, h.blk⟩
theorem ArgK.cell {w wk : World} {cs : List Value} {t : TypeId} (h : ArgK w wk cs t) (j : Nat) {v : Value} (hj : cs[j]? = some v) : wk.cell? ⟨w.heap.size, j, none⟩ = some v := by
  simp only [World.cell?, h.blk]
  simpa using hj
theorem ArgK.new (w : World) (cs : List Value) (t : TypeId) {arr : Array Value} (ha : arr = cs.toArray) : ArgK w (w.alloc (.cells arr t)) cs t := by
  subst ha
  exact ⟨(Below.refl _ _).alloc (Nat.le_refl _) _, alloc_top _ _⟩

end Go.Proofs.YtjofmoebijdccaaGreat.rose

namespace Go.Proofs.YtjofmoebijdccaaGreat.rose
open Go.RowKit Go.Deep Go.ChangeShapes Go.WideShapes
set_option linter.unusedVariables false

/-- An argument's own block. -/
structure BoxK (wk : World) (nb : Nat) (cs : List Value) (t : TypeId) : Prop where
  blk : wk.heap[nb]? = some (.cells cs.toArray t)
theorem BoxK.lt {wk : World} {nb : Nat} {cs : List Value} {t : TypeId} (h : BoxK wk nb cs t) : nb < wk.heap.size := (Array.getElem?_eq_some_iff.1 h.blk).1
theorem BoxK.on {wk wl : World} {nb : Nat} {cs : List Value} {t : TypeId} (h : BoxK wk nb cs t) (hb : Below wk.heap.size wk wl) : BoxK wl nb cs t := ⟨(hb.block nb h.lt).trans h.blk⟩
theorem BoxK.only {wk wl : World} {nb : Nat} {cs : List Value} {t : TypeId} {Q : Nat → Prop} (h : BoxK wk nb cs t) (ho : Only Q wk wl) (hn : Q nb → False) : BoxK wl nb cs t := ⟨(ho.block nb h.lt hn).trans h.blk⟩
theorem BoxK.cell {wk : World} {nb : Nat} {cs : List Value} {t : TypeId} (h : BoxK wk nb cs t) (j : Nat) {v : Value} (hj : cs[j]? = some v) : wk.cell? ⟨nb, j, none⟩ = some v := by
  simp only [World.cell?, h.blk]
  simpa using hj

/-- A value, and what lies behind it, from block lo on below hi. -/
structure ItmR {α : Type} (A : Sh α) (wk : World) (cs : List Value) (lo hi : Nat) (x : α) : Prop where
  top : hi ≤ wk.heap.size
  rep : A.rep wk (fun b => lo ≤ b ∧ b < hi) cs x
theorem ItmR.on {α : Type} {A : Sh α} {wk wl : World} {cs : List Value} {lo hi : Nat} {x : α} (h : ItmR A wk cs lo hi x) (hb : Below wk.heap.size wk wl) : ItmR A wl cs lo hi x :=
  ⟨Nat.le_trans h.top hb.size, A.on h.rep fun b hS => hb.block b (by have := h.top; omega)⟩
theorem ItmR.only {α : Type} {A : Sh α} {wk wl : World} {cs : List Value} {lo hi : Nat} {x : α} {Q : Nat → Prop} (h : ItmR A wk cs lo hi x) (ho : Only Q wk wl) (hd : ∀ b, lo ≤ b → b < hi → Q b → False) : ItmR A wl cs lo hi x :=
  ⟨Nat.le_trans h.top ho.size, A.on h.rep fun b hS => ho.block b (by have := h.top; omega) (hd b hS.1 hS.2)⟩

end Go.Proofs.YtjofmoebijdccaaGreat.rose
