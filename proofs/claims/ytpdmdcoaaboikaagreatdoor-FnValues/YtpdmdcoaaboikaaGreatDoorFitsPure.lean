/-
  A pattern held against a value list by list: which pairs of lists were met, and why it fits where all of them are done. How a pair of lists lies; the map of what was met.
-/
import Derived.Test.YtpdmdcoaaboikaaGreatDoorFitsHeads
import Derived.Test.YtpdmdcoaaboikaaGreatDoorOwnMore
import Derived.Test.YtpdmdcoaaboikaaGreatDoorPairKey
namespace Go.Proofs.YtpdmdcoaaboikaaGreatDoor.fits
open Go Go.RowKit Go.Proofs.YtpdmdcoaaboikaaGreatDoor.rose Go.Proofs.YtpdmdcoaaboikaaGreatDoor
set_option linter.unusedVariables false
set_option linter.unusedSimpArgs false

theorem nd_sole : ndSh.Sole := (Sh.Sole.pair Sh.int_sole (Sh.Sole.pair Sh.int_sole (Sh.Sole.pair Sh.str_sole Sh.str_sole))).rose
theorem value_sole : valueSh.Sole := (Sh.Sole.pair Sh.int_sole (Sh.Sole.pair Sh.int_sole Sh.str_sole)).rose

mutual
/-- A node and all that is within it. -/
def allT : Nd → List Nd
  | .mk x ks => .mk x ks :: allS ks
def allS : List Nd → List Nd
  | [] => []
  | k :: ks => allT k ++ allS ks
end
theorem allS_one (t : Nd) : allS [t] = allT t := by simp [allS]
theorem all_le (T : Nd) : (allT T).length ≤ node.wt T + 1 := by
  induction T using ind with
  | h x ks ih =>
    have : (allS ks).length ≤ ks.length + node.wts ks := by
      clear x
      induction ks with
      | nil => simp [allS]
      | cons k ks ih2 =>
        have h1 := ih k (by simp)
        have h2 := ih2 fun q hq => ih q (by simp [hq])
        simp [allS, node.wts]
        omega
    simp [allT, node.wt]
    omega

/-- A list of data, and where it lies. -/
abbrev AtD (α : Type) := Option Addr × Nat × List α
def atSh {α : Type} (A : Sh α) : Sh (AtD α) where
  k := 1
  rep := fun w S cs x => cs = [.slice x.1 x.2.2.length x.2.1] ∧ A.slice.rep w S cs x.2.2
  len := by rintro _ _ _ _ ⟨rfl, _⟩; rfl
  on := fun h hb => ⟨h.1, A.slice.on h.2 hb⟩
  mono := fun h hb => ⟨h.1, A.slice.mono h.2 hb⟩
  one := by rintro _ _ _ _ ⟨rfl, _⟩ v hv; simp at hv; subst hv; rfl
abbrev PrD := AtD Nd × AtD ValueD
abbrev prSh : Sh PrD := (atSh ndSh).pair (atSh valueSh)

theorem pr_open {w : World} {S : Nat → Prop} {cs : List Value} {p : PrD} (h : prSh.rep w S cs p) :
    cs = [.slice p.1.1 p.1.2.2.length p.1.2.1, .slice p.2.1 p.2.2.2.length p.2.2.1] ∧ ndSh.slice.rep w S [.slice p.1.1 p.1.2.2.length p.1.2.1] p.1.2.2 ∧ valueSh.slice.rep w S [.slice p.2.1 p.2.2.2.length p.2.2.1] p.2.2.2 := by
  obtain ⟨c1, c2, rfl, ⟨rfl, h1⟩, ⟨rfl, h2⟩⟩ := h
  exact ⟨rfl, h1, h2⟩
theorem pr_shut {w : World} {S : Nat → Prop} {p : PrD} (h1 : ndSh.slice.rep w S [.slice p.1.1 p.1.2.2.length p.1.2.1] p.1.2.2) (h2 : valueSh.slice.rep w S [.slice p.2.1 p.2.2.2.length p.2.2.1] p.2.2.2) :
    prSh.rep w S [.slice p.1.1 p.1.2.2.length p.1.2.1, .slice p.2.1 p.2.2.2.length p.2.2.1] p := ⟨[_], [_], rfl, ⟨rfl, h1⟩, ⟨rfl, h2⟩⟩

def Cov (PS : List PrD) (k1 : Nd) (k2 : ValueD) : Prop := k1.x.1 = 20 → k1.kids = [] ∨ ∃ p ∈ PS, k1.kids <+: p.1.2.2 ∧ k2.kids <+: p.2.2.2
/-- A pattern fits a value but for what is in their kids, and these are met. -/
def One (PS : List PrD) (k1 : Nd) (k2 : ValueD) : Prop := (k1.x.1 = 17 ∨ k1.x.1 = 18) ∨ (Loc k1 k2 ∧ Cov PS k1 k2)
def Done (PS : List PrD) (p : PrD) : Prop := ∀ i (h : i < p.1.2.2.length) (h' : i < p.2.2.2.length), One PS p.1.2.2[i] p.2.2.2[i]
theorem One.more {PS PS' : List PrD} {k1 : Nd} {k2 : ValueD} (h : One PS k1 k2) (hs : ∀ p ∈ PS, p ∈ PS') : One PS' k1 k2 := by
  rcases h with h | ⟨h2, h3⟩
  · exact .inl h
  · refine .inr ⟨h2, fun e => ?_⟩
    rcases h3 e with h | ⟨p, hp, h⟩
    · exact .inl h
    · exact .inr ⟨p, hs p hp, h⟩
theorem Done.more {PS PS' : List PrD} {p : PrD} (h : Done PS p) (hs : ∀ p ∈ PS, p ∈ PS') : Done PS' p := fun i h1 h2 => (h i h1 h2).more hs

theorem pre_get {α : Type} {a b : List α} (h : a <+: b) {j : Nat} (hj : j < a.length) : ∃ hb : j < b.length, b[j] = a[j] := by
  obtain ⟨c, rfl⟩ := h
  exact ⟨by simp; omega, List.getElem_append_left hj⟩

/-- What fits is alike at its head; its kids fit. -/
theorem fits_loc {T : Nd} {V : ValueD} (h : FitsP T V) (h17 : ¬ (T.x.1 = 17 ∨ T.x.1 = 18)) : Loc T V := by
  obtain ⟨x, ks⟩ := T
  obtain ⟨y, vs⟩ := V
  simp only [Rose.x] at h17
  rcases fitsP_iff.1 h with h | h | h | h
  · exact absurd (.inl h) h17
  · exact absurd (.inr h) h17
  · exact .inl h
  · exact .inr ⟨h.1, h.2.1, h.2.2.1, h.2.2.2.1⟩
theorem fits_kids {T : Nd} {V : ValueD} (h : FitsP T V) (h20 : T.x.1 = 20) : ∀ i (h : i < T.kids.length) (h' : i < V.kids.length), FitsP T.kids[i] V.kids[i] := by
  obtain ⟨x, ks⟩ := T
  obtain ⟨y, vs⟩ := V
  simp only [Rose.x] at h20
  rcases fitsP_iff.1 h with h | h | h | h
  · omega
  · omega
  · omega
  · exact h.2.2.2.2

theorem all_fit {PS : List PrD} (h : ∀ p ∈ PS, Done PS p) (T : Nd) : ∀ p ∈ PS, ∀ i (h1 : i < p.1.2.2.length) (h2 : i < p.2.2.2.length), p.1.2.2[i] = T → FitsP T p.2.2.2[i] := by
  induction T using ind with
  | h x ks ih =>
    intro p hp i h1 h2 e
    have d := h p hp i h1 h2
    rw [e] at d
    generalize p.2.2.2[i] = V at d
    obtain ⟨y, vs⟩ := V
    rw [fitsP_iff]
    rcases d with d | ⟨d1, d2⟩
    · simp only [Rose.x] at d
      rcases d with d | d
      · exact .inl d
      · exact .inr (.inl d)
    · rcases d1 with d1 | d1
      · exact .inr (.inr (.inl d1))
      · simp only [Rose.x, Rose.kids] at d1
        refine .inr (.inr (.inr ⟨d1.1, d1.2.1, d1.2.2.1, d1.2.2.2, fun j hj1 hj2 => ?_⟩))
        rcases d2 d1.1 with hnil | ⟨q, hq, q1, q2⟩
        · simp only [Rose.kids] at hnil
          subst hnil
          simp at hj1
        · simp only [Rose.kids] at q1 q2
          obtain ⟨r1, e1⟩ := pre_get q1 hj1
          obtain ⟨r2, e2⟩ := pre_get q2 hj2
          have := ih ks[j] (List.getElem_mem hj1) q hq j r1 r2 e1
          rw [e2] at this
          exact this

/-- How much is still within a row of pairs. -/
def mu : List PrD → Nat
  | [] => 0
  | p :: st => (allS p.1.2.2).length + mu st
theorem mu_snoc (st : List PrD) (p : PrD) : mu (st ++ [p]) = mu st + (allS p.1.2.2).length := by
  induction st with
  | nil => simp [mu]
  | cons q st ih => simp [mu, ih]; omega
theorem mu_len (st : List PrD) (h : ∀ p ∈ st, 0 < p.1.2.2.length) : st.length ≤ mu st := by
  induction st with
  | nil => simp [mu]
  | cons q st ih =>
    have h1 := h q (by simp)
    have h2 := ih fun p hp => h p (by simp [hp])
    have : q.1.2.2.length ≤ (allS q.1.2.2).length := by
      have hst : ∀ l : List Nd, l.length ≤ (allS l).length := fun l => by
        induction l with
        | nil => simp [allS]
        | cons k ks ih => cases k with | mk x q => simp [allS, allT]; omega
      exact hst _
    simp [mu]; omega
theorem allS_drop {us : List Nd} {i : Nat} (h : i < us.length) : (allS (us.drop i)).length = (allS us[i].kids).length + 1 + (allS (us.drop (i + 1))).length := by
  rw [List.drop_eq_getElem_cons h]
  cases hk : us[i] with
  | mk x q => simp [allS, allT, Rose.kids]; omega

section
variable {P : Program} {kt : TypeId}

/-- WHAT HOLDS BETWEEN TWO STEPS: PS are the pairs that were met, st those that are still to be looked at, v the slice of these; W0 is the world in which all of them lie. -/
structure SInv (K : KeyKind P kt (Addr × Addr)) (t : TypeId) (W0 : World) (mb base : Nat) (A : Nd) (B : ValueD) (wr : World) (PS st : List PrD) (v : Value) : Prop where
  size : base ≤ wr.heap.size
  low : ∀ b, b < base → b ≠ mb → wr.heap[b]? = W0.heap[b]?
  rep : ∀ p ∈ PS, prSh.rep W0 (fun b => b < base ∧ b ≠ mb ∧ Plain W0 b) [.slice p.1.1 p.1.2.2.length p.1.2.1, .slice p.2.1 p.2.2.2.length p.2.2.1] p
  len : ∀ p ∈ PS, p.1.2.2.length = p.2.2.2.length ∧ 0 < p.1.2.2.length
  same : FitsP A B → ∀ p ∈ PS, ∀ i (h : i < p.1.2.2.length) (h' : i < p.2.2.2.length), FitsP p.1.2.2[i] p.2.2.2[i]
  first : ∃ p ∈ PS, p.1.2.2 = [A] ∧ p.2.2.2 = [B]
  map : ∃ m, KMap K wr mb m ∧ ∀ e ∈ m, ∃ p ∈ PS, p.1.1 = some e.1.1 ∧ p.2.1 = some e.1.2 ∧ e.2 = .int .i64 p.1.2.2.length
  row : rose.Own prSh t wr base (fun b => b < base ∧ b ≠ mb ∧ Plain W0 b) v st
  sub : ∀ p ∈ st, p ∈ PS

variable {K : KeyKind P kt (Addr × Addr)} {t : TypeId} {W0 wr : World} {mb base : Nat} {A : Nd} {B : ValueD} {PS st : List PrD} {v : Value}

theorem SInv.on {w' : World} (h : SInv K t W0 mb base A B wr PS st v) (hmb : mb < base) (hb : Below wr.heap.size wr w') : SInv K t W0 mb base A B w' PS st v where
  size := Nat.le_trans h.size hb.size
  low := fun b h1 h2 => (hb.block b (Nat.lt_of_lt_of_le h1 h.size)).trans (h.low b h1 h2)
  rep := h.rep
  len := h.len
  same := h.same
  first := h.first
  map := by
    obtain ⟨m, h1, h2⟩ := h.map
    exact ⟨m, h1.on (hb.block mb (Nat.lt_of_lt_of_le hmb h.size)), h2⟩
  row := h.row.on fun b hh => by
    rcases hh with hh | hh
    · exact hb.block b (Nat.lt_of_lt_of_le hh.1 h.size)
    · exact hb.block b hh
  sub := h.sub

/-- Where a pair that was met lies. -/
theorem SInv.plain (h : SInv K t W0 mb base A B wr PS st v) {p : PrD} (hp : p ∈ PS) {a1 a2 : Addr} (e1 : p.1.1 = some a1) (e2 : p.2.1 = some a2) : Plain wr a1.block ∧ Plain wr a2.block := by
  obtain ⟨-, r1, r2⟩ := pr_open (h.rep p hp)
  obtain ⟨hl, hl0⟩ := h.len p hp
  rw [e1] at r1
  rw [e2] at r2
  obtain ⟨_, _, css, e, -, -, hr, -⟩ := node.nds_open r1
  cases e
  obtain ⟨_, _, css', e, -, -, hr', -⟩ := value.values_open r2
  cases e
  obtain ⟨b, o, e, hS, -⟩ := hr 0 hl0
  cases e
  obtain ⟨b', o', e, hS', -⟩ := hr' 0 (by omega)
  cases e
  exact ⟨hS.2.2.on (h.low b hS.1 hS.2.1), hS'.2.2.on (h.low b' hS'.1 hS'.2.1)⟩

/-- The last pair is taken off the row. -/
theorem SInv.pop {p : PrD} {g cap : Nat} (h : SInv K t W0 mb base A B wr PS (st ++ [p]) (.slice (some ⟨g, 0, none⟩) (st.length + 1) cap)) : SInv K t W0 mb base A B wr PS st (.slice (some ⟨g, 0, none⟩) st.length cap) := by
  refine ⟨h.size, h.low, h.rep, h.len, h.same, h.first, h.map, ?_, fun q hq => h.sub q (by simp [hq])⟩
  obtain ⟨css, hown, hr⟩ := h.row
  simp only [List.length_append, List.length_cons, List.length_nil, Nat.zero_add] at hown hr
  have hcl : ∀ i, i < st.length + 1 → (css i).length = 2 := fun i hi => prSh.len (hr i hi)
  refine ⟨css, ?_, fun i hi => ?_⟩
  · have := shrink hown
    rwa [show prSh.k = 2 from rfl, rose.flat_take css st.length hcl] at this
  · have := hr i (by omega)
    rwa [List.getElem_append_left hi] at this

/-- What a slice of pairs looks like. -/
theorem SInv.top {p : PrD} (h : SInv K t W0 mb base A B wr PS (st ++ [p]) v) : ∃ g cap, v = .slice (some ⟨g, 0, none⟩) (st.length + 1) cap ∧ base ≤ g ∧ g < wr.heap.size ∧ st.length + 1 ≤ cap ∧ cap ≤ maxLen ∧
    wr.cell? ⟨g, st.length * 2, none⟩ = some (.slice p.1.1 p.1.2.2.length p.1.2.1) ∧ wr.cell? ⟨g, st.length * 2 + 1, none⟩ = some (.slice p.2.1 p.2.2.2.length p.2.2.1) := by
  obtain ⟨css, hown, hr⟩ := h.row
  simp only [List.length_append, List.length_cons, List.length_nil, Nat.zero_add] at hown hr
  have hcl : ∀ i, i < st.length + 1 → (css i).length = 2 := fun i hi => prSh.len (hr i hi)
  have hrt := hr st.length (by omega)
  rw [List.getElem_append_right (Nat.le_refl _)] at hrt
  simp only [Nat.sub_self, List.getElem_cons_zero] at hrt
  obtain ⟨hcs, -, -⟩ := pr_open hrt
  rcases hown.2 with ⟨_, h0⟩ | ⟨g, cap, cur, h1, h2, h3, h4, h5, h6, h7⟩
  · omega
  · subst h1
    have hg : g < wr.heap.size := (Array.getElem?_eq_some_iff.1 h3).1
    have e0 := own_cell hown hcl (i := st.length) (q := 0) (v := .slice p.1.1 p.1.2.2.length p.1.2.1) (by omega) (by rw [hcs]; rfl)
    have e1 := own_cell hown hcl (i := st.length) (q := 1) (v := .slice p.2.1 p.2.2.2.length p.2.2.1) (by omega) (by rw [hcs]; rfl)
    exact ⟨g, cap, rfl, h2, hg, h4, h5, e0, e1⟩
theorem SInv.bot (h : SInv K t W0 mb base A B wr PS [] v) : ∃ a c, v = .slice a 0 c := by
  obtain ⟨css, hown, -⟩ := h.row
  rcases hown.2 with ⟨h, _⟩ | ⟨g, c, cur, h, _⟩
  · exact ⟨_, _, h⟩
  · exact ⟨_, _, h⟩

/-- A pair is met: the map has it. -/
theorem SInv.meet {w' : World} {p : PrD} (h : SInv K t W0 mb base A B wr PS st v) (hmb : mb < base) (hr : prSh.rep W0 (fun b => b < base ∧ b ≠ mb ∧ Plain W0 b) [.slice p.1.1 p.1.2.2.length p.1.2.1, .slice p.2.1 p.2.2.2.length p.2.2.1] p)
    (hl : p.1.2.2.length = p.2.2.2.length ∧ 0 < p.1.2.2.length) (hs : FitsP A B → ∀ i (h : i < p.1.2.2.length) (h' : i < p.2.2.2.length), FitsP p.1.2.2[i] p.2.2.2[i]) {a1 a2 : Addr} (e1 : p.1.1 = some a1) (e2 : p.2.1 = some a2) {m m' : List ((Addr × Addr) × Value)} (hm : ∀ e ∈ m, ∃ p ∈ PS, p.1.1 = some e.1.1 ∧ p.2.1 = some e.1.2 ∧ e.2 = .int .i64 p.1.2.2.length)
    (hm' : KMap K w' mb m') (hmm : ∀ e ∈ m', e ∈ m ∨ e = ((a1, a2), .int .i64 p.1.2.2.length)) (hg : wr.grownBy w' (some mb)) : SInv K t W0 mb base A B w' (PS ++ [p]) st v := by
  have hz : wr.heap.size ≤ w'.heap.size := hg.size
  have hbk : ∀ b, b < wr.heap.size → b ≠ mb → w'.heap[b]? = wr.heap[b]? := fun b h1 h2 => hg.block b h1 fun e => h2 (Option.some.inj e)
  refine ⟨Nat.le_trans h.size hz, fun b h1 h2 => (hbk b (Nat.lt_of_lt_of_le h1 h.size) h2).trans (h.low b h1 h2), ?_, ?_, ?_, ?_, ⟨m', hm', ?_⟩, ?_, fun q hq => by simp [h.sub q hq]⟩
  · intro q hq
    rcases List.mem_append.1 hq with hq | hq
    · exact h.rep q hq
    · simp only [List.mem_singleton] at hq; subst hq; exact hr
  · intro q hq
    rcases List.mem_append.1 hq with hq | hq
    · exact h.len q hq
    · simp only [List.mem_singleton] at hq; subst hq; exact hl
  · intro e q hq
    rcases List.mem_append.1 hq with hq | hq
    · exact h.same e q hq
    · simp only [List.mem_singleton] at hq; subst hq; exact hs e
  · obtain ⟨q, hq, h'⟩ := h.first
    exact ⟨q, by simp [hq], h'⟩
  · intro e he
    rcases hmm e he with he | rfl
    · obtain ⟨q, hq, h'⟩ := hm e he
      exact ⟨q, by simp [hq], h'⟩
    · exact ⟨p, by simp, e1, e2, rfl⟩
  · obtain ⟨css, ⟨hl2, hv⟩, hr2⟩ := h.row
    refine ⟨css, ⟨hl2, ?_⟩, fun i hi => prSh.on (hr2 i hi) fun b hS => hbk b (Nat.lt_of_lt_of_le hS.1 h.size) hS.2.1⟩
    rcases hv with h0 | ⟨g, cap, cur, h1, h2, h3, h4⟩
    · exact Or.inl h0
    · have hg : g < wr.heap.size := (Array.getElem?_eq_some_iff.1 h3).1
      exact Or.inr ⟨g, cap, cur, h1, h2, by rw [hbk g hg (by omega)]; exact h3, h4⟩

/-- It is laid behind the others. -/
theorem SInv.push {w' : World} {p : PrD} {v' : Value} (h : SInv K t W0 mb base A B wr PS st v) (hmb : mb < base) (hp : p ∈ PS) {css : Nat → List Value} (hv : wr.ownsRow base t 2 v st.length (flat css st.length)) (hcr : ∀ i (h : i < st.length), prSh.rep wr (fun b => b < base ∧ b ≠ mb ∧ Plain W0 b) (css i) st[i])
    (hv' : w'.ownsRow base t 2 v' (st.length + 1) (flat css st.length ++ [.slice p.1.1 p.1.2.2.length p.1.2.1, .slice p.2.1 p.2.2.2.length p.2.2.1])) (hg : wr.grownBy w' v.ownBlock) : SInv K t W0 mb base A B w' PS (st ++ [p]) v' := by
  have hz : wr.heap.size ≤ w'.heap.size := hg.size
  have hown : ∀ b, b < base → v.ownBlock ≠ some b := fun b hb e => by
    have := (World.ownsRow.lt hv b e).1
    omega
  have hbk : ∀ b, b < base → w'.heap[b]? = wr.heap[b]? := fun b h1 => hg.block b (Nat.lt_of_lt_of_le h1 h.size) fun e => hown b h1 e.symm
  refine ⟨Nat.le_trans h.size hz, fun b h1 h2 => (hbk b h1).trans (h.low b h1 h2), h.rep, h.len, h.same, h.first, ?_, ?_, ?_⟩
  · obtain ⟨m, h1, h2⟩ := h.map
    exact ⟨m, h1.on (hbk mb hmb), h2⟩
  · have hrp : prSh.rep wr (fun b => b < base ∧ b ≠ mb ∧ Plain W0 b) [.slice p.1.1 p.1.2.2.length p.1.2.1, .slice p.2.1 p.2.2.2.length p.2.2.1] p := prSh.on (h.rep p hp) fun b hS => h.low b hS.1 hS.2.1
    have := Own.more (A := prSh) (t := t) (xs := st) (ys := [p]) (css := css) (css2 := fun _ => [.slice p.1.1 p.1.2.2.length p.1.2.1, .slice p.2.1 p.2.2.2.length p.2.2.1]) hv hcr
      (fun i hi => by have : i = 0 := by simp at hi; omega
                      subst this; exact hrp) (fun b hS => hS.1) h.size (v' := v') (w' := w') (by rw [show flat (fun _ => [Value.slice p.1.1 p.1.2.2.length p.1.2.1, .slice p.2.1 p.2.2.2.length p.2.2.1]) [p].length = [.slice p.1.1 p.1.2.2.length p.1.2.1, .slice p.2.1 p.2.2.2.length p.2.2.1] by simp [flat]]; exact hv') hg
    exact this
  · intro q hq
    rcases List.mem_append.1 hq with hq | hq
    · exact h.sub q hq
    · simp only [List.mem_singleton] at hq; subst hq; exact hp

/-- All that was met is done: it fits. -/
theorem SInv.fin (h : SInv K t W0 mb base A B wr PS [] v) (hd : ∀ p ∈ PS, Done PS p) : FitsP A B := by
  obtain ⟨p, hp, h1, h2⟩ := h.first
  have := all_fit hd A p hp 0 (by rw [h1]; simp) (by rw [h2]; simp) (by simp [h1])
  simpa only [h2, List.getElem_cons_zero] using this

/-- What was met where two lists lie, at least as long: it covers them. -/
theorem SInv.cov {a1 a2 : Addr} {L : Int} {k1 : Nd} {k2 : ValueD} {c1 c2 : Nat} {m : List ((Addr × Addr) × Value)} (h : SInv K t W0 mb base A B wr PS st v) (hm : ∀ e ∈ m, ∃ p ∈ PS, p.1.1 = some e.1.1 ∧ p.2.1 = some e.1.2 ∧ e.2 = .int .i64 p.1.2.2.length)
    (hL : ((a1, a2), .int .i64 L) ∈ m) (h1 : ndSh.slice.rep W0 (fun b => b < base ∧ b ≠ mb ∧ Plain W0 b) [.slice (some a1) k1.kids.length c1] k1.kids) (h2 : valueSh.slice.rep W0 (fun b => b < base ∧ b ≠ mb ∧ Plain W0 b) [.slice (some a2) k2.kids.length c2] k2.kids)
    (hl : k1.kids.length = k2.kids.length) (hle : (k1.kids.length : Int) ≤ L) : Cov PS k1 k2 := by
  obtain ⟨p, hp, e1, e2, e3⟩ := hm _ hL
  simp only [Value.int.injEq, true_and] at e3
  obtain ⟨-, r1, r2⟩ := pr_open (h.rep p hp)
  have hpl := (h.len p hp).1
  rw [e1] at r1
  rw [e2] at r2
  refine fun _ => .inr ⟨p, hp, ?_, ?_⟩
  · rw [nd_sole.take h1 r1 (by omega)]; exact List.take_prefix _ _
  · rw [value_sole.take h2 r2 (by omega)]; exact List.take_prefix _ _
end

end Go.Proofs.YtpdmdcoaaboikaaGreatDoor.fits
