/-
  Where a copy of a tree stands that is made in rows that are gone through: the rows that are still to be gone through lie on a stack; what each step leaves. No program is named.
-/
import Derived.Test.YtdfpihnddclccaaCopyWand
namespace Go.Proofs.Ytdfpihnddclccaa.rose
open Go Go.RowKit Go.Deep Go.ChangeShapes Go.WideShapes
set_option linter.unusedVariables false

def crows {α : Type} (st : List (CT α)) : List Value := (st.map CT.v).reverse
theorem crows_cons {α : Type} (k : CT α) (st : List (CT α)) : crows (k :: st) = crows st ++ [k.v] := by simp [crows]
theorem crows_length {α : Type} (st : List (CT α)) : (crows st).length = st.length := by simp [crows]

/-- A row that is still to be gone through: its cells are what came in, below lo. -/
def CTok {α : Type} (A : Sh α) (t : TypeId) (w1 wr : World) (lo : Nat) (D : Nat → Prop) (k : CT α) : Prop :=
  (k.ts = [] ∧ k.v = .slice none 0 0) ∨ ∃ (g cap : Nat) (cur : Array Value) (css : Nat → List Value), k.v = .slice (some ⟨g, 0, none⟩) k.ts.length cap ∧ 0 < k.ts.length ∧ k.ts.length ≤ cap ∧ cap ≤ maxLen ∧ wr.heap[g]? = some (.cells cur t) ∧ k.ts.length * (A.k + 1) ≤ cur.size ∧ lo ≤ g ∧ ¬ D g ∧
    ∀ i (h : i < k.ts.length), CellsAt wr g (i * (A.k + 1)) (css i) ∧ A.rose.rep w1 (· < lo) (css i) k.ts[i]

structure CBs {α : Type} (A : Sh α) (t tsl : TypeId) (w1 wr : World) (lo base : Nat) (v : Value) (st : List (CT α)) (D : Nat → Prop) : Prop where
  bel : Below lo w1 wr
  low : lo ≤ base
  size : base ≤ wr.heap.size
  row : wr.ownsRow base tsl 1 v st.length (crows st)
  tk : ∀ k ∈ st, CTok A t w1 wr lo D k
  own : ∀ g, v.ownBlock = some g → (∀ k ∈ st, k.v.ownBlock ≠ some g) ∧ ¬ D g
  dist : st.Pairwise fun a b => ∀ g, a.v.ownBlock = some g → b.v.ownBlock ≠ some g
  dn : ∀ b, D b → lo ≤ b ∧ b < wr.heap.size

section
variable {α : Type} {A : Sh α} {t tsl : TypeId} {w1 wr wr' : World} {lo base : Nat} {v v' : Value} {st : List (CT α)} {D : Nat → Prop} {k : CT α}

theorem CTok.on (h : CTok A t w1 wr lo D k) (hb : ∀ g, k.v.ownBlock = some g → g < wr.heap.size → wr'.heap[g]? = wr.heap[g]?) : CTok A t w1 wr' lo D k := by
  rcases h with h | ⟨g, cap, cur, css, h1, h2, h3, h4, h5, h6, h7, h8, h9⟩
  · exact Or.inl h
  · have e := hb g (by rw [h1]; rfl) (Array.getElem?_eq_some_iff.1 h5).1
    exact Or.inr ⟨g, cap, cur, css, h1, h2, h3, h4, e.trans h5, h6, h7, h8, fun i hi => ⟨(h9 i hi).1.on e, (h9 i hi).2⟩⟩
theorem CTok.lt (h : CTok A t w1 wr lo D k) {g : Nat} (hg : k.v.ownBlock = some g) : lo ≤ g ∧ g < wr.heap.size ∧ ¬ D g := by
  rcases h with ⟨_, h⟩ | ⟨g', cap, cur, css, h1, h2, h3, h4, h5, h6, h7, h8, h9⟩
  · rw [h] at hg; cases hg
  · rw [h1] at hg
    simp only [Value.ownBlock, Option.some.injEq] at hg
    subst hg
    exact ⟨h7, (Array.getElem?_eq_some_iff.1 h5).1, h8⟩
theorem CTok.more {D' : Nat → Prop} (h : CTok A t w1 wr lo D k) (hd : ∀ g, k.v.ownBlock = some g → ¬ D' g) : CTok A t w1 wr lo D' k := by
  rcases h with h | ⟨g, cap, cur, css, h1, h2, h3, h4, h5, h6, h7, h8, h9⟩
  · exact Or.inl h
  · exact Or.inr ⟨g, cap, cur, css, h1, h2, h3, h4, h5, h6, h7, hd g (by rw [h1]; rfl), h9⟩

theorem CBs.ownge (h : CBs A t tsl w1 wr lo base v st D) {g : Nat} (hg : v.ownBlock = some g) : base ≤ g ∧ g < wr.heap.size := by
  rcases h.row.2 with ⟨rfl, _⟩ | ⟨q, cap, cur, rfl, h2, h3, _⟩
  · cases hg
  · simp only [Value.ownBlock, Option.some.injEq] at hg
    subst hg
    exact ⟨h2, (Array.getElem?_eq_some_iff.1 h3).1⟩

/-- A block x that is none of these has turned. -/
theorem CBs.on (h : CBs A t tsl w1 wr lo base v st D) (hbel : Below lo w1 wr') (hs : wr.heap.size ≤ wr'.heap.size) (x : Nat) (hb : ∀ b, b < wr.heap.size → b ≠ x → wr'.heap[b]? = wr.heap[b]?) (hx3 : ∀ k ∈ st, k.v.ownBlock ≠ some x) (hx4 : v.ownBlock ≠ some x) : CBs A t tsl w1 wr' lo base v st D where
  bel := hbel
  low := h.low
  size := Nat.le_trans h.size hs
  row := by
    obtain ⟨hl, hv⟩ := h.row
    refine ⟨hl, ?_⟩
    rcases hv with h0 | ⟨q, cap, cur, h1, h2, h3, h4⟩
    · exact Or.inl h0
    · exact Or.inr ⟨q, cap, cur, h1, h2, by rw [hb q (Array.getElem?_eq_some_iff.1 h3).1 (fun e => hx4 (by rw [h1, ← e]; rfl))]; exact h3, h4⟩
  tk := fun k hk => (h.tk k hk).on fun g hg hl => hb g hl fun e => hx3 k hk (e ▸ hg)
  own := h.own
  dist := h.dist
  dn := fun b hD => ⟨(h.dn b hD).1, Nat.lt_of_lt_of_le (h.dn b hD).2 hs⟩

theorem CBs.slice (h : CBs A t tsl w1 wr lo base v (k :: st) D) : ∃ gs cap, v = .slice (some ⟨gs, 0, none⟩) (st.length + 1) cap ∧ st.length + 1 ≤ cap ∧ cap ≤ maxLen := by
  rcases h.row.2 with ⟨_, h0⟩ | ⟨q, cap, cur, h1, h2, h3, h4, h5, _⟩
  · simp at h0
  · exact ⟨q, cap, h1, h4, h5⟩

theorem CBs.top {gs cap : Nat} (h : CBs A t tsl w1 wr lo base (.slice (some ⟨gs, 0, none⟩) (st.length + 1) cap) (k :: st) D) : wr.cell? ⟨gs, st.length, none⟩ = some k.v := by
  have hc := h.row.cells (g := gs) rfl
  have := hc st.length k.v (by rw [crows_cons, List.getElem?_append_right (by rw [crows_length]; exact Nat.le_refl _), crows_length, Nat.sub_self]; rfl)
  rwa [add_plain, Nat.zero_add] at this

theorem CBs.pop {gs cap : Nat} (h : CBs A t tsl w1 wr lo base (.slice (some ⟨gs, 0, none⟩) (st.length + 1) cap) (k :: st) D) : CBs A t tsl w1 wr lo base (.slice (some ⟨gs, 0, none⟩) st.length cap) st D where
  bel := h.bel
  low := h.low
  size := h.size
  row := by
    have := shrink h.row
    rw [crows_cons, Nat.mul_one, List.take_left' (crows_length st)] at this
    exact this
  tk := fun k hk => h.tk k (List.mem_cons_of_mem _ hk)
  own := fun g hg => ⟨fun k hk => (h.own g hg).1 k (List.mem_cons_of_mem _ hk), (h.own g hg).2⟩
  dist := (List.pairwise_cons.1 h.dist).2
  dn := h.dn

theorem CBs.push (h : CBs A t tsl w1 wr lo base v st D) (ho : wr'.ownsRow base tsl 1 v' (st.length + 1) (crows st ++ [k.v])) (hg : wr.grownBy wr' v.ownBlock) (hat : v'.ownBlock = v.ownBlock ∨ v'.ownBlock = some wr.heap.size)
    (hk : CTok A t w1 wr lo D k) (hn : ∀ g, k.v.ownBlock = some g → v.ownBlock ≠ some g) (hd : ∀ q ∈ st, ∀ g, k.v.ownBlock = some g → q.v.ownBlock ≠ some g) : CBs A t tsl w1 wr' lo base v' (k :: st) D := by
  have same : ∀ b, b < wr.heap.size → v.ownBlock ≠ some b → wr'.heap[b]? = wr.heap[b]? := fun b h1 h2 => hg.block b h1 fun e => h2 e.symm
  have hsz := h.size
  have hlw := h.low
  refine ⟨h.bel.grown hg (by omega) (fun g e => by have := (h.ownge e).1; omega), h.low, Nat.le_trans hsz hg.size, ?_, ?_, ?_, List.pairwise_cons.2 ⟨hd, h.dist⟩, ?_⟩
  · rw [crows_cons, List.length_cons]; exact ho
  · intro q hq
    rcases List.mem_cons.1 hq with rfl | hq
    · exact hk.on fun g e hl => same g hl (hn g e)
    · exact (h.tk q hq).on fun g e hl => same g hl fun e2 => (h.own g e2).1 q hq e
  · intro g e
    rcases hat with h1 | h1
    · have e' := h1.symm.trans e
      refine ⟨fun q hq => ?_, (h.own g e').2⟩
      rcases List.mem_cons.1 hq with rfl | hq
      · exact fun e2 => hn g e2 e'
      · exact (h.own g e').1 q hq
    · rw [h1] at e
      simp only [Option.some.injEq] at e
      refine ⟨fun q hq e2 => ?_, fun hD => by have := (h.dn g hD).2; omega⟩
      rcases List.mem_cons.1 hq with rfl | hq
      · have := (hk.lt e2).2.1; omega
      · have := ((h.tk q hq).lt e2).2.1; omega
  · exact fun b hD => ⟨(h.dn b hD).1, Nat.lt_of_lt_of_le (h.dn b hD).2 hg.size⟩

/-- .. within the row that is gone through: i of its elements are done. -/
structure CIn (A : Sh α) (t tsl : TypeId) (w1 wr : World) (lo base : Nat) (v : Value) (st : List (CT α)) (D : Nat → Prop) (ts : List (Rose α)) (g i : Nat) (v0 : Value) (Ts : List (Rose α)) (gk : Nat) : Prop where
  bs : CBs A t tsl w1 wr lo base v st D
  wand : CWand2 A t wr D st ts g i v0 Ts
  gb : ∃ cur, wr.heap[g]? = some (.cells cur t) ∧ ts.length * (A.k + 1) ≤ cur.size
  gr : lo ≤ g ∧ ¬ D g ∧ v.ownBlock ≠ some g ∧ ∀ k ∈ st, k.v.ownBlock ≠ some g
  src : ∃ css : Nat → List Value, ∀ j (h : j < ts.length), i ≤ j → CellsAt wr g (j * (A.k + 1)) (css j) ∧ A.rose.rep w1 (· < lo) (css j) ts[j]
  cnt : 2 * cnodes st + st.length + 2 * rns (ts.drop i) < gk

variable {ts Ts : List (Rose α)} {g i gk cap gs : Nat} {v0 : Value} {cs : List Value}

theorem CIn.glt (h : CIn A t tsl w1 wr lo base v st D ts g i v0 Ts gk) : g < wr.heap.size := by
  obtain ⟨cur, h1, _⟩ := h.gb
  exact (Array.getElem?_eq_some_iff.1 h1).1

/-- A row is taken off the stack. -/
theorem CIn.start (h : CBs A t tsl w1 wr lo base (.slice (some ⟨gs, 0, none⟩) (st.length + 1) cap) (⟨ts, v⟩ :: st) D) (hw : CWand A wr D (⟨ts, v⟩ :: st) v0 Ts) (h0 : 0 < ts.length) (hgk : 2 * cnodes ((⟨ts, v⟩ : CT α) :: st) + (st.length + 1) = gk) :
    ∃ g c, v = .slice (some ⟨g, 0, none⟩) ts.length c ∧ ts.length ≤ c ∧ c ≤ maxLen ∧ CIn A t tsl w1 wr lo base (.slice (some ⟨gs, 0, none⟩) st.length cap) st D ts g 0 v0 Ts gk := by
  have hm : (⟨ts, v⟩ : CT α) ∈ (⟨ts, v⟩ : CT α) :: st := List.mem_cons_self
  rcases h.tk _ hm with ⟨h1, _⟩ | ⟨g, c, cur, css, h1, h2, h3, h4, h5, h6, h7, h8, h9⟩
  · simp only at h1; subst h1; simp at h0
  · simp only at h1 h2 h3 h6 h9
    subst h1
    refine ⟨g, c, rfl, h3, h4, h.pop, hw.open h8 h3 h4, ⟨cur, h5, h6⟩, ⟨h7, h8, fun e => (h.own g e).1 _ hm rfl, fun k hk => (List.pairwise_cons.1 h.dist).1 k hk g rfl⟩, ⟨css, fun j hj _ => h9 j hj⟩, ?_⟩
    simp only [cnodes] at hgk
    simp only [List.drop_zero]
    omega

/-- A row of none is taken off the stack. -/
theorem CBs.none (h : CBs A t tsl w1 wr lo base (.slice (some ⟨gs, 0, none⟩) (st.length + 1) cap) (⟨[], v⟩ :: st) D) (hw : CWand A wr D (⟨[], v⟩ :: st) v0 Ts) : v = .slice .none 0 0 ∧ CBs A t tsl w1 wr lo base (.slice (some ⟨gs, 0, .none⟩) st.length cap) st D ∧ CWand A wr D st v0 Ts := by
  have hm : (⟨[], v⟩ : CT α) ∈ (⟨[], v⟩ : CT α) :: st := List.mem_cons_self
  rcases h.tk _ hm with ⟨_, h1⟩ | ⟨g, c, cur, css, h1, h2, _⟩
  · simp only at h1
    subst h1
    exact ⟨rfl, h.pop, hw.skip⟩
  · simp at h2

/-- An element is put; its kids' row lies on the stack. -/
theorem CIn.more {w3 w4 w5 : World} (h : CIn A t tsl w1 wr lo base v st D ts g i v0 Ts gk) (hi : i < ts.length) (hbel : Below lo w1 w3) (hs : wr.heap.size ≤ w3.heap.size) (hb : ∀ b, b < wr.heap.size → b ≠ g → w3.heap[b]? = wr.heap[b]?)
    (hgb : ∃ cur, w3.heap[g]? = some (.cells cur t) ∧ ts.length * (A.k + 1) ≤ cur.size) (hout : ∀ q, (q < i * (A.k + 1) ∨ (i + 1) * (A.k + 1) ≤ q) → w3.cell? ⟨g, q, none⟩ = wr.cell? ⟨g, q, none⟩) (hx : CellsAt w3 g (i * (A.k + 1)) cs) (hl : cs.length = A.k + 1)
    (hr : ∀ w' F, A.srose.sslice.rep w' F [k.v] k.ts → A.srose.rep w' F cs ts[i]) (hk : k.ts = ts[i].kids) (hkt : CTok A t w1 w3 lo D k) (hkn : ∀ q, k.v.ownBlock = some q → wr.heap.size ≤ q)
    (h4 : Below w3.heap.size w3 w4) (ho : w5.ownsRow base tsl 1 v' (st.length + 1) (crows st ++ [k.v])) (hg : w4.grownBy w5 v.ownBlock) (hat : v'.ownBlock = v.ownBlock ∨ v'.ownBlock = some w4.heap.size) :
    CIn A t tsl w1 w5 lo base v' (k :: st) D ts g (i + 1) v0 Ts gk := by
  have hsz := h.bs.size
  have hlw := h.bs.low
  have hgl := h.glt
  have B3 := h.bs.on hbel hs g hb h.gr.2.2.2 h.gr.2.2.1
  have B4 := B3.on (hbel.trans (h4.mono (by omega))) h4.size w3.heap.size (fun b h1 _ => h4.block b h1) (fun q hq e => by have := ((B3.tk q hq).lt e).2.1; omega) (fun e => by have := (B3.ownge e).2; omega)
  have hk4 : CTok A t w1 w4 lo D k := hkt.on fun q e hl => h4.block q hl
  have B5 := B4.push ho hg hat hk4 (fun q e e2 => by have := hkn q e; have := (h.bs.ownge e2).2; omega) (fun q hq q' e e2 => by have := hkn q' e; have := ((h.bs.tk q hq).lt e2).2.1; omega)
  have s5 : ∀ b, b < w4.heap.size → v.ownBlock ≠ some b → w5.heap[b]? = w4.heap[b]? := fun b h1 h2 => hg.block b h1 fun e => h2 e.symm
  have g3 : g < w3.heap.size := by omega
  have e5 : w5.heap[g]? = w3.heap[g]? := (s5 g (by have := h4.size; omega) h.gr.2.2.1).trans (h4.block g g3)
  have c5 : ∀ q, w5.cell? ⟨g, q, none⟩ = w3.cell? ⟨g, q, none⟩ := fun q => World.cell?_of_block (w := w3) (a := ⟨g, q, none⟩) e5
  refine ⟨B5, ?_, ?_, ⟨h.gr.1, h.gr.2.1, ?_, ?_⟩, ?_, ?_⟩
  · refine h.wand.more hi (fun b hD => ?_) (fun q hq => (c5 q).trans (hout q (Or.inl hq))) (fun q u hq => by rw [c5]; exact hx q u hq) hl hr
    have hbl := (h.bs.dn b hD).2
    exact (s5 b (by have := h4.size; omega) fun e => (h.bs.own b e).2 hD).trans ((h4.block b (by omega)).trans (hb b hbl fun e => h.gr.2.1 (e ▸ hD)))
  · obtain ⟨cur, h1, h2⟩ := hgb
    exact ⟨cur, e5.trans h1, h2⟩
  · rcases hat with h1 | h1
    · rw [h1]; exact h.gr.2.2.1
    · rw [h1]; intro e; simp only [Option.some.injEq] at e; have := h4.size; omega
  · intro q hq
    rcases List.mem_cons.1 hq with rfl | hq
    · intro e; have := hkn _ e; omega
    · exact h.gr.2.2.2 q hq
  · obtain ⟨css, hcss⟩ := h.src
    refine ⟨css, fun j hj hij => ⟨fun q u hq => ?_, (hcss j hj (by omega)).2⟩⟩
    have h1 := (hcss j hj (by omega)).1 q u hq
    have : (i + 1) * (A.k + 1) ≤ j * (A.k + 1) := Nat.mul_le_mul_right _ hij
    rw [c5, hout _ (Or.inr (by omega))]
    exact h1
  · have := h.cnt
    rw [rns_drop hi, ← hk] at this
    simp only [cnodes, List.length_cons]
    omega

/-- The row is gone through. -/
theorem CIn.done (h : CIn A t tsl w1 wr lo base v st D ts g ts.length v0 Ts gk) : CBs A t tsl w1 wr lo base v st (fun b => D b ∨ b = g) ∧ CWand A wr (fun b => D b ∨ b = g) st v0 Ts ∧ 2 * cnodes st + st.length < gk := by
  refine ⟨⟨h.bs.bel, h.bs.low, h.bs.size, h.bs.row, fun q hq => (h.bs.tk q hq).more fun b hb e => e.elim ((h.bs.tk q hq).lt hb).2.2 fun e => h.gr.2.2.2 q hq (e ▸ hb), fun g' e => ⟨(h.bs.own g' e).1, fun e2 => e2.elim (h.bs.own g' e).2 fun e3 => h.gr.2.2.1 (e3 ▸ e)⟩, h.bs.dist, fun b hD => hD.elim (h.bs.dn b) fun e => by subst e; exact ⟨h.gr.1, h.glt⟩⟩, h.wand.done (by obtain ⟨cur, h1, _⟩ := h.gb; exact ⟨cur, h1⟩), ?_⟩
  have := h.cnt
  rw [List.drop_length] at this
  simpa [rns] using this

/-- The stack's length and each row's. -/
theorem cnodes_mem {k : CT α} (hk : k ∈ st) : rns k.ts ≤ cnodes st := by
  induction st with
  | nil => cases hk
  | cons a st ih =>
    rcases List.mem_cons.1 hk with rfl | hk
    · simp only [cnodes]; omega
    · have := ih hk; simp only [cnodes]; omega
end

/-- Cells of an element are put into a row. -/
theorem put_cells {w1 : World} {g i K : Nat} {cur : Array Value} {t : TypeId} (h : w1.heap[g]? = some (.cells cur t)) (hs : (i + 1) * K ≤ cur.size) (cs : List Value) (hl : cs.length = K) :
    (w1.setCells g (i * K) cs).heap.size = w1.heap.size ∧ (∀ b, b ≠ g → (w1.setCells g (i * K) cs).heap[b]? = w1.heap[b]?) ∧ (∃ cur', (w1.setCells g (i * K) cs).heap[g]? = some (.cells cur' t) ∧ cur'.size = cur.size) ∧ CellsAt (w1.setCells g (i * K) cs) g (i * K) cs ∧
      (∀ q, (q < i * K ∨ (i + 1) * K ≤ q) → (w1.setCells g (i * K) cs).cell? ⟨g, q, none⟩ = w1.cell? ⟨g, q, none⟩) ∧ (∀ B, B ≤ g → Below B w1 (w1.setCells g (i * K) cs)) := by
  have hsucc : (i + 1) * K = i * K + K := Nat.succ_mul _ _
  refine ⟨setCells_size _ _ _ _, fun b hb => setCells_other g hb _ _ _, setCells_block g cs (i * K) w1 cur h, fun j v hj => ?_, fun q hq => ?_, fun B hB => setCells_below hB _ _⟩
  · have hjl : j < cs.length := by
      rcases Nat.lt_or_ge j cs.length with h' | h'
      · exact h'
      · rw [List.getElem?_eq_none h'] at hj; cases hj
    have := World.cell?_setCells_in g cs (i * K) w1 (fun q' hq' => by simp [World.cell?, h]; omega) j hjl
    rw [this]
    rw [List.getElem?_eq_getElem hjl] at hj
    exact hj
  · exact World.cell?_setCells_out g cs (i * K) w1 _ (fun _ _ => by simp; omega)

end Go.Proofs.Ytdfpihnddclccaa.rose
