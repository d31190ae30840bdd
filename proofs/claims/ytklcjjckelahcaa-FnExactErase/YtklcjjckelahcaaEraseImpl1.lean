/-
  Where the program's Erase stands: the rows that are still to be filled lie on its stack; the steps of its loops.
-/
import Derived.Test.YtklcjjckelahcaaEraseWand
import Derived.Test.YtklcjjckelahcaaOwnMore
namespace Go.Proofs.Ytklcjjckelahcaa.typed
open Go.RowKit Go.Proofs.Ytklcjjckelahcaa.rose Go.Proofs.Ytklcjjckelahcaa
set_option linter.unusedVariables false

/-- Blocks of what is made; blocks in which what came in lies. -/
def R (w : World) (b : Nat) : Prop := b = w.heap.size + 2 ∨ w.heap.size + 5 ≤ b
def Qf (w : World) (b : Nat) : Prop := b < w.heap.size ∨ b = w.heap.size + 3

def rows (st : List Tk) : List Value := st.reverse.flatMap Tk.cells
theorem rows_cons (k : Tk) (st : List Tk) : rows (k :: st) = rows st ++ k.cells := by simp [rows]
theorem rows_length (st : List Tk) : (rows st).length = st.length * 2 := by
  induction st with
  | nil => rfl
  | cons k st ih => rw [rows_cons, List.length_append, ih]; simp [Tk.cells]; omega

mutual
/-- How many nodes. -/
def nn : TypedD → Nat
  | .mk _ ks => 1 + nns ks
def nns : List TypedD → Nat
  | [] => 0
  | k :: ks => nn k + nns ks
end
def nodes : List Tk → Nat
  | [] => 0
  | k :: st => nns k.ts + nodes st
theorem nn_le (T : TypedD) : nn T ≤ 1 + wt T := by
  induction T using ind with
  | h x ks ih =>
    have key : ∀ l : List TypedD, (∀ k ∈ l, nn k ≤ 1 + wt k) → nns l ≤ l.length + wts l := by
      intro l
      induction l with
      | nil => intro _; simp [nns]
      | cons a l ih2 =>
        intro h
        have h1 := h a (by simp)
        have h2 := ih2 fun k hk => h k (by simp [hk])
        simp only [nns, wts, List.length_cons]
        omega
    have := key ks ih
    obtain ⟨x0, x1, x2, x3, x4, x5, x6⟩ := x
    simp only [nn, wt]
    omega
theorem nns_pos {l : List TypedD} : l.length ≤ nns l := by
  induction l with
  | nil => simp [nns]
  | cons a l ih =>
    obtain ⟨x, ks⟩ := a
    simp only [nns, nn, List.length_cons]
    omega
theorem nns_drop {ts : List TypedD} {i : Nat} (h : i < ts.length) : nns (ts.drop i) = 1 + nns ts[i].kids + nns (ts.drop (i + 1)) := by
  rw [List.drop_eq_getElem_cons h, nns]
  generalize ts[i] = t
  obtain ⟨x, ks⟩ := t
  simp [nn, Rose.kids]

theorem len_nodes {st : List Tk} (h : ∀ k ∈ st, 0 < k.ts.length) : st.length ≤ nodes st := by
  induction st with
  | nil => simp [nodes]
  | cons k st ih =>
    have h1 := ih fun q hq => h q (List.mem_cons_of_mem _ hq)
    have h2 := h k List.mem_cons_self
    have h3 := nns_pos (l := k.ts)
    simp only [nodes, List.length_cons]
    omega

structure Bs (w wr : World) (v : Value) (st : List Tk) (D : Nat → Prop) : Prop where
  bel : Below w.heap.size w wr
  size : w.heap.size + 5 ≤ wr.heap.size
  res : wr.heap[w.heap.size + 1]? = some (.cells #[.int .i64 0, .int .i64 0, .string ⟨#[]⟩, .string ⟨#[]⟩, .slice none 0 0] 32)
  reps : ∀ k ∈ st, typedSh.slice.rep wr (Qf w) [k.vf] k.ts
  row : wr.ownsRow (w.heap.size + 4) 66 2 v st.length (rows st)
  blk : ∀ k ∈ st, ∃ cur, wr.heap[k.g]? = some (.cells cur 32) ∧ cur.size = k.ts.length * 5
  tk : ∀ k ∈ st, 0 < k.ts.length ∧ R w k.g ∧ ¬ D k.g
  own : ∀ g, v.ownBlock = some g → (∀ k ∈ st, k.g ≠ g) ∧ ¬ D g
  dist : st.Pairwise fun a b => a.g ≠ b.g
  dn : ∀ b, D b → R w b ∧ b < wr.heap.size
  bnd : ∀ k ∈ st, k.ts.length + wts k.ts ≤ 1048577

section
variable {w wr wr' : World} {v v' : Value} {st : List Tk} {D : Nat → Prop} {T : TypedD} {k : Tk}

theorem Bs.ownge (h : Bs w wr v st D) {g : Nat} (hg : v.ownBlock = some g) : w.heap.size + 4 ≤ g ∧ g < wr.heap.size := by
  rcases h.row.2 with ⟨rfl, _⟩ | ⟨q, cap, cur, rfl, h2, h3, _⟩
  · cases hg
  · simp only [Value.ownBlock, Option.some.injEq] at hg
    subst hg
    exact ⟨h2, (Array.getElem?_eq_some_iff.1 h3).1⟩

theorem Bs.glt (h : Bs w wr v st D) (hk : k ∈ st) : k.g < wr.heap.size := by
  obtain ⟨cur, h1, _⟩ := h.blk k hk
  exact (Array.getElem?_eq_some_iff.1 h1).1

/-- A block x that is none of these has turned. -/
theorem Bs.on (h : Bs w wr v st D) (hbel : Below w.heap.size w wr') (hs : wr.heap.size ≤ wr'.heap.size) (x : Nat) (hb : ∀ b, b < wr.heap.size → b ≠ x → wr'.heap[b]? = wr.heap[b]?) (hx1 : x ≠ w.heap.size + 1) (hx2 : ¬ Qf w x) (hx3 : ∀ k ∈ st, k.g ≠ x) (hx4 : v.ownBlock ≠ some x) : Bs w wr' v st D where
  bel := hbel
  size := Nat.le_trans h.size hs
  res := (hb _ (by have := h.size; omega) (fun e => hx1 e.symm)).trans h.res
  reps := fun k hk => typedSh.slice.on (h.reps k hk) fun b hQ => hb b (by have := h.size; rcases hQ with hQ | hQ <;> omega) fun e => hx2 (e ▸ hQ)
  row := by
    obtain ⟨hl, hv⟩ := h.row
    refine ⟨hl, ?_⟩
    rcases hv with h0 | ⟨q, cap, cur, h1, h2, h3, h4⟩
    · exact Or.inl h0
    · exact Or.inr ⟨q, cap, cur, h1, h2, by rw [hb q (Array.getElem?_eq_some_iff.1 h3).1 (fun e => hx4 (by rw [h1, ← e]; rfl))]; exact h3, h4⟩
  blk := fun k hk => by
    obtain ⟨cur, h1, h2⟩ := h.blk k hk
    exact ⟨cur, (hb _ (h.glt hk) (hx3 k hk)).trans h1, h2⟩
  tk := h.tk
  own := h.own
  dist := h.dist
  dn := fun b hD => ⟨(h.dn b hD).1, Nat.lt_of_lt_of_le (h.dn b hD).2 hs⟩
  bnd := h.bnd

theorem Bs.top {gs cap : Nat} (h : Bs w wr (.slice (some ⟨gs, 0, none⟩) (st.length + 1) cap) (k :: st) D) : wr.cell? ⟨gs, st.length * 2, none⟩ = some k.vf ∧ wr.cell? ⟨gs, st.length * 2 + 1, none⟩ = some k.to := by
  have hc := h.row.cells (g := gs) rfl
  have hl := rows_length st
  refine ⟨?_, ?_⟩
  · have := hc (st.length * 2) k.vf (by rw [rows_cons, List.getElem?_append_right (by omega), hl, Nat.sub_self]; rfl)
    rwa [add_plain, Nat.zero_add] at this
  · have := hc (st.length * 2 + 1) k.to (by rw [rows_cons, List.getElem?_append_right (by omega), hl, Nat.add_sub_cancel_left]; rfl)
    rwa [add_plain, Nat.zero_add] at this

theorem Bs.slice (h : Bs w wr v (k :: st) D) : ∃ gs cap, v = .slice (some ⟨gs, 0, none⟩) (st.length + 1) cap := by
  rcases h.row.2 with ⟨_, h0⟩ | ⟨q, cap, cur, h1, _⟩
  · simp at h0
  · exact ⟨q, cap, h1⟩

theorem Bs.pop {gs cap : Nat} (h : Bs w wr (.slice (some ⟨gs, 0, none⟩) (st.length + 1) cap) (k :: st) D) : Bs w wr (.slice (some ⟨gs, 0, none⟩) st.length cap) st D where
  bel := h.bel
  size := h.size
  res := h.res
  reps := fun k hk => h.reps k (List.mem_cons_of_mem _ hk)
  row := by
    have := shrink h.row
    rw [rows_cons, List.take_left' (rows_length st)] at this
    exact this
  blk := fun k hk => h.blk k (List.mem_cons_of_mem _ hk)
  tk := fun k hk => h.tk k (List.mem_cons_of_mem _ hk)
  own := fun g hg => ⟨fun k hk => (h.own g hg).1 k (List.mem_cons_of_mem _ hk), (h.own g hg).2⟩
  dist := (List.pairwise_cons.1 h.dist).2
  dn := h.dn
  bnd := fun k hk => h.bnd k (List.mem_cons_of_mem _ hk)

theorem Bs.push (h : Bs w wr v st D) (ho : wr'.ownsRow (w.heap.size + 4) 66 2 v' (st.length + 1) (rows st ++ k.cells)) (hg : wr.grownBy wr' v.ownBlock) (hat : v'.ownBlock = v.ownBlock ∨ v'.ownBlock = some wr.heap.size)
    (hr : typedSh.slice.rep wr (Qf w) [k.vf] k.ts) (hb : ∃ cur, wr.heap[k.g]? = some (.cells cur 32) ∧ cur.size = k.ts.length * 5) (ht : 0 < k.ts.length ∧ R w k.g ∧ ¬ D k.g) (hn : v.ownBlock ≠ some k.g) (hd : ∀ q ∈ st, k.g ≠ q.g) (hw : k.ts.length + wts k.ts ≤ 1048577) : Bs w wr' v' (k :: st) D := by
  have same : ∀ b, b < wr.heap.size → v.ownBlock ≠ some b → wr'.heap[b]? = wr.heap[b]? := fun b h1 h2 => hg.block b h1 fun e => h2 e.symm
  have hsz := h.size
  have hkl : k.g < wr.heap.size := by obtain ⟨cur, h1, _⟩ := hb; exact (Array.getElem?_eq_some_iff.1 h1).1
  have keepQ : ∀ b, Qf w b → wr'.heap[b]? = wr.heap[b]? := fun b hQ => same b (by rcases hQ with hQ | hQ <;> omega) fun e => by have := (h.ownge e).1; rcases hQ with hQ | hQ <;> omega
  refine ⟨h.bel.grown hg (by omega) (fun g e => by have := (h.ownge e).1; omega), Nat.le_trans hsz hg.size, ?_, ?_, ?_, ?_, ?_, ?_, List.pairwise_cons.2 ⟨hd, h.dist⟩, ?_, ?_⟩
  · exact (same _ (by omega) fun e => by have := (h.ownge e).1; omega).trans h.res
  · intro q hq
    rcases List.mem_cons.1 hq with rfl | hq
    · exact typedSh.slice.on hr keepQ
    · exact typedSh.slice.on (h.reps q hq) keepQ
  · rw [rows_cons, List.length_cons]; exact ho
  · intro q hq
    rcases List.mem_cons.1 hq with rfl | hq
    · obtain ⟨cur, h1, h2⟩ := hb
      exact ⟨cur, (same _ hkl hn).trans h1, h2⟩
    · obtain ⟨cur, h1, h2⟩ := h.blk q hq
      exact ⟨cur, (same _ (h.glt hq) fun e => (h.own _ e).1 q hq rfl).trans h1, h2⟩
  · intro q hq
    rcases List.mem_cons.1 hq with rfl | hq
    · exact ht
    · exact h.tk q hq
  · intro g e
    rcases hat with h1 | h1
    · have e' := h1.symm.trans e
      refine ⟨fun q hq => ?_, (h.own g e').2⟩
      rcases List.mem_cons.1 hq with rfl | hq
      · exact fun e2 => hn (by rw [e2]; exact e')
      · exact (h.own g e').1 q hq
    · rw [h1] at e
      simp only [Option.some.injEq] at e
      refine ⟨fun q hq => ?_, fun hD => by have := (h.dn g hD).2; omega⟩
      rcases List.mem_cons.1 hq with rfl | hq
      · omega
      · have := h.glt hq; omega
  · exact fun b hD => ⟨(h.dn b hD).1, Nat.lt_of_lt_of_le (h.dn b hD).2 hg.size⟩
  · intro q hq
    rcases List.mem_cons.1 hq with rfl | hq
    · exact hw
    · exact h.bnd q hq

/-- .. within the row that is being filled: i of its elements are there. -/
structure In (w wr : World) (T : TypedD) (v : Value) (st : List Tk) (D : Nat → Prop) (ts : List TypedD) (g i N : Nat) (vf : Value) (gk : Nat) : Prop where
  bs : Bs w wr v st D
  wand : Wand2 wr D st ts g i (w.heap.size + 2) T
  gb : ∃ cur, wr.heap[g]? = some (.cells cur 32) ∧ cur.size = ts.length * 5
  gr : R w g ∧ ¬ D g ∧ v.ownBlock ≠ some g ∧ ∀ k ∈ st, k.g ≠ g
  now : wr.heap[N]? = some (.cells #[vf, .slice (some ⟨g, 0, none⟩) ts.length ts.length] 66)
  nr : w.heap.size + 5 ≤ N ∧ N ≠ g ∧ ¬ D N ∧ v.ownBlock ≠ some N ∧ ∀ k ∈ st, k.g ≠ N
  src : typedSh.slice.rep wr (Qf w) [vf] ts
  cnt : nodes st + nns (ts.drop i) + i = gk
  bnd : ts.length + wts ts ≤ 1048577

variable {ts : List TypedD} {g i N gk : Nat} {vf : Value} {cs : List Value}

theorem R.notQ {b : Nat} (h : R w b) : ¬ Qf w b := fun hq => by rcases h with h | h <;> rcases hq with hq | hq <;> omega

theorem In.glt (h : In w wr T v st D ts g i N vf gk) : g < wr.heap.size := by
  obtain ⟨cur, h1, _⟩ := h.gb
  exact (Array.getElem?_eq_some_iff.1 h1).1

/-- An element without kids was put. -/
theorem In.leaf (h : In w wr T v st D ts g i N vf gk) (hi : i < ts.length) (hbel : Below w.heap.size w wr') (hs : wr.heap.size ≤ wr'.heap.size) (hb : ∀ b, b < wr.heap.size → b ≠ g → wr'.heap[b]? = wr.heap[b]?)
    (hgb : ∃ cur, wr'.heap[g]? = some (.cells cur 32) ∧ cur.size = ts.length * 5) (hout : ∀ q, q < i * 5 → wr'.cell? ⟨g, q, none⟩ = wr.cell? ⟨g, q, none⟩) (hx : CellsAt wr' g (i * 5) cs) (hl : cs.length = 5)
    (hr : ∀ w', node.ndSp.rep w' (fun _ => False) cs (er ts[i])) (hk : ts[i].kids = []) : In w wr' T v st D ts g (i + 1) N vf gk where
  bs := h.bs.on hbel hs g hb (fun e => by rcases h.gr.1 with h | h <;> omega) h.gr.1.notQ h.gr.2.2.2 h.gr.2.2.1
  wand := h.wand.leaf hi (fun b hD => hb b (h.bs.dn b hD).2 fun e => h.gr.2.1 (e ▸ hD)) hout hx hl hr
  gb := hgb
  gr := h.gr
  now := (hb N (Array.getElem?_eq_some_iff.1 h.now).1 h.nr.2.1).trans h.now
  nr := h.nr
  src := typedSh.slice.on h.src fun b hQ => hb b (by have := h.bs.size; rcases hQ with hQ | hQ <;> omega) fun e => h.gr.1.notQ (e ▸ hQ)
  cnt := by have := h.cnt; rw [nns_drop hi, hk] at this; simp only [nns] at this; omega
  bnd := h.bnd

/-- An element with kids was put, and their row lies on the stack. -/
theorem In.more {w3 w4 w5 : World} (h : In w wr T v st D ts g i N vf gk) (hi : i < ts.length) (hbel : Below w.heap.size w w3) (hs : wr.heap.size ≤ w3.heap.size) (hb : ∀ b, b < wr.heap.size → b ≠ g → w3.heap[b]? = wr.heap[b]?)
    (hgb : ∃ cur, w3.heap[g]? = some (.cells cur 32) ∧ cur.size = ts.length * 5) (hout : ∀ q, q < i * 5 → w3.cell? ⟨g, q, none⟩ = wr.cell? ⟨g, q, none⟩) (hx : CellsAt w3 g (i * 5) cs) (hl : cs.length = 5)
    (hr : ∀ w' F, Fd w' F k → node.ndSp.rep w' F cs (er ts[i])) (hk : k.ts = ts[i].kids) (hk0 : 0 < k.ts.length) (hkg : wr.heap.size ≤ k.g ∧ k.g < w3.heap.size) (hkb : ∃ cur, w3.heap[k.g]? = some (.cells cur 32) ∧ cur.size = k.ts.length * 5) (hks : typedSh.slice.rep wr (Qf w) [k.vf] k.ts)
    (h4 : Below w3.heap.size w3 w4) (ho : w5.ownsRow (w.heap.size + 4) 66 2 v' (st.length + 1) (rows st ++ k.cells)) (hg : w4.grownBy w5 v.ownBlock) (hat : v'.ownBlock = v.ownBlock ∨ v'.ownBlock = some w4.heap.size) :
    In w w5 T v' (k :: st) D ts g (i + 1) N vf gk := by
  have hsz := h.bs.size
  have hg0 : ∀ b, Qf w b → b < wr.heap.size := fun b hQ => by rcases hQ with hQ | hQ <;> omega
  have B3 : Bs w w3 v st D := h.bs.on hbel hs g hb (fun e => by rcases h.gr.1 with h | h <;> omega) h.gr.1.notQ h.gr.2.2.2 h.gr.2.2.1
  have B4 : Bs w w4 v st D := B3.on (B3.bel.trans (h4.mono (by have := B3.bel.size; omega))) h4.size w4.heap.size (fun b h1 _ => h4.block b h1) (by have := h4.size; omega) (fun hQ => by have := hg0 _ hQ; have := h4.size; omega) (fun q hq e => by have := B3.glt hq; have := h4.size; omega) (fun e => by have := (B3.ownge e).2; have := h4.size; omega)
  have s4 : ∀ b, b < wr.heap.size → b ≠ g → w4.heap[b]? = wr.heap[b]? := fun b h1 h2 => (h4.block b (by omega)).trans (hb b h1 h2)
  have hgl := h.glt
  have hone : ∀ g', v.ownBlock = some g' → g' < wr.heap.size := fun g' e => (h.bs.ownge e).2
  have hkown : v.ownBlock ≠ some k.g := fun e => by have := hone _ e; omega
  have B5 : Bs w w5 v' (k :: st) D := by
    refine B4.push ho hg hat (typedSh.slice.on hks fun b hQ => s4 b (hg0 b hQ) fun e => h.gr.1.notQ (e ▸ hQ)) ?_ ⟨hk0, Or.inr (by omega), fun hD => by have := (h.bs.dn _ hD).2; omega⟩ hkown (fun q hq e => by have := h.bs.glt hq; omega) ?_
    · obtain ⟨cur, h1, h2⟩ := hkb
      exact ⟨cur, (h4.block _ hkg.2).trans h1, h2⟩
    · rw [hk]
      have h1 := wts_take hi
      have h2 := wts_take_le ts (i + 1)
      have h3 := h.bnd
      have h4 : ts[i].kids.length + wts ts[i].kids ≤ wt ts[i] := by
        generalize ts[i] = t
        obtain ⟨⟨y0, y1, y2, y3, y4, y5, y6⟩, ks⟩ := t
        simp only [wt, Rose.kids]; omega
      omega
  have s5 : ∀ b, b < w4.heap.size → v.ownBlock ≠ some b → w5.heap[b]? = w4.heap[b]? := fun b h1 h2 => hg.block b h1 fun e => h2 e.symm
  have W3 := h.wand.more hi (fun b hD => hb b (h.bs.dn b hD).2 fun e => h.gr.2.1 (e ▸ hD)) hout hx hl hr
  have e5 : w5.heap[g]? = w3.heap[g]? := (s5 g (by have := h4.size; omega) h.gr.2.2.1).trans (h4.block g (by omega))
  have nlt : N < wr.heap.size := (Array.getElem?_eq_some_iff.1 h.now).1
  have vnew : ∀ b, b < w4.heap.size → v.ownBlock ≠ some b → v'.ownBlock ≠ some b := fun b h1 h2 e => by
    rcases hat with h3 | h3
    · exact h2 (h3.symm.trans e)
    · rw [h3] at e; simp only [Option.some.injEq] at e; omega
  refine ⟨B5, W3.on (fun b hD => ?_) (fun q hq => World.cell?_of_block (w := w3) (a := ⟨g, q, none⟩) e5), ?_, ⟨h.gr.1, h.gr.2.1, vnew g (by have := h4.size; omega) h.gr.2.2.1, fun q hq => ?_⟩, ?_, ⟨h.nr.1, h.nr.2.1, h.nr.2.2.1, vnew N (by have := h4.size; omega) h.nr.2.2.2.1, fun q hq => ?_⟩, ?_, ?_, h.bnd⟩
  · have h1 := (B3.dn b hD).2
    exact (s5 b (by have := h4.size; omega) fun e => (h.bs.own b e).2 hD).trans (h4.block b h1)
  · obtain ⟨cur, h1, h2⟩ := hgb
    exact ⟨cur, e5.trans h1, h2⟩
  · rcases List.mem_cons.1 hq with rfl | hq
    · omega
    · exact h.gr.2.2.2 q hq
  · exact ((s5 N (by have := h4.size; omega) h.nr.2.2.2.1).trans (s4 N nlt h.nr.2.1)).trans h.now
  · rcases List.mem_cons.1 hq with rfl | hq
    · omega
    · exact h.nr.2.2.2.2 q hq
  · exact typedSh.slice.on h.src fun b hQ => (s5 b (by have := hg0 b hQ; have := h4.size; omega) fun e => by have := (h.bs.ownge e).1; rcases hQ with hQ | hQ <;> omega).trans (s4 b (hg0 b hQ) fun e => h.gr.1.notQ (e ▸ hQ))
  · have := h.cnt
    rw [nns_drop hi, ← hk] at this
    simp only [nodes]
    omega

/-- The row is filled. -/
theorem In.done (h : In w wr T v st D ts g ts.length N vf gk) : Bs w wr v st (fun b => D b ∨ b = g) ∧ Wand wr (fun b => D b ∨ b = g) st (w.heap.size + 2) T ∧ nodes st + ts.length = gk := by
  refine ⟨⟨h.bs.bel, h.bs.size, h.bs.res, h.bs.reps, h.bs.row, h.bs.blk, fun q hq => ⟨(h.bs.tk q hq).1, (h.bs.tk q hq).2.1, fun e => e.elim (h.bs.tk q hq).2.2 (h.gr.2.2.2 q hq)⟩, fun g' e => ⟨(h.bs.own g' e).1, fun e2 => e2.elim (h.bs.own g' e).2 fun e3 => h.gr.2.2.1 (by rw [← e3]; exact e)⟩, h.bs.dist, fun b hD => hD.elim (h.bs.dn b) fun e => by subst e; exact ⟨h.gr.1, h.glt⟩, h.bs.bnd⟩, h.wand.done (by obtain ⟨cur, h1, _⟩ := h.gb; exact ⟨cur, h1⟩), ?_⟩
  have := h.cnt
  rw [List.drop_length] at this
  simpa [nns] using this

/-- A row is taken off the stack; its own copy lies in the new block N. -/
theorem In.start {gs cap : Nat} (h : Bs w wr (.slice (some ⟨gs, 0, none⟩) (st.length + 1) cap) (⟨ts, g, vf⟩ :: st) D) (hw : Wand wr D (⟨ts, g, vf⟩ :: st) (w.heap.size + 2) T) :
    In w (wr.alloc (.cells #[vf, .slice (some ⟨g, 0, none⟩) ts.length ts.length] 66)) T (.slice (some ⟨gs, 0, none⟩) st.length cap) st D ts g 0 wr.heap.size vf (nodes (⟨ts, g, vf⟩ :: st)) := by
  have hA : Below wr.heap.size wr (wr.alloc (.cells #[vf, .slice (some ⟨g, 0, none⟩) ts.length ts.length] 66)) := (Below.refl _ _).alloc (Nat.le_refl _) _
  have h1 := h.pop
  have hm : (⟨ts, g, vf⟩ : Tk) ∈ (⟨ts, g, vf⟩ : Tk) :: st := List.mem_cons_self
  have hsz := h.size
  have hgl : g < wr.heap.size := h.glt hm
  have hg0 : ∀ b, Qf w b → b < wr.heap.size := fun b hQ => by rcases hQ with hQ | hQ <;> omega
  have hog : ∀ q, (Value.slice (some ⟨gs, 0, none⟩) st.length cap).ownBlock = some q → q < wr.heap.size := fun q e => (h1.ownge e).2
  have hb := h.bnd _ hm
  have ht := h.tk _ hm
  refine ⟨h1.on (h.bel.trans (hA.mono (by omega))) hA.size wr.heap.size (fun b h2 _ => hA.block b h2) (by omega) (fun hQ => by have := hg0 _ hQ; omega) (fun q hq e => by have := h1.glt hq; omega) (fun e => by have := hog _ e; omega),
    (hw.open ht.2.2 (by show ts.length ≤ _; unfold maxLen; have : ts.length + wts ts ≤ 1048577 := hb; omega) ht.1).on (fun b hD => hA.block b (h.dn b hD).2) (fun q hq => by omega), ?_, ⟨ht.2.1, ht.2.2, fun e => (h.own g e).1 _ hm rfl, fun q hq e => (List.pairwise_cons.1 h.dist).1 q hq e.symm⟩, alloc_top _ _, ⟨by omega, by omega, fun hD => by have := (h.dn _ hD).2; omega, fun e => by have := hog _ e; omega, fun q hq e => by have := h1.glt hq; omega⟩, typedSh.slice.on (h.reps _ hm) fun b hQ => hA.block b (hg0 b hQ), ?_, hb⟩
  · obtain ⟨cur, h2, h3⟩ := h.blk _ hm
    exact ⟨cur, (hA.block g hgl).trans h2, h3⟩
  · simp [nodes]; omega
end

end Go.Proofs.Ytklcjjckelahcaa.typed
