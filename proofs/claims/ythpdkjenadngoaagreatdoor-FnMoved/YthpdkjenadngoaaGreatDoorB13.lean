/-
  What is held while the model draws a heap.
-/
import Derived.Test.YthpdkjenadngoaaGreatDoorB1
import Derived.Test.YthpdkjenadngoaaGreatDoorB2
import Derived.Test.YthpdkjenadngoaaGreatDoorB3
import Derived.Test.YthpdkjenadngoaaGreatDoorB4
import Derived.Test.YthpdkjenadngoaaGreatDoorB5
import Derived.Test.YthpdkjenadngoaaGreatDoorB6
import Derived.Test.YthpdkjenadngoaaGreatDoorB7
import Derived.Test.YthpdkjenadngoaaGreatDoorB8
import Derived.Test.YthpdkjenadngoaaGreatDoorB9
import Derived.Test.YthpdkjenadngoaaGreatDoorB10
import Derived.Test.YthpdkjenadngoaaGreatDoorB11
import Derived.Test.YthpdkjenadngoaaGreatDoorB12
namespace Go.Proofs.YthpdkjenadngoaaGreatDoor.heap
open Go Go.RowKit Go.Proofs.YthpdkjenadngoaaGreatDoor.rose Go.Proofs.YthpdkjenadngoaaGreatDoor Go.Proofs.YthpdkjenadngoaaGreatDoor.fun Go.Proofs.YthpdkjenadngoaaGreatDoor.ints Go.Proofs.YthpdkjenadngoaaGreatDoor.cur Go.Proofs.YthpdkjenadngoaaGreatDoor.words
set_option linter.unusedVariables false
set_option linter.unusedSimpArgs false

theorem mv_lenD (W : List Int) (s : CS) (x : Int) : (mvF W s x).1.1.length = s.1.length := by
  unfold mvF
  split
  · rfl
  · split
    · rfl
    · exact putW_length _ _ _
theorem roots_lenD (W : List Int) (rs : List Int) : ∀ (s : CS) (M : List Int), ((rs.foldl (fun a x => ((mvF W a.1 x).1, a.2 ++ [(mvF W a.1 x).2])) (s, M)).1.1.length = s.1.length) ∧ ((rs.foldl (fun a x => ((mvF W a.1 x).1, a.2 ++ [(mvF W a.1 x).2])) (s, M)).2.length = M.length + rs.length) := by
  induction rs with
  | nil => intro s M; exact ⟨rfl, by simp⟩
  | cons x rs ih =>
    intro s M
    rw [List.foldl_cons]
    obtain ⟨h1, h2⟩ := ih (mvF W s x).1 (M ++ [(mvF W s x).2])
    refine ⟨h1.trans (mv_lenD W s x), h2.trans ?_⟩
    rw [List.length_append, List.length_singleton, List.length_cons]; omega
theorem scanK_lenD (W : List Int) (p : Nat) : ∀ (r j : Nat) (s : CS), (scanK W p r j s).1.length = s.1.length := by
  intro r
  induction r with
  | zero => intro j s; rfl
  | succ r ih => intro j s; rw [scanK, ih]; show (List.set _ _ _).length = _; rw [List.length_set, mv_lenD]
theorem scanC_lenD (W : List Int) : ∀ (f p : Nat) (s : CS), (scanC W f p s).1.length = s.1.length := by
  intro f
  induction f with
  | zero => intro p s; rfl
  | succ f ih =>
    intro p s
    rw [scanC]
    split
    · rw [ih, scanK_lenD]
    · rfl
/-- A heap that is moved has as many words, and as many roots. -/
theorem collect_len (T : HeapD) (rs : List Int) : (collectF T rs).1.1.length = T.1.length ∧ (collectF T rs).2.length = rs.length := by
  unfold collectF
  split
  · obtain ⟨h1, h2⟩ := roots_lenD T.1 rs (startC T) []
    refine ⟨?_, by show (rootsC T.1 (startC T) rs).2.length = _; unfold rootsC; rw [h2]; simp⟩
    show (endC T rs).1.length = _
    unfold endC
    rw [scanC_lenD]
    unfold rootsC
    rw [h1]
    simp [startC]
  · exact ⟨rfl, rfl⟩
theorem alloc_len (T : HeapD) (fn : Bool) (tag : Int) (kids : List Int) : (allocF T fn tag kids).1.1.length = T.1.length := by
  unfold allocF
  split
  · exact putW_length _ _ _
  · rfl

structure DI (B p r2 hb : Nat) (w wr : World) (a : Option Addr) (c : Nat) (W : List Int) (hf bs nx : Int) (ar : Option Addr) (cr : Nat) (rs : List Int) : Prop where
  cur : Cur B wr p
  grw : w.grownBy wr (some p)
  ord : p < w.heap.size ∧ w.heap.size ≤ r2 ∧ r2 < hb
  res : wr.heap[r2]? = some (.cells #[.slice none 0 0, .int .i64 0, .int .i64 0, .int .i64 0] 26)
  blk : wr.heap[hb]? = some (.cells #[.slice a W.length c, .int .i64 hf, .int .i64 bs, .int .i64 nx] 26)
  hp : heapSp.rep wr (fun b => r2 < b ∧ b ≠ hb ∧ b < wr.heap.size ∧ (Value.slice ar rs.length cr).ownBlock ≠ some b) [.slice a W.length c, .int .i64 hf, .int .i64 bs, .int .i64 nx] (W, hf, bs, nx)
  row : IRow wr (hb + 1) (.slice ar rs.length cr) rs
  wl : 2 ≤ W.length ∧ W.length ≤ 120
  rl : 2 ≤ rs.length ∧ rs.length ≤ 200

section
variable {B p r2 hb : Nat} {w wr w' : World} {a : Option Addr} {c : Nat} {W : List Int} {hf bs nx : Int} {ar : Option Addr} {cr : Nat} {rs : List Int}
theorem DI.lt (h : DI B p r2 hb w wr a c W hf bs nx ar cr rs) : hb < wr.heap.size := (Array.getElem?_eq_some_iff.1 h.blk).1
/-- A call that turns nothing but the cursor. -/
theorem DI.turn (h : DI B p r2 hb w wr a c W hf bs nx ar cr rs) (hc : Cur B w' p) (hg : wr.grownBy w' (some p)) : DI B p r2 hb w w' a c W hf bs nx ar cr rs := by
  have h1 := h.lt
  obtain ⟨o1, o2, o3⟩ := h.ord
  have same : ∀ k, k < wr.heap.size → k ≠ p → w'.heap[k]? = wr.heap[k]? := fun k hk hn => hg.block k hk fun e => hn (by simpa using e)
  refine ⟨hc, h.grw.trans hg, h.ord, (same _ (by omega) (by omega)).trans h.res, (same _ h1 (by omega)).trans h.blk, ?_, ⟨own_same h.row.1 fun q hq => same q (h.row.lt q hq).2 (by have := (h.row.lt q hq).1; omega), h.row.2⟩, h.wl, h.rl⟩
  exact heapSp.mono (heapSp.on h.hp fun b hb' => same b hb'.2.2.1 (by omega)) fun b hb' => ⟨hb'.1, hb'.2.1, Nat.lt_of_lt_of_le hb'.2.2.1 hg.size, hb'.2.2.2⟩
theorem DI.on (h : DI B p r2 hb w wr a c W hf bs nx ar cr rs) (hB : Below wr.heap.size wr w') : DI B p r2 hb w w' a c W hf bs nx ar cr rs :=
  h.turn (h.cur.on ⟨hB.os, hB.tape, hB.output, hB.size, fun k hk _ => hB.block k hk⟩) ⟨hB.os, hB.tape, hB.output, hB.size, fun k hk _ => hB.block k hk⟩
theorem DI.new (h : DI B p r2 hb w wr a c W hf bs nx ar cr rs) (X : Obj) : DI B p r2 hb w (wr.alloc X) a c W hf bs nx ar cr rs := h.on ((Below.refl _ _).alloc (Nat.le_refl _) X)
theorem DI.cell (h : DI B p r2 hb w wr a c W hf bs nx ar cr rs) (j : Nat) {u : Value} (hj : #[Value.slice a W.length c, .int .i64 hf, .int .i64 bs, .int .i64 nx][j]? = some u) : wr.cell? ⟨hb, j, none⟩ = some u := by simp [World.cell?, h.blk, hj]
theorem DI.free (h : DI B p r2 hb w wr a c W hf bs nx ar cr rs) (j : Nat) : wr.frozen? ⟨hb, j, none⟩ = false := by simp [World.frozen?, h.blk]
theorem DI.sh (h : DI B p r2 hb w wr a c W hf bs nx ar cr rs) : heapSh.rep wr (· < wr.heap.size) [.slice a W.length c, .int .i64 hf, .int .i64 bs, .int .i64 nx] (W, hf, bs, nx) := heapSh.mono (heapp_rep h.hp) fun b hb' => hb'.2.2.1
theorem DI.rsh (h : DI B p r2 hb w wr a c W hf bs nx ar cr rs) : intsSh.rep wr (· < wr.heap.size) [.slice ar rs.length cr] rs := intsSh.mono (intsp_rep h.row.sp) fun b hb' => hb'.2
end

theorem irow_inD {w : World} {base : Nat} {v : Value} {l : List Int} {S : Nat → Prop} (h : IRow w base v l) (hS : ∀ g, v.ownBlock = some g → S g) : intsSp.rep w S [v] l := by
  rcases h.open with ⟨rfl, rfl⟩ | ⟨g, cap, rfl, h2, h3, h4, h5, h6, cur, t, h7⟩
  · exact ⟨none, 0, fun _ => [], fun _ _ => False, rfl, Nat.le_refl _, Nat.zero_le _, fun _ => rfl, fun h0 => absurd h0 (Nat.not_lt_zero _), fun i hi => absurd hi (Nat.not_lt_zero _), fun i j hi => absurd hi (Nat.not_lt_zero _), fun i hi => absurd hi (Nat.not_lt_zero _)⟩
  · refine ⟨some ⟨g, 0, none⟩, cap, fun i => [.int .i64 (l.getD i 0)], fun _ _ => False, rfl, h4, h5, (fun h => by cases h), fun h0 => ⟨g, 0, cur, t, rfl, hS g rfl, h7, fun _ _ h => h, fun i hi q u hq => ?_⟩, fun i hi b h => h.elim, fun i j hi hj hne b h => h.elim, fun i hi => ⟨by simp [List.getD, hi], h.2 _ (List.getElem_mem hi)⟩⟩
    match q, hq with
    | 0, hq =>
      simp at hq; subst hq
      have := h6 i hi
      simpa [Sh.int, List.getD, hi] using this
    | _ + 1, hq => simp at hq
theorem irow_two (w : World) {base : Nat} (h : base ≤ w.heap.size) {x y : Int} (hx : InR x) (hy : InR y) : IRow (w.alloc (.cells #[.int .i64 x, .int .i64 y] 3)) base (.slice (some ⟨w.heap.size, 0, none⟩) ([x, y] : List Int).length 2) [x, y] :=
  ⟨⟨rfl, Or.inr ⟨w.heap.size, 2, #[.int .i64 x, .int .i64 y], rfl, h, alloc_top _ _, Nat.le_refl _, by unfold maxLen; omega, rfl, rfl⟩⟩, fun z hz => by
    simp only [List.mem_cons, List.not_mem_nil, or_false] at hz
    rcases hz with rfl | rfl <;> assumption⟩
theorem irow_none (w : World) {base : Nat} (h : base ≤ w.heap.size) : IRow (w.alloc (.cells #[] 3)) base (.slice (some ⟨w.heap.size, 0, none⟩) ([] : List Int).length 0) [] :=
  ⟨World.ownsRow_lit w #[] 0 h (Nat.zero_le _) rfl, fun x hx => by cases hx⟩
theorem irow_app {w4 : World} {base : Nat} {a4 : Option Addr} {c4 : Nat} {l : List Int} {x : Int} (o4 : w4.ownsRow base 3 1 (.slice a4 (l.length + 1) c4) (l.length + 1) (l.map (Value.int .i64) ++ [.int .i64 x])) (hl : ∀ y ∈ l, InR y) (hx : InR x) : IRow w4 base (.slice a4 (l ++ [x]).length c4) (l ++ [x]) := by
  refine ⟨by rw [List.length_append, List.length_singleton, List.map_append]; exact o4, fun y hy => ?_⟩
  rcases List.mem_append.1 hy with hy | hy
  · exact hl y hy
  · simp only [List.mem_singleton] at hy; subst hy; exact hx
theorem cur_of {B p : Nat} {w w' : World} (hc : Cur B w p) (h : ∀ k, k ≤ p → w'.heap[k]? = w.heap[k]?) : Cur B w' p := by
  obtain ⟨a, len, cap, i, h0, hp, hi, hC, hB⟩ := hc
  exact ⟨a, len, cap, i, h0, (h p (Nat.le_refl _)).trans hp, hi, hC.of_cells fun ad had => World.cell?_of_block (h ad.block (by omega)), hB⟩
/-- All four numbers of a heap are stored. -/
def set4 (w : World) (hb : Nat) (x0 x1 x2 x3 : Value) : World := (((w.setCell ⟨hb, 0, none⟩ x0).setCell ⟨hb, 1, none⟩ x1).setCell ⟨hb, 2, none⟩ x2).setCell ⟨hb, 3, none⟩ x3
theorem set4_other (w : World) (hb : Nat) (x0 x1 x2 x3 : Value) (k : Nat) (hk : k ≠ hb) : (set4 w hb x0 x1 x2 x3).heap[k]? = w.heap[k]? := by
  unfold set4
  rw [Below.heap_setCell _ _ _ _ (by exact hk), Below.heap_setCell _ _ _ _ (by exact hk), Below.heap_setCell _ _ _ _ (by exact hk), Below.heap_setCell _ _ _ _ (by exact hk)]
theorem set4_size (w : World) (hb : Nat) (x0 x1 x2 x3 : Value) : (set4 w hb x0 x1 x2 x3).heap.size = w.heap.size := by simp [set4, World.setCell]
theorem set4_at {w : World} {hb : Nat} {y0 y1 y2 y3 : Value} (h : w.heap[hb]? = some (.cells #[y0, y1, y2, y3] 26)) (x0 x1 x2 x3 : Value) : (set4 w hb x0 x1 x2 x3).heap[hb]? = some (.cells #[x0, x1, x2, x3] 26) := by
  simp [set4, World.setCell, Array.getElem?_modify, h]

section
variable {B p r2 hb : Nat} {w wr w1 w3 : World} {a a' : Option Addr} {c c' : Nat} {W W' : List Int} {hf bs nx hf' bs' nx' : Int} {ar : Option Addr} {cr : Nat} {rs : List Int}
/-- Another heap is stored, that lies in memory that is new since wr. -/
theorem DI.put (h : DI B p r2 hb w wr a c W hf bs nx ar cr rs) (hB : Below wr.heap.size wr w1) (hr : heapSp.rep w1 (fun b => wr.heap.size ≤ b ∧ b < w1.heap.size) [.slice a' W'.length c', .int .i64 hf', .int .i64 bs', .int .i64 nx'] (W', hf', bs', nx')) (hl : W'.length = W.length) :
    DI B p r2 hb w (set4 w1 hb (.slice a' W'.length c') (.int .i64 hf') (.int .i64 bs') (.int .i64 nx')) a' c' W' hf' bs' nx' ar cr rs := by
  have h1 := h.on hB
  have hlt := h.lt
  obtain ⟨o1, o2, o3⟩ := h.ord
  have so := set4_other w1 hb (.slice a' W'.length c') (.int .i64 hf') (.int .i64 bs') (.int .i64 nx')
  refine ⟨cur_of h1.cur fun k hk => so k (by omega), ⟨h1.grw.os, h1.grw.tape, h1.grw.output, by rw [set4_size]; exact h1.grw.size, fun k hk hn => (so k (by omega)).trans (h1.grw.block k hk hn)⟩, h.ord, (so _ (by omega)).trans h1.res, set4_at h1.blk _ _ _ _, ?_, ⟨own_same h1.row.1 fun q hq => so q (by have := (h1.row.lt q hq).1; omega), h1.row.2⟩, by rw [hl]; exact h.wl, h.rl⟩
  refine heapSp.mono (heapSp.on hr fun b hb' => so b (by omega)) fun b hb' => ⟨by omega, by omega, by rw [set4_size]; exact hb'.2, fun e => ?_⟩
  have := (h.row.lt b e).2
  omega
/-- One more root. -/
theorem DI.app {a3 : Option Addr} {c3 : Nat} {x : Int} (h : DI B p r2 hb w w1 a c W hf bs nx ar cr rs) (o3 : w3.ownsRow (hb + 1) 3 1 (.slice a3 (rs.length + 1) c3) (rs.length + 1) (rs.map (Value.int .i64) ++ [.int .i64 x])) (g3 : w1.grownBy w3 (Value.slice ar rs.length cr).ownBlock)
    (e3 : (Value.slice a3 (rs.length + 1) c3).ownBlock = (Value.slice ar rs.length cr).ownBlock ∨ (Value.slice a3 (rs.length + 1) c3).ownBlock = some w1.heap.size) (hx : InR x) (hl : rs.length < 200) : DI B p r2 hb w w3 a c W hf bs nx a3 c3 (rs ++ [x]) := by
  have hlt := h.lt
  obtain ⟨o1, o2, o3'⟩ := h.ord
  have same : ∀ k, k < w1.heap.size → (Value.slice ar rs.length cr).ownBlock ≠ some k → w3.heap[k]? = w1.heap[k]? := fun k hk hn => g3.block k hk fun e => hn e.symm
  have own : ∀ k, k ≤ hb → (Value.slice ar rs.length cr).ownBlock ≠ some k := fun k hk e => by have := (h.row.lt k e).1; omega
  have hR := irow_app o3 h.row.2 hx
  refine ⟨cur_of h.cur fun k hk => same k (by omega) (own k (by omega)), ⟨g3.os.trans h.grw.os, g3.tape.trans h.grw.tape, g3.output.trans h.grw.output, Nat.le_trans h.grw.size g3.size, fun k hk hn => (same k (Nat.lt_of_lt_of_le hk h.grw.size) (own k (by omega))).trans (h.grw.block k hk hn)⟩, h.ord, (same _ (by omega) (own _ (by omega))).trans h.res, (same _ hlt (own _ (Nat.le_refl _))).trans h.blk, ?_, hR, h.wl, by rw [List.length_append, List.length_singleton]; have := h.rl; omega⟩
  refine heapSp.mono (heapSp.on h.hp fun b hb' => same b hb'.2.2.1 hb'.2.2.2) fun b hb' => ⟨hb'.1, hb'.2.1, Nat.lt_of_lt_of_le hb'.2.2.1 g3.size, fun e => ?_⟩
  rw [List.length_append, List.length_singleton] at e
  rcases e3 with q | q
  · exact hb'.2.2.2 (q.symm.trans e)
  · rw [q] at e; simp only [Option.some.injEq] at e; omega
/-- Moved: another heap and other roots, in memory that is new since wr. -/
theorem DI.both {v' : Value} {rs' : List Int} (h : DI B p r2 hb w wr a c W hf bs nx ar cr rs) (hB : Below wr.heap.size wr w1) (hW : IRow w1 wr.heap.size (.slice a' W'.length c') W') (hR : IRow w1 wr.heap.size v' rs') (hap : ∀ k, (Value.slice a' W'.length c').ownBlock = some k → v'.ownBlock ≠ some k) (r1 : InR hf') (r2' : InR bs') (r3 : InR nx') (hl : W'.length = W.length) (hl2 : rs'.length = rs.length) :
    ∃ ar' cr', v' = .slice ar' rs'.length cr' ∧ DI B p r2 hb w (set4 w1 hb (.slice a' W'.length c') (.int .i64 hf') (.int .i64 bs') (.int .i64 nx')) a' c' W' hf' bs' nx' ar' cr' rs' := by
  obtain ⟨ar', cr', hv⟩ := own_form hR.1
  subst hv
  refine ⟨ar', cr', rfl, ?_⟩
  have h1 := h.on hB
  have hlt := h.lt
  obtain ⟨o1, o2, o3⟩ := h.ord
  have so := set4_other w1 hb (.slice a' W'.length c') (.int .i64 hf') (.int .i64 bs') (.int .i64 nx')
  refine ⟨cur_of h1.cur fun k hk => so k (by omega), ⟨h1.grw.os, h1.grw.tape, h1.grw.output, by rw [set4_size]; exact h1.grw.size, fun k hk hn => (so k (by omega)).trans (h1.grw.block k hk hn)⟩, h.ord, (so _ (by omega)).trans h1.res, set4_at h1.blk _ _ _ _, ?_, ⟨own_same (own_base hR.1 (by omega)) fun q hq => so q (by have := (hR.lt q hq).1; omega), hR.2⟩, by rw [hl]; exact h.wl, by rw [hl2]; exact h.rl⟩
  refine heapp_shut (irow_inD (base := wr.heap.size) ⟨own_same hW.1 fun q hq => so q (by have := (hW.lt q hq).1; omega), hW.2⟩ fun g hg => ⟨by have := (hW.lt g hg).1; omega, by have := (hW.lt g hg).1; omega, by rw [set4_size]; exact (hW.lt g hg).2, hap g hg⟩) r1 r2' r3
end
/-- A row of kids, made since w4, and all that was there then, stay at a call that turns nothing but the cursor. -/
theorem krow_turn {B p r2 hb : Nat} {w w4 w5 w6 : World} {a : Option Addr} {c : Nat} {W : List Int} {hf bs nx : Int} {ar : Option Addr} {cr : Nat} {rs : List Int} {v : Value} {ks : List Int} (h : DI B p r2 hb w w4 a c W hf bs nx ar cr rs) (hk : IRow w5 w4.heap.size v ks) (hg : w4.grownBy w5 (some p)) (hc : Cur B w6 p) (hg6 : w5.grownBy w6 (some p)) :
    DI B p r2 hb w w6 a c W hf bs nx ar cr rs ∧ IRow w6 w4.heap.size v ks ∧ w4.grownBy w6 (some p) := by
  have hp := h.ord.1
  have hs := h.grw.size
  have g6 := hg.trans hg6
  exact ⟨h.turn hc g6, ⟨own_same hk.1 fun q hq => hg6.block q (hk.lt q hq).2 fun e => by simp only [Option.some.injEq] at e; have := (hk.lt q hq).1; omega, hk.2⟩, g6⟩
theorem krow_on {B p r2 hb : Nat} {w w4 w5 w6 : World} {a : Option Addr} {c : Nat} {W : List Int} {hf bs nx : Int} {ar : Option Addr} {cr : Nat} {rs : List Int} {v : Value} {ks : List Int} (h : DI B p r2 hb w w5 a c W hf bs nx ar cr rs ∧ IRow w5 w4.heap.size v ks ∧ w4.grownBy w5 (some p)) (hb6 : Below w5.heap.size w5 w6) :
    DI B p r2 hb w w6 a c W hf bs nx ar cr rs ∧ IRow w6 w4.heap.size v ks ∧ w4.grownBy w6 (some p) :=
  ⟨h.1.on hb6, h.2.1.keep hb6, h.2.2.trans ⟨hb6.os, hb6.tape, hb6.output, hb6.size, fun k hk _ => hb6.block k hk⟩⟩
/-- A block that holds the zero heap. -/
def ZB (w4 W : World) (nb : Nat) : Prop := W.heap[nb]? = some (.cells #[.slice none 0 0, .int .i64 0, .int .i64 0, .int .i64 0] 26) ∧ w4.heap.size ≤ nb
theorem zb_new {w4 W : World} (h : w4.heap.size ≤ W.heap.size) : ZB w4 (W.alloc (.cells #[.slice none 0 0, .int .i64 0, .int .i64 0, .int .i64 0] 26)) W.heap.size := ⟨alloc_top _ _, h⟩
theorem zb_turn {p nb : Nat} {w4 W W' : World} (h : ZB w4 W nb) (hp : p < w4.heap.size) (hg : W.grownBy W' (some p)) : ZB w4 W' nb :=
  ⟨(hg.block nb (Array.getElem?_eq_some_iff.1 h.1).1 fun e => by simp only [Option.some.injEq] at e; have := h.2; omega).trans h.1, h.2⟩
theorem zb_on {nb : Nat} {w4 W W' : World} (h : ZB w4 W nb) (hb : Below W.heap.size W W') : ZB w4 W' nb := ⟨(hb.block nb (Array.getElem?_eq_some_iff.1 h.1).1).trans h.1, h.2⟩
theorem zb_cell {nb : Nat} {w4 W : World} (h : ZB w4 W nb) (j : Nat) {u : Value} (hj : #[Value.slice none 0 0, .int .i64 0, .int .i64 0, .int .i64 0][j]? = some u) : W.cell? ⟨nb, j, none⟩ = some u := by simp [World.cell?, h.1, hj]
theorem zb_free {nb : Nat} {w4 W : World} (h : ZB w4 W nb) (j : Nat) : W.frozen? ⟨nb, j, none⟩ = false := by simp [World.frozen?, h.1]
theorem zb_keep {nb hb j : Nat} {w4 W : World} {u x0 x1 x2 x3 : Value} (h : ZB w4 W nb) (hh : hb < w4.heap.size) (hc : W.cell? ⟨hb, j, none⟩ = some u) : ((((W.setCell ⟨nb, 0, none⟩ x0).setCell ⟨nb, 1, none⟩ x1).setCell ⟨nb, 2, none⟩ x2).setCell ⟨nb, 3, none⟩ x3).cell? ⟨hb, j, none⟩ = some u := by
  rw [← hc]
  exact World.cell?_of_block (set4_other W nb x0 x1 x2 x3 hb (by have := h.2; omega))
theorem zb_newD {w4 V : World} (h : w4.heap.size ≤ V.heap.size) : ZB w4 (V.alloc (.cells #[.slice none 0 0, .int .i64 0, .int .i64 0, .int .i64 0] 26)).drew V.heap.size := ⟨alloc_top V _, h⟩
/-- What is held when a block was allocated of a heap that is being drawn. -/
structure Fin (B p r2 hb : Nat) (w w4 wf : World) (a : Option Addr) (c : Nat) (W : List Int) (hf bs nx : Int) (ar : Option Addr) (cr : Nat) (rs : List Int) (nb : Nat) (a' : Option Addr) (c' : Nat) (W' : List Int) (y1 y2 y3 : Int) : Prop where
  di : DI B p r2 hb w wf a c W hf bs nx ar cr rs
  nbk : wf.heap[nb]? = some (.cells #[.slice a' W'.length c', .int .i64 y1, .int .i64 y2, .int .i64 y3] 26)
  rp : heapSp.rep wf (fun b => w4.heap.size ≤ b ∧ b < wf.heap.size) [.slice a' W'.length c', .int .i64 y1, .int .i64 y2, .int .i64 y3] (W', y1, y2, y3)
  own : ∀ k, (Value.slice ar rs.length cr).ownBlock = some k → k < w4.heap.size
  hh : hb < w4.heap.size
section
variable {B p r2 hb : Nat} {w w4 wf wn wX : World} {a : Option Addr} {c : Nat} {W : List Int} {hf bs nx : Int} {ar : Option Addr} {cr : Nat} {rs : List Int} {nb : Nat} {a' : Option Addr} {c' : Nat} {W' : List Int} {y1 y2 y3 : Int}
theorem fin_a (h : DI B p r2 hb w w4 a c W hf bs nx ar cr rs) (hc : Cur B wn p) (hg : w4.grownBy wn (some p)) (hX : w4.heap.size ≤ wX.heap.size) (hr : heapSp.rep wn (fun b => wX.heap.size ≤ b ∧ b < wn.heap.size) [.slice a' W'.length c', .int .i64 y1, .int .i64 y2, .int .i64 y3] (W', y1, y2, y3)) :
    Fin B p r2 hb w w4 (wn.alloc (.cells #[.slice a' W'.length c', .int .i64 y1, .int .i64 y2, .int .i64 y3] 26)) a c W hf bs nx ar cr rs wn.heap.size a' c' W' y1 y2 y3 := by
  have hA : Below wn.heap.size wn (wn.alloc (.cells #[.slice a' W'.length c', .int .i64 y1, .int .i64 y2, .int .i64 y3] 26)) := (Below.refl _ _).alloc (Nat.le_refl _) _
  exact ⟨(h.turn hc hg).on hA, alloc_top wn _, heapSp.mono (heapSp.on hr fun b hb' => hA.block b hb'.2) fun b hb' => ⟨by omega, Nat.lt_of_lt_of_le hb'.2 hA.size⟩, fun k hk => (h.row.lt k hk).2, h.lt⟩
theorem fin_s (h : DI B p r2 hb w w4 a c W hf bs nx ar cr rs) (hc : Cur B wn p) (hg : w4.grownBy wn (some p)) (hX : w4.heap.size ≤ wX.heap.size) (hr : heapSp.rep wn (fun b => wX.heap.size ≤ b ∧ b < wn.heap.size) [.slice a' W'.length c', .int .i64 y1, .int .i64 y2, .int .i64 y3] (W', y1, y2, y3)) (hz : ZB w4 wn nb) (hn : nb < wX.heap.size) :
    Fin B p r2 hb w w4 (set4 wn nb (.slice a' W'.length c') (.int .i64 y1) (.int .i64 y2) (.int .i64 y3)) a c W hf bs nx ar cr rs nb a' c' W' y1 y2 y3 := by
  have so := set4_other wn nb (.slice a' W'.length c') (.int .i64 y1) (.int .i64 y2) (.int .i64 y3)
  have sz := set4_size wn nb (.slice a' W'.length c') (.int .i64 y1) (.int .i64 y2) (.int .i64 y3)
  have hp := h.ord.1
  have hs := h.grw.size
  have hz2 := hz.2
  have hS : w4.grownBy (set4 wn nb (.slice a' W'.length c') (.int .i64 y1) (.int .i64 y2) (.int .i64 y3)) (some p) := ⟨hg.os, hg.tape, hg.output, by rw [sz]; exact hg.size, fun k hk hn' => (so k (by omega)).trans (hg.block k hk hn')⟩
  have h2 : heapSp.rep (set4 wn nb (.slice a' W'.length c') (.int .i64 y1) (.int .i64 y2) (.int .i64 y3)) (fun b => w4.heap.size ≤ b ∧ b < (set4 wn nb (.slice a' W'.length c') (.int .i64 y1) (.int .i64 y2) (.int .i64 y3)).heap.size) [.slice a' W'.length c', .int .i64 y1, .int .i64 y2, .int .i64 y3] (W', y1, y2, y3) :=
    heapSp.mono (heapSp.on hr fun b hb' => so b (by omega)) fun b hb' => ⟨by omega, by rw [sz]; exact hb'.2⟩
  have hD : DI B p r2 hb w (set4 wn nb (.slice a' W'.length c') (.int .i64 y1) (.int .i64 y2) (.int .i64 y3)) a c W hf bs nx ar cr rs := h.turn (cur_of hc fun k hk => so k (by omega)) hS
  have hB : (set4 wn nb (.slice a' W'.length c') (.int .i64 y1) (.int .i64 y2) (.int .i64 y3)).heap[nb]? = some (.cells #[.slice a' W'.length c', .int .i64 y1, .int .i64 y2, .int .i64 y3] 26) := set4_at hz.1 _ _ _ _
  generalize (set4 wn nb (.slice a' W'.length c') (.int .i64 y1) (.int .i64 y2) (.int .i64 y3)) = V at hD h2 hB ⊢
  exact ⟨hD, hB, h2, fun k hk => (h.row.lt k hk).2, h.lt⟩
theorem fin_a' (h : DI B p r2 hb w w4 a c W hf bs nx ar cr rs) (hc : Cur B wn p) (hg : w4.grownBy wn (some p)) (hX : w4.heap.size ≤ wX.heap.size) (hr : heapSp.rep wn (fun b => wX.heap.size ≤ b ∧ b < wn.heap.size) [.slice a' W'.length c', .int .i64 y1, .int .i64 y2, .int .i64 y3] (W', y1, y2, y3)) :
    ∃ wf, wf = wn.alloc (.cells #[.slice a' W'.length c', .int .i64 y1, .int .i64 y2, .int .i64 y3] 26) ∧ Fin B p r2 hb w w4 wf a c W hf bs nx ar cr rs wn.heap.size a' c' W' y1 y2 y3 := ⟨_, rfl, fin_a h hc hg hX hr⟩
theorem fin_s' (h : DI B p r2 hb w w4 a c W hf bs nx ar cr rs) (hc : Cur B wn p) (hg : w4.grownBy wn (some p)) (hX : w4.heap.size ≤ wX.heap.size) (hr : heapSp.rep wn (fun b => wX.heap.size ≤ b ∧ b < wn.heap.size) [.slice a' W'.length c', .int .i64 y1, .int .i64 y2, .int .i64 y3] (W', y1, y2, y3)) (hz : ZB w4 wn nb) (hn : nb < wX.heap.size) :
    ∃ wf, wf = (((wn.setCell ⟨nb, 0, none⟩ (.slice a' W'.length c')).setCell ⟨nb, 1, none⟩ (.int .i64 y1)).setCell ⟨nb, 2, none⟩ (.int .i64 y2)).setCell ⟨nb, 3, none⟩ (.int .i64 y3) ∧ Fin B p r2 hb w w4 wf a c W hf bs nx ar cr rs nb a' c' W' y1 y2 y3 := ⟨set4 wn nb (.slice a' W'.length c') (.int .i64 y1) (.int .i64 y2) (.int .i64 y3), rfl, fin_s h hc hg hX hr hz hn⟩
theorem Fin.ncell (h : Fin B p r2 hb w w4 wf a c W hf bs nx ar cr rs nb a' c' W' y1 y2 y3) (j : Nat) {u : Value} (hj : #[Value.slice a' W'.length c', .int .i64 y1, .int .i64 y2, .int .i64 y3][j]? = some u) : wf.cell? ⟨nb, j, none⟩ = some u := by simp [World.cell?, h.nbk, hj]
theorem Fin.put (h : Fin B p r2 hb w w4 wf a c W hf bs nx ar cr rs nb a' c' W' y1 y2 y3) (hl : W'.length = W.length) : DI B p r2 hb w (set4 wf hb (.slice a' W'.length c') (.int .i64 y1) (.int .i64 y2) (.int .i64 y3)) a' c' W' y1 y2 y3 ar cr rs := by
  have h1 := h.di
  have hlt := h1.lt
  have hh := h.hh
  obtain ⟨o1, o2, o3⟩ := h1.ord
  have so := set4_other wf hb (.slice a' W'.length c') (.int .i64 y1) (.int .i64 y2) (.int .i64 y3)
  refine ⟨cur_of h1.cur fun k hk => so k (by omega), ⟨h1.grw.os, h1.grw.tape, h1.grw.output, by rw [set4_size]; exact h1.grw.size, fun k hk hn => (so k (by omega)).trans (h1.grw.block k hk hn)⟩, h1.ord, (so _ (by omega)).trans h1.res, set4_at h1.blk _ _ _ _, ?_, ⟨own_same h1.row.1 fun q hq => so q (by have := (h1.row.lt q hq).1; omega), h1.row.2⟩, by rw [hl]; exact h1.wl, h1.rl⟩
  refine heapSp.mono (heapSp.on h.rp fun b hb' => so b (by omega)) fun b hb' => ⟨by omega, by omega, by rw [set4_size]; exact hb'.2, fun e => ?_⟩
  have := h.own b e
  omega
end
theorem alloc_place {T : HeapD} {fn : Bool} {tag : Int} {kids : List Int} (h : InR T.2.2.2) : InR (allocF T fn tag kids).2.1 := by
  unfold allocF
  split
  · exact h
  · show InR 0; unfold InR; omega
theorem DI.inr {B p r2 hb : Nat} {w wr : World} {a : Option Addr} {c : Nat} {W : List Int} {hf bs nx : Int} {ar : Option Addr} {cr : Nat} {rs : List Int} (h : DI B p r2 hb w wr a c W hf bs nx ar cr rs) : InR nx := by
  obtain ⟨x0, a0, c0, x1, x2, x3, hT, -, -, -, -, f3⟩ := heapp_open h.hp
  simp only [Prod.mk.injEq] at hT
  obtain ⟨rfl, rfl, rfl, rfl⟩ := hT
  exact f3

end Go.Proofs.YthpdkjenadngoaaGreatDoor.heap
