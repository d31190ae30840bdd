/-
  What is held while the model turns a heap that it drew.
-/
import Derived.Test.YtigcpigmfcgaoaaB1
import Derived.Test.YtigcpigmfcgaoaaB2
import Derived.Test.YtigcpigmfcgaoaaB3
import Derived.Test.YtigcpigmfcgaoaaB4
import Derived.Test.YtigcpigmfcgaoaaB5
import Derived.Test.YtigcpigmfcgaoaaB6
import Derived.Test.YtigcpigmfcgaoaaB7
import Derived.Test.YtigcpigmfcgaoaaB8
import Derived.Test.YtigcpigmfcgaoaaB9
import Derived.Test.YtigcpigmfcgaoaaB10
import Derived.Test.YtigcpigmfcgaoaaB11
import Derived.Test.YtigcpigmfcgaoaaB12
import Derived.Test.YtigcpigmfcgaoaaB13
import Derived.Test.YtigcpigmfcgaoaaB14
import Derived.Test.YtigcpigmfcgaoaaB15
import Derived.Test.YtigcpigmfcgaoaaB16
import Derived.Test.YtigcpigmfcgaoaaB17
import Derived.Test.YtigcpigmfcgaoaaB18
import Derived.Test.YtigcpigmfcgaoaaB19
import Derived.Test.YtigcpigmfcgaoaaB20
namespace Go.Proofs.Ytigcpigmfcgaoaa.heap
open Go Go.RowKit Go.Deep Go.Proofs.Ytigcpigmfcgaoaa.rose Go.Proofs.Ytigcpigmfcgaoaa Go.Proofs.Ytigcpigmfcgaoaa.fun Go.Proofs.Ytigcpigmfcgaoaa.ints Go.Proofs.Ytigcpigmfcgaoaa.cur Go.Proofs.Ytigcpigmfcgaoaa.words
set_option linter.unusedVariables false
set_option linter.unusedSimpArgs false

/-- A heap and roots that were drawn, and turned. -/
structure DW (B p : Nat) (w w' : World) (a : Option Addr) (c : Nat) (W : List Int) (hf bs nx : Int) (ar : Option Addr) (cr : Nat) (rs : List Int) : Prop where
  cur : Cur B w' p
  grw : w.grownBy w' (some p)
  hp : heapSp.rep w' (fun b => w.heap.size ≤ b ∧ b < w'.heap.size ∧ (Value.slice ar rs.length cr).ownBlock ≠ some b) [.slice a W.length c, .int .i64 hf, .int .i64 bs, .int .i64 nx] (W, hf, bs, nx)
  row : IRow w' w.heap.size (.slice ar rs.length cr) rs
  wl : 2 ≤ W.length ∧ W.length ≤ 120
  rl : 2 ≤ rs.length ∧ rs.length ≤ 250
structure DJ (B p r2 hb : Nat) (w wr : World) (a : Option Addr) (c : Nat) (W : List Int) (hf bs nx : Int) (ar : Option Addr) (cr : Nat) (rs : List Int) : Prop where
  cur : Cur B wr p
  grw : w.grownBy wr (some p)
  ord : p < w.heap.size ∧ w.heap.size ≤ r2 ∧ r2 < hb
  res : wr.heap[r2]? = some (.cells #[.slice none 0 0, .int .i64 0, .int .i64 0, .int .i64 0] 26)
  blk : wr.heap[hb]? = some (.cells #[.slice a W.length c, .int .i64 hf, .int .i64 bs, .int .i64 nx] 26)
  hp : heapSp.rep wr (fun b => r2 < b ∧ b ≠ hb ∧ b < wr.heap.size ∧ (Value.slice ar rs.length cr).ownBlock ≠ some b) [.slice a W.length c, .int .i64 hf, .int .i64 bs, .int .i64 nx] (W, hf, bs, nx)
  row : IRow wr (r2 + 1) (.slice ar rs.length cr) rs
  nown : (Value.slice ar rs.length cr).ownBlock ≠ some hb
  wl : 2 ≤ W.length ∧ W.length ≤ 120
  rl : 2 ≤ rs.length ∧ rs.length ≤ 250

section
variable {B p r2 hb : Nat} {w wr w' w1 w3 : World} {a : Option Addr} {c : Nat} {W : List Int} {hf bs nx : Int} {ar : Option Addr} {cr : Nat} {rs : List Int}
theorem DJ.lt (h : DJ B p r2 hb w wr a c W hf bs nx ar cr rs) : hb < wr.heap.size := (Array.getElem?_eq_some_iff.1 h.blk).1
theorem DJ.turn (h : DJ B p r2 hb w wr a c W hf bs nx ar cr rs) (hc : Cur B w' p) (hg : wr.grownBy w' (some p)) : DJ B p r2 hb w w' a c W hf bs nx ar cr rs := by
  have h1 := h.lt
  obtain ⟨o1, o2, o3⟩ := h.ord
  have same : ∀ k, k < wr.heap.size → k ≠ p → w'.heap[k]? = wr.heap[k]? := fun k hk hn => hg.block k hk fun e => hn (by simpa using e)
  refine ⟨hc, h.grw.trans hg, h.ord, (same _ (by omega) (by omega)).trans h.res, (same _ h1 (by omega)).trans h.blk, ?_, ⟨own_same h.row.1 fun q hq => same q (h.row.lt q hq).2 (by have := (h.row.lt q hq).1; omega), h.row.2⟩, h.nown, h.wl, h.rl⟩
  exact heapSp.mono (heapSp.on h.hp fun b hb' => same b hb'.2.2.1 (by omega)) fun b hb' => ⟨hb'.1, hb'.2.1, Nat.lt_of_lt_of_le hb'.2.2.1 hg.size, hb'.2.2.2⟩
theorem DJ.on (h : DJ B p r2 hb w wr a c W hf bs nx ar cr rs) (hB : Below wr.heap.size wr w') : DJ B p r2 hb w w' a c W hf bs nx ar cr rs :=
  h.turn (h.cur.on ⟨hB.os, hB.tape, hB.output, hB.size, fun k hk _ => hB.block k hk⟩) ⟨hB.os, hB.tape, hB.output, hB.size, fun k hk _ => hB.block k hk⟩
theorem DJ.new (h : DJ B p r2 hb w wr a c W hf bs nx ar cr rs) (X : Obj) : DJ B p r2 hb w (wr.alloc X) a c W hf bs nx ar cr rs := h.on ((Below.refl _ _).alloc (Nat.le_refl _) X)
theorem DJ.cell (h : DJ B p r2 hb w wr a c W hf bs nx ar cr rs) (j : Nat) {u : Value} (hj : #[Value.slice a W.length c, .int .i64 hf, .int .i64 bs, .int .i64 nx][j]? = some u) : wr.cell? ⟨hb, j, none⟩ = some u := by simp [World.cell?, h.blk, hj]
theorem DJ.free (h : DJ B p r2 hb w wr a c W hf bs nx ar cr rs) (j : Nat) : wr.frozen? ⟨hb, j, none⟩ = false := by simp [World.frozen?, h.blk]
theorem DJ.rcell (h : DJ B p r2 hb w wr a c W hf bs nx ar cr rs) (j : Nat) {u : Value} (hj : #[Value.slice none 0 0, .int .i64 0, .int .i64 0, .int .i64 0][j]? = some u) : wr.cell? ⟨r2, j, none⟩ = some u := by simp [World.cell?, h.res, hj]
theorem DJ.rfree (h : DJ B p r2 hb w wr a c W hf bs nx ar cr rs) (j : Nat) : wr.frozen? ⟨r2, j, none⟩ = false := by simp [World.frozen?, h.res]
theorem DJ.start (h : DR B p (w.alloc (.cells #[.slice none 0 0, .int .i64 0, .int .i64 0, .int .i64 0] 26)) w1 a c W hf bs nx ar cr rs) (hp : p < w.heap.size) : DJ B p w.heap.size w1.heap.size w (w1.alloc (.cells #[.slice a W.length c, .int .i64 hf, .int .i64 bs, .int .i64 nx] 26)) a c W hf bs nx ar cr rs := by
  have hs := h.grw.size
  rw [World.size_alloc] at hs
  have hA : Below w1.heap.size w1 (w1.alloc (.cells #[.slice a W.length c, .int .i64 hf, .int .i64 bs, .int .i64 nx] 26)) := (Below.refl _ _).alloc (Nat.le_refl _) _
  have hrow := h.row
  rw [World.size_alloc] at hrow
  refine ⟨h.cur.on (World.grownBy_alloc _ _ none), ((World.grownBy_alloc w _ (some p)).trans h.grw).trans (World.grownBy_alloc _ _ _), ⟨hp, Nat.le_refl _, by omega⟩, ?_, alloc_top _ _, ?_, hrow.keep hA, fun e => by have := (hrow.lt _ e).2; omega, h.wl, by have := h.rl; omega⟩
  · exact (hA.block _ (by omega)).trans ((h.grw.block w.heap.size (by simp) fun e => by simp only [Option.some.injEq] at e; omega).trans (alloc_top _ _))
  · refine heapSp.mono (heapSp.on h.hp fun b hb' => hA.block b hb'.2.1) fun b hb' => ?_
    have h1 := hb'.1
    rw [World.size_alloc] at h1
    exact ⟨by omega, by omega, Nat.lt_of_lt_of_le hb'.2.1 hA.size, hb'.2.2⟩
theorem DJ.done (h : DJ B p r2 hb w wr a c W hf bs nx ar cr rs) : DW B p w (set4 wr r2 (.slice a W.length c) (.int .i64 hf) (.int .i64 bs) (.int .i64 nx)) a c W hf bs nx ar cr rs := by
  have hlt := h.lt
  obtain ⟨o1, o2, o3⟩ := h.ord
  have so := set4_other wr r2 (.slice a W.length c) (.int .i64 hf) (.int .i64 bs) (.int .i64 nx)
  refine ⟨cur_of h.cur fun k hk => so k (by omega), ⟨h.grw.os, h.grw.tape, h.grw.output, by rw [set4_size]; exact h.grw.size, fun k hk hn => (so k (by omega)).trans (h.grw.block k hk hn)⟩, ?_, ⟨own_same (own_base h.row.1 (by omega)) fun q hq => so q (by have := (h.row.lt q hq).1; omega), h.row.2⟩, h.wl, h.rl⟩
  exact heapSp.mono (heapSp.on h.hp fun b hb' => so b (by omega)) fun b hb' => ⟨by omega, by rw [set4_size]; exact hb'.2.2.1, hb'.2.2.2⟩
/-- One more root. -/
theorem DJ.app {a3 : Option Addr} {c3 : Nat} {x : Int} (h : DJ B p r2 hb w w1 a c W hf bs nx ar cr rs) (o3 : w3.ownsRow (r2 + 1) 3 1 (.slice a3 (rs.length + 1) c3) (rs.length + 1) (rs.map (Value.int .i64) ++ [.int .i64 x])) (g3 : w1.grownBy w3 (Value.slice ar rs.length cr).ownBlock)
    (e3 : (Value.slice a3 (rs.length + 1) c3).ownBlock = (Value.slice ar rs.length cr).ownBlock ∨ (Value.slice a3 (rs.length + 1) c3).ownBlock = some w1.heap.size) (hx : InR x) (hl : rs.length < 250) : DJ B p r2 hb w w3 a c W hf bs nx a3 c3 (rs ++ [x]) := by
  have hlt := h.lt
  obtain ⟨o1, o2, o3'⟩ := h.ord
  have same : ∀ k, k < w1.heap.size → (Value.slice ar rs.length cr).ownBlock ≠ some k → w3.heap[k]? = w1.heap[k]? := fun k hk hn => g3.block k hk fun e => hn e.symm
  have own : ∀ k, k ≤ r2 → (Value.slice ar rs.length cr).ownBlock ≠ some k := fun k hk e => by have := (h.row.lt k e).1; omega
  have hR := irow_app o3 h.row.2 hx
  have hn : ∀ k, (Value.slice a3 (rs ++ [x]).length c3).ownBlock = some k → (Value.slice ar rs.length cr).ownBlock = some k ∨ k = w1.heap.size := fun k e => by
    rw [List.length_append, List.length_singleton] at e
    rcases e3 with q | q
    · exact .inl (q.symm.trans e)
    · rw [q] at e; simp only [Option.some.injEq] at e; exact .inr e.symm
  refine ⟨cur_of h.cur fun k hk => same k (by omega) (own k (by omega)), ⟨g3.os.trans h.grw.os, g3.tape.trans h.grw.tape, g3.output.trans h.grw.output, Nat.le_trans h.grw.size g3.size, fun k hk hn => (same k (Nat.lt_of_lt_of_le hk h.grw.size) (own k (by omega))).trans (h.grw.block k hk hn)⟩, h.ord, (same _ (by omega) (own _ (by omega))).trans h.res, (same _ hlt h.nown).trans h.blk, ?_, hR, fun e => ?_, h.wl, by rw [List.length_append, List.length_singleton]; have := h.rl; omega⟩
  · refine heapSp.mono (heapSp.on h.hp fun b hb' => same b hb'.2.2.1 hb'.2.2.2) fun b hb' => ⟨hb'.1, hb'.2.1, Nat.lt_of_lt_of_le hb'.2.2.1 g3.size, fun e => ?_⟩
    rcases hn b e with q | q
    · exact hb'.2.2.2 q
    · omega
  · rcases hn hb e with q | q
    · exact h.nown q
    · omega
/-- A number of the heap is stored. -/
theorem DJ.num (h : DJ B p r2 hb w wr a c W hf bs nx ar cr rs) (j : Nat) (u : Value) (hf' bs' nx' : Int) (hu : #[Value.slice a W.length c, .int .i64 hf, .int .i64 bs, .int .i64 nx].setIfInBounds j u = #[Value.slice a W.length c, .int .i64 hf', .int .i64 bs', .int .i64 nx']) (r1 : InR hf') (r2' : InR bs') (r3 : InR nx') :
    DJ B p r2 hb w (wr.setCell ⟨hb, j, none⟩ u) a c W hf' bs' nx' ar cr rs := by
  have hlt := h.lt
  obtain ⟨o1, o2, o3⟩ := h.ord
  have so : ∀ k, k ≠ hb → (wr.setCell ⟨hb, j, none⟩ u).heap[k]? = wr.heap[k]? := fun k hk => Below.heap_setCell _ _ _ _ hk
  have sz : (wr.setCell ⟨hb, j, none⟩ u).heap.size = wr.heap.size := by simp [World.setCell]
  obtain ⟨x0, a0, c0, x1, x2, x3, hT, hcs, f0, -, -, -⟩ := heapp_open h.hp
  simp only [Prod.mk.injEq] at hT
  obtain ⟨rfl, rfl, rfl, rfl⟩ := hT
  simp only [List.cons.injEq, Value.slice.injEq, true_and, and_true] at hcs
  obtain ⟨rfl, rfl⟩ := hcs
  refine ⟨cur_of h.cur fun k hk => so k (by omega), ⟨h.grw.os, h.grw.tape, h.grw.output, by rw [sz]; exact h.grw.size, fun k hk hn => (so k (by omega)).trans (h.grw.block k hk hn)⟩, h.ord, (so _ (by omega)).trans h.res, ?_, ?_, ⟨own_same h.row.1 fun q hq => so q fun e => h.nown (by rw [← e]; exact hq), h.row.2⟩, h.nown, h.wl, h.rl⟩
  · rw [← hu]; simp [World.setCell, Array.getElem?_modify, h.blk]
  · exact heapp_shut (intsSp.mono (intsSp.on f0 fun b hb' => so b hb'.2.1) fun b hb' => ⟨hb'.1, hb'.2.1, by rw [sz]; exact hb'.2.2.1, hb'.2.2.2⟩) r1 r2' r3
end
/-- A word of the heap is stored. -/
theorem DJ.word {B p r2 hb : Nat} {w wr : World} {a : Option Addr} {c : Nat} {W : List Int} {hf bs nx : Int} {ar : Option Addr} {cr : Nat} {rs : List Int} (h : DJ B p r2 hb w wr a c W hf bs nx ar cr rs) {z : Nat} (hz : z < W.length) {x : Int} (hx : InR x) :
    ∃ b o, a = some ⟨b, o, none⟩ ∧ wr.cell? ⟨b, o + z, none⟩ = some (.int .i64 W[z]) ∧ wr.frozen? ⟨b, o + z, none⟩ = false ∧ b < wr.heap.size ∧ b ≠ p ∧ DJ B p r2 hb w (wr.setCell ⟨b, o + z, none⟩ (.int .i64 x)) a c (W.set z x) hf bs nx ar cr rs := by
  have hlt := h.lt
  obtain ⟨o1, o2, o3⟩ := h.ord
  obtain ⟨x0, a0, c0, x1, x2, x3, hT, hcs, f0, f1, f2, f3⟩ := heapp_open h.hp
  simp only [Prod.mk.injEq] at hT
  obtain ⟨rfl, rfl, rfl, rfl⟩ := hT
  simp only [List.cons.injEq, Value.slice.injEq, true_and, and_true] at hcs
  obtain ⟨rfl, rfl⟩ := hcs
  obtain ⟨a', cap, css, F, e, hcap, hmax, hnone, hrow⟩ := f0
  simp only [List.cons.injEq, Value.slice.injEq, true_and, and_true] at e
  obtain ⟨rfl, rfl⟩ := e
  obtain ⟨b, o, rfl, hSb, hFb, hc, hfz, cur, t, hbk⟩ := hrow.at hz
  have hrep := hrow.rep z hz
  have hcs := hrep.1
  rw [hcs] at hc
  have e0 : wr.cell? ⟨b, o + z, none⟩ = some (.int .i64 W[z]) := by have := hc 0 _ rfl; simpa [Sh.int] using this
  have hT : Turned b (o + z * Sh.int.k) (o + z * Sh.int.k + Sh.int.k) wr (wr.setCell ⟨b, o + z, none⟩ (.int .i64 x)) := Turned.set _ _ _ (by simp [Sh.int]) (by simp [Sh.int])
  have hn := hrow.turn (fun q hq => hq.2.2.1) hz rfl hT (Only.refl _ _) (cs := [.int .i64 x]) (x := x) (by
    intro q v hq
    match q, hq with
    | 0, hq =>
      simp at hq; subst hq
      have := cell_set_eq (v := .int .i64 x) e0
      simpa [Sh.int] using this
    | _ + 1, hq => simp at hq) ⟨rfl, hx⟩
  have so : ∀ k, k ≠ b → (wr.setCell ⟨b, o + z, none⟩ (.int .i64 x)).heap[k]? = wr.heap[k]? := fun k hk => Below.heap_setCell _ _ _ _ hk
  have sz : (wr.setCell ⟨b, o + z, none⟩ (.int .i64 x)).heap.size = wr.heap.size := by simp [World.setCell]
  have fz : wr.frozen? ⟨b, o + z, none⟩ = false := by simp [World.frozen?, hbk]
  refine ⟨b, o, rfl, e0, fz, hSb.2.2.1, by omega, ?_⟩
  refine ⟨cur_of h.cur fun k hk => so k (by omega), ⟨h.grw.os, h.grw.tape, h.grw.output, by rw [sz]; exact h.grw.size, fun k hk hn => (so k (by omega)).trans (h.grw.block k hk hn)⟩, h.ord, (so _ (by omega)).trans h.res, ?_, ?_, ⟨own_same h.row.1 fun q hq => so q fun e => hSb.2.2.2 (by rw [← e]; exact hq), h.row.2⟩, h.nown, by rw [List.length_set]; exact h.wl, h.rl⟩
  · rw [List.length_set]; exact (so _ (fun e => hSb.2.1 e.symm)).trans h.blk
  · refine heapp_shut ?_ f1 f2 f3
    have hk : intsSp.rep (wr.setCell ⟨b, o + z, none⟩ (.int .i64 x)) (fun q => r2 < q ∧ q ≠ hb ∧ q < wr.heap.size ∧ (Value.slice ar rs.length cr).ownBlock ≠ some q) [.slice (some ⟨b, o, none⟩) (W.set z x).length c] (W.set z x) :=
      ⟨some ⟨b, o, none⟩, c, _, F, rfl, by rw [List.length_set]; exact hcap, hmax, hnone, hn.1⟩
    exact intsSp.mono hk fun q hq => ⟨hq.1, hq.2.1, by rw [sz]; exact hq.2.2.1, hq.2.2.2⟩

end Go.Proofs.Ytigcpigmfcgaoaa.heap
