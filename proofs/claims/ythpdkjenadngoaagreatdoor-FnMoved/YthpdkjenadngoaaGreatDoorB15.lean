/-
  What is held while the model turns a heap that it drew.
  The model's l17Draw: a heap and roots in new memory, some of them turned; but for the cursor nothing that was there is turned.
  What is held once a heap was drawn.
-/
import Derived.Maps.AppendAt
import Derived.Deep.RegionHeld3
import Derived.WalkSmall
import Derived.Test.YthpdkjenadngoaaGreatDoorB1
import Derived.Test.YthpdkjenadngoaaGreatDoorB2
import Derived.Test.YthpdkjenadngoaaGreatDoorB3
import Derived.Test.YthpdkjenadngoaaGreatDoorB4
import Derived.Test.YthpdkjenadngoaaGreatDoorB5
import Derived.Test.YthpdkjenadngoaaGreatDoorB6
import Derived.Test.YthpdkjenadngoaaGreatDoorB7
import Derived.Test.YthpdkjenadngoaaGreatDoorB8
import Derived.Test.YthpdkjenadngoaaGreatDoorB9
import Derived.Test.YthpdkjenadngoaaGreatDoorB10
import Derived.Test.YthpdkjenadngoaaGreatDoorB11
import Derived.Test.YthpdkjenadngoaaGreatDoorB12
import Derived.Test.YthpdkjenadngoaaGreatDoorB13
import Derived.Test.YthpdkjenadngoaaGreatDoorB14
namespace Go.Proofs.YthpdkjenadngoaaGreatDoor.heap
open Go Go.RowKit Go.Deep Go.Proofs.YthpdkjenadngoaaGreatDoor.rose Go.Proofs.YthpdkjenadngoaaGreatDoor Go.Proofs.YthpdkjenadngoaaGreatDoor.fun Go.Proofs.YthpdkjenadngoaaGreatDoor.ints Go.Proofs.YthpdkjenadngoaaGreatDoor.cur Go.Proofs.YthpdkjenadngoaaGreatDoor.words
set_option linter.unusedVariables false
set_option linter.unusedSimpArgs false

/-- A heap and roots that were drawn, and turned. -/
structure DW (B p : Nat) (w w' : World) (a : Option Addr) (c : Nat) (W : List Int) (hf bs nx : Int) (ar : Option Addr) (cr : Nat) (rs : List Int) : Prop where
  cur : Cur B w' p
  grw : w.grownBy w' (some p)
  hp : heapSp.rep w' (fun b => w.heap.size ≤ b ∧ b < w'.heap.size ∧ (Value.slice ar rs.length cr).ownBlock ≠ some b) [.slice a W.length c, .int .i64 hf, .int .i64 bs, .int .i64 nx] (W, hf, bs, nx)
  row : IRow w' w.heap.size (.slice ar rs.length cr) rs
  wl : 2 ≤ W.length ∧ W.length ≤ 120
  rl : 2 ≤ rs.length ∧ rs.length ≤ 250
structure DJ (B p r2 hb : Nat) (w wr : World) (a : Option Addr) (c : Nat) (W : List Int) (hf bs nx : Int) (ar : Option Addr) (cr : Nat) (rs : List Int) : Prop where
  cur : Cur B wr p
  grw : w.grownBy wr (some p)
  ord : p < w.heap.size ∧ w.heap.size ≤ r2 ∧ r2 < hb
  res : wr.heap[r2]? = some (.cells #[.slice none 0 0, .int .i64 0, .int .i64 0, .int .i64 0] 26)
  blk : wr.heap[hb]? = some (.cells #[.slice a W.length c, .int .i64 hf, .int .i64 bs, .int .i64 nx] 26)
  hp : heapSp.rep wr (fun b => r2 < b ∧ b ≠ hb ∧ b < wr.heap.size ∧ (Value.slice ar rs.length cr).ownBlock ≠ some b) [.slice a W.length c, .int .i64 hf, .int .i64 bs, .int .i64 nx] (W, hf, bs, nx)
  row : IRow wr (r2 + 1) (.slice ar rs.length cr) rs
  nown : (Value.slice ar rs.length cr).ownBlock ≠ some hb
  wl : 2 ≤ W.length ∧ W.length ≤ 120
  rl : 2 ≤ rs.length ∧ rs.length ≤ 250

section
variable {B p r2 hb : Nat} {w wr w' w1 w3 : World} {a : Option Addr} {c : Nat} {W : List Int} {hf bs nx : Int} {ar : Option Addr} {cr : Nat} {rs : List Int}
theorem DJ.lt (h : DJ B p r2 hb w wr a c W hf bs nx ar cr rs) : hb < wr.heap.size := (Array.getElem?_eq_some_iff.1 h.blk).1
theorem DJ.turn (h : DJ B p r2 hb w wr a c W hf bs nx ar cr rs) (hc : Cur B w' p) (hg : wr.grownBy w' (some p)) : DJ B p r2 hb w w' a c W hf bs nx ar cr rs := by
  have h1 := h.lt
  obtain ⟨o1, o2, o3⟩ := h.ord
  have same : ∀ k, k < wr.heap.size → k ≠ p → w'.heap[k]? = wr.heap[k]? := fun k hk hn => hg.block k hk fun e => hn (by simpa using e)
  refine ⟨hc, h.grw.trans hg, h.ord, (same _ (by omega) (by omega)).trans h.res, (same _ h1 (by omega)).trans h.blk, ?_, ⟨own_same h.row.1 fun q hq => same q (h.row.lt q hq).2 (by have := (h.row.lt q hq).1; omega), h.row.2⟩, h.nown, h.wl, h.rl⟩
  exact heapSp.mono (heapSp.on h.hp fun b hb' => same b hb'.2.2.1 (by omega)) fun b hb' => ⟨hb'.1, hb'.2.1, Nat.lt_of_lt_of_le hb'.2.2.1 hg.size, hb'.2.2.2⟩
theorem DJ.on (h : DJ B p r2 hb w wr a c W hf bs nx ar cr rs) (hB : Below wr.heap.size wr w') : DJ B p r2 hb w w' a c W hf bs nx ar cr rs :=
  h.turn (h.cur.on ⟨hB.os, hB.tape, hB.output, hB.size, fun k hk _ => hB.block k hk⟩) ⟨hB.os, hB.tape, hB.output, hB.size, fun k hk _ => hB.block k hk⟩
theorem DJ.new (h : DJ B p r2 hb w wr a c W hf bs nx ar cr rs) (X : Obj) : DJ B p r2 hb w (wr.alloc X) a c W hf bs nx ar cr rs := h.on ((Below.refl _ _).alloc (Nat.le_refl _) X)
theorem DJ.cell (h : DJ B p r2 hb w wr a c W hf bs nx ar cr rs) (j : Nat) {u : Value} (hj : #[Value.slice a W.length c, .int .i64 hf, .int .i64 bs, .int .i64 nx][j]? = some u) : wr.cell? ⟨hb, j, none⟩ = some u := by simp [World.cell?, h.blk, hj]
theorem DJ.free (h : DJ B p r2 hb w wr a c W hf bs nx ar cr rs) (j : Nat) : wr.frozen? ⟨hb, j, none⟩ = false := by simp [World.frozen?, h.blk]
theorem DJ.rcell (h : DJ B p r2 hb w wr a c W hf bs nx ar cr rs) (j : Nat) {u : Value} (hj : #[Value.slice none 0 0, .int .i64 0, .int .i64 0, .int .i64 0][j]? = some u) : wr.cell? ⟨r2, j, none⟩ = some u := by simp [World.cell?, h.res, hj]
theorem DJ.rfree (h : DJ B p r2 hb w wr a c W hf bs nx ar cr rs) (j : Nat) : wr.frozen? ⟨r2, j, none⟩ = false := by simp [World.frozen?, h.res]
theorem DJ.start (h : DR B p (w.alloc (.cells #[.slice none 0 0, .int .i64 0, .int .i64 0, .int .i64 0] 26)) w1 a c W hf bs nx ar cr rs) (hp : p < w.heap.size) : DJ B p w.heap.size w1.heap.size w (w1.alloc (.cells #[.slice a W.length c, .int .i64 hf, .int .i64 bs, .int .i64 nx] 26)) a c W hf bs nx ar cr rs := by
  have hs := h.grw.size
  rw [World.size_alloc] at hs
  have hA : Below w1.heap.size w1 (w1.alloc (.cells #[.slice a W.length c, .int .i64 hf, .int .i64 bs, .int .i64 nx] 26)) := (Below.refl _ _).alloc (Nat.le_refl _) _
  have hrow := h.row
  rw [World.size_alloc] at hrow
  refine ⟨h.cur.on (World.grownBy_alloc _ _ none), ((World.grownBy_alloc w _ (some p)).trans h.grw).trans (World.grownBy_alloc _ _ _), ⟨hp, Nat.le_refl _, by omega⟩, ?_, alloc_top _ _, ?_, hrow.keep hA, fun e => by have := (hrow.lt _ e).2; omega, h.wl, by have := h.rl; omega⟩
  · exact (hA.block _ (by omega)).trans ((h.grw.block w.heap.size (by simp) fun e => by simp only [Option.some.injEq] at e; omega).trans (alloc_top _ _))
  · refine heapSp.mono (heapSp.on h.hp fun b hb' => hA.block b hb'.2.1) fun b hb' => ?_
    have h1 := hb'.1
    rw [World.size_alloc] at h1
    exact ⟨by omega, by omega, Nat.lt_of_lt_of_le hb'.2.1 hA.size, hb'.2.2⟩
theorem DJ.done (h : DJ B p r2 hb w wr a c W hf bs nx ar cr rs) : DW B p w (set4 wr r2 (.slice a W.length c) (.int .i64 hf) (.int .i64 bs) (.int .i64 nx)) a c W hf bs nx ar cr rs := by
  have hlt := h.lt
  obtain ⟨o1, o2, o3⟩ := h.ord
  have so := set4_other wr r2 (.slice a W.length c) (.int .i64 hf) (.int .i64 bs) (.int .i64 nx)
  refine ⟨cur_of h.cur fun k hk => so k (by omega), ⟨h.grw.os, h.grw.tape, h.grw.output, by rw [set4_size]; exact h.grw.size, fun k hk hn => (so k (by omega)).trans (h.grw.block k hk hn)⟩, ?_, ⟨own_same (own_base h.row.1 (by omega)) fun q hq => so q (by have := (h.row.lt q hq).1; omega), h.row.2⟩, h.wl, h.rl⟩
  exact heapSp.mono (heapSp.on h.hp fun b hb' => so b (by omega)) fun b hb' => ⟨by omega, by rw [set4_size]; exact hb'.2.2.1, hb'.2.2.2⟩
/-- One more root. -/
theorem DJ.app {a3 : Option Addr} {c3 : Nat} {x : Int} (h : DJ B p r2 hb w w1 a c W hf bs nx ar cr rs) (o3 : w3.ownsRow (r2 + 1) 3 1 (.slice a3 (rs.length + 1) c3) (rs.length + 1) (rs.map (Value.int .i64) ++ [.int .i64 x])) (g3 : w1.grownBy w3 (Value.slice ar rs.length cr).ownBlock)
    (e3 : (Value.slice a3 (rs.length + 1) c3).ownBlock = (Value.slice ar rs.length cr).ownBlock ∨ (Value.slice a3 (rs.length + 1) c3).ownBlock = some w1.heap.size) (hx : InR x) (hl : rs.length < 250) : DJ B p r2 hb w w3 a c W hf bs nx a3 c3 (rs ++ [x]) := by
  have hlt := h.lt
  obtain ⟨o1, o2, o3'⟩ := h.ord
  have same : ∀ k, k < w1.heap.size → (Value.slice ar rs.length cr).ownBlock ≠ some k → w3.heap[k]? = w1.heap[k]? := fun k hk hn => g3.block k hk fun e => hn e.symm
  have own : ∀ k, k ≤ r2 → (Value.slice ar rs.length cr).ownBlock ≠ some k := fun k hk e => by have := (h.row.lt k e).1; omega
  have hR := irow_app o3 h.row.2 hx
  have hn : ∀ k, (Value.slice a3 (rs ++ [x]).length c3).ownBlock = some k → (Value.slice ar rs.length cr).ownBlock = some k ∨ k = w1.heap.size := fun k e => by
    rw [List.length_append, List.length_singleton] at e
    rcases e3 with q | q
    · exact .inl (q.symm.trans e)
    · rw [q] at e; simp only [Option.some.injEq] at e; exact .inr e.symm
  refine ⟨cur_of h.cur fun k hk => same k (by omega) (own k (by omega)), ⟨g3.os.trans h.grw.os, g3.tape.trans h.grw.tape, g3.output.trans h.grw.output, Nat.le_trans h.grw.size g3.size, fun k hk hn => (same k (Nat.lt_of_lt_of_le hk h.grw.size) (own k (by omega))).trans (h.grw.block k hk hn)⟩, h.ord, (same _ (by omega) (own _ (by omega))).trans h.res, (same _ hlt h.nown).trans h.blk, ?_, hR, fun e => ?_, h.wl, by rw [List.length_append, List.length_singleton]; have := h.rl; omega⟩
  · refine heapSp.mono (heapSp.on h.hp fun b hb' => same b hb'.2.2.1 hb'.2.2.2) fun b hb' => ⟨hb'.1, hb'.2.1, Nat.lt_of_lt_of_le hb'.2.2.1 g3.size, fun e => ?_⟩
    rcases hn b e with q | q
    · exact hb'.2.2.2 q
    · omega
  · rcases hn hb e with q | q
    · exact h.nown q
    · omega
/-- A number of the heap is stored. -/
theorem DJ.num (h : DJ B p r2 hb w wr a c W hf bs nx ar cr rs) (j : Nat) (u : Value) (hf' bs' nx' : Int) (hu : #[Value.slice a W.length c, .int .i64 hf, .int .i64 bs, .int .i64 nx].setIfInBounds j u = #[Value.slice a W.length c, .int .i64 hf', .int .i64 bs', .int .i64 nx']) (r1 : InR hf') (r2' : InR bs') (r3 : InR nx') :
    DJ B p r2 hb w (wr.setCell ⟨hb, j, none⟩ u) a c W hf' bs' nx' ar cr rs := by
  have hlt := h.lt
  obtain ⟨o1, o2, o3⟩ := h.ord
  have so : ∀ k, k ≠ hb → (wr.setCell ⟨hb, j, none⟩ u).heap[k]? = wr.heap[k]? := fun k hk => Below.heap_setCell _ _ _ _ hk
  have sz : (wr.setCell ⟨hb, j, none⟩ u).heap.size = wr.heap.size := by simp [World.setCell]
  obtain ⟨x0, a0, c0, x1, x2, x3, hT, hcs, f0, -, -, -⟩ := heapp_open h.hp
  simp only [Prod.mk.injEq] at hT
  obtain ⟨rfl, rfl, rfl, rfl⟩ := hT
  simp only [List.cons.injEq, Value.slice.injEq, true_and, and_true] at hcs
  obtain ⟨rfl, rfl⟩ := hcs
  refine ⟨cur_of h.cur fun k hk => so k (by omega), ⟨h.grw.os, h.grw.tape, h.grw.output, by rw [sz]; exact h.grw.size, fun k hk hn => (so k (by omega)).trans (h.grw.block k hk hn)⟩, h.ord, (so _ (by omega)).trans h.res, ?_, ?_, ⟨own_same h.row.1 fun q hq => so q fun e => h.nown (by rw [← e]; exact hq), h.row.2⟩, h.nown, h.wl, h.rl⟩
  · rw [← hu]; simp [World.setCell, Array.getElem?_modify, h.blk]
  · exact heapp_shut (intsSp.mono (intsSp.on f0 fun b hb' => so b hb'.2.1) fun b hb' => ⟨hb'.1, hb'.2.1, by rw [sz]; exact hb'.2.2.1, hb'.2.2.2⟩) r1 r2' r3
end
/-- A word of the heap is stored. -/
theorem DJ.word {B p r2 hb : Nat} {w wr : World} {a : Option Addr} {c : Nat} {W : List Int} {hf bs nx : Int} {ar : Option Addr} {cr : Nat} {rs : List Int} (h : DJ B p r2 hb w wr a c W hf bs nx ar cr rs) {z : Nat} (hz : z < W.length) {x : Int} (hx : InR x) :
    ∃ b o, a = some ⟨b, o, none⟩ ∧ wr.cell? ⟨b, o + z, none⟩ = some (.int .i64 W[z]) ∧ wr.frozen? ⟨b, o + z, none⟩ = false ∧ b < wr.heap.size ∧ b ≠ p ∧ DJ B p r2 hb w (wr.setCell ⟨b, o + z, none⟩ (.int .i64 x)) a c (W.set z x) hf bs nx ar cr rs := by
  have hlt := h.lt
  obtain ⟨o1, o2, o3⟩ := h.ord
  obtain ⟨x0, a0, c0, x1, x2, x3, hT, hcs, f0, f1, f2, f3⟩ := heapp_open h.hp
  simp only [Prod.mk.injEq] at hT
  obtain ⟨rfl, rfl, rfl, rfl⟩ := hT
  simp only [List.cons.injEq, Value.slice.injEq, true_and, and_true] at hcs
  obtain ⟨rfl, rfl⟩ := hcs
  obtain ⟨a', cap, css, F, e, hcap, hmax, hnone, hrow⟩ := f0
  simp only [List.cons.injEq, Value.slice.injEq, true_and, and_true] at e
  obtain ⟨rfl, rfl⟩ := e
  obtain ⟨b, o, rfl, hSb, hFb, hc, hfz, cur, t, hbk⟩ := hrow.at hz
  have hrep := hrow.rep z hz
  have hcs := hrep.1
  rw [hcs] at hc
  have e0 : wr.cell? ⟨b, o + z, none⟩ = some (.int .i64 W[z]) := by have := hc 0 _ rfl; simpa [Sh.int] using this
  have hT : Turned b (o + z * Sh.int.k) (o + z * Sh.int.k + Sh.int.k) wr (wr.setCell ⟨b, o + z, none⟩ (.int .i64 x)) := Turned.set _ _ _ (by simp [Sh.int]) (by simp [Sh.int])
  have hn := hrow.turn (fun q hq => hq.2.2.1) hz rfl hT (Only.refl _ _) (cs := [.int .i64 x]) (x := x) (by
    intro q v hq
    match q, hq with
    | 0, hq =>
      simp at hq; subst hq
      have := cell_set_eq (v := .int .i64 x) e0
      simpa [Sh.int] using this
    | _ + 1, hq => simp at hq) ⟨rfl, hx⟩
  have so : ∀ k, k ≠ b → (wr.setCell ⟨b, o + z, none⟩ (.int .i64 x)).heap[k]? = wr.heap[k]? := fun k hk => Below.heap_setCell _ _ _ _ hk
  have sz : (wr.setCell ⟨b, o + z, none⟩ (.int .i64 x)).heap.size = wr.heap.size := by simp [World.setCell]
  have fz : wr.frozen? ⟨b, o + z, none⟩ = false := by simp [World.frozen?, hbk]
  refine ⟨b, o, rfl, e0, fz, hSb.2.2.1, by omega, ?_⟩
  refine ⟨cur_of h.cur fun k hk => so k (by omega), ⟨h.grw.os, h.grw.tape, h.grw.output, by rw [sz]; exact h.grw.size, fun k hk hn => (so k (by omega)).trans (h.grw.block k hk hn)⟩, h.ord, (so _ (by omega)).trans h.res, ?_, ?_, ⟨own_same h.row.1 fun q hq => so q fun e => hSb.2.2.2 (by rw [← e]; exact hq), h.row.2⟩, h.nown, by rw [List.length_set]; exact h.wl, h.rl⟩
  · rw [List.length_set]; exact (so _ (fun e => hSb.2.1 e.symm)).trans h.blk
  · refine heapp_shut ?_ f1 f2 f3
    have hk : intsSp.rep (wr.setCell ⟨b, o + z, none⟩ (.int .i64 x)) (fun q => r2 < q ∧ q ≠ hb ∧ q < wr.heap.size ∧ (Value.slice ar rs.length cr).ownBlock ≠ some q) [.slice (some ⟨b, o, none⟩) (W.set z x).length c] (W.set z x) :=
      ⟨some ⟨b, o, none⟩, c, _, F, rfl, by rw [List.length_set]; exact hcap, hmax, hnone, hn.1⟩
    exact intsSp.mono hk fun q hq => ⟨hq.1, hq.2.1, by rw [sz]; exact hq.2.2.1, hq.2.2.2⟩

end Go.Proofs.YthpdkjenadngoaaGreatDoor.heap

namespace Go.Proofs.YthpdkjenadngoaaGreatDoor.heap
open Go Go.RowKit Go.Deep Go.Proofs.YthpdkjenadngoaaGreatDoor.rose Go.Proofs.YthpdkjenadngoaaGreatDoor Go.Proofs.YthpdkjenadngoaaGreatDoor.fun Go.Proofs.YthpdkjenadngoaaGreatDoor.ints Go.Proofs.YthpdkjenadngoaaGreatDoor.cur Go.Proofs.YthpdkjenadngoaaGreatDoor.words
set_option linter.unusedVariables false
set_option linter.unusedSimpArgs false

theorem cell_len {B p r2 hb : Nat} {w wr : World} {a : Option Addr} {c z : Nat} {W : List Int} {x hf bs nx : Int} {ar : Option Addr} {cr : Nat} {rs : List Int} (h : DJ B p r2 hb w wr a c (W.set z x) hf bs nx ar cr rs) : wr.cell? ⟨hb, 0, none⟩ = some (.slice a W.length c) := by
  have h9 := h.cell 0 rfl
  rw [List.length_set] at h9
  exact h9

set_option maxRecDepth 100000 in
set_option maxHeartbeats 32000000 in
theorem drawHeap_any (B p : Nat) (w : World) (hc : Cur B w p) :
    Calls Tryz.prog 20 #[.pointer (some ⟨p, 0, none⟩)] w fun e w' => ∃ a c W hf bs nx ar cr rs, e = .returned (.tuple #[.agg #[.slice a (W : List Int).length c, .int .i64 hf, .int .i64 bs, .int .i64 nx], .slice ar (rs : List Int).length cr]) ∧ DW B p w w' a c W hf bs nx ar cr rs := by
  have hplt := hc.lt
  have hcall := drawRight_any B p (w.alloc (.cells #[.slice none 0 0, .int .i64 0, .int .i64 0, .int .i64 0] 26)) (hc.on (World.grownBy_alloc _ _ none))
  obtain ⟨ti, hti, hz0, hz1, hz2⟩ := int_info
  have TI : Hid (Tryz.prog.info? 3 = some ti ∧ ti.zero = some (.int .i64 0) ∧ ti.size = 1 ∧ ti.bytes = 8) := ⟨hti, hz0, hz1, hz2⟩
  clear hc hti hz0 hz1 hz2
  go_enter Tryz.func20, Tryz.ntmps20
  go_wp2_with fail
  refine hcall.mono ?_
  rintro e w1 ⟨a, c, W, hf, bs, nx, ar, cr, rs, rfl, hD⟩
  have J1 := hid_of (DJ.start hD hplt)
  have hrl : rs.length ≤ 200 := hD.rl.2
  clear hD hcall
  have h2 := below_small B p 14 _ J1.out.cur (by decide) (by decide)
  go_wp2_with fail
  refine h2.mono ?_
  rintro e w2 ⟨x, rfl, x0, x1, hc2, hg2⟩
  have J2 := hid_of (J1.out.turn hc2 hg2)
  have hwl : 2 ≤ W.length ∧ W.length ≤ 120 := J2.out.wl
  have hin : InR hf ∧ InR bs ∧ InR nx := by
    obtain ⟨_, _, _, _, _, _, hT, -, -, f1, f2, f3⟩ := heapp_open J2.out.hp
    simp only [Prod.mk.injEq] at hT
    obtain ⟨-, rfl, rfl, rfl⟩ := hT
    exact ⟨f1, f2, f3⟩
  have HIN := hid_of hin
  have hrh : w.heap.size ≠ w1.heap.size := by have := J2.out.ord; omega
  have hhr : w1.heap.size ≠ w.heap.size := hrh.symm
  clear hc2 hg2 h2 J1 hin
  have hcase : x = 0 ∨ x = 1 ∨ x = 2 ∨ x = 3 ∨ x = 4 ∨ 5 ≤ x := by omega
  rcases hcase with rfl | rfl | rfl | rfl | rfl | h5
  · have h0W : 0 < W.length := by omega
    obtain ⟨bw, ow, rfl, -⟩ := J2.out.word h0W (x := 0) (by unfold InR; omega)
    have KJ : Hid (DJ B p w.heap.size w1.heap.size w w2.drew (some ⟨bw, ow, none⟩) c W hf bs nx ar cr rs) := J2.out.on (Below.refl _ _).drew
    have ca0 : w2.cell? ⟨w1.heap.size, 0, none⟩ = some (.slice (some ⟨bw, ow, none⟩) W.length c) := J2.out.cell 0 rfl
    have cA0 : ∀ Y : Obj, (w2.alloc Y).cell? ⟨w1.heap.size, 0, none⟩ = some (.slice (some ⟨bw, ow, none⟩) W.length c) := fun Y => (J2.out.new Y).cell 0 rfl
    have hp2 : p < w2.heap.size := J2.out.cur.lt
    go_wp2
    clear J2
    go_region_held3 (fun X => X.cell? ⟨w1.heap.size, 0, none⟩ = some (.slice (some ⟨bw, ow, none⟩) W.length c))
      (first | with_reducible exact ca0 | with_reducible exact cA0 _ | with_reducible exact cS0 | (rw [cell_drewD]; first | with_reducible exact ca0 | with_reducible exact cA0 _))
      (first
        | (go_at_call 21; first
            | (with_reducible show Calls _ _ _ (World.drew w2) _; refine (below_small B p (W.length : Int) _ KJ.out.cur (by omega) (by omega)).mono ?_; rintro e wn ⟨zi, rfl, z0, z1, hcn, hgn⟩; replace KJ := hid_of (KJ.out.turn hcn hgn); obtain ⟨z, rfl⟩ := Int.eq_ofNat_of_zero_le z0; clear hcn hgn; replace ca0 : wn.cell? ⟨w1.heap.size, 0, none⟩ = some (.slice (some ⟨bw, ow, none⟩) W.length c) := KJ.out.cell 0 rfl; replace cA0 : ∀ Y : Obj, (wn.alloc Y).cell? ⟨w1.heap.size, 0, none⟩ = some (.slice (some ⟨bw, ow, none⟩) W.length c) := fun Y => (KJ.out.new Y).cell 0 rfl)
            | (have KL := hid_of (ints_new w2 [0, 1, 2, 3, 200, 99999, -1, 9223372036854775807] 3 (by decide)); replace KJ : Hid (DJ B p w.heap.size w1.heap.size w (w2.alloc (.cells #[.int .i64 0, .int .i64 1, .int .i64 2, .int .i64 3, .int .i64 200, .int .i64 99999, .int .i64 (-1), .int .i64 9223372036854775807] 3)).drew (some ⟨bw, ow, none⟩) c W hf bs nx ar cr rs) := KJ.out.on ((Below.refl _ _).alloc (Nat.le_refl _) _); refine (below_small B p (W.length : Int) _ KJ.out.cur (by omega) (by omega)).mono ?_; rintro e wn ⟨zi, rfl, z0, z1, hcn, hgn⟩; have KG := hid_of hgn; replace KJ := hid_of (KJ.out.turn hcn hgn); obtain ⟨z, rfl⟩ := Int.eq_ofNat_of_zero_le z0; clear hcn hgn; replace ca0 : wn.cell? ⟨w1.heap.size, 0, none⟩ = some (.slice (some ⟨bw, ow, none⟩) W.length c) := KJ.out.cell 0 rfl; replace cA0 : ∀ Y : Obj, (wn.alloc Y).cell? ⟨w1.heap.size, 0, none⟩ = some (.slice (some ⟨bw, ow, none⟩) W.length c) := fun Y => (KJ.out.new Y).cell 0 rfl))
        | (go_at_call 40; first
            | (revert KL; intro KL; refine (pickInt_any B p w2.heap.size 8 _ KJ.out.cur (by decide) (by decide) (by omega) (by have := KG.out.size; simp at this; omega) (fun j hj => by obtain ⟨zz, q1, q2⟩ := KL.out j hj; exact ⟨zz, (World.cell?_of_block (a := ⟨w2.heap.size, j, none⟩) (KG.out.block w2.heap.size (by simp) (fun e => by simp only [Option.some.injEq] at e; omega))).trans q1, q2⟩)).mono ?_; rintro e wm ⟨y, rfl, y0, y1, hcn, hgn⟩; replace KJ := hid_of (KJ.out.turn hcn hgn); clear hcn hgn; obtain ⟨b', o', hab, e0, fz, -, -, hJ⟩ := KJ.out.word (show z < W.length by omega) (x := y) ⟨y0, y1⟩; simp only [Option.some.injEq, Addr.mk.injEq, and_true] at hab; obtain ⟨rfl, rfl⟩ := hab; have NJ := hid_of hJ; clear hJ; have cS0 : (wm.setCell ⟨bw, ow + z, none⟩ (.int .i64 y)).cell? ⟨w1.heap.size, 0, none⟩ = some (.slice (some ⟨bw, ow, none⟩) W.length c) := cell_len NJ.out; replace ca0 : wm.cell? ⟨w1.heap.size, 0, none⟩ = some (.slice (some ⟨bw, ow, none⟩) W.length c) := KJ.out.cell 0 rfl; replace cA0 : ∀ Y : Obj, (wm.alloc Y).cell? ⟨w1.heap.size, 0, none⟩ = some (.slice (some ⟨bw, ow, none⟩) W.length c) := fun Y => (KJ.out.new Y).cell 0 rfl)
            | (refine (pickInt_any B p wn.heap.size 8 _ (KJ.out.new _).cur (by decide) (by decide) (by have := KJ.out.cur.lt; omega) (by simp) (ints_new wn [0, 1, 2, 3, 200, 99999, -1, 9223372036854775807] 3 (by decide))).mono ?_; rintro e wm ⟨y, rfl, y0, y1, hcn, hgn⟩; replace KJ := hid_of ((KJ.out.new _).turn hcn hgn); clear hcn hgn; obtain ⟨b', o', hab, e0, fz, -, -, hJ⟩ := KJ.out.word (show z < W.length by omega) (x := y) ⟨y0, y1⟩; simp only [Option.some.injEq, Addr.mk.injEq, and_true] at hab; obtain ⟨rfl, rfl⟩ := hab; have NJ := hid_of hJ; clear hJ; have cS0 : (wm.setCell ⟨bw, ow + z, none⟩ (.int .i64 y)).cell? ⟨w1.heap.size, 0, none⟩ = some (.slice (some ⟨bw, ow, none⟩) W.length c) := cell_len NJ.out; replace ca0 : wm.cell? ⟨w1.heap.size, 0, none⟩ = some (.slice (some ⟨bw, ow, none⟩) W.length c) := KJ.out.cell 0 rfl; replace cA0 : ∀ Y : Obj, (wm.alloc Y).cell? ⟨w1.heap.size, 0, none⟩ = some (.slice (some ⟨bw, ow, none⟩) W.length c) := fun Y => (KJ.out.new Y).cell 0 rfl)))
    all_goals
      obtain ⟨wz, hwz⟩ : ∃ wz, wz = wm.setCell ⟨bw, ow + z, none⟩ (.int .i64 y) := ⟨_, rfl⟩
      rw [← hwz] at NJ cS0 ⊢
      clear hwz KJ ca0 cA0 e0 fz
      have d1 := NJ.out.cell 1 rfl
      have d2 := NJ.out.cell 2 rfl
      have d3 := NJ.out.cell 3 rfl
      have r0 := NJ.out.rcell 0 rfl
      have r1 := NJ.out.rcell 1 rfl
      have r2 := NJ.out.rcell 2 rfl
      have r3 := NJ.out.rcell 3 rfl
      have rz := NJ.out.rfree
      have hE := NJ.out.done
      unfold set4 at hE
      simp only [List.length_set] at hE
      have E4 := hid_of hE
      clear hE
      go_wp2
      refine bodyPost_ret (v := .tuple #[.agg #[.slice (some ⟨bw, ow, none⟩) W.length c, .int .i64 hf, .int .i64 bs, .int .i64 nx], .slice ar rs.length cr]) (by simp [results, Tryz.f20, go_sem, r0, r1, r2, r3]) rfl ?_
      exact ⟨some ⟨bw, ow, none⟩, c, W.set z y, hf, bs, nx, ar, cr, rs, by rw [List.length_set], E4.out⟩
  · have h3 := pickInt_any B p w2.heap.size 6 _ (J2.out.new _).cur (by decide) (by decide) (by have := J2.out.cur.lt; omega) (by simp) (ints_new w2 [-1, 0, 1, 3, 60, 121] 3 (by decide))
    go_wp2_with fail
    refine h3.mono ?_
    rintro e w3 ⟨y, rfl, y0, y1, hc3, hg3⟩
    have J3 := hid_of ((J2.out.new _).turn hc3 hg3)
    have J4 := hid_of (J3.out.num 3 (.int .i64 y) hf bs y rfl HIN.out.1 HIN.out.2.1 ⟨y0, y1⟩)
    clear hc3 hg3 h3 J2
    have d0 := J3.out.cell 0 rfl
    have d1 := J3.out.cell 1 rfl
    have d2 := J3.out.cell 2 rfl
    have d3 := J3.out.cell 3 rfl
    have dz := J3.out.free
    have r0 := J3.out.rcell 0 rfl
    have r1 := J3.out.rcell 1 rfl
    have r2 := J3.out.rcell 2 rfl
    have r3 := J3.out.rcell 3 rfl
    have rz := J3.out.rfree
    have hE := J4.out.done
    unfold set4 at hE
    have E4 := hid_of hE
    clear hE
    go_wp2
    refine bodyPost_ret (v := .tuple #[.agg #[.slice a (W).length c, .int .i64 hf, .int .i64 bs, .int .i64 y], .slice ar (rs).length cr]) (by simp [results, Tryz.f20, go_sem, r0, r1, r2, r3]) rfl ?_
    exact ⟨a, c, W, hf, bs, y, ar, cr, rs, rfl, E4.out⟩
  · have h3 := pickInt_any B p w2.heap.size 4 _ (J2.out.new _).cur (by decide) (by decide) (by have := J2.out.cur.lt; omega) (by simp) (ints_new w2 [0, 1, 6, 20] 3 (by decide))
    go_wp2_with fail
    refine h3.mono ?_
    rintro e w3 ⟨y, rfl, y0, y1, hc3, hg3⟩
    have J3 := hid_of ((J2.out.new _).turn hc3 hg3)
    have J4 := hid_of (J3.out.num 2 (.int .i64 y) hf y nx rfl HIN.out.1 ⟨y0, y1⟩ HIN.out.2.2)
    clear hc3 hg3 h3 J2
    have d0 := J3.out.cell 0 rfl
    have d1 := J3.out.cell 1 rfl
    have d2 := J3.out.cell 2 rfl
    have d3 := J3.out.cell 3 rfl
    have dz := J3.out.free
    have r0 := J3.out.rcell 0 rfl
    have r1 := J3.out.rcell 1 rfl
    have r2 := J3.out.rcell 2 rfl
    have r3 := J3.out.rcell 3 rfl
    have rz := J3.out.rfree
    have hE := J4.out.done
    unfold set4 at hE
    have E4 := hid_of hE
    clear hE
    go_wp2
    refine bodyPost_ret (v := .tuple #[.agg #[.slice a (W).length c, .int .i64 hf, .int .i64 y, .int .i64 nx], .slice ar (rs).length cr]) (by simp [results, Tryz.f20, go_sem, r0, r1, r2, r3]) rfl ?_
    exact ⟨a, c, W, hf, y, nx, ar, cr, rs, rfl, E4.out⟩
  · have h3 := pickInt_any B p w2.heap.size 3 _ (J2.out.new _).cur (by decide) (by decide) (by have := J2.out.cur.lt; omega) (by simp) (ints_new w2 [0, 6, 3001] 3 (by decide))
    go_wp2_with fail
    refine h3.mono ?_
    rintro e w3 ⟨y, rfl, y0, y1, hc3, hg3⟩
    have J3 := hid_of ((J2.out.new _).turn hc3 hg3)
    have J4 := hid_of (J3.out.num 1 (.int .i64 y) y bs nx rfl ⟨y0, y1⟩ HIN.out.2.1 HIN.out.2.2)
    clear hc3 hg3 h3 J2
    have d0 := J3.out.cell 0 rfl
    have d1 := J3.out.cell 1 rfl
    have d2 := J3.out.cell 2 rfl
    have d3 := J3.out.cell 3 rfl
    have dz := J3.out.free
    have r0 := J3.out.rcell 0 rfl
    have r1 := J3.out.rcell 1 rfl
    have r2 := J3.out.rcell 2 rfl
    have r3 := J3.out.rcell 3 rfl
    have rz := J3.out.rfree
    have hE := J4.out.done
    unfold set4 at hE
    have E4 := hid_of hE
    clear hE
    go_wp2
    refine bodyPost_ret (v := .tuple #[.agg #[.slice a (W).length c, .int .i64 y, .int .i64 bs, .int .i64 nx], .slice ar (rs).length cr]) (by simp [results, Tryz.f20, go_sem, r0, r1, r2, r3]) rfl ?_
    exact ⟨a, c, W, y, bs, nx, ar, cr, rs, rfl, E4.out⟩
  · have h3 := pickInt_any B p w2.heap.size 5 _ (J2.out.new _).cur (by decide) (by decide) (by have := J2.out.cur.lt; omega) (by simp) (ints_new w2 [0, 2, 4, 98, -2] 3 (by decide))
    go_wp2_with fail
    refine h3.mono ?_
    rintro e w3 ⟨y, rfl, y0, y1, hc3, hg3⟩
    have J3 := hid_of ((J2.out.new _).turn hc3 hg3)
    clear hc3 hg3 h3 J2
    have RD : Hid (∀ X, (w3.alloc X).ownsRow (w.heap.size + 1) 3 1 (.slice ar rs.length cr) rs.length (rs.map (Value.int .i64))) := fun X => (J3.out.new X).row.1
    have HZ : Hid (w.heap.size < w3.heap.size) := by show _ < _; have h1 := J3.out.lt; have h2 := J3.out.ord; omega
    go_wp2_with (first
      | (at_builtin; refine wpList_append_own_at _ rfl (.tmp 46) (.tmp 50) 24 rfl (w.heap.size + 1) 3 ti _ 1 8 Tryz.underlying24 TI.out.1 TI.out.2.1 TI.out.2.2.1 TI.out.2.2.2 rfl (by decide) (.slice ar rs.length cr) _ _ rfl (RD.out _) ⟨w3.heap.size, 0, none⟩ 1 1 [.int .i64 y] rfl rfl (new_cell _ _ _) (by simp; rfl) (by unfold maxLen; omega) (by omega) (by have := HZ.out; simp; omega) ?_; intro v9 w9 o9 g9 n9 e9; obtain ⟨a9, c9, rfl⟩ := own_form o9
         have J4 := hid_of ((J3.out.new _).app o9 g9 e9 ⟨y0, y1⟩ (by omega))
         clear o9 g9 n9 e9
         have d0 := J4.out.cell 0 rfl
         have d1 := J4.out.cell 1 rfl
         have d2 := J4.out.cell 2 rfl
         have d3 := J4.out.cell 3 rfl
         have dz := J4.out.free
         have r0 := J4.out.rcell 0 rfl
         have r1 := J4.out.rcell 1 rfl
         have r2 := J4.out.rcell 2 rfl
         have r3 := J4.out.rcell 3 rfl
         have rz := J4.out.rfree))
    have hE := J4.out.done
    unfold set4 at hE
    have E4 := hid_of hE
    clear hE
    go_wp2
    refine bodyPost_ret (v := .tuple #[.agg #[.slice a (W).length c, .int .i64 hf, .int .i64 bs, .int .i64 nx], .slice a9 (rs ++ [y]).length c9]) (by simp [results, Tryz.f20, go_sem, r0, r1, r2, r3]) rfl ?_
    exact ⟨a, c, W, hf, bs, nx, a9, c9, rs ++ [y], rfl, E4.out⟩
  · have t0 : (x == 0) = false := by simp; omega
    have t1 : (x == 1) = false := by simp; omega
    have t2 : (x == 2) = false := by simp; omega
    have t3 : (x == 3) = false := by simp; omega
    have t4 : (x == 4) = false := by simp; omega
    have d0 := J2.out.cell 0 rfl
    have d1 := J2.out.cell 1 rfl
    have d2 := J2.out.cell 2 rfl
    have d3 := J2.out.cell 3 rfl
    have dz := J2.out.free
    have r0 := J2.out.rcell 0 rfl
    have r1 := J2.out.rcell 1 rfl
    have r2 := J2.out.rcell 2 rfl
    have r3 := J2.out.rcell 3 rfl
    have rz := J2.out.rfree
    have hE := J2.out.done
    unfold set4 at hE
    have E4 := hid_of hE
    clear hE
    go_wp2
    refine bodyPost_ret (v := .tuple #[.agg #[.slice a (W).length c, .int .i64 hf, .int .i64 bs, .int .i64 nx], .slice ar (rs).length cr]) (by simp [results, Tryz.f20, go_sem, r0, r1, r2, r3]) rfl ?_
    exact ⟨a, c, W, hf, bs, nx, ar, cr, rs, rfl, E4.out⟩

end Go.Proofs.YthpdkjenadngoaaGreatDoor.heap

namespace Go.Proofs.YthpdkjenadngoaaGreatDoor.heap
open Go Go.RowKit Go.Deep Go.Proofs.YthpdkjenadngoaaGreatDoor.rose Go.Proofs.YthpdkjenadngoaaGreatDoor Go.Proofs.YthpdkjenadngoaaGreatDoor.fun Go.Proofs.YthpdkjenadngoaaGreatDoor.ints Go.Proofs.YthpdkjenadngoaaGreatDoor.cur Go.Proofs.YthpdkjenadngoaaGreatDoor.words
set_option linter.unusedVariables false
set_option linter.unusedSimpArgs false

structure DK (B p r2 hb : Nat) (w wr : World) (a : Option Addr) (c : Nat) (W : List Int) (hf bs nx : Int) (ar : Option Addr) (cr : Nat) (rs : List Int) : Prop where
  cur : Cur B wr p
  bel : Below w.heap.size w wr
  ord : w.heap.size ≤ r2 ∧ r2 < p ∧ p < hb
  res : wr.heap[r2]? = some (.cells #[.slice none 0 0, .int .i64 0, .int .i64 0, .int .i64 0] 26)
  blk : wr.heap[hb]? = some (.cells #[.slice a W.length c, .int .i64 hf, .int .i64 bs, .int .i64 nx] 26)
  hp : heapSp.rep wr (fun b => p < b ∧ b ≠ hb ∧ b < wr.heap.size ∧ (Value.slice ar rs.length cr).ownBlock ≠ some b) [.slice a W.length c, .int .i64 hf, .int .i64 bs, .int .i64 nx] (W, hf, bs, nx)
  row : IRow wr (p + 1) (.slice ar rs.length cr) rs
  nown : (Value.slice ar rs.length cr).ownBlock ≠ some hb
  wl : 2 ≤ W.length ∧ W.length ≤ 120
  rl : 2 ≤ rs.length ∧ rs.length ≤ 250
theorem code_new {w : World} {a : Option Addr} {len : Nat} (h : cur.Code w.heap.size w a len) (X : Obj) : cur.Code w.heap.size (w.alloc X) a len := h.of_cells fun ad had => World.cell?_alloc_lt w _ ad had
section
variable {B p r2 hb : Nat} {w wr w' w1 w2 : World} {a : Option Addr} {c : Nat} {W : List Int} {hf bs nx : Int} {ar : Option Addr} {cr : Nat} {rs : List Int}
theorem DK.lt (h : DK B p r2 hb w wr a c W hf bs nx ar cr rs) : hb < wr.heap.size := (Array.getElem?_eq_some_iff.1 h.blk).1
theorem DK.turn (h : DK B p r2 hb w wr a c W hf bs nx ar cr rs) (hc : Cur B w' p) (hg : wr.grownBy w' (some p)) : DK B p r2 hb w w' a c W hf bs nx ar cr rs := by
  have h1 := h.lt
  obtain ⟨o1, o2, o3⟩ := h.ord
  have same : ∀ k, k < wr.heap.size → k ≠ p → w'.heap[k]? = wr.heap[k]? := fun k hk hn => hg.block k hk fun e => hn (by simpa using e)
  refine ⟨hc, h.bel.grown hg h.bel.size fun k hk => by simp only [Option.some.injEq] at hk; omega, h.ord, (same _ (by omega) (by omega)).trans h.res, (same _ h1 (by omega)).trans h.blk, ?_, ⟨own_same h.row.1 fun q hq => same q (h.row.lt q hq).2 (by have := (h.row.lt q hq).1; omega), h.row.2⟩, h.nown, h.wl, h.rl⟩
  exact heapSp.mono (heapSp.on h.hp fun b hb' => same b hb'.2.2.1 (by omega)) fun b hb' => ⟨hb'.1, hb'.2.1, Nat.lt_of_lt_of_le hb'.2.2.1 hg.size, hb'.2.2.2⟩
theorem DK.on (h : DK B p r2 hb w wr a c W hf bs nx ar cr rs) (hB : Below wr.heap.size wr w') : DK B p r2 hb w w' a c W hf bs nx ar cr rs :=
  h.turn (h.cur.on ⟨hB.os, hB.tape, hB.output, hB.size, fun k hk _ => hB.block k hk⟩) ⟨hB.os, hB.tape, hB.output, hB.size, fun k hk _ => hB.block k hk⟩
theorem DK.new (h : DK B p r2 hb w wr a c W hf bs nx ar cr rs) (X : Obj) : DK B p r2 hb w (wr.alloc X) a c W hf bs nx ar cr rs := h.on ((Below.refl _ _).alloc (Nat.le_refl _) X)
theorem DK.cell (h : DK B p r2 hb w wr a c W hf bs nx ar cr rs) (j : Nat) {u : Value} (hj : #[Value.slice a W.length c, .int .i64 hf, .int .i64 bs, .int .i64 nx][j]? = some u) : wr.cell? ⟨hb, j, none⟩ = some u := by simp [World.cell?, h.blk, hj]
theorem DK.rcell (h : DK B p r2 hb w wr a c W hf bs nx ar cr rs) (j : Nat) {u : Value} (hj : #[Value.slice none 0 0, .int .i64 0, .int .i64 0, .int .i64 0][j]? = some u) : wr.cell? ⟨r2, j, none⟩ = some u := by simp [World.cell?, h.res, hj]
theorem DK.rfree (h : DK B p r2 hb w wr a c W hf bs nx ar cr rs) (j : Nat) : wr.frozen? ⟨r2, j, none⟩ = false := by simp [World.frozen?, h.res]
theorem DK.root (h : DK B p r2 hb w wr a c W hf bs nx ar cr rs) {j : Nat} (hj : j < rs.length) : ∃ g, ar = some ⟨g, 0, none⟩ ∧ wr.cell? ⟨g, j, none⟩ = some (.int .i64 rs[j]) ∧ InR rs[j] := by
  rcases h.row.open with ⟨-, h0⟩ | ⟨g, cap, hv, -, -, -, -, h6, -⟩
  · rw [h0] at hj; simp at hj
  · simp only [Value.slice.injEq] at hv
    exact ⟨g, hv.1, h6 j hj, h.row.2 _ (List.getElem_mem hj)⟩
theorem DK.start (h1 : Cur w.heap.size w1 (w.heap.size + 1)) (hg1 : (w.alloc (.cells #[.slice none 0 0, .int .i64 0, .int .i64 0, .int .i64 0] 26)).grownBy w1 none) (hs1 : w1.heap.size = w.heap.size + 2) (h : DW w.heap.size (w.heap.size + 1) w1 w2 a c W hf bs nx ar cr rs) :
    DK w.heap.size (w.heap.size + 1) w.heap.size w2.heap.size w (w2.alloc (.cells #[.slice a W.length c, .int .i64 hf, .int .i64 bs, .int .i64 nx] 26)) a c W hf bs nx ar cr rs := by
  have hs := h.grw.size
  have hA : Below w2.heap.size w2 (w2.alloc (.cells #[.slice a W.length c, .int .i64 hf, .int .i64 bs, .int .i64 nx] 26)) := (Below.refl _ _).alloc (Nat.le_refl _) _
  have hB1 : Below w.heap.size w w1 := ((Below.refl _ w).alloc (Nat.le_refl _) _).grown hg1 (by simp) fun k hk => by cases hk
  have hB2 : Below w.heap.size w w2 := hB1.grown h.grw (by omega) fun k hk => by simp only [Option.some.injEq] at hk; omega
  refine ⟨h.cur.on (World.grownBy_alloc _ _ none), hB2.trans (hA.mono (by omega)), ⟨Nat.le_refl _, by omega, by omega⟩, ?_, alloc_top _ _, ?_, IRow.keep (w := w2) (base := w.heap.size + 1 + 1) ⟨own_base h.row.1 (by omega), h.row.2⟩ hA, fun e => by have := (h.row.lt _ e).2; omega, h.wl, h.rl⟩
  · refine (hA.block _ (by omega)).trans ((h.grw.block w.heap.size (by omega) fun e => by simp only [Option.some.injEq] at e; omega).trans ((hg1.block w.heap.size (by simp) (by simp)).trans (alloc_top _ _)))
  · exact heapSp.mono (heapSp.on h.hp fun b hb' => hA.block b hb'.2.1) fun b hb' => ⟨by omega, by omega, Nat.lt_of_lt_of_le hb'.2.1 hA.size, hb'.2.2⟩
theorem DK.done (h : DK B p r2 hb w wr a c W hf bs nx ar cr rs) : heapSp.rep (set4 wr r2 (.slice a W.length c) (.int .i64 hf) (.int .i64 bs) (.int .i64 nx)) (fun b => w.heap.size ≤ b ∧ b < (set4 wr r2 (.slice a W.length c) (.int .i64 hf) (.int .i64 bs) (.int .i64 nx)).heap.size) [.slice a W.length c, .int .i64 hf, .int .i64 bs, .int .i64 nx] (W, hf, bs, nx) ∧ Below w.heap.size w (set4 wr r2 (.slice a W.length c) (.int .i64 hf) (.int .i64 bs) (.int .i64 nx)) := by
  have hlt := h.lt
  obtain ⟨o1, o2, o3⟩ := h.ord
  have so := set4_other wr r2 (.slice a W.length c) (.int .i64 hf) (.int .i64 bs) (.int .i64 nx)
  refine ⟨heapSp.mono (heapSp.on h.hp fun b hb' => so b (by omega)) fun b hb' => ⟨by omega, by rw [set4_size]; exact hb'.2.2.1⟩, ⟨h.bel.os, h.bel.tape, h.bel.output, by rw [set4_size]; exact h.bel.size, fun k hk => (so k (by omega)).trans (h.bel.block k hk)⟩⟩
end

/-- A heap that was drawn. -/
def Heaped (w w' : World) (cs : List Value) (T : HeapD) : Prop := heapSp.rep w' (fun b => w.heap.size ≤ b ∧ b < w'.heap.size) cs T ∧ T.1.length ≤ 120 ∧ Below w.heap.size w w'

end Go.Proofs.YthpdkjenadngoaaGreatDoor.heap
