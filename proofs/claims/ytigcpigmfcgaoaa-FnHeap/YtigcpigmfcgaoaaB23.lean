/-
  The model's draws of heaps out of a code: DrawHeapOk, DrawRoom, DrawHeapNew, DrawBlockAt; nothing that was there is turned.
  The model's draws of heaps out of a code: DrawRoom, DrawAlloc; nothing that was there is turned.
-/
import Derived.Maps.AppendAt
import Derived.Deep.RegionHeld3
import Derived.Test.YtigcpigmfcgaoaaB1
import Derived.Test.YtigcpigmfcgaoaaB2
import Derived.Test.YtigcpigmfcgaoaaB3
import Derived.Test.YtigcpigmfcgaoaaB4
import Derived.Test.YtigcpigmfcgaoaaB5
import Derived.Test.YtigcpigmfcgaoaaB6
import Derived.Test.YtigcpigmfcgaoaaB7
import Derived.Test.YtigcpigmfcgaoaaB8
import Derived.Test.YtigcpigmfcgaoaaB9
import Derived.Test.YtigcpigmfcgaoaaB10
import Derived.Test.YtigcpigmfcgaoaaB11
import Derived.Test.YtigcpigmfcgaoaaB12
import Derived.Test.YtigcpigmfcgaoaaB13
import Derived.Test.YtigcpigmfcgaoaaB14
import Derived.Test.YtigcpigmfcgaoaaB15
import Derived.Test.YtigcpigmfcgaoaaB16
import Derived.Test.YtigcpigmfcgaoaaB17
import Derived.Test.YtigcpigmfcgaoaaB18
import Derived.Test.YtigcpigmfcgaoaaB19
import Derived.Test.YtigcpigmfcgaoaaB20
import Derived.Test.YtigcpigmfcgaoaaB21
import Derived.Test.YtigcpigmfcgaoaaB22
namespace Go.Proofs.Ytigcpigmfcgaoaa.heap
open Go Go.RowKit Go.Deep Go.Proofs.Ytigcpigmfcgaoaa.rose Go.Proofs.Ytigcpigmfcgaoaa Go.Proofs.Ytigcpigmfcgaoaa.fun Go.Proofs.Ytigcpigmfcgaoaa.ints Go.Proofs.Ytigcpigmfcgaoaa.cur Go.Proofs.Ytigcpigmfcgaoaa.words
set_option linter.unusedVariables false
set_option linter.unusedSimpArgs false

structure DK (B p r2 hb : Nat) (w wr : World) (a : Option Addr) (c : Nat) (W : List Int) (hf bs nx : Int) (ar : Option Addr) (cr : Nat) (rs : List Int) : Prop where
  cur : Cur B wr p
  bel : Below w.heap.size w wr
  ord : w.heap.size ≤ r2 ∧ r2 < p ∧ p < hb
  res : wr.heap[r2]? = some (.cells #[.slice none 0 0, .int .i64 0, .int .i64 0, .int .i64 0] 26)
  blk : wr.heap[hb]? = some (.cells #[.slice a W.length c, .int .i64 hf, .int .i64 bs, .int .i64 nx] 26)
  hp : heapSp.rep wr (fun b => p < b ∧ b ≠ hb ∧ b < wr.heap.size ∧ (Value.slice ar rs.length cr).ownBlock ≠ some b) [.slice a W.length c, .int .i64 hf, .int .i64 bs, .int .i64 nx] (W, hf, bs, nx)
  row : IRow wr (p + 1) (.slice ar rs.length cr) rs
  nown : (Value.slice ar rs.length cr).ownBlock ≠ some hb
  wl : 2 ≤ W.length ∧ W.length ≤ 120
  rl : 2 ≤ rs.length ∧ rs.length ≤ 250
theorem code_new {w : World} {a : Option Addr} {len : Nat} (h : cur.Code w.heap.size w a len) (X : Obj) : cur.Code w.heap.size (w.alloc X) a len := h.of_cells fun ad had => World.cell?_alloc_lt w _ ad had
section
variable {B p r2 hb : Nat} {w wr w' w1 w2 : World} {a : Option Addr} {c : Nat} {W : List Int} {hf bs nx : Int} {ar : Option Addr} {cr : Nat} {rs : List Int}
theorem DK.lt (h : DK B p r2 hb w wr a c W hf bs nx ar cr rs) : hb < wr.heap.size := (Array.getElem?_eq_some_iff.1 h.blk).1
theorem DK.turn (h : DK B p r2 hb w wr a c W hf bs nx ar cr rs) (hc : Cur B w' p) (hg : wr.grownBy w' (some p)) : DK B p r2 hb w w' a c W hf bs nx ar cr rs := by
  have h1 := h.lt
  obtain ⟨o1, o2, o3⟩ := h.ord
  have same : ∀ k, k < wr.heap.size → k ≠ p → w'.heap[k]? = wr.heap[k]? := fun k hk hn => hg.block k hk fun e => hn (by simpa using e)
  refine ⟨hc, h.bel.grown hg h.bel.size fun k hk => by simp only [Option.some.injEq] at hk; omega, h.ord, (same _ (by omega) (by omega)).trans h.res, (same _ h1 (by omega)).trans h.blk, ?_, ⟨own_same h.row.1 fun q hq => same q (h.row.lt q hq).2 (by have := (h.row.lt q hq).1; omega), h.row.2⟩, h.nown, h.wl, h.rl⟩
  exact heapSp.mono (heapSp.on h.hp fun b hb' => same b hb'.2.2.1 (by omega)) fun b hb' => ⟨hb'.1, hb'.2.1, Nat.lt_of_lt_of_le hb'.2.2.1 hg.size, hb'.2.2.2⟩
theorem DK.on (h : DK B p r2 hb w wr a c W hf bs nx ar cr rs) (hB : Below wr.heap.size wr w') : DK B p r2 hb w w' a c W hf bs nx ar cr rs :=
  h.turn (h.cur.on ⟨hB.os, hB.tape, hB.output, hB.size, fun k hk _ => hB.block k hk⟩) ⟨hB.os, hB.tape, hB.output, hB.size, fun k hk _ => hB.block k hk⟩
theorem DK.new (h : DK B p r2 hb w wr a c W hf bs nx ar cr rs) (X : Obj) : DK B p r2 hb w (wr.alloc X) a c W hf bs nx ar cr rs := h.on ((Below.refl _ _).alloc (Nat.le_refl _) X)
theorem DK.cell (h : DK B p r2 hb w wr a c W hf bs nx ar cr rs) (j : Nat) {u : Value} (hj : #[Value.slice a W.length c, .int .i64 hf, .int .i64 bs, .int .i64 nx][j]? = some u) : wr.cell? ⟨hb, j, none⟩ = some u := by simp [World.cell?, h.blk, hj]
theorem DK.rcell (h : DK B p r2 hb w wr a c W hf bs nx ar cr rs) (j : Nat) {u : Value} (hj : #[Value.slice none 0 0, .int .i64 0, .int .i64 0, .int .i64 0][j]? = some u) : wr.cell? ⟨r2, j, none⟩ = some u := by simp [World.cell?, h.res, hj]
theorem DK.rfree (h : DK B p r2 hb w wr a c W hf bs nx ar cr rs) (j : Nat) : wr.frozen? ⟨r2, j, none⟩ = false := by simp [World.frozen?, h.res]
theorem DK.root (h : DK B p r2 hb w wr a c W hf bs nx ar cr rs) {j : Nat} (hj : j < rs.length) : ∃ g, ar = some ⟨g, 0, none⟩ ∧ wr.cell? ⟨g, j, none⟩ = some (.int .i64 rs[j]) ∧ InR rs[j] := by
  rcases h.row.open with ⟨-, h0⟩ | ⟨g, cap, hv, -, -, -, -, h6, -⟩
  · rw [h0] at hj; simp at hj
  · simp only [Value.slice.injEq] at hv
    exact ⟨g, hv.1, h6 j hj, h.row.2 _ (List.getElem_mem hj)⟩
theorem DK.start (h1 : Cur w.heap.size w1 (w.heap.size + 1)) (hg1 : (w.alloc (.cells #[.slice none 0 0, .int .i64 0, .int .i64 0, .int .i64 0] 26)).grownBy w1 none) (hs1 : w1.heap.size = w.heap.size + 2) (h : DW w.heap.size (w.heap.size + 1) w1 w2 a c W hf bs nx ar cr rs) :
    DK w.heap.size (w.heap.size + 1) w.heap.size w2.heap.size w (w2.alloc (.cells #[.slice a W.length c, .int .i64 hf, .int .i64 bs, .int .i64 nx] 26)) a c W hf bs nx ar cr rs := by
  have hs := h.grw.size
  have hA : Below w2.heap.size w2 (w2.alloc (.cells #[.slice a W.length c, .int .i64 hf, .int .i64 bs, .int .i64 nx] 26)) := (Below.refl _ _).alloc (Nat.le_refl _) _
  have hB1 : Below w.heap.size w w1 := ((Below.refl _ w).alloc (Nat.le_refl _) _).grown hg1 (by simp) fun k hk => by cases hk
  have hB2 : Below w.heap.size w w2 := hB1.grown h.grw (by omega) fun k hk => by simp only [Option.some.injEq] at hk; omega
  refine ⟨h.cur.on (World.grownBy_alloc _ _ none), hB2.trans (hA.mono (by omega)), ⟨Nat.le_refl _, by omega, by omega⟩, ?_, alloc_top _ _, ?_, IRow.keep (w := w2) (base := w.heap.size + 1 + 1) ⟨own_base h.row.1 (by omega), h.row.2⟩ hA, fun e => by have := (h.row.lt _ e).2; omega, h.wl, h.rl⟩
  · refine (hA.block _ (by omega)).trans ((h.grw.block w.heap.size (by omega) fun e => by simp only [Option.some.injEq] at e; omega).trans ((hg1.block w.heap.size (by simp) (by simp)).trans (alloc_top _ _)))
  · exact heapSp.mono (heapSp.on h.hp fun b hb' => hA.block b hb'.2.1) fun b hb' => ⟨by omega, by omega, Nat.lt_of_lt_of_le hb'.2.1 hA.size, hb'.2.2⟩
theorem DK.done (h : DK B p r2 hb w wr a c W hf bs nx ar cr rs) : heapSp.rep (set4 wr r2 (.slice a W.length c) (.int .i64 hf) (.int .i64 bs) (.int .i64 nx)) (fun b => w.heap.size ≤ b ∧ b < (set4 wr r2 (.slice a W.length c) (.int .i64 hf) (.int .i64 bs) (.int .i64 nx)).heap.size) [.slice a W.length c, .int .i64 hf, .int .i64 bs, .int .i64 nx] (W, hf, bs, nx) ∧ Below w.heap.size w (set4 wr r2 (.slice a W.length c) (.int .i64 hf) (.int .i64 bs) (.int .i64 nx)) := by
  have hlt := h.lt
  obtain ⟨o1, o2, o3⟩ := h.ord
  have so := set4_other wr r2 (.slice a W.length c) (.int .i64 hf) (.int .i64 bs) (.int .i64 nx)
  refine ⟨heapSp.mono (heapSp.on h.hp fun b hb' => so b (by omega)) fun b hb' => ⟨by omega, by rw [set4_size]; exact hb'.2.2.1⟩, ⟨h.bel.os, h.bel.tape, h.bel.output, by rw [set4_size]; exact h.bel.size, fun k hk => (so k (by omega)).trans (h.bel.block k hk)⟩⟩
end

/-- A heap that was drawn. -/
def Heaped (w w' : World) (cs : List Value) (T : HeapD) : Prop := heapSp.rep w' (fun b => w.heap.size ≤ b ∧ b < w'.heap.size) cs T ∧ T.1.length ≤ 120 ∧ Below w.heap.size w w'

set_option maxRecDepth 100000 in
set_option maxHeartbeats 8000000 in
theorem drawHeapOk_any (a : Option Addr) (len cap : Nat) (w : World) (hC : cur.Code w.heap.size w a len) :
    Calls Try.prog 38 #[.slice a len cap] w fun e w' => ∃ cs T, e = .returned (.agg cs.toArray) ∧ Heaped w w' cs T := by
  have h1 := new_any a len cap w.heap.size (w.alloc (.cells #[.slice none 0 0, .int .i64 0, .int .i64 0, .int .i64 0] 26)) (code_new hC _) (by simp)
  simp only [World.size_alloc] at h1
  clear hC
  go_enter Try.func38, Try.ntmps38
  go_wp2_with fail
  refine h1.mono ?_
  rintro e w1 ⟨rfl, hc1, hg1, hs1⟩
  have h2 := drawHeap_any w.heap.size (w.heap.size + 1) w1 hc1
  go_wp2_with fail
  refine h2.mono ?_
  rintro e w2 ⟨a2, c2, W, hf, bs, nx, ar, cr, rs, rfl, hD⟩
  have K := hid_of (DK.start hc1 hg1 hs1 hD)
  clear hc1 hg1 hs1 hD h1 h2
  have d0 := K.out.cell 0 rfl
  have d1 := K.out.cell 1 rfl
  have d2 := K.out.cell 2 rfl
  have d3 := K.out.cell 3 rfl
  have r0 := K.out.rcell 0 rfl
  have r1 := K.out.rcell 1 rfl
  have r2 := K.out.rcell 2 rfl
  have r3 := K.out.rcell 3 rfl
  have rz := K.out.rfree
  have hE := K.out.done
  unfold set4 at hE
  have E4 := hid_of hE
  clear hE
  go_wp2
  refine bodyPost_ret (v := .agg #[.slice a2 W.length c2, .int .i64 hf, .int .i64 bs, .int .i64 nx]) (by simp [results, Try.f38, go_sem, r0, r1, r2, r3]) rfl ?_
  exact ⟨[.slice a2 W.length c2, .int .i64 hf, .int .i64 bs, .int .i64 nx], (W, hf, bs, nx), rfl, E4.out.1, K.out.wl.2, E4.out.2⟩

set_option maxHeartbeats 400000 in
theorem drawHeapNew_any (a : Option Addr) (len cap : Nat) (w : World) (hC : cur.Code w.heap.size w a len) :
    Calls Try.prog 15 #[.slice a len cap] w fun e w' => ∃ x : Int, e = .returned (.int .i64 x) ∧ -9223372036854775808 ≤ x ∧ x ≤ 9223372036854775807 ∧ Below w.heap.size w w' := by
  have HC : Hid (cur.Code w.heap.size w a len) := hC
  clear hC
  go_enter Try.func15, Try.ntmps15
  go_wp2_with fail
  refine (new_any a len cap w.heap.size _ HC.out (Nat.le_refl _)).mono ?_
  rintro e w1 ⟨rfl, hc1, hg1, hs1⟩
  have hlt := hc1.lt
  have H1 : Hid (Cur w.heap.size w1 w.heap.size) := hc1
  have G1 : Hid (w.grownBy w1 none) := hg1
  clear hc1 hg1 hs1
  go_wp2_with fail
  refine (pickInt_any w.heap.size w.heap.size w1.heap.size 6 _ (H1.out.on (World.grownBy_alloc _ _ none)) (by decide) (by decide) (by omega) (by simp)
    (ints_new w1 [0, 1, 5, 3000, 3001, -1] 3 (by decide))).mono ?_
  rintro e w2 ⟨x, rfl, hx0, hx1, hc2, hg2⟩
  have G2 : Hid (w1.grownBy w2 (some w.heap.size)) := (World.grownBy_alloc w1 _ (some w.heap.size)).trans hg2
  clear hc2 hg2
  go_wp2
  go_ret
  exact ⟨x, rfl, hx0, hx1, below_of rfl G1.out G2.out (Nat.le_refl _)⟩

set_option maxRecDepth 100000 in
set_option maxHeartbeats 8000000 in
theorem drawBlockAt_any (a : Option Addr) (len cap : Nat) (w : World) (hC : cur.Code w.heap.size w a len) :
    Calls Try.prog 11 #[.slice a len cap] w fun e w' => ∃ cs T x, e = .returned (.tuple #[.agg cs.toArray, .int .i64 x]) ∧ InR x ∧ Heaped w w' cs T := by
  have h1 := new_any a len cap w.heap.size (w.alloc (.cells #[.slice none 0 0, .int .i64 0, .int .i64 0, .int .i64 0] 26)) (code_new hC _) (by simp)
  simp only [World.size_alloc] at h1
  clear hC
  go_enter Try.func11, Try.ntmps11
  go_wp2_with fail
  refine h1.mono ?_
  rintro e w1 ⟨rfl, hc1, hg1, hs1⟩
  have h2 := drawHeap_any w.heap.size (w.heap.size + 1) w1 hc1
  go_wp2_with fail
  refine h2.mono ?_
  rintro e w2 ⟨a2, c2, W, hf, bs, nx, ar, cr, rs, rfl, hD⟩
  have K := hid_of (DK.start hc1 hg1 hs1 hD)
  have hrl := hD.rl
  clear hc1 hg1 hs1 hD h1 h2
  have h3 := below_small w.heap.size (w.heap.size + 1) (rs.length : Int) _ K.out.cur (by omega) (by omega)
  go_wp2_with fail
  refine h3.mono ?_
  rintro e w3 ⟨zi, rfl, z0, z1, hc3, hg3⟩
  have K3 := hid_of (K.out.turn hc3 hg3)
  obtain ⟨z, rfl⟩ := Int.eq_ofNat_of_zero_le z0
  have hzl : z < rs.length := by omega
  obtain ⟨g, rfl, e3, hi3⟩ := K3.out.root hzl
  generalize rs[z] = y at e3 hi3
  clear hc3 hg3 h3 K
  have h4 := specWordRef y w3 hi3.1 hi3.2
  go_wp2_with fail
  refine h4.mono ?_
  rintro e w4 ⟨rfl, hb4⟩
  have K4 := hid_of (K3.out.on hb4)
  have hh : InR (halfF y) := by unfold halfF InR at *; omega
  generalize halfF y = y2 at hh ⊢
  have HY := hid_of hh
  clear h4 hb4 K3 e3 hh hi3
  have h5 := once_any w.heap.size (w.heap.size + 1) 4 _ K4.out.cur (by decide) (by decide)
  go_wp2_with fail
  refine h5.mono ?_
  rintro e w5 ⟨y5, rfl, hc5, hg5⟩
  have K5 := hid_of (K4.out.turn hc5 hg5)
  clear hc5 hg5 h5 K4
  cases y5 with
  | false =>
    have d0 := K5.out.cell 0 rfl
    have d1 := K5.out.cell 1 rfl
    have d2 := K5.out.cell 2 rfl
    have d3 := K5.out.cell 3 rfl
    have r0 := K5.out.rcell 0 rfl
    have r1 := K5.out.rcell 1 rfl
    have r2 := K5.out.rcell 2 rfl
    have r3 := K5.out.rcell 3 rfl
    have rz := K5.out.rfree
    have hE := K5.out.done
    unfold set4 at hE
    have E4 := hid_of hE
    clear hE
    go_wp2
    refine bodyPost_ret (v := .tuple #[.agg #[.slice a2 W.length c2, .int .i64 hf, .int .i64 bs, .int .i64 nx], .int .i64 y2]) (by simp [results, Try.f11, go_sem, r0, r1, r2, r3]) rfl ?_
    exact ⟨[.slice a2 W.length c2, .int .i64 hf, .int .i64 bs, .int .i64 nx], (W, hf, bs, nx), y2, rfl, HY.out, E4.out.1, K5.out.wl.2, E4.out.2⟩
  | true =>
    have h6 := below_small w.heap.size (w.heap.size + 1) 9 _ K5.out.cur (by decide) (by decide)
    go_wp2_with fail
    refine h6.mono ?_
    rintro e w6 ⟨y6, rfl, q0, q1, hc6, hg6⟩
    have K6 := hid_of (K5.out.turn hc6 hg6)
    have hsub : IntKind.i64.wrap (y6 - 1) = y6 - 1 := by rw [IntKind.wrap_i64]; omega
    clear hc6 hg6 h6 K5
    have d0 := K6.out.cell 0 rfl
    have d1 := K6.out.cell 1 rfl
    have d2 := K6.out.cell 2 rfl
    have d3 := K6.out.cell 3 rfl
    have r0 := K6.out.rcell 0 rfl
    have r1 := K6.out.rcell 1 rfl
    have r2 := K6.out.rcell 2 rfl
    have r3 := K6.out.rcell 3 rfl
    have rz := K6.out.rfree
    have hE := K6.out.done
    unfold set4 at hE
    have E4 := hid_of hE
    clear hE
    go_wp2
    refine bodyPost_ret (v := .tuple #[.agg #[.slice a2 W.length c2, .int .i64 hf, .int .i64 bs, .int .i64 nx], .int .i64 (y6 - 1)]) (by simp [results, Try.f11, go_sem, r0, r1, r2, r3]) rfl ?_
    exact ⟨[.slice a2 W.length c2, .int .i64 hf, .int .i64 bs, .int .i64 nx], (W, hf, bs, nx), y6 - 1, rfl, by unfold InR; omega, E4.out.1, K6.out.wl.2, E4.out.2⟩

end Go.Proofs.Ytigcpigmfcgaoaa.heap

namespace Go.Proofs.Ytigcpigmfcgaoaa.heap
open Go Go.RowKit Go.Deep Go.Proofs.Ytigcpigmfcgaoaa.rose Go.Proofs.Ytigcpigmfcgaoaa Go.Proofs.Ytigcpigmfcgaoaa.fun Go.Proofs.Ytigcpigmfcgaoaa.ints Go.Proofs.Ytigcpigmfcgaoaa.cur Go.Proofs.Ytigcpigmfcgaoaa.words
set_option linter.unusedVariables false
set_option linter.unusedSimpArgs false

theorem code_below {w w' : World} {a : Option Addr} {len : Nat} (h : cur.Code w.heap.size w a len) (hb : Below w.heap.size w w') : cur.Code w'.heap.size w' a len := by
  refine ⟨h.1, fun hl => ?_⟩
  obtain ⟨b, off, e, hlt, hz⟩ := h.2 hl
  refine ⟨b, off, e, Nat.lt_of_lt_of_le hlt hb.size, fun j hj => ?_⟩
  obtain ⟨z, hc1, h0, h1⟩ := hz j hj
  exact ⟨z, by rw [hb.cell (p := ⟨b, off + j, none⟩) hlt]; exact hc1, h0, h1⟩

set_option maxRecDepth 100000 in
set_option maxHeartbeats 8000000 in
theorem drawRoom_any (a : Option Addr) (len cap : Nat) (w : World) (hC : cur.Code w.heap.size w a len) :
    Calls Try.prog 14 #[.slice a len cap] w fun e w' => ∃ cs T, e = .returned (.agg cs.toArray) ∧ Heaped w w' cs T := by
  have hA : Below w.heap.size w (w.alloc (.cells #[.slice none 0 0, .int .i64 0, .int .i64 0, .int .i64 0] 26)) := (Below.refl _ _).alloc (Nat.le_refl _) _
  have h1 := drawHeapOk_any a len cap (w.alloc (.cells #[.slice none 0 0, .int .i64 0, .int .i64 0, .int .i64 0] 26)) (code_below hC hA)
  clear hC
  have HA := hid_of hA
  clear hA
  go_enter Try.func14, Try.ntmps14
  go_wp2_with fail
  refine h1.mono ?_
  rintro e w1 ⟨cs, T, rfl, hr, hl, hb⟩
  obtain ⟨W, a2, c2, hf, bs, nx, rfl, rfl, -⟩ := heapp_open hr
  rw [World.size_alloc] at hb hr
  have hres : w1.heap[w.heap.size]? = some (.cells #[.slice none 0 0, .int .i64 0, .int .i64 0, .int .i64 0] 26) := (hb.block w.heap.size (by omega)).trans (alloc_top _ _)
  have so := set4_other w1 w.heap.size (.slice a2 W.length c2) (.int .i64 hf) (.int .i64 bs) (.int .i64 nx)
  have hsz := hb.size
  rw [World.size_alloc] at hsz
  have hE : Heaped w (set4 w1 w.heap.size (.slice a2 W.length c2) (.int .i64 hf) (.int .i64 bs) (.int .i64 nx)) [.slice a2 W.length c2, .int .i64 hf, .int .i64 bs, .int .i64 nx] (W, hf, bs, nx) := by
    refine ⟨heapSp.mono (heapSp.on hr fun b hb' => so b (by omega)) fun b hb' => ⟨by omega, by rw [set4_size]; exact hb'.2⟩, hl, ?_⟩
    have hB := HA.out.trans (hb.mono (by omega : w.heap.size ≤ w.heap.size + 1))
    exact ⟨hB.os, hB.tape, hB.output, by rw [set4_size]; exact hB.size, fun k hk => (so k (by omega)).trans (hB.block k hk)⟩
  unfold set4 at hE
  have E4 := hid_of hE
  have r0 : w1.cell? ⟨w.heap.size, 0, none⟩ = some (.slice none 0 0) := by simp [World.cell?, hres]
  have r1 : w1.cell? ⟨w.heap.size, 1, none⟩ = some (.int .i64 0) := by simp [World.cell?, hres]
  have r2 : w1.cell? ⟨w.heap.size, 2, none⟩ = some (.int .i64 0) := by simp [World.cell?, hres]
  have r3 : w1.cell? ⟨w.heap.size, 3, none⟩ = some (.int .i64 0) := by simp [World.cell?, hres]
  have rz : ∀ j, w1.frozen? ⟨w.heap.size, j, none⟩ = false := fun j => by simp [World.frozen?, hres]
  clear hE hres so hsz hr hl hb h1
  go_wp2
  refine bodyPost_ret (v := .agg #[.slice a2 W.length c2, .int .i64 hf, .int .i64 bs, .int .i64 nx]) (by simp [results, Try.f14, go_sem, r0, r1, r2, r3]) rfl ?_
  exact ⟨_, _, rfl, E4.out⟩

section
variable {B p r2 hb : Nat} {w wK w5 w6 w9 : World} {a : Option Addr} {c : Nat} {W : List Int} {hf bs nx : Int} {ar : Option Addr} {cr : Nat} {rs : List Int} {ks : List Int}
theorem dkrow_turn {v : Value} (h : DK B p r2 hb w wK a c W hf bs nx ar cr rs) (hk : IRow w5 wK.heap.size v ks) (hg : wK.grownBy w5 (some p)) (hc : Cur B w6 p) (hg6 : w5.grownBy w6 (some p)) :
    DK B p r2 hb w w6 a c W hf bs nx ar cr rs ∧ IRow w6 wK.heap.size v ks ∧ wK.grownBy w6 (some p) := by
  have h1 := h.lt
  have h2 := h.ord
  have g6 := hg.trans hg6
  exact ⟨h.turn hc g6, ⟨own_same hk.1 fun q hq => hg6.block q (hk.lt q hq).2 fun e => by simp only [Option.some.injEq] at e; have := (hk.lt q hq).1; omega, hk.2⟩, g6⟩
theorem dkrow_app {X : Obj} {ak a9 : Option Addr} {ck c9 : Nat} {y : Int} (h : DK B p r2 hb w wK a c W hf bs nx ar cr rs) (hk : IRow w6 wK.heap.size (.slice ak ks.length ck) ks) (hg : wK.grownBy w6 (some p)) (hc : Cur B w6 p) (o9 : w9.ownsRow wK.heap.size 3 1 (.slice a9 (ks.length + 1) c9) (ks.length + 1) (ks.map (Value.int .i64) ++ [.int .i64 y]))
    (g9 : (w6.alloc X).grownBy w9 (Value.slice ak ks.length ck).ownBlock) (hy : InR y) : DK B p r2 hb w w9 a c W hf bs nx ar cr rs ∧ IRow w9 wK.heap.size (.slice a9 (ks ++ [y]).length c9) (ks ++ [y]) ∧ wK.grownBy w9 (some p) := by
  have h1 := h.lt
  have h2 := h.ord
  have hs := hg.size
  have hO : ∀ q, (Value.slice ak ks.length ck).ownBlock = some q → wK.heap.size ≤ q := fun q hq => (hk.lt q hq).1
  have hcur : Cur B w9 p := cur_of (hc.on (World.grownBy_alloc w6 X none)) fun q hq => g9.block q (by simp; omega) fun e => by have := hO q e.symm; omega
  have hgr : wK.grownBy w9 (some p) := ⟨g9.os.trans hg.os, g9.tape.trans hg.tape, g9.output.trans hg.output, by have := g9.size; simp at this; omega, fun q hq hn => (g9.block q (by simp; omega) fun e => by have := hO q e.symm; omega).trans ((Below.heap_alloc _ _ _ (by omega)).trans (hg.block q hq hn))⟩
  exact ⟨h.turn hcur hgr, irow_app o9 hk.2 hy, hgr⟩
end

end Go.Proofs.Ytigcpigmfcgaoaa.heap
