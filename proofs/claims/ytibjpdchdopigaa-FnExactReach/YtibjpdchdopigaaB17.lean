/-
  The program meets the blocks of a heap that are come to from roots (meet): at every heap and all roots.
  A list that ascends is told by what is in it; numbers put into an ascending list one by one are the list in order.
  The contracts of slices.Sort at slices of ints, laid at this program (the shelf's plain words): proved once over any program, applied here; no condition of our own.
-/
import Derived.Shelf.Sort.Plain
import Derived.Shelf.Slices.In.SortNone
import Derived.Test.YtibjpdchdopigaaProg
import Derived.Test.YtibjpdchdopigaaB1
import Derived.Test.YtibjpdchdopigaaB2
import Derived.Test.YtibjpdchdopigaaB3
import Derived.Test.YtibjpdchdopigaaB4
import Derived.Test.YtibjpdchdopigaaB5
import Derived.Test.YtibjpdchdopigaaB6
import Derived.Test.YtibjpdchdopigaaB7
import Derived.Test.YtibjpdchdopigaaB8
import Derived.Test.YtibjpdchdopigaaB9
import Derived.Test.YtibjpdchdopigaaB10
import Derived.Test.YtibjpdchdopigaaB11
import Derived.Test.YtibjpdchdopigaaB12
import Derived.Test.YtibjpdchdopigaaB13
import Derived.Test.YtibjpdchdopigaaB14
import Derived.Test.YtibjpdchdopigaaB15
import Derived.Test.YtibjpdchdopigaaB16
namespace Go.Proofs.Ytibjpdchdopigaa.heap
open Go Go.RowKit Go.Deep Go.Proofs.Ytibjpdchdopigaa.rose Go.Proofs.Ytibjpdchdopigaa Go.Proofs.Ytibjpdchdopigaa.fun Go.Proofs.Ytibjpdchdopigaa.words Go.Proofs.Ytibjpdchdopigaa.ints
set_option linter.unusedVariables false
set_option linter.unusedSimpArgs false

/-- What meet answers of a heap and roots. -/
def MeetTop (W : List Int) (half base next : Int) (wv : Value) (rs : List Int) (B : Nat) (e : Ending) (w' : World) : Prop :=
  (rightB (W, half, base, next) rs = false → ∃ p, e = .returned (.tuple #[.pointer p, .agg #[.int .i64 0, .slice none 0 0, .slice none 0 0], .bool false])) ∧
  (rightB (W, half, base, next) rs = true → ∃ (hb hm hf bs nx nb B2 : Nat) (M : List Bool) (v : Value), half = hf ∧ base = bs ∧ next = nx ∧ e = .returned (.tuple #[.pointer (some ⟨hb, 0, none⟩), .agg #[.int .i64 bs, v, .slice (some ⟨nb, 0, none⟩) hf hf], .bool true]) ∧ HH B hb hm wv W hf bs nx 0 M w' ∧ Met B2 nb v bs hf (orderF (W, half, base, next) rs) w' ∧ hb < B2 ∧ hm < B2)
theorem right_parts {T : HeapD} {rs : List Int} : rightB T rs = (heapB T && rs.all (thereB (plT T).1)) := rfl

set_option maxRecDepth 100000 in
set_option maxHeartbeats 8000000 in
theorem meetTop_is (W : List Int) (a0 : Option Addr) (c0 : Nat) (half base next : Int) (rs : List Int) (v : Value) (w : World) (hrl : rs.length ≤ 1048576) (h : heapSh.rep w (· < w.heap.size) [.slice a0 W.length c0, .int .i64 half, .int .i64 base, .int .i64 next] (W, half, base, next)) (hv : intsSh.rep w (· < w.heap.size) [v] rs) :
    Calls Try.prog 22 #[.agg #[.slice a0 W.length c0, .int .i64 half, .int .i64 base, .int .i64 next], v] w fun e w' => MeetTop W half base next (.slice a0 W.length c0) rs (w.heap.size + 2) e w' ∧ Below w.heap.size w w' := by
  obtain ⟨ar, cr, hvv⟩ : ∃ a c, v = .slice a rs.length c := by obtain ⟨a, c, e⟩ := slice_cells hv; simp only [List.cons.injEq, and_true] at e; exact ⟨a, c, e⟩
  subst hvv
  have P0 : Hid (Piece w w.heap.size ar rs) := Piece.of hv fun b hb => hb
  obtain ⟨wa, hwa⟩ : ∃ wa, wa = (w.alloc (.cells #[.slice a0 W.length c0, .int .i64 half, .int .i64 base, .int .i64 next] 27)).alloc (.cells #[.int .i64 0, .slice none 0 0, .slice none 0 0] 41) := ⟨_, rfl⟩
  have B0 : Hid (Below w.heap.size w wa ∧ wa.heap.size = w.heap.size + 2) := by rw [hwa]; exact ⟨((Below.refl _ _).alloc (Nat.le_refl _) _).alloc (by simp) _, by simp⟩
  have X0 : Hid (wa.heap[w.heap.size]? = some (.cells #[.slice a0 W.length c0, .int .i64 half, .int .i64 base, .int .i64 next] 27) ∧ wa.heap[w.heap.size + 1]? = some (.cells #[.int .i64 0, .slice none 0 0, .slice none 0 0] 41)) := by rw [hwa]; exact two_tops w _ _
  have hcall := hold_is W a0 c0 half base next wa (heapSh.mono (heapSh.below h B0.out.1) fun b hlt => Nat.lt_of_lt_of_le hlt B0.out.1.size)
  have k0 : wa.cell? ⟨w.heap.size, 0, none⟩ = some (.slice a0 W.length c0) := blk_cellH (i := 0) X0.out.1 rfl
  have k1 : wa.cell? ⟨w.heap.size, 1, none⟩ = some (.int .i64 half) := blk_cellH (i := 1) X0.out.1 rfl
  have k2 : wa.cell? ⟨w.heap.size, 2, none⟩ = some (.int .i64 base) := blk_cellH (i := 2) X0.out.1 rfl
  have k3 : wa.cell? ⟨w.heap.size, 3, none⟩ = some (.int .i64 next) := blk_cellH (i := 3) X0.out.1 rfl
  rw [hwa] at k0 k1 k2 k3
  have HWA : Hid (wa = (w.alloc (.cells #[.slice a0 W.length c0, .int .i64 half, .int .i64 base, .int .i64 next] 27)).alloc (.cells #[.int .i64 0, .slice none 0 0, .slice none 0 0] 41)) := hwa
  rw [hwa] at hcall
  have AI : Hid (intsSh.rep w (· < w.heap.size) [.slice a0 W.length c0] W) := by
    obtain ⟨W', a', c', hf', bs', nx', eT, eC, f0, -⟩ := heap_open h
    simp only [Prod.mk.injEq] at eT
    obtain ⟨rfl, rfl, rfl, rfl⟩ := eT
    simp only [List.cons.injEq] at eC
    rw [eC.1]; exact f0
  clear h hv hwa
  have fin0 : ∀ {wx : World} {g : Nat}, wx.heap[g]? = some (.cells #[.int .i64 0, .slice none 0 0, .slice none 0 0] 41) → w.heap.size ≤ g → Below w.heap.size w wx → (((wx.setCell ⟨g, 0, none⟩ (.int .i64 0)).setCell ⟨g, 1, none⟩ (.slice none 0 0)).setCell ⟨g, 2, none⟩ (.slice none 0 0)).heap[g]? = some (.cells #[.int .i64 0, .slice none 0 0, .slice none 0 0] 41) ∧ Below w.heap.size w (((wx.setCell ⟨g, 0, none⟩ (.int .i64 0)).setCell ⟨g, 1, none⟩ (.slice none 0 0)).setCell ⟨g, 2, none⟩ (.slice none 0 0)) := fun hx hg hB => ⟨setr3 _ _ _ hx, ((hB.setCell hg _).setCell hg _).setCell hg _⟩
  have FIN0 : Hid _ := @fin0
  clear fin0
  rcases q : heapB (W, half, base, next) with _ | _
  · have HF : Hid (rightB (W, half, base, next) rs = false) := right_heap q
    go_enter Try.func22, Try.ntmps22
    go_wp2_with fail
    refine hcall.mono ?_
    rintro e w1 ⟨ho, hb⟩
    obtain ⟨pp, rfl⟩ := ho.1 q
    rw [← HWA.out] at hb
    have B1 : Hid (Below w.heap.size w w1) := B0.out.1.trans (hb.mono (by have := B0.out.2; omega))
    have R1 : Hid (w1.heap[w.heap.size + 1]? = some (.cells #[.int .i64 0, .slice none 0 0, .slice none 0 0] 41)) := (hb.block _ (by have := B0.out.2; omega)).trans X0.out.2
    clear hcall hb ho q k0 k1 k2 k3
    have x0 : w1.cell? ⟨w.heap.size + 1, 0, none⟩ = some (.int .i64 0) := blk_cellH (i := 0) R1.out rfl
    have x1 : w1.cell? ⟨w.heap.size + 1, 1, none⟩ = some (.slice none 0 0) := blk_cellH (i := 1) R1.out rfl
    have x2 : w1.cell? ⟨w.heap.size + 1, 2, none⟩ = some (.slice none 0 0) := blk_cellH (i := 2) R1.out rfl
    have xf : ∀ j, w1.frozen? ⟨w.heap.size + 1, j, none⟩ = false := fun j => blk_frzH R1.out
    go_wp2
    obtain ⟨f1, f2⟩ := FIN0.out R1.out (by omega) B1.out
    generalize ((w1.setCell ⟨w.heap.size + 1, 0, none⟩ (.int .i64 0)).setCell ⟨w.heap.size + 1, 1, none⟩ (.slice none 0 0)).setCell ⟨w.heap.size + 1, 2, none⟩ (.slice none 0 0) = wE at *
    have y0 : wE.cell? ⟨w.heap.size + 1, 0, none⟩ = some (.int .i64 0) := blk_cellH (i := 0) f1 rfl
    have y1 : wE.cell? ⟨w.heap.size + 1, 1, none⟩ = some (.slice none 0 0) := blk_cellH (i := 1) f1 rfl
    have y2 : wE.cell? ⟨w.heap.size + 1, 2, none⟩ = some (.slice none 0 0) := blk_cellH (i := 2) f1 rfl
    refine bodyPost_ret (v := .tuple #[.pointer none, .agg #[.int .i64 0, .slice none 0 0, .slice none 0 0], .bool false]) (by simp [results, Try.f22, go_sem, y0, y1, y2]) rfl ?_
    exact ⟨⟨fun _ => ⟨_, rfl⟩, fun hq => by rw [HF.out] at hq; cases hq⟩, f2⟩
  · have Q : Hid (heapB (W, half, base, next) = true) := q
    go_enter Try.func22, Try.ntmps22
    go_wp2_with fail
    refine hcall.mono ?_
    rintro e w1 ⟨ho, hb⟩
    obtain ⟨hb', hm, hf, bs, nx, M, e1, e2, e3, rfl, hH, hM⟩ := ho.2 q
    subst e1 e2 e3
    rw [← HWA.out] at hb hH
    rw [B0.out.2] at hH
    have B1 : Hid (Below w.heap.size w w1) := B0.out.1.trans (hb.mono (by have := B0.out.2; omega))
    have R1 : Hid (w1.heap[w.heap.size + 1]? = some (.cells #[.int .i64 0, .slice none 0 0, .slice none 0 0] 41)) := (hb.block _ (by have := B0.out.2; omega)).trans X0.out.2
    have HPT : plT (W, (hf : Int), (bs : Int), (nx : Int)) = plF W nx bs := by unfold plT; simp
    have HRT : Hid (rightB (W, (hf : Int), (bs : Int), (nx : Int)) rs = rs.all (thereB (plF W nx bs).1)) := by show _ = _; rw [right_parts, q, HPT]; rfl
    have hc2 := meet_is hH q hM ar cr rs hrl ((P0.out.on B1.out).mono (by omega))
    rw [← HRT.out] at hc2
    have HZ : Hid (hb' < w1.heap.size + 1 ∧ hm < w1.heap.size + 1) := by have := hH.lt; show _ ∧ _; omega
    clear hcall hb ho q k0 k1 k2 k3 hH hM HPT
    rcases q2 : rightB (W, (hf : Int), (bs : Int), (nx : Int)) rs with _ | _
    · rw [q2] at hc2
      have HF : Hid (rightB (W, (hf : Int), (bs : Int), (nx : Int)) rs = false) := q2
      clear q2
      go_wp2_with fail
      refine hc2.mono ?_
      rintro e w2 ⟨hmo, -, hb2⟩
      have e4 := hmo.1 rfl
      subst e4
      have B2 : Hid (Below w.heap.size w w2) := B1.out.trans (hb2.mono (by omega))
      have R2 : Hid (w2.heap[w.heap.size + 1]? = some (.cells #[.int .i64 0, .slice none 0 0, .slice none 0 0] 41)) := (hb2.block _ (by omega)).trans R1.out
      have Z2 : Hid (w.heap.size + 1 < w2.heap.size) := (Array.getElem?_eq_some_iff.1 R2.out).1
      clear hc2 hmo hb2
      go_wp2
      have T3 : (w2.alloc (.cells #[.int .i64 0, .slice none 0 0, .slice none 0 0] 41)).heap[w2.heap.size]? = some (.cells #[.int .i64 0, .slice none 0 0, .slice none 0 0] 41) := alloc_top _ _
      have R3 : (w2.alloc (.cells #[.int .i64 0, .slice none 0 0, .slice none 0 0] 41)).heap[w.heap.size + 1]? = some (.cells #[.int .i64 0, .slice none 0 0, .slice none 0 0] 41) := (Below.heap_alloc _ _ _ Z2.out).trans R2.out
      have B3 : Hid (Below w.heap.size w (w2.alloc (.cells #[.int .i64 0, .slice none 0 0, .slice none 0 0] 41)) ∧ Below w2.heap.size w2 (w2.alloc (.cells #[.int .i64 0, .slice none 0 0, .slice none 0 0] 41))) := ⟨B2.out.alloc B2.out.size _, (Below.refl _ _).alloc (Nat.le_refl _) _⟩
      generalize w2.alloc (.cells #[.int .i64 0, .slice none 0 0, .slice none 0 0] 41) = w3 at *
      have t0 : w3.cell? ⟨w2.heap.size, 0, none⟩ = some (.int .i64 0) := blk_cellH (i := 0) T3 rfl
      have t1 : w3.cell? ⟨w2.heap.size, 1, none⟩ = some (.slice none 0 0) := blk_cellH (i := 1) T3 rfl
      have t2 : w3.cell? ⟨w2.heap.size, 2, none⟩ = some (.slice none 0 0) := blk_cellH (i := 2) T3 rfl
      have x0 : w3.cell? ⟨w.heap.size + 1, 0, none⟩ = some (.int .i64 0) := blk_cellH (i := 0) R3 rfl
      have x1 : w3.cell? ⟨w.heap.size + 1, 1, none⟩ = some (.slice none 0 0) := blk_cellH (i := 1) R3 rfl
      have x2 : w3.cell? ⟨w.heap.size + 1, 2, none⟩ = some (.slice none 0 0) := blk_cellH (i := 2) R3 rfl
      have xf : ∀ j, w3.frozen? ⟨w.heap.size + 1, j, none⟩ = false := fun j => blk_frzH R3
      have S3 : Hid (w3.heap[w.heap.size + 1]? = some (.cells #[.int .i64 0, .slice none 0 0, .slice none 0 0] 41)) := R3
      clear T3 R3
      go_region_law (fail)
      all_goals
        have E5 := setr3 (.int .i64 0) (.slice none 0 0) (.slice none 0 0) S3.out
        have B5 : Below w.heap.size w (((w3.setCell ⟨w.heap.size + 1, 0, none⟩ (.int .i64 0)).setCell ⟨w.heap.size + 1, 1, none⟩ (.slice none 0 0)).setCell ⟨w.heap.size + 1, 2, none⟩ (.slice none 0 0)) := ((B3.out.1.setCell (by show _ ≤ w.heap.size + 1; omega) _).setCell (by show _ ≤ w.heap.size + 1; omega) _).setCell (by show _ ≤ w.heap.size + 1; omega) _
        have O5 : ∀ k, k ≠ w.heap.size + 1 → (((w3.setCell ⟨w.heap.size + 1, 0, none⟩ (.int .i64 0)).setCell ⟨w.heap.size + 1, 1, none⟩ (.slice none 0 0)).setCell ⟨w.heap.size + 1, 2, none⟩ (.slice none 0 0)).heap[k]? = w3.heap[k]? := fun k hk => ((Below.heap_setCell _ _ _ _ (by exact hk)).trans (Below.heap_setCell _ _ _ _ (by exact hk))).trans (Below.heap_setCell _ _ _ _ (by exact hk))
        clear t0 t1 t2 x0 x1 x2 xf
        go_wp2
        generalize ((w3.setCell ⟨w.heap.size + 1, 0, none⟩ (.int .i64 0)).setCell ⟨w.heap.size + 1, 1, none⟩ (.slice none 0 0)).setCell ⟨w.heap.size + 1, 2, none⟩ (.slice none 0 0) = wE at *
        have y0 : wE.cell? ⟨w.heap.size + 1, 0, none⟩ = some (.int .i64 0) := blk_cellH (i := 0) E5 rfl
        have y1 : wE.cell? ⟨w.heap.size + 1, 1, none⟩ = some (.slice none 0 0) := blk_cellH (i := 1) E5 rfl
        have y2 : wE.cell? ⟨w.heap.size + 1, 2, none⟩ = some (.slice none 0 0) := blk_cellH (i := 2) E5 rfl
        refine bodyPost_ret (v := .tuple #[.pointer (some ⟨hb', 0, none⟩), .agg #[.int .i64 0, .slice none 0 0, .slice none 0 0], .bool false]) (by simp [results, Try.f22, go_sem, y0, y1, y2]) rfl ?_
        exact ⟨⟨fun _ => ⟨_, rfl⟩, fun hq => by rw [HF.out] at hq; cases hq⟩, by first | exact B5 | exact B5.drew⟩
    · rw [q2] at hc2
      have HF : Hid (rightB (W, (hf : Int), (bs : Int), (nx : Int)) rs = true) := q2
      clear q2
      go_wp2_with fail
      refine hc2.mono ?_
      rintro e w2 ⟨hmo, hH2, hb2⟩
      obtain ⟨nb, v, e4, hN⟩ := hmo.2 rfl
      subst e4
      obtain ⟨av, cv, hvv⟩ := own_form hN.plc.1
      subst hvv
      obtain ⟨nO, hnO⟩ : ∃ nO, nO = (orderF (W, (hf : Int), (bs : Int), (nx : Int)) rs).length := ⟨_, rfl⟩
      rw [← hnO] at hN
      rw [← hnO]
      clear hnO
      have B2 : Hid (Below w.heap.size w w2) := B1.out.trans (hb2.mono (by omega))
      have R2 : Hid (w2.heap[w.heap.size + 1]? = some (.cells #[.int .i64 0, .slice none 0 0, .slice none 0 0] 41)) := (hb2.block _ (by omega)).trans R1.out
      have Z2 : Hid (w.heap.size + 1 < w2.heap.size) := (Array.getElem?_eq_some_iff.1 R2.out).1
      have HH2 : Hid (HH (w.heap.size + 2) hb' hm (.slice a0 W.length c0) W hf bs nx 0 M w2) := hH2
      have N2 : Hid (Met (w1.heap.size + 1) nb (.slice av nO cv) bs hf (orderF (W, (hf : Int), (bs : Int), (nx : Int)) rs) w2) := hN
      have Z1 : Hid (w.heap.size + 2 ≤ w1.heap.size) := by have := (Array.getElem?_eq_some_iff.1 R1.out).1; show _ ≤ _; omega
      clear hH2 hN
      clear hc2 hmo hb2
      go_wp2
      have T3 : (w2.alloc (.cells #[.int .i64 bs, .slice av nO cv, .slice (some ⟨nb, 0, none⟩) hf hf] 41)).heap[w2.heap.size]? = some (.cells #[.int .i64 bs, .slice av nO cv, .slice (some ⟨nb, 0, none⟩) hf hf] 41) := alloc_top _ _
      have R3 : (w2.alloc (.cells #[.int .i64 bs, .slice av nO cv, .slice (some ⟨nb, 0, none⟩) hf hf] 41)).heap[w.heap.size + 1]? = some (.cells #[.int .i64 0, .slice none 0 0, .slice none 0 0] 41) := (Below.heap_alloc _ _ _ Z2.out).trans R2.out
      have B3 : Hid (Below w.heap.size w (w2.alloc (.cells #[.int .i64 bs, .slice av nO cv, .slice (some ⟨nb, 0, none⟩) hf hf] 41)) ∧ Below w2.heap.size w2 (w2.alloc (.cells #[.int .i64 bs, .slice av nO cv, .slice (some ⟨nb, 0, none⟩) hf hf] 41))) := ⟨B2.out.alloc B2.out.size _, (Below.refl _ _).alloc (Nat.le_refl _) _⟩
      generalize w2.alloc (.cells #[.int .i64 bs, .slice av nO cv, .slice (some ⟨nb, 0, none⟩) hf hf] 41) = w3 at *
      have t0 : w3.cell? ⟨w2.heap.size, 0, none⟩ = some (.int .i64 bs) := blk_cellH (i := 0) T3 rfl
      have t1 : w3.cell? ⟨w2.heap.size, 1, none⟩ = some (.slice av nO cv) := blk_cellH (i := 1) T3 rfl
      have t2 : w3.cell? ⟨w2.heap.size, 2, none⟩ = some (.slice (some ⟨nb, 0, none⟩) hf hf) := blk_cellH (i := 2) T3 rfl
      have x0 : w3.cell? ⟨w.heap.size + 1, 0, none⟩ = some (.int .i64 0) := blk_cellH (i := 0) R3 rfl
      have x1 : w3.cell? ⟨w.heap.size + 1, 1, none⟩ = some (.slice none 0 0) := blk_cellH (i := 1) R3 rfl
      have x2 : w3.cell? ⟨w.heap.size + 1, 2, none⟩ = some (.slice none 0 0) := blk_cellH (i := 2) R3 rfl
      have xf : ∀ j, w3.frozen? ⟨w.heap.size + 1, j, none⟩ = false := fun j => blk_frzH R3
      have S3 : Hid (w3.heap[w.heap.size + 1]? = some (.cells #[.int .i64 0, .slice none 0 0, .slice none 0 0] 41)) := R3
      clear T3 R3
      go_region_law (fail)
      all_goals
        have E5 := setr3 (.int .i64 bs) (.slice av nO cv) (.slice (some ⟨nb, 0, none⟩) hf hf) S3.out
        have B5 : Below w.heap.size w (((w3.setCell ⟨w.heap.size + 1, 0, none⟩ (.int .i64 bs)).setCell ⟨w.heap.size + 1, 1, none⟩ (.slice av nO cv)).setCell ⟨w.heap.size + 1, 2, none⟩ (.slice (some ⟨nb, 0, none⟩) hf hf)) := ((B3.out.1.setCell (by show _ ≤ w.heap.size + 1; omega) _).setCell (by show _ ≤ w.heap.size + 1; omega) _).setCell (by show _ ≤ w.heap.size + 1; omega) _
        have O5 : ∀ k, k ≠ w.heap.size + 1 → (((w3.setCell ⟨w.heap.size + 1, 0, none⟩ (.int .i64 bs)).setCell ⟨w.heap.size + 1, 1, none⟩ (.slice av nO cv)).setCell ⟨w.heap.size + 1, 2, none⟩ (.slice (some ⟨nb, 0, none⟩) hf hf)).heap[k]? = w3.heap[k]? := fun k hk => ((Below.heap_setCell _ _ _ _ (by exact hk)).trans (Below.heap_setCell _ _ _ _ (by exact hk))).trans (Below.heap_setCell _ _ _ _ (by exact hk))
        clear t0 t1 t2 x0 x1 x2 xf
        go_wp2
        generalize ((w3.setCell ⟨w.heap.size + 1, 0, none⟩ (.int .i64 bs)).setCell ⟨w.heap.size + 1, 1, none⟩ (.slice av nO cv)).setCell ⟨w.heap.size + 1, 2, none⟩ (.slice (some ⟨nb, 0, none⟩) hf hf) = wE at *
        have y0 : wE.cell? ⟨w.heap.size + 1, 0, none⟩ = some (.int .i64 bs) := blk_cellH (i := 0) E5 rfl
        have y1 : wE.cell? ⟨w.heap.size + 1, 1, none⟩ = some (.slice av nO cv) := blk_cellH (i := 1) E5 rfl
        have y2 : wE.cell? ⟨w.heap.size + 1, 2, none⟩ = some (.slice (some ⟨nb, 0, none⟩) hf hf) := blk_cellH (i := 2) E5 rfl
        refine bodyPost_ret (v := .tuple #[.pointer (some ⟨hb', 0, none⟩), .agg #[.int .i64 bs, .slice av nO cv, .slice (some ⟨nb, 0, none⟩) hf hf], .bool true]) (by simp [results, Try.f22, go_sem, y0, y1, y2]) rfl ?_
        have hH3 := HH2.out.on B3.out.2
        have hN3 := N2.out.on B3.out.2
        have hz := HZ.out
        have hz1 := Z1.out
        have hlo := hH3.lo
        have hW5 : intsSh.rep wE (· < w.heap.size + 2) [.slice a0 W.length c0] W := intsSh.mono (intsSh.below AI.out B5) fun b hbb => by omega
        have hH5 : HH (w.heap.size + 2) hb' hm (.slice a0 W.length c0) W hf bs nx 0 M wE := ⟨hH3.lo, (O5 hb' (by omega)).trans hH3.blk, (O5 hm (by omega)).trans hH3.mks, hH3.len, hW5, hH3.siz⟩
        have hN5 : Met (w1.heap.size + 1) nb (.slice av nO cv) bs hf (orderF (W, (hf : Int), (bs : Int), (nx : Int)) rs) wE := hN3.other (O5 nb (by have := hN3.lo; omega)) fun q hq => O5 q (by have := (hN3.plc.lt q hq).1; omega)
        first
          | exact ⟨⟨fun hq => (by rw [HF.out] at hq; cases hq), fun _ => ⟨hb', hm, hf, bs, nx, nb, w1.heap.size + 1, M, .slice av nO cv, rfl, rfl, rfl, rfl, hH5, hN5, hz.1, hz.2⟩⟩, B5⟩
          | exact ⟨⟨fun hq => (by rw [HF.out] at hq; cases hq), fun _ => ⟨hb', hm, hf, bs, nx, nb, w1.heap.size + 1, M, .slice av nO cv, rfl, rfl, rfl, rfl, hH5.same rfl, hN5.other rfl (fun _ _ => rfl), hz.1, hz.2⟩⟩, B5.drew⟩

end Go.Proofs.Ytibjpdchdopigaa.heap

namespace Go.Proofs.Ytibjpdchdopigaa.ints
open Go.RowKit Go.Proofs.Ytibjpdchdopigaa.rose Go.Proofs.Ytibjpdchdopigaa
set_option linter.unusedVariables false

def insR (n : Int) : List Int → List Int
  | [] => [n]
  | x :: xs => if x < n then x :: insR n xs else if x = n then x :: xs else n :: x :: xs

theorem ins_eq (l : List Int) (n : Int) : ins l n = insR n l := by
  induction l with
  | nil => simp [ins, insR, cut]
  | cons x xs ih =>
    unfold ins at ih ⊢
    by_cases h : x < n
    · simp only [cut, if_pos h, insR, List.getElem?_cons_succ, List.take_succ_cons, List.drop_succ_cons]
      rw [← ih]
      split <;> simp
    · by_cases h2 : x = n
      · subst h2; simp [cut, insR]
      · simp [cut, insR, h, h2]
theorem mem_insR {n y : Int} {l : List Int} : y ∈ insR n l ↔ y = n ∨ y ∈ l := by
  induction l with
  | nil => simp [insR]
  | cons x xs ih =>
    simp only [insR]
    split
    · rw [List.mem_cons, ih, List.mem_cons]
      constructor
      · rintro (h | h | h)
        · exact Or.inr (Or.inl h)
        · exact Or.inl h
        · exact Or.inr (Or.inr h)
      · rintro (h | h | h)
        · exact Or.inr (Or.inl h)
        · exact Or.inl h
        · exact Or.inr (Or.inr h)
    · split
      · rename_i h1 h2
        subst h2
        simp
      · simp
theorem insR_sorted {n : Int} {l : List Int} (h : l.Pairwise (· < ·)) : (insR n l).Pairwise (· < ·) := by
  induction l with
  | nil => simp [insR]
  | cons x xs ih =>
    rw [List.pairwise_cons] at h
    simp only [insR]
    split
    · rename_i hx
      rw [List.pairwise_cons]
      refine ⟨fun y hy => ?_, ih h.2⟩
      rcases mem_insR.1 hy with rfl | hy
      · exact hx
      · exact h.1 y hy
    · split
      · exact List.pairwise_cons.2 h
      · rename_i h1 h2
        rw [List.pairwise_cons]
        refine ⟨fun y hy => ?_, List.pairwise_cons.2 h⟩
        rcases List.mem_cons.1 hy with rfl | hy
        · omega
        · have := h.1 y hy; omega

theorem sorted_unique {a b : List Int} (ha : a.Pairwise (· < ·)) (hb : b.Pairwise (· < ·)) (h : ∀ x, x ∈ a ↔ x ∈ b) : a = b := by
  induction a generalizing b with
  | nil =>
    cases b with
    | nil => rfl
    | cons y ys => exact absurd ((h y).2 (by simp)) (by simp)
  | cons x xs ih =>
    cases b with
    | nil => exact absurd ((h x).1 (by simp)) (by simp)
    | cons y ys =>
      rw [List.pairwise_cons] at ha hb
      have hxy : x = y := by
        have h1 := (h x).1 (by simp)
        have h2 := (h y).2 (by simp)
        rcases List.mem_cons.1 h1 with e | e
        · exact e
        · rcases List.mem_cons.1 h2 with e2 | e2
          · exact e2.symm
          · have := ha.1 y e2; have := hb.1 x e; omega
      subst hxy
      rw [ih ha.2 hb.2 fun z => ?_]
      constructor
      · intro hz
        have := (h z).1 (by simp [hz])
        rcases List.mem_cons.1 this with e | e
        · subst e; have := ha.1 z hz; omega
        · exact e
      · intro hz
        have := (h z).2 (by simp [hz])
        rcases List.mem_cons.1 this with e | e
        · subst e; have := hb.1 z hz; omega
        · exact e

theorem fold_ins (d : List Int) : ∀ l : List Int, l.Pairwise (· < ·) → (d.foldl ins l).Pairwise (· < ·) ∧ ∀ x, x ∈ d.foldl ins l ↔ x ∈ l ∨ x ∈ d := by
  induction d with
  | nil => intro l h; exact ⟨h, fun x => by simp⟩
  | cons y d ih =>
    intro l h
    have h1 : (ins l y).Pairwise (· < ·) := by rw [ins_eq]; exact insR_sorted h
    obtain ⟨h2, h3⟩ := ih (ins l y) h1
    refine ⟨h2, fun x => ?_⟩
    rw [List.foldl_cons, h3, ins_eq, mem_insR, List.mem_cons]
    constructor
    · rintro ((h | h) | h)
      · exact Or.inr (Or.inl h)
      · exact Or.inl h
      · exact Or.inr (Or.inr h)
    · rintro (h | h | h)
      · exact Or.inl (Or.inr h)
      · exact Or.inl (Or.inl h)
      · exact Or.inr h
theorem sort_ins {d : List Int} (hn : d.Nodup) : (d.mergeSort fun x y => decide (x ≤ y)) = d.foldl ins [] := by
  obtain ⟨h1, h2⟩ := fold_ins d [] List.Pairwise.nil
  refine sorted_unique ?_ h1 fun x => ?_
  · have h1 : (d.mergeSort fun x y => decide (x ≤ y)).Pairwise (fun x y => decide (x ≤ y) = true) := List.pairwise_mergeSort (fun a b c h1 h2 => by simp at *; omega) (fun a b => by simp; omega) d
    have h2 : (d.mergeSort fun x y => decide (x ≤ y)).Nodup := (List.mergeSort_perm d _).nodup_iff.2 hn
    refine (h1.and h2).imp ?_
    rintro a b ⟨q1, q2⟩
    simp at q1
    omega
  · rw [(List.mergeSort_perm d _).mem_iff, h2]
    simp

end Go.Proofs.Ytibjpdchdopigaa.ints

namespace Go.Proofs
open Go.Shelf
def Try.lays189_ren : Go.Shelf.Ren := ⟨fun | 189 => 23 | 125 => 39 | 257 => 38 | 128 => 68 | 129 => 69 | 294 => 59 | 295 => 60 | 296 => 61 | 297 => 62 | 298 => 63 | 299 => 64 | 216 => 65 | 300 => 66 | 301 => 67 | 328 => 85 | 329 => 86 | 330 => 87 | 331 => 88 | 332 => 89 | 215 => 90 | 343 => 103 | n => n, fun | 28 => 22 | 3 => 3 | 46 => 62 | 0 => 0 | 51 => 69 | 53 => 102 | 4 => 4 | 183 => 93 | 182 => 92 | 131 => 98 | 5 => 5 | 9 => 9 | 218 => 111 | 222 => 115 | 228 => 130 | 229 => 131 | n => n, fun | n => n⟩
theorem Try.lays189 : Go.Proofs.Lays.n189 Try.prog Try.lays189_ren := {
  mixed := by kernel_rfl
  f125 := Try.func39.trans (congrArg some (by kernel_rfl))
  f128 := Try.func68.trans (congrArg some (by kernel_rfl))
  f129 := Try.func69.trans (congrArg some (by kernel_rfl))
  f189 := Try.func23.trans (congrArg some (by kernel_rfl))
  f215 := Try.func90.trans (congrArg some (by kernel_rfl))
  f216 := Try.func65.trans (congrArg some (by kernel_rfl))
  f257 := Try.func38.trans (congrArg some (by kernel_rfl))
  f294 := Try.func59.trans (congrArg some (by kernel_rfl))
  f295 := Try.func60.trans (congrArg some (by kernel_rfl))
  f296 := Try.func61.trans (congrArg some (by kernel_rfl))
  f297 := Try.func62.trans (congrArg some (by kernel_rfl))
  f298 := Try.func63.trans (congrArg some (by kernel_rfl))
  f299 := Try.func64.trans (congrArg some (by kernel_rfl))
  f300 := Try.func66.trans (congrArg some (by kernel_rfl))
  f301 := Try.func67.trans (congrArg some (by kernel_rfl))
  f328 := Try.func85.trans (congrArg some (by kernel_rfl))
  f329 := Try.func86.trans (congrArg some (by kernel_rfl))
  f330 := Try.func87.trans (congrArg some (by kernel_rfl))
  f331 := Try.func88.trans (congrArg some (by kernel_rfl))
  f332 := Try.func89.trans (congrArg some (by kernel_rfl))
  f343 := Try.func103.trans (congrArg some (by kernel_rfl))
  t0 := Try.underlying0
  a0 := Try.isAgg0
  z0 := Try.sizeOf0
  v0 := Try.zeroValue0
  t3 := Try.underlying3
  a3 := Try.isAgg3
  z3 := Try.sizeOf3
  v3 := Try.zeroValue3
  t4 := Try.underlying4
  a4 := Try.isAgg4
  z4 := Try.sizeOf4
  v4 := Try.zeroValue4
  t5 := Try.underlying5
  a5 := Try.isAgg5
  z5 := Try.sizeOf5
  v5 := Try.zeroValue5
  t9 := Try.underlying9
  a9 := Try.isAgg9
  z9 := Try.sizeOf9
  v9 := Try.zeroValue9
  t28 := Try.underlying22
  a28 := Try.isAgg22
  z28 := Try.sizeOf22
  v28 := Try.zeroValue22
  t46 := Try.underlying62
  a46 := Try.isAgg62
  z46 := Try.sizeOf62
  v46 := Try.zeroValue62
  t51 := Try.underlying69
  a51 := Try.isAgg69
  z51 := Try.sizeOf69
  v51 := Try.zeroValue69
  t53 := Try.underlying102
  a53 := Try.isAgg102
  z53 := Try.sizeOf102
  v53 := Try.zeroValue102
  t131 := Try.underlying98
  a131 := Try.isAgg98
  z131 := Try.sizeOf98
  v131 := Try.zeroValue98
  t182 := Try.underlying92
  a182 := Try.isAgg92
  z182 := Try.sizeOf92
  v182 := Try.zeroValue92
  t183 := Try.underlying93
  a183 := Try.isAgg93
  z183 := Try.sizeOf93
  v183 := Try.zeroValue93
  t218 := Try.underlying111
  a218 := Try.isAgg111
  z218 := Try.sizeOf111
  v218 := Try.zeroValue111
  t222 := Try.underlying115
  a222 := Try.isAgg115
  z222 := Try.sizeOf115
  v222 := Try.zeroValue115
  t228 := Try.underlying130
  a228 := Try.isAgg130
  z228 := Try.sizeOf130
  v228 := Try.zeroValue130
  t229 := Try.underlying131
  a229 := Try.isAgg131
  z229 := Try.sizeOf131
  v229 := Try.zeroValue131 }
open Go.Sort Go.RowKit in
theorem Try.slices_Sort_int (blk off cap : Nat) (zs : List Int) (w : World) (hH : Holds (Value.int .i64) w blk off zs.toArray) (hblk : blk < w.heap.size) (hsz : zs.length < 4611686018427387904) :
    Calls Try.prog 23 #[.slice (some ⟨blk, off, none⟩) zs.length cap] w fun e w' =>
      e = .returned (.tuple #[]) ∧ ∃ n os, w' = grow (putRow (Value.int .i64) (Sort.ahead w n) blk off (zs.mergeSort fun x y => decide (x ≤ y)).toArray) os := Any.slices_Sort_int Try.lays189 blk off cap zs w hH hblk hsz
open Go.RowKit Go.Sort in
/-- .. and plain. (LAID: no walk: one application.) -/
theorem Try.slices_Sort_int_none (p : Option Addr) (cap : Nat) (w : World) :
    Calls Try.prog 23 #[.slice p 0 cap] w fun e w' => e = .returned (.tuple #[]) ∧ w' = w := Any.slices_Sort_int_none Try.lays189 p cap w
end Go.Proofs
