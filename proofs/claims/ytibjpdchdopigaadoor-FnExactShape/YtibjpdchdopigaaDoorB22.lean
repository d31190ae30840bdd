/-
  The program meets the blocks of a heap that are come to from roots (meet): at every heap and all roots.
  The program's Shape, at every heap and all roots; nothing that was there is turned.
-/
import Derived.Test.YtibjpdchdopigaaDoorB1
import Derived.Test.YtibjpdchdopigaaDoorB2
import Derived.Test.YtibjpdchdopigaaDoorB3
import Derived.Test.YtibjpdchdopigaaDoorB4
import Derived.Test.YtibjpdchdopigaaDoorB5
import Derived.Test.YtibjpdchdopigaaDoorB6
import Derived.Test.YtibjpdchdopigaaDoorB7
import Derived.Test.YtibjpdchdopigaaDoorB8
import Derived.Test.YtibjpdchdopigaaDoorB9
import Derived.Test.YtibjpdchdopigaaDoorB10
import Derived.Test.YtibjpdchdopigaaDoorB11
import Derived.Test.YtibjpdchdopigaaDoorB12
import Derived.Test.YtibjpdchdopigaaDoorB13
import Derived.Test.YtibjpdchdopigaaDoorB14
import Derived.Test.YtibjpdchdopigaaDoorB15
import Derived.Test.YtibjpdchdopigaaDoorB16
import Derived.Test.YtibjpdchdopigaaDoorB17
import Derived.Test.YtibjpdchdopigaaDoorB18
import Derived.Test.YtibjpdchdopigaaDoorB19
import Derived.Test.YtibjpdchdopigaaDoorB20
import Derived.Test.YtibjpdchdopigaaDoorB21
namespace Go.Proofs.YtibjpdchdopigaaDoor.heap
open Go Go.RowKit Go.Deep Go.Proofs.YtibjpdchdopigaaDoor.rose Go.Proofs.YtibjpdchdopigaaDoor Go.Proofs.YtibjpdchdopigaaDoor.fun Go.Proofs.YtibjpdchdopigaaDoor.words Go.Proofs.YtibjpdchdopigaaDoor.ints
set_option linter.unusedVariables false
set_option linter.unusedSimpArgs false

/-- What meet answers of a heap and roots. -/
def MeetTop (W : List Int) (half base next : Int) (wv : Value) (rs : List Int) (B : Nat) (e : Ending) (w' : World) : Prop :=
  (rightB (W, half, base, next) rs = false → ∃ p, e = .returned (.tuple #[.pointer p, .agg #[.int .i64 0, .slice none 0 0, .slice none 0 0], .bool false])) ∧
  (rightB (W, half, base, next) rs = true → ∃ (hb hm hf bs nx nb B2 : Nat) (M : List Bool) (v : Value), half = hf ∧ base = bs ∧ next = nx ∧ e = .returned (.tuple #[.pointer (some ⟨hb, 0, none⟩), .agg #[.int .i64 bs, v, .slice (some ⟨nb, 0, none⟩) hf hf], .bool true]) ∧ HH B hb hm wv W hf bs nx 0 M w' ∧ Met B2 nb v bs hf (orderF (W, half, base, next) rs) w' ∧ hb < B2 ∧ hm < B2)
theorem right_parts {T : HeapD} {rs : List Int} : rightB T rs = (heapB T && rs.all (thereB (plT T).1)) := rfl

set_option maxRecDepth 100000 in
set_option maxHeartbeats 8000000 in
theorem meetTop_is (W : List Int) (a0 : Option Addr) (c0 : Nat) (half base next : Int) (rs : List Int) (v : Value) (w : World) (hrl : rs.length ≤ 1048576) (h : heapSh.rep w (· < w.heap.size) [.slice a0 W.length c0, .int .i64 half, .int .i64 base, .int .i64 next] (W, half, base, next)) (hv : intsSh.rep w (· < w.heap.size) [v] rs) :
    Calls Tryd.prog 17 #[.agg #[.slice a0 W.length c0, .int .i64 half, .int .i64 base, .int .i64 next], v] w fun e w' => MeetTop W half base next (.slice a0 W.length c0) rs (w.heap.size + 2) e w' ∧ Below w.heap.size w w' := by
  obtain ⟨ar, cr, hvv⟩ : ∃ a c, v = .slice a rs.length c := by obtain ⟨a, c, e⟩ := slice_cells hv; simp only [List.cons.injEq, and_true] at e; exact ⟨a, c, e⟩
  subst hvv
  have P0 : Hid (Piece w w.heap.size ar rs) := Piece.of hv fun b hb => hb
  obtain ⟨wa, hwa⟩ : ∃ wa, wa = (w.alloc (.cells #[.slice a0 W.length c0, .int .i64 half, .int .i64 base, .int .i64 next] 27)).alloc (.cells #[.int .i64 0, .slice none 0 0, .slice none 0 0] 42) := ⟨_, rfl⟩
  have B0 : Hid (Below w.heap.size w wa ∧ wa.heap.size = w.heap.size + 2) := by rw [hwa]; exact ⟨((Below.refl _ _).alloc (Nat.le_refl _) _).alloc (by simp) _, by simp⟩
  have X0 : Hid (wa.heap[w.heap.size]? = some (.cells #[.slice a0 W.length c0, .int .i64 half, .int .i64 base, .int .i64 next] 27) ∧ wa.heap[w.heap.size + 1]? = some (.cells #[.int .i64 0, .slice none 0 0, .slice none 0 0] 42)) := by rw [hwa]; exact two_tops w _ _
  have hcall := hold_is W a0 c0 half base next wa (heapSh.mono (heapSh.below h B0.out.1) fun b hlt => Nat.lt_of_lt_of_le hlt B0.out.1.size)
  have k0 : wa.cell? ⟨w.heap.size, 0, none⟩ = some (.slice a0 W.length c0) := blk_cellH (i := 0) X0.out.1 rfl
  have k1 : wa.cell? ⟨w.heap.size, 1, none⟩ = some (.int .i64 half) := blk_cellH (i := 1) X0.out.1 rfl
  have k2 : wa.cell? ⟨w.heap.size, 2, none⟩ = some (.int .i64 base) := blk_cellH (i := 2) X0.out.1 rfl
  have k3 : wa.cell? ⟨w.heap.size, 3, none⟩ = some (.int .i64 next) := blk_cellH (i := 3) X0.out.1 rfl
  rw [hwa] at k0 k1 k2 k3
  have HWA : Hid (wa = (w.alloc (.cells #[.slice a0 W.length c0, .int .i64 half, .int .i64 base, .int .i64 next] 27)).alloc (.cells #[.int .i64 0, .slice none 0 0, .slice none 0 0] 42)) := hwa
  rw [hwa] at hcall
  have AI : Hid (intsSh.rep w (· < w.heap.size) [.slice a0 W.length c0] W) := by
    obtain ⟨W', a', c', hf', bs', nx', eT, eC, f0, -⟩ := heap_open h
    simp only [Prod.mk.injEq] at eT
    obtain ⟨rfl, rfl, rfl, rfl⟩ := eT
    simp only [List.cons.injEq] at eC
    rw [eC.1]; exact f0
  clear h hv hwa
  have fin0 : ∀ {wx : World} {g : Nat}, wx.heap[g]? = some (.cells #[.int .i64 0, .slice none 0 0, .slice none 0 0] 42) → w.heap.size ≤ g → Below w.heap.size w wx → (((wx.setCell ⟨g, 0, none⟩ (.int .i64 0)).setCell ⟨g, 1, none⟩ (.slice none 0 0)).setCell ⟨g, 2, none⟩ (.slice none 0 0)).heap[g]? = some (.cells #[.int .i64 0, .slice none 0 0, .slice none 0 0] 42) ∧ Below w.heap.size w (((wx.setCell ⟨g, 0, none⟩ (.int .i64 0)).setCell ⟨g, 1, none⟩ (.slice none 0 0)).setCell ⟨g, 2, none⟩ (.slice none 0 0)) := fun hx hg hB => ⟨setr3 _ _ _ hx, ((hB.setCell hg _).setCell hg _).setCell hg _⟩
  have FIN0 : Hid _ := @fin0
  clear fin0
  rcases q : heapB (W, half, base, next) with _ | _
  · have HF : Hid (rightB (W, half, base, next) rs = false) := right_heap q
    go_enter Tryd.func17, Tryd.ntmps17
    go_wp2_with fail
    refine hcall.mono ?_
    rintro e w1 ⟨ho, hb⟩
    obtain ⟨pp, rfl⟩ := ho.1 q
    rw [← HWA.out] at hb
    have B1 : Hid (Below w.heap.size w w1) := B0.out.1.trans (hb.mono (by have := B0.out.2; omega))
    have R1 : Hid (w1.heap[w.heap.size + 1]? = some (.cells #[.int .i64 0, .slice none 0 0, .slice none 0 0] 42)) := (hb.block _ (by have := B0.out.2; omega)).trans X0.out.2
    clear hcall hb ho q k0 k1 k2 k3
    have x0 : w1.cell? ⟨w.heap.size + 1, 0, none⟩ = some (.int .i64 0) := blk_cellH (i := 0) R1.out rfl
    have x1 : w1.cell? ⟨w.heap.size + 1, 1, none⟩ = some (.slice none 0 0) := blk_cellH (i := 1) R1.out rfl
    have x2 : w1.cell? ⟨w.heap.size + 1, 2, none⟩ = some (.slice none 0 0) := blk_cellH (i := 2) R1.out rfl
    have xf : ∀ j, w1.frozen? ⟨w.heap.size + 1, j, none⟩ = false := fun j => blk_frzH R1.out
    go_wp2
    obtain ⟨f1, f2⟩ := FIN0.out R1.out (by omega) B1.out
    generalize ((w1.setCell ⟨w.heap.size + 1, 0, none⟩ (.int .i64 0)).setCell ⟨w.heap.size + 1, 1, none⟩ (.slice none 0 0)).setCell ⟨w.heap.size + 1, 2, none⟩ (.slice none 0 0) = wE at *
    have y0 : wE.cell? ⟨w.heap.size + 1, 0, none⟩ = some (.int .i64 0) := blk_cellH (i := 0) f1 rfl
    have y1 : wE.cell? ⟨w.heap.size + 1, 1, none⟩ = some (.slice none 0 0) := blk_cellH (i := 1) f1 rfl
    have y2 : wE.cell? ⟨w.heap.size + 1, 2, none⟩ = some (.slice none 0 0) := blk_cellH (i := 2) f1 rfl
    refine bodyPost_ret (v := .tuple #[.pointer none, .agg #[.int .i64 0, .slice none 0 0, .slice none 0 0], .bool false]) (by simp [results, Tryd.f17, go_sem, y0, y1, y2]) rfl ?_
    exact ⟨⟨fun _ => ⟨_, rfl⟩, fun hq => by rw [HF.out] at hq; cases hq⟩, f2⟩
  · have Q : Hid (heapB (W, half, base, next) = true) := q
    go_enter Tryd.func17, Tryd.ntmps17
    go_wp2_with fail
    refine hcall.mono ?_
    rintro e w1 ⟨ho, hb⟩
    obtain ⟨hb', hm, hf, bs, nx, M, e1, e2, e3, rfl, hH, hM⟩ := ho.2 q
    subst e1 e2 e3
    rw [← HWA.out] at hb hH
    rw [B0.out.2] at hH
    have B1 : Hid (Below w.heap.size w w1) := B0.out.1.trans (hb.mono (by have := B0.out.2; omega))
    have R1 : Hid (w1.heap[w.heap.size + 1]? = some (.cells #[.int .i64 0, .slice none 0 0, .slice none 0 0] 42)) := (hb.block _ (by have := B0.out.2; omega)).trans X0.out.2
    have HPT : plT (W, (hf : Int), (bs : Int), (nx : Int)) = plF W nx bs := by unfold plT; simp
    have HRT : Hid (rightB (W, (hf : Int), (bs : Int), (nx : Int)) rs = rs.all (thereB (plF W nx bs).1)) := by show _ = _; rw [right_parts, q, HPT]; rfl
    have hc2 := meet_is hH q hM ar cr rs hrl ((P0.out.on B1.out).mono (by omega))
    rw [← HRT.out] at hc2
    have HZ : Hid (hb' < w1.heap.size + 1 ∧ hm < w1.heap.size + 1) := by have := hH.lt; show _ ∧ _; omega
    clear hcall hb ho q k0 k1 k2 k3 hH hM HPT
    rcases q2 : rightB (W, (hf : Int), (bs : Int), (nx : Int)) rs with _ | _
    · rw [q2] at hc2
      have HF : Hid (rightB (W, (hf : Int), (bs : Int), (nx : Int)) rs = false) := q2
      clear q2
      go_wp2_with fail
      refine hc2.mono ?_
      rintro e w2 ⟨hmo, -, hb2⟩
      have e4 := hmo.1 rfl
      subst e4
      have B2 : Hid (Below w.heap.size w w2) := B1.out.trans (hb2.mono (by omega))
      have R2 : Hid (w2.heap[w.heap.size + 1]? = some (.cells #[.int .i64 0, .slice none 0 0, .slice none 0 0] 42)) := (hb2.block _ (by omega)).trans R1.out
      have Z2 : Hid (w.heap.size + 1 < w2.heap.size) := (Array.getElem?_eq_some_iff.1 R2.out).1
      clear hc2 hmo hb2
      go_wp2
      have T3 : (w2.alloc (.cells #[.int .i64 0, .slice none 0 0, .slice none 0 0] 42)).heap[w2.heap.size]? = some (.cells #[.int .i64 0, .slice none 0 0, .slice none 0 0] 42) := alloc_top _ _
      have R3 : (w2.alloc (.cells #[.int .i64 0, .slice none 0 0, .slice none 0 0] 42)).heap[w.heap.size + 1]? = some (.cells #[.int .i64 0, .slice none 0 0, .slice none 0 0] 42) := (Below.heap_alloc _ _ _ Z2.out).trans R2.out
      have B3 : Hid (Below w.heap.size w (w2.alloc (.cells #[.int .i64 0, .slice none 0 0, .slice none 0 0] 42)) ∧ Below w2.heap.size w2 (w2.alloc (.cells #[.int .i64 0, .slice none 0 0, .slice none 0 0] 42))) := ⟨B2.out.alloc B2.out.size _, (Below.refl _ _).alloc (Nat.le_refl _) _⟩
      generalize w2.alloc (.cells #[.int .i64 0, .slice none 0 0, .slice none 0 0] 42) = w3 at *
      have t0 : w3.cell? ⟨w2.heap.size, 0, none⟩ = some (.int .i64 0) := blk_cellH (i := 0) T3 rfl
      have t1 : w3.cell? ⟨w2.heap.size, 1, none⟩ = some (.slice none 0 0) := blk_cellH (i := 1) T3 rfl
      have t2 : w3.cell? ⟨w2.heap.size, 2, none⟩ = some (.slice none 0 0) := blk_cellH (i := 2) T3 rfl
      have x0 : w3.cell? ⟨w.heap.size + 1, 0, none⟩ = some (.int .i64 0) := blk_cellH (i := 0) R3 rfl
      have x1 : w3.cell? ⟨w.heap.size + 1, 1, none⟩ = some (.slice none 0 0) := blk_cellH (i := 1) R3 rfl
      have x2 : w3.cell? ⟨w.heap.size + 1, 2, none⟩ = some (.slice none 0 0) := blk_cellH (i := 2) R3 rfl
      have xf : ∀ j, w3.frozen? ⟨w.heap.size + 1, j, none⟩ = false := fun j => blk_frzH R3
      have S3 : Hid (w3.heap[w.heap.size + 1]? = some (.cells #[.int .i64 0, .slice none 0 0, .slice none 0 0] 42)) := R3
      clear T3 R3
      go_region_law (fail)
      all_goals
        have E5 := setr3 (.int .i64 0) (.slice none 0 0) (.slice none 0 0) S3.out
        have B5 : Below w.heap.size w (((w3.setCell ⟨w.heap.size + 1, 0, none⟩ (.int .i64 0)).setCell ⟨w.heap.size + 1, 1, none⟩ (.slice none 0 0)).setCell ⟨w.heap.size + 1, 2, none⟩ (.slice none 0 0)) := ((B3.out.1.setCell (by show _ ≤ w.heap.size + 1; omega) _).setCell (by show _ ≤ w.heap.size + 1; omega) _).setCell (by show _ ≤ w.heap.size + 1; omega) _
        have O5 : ∀ k, k ≠ w.heap.size + 1 → (((w3.setCell ⟨w.heap.size + 1, 0, none⟩ (.int .i64 0)).setCell ⟨w.heap.size + 1, 1, none⟩ (.slice none 0 0)).setCell ⟨w.heap.size + 1, 2, none⟩ (.slice none 0 0)).heap[k]? = w3.heap[k]? := fun k hk => ((Below.heap_setCell _ _ _ _ (by exact hk)).trans (Below.heap_setCell _ _ _ _ (by exact hk))).trans (Below.heap_setCell _ _ _ _ (by exact hk))
        clear t0 t1 t2 x0 x1 x2 xf
        go_wp2
        generalize ((w3.setCell ⟨w.heap.size + 1, 0, none⟩ (.int .i64 0)).setCell ⟨w.heap.size + 1, 1, none⟩ (.slice none 0 0)).setCell ⟨w.heap.size + 1, 2, none⟩ (.slice none 0 0) = wE at *
        have y0 : wE.cell? ⟨w.heap.size + 1, 0, none⟩ = some (.int .i64 0) := blk_cellH (i := 0) E5 rfl
        have y1 : wE.cell? ⟨w.heap.size + 1, 1, none⟩ = some (.slice none 0 0) := blk_cellH (i := 1) E5 rfl
        have y2 : wE.cell? ⟨w.heap.size + 1, 2, none⟩ = some (.slice none 0 0) := blk_cellH (i := 2) E5 rfl
        refine bodyPost_ret (v := .tuple #[.pointer (some ⟨hb', 0, none⟩), .agg #[.int .i64 0, .slice none 0 0, .slice none 0 0], .bool false]) (by simp [results, Tryd.f17, go_sem, y0, y1, y2]) rfl ?_
        exact ⟨⟨fun _ => ⟨_, rfl⟩, fun hq => by rw [HF.out] at hq; cases hq⟩, by first | exact B5 | exact B5.drew⟩
    · rw [q2] at hc2
      have HF : Hid (rightB (W, (hf : Int), (bs : Int), (nx : Int)) rs = true) := q2
      clear q2
      go_wp2_with fail
      refine hc2.mono ?_
      rintro e w2 ⟨hmo, hH2, hb2⟩
      obtain ⟨nb, v, e4, hN⟩ := hmo.2 rfl
      subst e4
      obtain ⟨av, cv, hvv⟩ := own_form hN.plc.1
      subst hvv
      obtain ⟨nO, hnO⟩ : ∃ nO, nO = (orderF (W, (hf : Int), (bs : Int), (nx : Int)) rs).length := ⟨_, rfl⟩
      rw [← hnO] at hN
      rw [← hnO]
      clear hnO
      have B2 : Hid (Below w.heap.size w w2) := B1.out.trans (hb2.mono (by omega))
      have R2 : Hid (w2.heap[w.heap.size + 1]? = some (.cells #[.int .i64 0, .slice none 0 0, .slice none 0 0] 42)) := (hb2.block _ (by omega)).trans R1.out
      have Z2 : Hid (w.heap.size + 1 < w2.heap.size) := (Array.getElem?_eq_some_iff.1 R2.out).1
      have HH2 : Hid (HH (w.heap.size + 2) hb' hm (.slice a0 W.length c0) W hf bs nx 0 M w2) := hH2
      have N2 : Hid (Met (w1.heap.size + 1) nb (.slice av nO cv) bs hf (orderF (W, (hf : Int), (bs : Int), (nx : Int)) rs) w2) := hN
      have Z1 : Hid (w.heap.size + 2 ≤ w1.heap.size) := by have := (Array.getElem?_eq_some_iff.1 R1.out).1; show _ ≤ _; omega
      clear hH2 hN
      clear hc2 hmo hb2
      go_wp2
      have T3 : (w2.alloc (.cells #[.int .i64 bs, .slice av nO cv, .slice (some ⟨nb, 0, none⟩) hf hf] 42)).heap[w2.heap.size]? = some (.cells #[.int .i64 bs, .slice av nO cv, .slice (some ⟨nb, 0, none⟩) hf hf] 42) := alloc_top _ _
      have R3 : (w2.alloc (.cells #[.int .i64 bs, .slice av nO cv, .slice (some ⟨nb, 0, none⟩) hf hf] 42)).heap[w.heap.size + 1]? = some (.cells #[.int .i64 0, .slice none 0 0, .slice none 0 0] 42) := (Below.heap_alloc _ _ _ Z2.out).trans R2.out
      have B3 : Hid (Below w.heap.size w (w2.alloc (.cells #[.int .i64 bs, .slice av nO cv, .slice (some ⟨nb, 0, none⟩) hf hf] 42)) ∧ Below w2.heap.size w2 (w2.alloc (.cells #[.int .i64 bs, .slice av nO cv, .slice (some ⟨nb, 0, none⟩) hf hf] 42))) := ⟨B2.out.alloc B2.out.size _, (Below.refl _ _).alloc (Nat.le_refl _) _⟩
      generalize w2.alloc (.cells #[.int .i64 bs, .slice av nO cv, .slice (some ⟨nb, 0, none⟩) hf hf] 42) = w3 at *
      have t0 : w3.cell? ⟨w2.heap.size, 0, none⟩ = some (.int .i64 bs) := blk_cellH (i := 0) T3 rfl
      have t1 : w3.cell? ⟨w2.heap.size, 1, none⟩ = some (.slice av nO cv) := blk_cellH (i := 1) T3 rfl
      have t2 : w3.cell? ⟨w2.heap.size, 2, none⟩ = some (.slice (some ⟨nb, 0, none⟩) hf hf) := blk_cellH (i := 2) T3 rfl
      have x0 : w3.cell? ⟨w.heap.size + 1, 0, none⟩ = some (.int .i64 0) := blk_cellH (i := 0) R3 rfl
      have x1 : w3.cell? ⟨w.heap.size + 1, 1, none⟩ = some (.slice none 0 0) := blk_cellH (i := 1) R3 rfl
      have x2 : w3.cell? ⟨w.heap.size + 1, 2, none⟩ = some (.slice none 0 0) := blk_cellH (i := 2) R3 rfl
      have xf : ∀ j, w3.frozen? ⟨w.heap.size + 1, j, none⟩ = false := fun j => blk_frzH R3
      have S3 : Hid (w3.heap[w.heap.size + 1]? = some (.cells #[.int .i64 0, .slice none 0 0, .slice none 0 0] 42)) := R3
      clear T3 R3
      go_region_law (fail)
      all_goals
        have E5 := setr3 (.int .i64 bs) (.slice av nO cv) (.slice (some ⟨nb, 0, none⟩) hf hf) S3.out
        have B5 : Below w.heap.size w (((w3.setCell ⟨w.heap.size + 1, 0, none⟩ (.int .i64 bs)).setCell ⟨w.heap.size + 1, 1, none⟩ (.slice av nO cv)).setCell ⟨w.heap.size + 1, 2, none⟩ (.slice (some ⟨nb, 0, none⟩) hf hf)) := ((B3.out.1.setCell (by show _ ≤ w.heap.size + 1; omega) _).setCell (by show _ ≤ w.heap.size + 1; omega) _).setCell (by show _ ≤ w.heap.size + 1; omega) _
        have O5 : ∀ k, k ≠ w.heap.size + 1 → (((w3.setCell ⟨w.heap.size + 1, 0, none⟩ (.int .i64 bs)).setCell ⟨w.heap.size + 1, 1, none⟩ (.slice av nO cv)).setCell ⟨w.heap.size + 1, 2, none⟩ (.slice (some ⟨nb, 0, none⟩) hf hf)).heap[k]? = w3.heap[k]? := fun k hk => ((Below.heap_setCell _ _ _ _ (by exact hk)).trans (Below.heap_setCell _ _ _ _ (by exact hk))).trans (Below.heap_setCell _ _ _ _ (by exact hk))
        clear t0 t1 t2 x0 x1 x2 xf
        go_wp2
        generalize ((w3.setCell ⟨w.heap.size + 1, 0, none⟩ (.int .i64 bs)).setCell ⟨w.heap.size + 1, 1, none⟩ (.slice av nO cv)).setCell ⟨w.heap.size + 1, 2, none⟩ (.slice (some ⟨nb, 0, none⟩) hf hf) = wE at *
        have y0 : wE.cell? ⟨w.heap.size + 1, 0, none⟩ = some (.int .i64 bs) := blk_cellH (i := 0) E5 rfl
        have y1 : wE.cell? ⟨w.heap.size + 1, 1, none⟩ = some (.slice av nO cv) := blk_cellH (i := 1) E5 rfl
        have y2 : wE.cell? ⟨w.heap.size + 1, 2, none⟩ = some (.slice (some ⟨nb, 0, none⟩) hf hf) := blk_cellH (i := 2) E5 rfl
        refine bodyPost_ret (v := .tuple #[.pointer (some ⟨hb', 0, none⟩), .agg #[.int .i64 bs, .slice av nO cv, .slice (some ⟨nb, 0, none⟩) hf hf], .bool true]) (by simp [results, Tryd.f17, go_sem, y0, y1, y2]) rfl ?_
        have hH3 := HH2.out.on B3.out.2
        have hN3 := N2.out.on B3.out.2
        have hz := HZ.out
        have hz1 := Z1.out
        have hlo := hH3.lo
        have hW5 : intsSh.rep wE (· < w.heap.size + 2) [.slice a0 W.length c0] W := intsSh.mono (intsSh.below AI.out B5) fun b hbb => by omega
        have hH5 : HH (w.heap.size + 2) hb' hm (.slice a0 W.length c0) W hf bs nx 0 M wE := ⟨hH3.lo, (O5 hb' (by omega)).trans hH3.blk, (O5 hm (by omega)).trans hH3.mks, hH3.len, hW5, hH3.siz⟩
        have hN5 : Met (w1.heap.size + 1) nb (.slice av nO cv) bs hf (orderF (W, (hf : Int), (bs : Int), (nx : Int)) rs) wE := hN3.other (O5 nb (by have := hN3.lo; omega)) fun q hq => O5 q (by have := (hN3.plc.lt q hq).1; omega)
        first
          | exact ⟨⟨fun hq => (by rw [HF.out] at hq; cases hq), fun _ => ⟨hb', hm, hf, bs, nx, nb, w1.heap.size + 1, M, .slice av nO cv, rfl, rfl, rfl, rfl, hH5, hN5, hz.1, hz.2⟩⟩, B5⟩
          | exact ⟨⟨fun hq => (by rw [HF.out] at hq; cases hq), fun _ => ⟨hb', hm, hf, bs, nx, nb, w1.heap.size + 1, M, .slice av nO cv, rfl, rfl, rfl, rfl, hH5.same rfl, hN5.other rfl (fun _ _ => rfl), hz.1, hz.2⟩⟩, B5.drew⟩

end Go.Proofs.YtibjpdchdopigaaDoor.heap

namespace Go.Proofs.YtibjpdchdopigaaDoor.heap
open Go Go.RowKit Go.Deep Go.Proofs.YtibjpdchdopigaaDoor.rose Go.Proofs.YtibjpdchdopigaaDoor Go.Proofs.YtibjpdchdopigaaDoor.fun Go.Proofs.YtibjpdchdopigaaDoor.words Go.Proofs.YtibjpdchdopigaaDoor.ints
set_option linter.unusedVariables false
set_option linter.unusedSimpArgs false

set_option maxRecDepth 100000 in
set_option maxHeartbeats 8000000 in
theorem implShape (T : HeapD) (rs : List Int) (cs : List Value) (v : Value) (w : World) (hw : wt T ≤ 1048576) (hrl : rs.length ≤ 1048576) (hN : fun.Tab w) (h : heapSh.rep w (· < w.heap.size) cs T) (hv : intsSh.rep w (· < w.heap.size) [v] rs) :
    Calls Tryd.prog 8 #[.agg cs.toArray, v] w fun e w' => e = .returned (.string (shapeF T rs)) ∧ Below w.heap.size w w' := by
  obtain ⟨W, a0, c0, half, base, next, rfl, rfl, f0, f1, f2, f3⟩ := heap_open h
  obtain ⟨ar, cr, hvv⟩ : ∃ a c, v = .slice a rs.length c := by obtain ⟨a, c, e⟩ := slice_cells hv; simp only [List.cons.injEq, and_true] at e; exact ⟨a, c, e⟩
  subst hvv
  have HWR : Hid (∀ y ∈ W, InR y) := fun y hy => by
    obtain ⟨_, _, _, _, _, hat⟩ := ints_open f0
    obtain ⟨j, hj, rfl⟩ := List.getElem_of_mem hy
    obtain ⟨_, _, _, _, _, r1, r2⟩ := hat j hj
    exact ⟨r1, r2⟩
  have P0 : Hid (Piece w w.heap.size ar rs) := Piece.of hv fun b hb => hb
  have HTB : Hid (∀ X, Below w.heap.size w X → Tab X) := fun X hX => hN.on hX
  have A0 : Hid (ArgK w (w.alloc (.cells #[.slice a0 W.length c0, .int .i64 half, .int .i64 base, .int .i64 next] 27)) [.slice a0 W.length c0, .int .i64 half, .int .i64 base, .int .i64 next] 27) := ArgK.new _ _ _ rfl
  have hcall := meetTop_is W a0 c0 half base next rs (.slice ar rs.length cr) _ hrl (heapSh.mono (heapSh.below h A0.out.bel) fun b hlt => Nat.lt_of_lt_of_le hlt A0.out.bel.size) (intsSh.mono (intsSh.below hv A0.out.bel) fun b hlt => Nat.lt_of_lt_of_le hlt A0.out.bel.size)
  have Z0 : (w.alloc (.cells #[.slice a0 W.length c0, .int .i64 half, .int .i64 base, .int .i64 next] 27)).heap.size = w.heap.size + 1 := by simp
  rw [Z0] at hcall
  have BA : Hid (Below w.heap.size w (w.alloc (.cells #[.slice a0 W.length c0, .int .i64 half, .int .i64 base, .int .i64 next] 27))) := A0.out.bel
  clear h f0 f1 f2 f3 hw hv hN
  rcases q : rightB (W, half, base, next) rs with _ | _
  · have HF : Hid (shapeF (W, half, base, next) rs = ⟨#[]⟩) := by show _ = _; unfold shapeF; rw [q]; rfl
    go_enter Tryd.func8, Tryd.ntmps8
    go_wp2_with fail
    refine hcall.mono ?_
    rintro e w1 ⟨ho, hb⟩
    obtain ⟨p, rfl⟩ := ho.1 q
    have B1 : Hid (Below w.heap.size w w1) := BA.out.trans (hb.mono (by omega))
    clear hcall hb ho q
    go_wp2
    go_ret
    rw [HF.out]
    exact ⟨rfl, B1.out.alloc B1.out.size _⟩
  · go_enter Tryd.func8, Tryd.ntmps8
    go_wp2_with fail
    refine hcall.mono ?_
    rintro e w1 ⟨ho, hb⟩
    obtain ⟨hb', hm, hf, bs, nx, nb, B2, M, v, e1, e2, e3, rfl, hH, hN, hz1, hz2⟩ := ho.2 q
    subst e1 e2 e3
    have B1 : Hid (Below w.heap.size w w1) := BA.out.trans (hb.mono (by omega))
    obtain ⟨O, hO⟩ : ∃ O, O = orderF (W, (hf : Int), (bs : Int), (nx : Int)) rs := ⟨_, rfl⟩
    rw [← hO] at hN
    obtain ⟨av, cv, hvv⟩ := own_form hN.plc.1
    subst hvv
    have K2 : Below w1.heap.size w1 (w1.alloc (.cells #[.int .i64 bs, .slice av O.length cv, .slice (some ⟨nb, 0, none⟩) hf hf] 42)) := (Below.refl _ _).alloc (Nat.le_refl _) _
    have B2' : Below w.heap.size w (w1.alloc (.cells #[.int .i64 bs, .slice av O.length cv, .slice (some ⟨nb, 0, none⟩) hf hf] 42)) := B1.out.alloc B1.out.size _
    have hsh := shape_is (M := M) rs O (hH.on K2) (hN.on K2) ⟨hz1, hz2⟩ HWR.out q hO ar cr hrl ((P0.out.on B2').up (by omega)) (fun X hX => HTB.out X (B2'.trans (hX.mono (by omega))))
    have HB2 : Hid (Below w.heap.size w (w1.alloc (.cells #[.int .i64 bs, .slice av O.length cv, .slice (some ⟨nb, 0, none⟩) hf hf] 42))) := B2'
    clear hcall hb ho q hH hN K2 B2' hO
    go_wp2_with fail
    refine hsh.mono ?_
    rintro e w3 ⟨rfl, hb3⟩
    have B3 : Hid (Below w.heap.size w w3) := HB2.out.trans (hb3.mono (by omega))
    clear hsh hb3
    go_wp2
    go_ret
    exact ⟨rfl, B3.out⟩

end Go.Proofs.YtibjpdchdopigaaDoor.heap
