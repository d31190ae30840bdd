/-
  The program meets the blocks of a heap that are come to from roots (meet): at every heap and all roots.
  A heap at work whose words lie in a block of the call's own.
  Words are copied (copiedWords): into a block of the call's own.
-/
import Derived.Laws.CopyOwn
import Derived.Laws.MakeOwn
import Derived.Test.YthpdkjenadngoaaGreatDoorB1
import Derived.Test.YthpdkjenadngoaaGreatDoorB2
import Derived.Test.YthpdkjenadngoaaGreatDoorB3
import Derived.Test.YthpdkjenadngoaaGreatDoorB4
import Derived.Test.YthpdkjenadngoaaGreatDoorB5
import Derived.Test.YthpdkjenadngoaaGreatDoorB6
import Derived.Test.YthpdkjenadngoaaGreatDoorB7
import Derived.Test.YthpdkjenadngoaaGreatDoorB8
import Derived.Test.YthpdkjenadngoaaGreatDoorB9
import Derived.Test.YthpdkjenadngoaaGreatDoorB10
import Derived.Test.YthpdkjenadngoaaGreatDoorB11
import Derived.Test.YthpdkjenadngoaaGreatDoorB12
import Derived.Test.YthpdkjenadngoaaGreatDoorB13
import Derived.Test.YthpdkjenadngoaaGreatDoorB14
import Derived.Test.YthpdkjenadngoaaGreatDoorB15
import Derived.Test.YthpdkjenadngoaaGreatDoorB16
import Derived.Test.YthpdkjenadngoaaGreatDoorB17
import Derived.Test.YthpdkjenadngoaaGreatDoorB18
import Derived.Test.YthpdkjenadngoaaGreatDoorB19
import Derived.Test.YthpdkjenadngoaaGreatDoorB20
import Derived.Test.YthpdkjenadngoaaGreatDoorB21
import Derived.Test.YthpdkjenadngoaaGreatDoorB22
import Derived.Test.YthpdkjenadngoaaGreatDoorB23
import Derived.Test.YthpdkjenadngoaaGreatDoorB24
import Derived.Test.YthpdkjenadngoaaGreatDoorB25
import Derived.Test.YthpdkjenadngoaaGreatDoorB26
import Derived.Test.YthpdkjenadngoaaGreatDoorB27
namespace Go.Proofs.YthpdkjenadngoaaGreatDoor.heap
open Go Go.RowKit Go.Deep Go.Proofs.YthpdkjenadngoaaGreatDoor.rose Go.Proofs.YthpdkjenadngoaaGreatDoor Go.Proofs.YthpdkjenadngoaaGreatDoor.fun Go.Proofs.YthpdkjenadngoaaGreatDoor.words Go.Proofs.YthpdkjenadngoaaGreatDoor.ints
set_option linter.unusedVariables false
set_option linter.unusedSimpArgs false

/-- What meet answers of a heap and roots. -/
def MeetTop (W : List Int) (half base next : Int) (wv : Value) (rs : List Int) (B : Nat) (e : Ending) (w' : World) : Prop :=
  (rightB (W, half, base, next) rs = false → ∃ p, e = .returned (.tuple #[.pointer p, .agg #[.int .i64 0, .slice none 0 0, .slice none 0 0], .bool false])) ∧
  (rightB (W, half, base, next) rs = true → ∃ (hb hm hf bs nx nb B2 : Nat) (M : List Bool) (v : Value), half = hf ∧ base = bs ∧ next = nx ∧ e = .returned (.tuple #[.pointer (some ⟨hb, 0, none⟩), .agg #[.int .i64 bs, v, .slice (some ⟨nb, 0, none⟩) hf hf], .bool true]) ∧ HH B hb hm wv W hf bs nx 0 M w' ∧ Met B2 nb v bs hf (orderF (W, half, base, next) rs) w' ∧ hb < B2 ∧ hm < B2)
theorem right_parts {T : HeapD} {rs : List Int} : rightB T rs = (heapB T && rs.all (thereB (plT T).1)) := rfl

set_option maxRecDepth 100000 in
set_option maxHeartbeats 8000000 in
theorem meetTop_is (W : List Int) (a0 : Option Addr) (c0 : Nat) (half base next : Int) (rs : List Int) (v : Value) (w : World) (hrl : rs.length ≤ 1048576) (h : heapSh.rep w (· < w.heap.size) [.slice a0 W.length c0, .int .i64 half, .int .i64 base, .int .i64 next] (W, half, base, next)) (hv : intsSh.rep w (· < w.heap.size) [v] rs) :
    Calls Tryz.prog 23 #[.agg #[.slice a0 W.length c0, .int .i64 half, .int .i64 base, .int .i64 next], v] w fun e w' => MeetTop W half base next (.slice a0 W.length c0) rs (w.heap.size + 2) e w' ∧ Below w.heap.size w w' := by
  obtain ⟨ar, cr, hvv⟩ : ∃ a c, v = .slice a rs.length c := by obtain ⟨a, c, e⟩ := slice_cells hv; simp only [List.cons.injEq, and_true] at e; exact ⟨a, c, e⟩
  subst hvv
  have P0 : Hid (Piece w w.heap.size ar rs) := Piece.of hv fun b hb => hb
  obtain ⟨wa, hwa⟩ : ∃ wa, wa = (w.alloc (.cells #[.slice a0 W.length c0, .int .i64 half, .int .i64 base, .int .i64 next] 26)).alloc (.cells #[.int .i64 0, .slice none 0 0, .slice none 0 0] 45) := ⟨_, rfl⟩
  have B0 : Hid (Below w.heap.size w wa ∧ wa.heap.size = w.heap.size + 2) := by rw [hwa]; exact ⟨((Below.refl _ _).alloc (Nat.le_refl _) _).alloc (by simp) _, by simp⟩
  have X0 : Hid (wa.heap[w.heap.size]? = some (.cells #[.slice a0 W.length c0, .int .i64 half, .int .i64 base, .int .i64 next] 26) ∧ wa.heap[w.heap.size + 1]? = some (.cells #[.int .i64 0, .slice none 0 0, .slice none 0 0] 45)) := by rw [hwa]; exact two_tops w _ _
  have hcall := hold_is W a0 c0 half base next wa (heapSh.mono (heapSh.below h B0.out.1) fun b hlt => Nat.lt_of_lt_of_le hlt B0.out.1.size)
  have k0 : wa.cell? ⟨w.heap.size, 0, none⟩ = some (.slice a0 W.length c0) := blk_cellH (i := 0) X0.out.1 rfl
  have k1 : wa.cell? ⟨w.heap.size, 1, none⟩ = some (.int .i64 half) := blk_cellH (i := 1) X0.out.1 rfl
  have k2 : wa.cell? ⟨w.heap.size, 2, none⟩ = some (.int .i64 base) := blk_cellH (i := 2) X0.out.1 rfl
  have k3 : wa.cell? ⟨w.heap.size, 3, none⟩ = some (.int .i64 next) := blk_cellH (i := 3) X0.out.1 rfl
  rw [hwa] at k0 k1 k2 k3
  have HWA : Hid (wa = (w.alloc (.cells #[.slice a0 W.length c0, .int .i64 half, .int .i64 base, .int .i64 next] 26)).alloc (.cells #[.int .i64 0, .slice none 0 0, .slice none 0 0] 45)) := hwa
  rw [hwa] at hcall
  have AI : Hid (intsSh.rep w (· < w.heap.size) [.slice a0 W.length c0] W) := by
    obtain ⟨W', a', c', hf', bs', nx', eT, eC, f0, -⟩ := heap_open h
    simp only [Prod.mk.injEq] at eT
    obtain ⟨rfl, rfl, rfl, rfl⟩ := eT
    simp only [List.cons.injEq] at eC
    rw [eC.1]; exact f0
  clear h hv hwa
  have fin0 : ∀ {wx : World} {g : Nat}, wx.heap[g]? = some (.cells #[.int .i64 0, .slice none 0 0, .slice none 0 0] 45) → w.heap.size ≤ g → Below w.heap.size w wx → (((wx.setCell ⟨g, 0, none⟩ (.int .i64 0)).setCell ⟨g, 1, none⟩ (.slice none 0 0)).setCell ⟨g, 2, none⟩ (.slice none 0 0)).heap[g]? = some (.cells #[.int .i64 0, .slice none 0 0, .slice none 0 0] 45) ∧ Below w.heap.size w (((wx.setCell ⟨g, 0, none⟩ (.int .i64 0)).setCell ⟨g, 1, none⟩ (.slice none 0 0)).setCell ⟨g, 2, none⟩ (.slice none 0 0)) := fun hx hg hB => ⟨setr3 _ _ _ hx, ((hB.setCell hg _).setCell hg _).setCell hg _⟩
  have FIN0 : Hid _ := @fin0
  clear fin0
  rcases q : heapB (W, half, base, next) with _ | _
  · have HF : Hid (rightB (W, half, base, next) rs = false) := right_heap q
    go_enter Tryz.func23, Tryz.ntmps23
    go_wp2_with fail
    refine hcall.mono ?_
    rintro e w1 ⟨ho, hb⟩
    obtain ⟨pp, rfl⟩ := ho.1 q
    rw [← HWA.out] at hb
    have B1 : Hid (Below w.heap.size w w1) := B0.out.1.trans (hb.mono (by have := B0.out.2; omega))
    have R1 : Hid (w1.heap[w.heap.size + 1]? = some (.cells #[.int .i64 0, .slice none 0 0, .slice none 0 0] 45)) := (hb.block _ (by have := B0.out.2; omega)).trans X0.out.2
    clear hcall hb ho q k0 k1 k2 k3
    have x0 : w1.cell? ⟨w.heap.size + 1, 0, none⟩ = some (.int .i64 0) := blk_cellH (i := 0) R1.out rfl
    have x1 : w1.cell? ⟨w.heap.size + 1, 1, none⟩ = some (.slice none 0 0) := blk_cellH (i := 1) R1.out rfl
    have x2 : w1.cell? ⟨w.heap.size + 1, 2, none⟩ = some (.slice none 0 0) := blk_cellH (i := 2) R1.out rfl
    have xf : ∀ j, w1.frozen? ⟨w.heap.size + 1, j, none⟩ = false := fun j => blk_frzH R1.out
    go_wp2
    obtain ⟨f1, f2⟩ := FIN0.out R1.out (by omega) B1.out
    generalize ((w1.setCell ⟨w.heap.size + 1, 0, none⟩ (.int .i64 0)).setCell ⟨w.heap.size + 1, 1, none⟩ (.slice none 0 0)).setCell ⟨w.heap.size + 1, 2, none⟩ (.slice none 0 0) = wE at *
    have y0 : wE.cell? ⟨w.heap.size + 1, 0, none⟩ = some (.int .i64 0) := blk_cellH (i := 0) f1 rfl
    have y1 : wE.cell? ⟨w.heap.size + 1, 1, none⟩ = some (.slice none 0 0) := blk_cellH (i := 1) f1 rfl
    have y2 : wE.cell? ⟨w.heap.size + 1, 2, none⟩ = some (.slice none 0 0) := blk_cellH (i := 2) f1 rfl
    refine bodyPost_ret (v := .tuple #[.pointer none, .agg #[.int .i64 0, .slice none 0 0, .slice none 0 0], .bool false]) (by simp [results, Tryz.f23, go_sem, y0, y1, y2]) rfl ?_
    exact ⟨⟨fun _ => ⟨_, rfl⟩, fun hq => by rw [HF.out] at hq; cases hq⟩, f2⟩
  · have Q : Hid (heapB (W, half, base, next) = true) := q
    go_enter Tryz.func23, Tryz.ntmps23
    go_wp2_with fail
    refine hcall.mono ?_
    rintro e w1 ⟨ho, hb⟩
    obtain ⟨hb', hm, hf, bs, nx, M, e1, e2, e3, rfl, hH, hM⟩ := ho.2 q
    subst e1 e2 e3
    rw [← HWA.out] at hb hH
    rw [B0.out.2] at hH
    have B1 : Hid (Below w.heap.size w w1) := B0.out.1.trans (hb.mono (by have := B0.out.2; omega))
    have R1 : Hid (w1.heap[w.heap.size + 1]? = some (.cells #[.int .i64 0, .slice none 0 0, .slice none 0 0] 45)) := (hb.block _ (by have := B0.out.2; omega)).trans X0.out.2
    have HPT : plT (W, (hf : Int), (bs : Int), (nx : Int)) = plF W nx bs := by unfold plT; simp
    have HRT : Hid (rightB (W, (hf : Int), (bs : Int), (nx : Int)) rs = rs.all (thereB (plF W nx bs).1)) := by show _ = _; rw [right_parts, q, HPT]; rfl
    have hc2 := meet_is hH q hM ar cr rs hrl ((P0.out.on B1.out).mono (by omega))
    rw [← HRT.out] at hc2
    have HZ : Hid (hb' < w1.heap.size + 1 ∧ hm < w1.heap.size + 1) := by have := hH.lt; show _ ∧ _; omega
    clear hcall hb ho q k0 k1 k2 k3 hH hM HPT
    rcases q2 : rightB (W, (hf : Int), (bs : Int), (nx : Int)) rs with _ | _
    · rw [q2] at hc2
      have HF : Hid (rightB (W, (hf : Int), (bs : Int), (nx : Int)) rs = false) := q2
      clear q2
      go_wp2_with fail
      refine hc2.mono ?_
      rintro e w2 ⟨hmo, -, hb2⟩
      have e4 := hmo.1 rfl
      subst e4
      have B2 : Hid (Below w.heap.size w w2) := B1.out.trans (hb2.mono (by omega))
      have R2 : Hid (w2.heap[w.heap.size + 1]? = some (.cells #[.int .i64 0, .slice none 0 0, .slice none 0 0] 45)) := (hb2.block _ (by omega)).trans R1.out
      have Z2 : Hid (w.heap.size + 1 < w2.heap.size) := (Array.getElem?_eq_some_iff.1 R2.out).1
      clear hc2 hmo hb2
      go_wp2
      have T3 : (w2.alloc (.cells #[.int .i64 0, .slice none 0 0, .slice none 0 0] 45)).heap[w2.heap.size]? = some (.cells #[.int .i64 0, .slice none 0 0, .slice none 0 0] 45) := alloc_top _ _
      have R3 : (w2.alloc (.cells #[.int .i64 0, .slice none 0 0, .slice none 0 0] 45)).heap[w.heap.size + 1]? = some (.cells #[.int .i64 0, .slice none 0 0, .slice none 0 0] 45) := (Below.heap_alloc _ _ _ Z2.out).trans R2.out
      have B3 : Hid (Below w.heap.size w (w2.alloc (.cells #[.int .i64 0, .slice none 0 0, .slice none 0 0] 45)) ∧ Below w2.heap.size w2 (w2.alloc (.cells #[.int .i64 0, .slice none 0 0, .slice none 0 0] 45))) := ⟨B2.out.alloc B2.out.size _, (Below.refl _ _).alloc (Nat.le_refl _) _⟩
      generalize w2.alloc (.cells #[.int .i64 0, .slice none 0 0, .slice none 0 0] 45) = w3 at *
      have t0 : w3.cell? ⟨w2.heap.size, 0, none⟩ = some (.int .i64 0) := blk_cellH (i := 0) T3 rfl
      have t1 : w3.cell? ⟨w2.heap.size, 1, none⟩ = some (.slice none 0 0) := blk_cellH (i := 1) T3 rfl
      have t2 : w3.cell? ⟨w2.heap.size, 2, none⟩ = some (.slice none 0 0) := blk_cellH (i := 2) T3 rfl
      have x0 : w3.cell? ⟨w.heap.size + 1, 0, none⟩ = some (.int .i64 0) := blk_cellH (i := 0) R3 rfl
      have x1 : w3.cell? ⟨w.heap.size + 1, 1, none⟩ = some (.slice none 0 0) := blk_cellH (i := 1) R3 rfl
      have x2 : w3.cell? ⟨w.heap.size + 1, 2, none⟩ = some (.slice none 0 0) := blk_cellH (i := 2) R3 rfl
      have xf : ∀ j, w3.frozen? ⟨w.heap.size + 1, j, none⟩ = false := fun j => blk_frzH R3
      have S3 : Hid (w3.heap[w.heap.size + 1]? = some (.cells #[.int .i64 0, .slice none 0 0, .slice none 0 0] 45)) := R3
      clear T3 R3
      go_region_law (fail)
      all_goals
        have E5 := setr3 (.int .i64 0) (.slice none 0 0) (.slice none 0 0) S3.out
        have B5 : Below w.heap.size w (((w3.setCell ⟨w.heap.size + 1, 0, none⟩ (.int .i64 0)).setCell ⟨w.heap.size + 1, 1, none⟩ (.slice none 0 0)).setCell ⟨w.heap.size + 1, 2, none⟩ (.slice none 0 0)) := ((B3.out.1.setCell (by show _ ≤ w.heap.size + 1; omega) _).setCell (by show _ ≤ w.heap.size + 1; omega) _).setCell (by show _ ≤ w.heap.size + 1; omega) _
        have O5 : ∀ k, k ≠ w.heap.size + 1 → (((w3.setCell ⟨w.heap.size + 1, 0, none⟩ (.int .i64 0)).setCell ⟨w.heap.size + 1, 1, none⟩ (.slice none 0 0)).setCell ⟨w.heap.size + 1, 2, none⟩ (.slice none 0 0)).heap[k]? = w3.heap[k]? := fun k hk => ((Below.heap_setCell _ _ _ _ (by exact hk)).trans (Below.heap_setCell _ _ _ _ (by exact hk))).trans (Below.heap_setCell _ _ _ _ (by exact hk))
        clear t0 t1 t2 x0 x1 x2 xf
        go_wp2
        generalize ((w3.setCell ⟨w.heap.size + 1, 0, none⟩ (.int .i64 0)).setCell ⟨w.heap.size + 1, 1, none⟩ (.slice none 0 0)).setCell ⟨w.heap.size + 1, 2, none⟩ (.slice none 0 0) = wE at *
        have y0 : wE.cell? ⟨w.heap.size + 1, 0, none⟩ = some (.int .i64 0) := blk_cellH (i := 0) E5 rfl
        have y1 : wE.cell? ⟨w.heap.size + 1, 1, none⟩ = some (.slice none 0 0) := blk_cellH (i := 1) E5 rfl
        have y2 : wE.cell? ⟨w.heap.size + 1, 2, none⟩ = some (.slice none 0 0) := blk_cellH (i := 2) E5 rfl
        refine bodyPost_ret (v := .tuple #[.pointer (some ⟨hb', 0, none⟩), .agg #[.int .i64 0, .slice none 0 0, .slice none 0 0], .bool false]) (by simp [results, Tryz.f23, go_sem, y0, y1, y2]) rfl ?_
        exact ⟨⟨fun _ => ⟨_, rfl⟩, fun hq => by rw [HF.out] at hq; cases hq⟩, by first | exact B5 | exact B5.drew⟩
    · rw [q2] at hc2
      have HF : Hid (rightB (W, (hf : Int), (bs : Int), (nx : Int)) rs = true) := q2
      clear q2
      go_wp2_with fail
      refine hc2.mono ?_
      rintro e w2 ⟨hmo, hH2, hb2⟩
      obtain ⟨nb, v, e4, hN⟩ := hmo.2 rfl
      subst e4
      obtain ⟨av, cv, hvv⟩ := own_form hN.plc.1
      subst hvv
      obtain ⟨nO, hnO⟩ : ∃ nO, nO = (orderF (W, (hf : Int), (bs : Int), (nx : Int)) rs).length := ⟨_, rfl⟩
      rw [← hnO] at hN
      rw [← hnO]
      clear hnO
      have B2 : Hid (Below w.heap.size w w2) := B1.out.trans (hb2.mono (by omega))
      have R2 : Hid (w2.heap[w.heap.size + 1]? = some (.cells #[.int .i64 0, .slice none 0 0, .slice none 0 0] 45)) := (hb2.block _ (by omega)).trans R1.out
      have Z2 : Hid (w.heap.size + 1 < w2.heap.size) := (Array.getElem?_eq_some_iff.1 R2.out).1
      have HH2 : Hid (HH (w.heap.size + 2) hb' hm (.slice a0 W.length c0) W hf bs nx 0 M w2) := hH2
      have N2 : Hid (Met (w1.heap.size + 1) nb (.slice av nO cv) bs hf (orderF (W, (hf : Int), (bs : Int), (nx : Int)) rs) w2) := hN
      have Z1 : Hid (w.heap.size + 2 ≤ w1.heap.size) := by have := (Array.getElem?_eq_some_iff.1 R1.out).1; show _ ≤ _; omega
      clear hH2 hN
      clear hc2 hmo hb2
      go_wp2
      have T3 : (w2.alloc (.cells #[.int .i64 bs, .slice av nO cv, .slice (some ⟨nb, 0, none⟩) hf hf] 45)).heap[w2.heap.size]? = some (.cells #[.int .i64 bs, .slice av nO cv, .slice (some ⟨nb, 0, none⟩) hf hf] 45) := alloc_top _ _
      have R3 : (w2.alloc (.cells #[.int .i64 bs, .slice av nO cv, .slice (some ⟨nb, 0, none⟩) hf hf] 45)).heap[w.heap.size + 1]? = some (.cells #[.int .i64 0, .slice none 0 0, .slice none 0 0] 45) := (Below.heap_alloc _ _ _ Z2.out).trans R2.out
      have B3 : Hid (Below w.heap.size w (w2.alloc (.cells #[.int .i64 bs, .slice av nO cv, .slice (some ⟨nb, 0, none⟩) hf hf] 45)) ∧ Below w2.heap.size w2 (w2.alloc (.cells #[.int .i64 bs, .slice av nO cv, .slice (some ⟨nb, 0, none⟩) hf hf] 45))) := ⟨B2.out.alloc B2.out.size _, (Below.refl _ _).alloc (Nat.le_refl _) _⟩
      generalize w2.alloc (.cells #[.int .i64 bs, .slice av nO cv, .slice (some ⟨nb, 0, none⟩) hf hf] 45) = w3 at *
      have t0 : w3.cell? ⟨w2.heap.size, 0, none⟩ = some (.int .i64 bs) := blk_cellH (i := 0) T3 rfl
      have t1 : w3.cell? ⟨w2.heap.size, 1, none⟩ = some (.slice av nO cv) := blk_cellH (i := 1) T3 rfl
      have t2 : w3.cell? ⟨w2.heap.size, 2, none⟩ = some (.slice (some ⟨nb, 0, none⟩) hf hf) := blk_cellH (i := 2) T3 rfl
      have x0 : w3.cell? ⟨w.heap.size + 1, 0, none⟩ = some (.int .i64 0) := blk_cellH (i := 0) R3 rfl
      have x1 : w3.cell? ⟨w.heap.size + 1, 1, none⟩ = some (.slice none 0 0) := blk_cellH (i := 1) R3 rfl
      have x2 : w3.cell? ⟨w.heap.size + 1, 2, none⟩ = some (.slice none 0 0) := blk_cellH (i := 2) R3 rfl
      have xf : ∀ j, w3.frozen? ⟨w.heap.size + 1, j, none⟩ = false := fun j => blk_frzH R3
      have S3 : Hid (w3.heap[w.heap.size + 1]? = some (.cells #[.int .i64 0, .slice none 0 0, .slice none 0 0] 45)) := R3
      clear T3 R3
      go_region_law (fail)
      all_goals
        have E5 := setr3 (.int .i64 bs) (.slice av nO cv) (.slice (some ⟨nb, 0, none⟩) hf hf) S3.out
        have B5 : Below w.heap.size w (((w3.setCell ⟨w.heap.size + 1, 0, none⟩ (.int .i64 bs)).setCell ⟨w.heap.size + 1, 1, none⟩ (.slice av nO cv)).setCell ⟨w.heap.size + 1, 2, none⟩ (.slice (some ⟨nb, 0, none⟩) hf hf)) := ((B3.out.1.setCell (by show _ ≤ w.heap.size + 1; omega) _).setCell (by show _ ≤ w.heap.size + 1; omega) _).setCell (by show _ ≤ w.heap.size + 1; omega) _
        have O5 : ∀ k, k ≠ w.heap.size + 1 → (((w3.setCell ⟨w.heap.size + 1, 0, none⟩ (.int .i64 bs)).setCell ⟨w.heap.size + 1, 1, none⟩ (.slice av nO cv)).setCell ⟨w.heap.size + 1, 2, none⟩ (.slice (some ⟨nb, 0, none⟩) hf hf)).heap[k]? = w3.heap[k]? := fun k hk => ((Below.heap_setCell _ _ _ _ (by exact hk)).trans (Below.heap_setCell _ _ _ _ (by exact hk))).trans (Below.heap_setCell _ _ _ _ (by exact hk))
        clear t0 t1 t2 x0 x1 x2 xf
        go_wp2
        generalize ((w3.setCell ⟨w.heap.size + 1, 0, none⟩ (.int .i64 bs)).setCell ⟨w.heap.size + 1, 1, none⟩ (.slice av nO cv)).setCell ⟨w.heap.size + 1, 2, none⟩ (.slice (some ⟨nb, 0, none⟩) hf hf) = wE at *
        have y0 : wE.cell? ⟨w.heap.size + 1, 0, none⟩ = some (.int .i64 bs) := blk_cellH (i := 0) E5 rfl
        have y1 : wE.cell? ⟨w.heap.size + 1, 1, none⟩ = some (.slice av nO cv) := blk_cellH (i := 1) E5 rfl
        have y2 : wE.cell? ⟨w.heap.size + 1, 2, none⟩ = some (.slice (some ⟨nb, 0, none⟩) hf hf) := blk_cellH (i := 2) E5 rfl
        refine bodyPost_ret (v := .tuple #[.pointer (some ⟨hb', 0, none⟩), .agg #[.int .i64 bs, .slice av nO cv, .slice (some ⟨nb, 0, none⟩) hf hf], .bool true]) (by simp [results, Tryz.f23, go_sem, y0, y1, y2]) rfl ?_
        have hH3 := HH2.out.on B3.out.2
        have hN3 := N2.out.on B3.out.2
        have hz := HZ.out
        have hz1 := Z1.out
        have hlo := hH3.lo
        have hW5 : intsSh.rep wE (· < w.heap.size + 2) [.slice a0 W.length c0] W := intsSh.mono (intsSh.below AI.out B5) fun b hbb => by omega
        have hH5 : HH (w.heap.size + 2) hb' hm (.slice a0 W.length c0) W hf bs nx 0 M wE := ⟨hH3.lo, (O5 hb' (by omega)).trans hH3.blk, (O5 hm (by omega)).trans hH3.mks, hH3.len, hW5, hH3.siz⟩
        have hN5 : Met (w1.heap.size + 1) nb (.slice av nO cv) bs hf (orderF (W, (hf : Int), (bs : Int), (nx : Int)) rs) wE := hN3.other (O5 nb (by have := hN3.lo; omega)) fun q hq => O5 q (by have := (hN3.plc.lt q hq).1; omega)
        first
          | exact ⟨⟨fun hq => (by rw [HF.out] at hq; cases hq), fun _ => ⟨hb', hm, hf, bs, nx, nb, w1.heap.size + 1, M, .slice av nO cv, rfl, rfl, rfl, rfl, hH5, hN5, hz.1, hz.2⟩⟩, B5⟩
          | exact ⟨⟨fun hq => (by rw [HF.out] at hq; cases hq), fun _ => ⟨hb', hm, hf, bs, nx, nb, w1.heap.size + 1, M, .slice av nO cv, rfl, rfl, rfl, rfl, hH5.same rfl, hN5.other rfl (fun _ _ => rfl), hz.1, hz.2⟩⟩, B5.drew⟩

end Go.Proofs.YthpdkjenadngoaaGreatDoor.heap

namespace Go.Proofs.YthpdkjenadngoaaGreatDoor.heap
open Go Go.RowKit Go.Deep Go.Proofs.YthpdkjenadngoaaGreatDoor.rose Go.Proofs.YthpdkjenadngoaaGreatDoor Go.Proofs.YthpdkjenadngoaaGreatDoor.fun Go.Proofs.YthpdkjenadngoaaGreatDoor.words Go.Proofs.YthpdkjenadngoaaGreatDoor.ints
set_option linter.unusedVariables false
set_option linter.unusedSimpArgs false

/-- The words in a block of the call's own, R the room behind them. -/
structure WB (g c : Nat) (X : List Int) (R : List Value) (w : World) : Prop where
  blk : w.heap[g]? = some (.cells (X.map (Value.int .i64) ++ R).toArray 3)
  siz : X.length + R.length = c ∧ c ≤ maxLen
  rng : ∀ x ∈ X, InR x
theorem WB.of_row {w : World} {base g c : Nat} {X : List Int} (h : IRow w base (.slice (some ⟨g, 0, none⟩) X.length c) X) : ∃ R, WB g c X R w := by
  rcases h.1.2 with ⟨h0, -⟩ | ⟨g', cap, cur, e, h2, h3, h4, h5, h6, h7⟩
  · cases h0
  · cases e
    refine ⟨cur.toList.drop X.length, ?_, ⟨by simp [h6]; omega, h5⟩, h.2⟩
    rw [h3, ← h7, Nat.mul_one, List.take_append_drop]
theorem WB.row {w : World} {base g c : Nat} {X : List Int} {R : List Value} (h : WB g c X R w) (hb : base ≤ g) : IRow w base (.slice (some ⟨g, 0, none⟩) X.length c) X := by
  have hs := h.siz
  refine ⟨⟨by simp, Or.inr ⟨g, c, _, rfl, hb, h.blk, by omega, hs.2, by simp; omega, ?_⟩⟩, h.rng⟩
  simp
theorem WB.rep {w : World} {g c : Nat} {X : List Int} {R : List Value} (h : WB g c X R w) {S : Nat → Prop} (hS : S g) : intsSh.rep w S [.slice (some ⟨g, 0, none⟩) X.length c] X := by
  have hr := (h.row (Nat.le_refl g)).sp
  have hs := h.siz
  refine intsp_rep (show intsSp.rep w S _ _ from ?_)
  refine ⟨some ⟨g, 0, none⟩, c, fun i => [.int .i64 (X.getD i 0)], fun _ _ => False, rfl, by omega, hs.2, (fun h => by cases h), fun h0 => ⟨g, 0, _, _, rfl, hS, h.blk, fun _ _ h => h, fun i hi q u hq => ?_⟩, fun i hi b h => h.elim, fun i j hi hj hne b h => h.elim, fun i hi => ⟨by simp [List.getD, hi], h.rng _ (List.getElem_mem hi)⟩⟩
  match q, hq with
  | 0, hq =>
    simp at hq; subst hq
    have : w.cell? ⟨g, i, none⟩ = some (.int .i64 X[i]) := by simp [World.cell?, h.blk, List.getElem?_append_left, hi]
    simpa [Sh.int, List.getD, hi] using this
  | _ + 1, hq => simp at hq
theorem WB.on {w w' : World} {g c : Nat} {X : List Int} {R : List Value} (h : WB g c X R w) (hb : Below w.heap.size w w') : WB g c X R w' := ⟨(hb.block g (Array.getElem?_eq_some_iff.1 h.blk).1).trans h.blk, h.siz, h.rng⟩
theorem WB.same {w w' : World} {g c : Nat} {X : List Int} {R : List Value} (h : WB g c X R w) (e : w'.heap[g]? = w.heap[g]?) : WB g c X R w' := ⟨e.trans h.blk, h.siz, h.rng⟩
theorem WB.set {w : World} {g c : Nat} {X : List Int} {R : List Value} (h : WB g c X R w) {j : Nat} (hj : j < X.length) {x : Int} (hx : InR x) : WB g c (X.set j x) R (w.setCell ⟨g, j, none⟩ (.int .i64 x)) := by
  have hs := h.siz
  refine ⟨?_, by rw [List.length_set]; exact hs, fun y hy => ?_⟩
  · simp [World.setCell, Array.getElem?_modify, h.blk, List.set_append_left, hj, List.map_set]
  · rcases List.mem_or_eq_of_mem_set hy with q | rfl
    · exact h.rng y q
    · exact hx
theorem putW_splice {xs : List Int} : ∀ {X : List Int} {p : Nat}, p + xs.length ≤ X.length → putW X p xs = splice X p xs := by
  induction xs with
  | nil => intro X p h; simp [putW, splice]
  | cons x xs ih =>
    intro X p h
    rw [List.length_cons] at h
    rw [putW, ih (by rw [List.length_set]; omega)]
    have e1 : (X.set p x).take (p + 1) = X.take p ++ [x] := by
      rw [List.take_succ_eq_append_getElem (by rw [List.length_set]; omega), List.take_set_of_le (Nat.le_refl _)]
      simp
    have e2 : (X.set p x).drop (p + 1 + xs.length) = X.drop (p + 1 + xs.length) := List.drop_set_of_lt (by omega)
    unfold Go.splice
    rw [e1, e2, List.length_cons, show p + (xs.length + 1) = p + 1 + xs.length by omega]
    simp
theorem splice_more {α : Type} {A R k : List α} {p : Nat} (h : p + k.length ≤ A.length) : splice (A ++ R) p k = splice A p k ++ R := by
  unfold splice
  rw [List.take_append_of_le_length (by omega), List.drop_append_of_le_length (by omega)]
  simp
theorem splice_map {α β : Type} (f : α → β) (A k : List α) (p : Nat) : splice (A.map f) p (k.map f) = (splice A p k).map f := by
  unfold splice
  simp [List.map_take, List.map_drop]
/-- Words are written into it. -/
theorem WB.splice {w : World} {g c p : Nat} {X kids : List Int} {R : List Value} (h : WB g c X R w) (hp : p + kids.length ≤ X.length) (hk : ∀ x ∈ kids, InR x) {w' : World} (hb : w'.heap[g]? = some (.cells (Go.splice (X.map (Value.int .i64) ++ R) p (kids.map (Value.int .i64))).toArray 3 (0, 0))) : WB g c (putW X p kids) R w' := by
  refine ⟨?_, by rw [putW_length]; exact h.siz, fun y hy => ?_⟩
  · rw [hb, splice_more (by simpa using hp), splice_map, putW_splice hp]
  · rcases putW_mem hy with q | q
    · exact h.rng y q
    · exact hk y q
theorem HH.words {B hb hm : Nat} {wv : Value} {W W' : List Int} {half base next : Nat} {lk : Int} {M : List Bool} {w w' : World} (h : HH B hb hm wv W half base next lk M w) (e1 : w'.heap[hb]? = w.heap[hb]?) (e2 : w'.heap[hm]? = w.heap[hm]?) (hl : W'.length = W.length) (hr : intsSh.rep w' (· < B) [wv] W') : HH B hb hm wv W' half base next lk M w' :=
  ⟨h.lo, e1.trans h.blk, e2.trans h.mks, h.len, hr, by rw [hl]; exact h.siz⟩
theorem HH.nextw {B hb hm : Nat} {wv : Value} {W : List Int} {half base next : Nat} {lk : Int} {M : List Bool} {w : World} (h : HH B hb hm wv W half base next lk M w) (n : Nat) (h1 : base ≤ n ∧ n ≤ base + half) : HH B hb hm wv W half base n lk M (w.setCell ⟨hb, 5, none⟩ (.int .i64 n)) := by
  have hlo := h.lo
  have hs := h.siz
  refine ⟨h.lo, by simp [World.setCell, Array.getElem?_modify, h.blk], (Below.heap_setCell _ _ _ _ (by show hm ≠ hb; omega)).trans h.mks, h.len, intsSh.on h.wds fun b hb' => Below.heap_setCell _ _ _ _ (by show b ≠ hb; omega), ⟨hs.1, hs.2.1, hs.2.2.1, hs.2.2.2.1, h1.1, h1.2⟩⟩
theorem sizeP_int : (Tryz.prog.info? 3).map (·.size) = some 1 := by kernel_rfl
/-- A copy into a row of one's own: all else is as it was. -/
theorem copy_exact {P : Program} {w : World} {ops : Array Oper} {rest : List Oper} {o : Oper} {a : Act} {Q : Exit → Act → World → Prop} (hgd : o.guard = none) (d s : Operand) (dT sT : TypeId)
    (ho : o.op = .call { callee := .builtin .copy, args := #[d, s], argTypes := #[dT, sT] }) (elem : TypeId) (hu : P.underlying dT = some (.slice elem)) (hsz : (P.info? elem).map (·.size) = some 1)
    (dp sp : Option Addr) (dLen dCap sLen sCap : Nat) (hd : a.eval d = .slice dp dLen dCap) (hs : a.eval s = .slice sp sLen sCap)
    (g off : Nat) (cur : List Value) (t : TypeId) (hg : w.heap[g]? = some (.cells cur.toArray t (0, 0))) (cs : List Value) (hn : cs.length = Nat.min sLen dLen)
    (hpos : 0 < cs.length → dp = some ⟨g, off, none⟩ ∧ ∃ ad, sp = some ad ∧ ∀ j v, cs[j]? = some v → w.cell? (ad.add j) = some v)
    (hfit : off + cs.length ≤ cur.length) (h1 : ∀ v ∈ cs, v.oneCell' = true)
    (h : ∀ w', Hid (w'.heap[g]? = some (.cells (Go.splice cur off cs).toArray t (0, 0))) → Hid (∀ k, k ≠ g → w'.heap[k]? = w.heap[k]?) → Hid (Below g w w') → wpList P ops Q rest (a.put o.dst (goInt cs.length)) w') :
    wpList P ops Q (o :: rest) a w := by
  by_cases h0 : cs.length = 0
  · obtain rfl : cs = [] := List.eq_nil_of_length_eq_zero h0
    refine wpList_copy_nothing hgd d s dT sT ho elem hu hsz dp sp dLen dCap sLen sCap hd hs (by simpa using hn.symm) ?_
    exact h w (show _ = _ by simpa [Go.splice] using hg) (fun _ _ => rfl) (Below.refl _ _)
  · obtain ⟨rfl, ad, rfl, hsrc⟩ := hpos (by omega)
    refine wpList_copy_own hgd d s dT sT ho elem hu hsz g off dLen dCap ad sLen sCap hd hs cur.toArray t hg cs hn hsrc (by simpa using hfit) h1 ?_
    exact h _ (show _ = _ by simpa [Go.splice] using setRow_heap w g _ _ t _ hg) (fun k hk => setRow_other w g k _ hk) (below_setRow (Below.refl _ _) (Nat.le_refl _) _)

end Go.Proofs.YthpdkjenadngoaaGreatDoor.heap

namespace Go.Proofs.YthpdkjenadngoaaGreatDoor.heap
open Go Go.RowKit Go.Deep Go.Proofs.YthpdkjenadngoaaGreatDoor.rose Go.Proofs.YthpdkjenadngoaaGreatDoor Go.Proofs.YthpdkjenadngoaaGreatDoor.fun Go.Proofs.YthpdkjenadngoaaGreatDoor.words Go.Proofs.YthpdkjenadngoaaGreatDoor.ints
set_option linter.unusedVariables false
set_option linter.unusedSimpArgs false

/-- A block that holds words and nothing else. -/
def OW (g : Nat) (X : List Int) (w : World) : Prop := w.heap[g]? = some (.cells (X.map (Value.int .i64)).toArray 3) ∧ ∀ x ∈ X, InR x
theorem OW.lt {g : Nat} {X : List Int} {w : World} (h : OW g X w) : g < w.heap.size := (Array.getElem?_eq_some_iff.1 h.1).1
theorem OW.on {g : Nat} {X : List Int} {w w' : World} (h : OW g X w) (e : w'.heap[g]? = w.heap[g]?) : OW g X w' := ⟨e.trans h.1, h.2⟩
theorem OW.cell {g : Nat} {X : List Int} {w : World} (h : OW g X w) {j : Nat} (hj : j < X.length) : w.cell? ⟨g, j, none⟩ = some (.int .i64 X[j]) := by
  simp [World.cell?, h.1, hj]
theorem OW.frz {g : Nat} {X : List Int} {w : World} (h : OW g X w) (j : Nat) : w.frozen? ⟨g, j, none⟩ = false := by simp [World.frozen?, h.1]
theorem OW.set {g : Nat} {X : List Int} {w : World} (h : OW g X w) (j : Nat) {x : Int} (hx : InR x) : OW g (X.set j x) (w.setCell ⟨g, j, none⟩ (.int .i64 x)) := by
  refine ⟨?_, fun y hy => ?_⟩
  · simp [World.setCell, Array.getElem?_modify, h.1, List.map_set]
  · rcases List.mem_or_eq_of_mem_set hy with q | rfl
    · exact h.2 y q
    · exact hx
theorem OW.wb {g : Nat} {X : List Int} {w : World} (h : OW g X w) (hl : X.length ≤ maxLen) : WB g X.length X [] w := ⟨by rw [List.append_nil]; exact h.1, ⟨by simp, hl⟩, h.2⟩

theorem info_intC : (Tryz.prog.info? 3).map (fun i => (i.zero, i.size, i.bytes)) = some (some (.int .i64 0), 1, 8) := by kernel_rfl
theorem make_words (n : Nat) (h : n ≤ 1048576) (w : World) : (Instr.makeSlice 24 (.int .i64 (n : Int)) (.int .i64 (n : Int))).run Tryz.prog w = .ok (.slice (some ⟨w.heap.size, 0, none⟩) n n)
    (w.alloc (.cells (List.replicate n (Value.int .i64 0)).toArray 3)) := by
  obtain ⟨i, hi, hzz⟩ := Option.map_eq_some_iff.1 info_intC
  simp only [Prod.mk.injEq] at hzz
  obtain ⟨hz, hs, hb⟩ := hzz
  have := run_make (P := Tryz.prog) w 24 3 i _ Tryz.underlying24 hi hz .i64 .i64 n n (by omega) (by omega) (by rw [hb]; omega) (by omega)
  have e : madeCells #[Value.int .i64 0] (n * 1) = (List.replicate n (Value.int .i64 0)).toArray := by
    apply Array.ext
    · simp [madeCells]
    · intro j h1 h2; simp [madeCells, Nat.mod_one]
  rw [← e]
  simpa [hs, Value.cells] using this
theorem splice_all {α : Type} {A k : List α} (h : k.length = A.length) : Go.splice A 0 k = k := by
  unfold Go.splice
  rw [List.take_zero, Nat.zero_add, List.drop_eq_nil_of_le (by omega)]
  simp

set_option maxRecDepth 100000 in
set_option maxHeartbeats 4000000 in
theorem copied_is {S : Nat → Prop} (xs : List Int) (a : Option Addr) (c : Nat) (w : World) (h : intsSh.rep w S [.slice a xs.length c] xs) (hS : ∀ b, S b → b < w.heap.size) (hl : xs.length ≤ 1048576) :
    Calls Tryz.prog 22 #[.slice a xs.length c] w fun e w' => e = .returned (.slice (some ⟨w.heap.size, 0, none⟩) xs.length xs.length) ∧ OW w.heap.size xs w' ∧ Below w.heap.size w w' := by
  have hmk := make_words xs.length hl w
  obtain ⟨a0, c0, e, -, -, hat⟩ := ints_open h
  cases e
  have RNG : Hid (∀ y ∈ xs, InR y) := fun y hy => by
    obtain ⟨j, hj, rfl⟩ := List.getElem_of_mem hy
    obtain ⟨_, _, _, _, _, r1, r2⟩ := hat j hj
    exact ⟨r1, r2⟩
  have B0 : Hid (Below w.heap.size w (w.alloc (.cells (List.replicate xs.length (Value.int .i64 0)).toArray 3))) := (Below.refl _ _).alloc (Nat.le_refl _) _
  have HSRC : Hid (0 < (xs.map (Value.int .i64)).length → ∃ ad, a = some ad ∧ ∀ j v, (xs.map (Value.int .i64))[j]? = some v → (w.alloc (.cells (List.replicate xs.length (Value.int .i64 0)).toArray 3)).cell? (ad.add j) = some v) := fun h0 => by
    rw [List.length_map] at h0
    obtain ⟨b, o, rfl, -⟩ := hat 0 h0
    refine ⟨_, rfl, fun j v hj => ?_⟩
    rw [List.getElem?_map] at hj
    obtain ⟨y, hy, rfl⟩ := Option.map_eq_some_iff.1 hj
    obtain ⟨hq, rfl⟩ := List.getElem?_eq_some_iff.1 hy
    obtain ⟨b', o', e, hS', hc, -, -⟩ := hat j hq
    cases e
    rw [add_plain]
    exact (B0.out.cell (p := ⟨b, o + j, none⟩) (hS b hS')).trans hc
  have T0 : Hid ((w.alloc (.cells (List.replicate xs.length (Value.int .i64 0)).toArray 3)).heap[w.heap.size]? = some (.cells (List.replicate xs.length (Value.int .i64 0)).toArray 3 (0, 0))) := alloc_top _ _
  clear h hat hS
  go_enter Tryz.func22, Tryz.ntmps22
  go_wp2_with (refine copy_exact rfl (.tmp 7) (.tmp 8) 24 24 rfl 3 Tryz.underlying24 sizeP_int _ _ _ _ _ _ (by rfl) (by rfl) w.heap.size 0 (List.replicate xs.length (Value.int .i64 0)) 3 T0.out (xs.map (Value.int .i64)) (by rw [List.length_map]; exact (Nat.min_self _).symm) (fun h0 => ⟨rfl, HSRC.out h0⟩) (by simp) (fun v hv => by obtain ⟨y, _, rfl⟩ := List.mem_map.1 hv; rfl) ?_; intro w8 HB8 HO8 HE8)
  rw [splice_all (by simp)] at HB8
  have R8 : Hid (OW w.heap.size xs w8 ∧ Below w.heap.size w w8) := ⟨⟨HB8.out, RNG.out⟩, B0.out.trans HE8.out⟩
  clear HB8 HO8 HE8
  go_wp2
  go_ret
  exact ⟨rfl, R8.out.1, R8.out.2⟩

end Go.Proofs.YthpdkjenadngoaaGreatDoor.heap
