/-
  The program meets the blocks of a heap that are come to from roots (meet): at every heap and all roots.
  The program's VmOk, at every machine; nothing that was there is turned. Condition: the program's table of names of ops is as its text lays it.
-/
import Derived.Test.YtjibmpebebephaaGreatDoorC1
import Derived.Test.YtjibmpebebephaaGreatDoorC2
import Derived.Test.YtjibmpebebephaaGreatDoorC3
import Derived.Test.YtjibmpebebephaaGreatDoorC4
import Derived.Test.YtjibmpebebephaaGreatDoorC5
import Derived.Test.YtjibmpebebephaaGreatDoorC6
import Derived.Test.YtjibmpebebephaaGreatDoorC7
import Derived.Test.YtjibmpebebephaaGreatDoorC8
import Derived.Test.YtjibmpebebephaaGreatDoorC9
import Derived.Test.YtjibmpebebephaaGreatDoorC10
import Derived.Test.YtjibmpebebephaaGreatDoorC11
import Derived.Test.YtjibmpebebephaaGreatDoorC12
import Derived.Test.YtjibmpebebephaaGreatDoorC13
import Derived.Test.YtjibmpebebephaaGreatDoorC14
import Derived.Test.YtjibmpebebephaaGreatDoorC15
import Derived.Test.YtjibmpebebephaaGreatDoorC16
import Derived.Test.YtjibmpebebephaaGreatDoorC17
import Derived.Test.YtjibmpebebephaaGreatDoorC18
import Derived.Test.YtjibmpebebephaaGreatDoorC19
import Derived.Test.YtjibmpebebephaaGreatDoorC20
import Derived.Test.YtjibmpebebephaaGreatDoorC21
import Derived.Test.YtjibmpebebephaaGreatDoorC22
import Derived.Test.YtjibmpebebephaaGreatDoorC23
import Derived.Test.YtjibmpebebephaaGreatDoorC24
import Derived.Test.YtjibmpebebephaaGreatDoorC25
import Derived.Test.YtjibmpebebephaaGreatDoorC26
import Derived.Test.YtjibmpebebephaaGreatDoorC27
import Derived.Test.YtjibmpebebephaaGreatDoorC28
import Derived.Test.YtjibmpebebephaaGreatDoorC29
namespace Go.Proofs.YtjibmpebebephaaGreatDoor.heap
open Go Go.RowKit Go.Deep Go.Proofs.YtjibmpebebephaaGreatDoor.rose Go.Proofs.YtjibmpebebephaaGreatDoor Go.Proofs.YtjibmpebebephaaGreatDoor.fun Go.Proofs.YtjibmpebebephaaGreatDoor.words Go.Proofs.YtjibmpebebephaaGreatDoor.ints
set_option linter.unusedVariables false
set_option linter.unusedSimpArgs false

/-- What meet answers of a heap and roots. -/
def MeetTop (W : List Int) (half base next : Int) (wv : Value) (rs : List Int) (B : Nat) (e : Ending) (w' : World) : Prop :=
  (rightB (W, half, base, next) rs = false → ∃ p, e = .returned (.tuple #[.pointer p, .agg #[.int .i64 0, .slice none 0 0, .slice none 0 0], .bool false])) ∧
  (rightB (W, half, base, next) rs = true → ∃ (hb hm hf bs nx nb B2 : Nat) (M : List Bool) (v : Value), half = hf ∧ base = bs ∧ next = nx ∧ e = .returned (.tuple #[.pointer (some ⟨hb, 0, none⟩), .agg #[.int .i64 bs, v, .slice (some ⟨nb, 0, none⟩) hf hf], .bool true]) ∧ HH B hb hm wv W hf bs nx 0 M w' ∧ Met B2 nb v bs hf (orderF (W, half, base, next) rs) w' ∧ hb < B2 ∧ hm < B2)
theorem right_parts {T : HeapD} {rs : List Int} : rightB T rs = (heapB T && rs.all (thereB (plT T).1)) := rfl

set_option maxRecDepth 100000 in
set_option maxHeartbeats 8000000 in
theorem meetTop_is (W : List Int) (a0 : Option Addr) (c0 : Nat) (half base next : Int) (rs : List Int) (v : Value) (w : World) (hrl : rs.length ≤ 1048576) (h : heapSh.rep w (· < w.heap.size) [.slice a0 W.length c0, .int .i64 half, .int .i64 base, .int .i64 next] (W, half, base, next)) (hv : intsSh.rep w (· < w.heap.size) [v] rs) :
    Calls Tryz.prog 34 #[.agg #[.slice a0 W.length c0, .int .i64 half, .int .i64 base, .int .i64 next], v] w fun e w' => MeetTop W half base next (.slice a0 W.length c0) rs (w.heap.size + 2) e w' ∧ Below w.heap.size w w' := by
  obtain ⟨ar, cr, hvv⟩ : ∃ a c, v = .slice a rs.length c := by obtain ⟨a, c, e⟩ := slice_cells hv; simp only [List.cons.injEq, and_true] at e; exact ⟨a, c, e⟩
  subst hvv
  have P0 : Hid (Piece w w.heap.size ar rs) := Piece.of hv fun b hb => hb
  obtain ⟨wa, hwa⟩ : ∃ wa, wa = (w.alloc (.cells #[.slice a0 W.length c0, .int .i64 half, .int .i64 base, .int .i64 next] 32)).alloc (.cells #[.int .i64 0, .slice none 0 0, .slice none 0 0] 69) := ⟨_, rfl⟩
  have B0 : Hid (Below w.heap.size w wa ∧ wa.heap.size = w.heap.size + 2) := by rw [hwa]; exact ⟨((Below.refl _ _).alloc (Nat.le_refl _) _).alloc (by simp) _, by simp⟩
  have X0 : Hid (wa.heap[w.heap.size]? = some (.cells #[.slice a0 W.length c0, .int .i64 half, .int .i64 base, .int .i64 next] 32) ∧ wa.heap[w.heap.size + 1]? = some (.cells #[.int .i64 0, .slice none 0 0, .slice none 0 0] 69)) := by rw [hwa]; exact two_tops w _ _
  have hcall := hold_is W a0 c0 half base next wa (heapSh.mono (heapSh.below h B0.out.1) fun b hlt => Nat.lt_of_lt_of_le hlt B0.out.1.size)
  have k0 : wa.cell? ⟨w.heap.size, 0, none⟩ = some (.slice a0 W.length c0) := blk_cellH (i := 0) X0.out.1 rfl
  have k1 : wa.cell? ⟨w.heap.size, 1, none⟩ = some (.int .i64 half) := blk_cellH (i := 1) X0.out.1 rfl
  have k2 : wa.cell? ⟨w.heap.size, 2, none⟩ = some (.int .i64 base) := blk_cellH (i := 2) X0.out.1 rfl
  have k3 : wa.cell? ⟨w.heap.size, 3, none⟩ = some (.int .i64 next) := blk_cellH (i := 3) X0.out.1 rfl
  rw [hwa] at k0 k1 k2 k3
  have HWA : Hid (wa = (w.alloc (.cells #[.slice a0 W.length c0, .int .i64 half, .int .i64 base, .int .i64 next] 32)).alloc (.cells #[.int .i64 0, .slice none 0 0, .slice none 0 0] 69)) := hwa
  rw [hwa] at hcall
  have AI : Hid (intsSh.rep w (· < w.heap.size) [.slice a0 W.length c0] W) := by
    obtain ⟨W', a', c', hf', bs', nx', eT, eC, f0, -⟩ := heap_open h
    simp only [Prod.mk.injEq] at eT
    obtain ⟨rfl, rfl, rfl, rfl⟩ := eT
    simp only [List.cons.injEq] at eC
    rw [eC.1]; exact f0
  clear h hv hwa
  have fin0 : ∀ {wx : World} {g : Nat}, wx.heap[g]? = some (.cells #[.int .i64 0, .slice none 0 0, .slice none 0 0] 69) → w.heap.size ≤ g → Below w.heap.size w wx → (((wx.setCell ⟨g, 0, none⟩ (.int .i64 0)).setCell ⟨g, 1, none⟩ (.slice none 0 0)).setCell ⟨g, 2, none⟩ (.slice none 0 0)).heap[g]? = some (.cells #[.int .i64 0, .slice none 0 0, .slice none 0 0] 69) ∧ Below w.heap.size w (((wx.setCell ⟨g, 0, none⟩ (.int .i64 0)).setCell ⟨g, 1, none⟩ (.slice none 0 0)).setCell ⟨g, 2, none⟩ (.slice none 0 0)) := fun hx hg hB => ⟨setr3 _ _ _ hx, ((hB.setCell hg _).setCell hg _).setCell hg _⟩
  have FIN0 : Hid _ := @fin0
  clear fin0
  rcases q : heapB (W, half, base, next) with _ | _
  · have HF : Hid (rightB (W, half, base, next) rs = false) := right_heap q
    go_enter Tryz.func34, Tryz.ntmps34
    go_wp2_with fail
    refine hcall.mono ?_
    rintro e w1 ⟨ho, hb⟩
    obtain ⟨pp, rfl⟩ := ho.1 q
    rw [← HWA.out] at hb
    have B1 : Hid (Below w.heap.size w w1) := B0.out.1.trans (hb.mono (by have := B0.out.2; omega))
    have R1 : Hid (w1.heap[w.heap.size + 1]? = some (.cells #[.int .i64 0, .slice none 0 0, .slice none 0 0] 69)) := (hb.block _ (by have := B0.out.2; omega)).trans X0.out.2
    clear hcall hb ho q k0 k1 k2 k3
    have x0 : w1.cell? ⟨w.heap.size + 1, 0, none⟩ = some (.int .i64 0) := blk_cellH (i := 0) R1.out rfl
    have x1 : w1.cell? ⟨w.heap.size + 1, 1, none⟩ = some (.slice none 0 0) := blk_cellH (i := 1) R1.out rfl
    have x2 : w1.cell? ⟨w.heap.size + 1, 2, none⟩ = some (.slice none 0 0) := blk_cellH (i := 2) R1.out rfl
    have xf : ∀ j, w1.frozen? ⟨w.heap.size + 1, j, none⟩ = false := fun j => blk_frzH R1.out
    go_wp2
    obtain ⟨f1, f2⟩ := FIN0.out R1.out (by omega) B1.out
    generalize ((w1.setCell ⟨w.heap.size + 1, 0, none⟩ (.int .i64 0)).setCell ⟨w.heap.size + 1, 1, none⟩ (.slice none 0 0)).setCell ⟨w.heap.size + 1, 2, none⟩ (.slice none 0 0) = wE at *
    have y0 : wE.cell? ⟨w.heap.size + 1, 0, none⟩ = some (.int .i64 0) := blk_cellH (i := 0) f1 rfl
    have y1 : wE.cell? ⟨w.heap.size + 1, 1, none⟩ = some (.slice none 0 0) := blk_cellH (i := 1) f1 rfl
    have y2 : wE.cell? ⟨w.heap.size + 1, 2, none⟩ = some (.slice none 0 0) := blk_cellH (i := 2) f1 rfl
    refine bodyPost_ret (v := .tuple #[.pointer none, .agg #[.int .i64 0, .slice none 0 0, .slice none 0 0], .bool false]) (by simp [results, Tryz.f34, go_sem, y0, y1, y2]) rfl ?_
    exact ⟨⟨fun _ => ⟨_, rfl⟩, fun hq => by rw [HF.out] at hq; cases hq⟩, f2⟩
  · have Q : Hid (heapB (W, half, base, next) = true) := q
    go_enter Tryz.func34, Tryz.ntmps34
    go_wp2_with fail
    refine hcall.mono ?_
    rintro e w1 ⟨ho, hb⟩
    obtain ⟨hb', hm, hf, bs, nx, M, e1, e2, e3, rfl, hH, hM⟩ := ho.2 q
    subst e1 e2 e3
    rw [← HWA.out] at hb hH
    rw [B0.out.2] at hH
    have B1 : Hid (Below w.heap.size w w1) := B0.out.1.trans (hb.mono (by have := B0.out.2; omega))
    have R1 : Hid (w1.heap[w.heap.size + 1]? = some (.cells #[.int .i64 0, .slice none 0 0, .slice none 0 0] 69)) := (hb.block _ (by have := B0.out.2; omega)).trans X0.out.2
    have HPT : plT (W, (hf : Int), (bs : Int), (nx : Int)) = plF W nx bs := by unfold plT; simp
    have HRT : Hid (rightB (W, (hf : Int), (bs : Int), (nx : Int)) rs = rs.all (thereB (plF W nx bs).1)) := by show _ = _; rw [right_parts, q, HPT]; rfl
    have hc2 := meet_is hH q hM ar cr rs hrl ((P0.out.on B1.out).mono (by omega))
    rw [← HRT.out] at hc2
    have HZ : Hid (hb' < w1.heap.size + 1 ∧ hm < w1.heap.size + 1) := by have := hH.lt; show _ ∧ _; omega
    clear hcall hb ho q k0 k1 k2 k3 hH hM HPT
    rcases q2 : rightB (W, (hf : Int), (bs : Int), (nx : Int)) rs with _ | _
    · rw [q2] at hc2
      have HF : Hid (rightB (W, (hf : Int), (bs : Int), (nx : Int)) rs = false) := q2
      clear q2
      go_wp2_with fail
      refine hc2.mono ?_
      rintro e w2 ⟨hmo, -, hb2⟩
      have e4 := hmo.1 rfl
      subst e4
      have B2 : Hid (Below w.heap.size w w2) := B1.out.trans (hb2.mono (by omega))
      have R2 : Hid (w2.heap[w.heap.size + 1]? = some (.cells #[.int .i64 0, .slice none 0 0, .slice none 0 0] 69)) := (hb2.block _ (by omega)).trans R1.out
      have Z2 : Hid (w.heap.size + 1 < w2.heap.size) := (Array.getElem?_eq_some_iff.1 R2.out).1
      clear hc2 hmo hb2
      go_wp2
      have T3 : (w2.alloc (.cells #[.int .i64 0, .slice none 0 0, .slice none 0 0] 69)).heap[w2.heap.size]? = some (.cells #[.int .i64 0, .slice none 0 0, .slice none 0 0] 69) := alloc_top _ _
      have R3 : (w2.alloc (.cells #[.int .i64 0, .slice none 0 0, .slice none 0 0] 69)).heap[w.heap.size + 1]? = some (.cells #[.int .i64 0, .slice none 0 0, .slice none 0 0] 69) := (Below.heap_alloc _ _ _ Z2.out).trans R2.out
      have B3 : Hid (Below w.heap.size w (w2.alloc (.cells #[.int .i64 0, .slice none 0 0, .slice none 0 0] 69)) ∧ Below w2.heap.size w2 (w2.alloc (.cells #[.int .i64 0, .slice none 0 0, .slice none 0 0] 69))) := ⟨B2.out.alloc B2.out.size _, (Below.refl _ _).alloc (Nat.le_refl _) _⟩
      generalize w2.alloc (.cells #[.int .i64 0, .slice none 0 0, .slice none 0 0] 69) = w3 at *
      have t0 : w3.cell? ⟨w2.heap.size, 0, none⟩ = some (.int .i64 0) := blk_cellH (i := 0) T3 rfl
      have t1 : w3.cell? ⟨w2.heap.size, 1, none⟩ = some (.slice none 0 0) := blk_cellH (i := 1) T3 rfl
      have t2 : w3.cell? ⟨w2.heap.size, 2, none⟩ = some (.slice none 0 0) := blk_cellH (i := 2) T3 rfl
      have x0 : w3.cell? ⟨w.heap.size + 1, 0, none⟩ = some (.int .i64 0) := blk_cellH (i := 0) R3 rfl
      have x1 : w3.cell? ⟨w.heap.size + 1, 1, none⟩ = some (.slice none 0 0) := blk_cellH (i := 1) R3 rfl
      have x2 : w3.cell? ⟨w.heap.size + 1, 2, none⟩ = some (.slice none 0 0) := blk_cellH (i := 2) R3 rfl
      have xf : ∀ j, w3.frozen? ⟨w.heap.size + 1, j, none⟩ = false := fun j => blk_frzH R3
      have S3 : Hid (w3.heap[w.heap.size + 1]? = some (.cells #[.int .i64 0, .slice none 0 0, .slice none 0 0] 69)) := R3
      clear T3 R3
      go_region_law (fail)
      all_goals
        have E5 := setr3 (.int .i64 0) (.slice none 0 0) (.slice none 0 0) S3.out
        have B5 : Below w.heap.size w (((w3.setCell ⟨w.heap.size + 1, 0, none⟩ (.int .i64 0)).setCell ⟨w.heap.size + 1, 1, none⟩ (.slice none 0 0)).setCell ⟨w.heap.size + 1, 2, none⟩ (.slice none 0 0)) := ((B3.out.1.setCell (by show _ ≤ w.heap.size + 1; omega) _).setCell (by show _ ≤ w.heap.size + 1; omega) _).setCell (by show _ ≤ w.heap.size + 1; omega) _
        have O5 : ∀ k, k ≠ w.heap.size + 1 → (((w3.setCell ⟨w.heap.size + 1, 0, none⟩ (.int .i64 0)).setCell ⟨w.heap.size + 1, 1, none⟩ (.slice none 0 0)).setCell ⟨w.heap.size + 1, 2, none⟩ (.slice none 0 0)).heap[k]? = w3.heap[k]? := fun k hk => ((Below.heap_setCell _ _ _ _ (by exact hk)).trans (Below.heap_setCell _ _ _ _ (by exact hk))).trans (Below.heap_setCell _ _ _ _ (by exact hk))
        clear t0 t1 t2 x0 x1 x2 xf
        go_wp2
        generalize ((w3.setCell ⟨w.heap.size + 1, 0, none⟩ (.int .i64 0)).setCell ⟨w.heap.size + 1, 1, none⟩ (.slice none 0 0)).setCell ⟨w.heap.size + 1, 2, none⟩ (.slice none 0 0) = wE at *
        have y0 : wE.cell? ⟨w.heap.size + 1, 0, none⟩ = some (.int .i64 0) := blk_cellH (i := 0) E5 rfl
        have y1 : wE.cell? ⟨w.heap.size + 1, 1, none⟩ = some (.slice none 0 0) := blk_cellH (i := 1) E5 rfl
        have y2 : wE.cell? ⟨w.heap.size + 1, 2, none⟩ = some (.slice none 0 0) := blk_cellH (i := 2) E5 rfl
        refine bodyPost_ret (v := .tuple #[.pointer (some ⟨hb', 0, none⟩), .agg #[.int .i64 0, .slice none 0 0, .slice none 0 0], .bool false]) (by simp [results, Tryz.f34, go_sem, y0, y1, y2]) rfl ?_
        exact ⟨⟨fun _ => ⟨_, rfl⟩, fun hq => by rw [HF.out] at hq; cases hq⟩, by first | exact B5 | exact B5.drew⟩
    · rw [q2] at hc2
      have HF : Hid (rightB (W, (hf : Int), (bs : Int), (nx : Int)) rs = true) := q2
      clear q2
      go_wp2_with fail
      refine hc2.mono ?_
      rintro e w2 ⟨hmo, hH2, hb2⟩
      obtain ⟨nb, v, e4, hN⟩ := hmo.2 rfl
      subst e4
      obtain ⟨av, cv, hvv⟩ := own_form hN.plc.1
      subst hvv
      obtain ⟨nO, hnO⟩ : ∃ nO, nO = (orderF (W, (hf : Int), (bs : Int), (nx : Int)) rs).length := ⟨_, rfl⟩
      rw [← hnO] at hN
      rw [← hnO]
      clear hnO
      have B2 : Hid (Below w.heap.size w w2) := B1.out.trans (hb2.mono (by omega))
      have R2 : Hid (w2.heap[w.heap.size + 1]? = some (.cells #[.int .i64 0, .slice none 0 0, .slice none 0 0] 69)) := (hb2.block _ (by omega)).trans R1.out
      have Z2 : Hid (w.heap.size + 1 < w2.heap.size) := (Array.getElem?_eq_some_iff.1 R2.out).1
      have HH2 : Hid (HH (w.heap.size + 2) hb' hm (.slice a0 W.length c0) W hf bs nx 0 M w2) := hH2
      have N2 : Hid (Met (w1.heap.size + 1) nb (.slice av nO cv) bs hf (orderF (W, (hf : Int), (bs : Int), (nx : Int)) rs) w2) := hN
      have Z1 : Hid (w.heap.size + 2 ≤ w1.heap.size) := by have := (Array.getElem?_eq_some_iff.1 R1.out).1; show _ ≤ _; omega
      clear hH2 hN
      clear hc2 hmo hb2
      go_wp2
      have T3 : (w2.alloc (.cells #[.int .i64 bs, .slice av nO cv, .slice (some ⟨nb, 0, none⟩) hf hf] 69)).heap[w2.heap.size]? = some (.cells #[.int .i64 bs, .slice av nO cv, .slice (some ⟨nb, 0, none⟩) hf hf] 69) := alloc_top _ _
      have R3 : (w2.alloc (.cells #[.int .i64 bs, .slice av nO cv, .slice (some ⟨nb, 0, none⟩) hf hf] 69)).heap[w.heap.size + 1]? = some (.cells #[.int .i64 0, .slice none 0 0, .slice none 0 0] 69) := (Below.heap_alloc _ _ _ Z2.out).trans R2.out
      have B3 : Hid (Below w.heap.size w (w2.alloc (.cells #[.int .i64 bs, .slice av nO cv, .slice (some ⟨nb, 0, none⟩) hf hf] 69)) ∧ Below w2.heap.size w2 (w2.alloc (.cells #[.int .i64 bs, .slice av nO cv, .slice (some ⟨nb, 0, none⟩) hf hf] 69))) := ⟨B2.out.alloc B2.out.size _, (Below.refl _ _).alloc (Nat.le_refl _) _⟩
      generalize w2.alloc (.cells #[.int .i64 bs, .slice av nO cv, .slice (some ⟨nb, 0, none⟩) hf hf] 69) = w3 at *
      have t0 : w3.cell? ⟨w2.heap.size, 0, none⟩ = some (.int .i64 bs) := blk_cellH (i := 0) T3 rfl
      have t1 : w3.cell? ⟨w2.heap.size, 1, none⟩ = some (.slice av nO cv) := blk_cellH (i := 1) T3 rfl
      have t2 : w3.cell? ⟨w2.heap.size, 2, none⟩ = some (.slice (some ⟨nb, 0, none⟩) hf hf) := blk_cellH (i := 2) T3 rfl
      have x0 : w3.cell? ⟨w.heap.size + 1, 0, none⟩ = some (.int .i64 0) := blk_cellH (i := 0) R3 rfl
      have x1 : w3.cell? ⟨w.heap.size + 1, 1, none⟩ = some (.slice none 0 0) := blk_cellH (i := 1) R3 rfl
      have x2 : w3.cell? ⟨w.heap.size + 1, 2, none⟩ = some (.slice none 0 0) := blk_cellH (i := 2) R3 rfl
      have xf : ∀ j, w3.frozen? ⟨w.heap.size + 1, j, none⟩ = false := fun j => blk_frzH R3
      have S3 : Hid (w3.heap[w.heap.size + 1]? = some (.cells #[.int .i64 0, .slice none 0 0, .slice none 0 0] 69)) := R3
      clear T3 R3
      go_region_law (fail)
      all_goals
        have E5 := setr3 (.int .i64 bs) (.slice av nO cv) (.slice (some ⟨nb, 0, none⟩) hf hf) S3.out
        have B5 : Below w.heap.size w (((w3.setCell ⟨w.heap.size + 1, 0, none⟩ (.int .i64 bs)).setCell ⟨w.heap.size + 1, 1, none⟩ (.slice av nO cv)).setCell ⟨w.heap.size + 1, 2, none⟩ (.slice (some ⟨nb, 0, none⟩) hf hf)) := ((B3.out.1.setCell (by show _ ≤ w.heap.size + 1; omega) _).setCell (by show _ ≤ w.heap.size + 1; omega) _).setCell (by show _ ≤ w.heap.size + 1; omega) _
        have O5 : ∀ k, k ≠ w.heap.size + 1 → (((w3.setCell ⟨w.heap.size + 1, 0, none⟩ (.int .i64 bs)).setCell ⟨w.heap.size + 1, 1, none⟩ (.slice av nO cv)).setCell ⟨w.heap.size + 1, 2, none⟩ (.slice (some ⟨nb, 0, none⟩) hf hf)).heap[k]? = w3.heap[k]? := fun k hk => ((Below.heap_setCell _ _ _ _ (by exact hk)).trans (Below.heap_setCell _ _ _ _ (by exact hk))).trans (Below.heap_setCell _ _ _ _ (by exact hk))
        clear t0 t1 t2 x0 x1 x2 xf
        go_wp2
        generalize ((w3.setCell ⟨w.heap.size + 1, 0, none⟩ (.int .i64 bs)).setCell ⟨w.heap.size + 1, 1, none⟩ (.slice av nO cv)).setCell ⟨w.heap.size + 1, 2, none⟩ (.slice (some ⟨nb, 0, none⟩) hf hf) = wE at *
        have y0 : wE.cell? ⟨w.heap.size + 1, 0, none⟩ = some (.int .i64 bs) := blk_cellH (i := 0) E5 rfl
        have y1 : wE.cell? ⟨w.heap.size + 1, 1, none⟩ = some (.slice av nO cv) := blk_cellH (i := 1) E5 rfl
        have y2 : wE.cell? ⟨w.heap.size + 1, 2, none⟩ = some (.slice (some ⟨nb, 0, none⟩) hf hf) := blk_cellH (i := 2) E5 rfl
        refine bodyPost_ret (v := .tuple #[.pointer (some ⟨hb', 0, none⟩), .agg #[.int .i64 bs, .slice av nO cv, .slice (some ⟨nb, 0, none⟩) hf hf], .bool true]) (by simp [results, Tryz.f34, go_sem, y0, y1, y2]) rfl ?_
        have hH3 := HH2.out.on B3.out.2
        have hN3 := N2.out.on B3.out.2
        have hz := HZ.out
        have hz1 := Z1.out
        have hlo := hH3.lo
        have hW5 : intsSh.rep wE (· < w.heap.size + 2) [.slice a0 W.length c0] W := intsSh.mono (intsSh.below AI.out B5) fun b hbb => by omega
        have hH5 : HH (w.heap.size + 2) hb' hm (.slice a0 W.length c0) W hf bs nx 0 M wE := ⟨hH3.lo, (O5 hb' (by omega)).trans hH3.blk, (O5 hm (by omega)).trans hH3.mks, hH3.len, hW5, hH3.siz⟩
        have hN5 : Met (w1.heap.size + 1) nb (.slice av nO cv) bs hf (orderF (W, (hf : Int), (bs : Int), (nx : Int)) rs) wE := hN3.other (O5 nb (by have := hN3.lo; omega)) fun q hq => O5 q (by have := (hN3.plc.lt q hq).1; omega)
        first
          | exact ⟨⟨fun hq => (by rw [HF.out] at hq; cases hq), fun _ => ⟨hb', hm, hf, bs, nx, nb, w1.heap.size + 1, M, .slice av nO cv, rfl, rfl, rfl, rfl, hH5, hN5, hz.1, hz.2⟩⟩, B5⟩
          | exact ⟨⟨fun hq => (by rw [HF.out] at hq; cases hq), fun _ => ⟨hb', hm, hf, bs, nx, nb, w1.heap.size + 1, M, .slice av nO cv, rfl, rfl, rfl, rfl, hH5.same rfl, hN5.other rfl (fun _ _ => rfl), hz.1, hz.2⟩⟩, B5.drew⟩

end Go.Proofs.YtjibmpebebephaaGreatDoor.heap

namespace Go.Proofs.YtjibmpebebephaaGreatDoor.vm
open Go Go.RowKit Go.Proofs.YtjibmpebebephaaGreatDoor.rose Go.Proofs.YtjibmpebebephaaGreatDoor Go.Proofs.YtjibmpebebephaaGreatDoor.fun Go.Proofs.YtjibmpebebephaaGreatDoor.heap Go.Proofs.YtjibmpebebephaaGreatDoor.ints
set_option linter.unusedVariables false
set_option linter.unusedSimpArgs false

set_option maxRecDepth 100000 in
set_option maxHeartbeats 16000000 in
theorem implVmOk (T : VmD) (cs : List Value) (w : World) (hw : T.1.length + fun.wts T.1 ≤ 1048576) (hsl : T.2.2.1.length ≤ 1048576) (hN : fun.Names w) (h : vmSh.rep w (· < w.heap.size) cs T) :
    Calls Tryz.prog 8 #[.agg cs.toArray] w fun e w' => e = .returned (.bool (vmB T)) ∧ Below w.heap.size w w' := by
  obtain ⟨fs, a0, c0, HT, u0, u1, u2, u3, st, a2, c2, ks, a3, c3, out, a4, c4, code, each, rfl, rfl, f0, f1, f2, f3, f4, f5⟩ := vm_open h
  obtain ⟨W, aw, cw, half, base, next, rfl, eC, g0, g1, g2, g3⟩ := heap_open f1
  simp only [List.cons.injEq, and_true] at eC
  obtain ⟨rfl, rfl, rfl, rfl⟩ := eC
  have hw1 : fs.length + fun.wts fs ≤ 1048576 := hw
  have hsl1 : st.length ≤ 1048576 := hsl
  have NS := hidv hN
  have RF : Hid (∀ w' : World, Below w.heap.size w w' → funSh.slice.rep w' (· < w'.heap.size) [.slice a0 fs.length c0] fs) := fun w' hb => funSh.slice.mono (funSh.slice.below f0 hb) fun b hlt => Nat.lt_of_lt_of_le hlt hb.size
  have RC : Hid (∀ w' : World, Below w.heap.size w w' → call.callSh.slice.rep w' (· < w'.heap.size) [.slice a3 ks.length c3] ks) := fun w' hb => call.callSh.slice.mono (call.callSh.slice.below f3 hb) fun b hlt => Nat.lt_of_lt_of_le hlt hb.size
  have RH : Hid (∀ w' : World, Below w.heap.size w w' → heapSh.rep w' (· < w'.heap.size) [.slice aw W.length cw, .int .i64 half, .int .i64 base, .int .i64 next] (W, half, base, next)) := fun w' hb => heapSh.mono (heapSh.below f1 hb) fun b hlt => Nat.lt_of_lt_of_le hlt hb.size
  have RS : Hid (∀ w' : World, Below w.heap.size w w' → intsSh.rep w' (· < w'.heap.size) [.slice a2 st.length c2] st) := fun w' hb => intsSh.mono (intsSh.below f2 hb) fun b hlt => Nat.lt_of_lt_of_le hlt hb.size
  have RO : Hid (∀ w' : World, Below w.heap.size w w' → intsSh.rep w' (· < w'.heap.size) [.slice a4 out.length c4] out) := fun w' hb => intsSh.mono (intsSh.below f4 hb) fun b hlt => Nat.lt_of_lt_of_le hlt hb.size
  obtain ⟨r, hr⟩ : ∃ r, r = vmB (fs, (W, half, base, next), st, ks, out, code, each) := ⟨_, rfl⟩
  have HR : Hid (r = vmB (fs, (W, half, base, next), st, ks, out, code, each)) := hr
  rw [← hr]
  have A0 : Hid (ArgK w (w.alloc (.cells #[.slice a0 fs.length c0, .slice aw W.length cw, .int .i64 half, .int .i64 base, .int .i64 next, .slice a2 st.length c2, .slice a3 ks.length c3, .slice a4 out.length c4, .int .i64 code, .bool each] 35)) [.slice a0 fs.length c0, .slice aw W.length cw, .int .i64 half, .int .i64 base, .int .i64 next, .slice a2 st.length c2, .slice a3 ks.length c3, .slice a4 out.length c4, .int .i64 code, .bool each] 35) := ArgK.new _ _ _ rfl
  have HW1 := hidv hw1
  clear h hw hw1 hN f0 f1 f2 f3 f4 hr hsl g0
  have hc1 := implFunsOk fs _ _ HW1.out (NS.out.on A0.out.bel) (RF.out _ A0.out.bel)
  rcases q1 : funsB fs with _ | _
  · rw [q1] at hc1
    have HF : Hid (r = false) := by show _ = _; rw [HR.out]; unfold vmB; dsimp only; rw [q1]; rfl
    go_enter Tryz.func8, Tryz.ntmps8
    go_wp2_with fail
    refine hc1.mono ?_
    rintro e w1 ⟨rfl, hb⟩
    have A1 : Hid (ArgK w w1 [.slice a0 fs.length c0, .slice aw W.length cw, .int .i64 half, .int .i64 base, .int .i64 next, .slice a2 st.length c2, .slice a3 ks.length c3, .slice a4 out.length c4, .int .i64 code, .bool each] 35) := A0.out.on hb
    clear hc1 hb
    go_wp2
    go_ret
    exact ⟨ret_bV HF.out.symm, A1.out.bel⟩
  · rw [q1] at hc1
    by_cases q3 : st.length ≤ 600
    · have t3 : decide (600 < (st.length : Int)) = false := by simp; omega
      go_enter Tryz.func8, Tryz.ntmps8
      go_wp2_with fail
      refine hc1.mono ?_
      rintro e w1 ⟨rfl, hb⟩
      have A1 : Hid (ArgK w w1 [.slice a0 fs.length c0, .slice aw W.length cw, .int .i64 half, .int .i64 base, .int .i64 next, .slice a2 st.length c2, .slice a3 ks.length c3, .slice a4 out.length c4, .int .i64 code, .bool each] 35) := A0.out.on hb
      clear hc1 hb
      have k0 : w1.cell? ⟨w.heap.size, 0, none⟩ = some (.slice a0 fs.length c0) := A1.out.cell 0 rfl
      have k1 : w1.cell? ⟨w.heap.size, 1, none⟩ = some (.slice aw W.length cw) := A1.out.cell 1 rfl
      have k2 : w1.cell? ⟨w.heap.size, 2, none⟩ = some (.int .i64 half) := A1.out.cell 2 rfl
      have k3 : w1.cell? ⟨w.heap.size, 3, none⟩ = some (.int .i64 base) := A1.out.cell 3 rfl
      have k4 : w1.cell? ⟨w.heap.size, 4, none⟩ = some (.int .i64 next) := A1.out.cell 4 rfl
      have k5 : w1.cell? ⟨w.heap.size, 5, none⟩ = some (.slice a2 st.length c2) := A1.out.cell 5 rfl
      have k6 : w1.cell? ⟨w.heap.size, 6, none⟩ = some (.slice a3 ks.length c3) := A1.out.cell 6 rfl
      have k7 : w1.cell? ⟨w.heap.size, 7, none⟩ = some (.slice a4 out.length c4) := A1.out.cell 7 rfl
      have k8 : w1.cell? ⟨w.heap.size, 8, none⟩ = some (.int .i64 code) := A1.out.cell 8 rfl
      have k9 : w1.cell? ⟨w.heap.size, 9, none⟩ = some (.bool each) := A1.out.cell 9 rfl
      have hc2 := okCalls_is fs W half base next st ks out code each a0 c0 aw cw a2 c2 a3 c3 a4 c4 w1 q1 (by omega) (RF.out _ A1.out.bel) (RC.out _ A1.out.bel)
      go_wp2_with fail
      refine hc2.mono ?_
      rintro e w2 ⟨rfl, hb⟩
      have A2 : Hid (ArgK w w2 [.slice a0 fs.length c0, .slice aw W.length cw, .int .i64 half, .int .i64 base, .int .i64 next, .slice a2 st.length c2, .slice a3 ks.length c3, .slice a4 out.length c4, .int .i64 code, .bool each] 35) := A1.out.on hb
      clear hc2 hb k0 k1 k2 k3 k4 k5 k6 k7 k8 k9 A1
      rcases q4 : okCallsB fs st.length ks code with _ | _
      · have HF : Hid (r = false) := by show _ = _; rw [HR.out]; unfold vmB; dsimp only; rw [q4]; simp
        go_wp2
        go_ret
        exact ⟨ret_bV HF.out.symm, A2.out.bel⟩
      · have k0 : w2.cell? ⟨w.heap.size, 0, none⟩ = some (.slice a0 fs.length c0) := A2.out.cell 0 rfl
        have k1 : w2.cell? ⟨w.heap.size, 1, none⟩ = some (.slice aw W.length cw) := A2.out.cell 1 rfl
        have k2 : w2.cell? ⟨w.heap.size, 2, none⟩ = some (.int .i64 half) := A2.out.cell 2 rfl
        have k3 : w2.cell? ⟨w.heap.size, 3, none⟩ = some (.int .i64 base) := A2.out.cell 3 rfl
        have k4 : w2.cell? ⟨w.heap.size, 4, none⟩ = some (.int .i64 next) := A2.out.cell 4 rfl
        have k5 : w2.cell? ⟨w.heap.size, 5, none⟩ = some (.slice a2 st.length c2) := A2.out.cell 5 rfl
        have k6 : w2.cell? ⟨w.heap.size, 6, none⟩ = some (.slice a3 ks.length c3) := A2.out.cell 6 rfl
        have k7 : w2.cell? ⟨w.heap.size, 7, none⟩ = some (.slice a4 out.length c4) := A2.out.cell 7 rfl
        have k8 : w2.cell? ⟨w.heap.size, 8, none⟩ = some (.int .i64 code) := A2.out.cell 8 rfl
        have k9 : w2.cell? ⟨w.heap.size, 9, none⟩ = some (.bool each) := A2.out.cell 9 rfl
        have hc3 := allWords_is out _ w2 (RO.out _ A2.out.bel)
        go_wp2_with fail
        refine hc3.mono ?_
        rintro e w3 ⟨rfl, hx⟩
        subst w3
        clear hc3
        rcases q5 : wordsB out with _ | _
        · have HF : Hid (r = false) := by show _ = _; rw [HR.out]; unfold vmB; dsimp only; rw [q5]; simp
          go_wp2
          go_ret
          exact ⟨ret_bV HF.out.symm, A2.out.bel⟩
        · rcases q6 : inB code 0 5 with _ | _
          · have HF : Hid (r = false) := by show _ = _; rw [HR.out]; unfold vmB; dsimp only; rw [q6]; simp
            have hc4 := fun.bel_is (w := w2) (e := 6) q6 (by omega)
            go_wp2_with fail
            refine hc4.mono ?_
            rintro e w3 ⟨rfl, hx⟩
            subst w3
            clear hc4
            go_wp2
            go_ret
            exact ⟨ret_bV HF.out.symm, A2.out.bel⟩
          · have hc5 := meetTop_is W aw cw half base next st (.slice a2 st.length c2) w2 hsl1 (RH.out _ A2.out.bel) (RS.out _ A2.out.bel)
            have hc4 := fun.bel_is (w := w2) (e := 6) q6 (by omega)
            go_wp2_with fail
            refine hc4.mono ?_
            rintro e w3 ⟨rfl, hx⟩
            subst w3
            clear hc4
            go_wp2_with fail
            refine hc5.mono ?_
            rintro e w4 ⟨hM, hb⟩
            have A4 : Hid (ArgK w w4 [.slice a0 fs.length c0, .slice aw W.length cw, .int .i64 half, .int .i64 base, .int .i64 next, .slice a2 st.length c2, .slice a3 ks.length c3, .slice a4 out.length c4, .int .i64 code, .bool each] 35) := A2.out.on hb
            clear hc5 hb k0 k1 k2 k3 k4 k5 k6 k7 k8 k9 A2
            rcases q7 : rightB (W, half, base, next) st with _ | _
            · have HF : Hid (r = false) := by show _ = _; rw [HR.out]; unfold vmB; dsimp only; rw [q7]; simp
              obtain ⟨p, rfl⟩ := hM.1 q7
              clear hM
              go_wp2
              go_ret
              exact ⟨ret_bV HF.out.symm, (A4.out.bel.alloc A4.out.bel.size _)⟩
            · have HF : Hid (r = true) := by show _ = _; rw [HR.out]; unfold vmB; dsimp only; rw [q1, q4, q5, q6, q7, decide_eq_true q3]; rfl
              obtain ⟨hb, hm, hf, bs, nx, nb, B2, M, v, -, -, -, rfl, -, hN, -⟩ := hM.2 q7
              obtain ⟨av, cv, hvv⟩ := own_form hN.plc.1
              subst hvv
              clear hM hN
              go_wp2
              go_ret
              exact ⟨ret_bV HF.out.symm, (A4.out.bel.alloc A4.out.bel.size _)⟩
    · have HF : Hid (r = false) := by show _ = _; rw [HR.out]; unfold vmB; dsimp only; simp [q3]
      have t3 : decide (600 < (st.length : Int)) = true := by simp; omega
      go_enter Tryz.func8, Tryz.ntmps8
      go_wp2_with fail
      refine hc1.mono ?_
      rintro e w1 ⟨rfl, hb⟩
      have A1 : Hid (ArgK w w1 [.slice a0 fs.length c0, .slice aw W.length cw, .int .i64 half, .int .i64 base, .int .i64 next, .slice a2 st.length c2, .slice a3 ks.length c3, .slice a4 out.length c4, .int .i64 code, .bool each] 35) := A0.out.on hb
      clear hc1 hb
      have k0 : w1.cell? ⟨w.heap.size, 0, none⟩ = some (.slice a0 fs.length c0) := A1.out.cell 0 rfl
      have k1 : w1.cell? ⟨w.heap.size, 1, none⟩ = some (.slice aw W.length cw) := A1.out.cell 1 rfl
      have k2 : w1.cell? ⟨w.heap.size, 2, none⟩ = some (.int .i64 half) := A1.out.cell 2 rfl
      have k3 : w1.cell? ⟨w.heap.size, 3, none⟩ = some (.int .i64 base) := A1.out.cell 3 rfl
      have k4 : w1.cell? ⟨w.heap.size, 4, none⟩ = some (.int .i64 next) := A1.out.cell 4 rfl
      have k5 : w1.cell? ⟨w.heap.size, 5, none⟩ = some (.slice a2 st.length c2) := A1.out.cell 5 rfl
      have k6 : w1.cell? ⟨w.heap.size, 6, none⟩ = some (.slice a3 ks.length c3) := A1.out.cell 6 rfl
      have k7 : w1.cell? ⟨w.heap.size, 7, none⟩ = some (.slice a4 out.length c4) := A1.out.cell 7 rfl
      have k8 : w1.cell? ⟨w.heap.size, 8, none⟩ = some (.int .i64 code) := A1.out.cell 8 rfl
      have k9 : w1.cell? ⟨w.heap.size, 9, none⟩ = some (.bool each) := A1.out.cell 9 rfl
      go_wp2
      go_ret
      exact ⟨ret_bV HF.out.symm, A1.out.bel⟩

end Go.Proofs.YtjibmpebebephaaGreatDoor.vm
