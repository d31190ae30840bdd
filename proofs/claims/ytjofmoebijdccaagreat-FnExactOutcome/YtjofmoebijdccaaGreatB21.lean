/-
  How many words of a heap are left (chapter 17): told in plain data; no program named.
  The block at a place of a heap (chapter 17): told in plain data; no program named.
  The model's Back, at every list of datas, heap and word; nothing that was there is turned.
  What comes out of a machine (chapter 20): told in plain data; no program is named.
-/
import Derived.Test.YtjofmoebijdccaaGreatB1
import Derived.Test.YtjofmoebijdccaaGreatB2
import Derived.Test.YtjofmoebijdccaaGreatB3
import Derived.Test.YtjofmoebijdccaaGreatB4
import Derived.Test.YtjofmoebijdccaaGreatB5
import Derived.Test.YtjofmoebijdccaaGreatB6
import Derived.Test.YtjofmoebijdccaaGreatB7
import Derived.Test.YtjofmoebijdccaaGreatB8
import Derived.Test.YtjofmoebijdccaaGreatB9
import Derived.Test.YtjofmoebijdccaaGreatB10
import Derived.Test.YtjofmoebijdccaaGreatB11
import Derived.Test.YtjofmoebijdccaaGreatB12
import Derived.Test.YtjofmoebijdccaaGreatB13
import Derived.Test.YtjofmoebijdccaaGreatB14
import Derived.Test.YtjofmoebijdccaaGreatB15
import Derived.Test.YtjofmoebijdccaaGreatB16
import Derived.Test.YtjofmoebijdccaaGreatB17
import Derived.Test.YtjofmoebijdccaaGreatB18
import Derived.Test.YtjofmoebijdccaaGreatB19
import Derived.Test.YtjofmoebijdccaaGreatB20
namespace Go.Proofs.YtjofmoebijdccaaGreat.heap
open Go Go.RowKit Go.Proofs.YtjofmoebijdccaaGreat.rose Go.Proofs.YtjofmoebijdccaaGreat Go.Proofs.YtjofmoebijdccaaGreat.fun
set_option linter.unusedVariables false

/-- How many words are left. -/
def roomF (T : HeapD) : Int := if heapB T then T.2.2.1 + T.2.1 - T.2.2.2 else 0
theorem heapB_in {T : HeapD} (h : heapB T = true) : headB T = true := by
  unfold heapB at h
  simp only [Bool.and_eq_true] at h
  exact h.1.1

end Go.Proofs.YtjofmoebijdccaaGreat.heap

namespace Go.Proofs.YtjofmoebijdccaaGreat.heap
open Go Go.RowKit Go.Proofs.YtjofmoebijdccaaGreat.rose Go.Proofs.YtjofmoebijdccaaGreat Go.Proofs.YtjofmoebijdccaaGreat.fun
set_option linter.unusedVariables false

/-- The block at a place: whether it is a function, its tag, its kids. -/
def blockF (T : HeapD) (p : Int) : Bool × Int × List Int × Bool :=
  if heapB T && decide (p ∈ (plT T).1) then (funF (T.1.getD p.toNat 0), tagF (T.1.getD p.toNat 0), (T.1.drop (p.toNat + 1)).take (manyF (T.1.getD p.toNat 0)).toNat, true) else (false, 0, [], false)
theorem heapB_places_ok {T : HeapD} (h : heapB T = true) : (plT T).2 = true := by
  unfold heapB at h
  simp only [Bool.and_eq_true] at h
  exact h.1.2

end Go.Proofs.YtjofmoebijdccaaGreat.heap

namespace Go.Proofs.YtjofmoebijdccaaGreat.back
open Go Go.RowKit Go.Proofs.YtjofmoebijdccaaGreat.rose Go.Proofs.YtjofmoebijdccaaGreat Go.Proofs.YtjofmoebijdccaaGreat.heap Go.Proofs.YtjofmoebijdccaaGreat.words
set_option linter.unusedVariables false
set_option linter.unusedSimpArgs false

/-- Where a block stands. -/
theorem place_in {T : HeapD} {p : Int} (hB : heapB T = true) (hp : p ∈ (plT T).1) : ∃ z : Nat, p = (z : Int) ∧ z + (manyF (T.1.getD z 0)).toNat < T.1.length := by
  obtain ⟨W, half, base, next⟩ := T
  have hok := heapB_places_ok hB
  have hin := head_in (heapB_in hB)
  dsimp only at hin
  obtain ⟨z, hz, h1, h2⟩ := plF_in (W := W) (nx := next.toNat) (p := base.toNat) hok p hp
  exact ⟨z, hz, by show z + (manyF (W.getD z 0)).toNat < W.length; omega⟩

theorem spec_any (L : Nat) (ks : List data.DataD) (T : HeapD) (vl vp : Value) (cs : List Value) (hw : ks.length + data.wts ks ≤ 1048576) (hB : heapB T = true) (d : Nat) (hd : d ≤ 200) : SpecSays L ks T vl vp cs d := by
  induction d with
  | zero => exact spec_zero L ks T vl vp cs
  | succ d ih =>
    have IH := ih (by omega)
    intro r x k w hr hx1 hx2 hL hk he
    cases r with
    | zero => exact spec_full L ks T vl vp cs d 0 k _ _ x w (by omega) (by omega) (by omega) rfl hx1 hx2 hL hk he
    | succ n =>
      rcases hx : decide (x % 2 = 0) with _ | _
      · exact spec_int L ks T vl vp cs d n k _ _ x w (by omega) (by omega) (by omega) (by push_cast; rfl) hx1 hx2 hL hk he hx
      · rcases hp : decide (x / 2 ∈ (plT T).1) with _ | _
        · exact spec_nowhere L ks T vl vp cs d n k _ _ x w (by omega) (by omega) (by omega) (by push_cast; rfl) hx1 hx2 hL hk he hx hp
        · obtain ⟨z, hz, hzl⟩ := place_in hB (of_decide_eq_true hp)
          have hzl0 : z < T.1.length := by omega
          rcases hf : funF (T.1.getD z 0) with _ | _
          · rcases hcn : conAt ks (tagF (T.1.getD z 0)) with _ | s
            · exact spec_nocon L ks T vl vp cs d n k _ _ x w (by omega) (by omega) (by omega) (by push_cast; rfl) hx1 hx2 hL hk he hx hp z hz hzl0 hf hw hcn
            · by_cases hm : (s.c.2.length : Int) = manyF (T.1.getD z 0)
              · exact spec_con L ks T vl vp cs d n k _ _ x w (by omega) (by omega) (by omega) (by push_cast; rfl) hx1 hx2 hL hk he hx hp z hz hzl0 hf hw s hcn hm (by omega) (by push_cast; omega) IH
              · exact spec_other L ks T vl vp cs d n k _ _ x w (by omega) (by omega) (by omega) (by push_cast; rfl) hx1 hx2 hL hk he hx hp z hz hzl0 hf hw s hcn hm
          · exact spec_fun L ks T vl vp cs d n k _ _ x w (by omega) (by omega) (by omega) (by push_cast; rfl) hx1 hx2 hL hk he hx hp z hz hzl0 hf

theorem zero_rep (w : World) (F : Nat → Prop) : value.valueSp.rep w F zcs zeroV := leaf_rep _ _ (by omega) (by omega) (by simp [ByteArray.size])

set_option maxRecDepth 100000 in
set_option maxHeartbeats 8000000 in
theorem specBack (ks : List data.DataD) (T : HeapD) (x : Int) (v : Value) (cs : List Value) (w : World) (hw : (ks.length + data.wts ks) + heap.wt T ≤ 1048576) (hx1 : -9223372036854775808 ≤ x) (hx2 : x ≤ 9223372036854775807) (h : data.dataSh.slice.rep w (· < w.heap.size) [v] ks) (h' : heapSh.rep w (· < w.heap.size) cs T) :
    Calls Tryz.prog 22 #[v, .agg cs.toArray, .int .i64 x] w fun e w' => (∃ cs', e = .returned (.tuple #[.agg cs'.toArray, .bool (backF ks T x).2]) ∧ value.valueSp.rep w' (fun b => w.heap.size ≤ b ∧ b < w'.heap.size) cs' (backF ks T x).1) ∧ Below w.heap.size w w' := by
  have HDS : Hid (data.dataSh.slice.rep w (· < w.heap.size) [v] ks) := h
  have AH : Hid (∀ w' : World, Below w.heap.size w w' → heapSh.rep w' (· < w'.heap.size) cs T) := fun w' hb => heapSh.mono (heapSh.below h' hb) fun b hlt => Nat.lt_of_lt_of_le hlt hb.size
  have AH0 : Hid (heapSh.rep w (· < w.heap.size) cs T) := h'
  have HW : Hid (ks.length + data.wts ks ≤ 1048576) := by show _ ≤ _; omega
  have o0 := data.dataSh.slice.one h v (by simp)
  obtain ⟨W, a0, c0, half, base, next, rfl, rfl, f0, f1, f2, f3⟩ := heap_open h'
  obtain ⟨r, hr⟩ : ∃ r, r = backF ks (W, half, base, next) x := ⟨_, rfl⟩
  have HR : Hid (r = backF ks (W, half, base, next) x) := hr
  rw [← hr]
  have H0 : Hid (Below w.heap.size w ((w.alloc (.cells #[.slice a0 W.length c0, .int .i64 half, .int .i64 base, .int .i64 next] 40)).alloc (.cells #[.int .i64 0, .int .i64 0, .string ⟨#[]⟩, .slice none 0 0] 34))) := ((Below.refl _ _).alloc (Nat.le_refl _) _).alloc (by simp) _
  have H0r : Hid (((w.alloc (.cells #[.slice a0 W.length c0, .int .i64 half, .int .i64 base, .int .i64 next] 40)).alloc (.cells #[.int .i64 0, .int .i64 0, .string ⟨#[]⟩, .slice none 0 0] 34)).heap[w.heap.size + 1]? = some (.cells #[.int .i64 0, .int .i64 0, .string ⟨#[]⟩, .slice none 0 0] 34)) := by
    have := alloc_top (w.alloc (.cells #[.slice a0 W.length c0, .int .i64 half, .int .i64 base, .int .i64 next] 40)) (.cells #[.int .i64 0, .int .i64 0, .string ⟨#[]⟩, .slice none 0 0] 34)
    rwa [World.size_alloc] at this
  have H0b : Hid (((w.alloc (.cells #[.slice a0 W.length c0, .int .i64 half, .int .i64 base, .int .i64 next] 40)).alloc (.cells #[.int .i64 0, .int .i64 0, .string ⟨#[]⟩, .slice none 0 0] 34)).heap[w.heap.size]? = some (.cells #[.slice a0 W.length c0, .int .i64 half, .int .i64 base, .int .i64 next] 40)) := (Below.heap_alloc _ _ _ (by simp)).trans (alloc_top _ _)
  have hcall := specHeapOk (W, half, base, next) _ _ (AH.out _ H0.out)
  clear h h' hr hw f0 f1 f2 f3
  rcases q1 : heapB (W, half, base, next) with _ | _
  · have HF : Hid (r = (zeroV, false)) := by show _ = _; rw [HR.out]; unfold backF; rw [q1]; rfl
    rw [q1] at hcall
    go_enter Tryz.func22, Tryz.ntmps22
    go_wp2_with fail
    refine hcall.mono ?_
    rintro e w1 ⟨rfl, hb⟩
    have B1 : Hid (Below w.heap.size w w1) := H0.out.trans (hb.mono H0.out.size)
    have R1 : Hid (w1.heap[w.heap.size + 1]? = some (.cells #[.int .i64 0, .int .i64 0, .string ⟨#[]⟩, .slice none 0 0] 34)) := (hb.block _ (Array.getElem?_eq_some_iff.1 H0r.out).1).trans H0r.out
    have r0 : w1.cell? ⟨w.heap.size + 1, 0, none⟩ = some (.int .i64 0) := blk_cell (i := 0) R1.out rfl
    have r1 : w1.cell? ⟨w.heap.size + 1, 1, none⟩ = some (.int .i64 0) := blk_cell (i := 1) R1.out rfl
    have r2 : w1.cell? ⟨w.heap.size + 1, 2, none⟩ = some (.string ⟨#[]⟩) := blk_cell (i := 2) R1.out rfl
    have r3 : w1.cell? ⟨w.heap.size + 1, 3, none⟩ = some (.slice none 0 0) := blk_cell (i := 3) R1.out rfl
    have fr : ∀ o, w1.frozen? ⟨w.heap.size + 1, o, none⟩ = false := fun o => blk_free R1.out
    clear hcall hb q1
    go_wp2
    refine bodyPost_ret (v := .tuple #[.agg #[.int .i64 0, .int .i64 0, .string ⟨#[]⟩, .slice none 0 0], .bool false]) (by simp [results, Tryz.f22, go_sem, r0, r1, r2, r3]) rfl ?_
    rw [HF.out]
    exact ⟨⟨zcs, rfl, zero_rep _ _⟩, ((((B1.out.setCell (by simp) _).setCell (by simp) _).setCell (by simp) _).setCell (by simp) _)⟩
  · rw [q1] at hcall
    have hHO := heapB_places_ok q1
    have HOK : Hid ((plT (W, half, base, next)).2 = true ∧ headB (W, half, base, next) = true ∧ heapB (W, half, base, next) = true) := ⟨hHO, heapB_in q1, q1⟩
    clear q1 hHO
    go_enter Tryz.func22, Tryz.ntmps22
    go_wp2_with fail
    refine hcall.mono ?_
    rintro e w1 ⟨rfl, hb⟩
    have B1 : Hid (Below w.heap.size w w1) := H0.out.trans (hb.mono H0.out.size)
    have R1 : Hid (w1.heap[w.heap.size + 1]? = some (.cells #[.int .i64 0, .int .i64 0, .string ⟨#[]⟩, .slice none 0 0] 34)) := (hb.block _ (Array.getElem?_eq_some_iff.1 H0r.out).1).trans H0r.out
    have X1 : Hid (w1.heap[w.heap.size]? = some (.cells #[.slice a0 W.length c0, .int .i64 half, .int .i64 base, .int .i64 next] 40)) := (hb.block _ (Array.getElem?_eq_some_iff.1 H0b.out).1).trans H0b.out
    have k0 : w1.cell? ⟨w.heap.size, 0, none⟩ = some (.slice a0 W.length c0) := blk_cell (i := 0) X1.out rfl
    have k1 : w1.cell? ⟨w.heap.size, 1, none⟩ = some (.int .i64 half) := blk_cell (i := 1) X1.out rfl
    have k2 : w1.cell? ⟨w.heap.size, 2, none⟩ = some (.int .i64 base) := blk_cell (i := 2) X1.out rfl
    have k3 : w1.cell? ⟨w.heap.size, 3, none⟩ = some (.int .i64 next) := blk_cell (i := 3) X1.out rfl
    have hcall2 := specPlacesOf (W, half, base, next) _ w1 HOK.out.2.1 (AH.out _ B1.out)
    rw [HOK.out.1] at hcall2
    clear hcall hb
    go_wp2_with fail
    refine hcall2.mono ?_
    rintro e w2 ⟨⟨v2, l, rfl, hr2, hl2⟩, hb2⟩
    have hle := hl2 (by first | rfl | trivial)
    have B2 : Hid (Below w.heap.size w w2) := B1.out.trans (hb2.mono B1.out.size)
    have hz1 : w.heap.size + 2 ≤ w1.heap.size := (Array.getElem?_eq_some_iff.1 R1.out).1
    have hz2 : w.heap.size + 2 ≤ w2.heap.size := Nat.le_trans hz1 hb2.size
    have R2 : Hid (w2.heap[w.heap.size + 1]? = some (.cells #[.int .i64 0, .int .i64 0, .string ⟨#[]⟩, .slice none 0 0] 34)) := (hb2.block _ (by omega)).trans R1.out
    have X2 : Hid (w2.heap[w.heap.size]? = some (.cells #[.slice a0 W.length c0, .int .i64 half, .int .i64 base, .int .i64 next] 40)) := (hb2.block _ (by omega)).trans X1.out
    have REP : Hid (ints.intsSh.rep w2 (· < w2.heap.size) [v2] (plT (W, half, base, next)).1) := by
      rw [← hle]; exact ints.intsSh.mono (ints.intsp_rep hr2.sp) fun q hq => hq.2
    have ov2 := ints.intsSh.one REP.out v2 (by simp)
    have hA3 : Below w2.heap.size w2 (w2.alloc (.cells #[.int .i64 4000] 92)) := (Below.refl _ _).alloc (Nat.le_refl _) _
    have SE3 : SE w2.heap.size (w2.alloc (.cells #[.int .i64 4000] 92)) v v2 [.slice a0 W.length c0, .int .i64 half, .int .i64 base, .int .i64 next] ks (W, half, base, next) := by
      refine SE.on ⟨?_, AH.out _ B2.out, REP.out⟩ fun b hb => hA3.block b hb
      exact data.dataSh.slice.mono (data.dataSh.slice.below HDS.out B2.out) fun b hb => Nat.lt_of_lt_of_le hb B2.out.size
    have hcall3 := spec_any w2.heap.size ks (W, half, base, next) v v2 _ HW.out HOK.out.2.2 200 (Nat.le_refl _) 4000 x w2.heap.size (w2.alloc (.cells #[.int .i64 4000] 92)) (Nat.le_refl _) hx1 hx2 (Nat.le_refl _) (alloc_top _ _) SE3
    have k0' : (w2.alloc (.cells #[.int .i64 4000] 92)).cell? ⟨w.heap.size, 0, none⟩ = some (.slice a0 W.length c0) := cell_al (blk_cell (i := 0) X2.out rfl)
    have k1' : (w2.alloc (.cells #[.int .i64 4000] 92)).cell? ⟨w.heap.size, 1, none⟩ = some (.int .i64 half) := cell_al (blk_cell (i := 1) X2.out rfl)
    have k2' : (w2.alloc (.cells #[.int .i64 4000] 92)).cell? ⟨w.heap.size, 2, none⟩ = some (.int .i64 base) := cell_al (blk_cell (i := 2) X2.out rfl)
    have k3' : (w2.alloc (.cells #[.int .i64 4000] 92)).cell? ⟨w.heap.size, 3, none⟩ = some (.int .i64 next) := cell_al (blk_cell (i := 3) X2.out rfl)
    have R3 : Hid ((w2.alloc (.cells #[.int .i64 4000] 92)).heap[w.heap.size + 1]? = some (.cells #[.int .i64 0, .int .i64 0, .string ⟨#[]⟩, .slice none 0 0] 34) ∧ (w2.alloc (.cells #[.int .i64 4000] 92)).heap.size = w2.heap.size + 1 ∧ Below w.heap.size w (w2.alloc (.cells #[.int .i64 4000] 92))) := ⟨(hA3.block _ (by omega)).trans R2.out, by simp, B2.out.trans (hA3.mono (by omega))⟩
    clear hcall2 hr2 hl2 hb2 hle k0 k1 k2 k3 hA3 SE3
    go_wp2_with fail
    refine hcall3.mono ?_
    rintro e w4 ho
    have hz4 : w2.heap.size + 1 ≤ w4.heap.size := by have := ho.only.size; have := R3.out.2.1; omega
    have R4 : Hid (w4.heap[w.heap.size + 1]? = some (.cells #[.int .i64 0, .int .i64 0, .string ⟨#[]⟩, .slice none 0 0] 34)) := (ho.only.block _ (by have := R3.out.2.1; omega) (by omega)).trans R3.out.1
    have B4 : Hid (Below w.heap.size w w4) := R3.out.2.2.trans (ho.only.below (by have := R3.out.2.1; omega) (fun b hb => by omega))
    have r0 : w4.cell? ⟨w.heap.size + 1, 0, none⟩ = some (.int .i64 0) := blk_cell (i := 0) R4.out rfl
    have r1 : w4.cell? ⟨w.heap.size + 1, 1, none⟩ = some (.int .i64 0) := blk_cell (i := 1) R4.out rfl
    have r2 : w4.cell? ⟨w.heap.size + 1, 2, none⟩ = some (.string ⟨#[]⟩) := blk_cell (i := 2) R4.out rfl
    have r3 : w4.cell? ⟨w.heap.size + 1, 3, none⟩ = some (.slice none 0 0) := blk_cell (i := 3) R4.out rfl
    have fr : ∀ o, w4.frozen? ⟨w.heap.size + 1, o, none⟩ = false := fun o => blk_free R4.out
    clear hcall3 k0' k1' k2' k3'
    rcases hq : backD (topB ks (W, half, base, next)) 200 4000 x with _ | ⟨V, q⟩
    · have HF : Hid (r = (zeroV, false)) := by show _ = _; rw [HR.out]; unfold backF; rw [HOK.out.2.2, hq]; rfl
      obtain rfl := ho.no hq
      have B5 : Hid (Below w.heap.size w (w4.alloc (.cells #[.int .i64 0, .int .i64 0, .string ⟨#[]⟩, .slice none 0 0] 34))) := B4.out.alloc B4.out.size _
      have R5 : Hid ((w4.alloc (.cells #[.int .i64 0, .int .i64 0, .string ⟨#[]⟩, .slice none 0 0] 34)).heap[w.heap.size + 1]? = some (.cells #[.int .i64 0, .int .i64 0, .string ⟨#[]⟩, .slice none 0 0] 34)) := (Below.heap_alloc _ _ _ (by omega)).trans R4.out
      have g0 : (w4.alloc (.cells #[.int .i64 0, .int .i64 0, .string ⟨#[]⟩, .slice none 0 0] 34)).cell? ⟨w.heap.size + 1, 0, none⟩ = some (.int .i64 0) := cell_al r0
      have g1 : (w4.alloc (.cells #[.int .i64 0, .int .i64 0, .string ⟨#[]⟩, .slice none 0 0] 34)).cell? ⟨w.heap.size + 1, 1, none⟩ = some (.int .i64 0) := cell_al r1
      have g2 : (w4.alloc (.cells #[.int .i64 0, .int .i64 0, .string ⟨#[]⟩, .slice none 0 0] 34)).cell? ⟨w.heap.size + 1, 2, none⟩ = some (.string ⟨#[]⟩) := cell_al r2
      have g3 : (w4.alloc (.cells #[.int .i64 0, .int .i64 0, .string ⟨#[]⟩, .slice none 0 0] 34)).cell? ⟨w.heap.size + 1, 3, none⟩ = some (.slice none 0 0) := cell_al r3
      have fg : ∀ o, (w4.alloc (.cells #[.int .i64 0, .int .i64 0, .string ⟨#[]⟩, .slice none 0 0] 34)).frozen? ⟨w.heap.size + 1, o, none⟩ = false := fun o => blk_free R5.out
      clear ho hq
      go_wp2
      refine bodyPost_ret (v := .tuple #[.agg #[.int .i64 0, .int .i64 0, .string ⟨#[]⟩, .slice none 0 0], .bool false]) (by simp [results, Tryz.f22, go_sem, g0, g1, g2, g3]) rfl ?_
      rw [HF.out]
      exact ⟨⟨zcs, rfl, zero_rep _ _⟩, ((((B5.out.setCell (by simp) _).setCell (by simp) _).setCell (by simp) _).setCell (by simp) _)⟩
    · have HF : Hid (r = (V, true)) := by show _ = _; rw [HR.out]; unfold backF; rw [HOK.out.2.2, hq]; rfl
      obtain ⟨⟨cs', rfl, hrep⟩, hwk⟩ := ho.yes V q hq
      obtain ⟨n0, n1, n2, n3, rfl⟩ := value.value_list (value.valuep_rep hrep)
      have ON : Hid (∀ u ∈ [n0, n1, n2, n3], u.oneCell' = true) := value.valueSp.one hrep
      have on0 := ON.out n0 (by simp)
      have on1 := ON.out n1 (by simp)
      have on2 := ON.out n2 (by simp)
      have on3 := ON.out n3 (by simp)
      have so0 := fun (a : Addr) (m : Mode) (w : World) => run_store Tryz.prog w a n0 m on0
      have so1 := fun (a : Addr) (m : Mode) (w : World) => run_store Tryz.prog w a n1 m on1
      have so2 := fun (a : Addr) (m : Mode) (w : World) => run_store Tryz.prog w a n2 m on2
      have so3 := fun (a : Addr) (m : Mode) (w : World) => run_store Tryz.prog w a n3 m on3
      have B5 : Hid (Below w.heap.size w (w4.alloc (.cells #[n0, n1, n2, n3] 34))) := B4.out.alloc B4.out.size _
      have R5 : Hid ((w4.alloc (.cells #[n0, n1, n2, n3] 34)).heap[w.heap.size + 1]? = some (.cells #[.int .i64 0, .int .i64 0, .string ⟨#[]⟩, .slice none 0 0] 34)) := (Below.heap_alloc _ _ _ (by omega)).trans R4.out
      have g0 : (w4.alloc (.cells #[n0, n1, n2, n3] 34)).cell? ⟨w.heap.size + 1, 0, none⟩ = some (.int .i64 0) := cell_al r0
      have g1 : (w4.alloc (.cells #[n0, n1, n2, n3] 34)).cell? ⟨w.heap.size + 1, 1, none⟩ = some (.int .i64 0) := cell_al r1
      have g2 : (w4.alloc (.cells #[n0, n1, n2, n3] 34)).cell? ⟨w.heap.size + 1, 2, none⟩ = some (.string ⟨#[]⟩) := cell_al r2
      have g3 : (w4.alloc (.cells #[n0, n1, n2, n3] 34)).cell? ⟨w.heap.size + 1, 3, none⟩ = some (.slice none 0 0) := cell_al r3
      have fg : ∀ o, (w4.alloc (.cells #[n0, n1, n2, n3] 34)).frozen? ⟨w.heap.size + 1, o, none⟩ = false := fun o => blk_free R5.out
      have HV : Hid (value.valueSp.rep (w4.alloc (.cells #[n0, n1, n2, n3] 34)) (fun b => w2.heap.size + 1 ≤ b ∧ b < w4.heap.size) [n0, n1, n2, n3] V) := by
        refine value.valueSp.mono (value.valueSp.on hrep fun b hb => Below.heap_alloc _ _ _ hb.2) fun b hb => ⟨by have := hb.1; have := R3.out.2.1; omega, hb.2⟩
      clear ho hq hrep hwk
      go_wp2
      refine bodyPost_ret (v := .tuple #[.agg #[n0, n1, n2, n3], .bool true]) (by simp [results, Tryz.f22, go_sem, g0, g1, g2, g3]) rfl ?_
      rw [HF.out]
      refine ⟨⟨[n0, n1, n2, n3], rfl, ?_⟩, ((((B5.out.setCell (by simp) _).setCell (by simp) _).setCell (by simp) _).setCell (by simp) _)⟩
      exact value.valueSp.mono (value.valueSp.on HV.out fun b hb => set4_other (by omega)) fun b hb => ⟨by omega, by simp [World.setCell]; omega⟩

end Go.Proofs.YtjofmoebijdccaaGreat.back

namespace Go.Proofs.YtjofmoebijdccaaGreat.back
open Go Go.RowKit Go.Proofs.YtjofmoebijdccaaGreat.rose Go.Proofs.YtjofmoebijdccaaGreat Go.Proofs.YtjofmoebijdccaaGreat.heap
set_option linter.unusedVariables false

def outF (ks : List data.DataD) (T : vm.VmD) : VD × Bool := if T.2.2.2.2.2.1 = 1 ∧ T.2.2.1.length = 1 then backF ks T.2.1 (T.2.2.1.getD 0 0) else (zeroV, false)
theorem out_no {ks : List data.DataD} {x0 : List fun.FunD} {x1 : HeapD} {x2 : List Int} {x3 : List call.CallD} {x4 : List Int} {x5 : Int} {x6 : Bool} (h : ¬ x5 = 1 ∨ ¬ x2.length = 1) : outF ks (x0, x1, x2, x3, x4, x5, x6) = (zeroV, false) := by
  unfold outF
  rw [if_neg]
  rintro ⟨h1, h2⟩
  rcases h with h | h
  · exact h h1
  · exact h h2
theorem out_yes {ks : List data.DataD} {x0 : List fun.FunD} {x1 : HeapD} {y : Int} {x3 : List call.CallD} {x4 : List Int} {x5 : Int} {x6 : Bool} (h : x5 = 1) : outF ks (x0, x1, [y], x3, x4, x5, x6) = backF ks x1 y := by
  unfold outF
  rw [if_pos ⟨h, rfl⟩]
  rfl

end Go.Proofs.YtjofmoebijdccaaGreat.back
