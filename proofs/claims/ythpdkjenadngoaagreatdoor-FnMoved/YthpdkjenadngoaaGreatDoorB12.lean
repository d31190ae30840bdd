/-
  The model's Collect, at every heap and all roots; nothing that was there is turned.
  The model's HeapNew, at every number; nothing that was there is turned.
  The model's IntWord, RefWord, IsRef, WordInt and WordRef, at every number.
-/
import Derived.Laws.MakeOwn
import Derived.Deep.OwnRows
import Derived.Test.YthpdkjenadngoaaGreatDoorB1
import Derived.Test.YthpdkjenadngoaaGreatDoorB2
import Derived.Test.YthpdkjenadngoaaGreatDoorB3
import Derived.Test.YthpdkjenadngoaaGreatDoorB4
import Derived.Test.YthpdkjenadngoaaGreatDoorB5
import Derived.Test.YthpdkjenadngoaaGreatDoorB6
import Derived.Test.YthpdkjenadngoaaGreatDoorB7
import Derived.Test.YthpdkjenadngoaaGreatDoorB8
import Derived.Test.YthpdkjenadngoaaGreatDoorB9
import Derived.Test.YthpdkjenadngoaaGreatDoorB10
import Derived.Test.YthpdkjenadngoaaGreatDoorB11
namespace Go.Proofs.YthpdkjenadngoaaGreatDoor.heap
open Go Go.RowKit Go.Deep Go.Proofs.YthpdkjenadngoaaGreatDoor.rose Go.Proofs.YthpdkjenadngoaaGreatDoor Go.Proofs.YthpdkjenadngoaaGreatDoor.fun Go.Proofs.YthpdkjenadngoaaGreatDoor.words Go.Proofs.YthpdkjenadngoaaGreatDoor.ints
set_option linter.unusedVariables false
set_option linter.unusedSimpArgs false

/-- The answer, its words and its roots apart. -/
def ColOut (w w' : World) (e : Ending) (T : HeapD) (rs : List Int) : Prop :=
  ∃ a c v', e = .returned (.tuple #[.agg #[.slice a T.1.length c, .int .i64 T.2.1, .int .i64 T.2.2.1, .int .i64 T.2.2.2], v']) ∧ IRow w' w.heap.size (.slice a T.1.length c) T.1 ∧ IRow w' w.heap.size v' rs ∧ (∀ k, (Value.slice a T.1.length c).ownBlock = some k → v'.ownBlock ≠ some k) ∧ InR T.2.1 ∧ InR T.2.2.1 ∧ InR T.2.2.2

theorem res_set {w wr : World} {B : Nat} {n0 : Nat} {x0 x1 x2 x3 : Value} (hB : Below B w wr) (hn : B ≤ n0) (hR : ∃ y0 y1 y2 y3, wr.heap[n0]? = some (.cells #[y0, y1, y2, y3] 26)) :
    ((((wr.setCell ⟨n0, 0, none⟩ x0).setCell ⟨n0, 1, none⟩ x1).setCell ⟨n0, 2, none⟩ x2).setCell ⟨n0, 3, none⟩ x3).heap[n0]? = some (.cells #[x0, x1, x2, x3] 26) ∧
    Below B w ((((wr.setCell ⟨n0, 0, none⟩ x0).setCell ⟨n0, 1, none⟩ x1).setCell ⟨n0, 2, none⟩ x2).setCell ⟨n0, 3, none⟩ x3) ∧
    ∀ k, k ≠ n0 → ((((wr.setCell ⟨n0, 0, none⟩ x0).setCell ⟨n0, 1, none⟩ x1).setCell ⟨n0, 2, none⟩ x2).setCell ⟨n0, 3, none⟩ x3).heap[k]? = wr.heap[k]? := by
  obtain ⟨y0, y1, y2, y3, hR⟩ := hR
  refine ⟨by simp [World.setCell, Array.getElem?_modify, hR], (((hB.setCell (by exact hn) _).setCell (by exact hn) _).setCell (by exact hn) _).setCell (by exact hn) _, fun k hk => ?_⟩
  rw [Below.heap_setCell _ _ _ _ (by exact hk), Below.heap_setCell _ _ _ _ (by exact hk), Below.heap_setCell _ _ _ _ (by exact hk), Below.heap_setCell _ _ _ _ (by exact hk)]

set_option maxRecDepth 100000 in
set_option maxHeartbeats 16000000 in
theorem specCollect (T : HeapD) (rs : List Int) (cs : List Value) (v : Value) (w : World) (hw : (wt T) ≤ 1048576) (hrl : rs.length ≤ 1048576) (h : heapSh.rep w (· < w.heap.size) cs T) (hv : intsSh.rep w (· < w.heap.size) [v] rs) :
    Calls Tryz.prog 7 #[.agg cs.toArray, v] w fun e w' => ColOut w w' e (collectF T rs).1 (collectF T rs).2 ∧ Below w.heap.size w w' := by
  have AH : Hid (∀ w' : World, Below w.heap.size w w' → heapSh.rep w' (· < w'.heap.size) cs T) := fun w' hb => heapSh.mono (heapSh.below h hb) fun b hlt => Nat.lt_of_lt_of_le hlt hb.size
  have AV : Hid (∀ w' : World, Below w.heap.size w w' → intsSh.rep w' (· < w'.heap.size) [v] rs) := fun w' hb => intsSh.mono (intsSh.below hv hb) fun b hlt => Nat.lt_of_lt_of_le hlt hb.size
  obtain ⟨W, a0, c0, half, base, next, rfl, rfl, f0, f1, f2, f3⟩ := heap_open h
  obtain ⟨ar, cr, rfl, hcap, hmax, hat⟩ := ints_open hv
  have HAT : Hid _ := hat
  have RNG : Hid (∀ y ∈ rs, InR y) := fun y hy => by
    obtain ⟨j, hj, e⟩ := List.getElem_of_mem hy
    obtain ⟨_, _, _, _, _, r3, r4⟩ := hat j hj
    rw [← e]; exact ⟨r3, r4⟩
  have HW : Hid (wt (W, half, base, next) ≤ 1048576) := hw
  have HIR : Hid (InR half ∧ InR base ∧ InR next) := ⟨f1, f2, f3⟩
  obtain ⟨w0, hw0⟩ : ∃ w0, w0 = (w.alloc (.cells #[.slice a0 W.length c0, .int .i64 half, .int .i64 base, .int .i64 next] 26)).alloc (.cells #[.slice none 0 0, .int .i64 0, .int .i64 0, .int .i64 0] 26) := ⟨_, rfl⟩
  have B0 : Hid (Below w.heap.size w w0 ∧ w0.heap.size = w.heap.size + 2) := by rw [hw0]; exact ⟨((Below.refl _ _).alloc (Nat.le_refl _) _).alloc (by simp) _, by simp⟩
  have X0 : Hid (w0.heap[w.heap.size]? = some (.cells #[.slice a0 W.length c0, .int .i64 half, .int .i64 base, .int .i64 next] 26) ∧ w0.heap[w.heap.size + 1]? = some (.cells #[.slice none 0 0, .int .i64 0, .int .i64 0, .int .i64 0] 26)) := by
    rw [hw0]
    refine ⟨?_, ?_⟩
    · rw [Below.heap_alloc _ _ _ (by simp)]; exact alloc_top _ _
    · have := alloc_top (w.alloc (.cells #[.slice a0 W.length c0, .int .i64 half, .int .i64 base, .int .i64 next] 26)) (.cells #[.slice none 0 0, .int .i64 0, .int .i64 0, .int .i64 0] 26)
      rwa [World.size_alloc] at this
  have hcall := specRight (W, half, base, next) rs _ _ _ (AH.out _ B0.out.1) (AV.out _ B0.out.1)
  rw [hw0] at hcall
  have HW00 : Hid (w0 = (w.alloc (.cells #[.slice a0 W.length c0, .int .i64 half, .int .i64 base, .int .i64 next] 26)).alloc (.cells #[.slice none 0 0, .int .i64 0, .int .i64 0, .int .i64 0] 26)) := hw0
  obtain ⟨R, hR⟩ : ∃ R, R = collectF (W, half, base, next) rs := ⟨_, rfl⟩
  have HR : Hid (R = collectF (W, half, base, next) rs) := hR
  rw [← hR]
  clear h hv f0 hcap hmax hat f1 f2 f3 hw hw0 hR
  rcases q1 : rightB (W, half, base, next) rs with _ | _
  · have HF : Hid (R = ((W, half, base, next), rs)) := by show _ = _; rw [HR.out]; unfold collectF; rw [q1]; rfl
    rw [q1] at hcall
    clear q1
    obtain ⟨ti, hti, hz0, hz1, hz2⟩ := int_info
    have TI : Hid (Tryz.prog.info? 3 = some ti ∧ ti.zero = some (.int .i64 0) ∧ ti.size = 1 ∧ ti.bytes = 8) := ⟨hti, hz0, hz1, hz2⟩
    clear hti hz0 hz1 hz2
    cases ar with
    | none =>
      have hrs : rs = [] := by
        cases rs with
        | nil => rfl
        | cons x xs => obtain ⟨b, o, e, _⟩ := HAT.out 0 (by simp); cases e
      subst hrs
      clear HAT RNG
      go_enter Tryz.func7, Tryz.ntmps7
      go_wp2_with fail
      refine hcall.mono ?_
      rintro e w1 ⟨rfl, hb⟩
      rw [← HW00.out] at hb
      have B1 : Hid (Below w.heap.size w w1 ∧ Below (w.heap.size + 2) w0 w1) := ⟨B0.out.1.trans (hb.mono (by have := B0.out.2; omega)), by have := hb; rw [B0.out.2] at this; exact this⟩
      have k0 : w1.cell? ⟨w.heap.size, 0, none⟩ = some (.slice a0 W.length c0) := blk_cellM (i := 0) ((B1.out.2.block _ (by omega)).trans X0.out.1) rfl
      have k1 : w1.cell? ⟨w.heap.size, 1, none⟩ = some (.int .i64 half) := blk_cellM (i := 1) ((B1.out.2.block _ (by omega)).trans X0.out.1) rfl
      have k2 : w1.cell? ⟨w.heap.size, 2, none⟩ = some (.int .i64 base) := blk_cellM (i := 2) ((B1.out.2.block _ (by omega)).trans X0.out.1) rfl
      have k3 : w1.cell? ⟨w.heap.size, 3, none⟩ = some (.int .i64 next) := blk_cellM (i := 3) ((B1.out.2.block _ (by omega)).trans X0.out.1) rfl
      have hc2 := copy_is (W, half, base, next) _ w1 HW.out (AH.out _ B1.out.1)
      dsimp only at hc2
      clear hcall hb
      go_wp2_with fail
      refine hc2.mono ?_
      rintro e w2 ⟨⟨aa, cc, rfl, hr1⟩, hb2⟩
      have B2 : Hid (Below w.heap.size w w2 ∧ Below (w.heap.size + 2) w0 w2) := ⟨B1.out.1.trans (hb2.mono B1.out.1.size), B1.out.2.trans (hb2.mono (by have := B1.out.2.size; have := B0.out.2; omega))⟩
      have Z1 : Hid (w.heap.size + 2 ≤ w1.heap.size ∧ w1.heap.size ≤ w2.heap.size) := ⟨by have := B1.out.2.size; have := B0.out.2; omega, hb2.size⟩
      have KR : Hid (IRow w2 w1.heap.size (.slice aa W.length cc) W) := hr1
      clear hc2 hr1 hb2 k0 k1 k2 k3
      have hGA : (w2.alloc (.cells #[] 3)).heap[w.heap.size + 1]? = some (.cells #[.slice none 0 0, .int .i64 0, .int .i64 0, .int .i64 0] 26) := by
        rw [Below.heap_alloc _ _ _ (by have := Z1.out; omega)]; exact (B2.out.2.block _ (by omega)).trans X0.out.2
      have z0 : (w2.alloc (.cells #[] 3)).cell? ⟨w.heap.size + 1, 0, none⟩ = some (.slice none 0 0) := blk_cellM (i := 0) hGA rfl
      have z1 : (w2.alloc (.cells #[] 3)).cell? ⟨w.heap.size + 1, 1, none⟩ = some (.int .i64 0) := blk_cellM (i := 1) hGA rfl
      have z2 : (w2.alloc (.cells #[] 3)).cell? ⟨w.heap.size + 1, 2, none⟩ = some (.int .i64 0) := blk_cellM (i := 2) hGA rfl
      have z3 : (w2.alloc (.cells #[] 3)).cell? ⟨w.heap.size + 1, 3, none⟩ = some (.int .i64 0) := blk_cellM (i := 3) hGA rfl
      have zf : ∀ j, (w2.alloc (.cells #[] 3)).frozen? ⟨w.heap.size + 1, j, none⟩ = false := fun j => blk_freeM hGA
      have HSET : Hid _ := res_set (x0 := .slice aa W.length cc) (x1 := .int .i64 half) (x2 := .int .i64 base) (x3 := .int .i64 next) (B := w.heap.size) (B2.out.1.alloc B2.out.1.size (.cells #[] 3)) (n0 := w.heap.size + 1) (by omega) ⟨_, _, _, _, hGA⟩
      have LI : Hid (IRow (w2.alloc (.cells #[] 3)) w2.heap.size (.slice (some ⟨w2.heap.size, 0, none⟩) 0 0) []) := irow_lit0 w2 (Nat.le_refl _)
      clear hGA
      go_wp2
      obtain ⟨hs1, hs2, hs3⟩ := HSET.out
      generalize World.setCell _ _ _ = wE at hs1 hs2 hs3 ⊢
      have n0 : wE.cell? ⟨w.heap.size + 1, 0, none⟩ = some (.slice aa W.length cc) := blk_cellM (i := 0) hs1 rfl
      have n1 : wE.cell? ⟨w.heap.size + 1, 1, none⟩ = some (.int .i64 half) := blk_cellM (i := 1) hs1 rfl
      have n2 : wE.cell? ⟨w.heap.size + 1, 2, none⟩ = some (.int .i64 base) := blk_cellM (i := 2) hs1 rfl
      have n3 : wE.cell? ⟨w.heap.size + 1, 3, none⟩ = some (.int .i64 next) := blk_cellM (i := 3) hs1 rfl
      refine bodyPost_ret (v := .tuple #[.agg #[.slice aa W.length cc, .int .i64 half, .int .i64 base, .int .i64 next], .slice (some ⟨w2.heap.size, 0, none⟩) 0 0]) (by simp [results, Tryz.f7, go_sem, n0, n1, n2, n3]) rfl ?_
      rw [HF.out]
      have hz := Z1.out
      refine ⟨⟨aa, cc, .slice (some ⟨w2.heap.size, 0, none⟩) 0 0, rfl, ?_, ?_, (fun k hk hk2 => ?_), HIR.out.1, HIR.out.2.1, HIR.out.2.2⟩, hs2⟩
      · refine irow_base0 (irow_sameM KR.out fun k hk => ?_) (by omega)
        have := KR.out.lt k hk
        exact (hs3 k (by omega)).trans (Below.heap_alloc _ _ _ this.2)
      · refine irow_base0 (irow_sameM LI.out fun k hk => hs3 k ?_) (by omega)
        have := LI.out.lt k hk
        omega
      · have h1 := KR.out.lt k hk
        have h2 := LI.out.lt k hk2
        omega
    | some ad =>
      go_enter Tryz.func7, Tryz.ntmps7
      go_wp2_with fail
      refine hcall.mono ?_
      rintro e w1 ⟨rfl, hb⟩
      rw [← HW00.out] at hb
      have B1 : Hid (Below w.heap.size w w1 ∧ Below (w.heap.size + 2) w0 w1) := ⟨B0.out.1.trans (hb.mono (by have := B0.out.2; omega)), by have := hb; rw [B0.out.2] at this; exact this⟩
      have k0 : w1.cell? ⟨w.heap.size, 0, none⟩ = some (.slice a0 W.length c0) := blk_cellM (i := 0) ((B1.out.2.block _ (by omega)).trans X0.out.1) rfl
      have k1 : w1.cell? ⟨w.heap.size, 1, none⟩ = some (.int .i64 half) := blk_cellM (i := 1) ((B1.out.2.block _ (by omega)).trans X0.out.1) rfl
      have k2 : w1.cell? ⟨w.heap.size, 2, none⟩ = some (.int .i64 base) := blk_cellM (i := 2) ((B1.out.2.block _ (by omega)).trans X0.out.1) rfl
      have k3 : w1.cell? ⟨w.heap.size, 3, none⟩ = some (.int .i64 next) := blk_cellM (i := 3) ((B1.out.2.block _ (by omega)).trans X0.out.1) rfl
      have hc2 := copy_is (W, half, base, next) _ w1 HW.out (AH.out _ B1.out.1)
      dsimp only at hc2
      clear hcall hb
      go_wp2_with fail
      refine hc2.mono ?_
      rintro e w2 ⟨⟨aa, cc, rfl, hr1⟩, hb2⟩
      have B2 : Hid (Below w.heap.size w w2 ∧ Below (w.heap.size + 2) w0 w2) := ⟨B1.out.1.trans (hb2.mono B1.out.1.size), B1.out.2.trans (hb2.mono (by have := B1.out.2.size; have := B0.out.2; omega))⟩
      have Z1 : Hid (w.heap.size + 2 ≤ w1.heap.size ∧ w1.heap.size ≤ w2.heap.size) := ⟨by have := B1.out.2.size; have := B0.out.2; omega, hb2.size⟩
      have KR : Hid (IRow w2 w1.heap.size (.slice aa W.length cc) W) := hr1
      clear hc2 hr1 hb2 k0 k1 k2 k3
      have hCL : w2.cell? ⟨w.heap.size + 1, 0, none⟩ = some (.slice none 0 0) := blk_cellM (i := 0) ((B2.out.2.block _ (by omega)).trans X0.out.2) rfl
      have L0 : Hid ((w2.alloc (.cells #[] 3)).ownsRow w2.heap.size 3 1 (.slice (some ⟨w2.heap.size, 0, none⟩) 0 0) 0 []) := World.ownsRow_lit w2 #[] 0 (Nat.le_refl _) (Nat.zero_le _) rfl
      have NA : Hid (∀ j u, (rs.map (Value.int .i64))[j]? = some u → (w2.alloc (.cells #[] 3)).cell? (ad.add j) = some u) := fun j u hu => by
        rw [List.getElem?_map] at hu
        obtain ⟨y, hy, rfl⟩ := Option.map_eq_some_iff.1 hu
        obtain ⟨h1, rfl⟩ := List.getElem?_eq_some_iff.1 hy
        obtain ⟨b, o, e, hS, hc, -⟩ := HAT.out j h1
        cases e
        have hS' : b < w.heap.size := hS
        rw [add_plain, ((Below.refl _ w2).alloc (Nat.le_refl _) _).cell (p := ⟨b, o + j, none⟩) (by have := B2.out.1.size; show b < w2.heap.size; omega), B2.out.1.cell (p := ⟨b, o + j, none⟩) hS]
        exact hc
      have O1 : Hid (∀ u ∈ rs.map (Value.int .i64), u.oneCell' = true) := fun u hu => by
        obtain ⟨y, _, rfl⟩ := List.mem_map.1 hu; rfl
      have LM : Hid ((rs.map (Value.int .i64)).length = rs.length * 1) := by show _ = _; simp
      clear hCL
      go_wp2_with (at_builtin; refine wpList_append_own_at _ rfl (.tmp 14) (.tmp 15) 24 rfl w2.heap.size 3 ti _ 1 8 Tryz.underlying24 TI.out.1 TI.out.2.1 TI.out.2.2.1 TI.out.2.2.2 rfl (by decide) (.slice (some ⟨w2.heap.size, 0, none⟩) 0 0) 0 [] rfl L0.out ad rs.length cr (rs.map (Value.int .i64)) rfl LM.out NA.out O1.out (by unfold maxLen; omega) (by omega) (by simp) ?_; intro v3 w3 o3 g3 n3 a3
                   obtain ⟨a3', c3', rfl⟩ := own_form o3
                   have hB3 : Below w2.heap.size w2 w3 := ((Below.refl _ w2).alloc (Nat.le_refl _) _).grown g3 (by simp) (fun k hk => by cases hk; exact Nat.le_refl _)
                   have I3 : Hid (IRow w3 w2.heap.size (.slice a3' (0 + rs.length) c3') rs) := ⟨by have := o3; rw [Nat.zero_add, List.nil_append] at this; rw [Nat.zero_add]; exact this, RNG.out⟩
                   have hGA : w3.heap[w.heap.size + 1]? = some (.cells #[.slice none 0 0, .int .i64 0, .int .i64 0, .int .i64 0] 26) := (hB3.block _ (by have := Z1.out; omega)).trans ((B2.out.2.block _ (by omega)).trans X0.out.2)
                   have z0 : w3.cell? ⟨w.heap.size + 1, 0, none⟩ = some (.slice none 0 0) := blk_cellM (i := 0) hGA rfl
                   have z1 : w3.cell? ⟨w.heap.size + 1, 1, none⟩ = some (.int .i64 0) := blk_cellM (i := 1) hGA rfl
                   have z2 : w3.cell? ⟨w.heap.size + 1, 2, none⟩ = some (.int .i64 0) := blk_cellM (i := 2) hGA rfl
                   have z3 : w3.cell? ⟨w.heap.size + 1, 3, none⟩ = some (.int .i64 0) := blk_cellM (i := 3) hGA rfl
                   have zf : ∀ j, w3.frozen? ⟨w.heap.size + 1, j, none⟩ = false := fun j => blk_freeM hGA
                   have HSET : Hid _ := res_set (x0 := .slice aa W.length cc) (x1 := .int .i64 half) (x2 := .int .i64 base) (x3 := .int .i64 next) (B := w.heap.size) (B2.out.1.trans (hB3.mono B2.out.1.size)) (n0 := w.heap.size + 1) (by omega) ⟨_, _, _, _, hGA⟩
                   have KR3 : Hid (IRow w3 w1.heap.size (.slice aa W.length cc) W) := KR.out.keep hB3
                   clear hB3 hGA o3 g3 n3 a3)
      obtain ⟨hs1, hs2, hs3⟩ := HSET.out
      generalize World.setCell _ _ _ = wE at hs1 hs2 hs3 ⊢
      have n0 : wE.cell? ⟨w.heap.size + 1, 0, none⟩ = some (.slice aa W.length cc) := blk_cellM (i := 0) hs1 rfl
      have n1 : wE.cell? ⟨w.heap.size + 1, 1, none⟩ = some (.int .i64 half) := blk_cellM (i := 1) hs1 rfl
      have n2 : wE.cell? ⟨w.heap.size + 1, 2, none⟩ = some (.int .i64 base) := blk_cellM (i := 2) hs1 rfl
      have n3 : wE.cell? ⟨w.heap.size + 1, 3, none⟩ = some (.int .i64 next) := blk_cellM (i := 3) hs1 rfl
      refine bodyPost_ret (v := .tuple #[.agg #[.slice aa W.length cc, .int .i64 half, .int .i64 base, .int .i64 next], .slice a3' (0 + rs.length) c3']) (by simp [results, Tryz.f7, go_sem, n0, n1, n2, n3]) rfl ?_
      rw [HF.out]
      have hz := Z1.out
      refine ⟨⟨aa, cc, .slice a3' (0 + rs.length) c3', rfl, ?_, ?_, (fun k hk hk2 => ?_), HIR.out.1, HIR.out.2.1, HIR.out.2.2⟩, hs2⟩
      · refine irow_base0 (irow_sameM KR3.out fun k hk => hs3 k ?_) (by omega)
        have := KR3.out.lt k hk
        omega
      · refine irow_base0 (irow_sameM I3.out fun k hk => hs3 k ?_) (by omega)
        have := I3.out.lt k hk
        omega
      · have h1 := KR.out.lt k hk
        have h2 := I3.out.lt k hk2
        omega
  · rw [q1] at hcall
    have Q1 : Hid (rightB (W, half, base, next) rs = true) := q1
    have HF : Hid (R = (((endC (W, half, base, next) rs).1, half, half - base, ((endC (W, half, base, next) rs).2.1 : Int)), (rootsC W (startC (W, half, base, next)) rs).2)) := by show _ = _; rw [HR.out]; unfold collectF; rw [q1]; rfl
    clear q1
    go_enter Tryz.func7, Tryz.ntmps7
    go_wp2_with fail
    refine hcall.mono ?_
    rintro e w1 ⟨rfl, hb⟩
    rw [← HW00.out] at hb
    have B1 : Hid (Below w.heap.size w w1 ∧ Below (w.heap.size + 2) w0 w1) := ⟨B0.out.1.trans (hb.mono (by have := B0.out.2; omega)), by have := hb; rw [B0.out.2] at this; exact this⟩
    have k0 : w1.cell? ⟨w.heap.size, 0, none⟩ = some (.slice a0 W.length c0) := blk_cellM (i := 0) ((B1.out.2.block _ (by omega)).trans X0.out.1) rfl
    have k1 : w1.cell? ⟨w.heap.size, 1, none⟩ = some (.int .i64 half) := blk_cellM (i := 1) ((B1.out.2.block _ (by omega)).trans X0.out.1) rfl
    have k2 : w1.cell? ⟨w.heap.size, 2, none⟩ = some (.int .i64 base) := blk_cellM (i := 2) ((B1.out.2.block _ (by omega)).trans X0.out.1) rfl
    have k3 : w1.cell? ⟨w.heap.size, 3, none⟩ = some (.int .i64 next) := blk_cellM (i := 3) ((B1.out.2.block _ (by omega)).trans X0.out.1) rfl
    have hc2 := specCollectW (W, half, base, next) rs _ _ w1 Q1.out hrl (AH.out _ B1.out.1) (AV.out _ B1.out.1)
    dsimp only at hc2
    clear hcall hb
    obtain ⟨E, hE⟩ : ∃ E, E = endC (W, half, base, next) rs := ⟨_, rfl⟩
    rw [← hE] at hc2
    have HF2 : Hid (R = ((E.1, half, half - base, (E.2.1 : Int)), (rootsC W (startC (W, half, base, next)) rs).2)) := by show _ = _; rw [HF.out, hE]
    clear hE HF
    go_wp2_with fail
    refine hc2.mono ?_
    rintro e w2 ⟨⟨q, v2, rfl, hr1, hr2, hap, hnx⟩, hb2⟩
    have HNX : Hid (E.2.1 ≤ 6000) := hnx
    clear hnx
    have B2 : Hid (Below w.heap.size w w2 ∧ Below (w.heap.size + 2) w0 w2) := ⟨B1.out.1.trans (hb2.mono B1.out.1.size), B1.out.2.trans (hb2.mono (by have := B1.out.2.size; have := B0.out.2; omega))⟩
    have Z1 : Hid (w.heap.size + 2 ≤ w1.heap.size ∧ w1.heap.size ≤ w2.heap.size) := ⟨by have := B1.out.2.size; have := B0.out.2; omega, hb2.size⟩
    have KR : Hid (IRow w2 w1.heap.size (.slice (some ⟨q, 0, none⟩) E.1.length E.1.length) E.1 ∧ IRow w2 w1.heap.size v2 (rootsC W (startC (W, half, base, next)) rs).2 ∧ v2.ownBlock ≠ some q) := ⟨hr1, hr2, hap⟩
    have hRb : w2.heap[w.heap.size + 1]? = some (.cells #[.slice none 0 0, .int .i64 0, .int .i64 0, .int .i64 0] 26) := (B2.out.2.block _ (by omega)).trans X0.out.2
    have HRB : Hid (w2.heap[w.heap.size + 1]? = some (.cells #[.slice none 0 0, .int .i64 0, .int .i64 0, .int .i64 0] 26)) := hRb
    obtain ⟨a2, c2, hv2⟩ := own_form hr2.1
    subst hv2
    obtain ⟨MM, hMM⟩ : ∃ MM, MM = (rootsC W (startC (W, half, base, next)) rs).2 := ⟨_, rfl⟩
    rw [← hMM] at KR HF2 ⊢
    have hGA : (w2.alloc (.cells #[.slice (some ⟨q, 0, none⟩) E.1.length E.1.length, .int .i64 half, .int .i64 (half - base), .int .i64 E.2.1] 26)).heap[w.heap.size + 1]? = some (.cells #[.slice none 0 0, .int .i64 0, .int .i64 0, .int .i64 0] 26) := by
      rw [Below.heap_alloc _ _ _ (by have := Z1.out; omega)]; exact HRB.out
    have z0 : (w2.alloc (.cells #[.slice (some ⟨q, 0, none⟩) E.1.length E.1.length, .int .i64 half, .int .i64 (half - base), .int .i64 E.2.1] 26)).cell? ⟨w.heap.size + 1, 0, none⟩ = some (.slice none 0 0) := blk_cellM (i := 0) hGA rfl
    have z1 : (w2.alloc (.cells #[.slice (some ⟨q, 0, none⟩) E.1.length E.1.length, .int .i64 half, .int .i64 (half - base), .int .i64 E.2.1] 26)).cell? ⟨w.heap.size + 1, 1, none⟩ = some (.int .i64 0) := blk_cellM (i := 1) hGA rfl
    have z2 : (w2.alloc (.cells #[.slice (some ⟨q, 0, none⟩) E.1.length E.1.length, .int .i64 half, .int .i64 (half - base), .int .i64 E.2.1] 26)).cell? ⟨w.heap.size + 1, 2, none⟩ = some (.int .i64 0) := blk_cellM (i := 2) hGA rfl
    have z3 : (w2.alloc (.cells #[.slice (some ⟨q, 0, none⟩) E.1.length E.1.length, .int .i64 half, .int .i64 (half - base), .int .i64 E.2.1] 26)).cell? ⟨w.heap.size + 1, 3, none⟩ = some (.int .i64 0) := blk_cellM (i := 3) hGA rfl
    have zf : ∀ j, (w2.alloc (.cells #[.slice (some ⟨q, 0, none⟩) E.1.length E.1.length, .int .i64 half, .int .i64 (half - base), .int .i64 E.2.1] 26)).frozen? ⟨w.heap.size + 1, j, none⟩ = false := fun j => blk_freeM hGA
    have HSET : Hid _ := res_set (x0 := .slice (some ⟨q, 0, none⟩) E.1.length E.1.length) (x1 := .int .i64 half) (x2 := .int .i64 (half - base)) (x3 := .int .i64 E.2.1) (B := w.heap.size) (B2.out.1.alloc B2.out.1.size (.cells #[.slice (some ⟨q, 0, none⟩) E.1.length E.1.length, .int .i64 half, .int .i64 (half - base), .int .i64 E.2.1] 26)) (n0 := w.heap.size + 1) (by omega) ⟨_, _, _, _, hGA⟩
    clear hc2 hr1 hr2 hap hb2 hRb hMM hGA k0 k1 k2 k3
    go_wp2
    obtain ⟨hs1, hs2, hs3⟩ := HSET.out
    generalize World.setCell _ _ _ = wE at hs1 hs2 hs3 ⊢
    have n0 : wE.cell? ⟨w.heap.size + 1, 0, none⟩ = some (.slice (some ⟨q, 0, none⟩) E.1.length E.1.length) := blk_cellM (i := 0) hs1 rfl
    have n1 : wE.cell? ⟨w.heap.size + 1, 1, none⟩ = some (.int .i64 half) := blk_cellM (i := 1) hs1 rfl
    have n2 : wE.cell? ⟨w.heap.size + 1, 2, none⟩ = some (.int .i64 (half - base)) := blk_cellM (i := 2) hs1 rfl
    have n3 : wE.cell? ⟨w.heap.size + 1, 3, none⟩ = some (.int .i64 E.2.1) := blk_cellM (i := 3) hs1 rfl
    refine bodyPost_ret (v := .tuple #[.agg #[.slice (some ⟨q, 0, none⟩) E.1.length E.1.length, .int .i64 half, .int .i64 (half - base), .int .i64 E.2.1], .slice a2 MM.length c2]) (by simp [results, Tryz.f7, go_sem, n0, n1, n2, n3]) rfl ?_
    rw [HF2.out]
    have hz := Z1.out
    have hh := head_in (heap_head (right_is Q1.out).1)
    dsimp only at hh
    refine ⟨⟨some ⟨q, 0, none⟩, E.1.length, .slice a2 MM.length c2, rfl, ?_, ?_, (fun k hk hk2 => ?_), by unfold InR; show _ ≤ half ∧ half ≤ _; omega, by unfold InR; show _ ≤ half - base ∧ half - base ≤ _; omega, by unfold InR; show _ ≤ (E.2.1 : Int) ∧ (E.2.1 : Int) ≤ _; have := HNX.out; omega⟩, hs2⟩
    · refine irow_base0 (irow_sameM KR.out.1 fun k hk => ?_) (by omega)
      have := KR.out.1.lt k hk
      exact (hs3 k (by omega)).trans (Below.heap_alloc _ _ _ this.2)
    · refine irow_base0 (irow_sameM KR.out.2.1 fun k hk => ?_) (by omega)
      have := KR.out.2.1.lt k hk
      exact (hs3 k (by omega)).trans (Below.heap_alloc _ _ _ this.2)
    · simp only [Value.ownBlock, Option.some.injEq] at hk
      subst hk
      exact KR.out.2.2 hk2

end Go.Proofs.YthpdkjenadngoaaGreatDoor.heap

namespace Go.Proofs.YthpdkjenadngoaaGreatDoor.heap
open Go Go.RowKit Go.Proofs.YthpdkjenadngoaaGreatDoor.rose Go.Proofs.YthpdkjenadngoaaGreatDoor Go.Proofs.YthpdkjenadngoaaGreatDoor.fun Go.Proofs.YthpdkjenadngoaaGreatDoor.ints
set_option linter.unusedVariables false
set_option linter.unusedSimpArgs false

/-- A new heap: nothing is in use. -/
def newF (n : Int) : HeapD × Bool := if inB n 1 3000 then ((List.replicate (2 * n).toNat 0, n, 0, 0), true) else (([], 0, 0, 0), false)

theorem infoN_int : (Tryz.prog.info? 3).map (fun i => (i.zero, i.size, i.bytes)) = some (some (.int .i64 0), 1, 8) := by kernel_rfl
theorem make_ints (n : Nat) (h : n ≤ 1048576) (w : World) : (Instr.makeSlice 24 (.int .i64 (n : Int)) (.int .i64 (n : Int))).run Tryz.prog w = .ok (.slice (some ⟨w.heap.size, 0, none⟩) n n)
    (w.alloc (.cells (madeCells #[.int .i64 0] (n * 1)) 3)) := by
  obtain ⟨i, hi, hzz⟩ := Option.map_eq_some_iff.1 infoN_int
  simp only [Prod.mk.injEq] at hzz
  obtain ⟨hz, hs, hb⟩ := hzz
  have := run_make (P := Tryz.prog) w 24 3 i _ Tryz.underlying24 hi hz .i64 .i64 n n (by omega) (by omega) (by rw [hb]; omega) (by omega)
  simpa [hs, Value.cells] using this
theorem made_row (n : Nat) (h : n ≤ 1048576) (w : World) {base : Nat} (hb : base ≤ w.heap.size) : IRow (w.alloc (.cells (madeCells #[.int .i64 0] (n * 1)) 3)) base (.slice (some ⟨w.heap.size, 0, none⟩) n n) (List.replicate n 0) := by
  refine ⟨⟨by simp, Or.inr ⟨w.heap.size, n, madeCells #[.int .i64 0] (n * 1), by simp, hb, alloc_top _ _, by simp, by unfold maxLen; omega, by simp [madeCells], ?_⟩⟩, fun x hx => ?_⟩
  · simp [madeCells]
    rw [List.take_of_length_le (by simp)]
    refine List.eq_replicate_iff.2 ⟨by simp, fun b hb => ?_⟩
    obtain ⟨x, -, rfl⟩ := List.mem_map.1 hb
    rw [Nat.mod_one]
    rfl
  · rw [List.mem_replicate] at hx; unfold InR; omega

set_option maxHeartbeats 2000000 in
theorem specHeapNew (n : Int) (w : World) (h1 : -9223372036854775808 ≤ n) (h2 : n ≤ 9223372036854775807) :
    Calls Tryz.prog 71 #[.int .i64 n] w fun e w' => (∃ cs', e = .returned (.tuple #[.agg cs'.toArray, .bool (newF n).2]) ∧ heapSp.rep w' (fun b => w.heap.size ≤ b ∧ b < w'.heap.size) cs' (newF n).1) ∧ Below w.heap.size w w' := by
  rcases q : inB n 1 3000 with _ | _
  · have HQ : Hid (newF n = (([], 0, 0, 0), false)) := by show _ = _; unfold newF; rw [q]; rfl
    go_enter Tryz.func71, Tryz.ntmps71
    go_wp2_with (go_at_call 87; refine (in_is q).mono ?_; rintro e w' ⟨rfl, hx⟩; subst w')
    refine bodyPost_ret (v := .tuple #[.agg #[.slice none 0 0, .int .i64 0, .int .i64 0, .int .i64 0], .bool false]) (by simp [results, Tryz.f71, go_sem]) rfl ?_
    rw [HQ.out]
    refine ⟨⟨[.slice none 0 0, .int .i64 0, .int .i64 0, .int .i64 0], rfl, heapp_shutv (IRow.nil _ w.heap.size).sp (by omega) (by omega) (by omega)⟩, ?_⟩
    exact (Below.refl _ _).alloc (Nat.le_refl _) _
  · have q1 := inB_yes q
    obtain ⟨m, rfl⟩ : ∃ m : Nat, n = m := ⟨n.toNat, by omega⟩
    have HQ : Hid (newF m = ((List.replicate (2 * m) 0, (m : Int), 0, 0), true)) := by
      show _ = _; unfold newF; rw [q]; simp only [if_true]
      rw [show (2 * (m : Int)).toNat = 2 * m by omega]
    have hmk := make_ints (2 * m) (by omega)
    have hcast : ((2 * m : Nat) : Int) = 2 * (m : Int) := by omega
    rw [hcast] at hmk
    go_enter Tryz.func71, Tryz.ntmps71
    go_wp2_with (go_at_call 87; refine (in_is q).mono ?_; rintro e w' ⟨rfl, hx⟩; subst w')
    refine bodyPost_ret (v := .tuple #[.agg #[.slice (some ⟨w.heap.size + 1, 0, none⟩) (2 * m) (2 * m), .int .i64 m, .int .i64 0, .int .i64 0], .bool true]) (by simp [results, Tryz.f71, go_sem]) rfl ?_
    rw [HQ.out]
    have hr := made_row (2 * m) (by omega) (w.alloc (.cells #[.slice (some ⟨w.heap.size + 1, 0, none⟩) (2 * m) (2 * m), .int .i64 m, .int .i64 0, .int .i64 0] 26)) (base := w.heap.size) (by simp)
    rw [World.size_alloc, Nat.mul_one] at hr
    exact ⟨⟨[.slice (some ⟨w.heap.size + 1, 0, none⟩) (2 * m) (2 * m), .int .i64 m, .int .i64 0, .int .i64 0], rfl, heapp_shutv hr.sp (by omega) (by omega) (by omega)⟩, ((Below.refl _ _).alloc (Nat.le_refl _) _).alloc (by simp) _⟩

end Go.Proofs.YthpdkjenadngoaaGreatDoor.heap

namespace Go.Proofs.YthpdkjenadngoaaGreatDoor.words
open Go Go.RowKit Go.Proofs.YthpdkjenadngoaaGreatDoor Go.Proofs.YthpdkjenadngoaaGreatDoor.fun
set_option linter.unusedVariables false
set_option linter.unusedSimpArgs false

set_option maxHeartbeats 1000000 in
theorem specIntWord (n : Int) (w : World) (h1 : -9223372036854775808 ≤ n) (h2 : n ≤ 9223372036854775807) :
    Calls Tryz.prog 72 #[.int .i64 n] w fun e w' => e = .returned (.int .i64 (intWordF n)) ∧ Below w.heap.size w w' := by
  rcases q : inB n (-1073741824) 1073741823 with _ | _
  · have HQ : Hid (intWordF n = 1) := by show _ = _; unfold intWordF; rw [q]; rfl
    go_enter Tryz.func72, Tryz.ntmps72
    go_wp2_with (go_at_call 88; refine (word_is q).mono ?_; rintro e w' ⟨rfl, hx⟩; subst w')
    go_ret
    exact ⟨ret_i HQ.out.symm, Below.refl _ _⟩
  · have HQ : Hid (intWordF n = 2 * n + 1) := by show _ = _; unfold intWordF; rw [q]; rfl
    have := inB_yes q
    go_enter Tryz.func72, Tryz.ntmps72
    go_wp2_with (go_at_call 88; refine (word_is q).mono ?_; rintro e w' ⟨rfl, hx⟩; subst w')
    go_ret
    exact ⟨ret_i HQ.out.symm, Below.refl _ _⟩
set_option maxHeartbeats 1000000 in
theorem specRefWord (n : Int) (w : World) (h1 : -9223372036854775808 ≤ n) (h2 : n ≤ 9223372036854775807) :
    Calls Tryz.prog 75 #[.int .i64 n] w fun e w' => e = .returned (.int .i64 (refWordF n)) ∧ Below w.heap.size w w' := by
  rcases q : inB n 0 6000 with _ | _
  · have HQ : Hid (refWordF n = 0) := by show _ = _; unfold refWordF; rw [q]; rfl
    go_enter Tryz.func75, Tryz.ntmps75
    go_wp2_with (go_at_call 87; refine (in_is q).mono ?_; rintro e w' ⟨rfl, hx⟩; subst w')
    go_ret
    exact ⟨ret_i HQ.out.symm, Below.refl _ _⟩
  · have HQ : Hid (refWordF n = 2 * n) := by show _ = _; unfold refWordF; rw [q]; rfl
    have := inB_yes q
    go_enter Tryz.func75, Tryz.ntmps75
    go_wp2_with (go_at_call 87; refine (in_is q).mono ?_; rintro e w' ⟨rfl, hx⟩; subst w')
    go_ret
    exact ⟨ret_i HQ.out.symm, Below.refl _ _⟩
set_option maxHeartbeats 1000000 in
theorem specIsRef (n : Int) (w : World) (h1 : -9223372036854775808 ≤ n) (h2 : n ≤ 9223372036854775807) :
    Calls Tryz.prog 58 #[.int .i64 n] w fun e w' => e = .returned (.bool (isRefF n)) ∧ Below w.heap.size w w' := by
  have ha := and_one n
  go_enter Tryz.func58, Tryz.ntmps58
  go_wp2
  go_ret
  exact ⟨ret_b (by unfold isRefF; rw [Bool.eq_iff_iff]; simp), Below.refl _ _⟩
set_option maxHeartbeats 1000000 in
theorem specWordInt (n : Int) (w : World) (h1 : -9223372036854775808 ≤ n) (h2 : n ≤ 9223372036854775807) :
    Calls Tryz.prog 65 #[.int .i64 n] w fun e w' => e = .returned (.int .i64 (halfF n)) ∧ Below w.heap.size w w' := by
  go_enter Tryz.func65, Tryz.ntmps65
  go_wp2
  go_ret
  exact ⟨ret_i (by unfold halfF; first | rfl | omega), Below.refl _ _⟩
set_option maxHeartbeats 1000000 in
theorem specWordRef (n : Int) (w : World) (h1 : -9223372036854775808 ≤ n) (h2 : n ≤ 9223372036854775807) :
    Calls Tryz.prog 60 #[.int .i64 n] w fun e w' => e = .returned (.int .i64 (halfF n)) ∧ Below w.heap.size w w' := by
  go_enter Tryz.func60, Tryz.ntmps60
  go_wp2
  go_ret
  exact ⟨ret_i (by unfold halfF; first | rfl | omega), Below.refl _ _⟩

end Go.Proofs.YthpdkjenadngoaaGreatDoor.words
