/-
  The model's Collect, at every heap and all roots; nothing that was there is turned.
  The program's WordOk; nothing is turned.
  The program's header: headerOf, ok, size, word; nothing that was there is turned.
  The numbers under which this program holds sync.Mutex, and that it holds it; the atomic number's Load and Add.
-/
import Derived.Test.YtojhldciehfhfaaChecked
import Derived.WalkKit
import Derived.WalkLawsBesides
import Derived.OwnWalk
import Derived.Conc.MuLone
import Derived.Test.YtojhldciehfhfaaB1
import Derived.Test.YtojhldciehfhfaaB2
import Derived.Test.YtojhldciehfhfaaB3
import Derived.Test.YtojhldciehfhfaaB4
import Derived.Test.YtojhldciehfhfaaB5
import Derived.Test.YtojhldciehfhfaaB6
import Derived.Test.YtojhldciehfhfaaB7
import Derived.Test.YtojhldciehfhfaaB8
import Derived.Test.YtojhldciehfhfaaB9
import Derived.Test.YtojhldciehfhfaaB10
import Derived.Test.YtojhldciehfhfaaB11
namespace Go.Proofs.Ytojhldciehfhfaa.heap
open Go Go.RowKit Go.Deep Go.Proofs.Ytojhldciehfhfaa.rose Go.Proofs.Ytojhldciehfhfaa Go.Proofs.Ytojhldciehfhfaa.fun Go.Proofs.Ytojhldciehfhfaa.words Go.Proofs.Ytojhldciehfhfaa.ints
set_option linter.unusedVariables false
set_option linter.unusedSimpArgs false

/-- The answer, its words and its roots apart. -/
def ColOut (w w' : World) (e : Ending) (T : HeapD) (rs : List Int) : Prop :=
  ∃ a c v', e = .returned (.tuple #[.agg #[.slice a T.1.length c, .int .i64 T.2.1, .int .i64 T.2.2.1, .int .i64 T.2.2.2], v']) ∧ IRow w' w.heap.size (.slice a T.1.length c) T.1 ∧ IRow w' w.heap.size v' rs ∧ (∀ k, (Value.slice a T.1.length c).ownBlock = some k → v'.ownBlock ≠ some k) ∧ InR T.2.1 ∧ InR T.2.2.1 ∧ InR T.2.2.2

theorem res_set {w wr : World} {B : Nat} {n0 : Nat} {x0 x1 x2 x3 : Value} (hB : Below B w wr) (hn : B ≤ n0) (hR : ∃ y0 y1 y2 y3, wr.heap[n0]? = some (.cells #[y0, y1, y2, y3] 26)) :
    ((((wr.setCell ⟨n0, 0, none⟩ x0).setCell ⟨n0, 1, none⟩ x1).setCell ⟨n0, 2, none⟩ x2).setCell ⟨n0, 3, none⟩ x3).heap[n0]? = some (.cells #[x0, x1, x2, x3] 26) ∧
    Below B w ((((wr.setCell ⟨n0, 0, none⟩ x0).setCell ⟨n0, 1, none⟩ x1).setCell ⟨n0, 2, none⟩ x2).setCell ⟨n0, 3, none⟩ x3) ∧
    ∀ k, k ≠ n0 → ((((wr.setCell ⟨n0, 0, none⟩ x0).setCell ⟨n0, 1, none⟩ x1).setCell ⟨n0, 2, none⟩ x2).setCell ⟨n0, 3, none⟩ x3).heap[k]? = wr.heap[k]? := by
  obtain ⟨y0, y1, y2, y3, hR⟩ := hR
  refine ⟨by simp [World.setCell, Array.getElem?_modify, hR], (((hB.setCell (by exact hn) _).setCell (by exact hn) _).setCell (by exact hn) _).setCell (by exact hn) _, fun k hk => ?_⟩
  rw [Below.heap_setCell _ _ _ _ (by exact hk), Below.heap_setCell _ _ _ _ (by exact hk), Below.heap_setCell _ _ _ _ (by exact hk), Below.heap_setCell _ _ _ _ (by exact hk)]

set_option maxRecDepth 100000 in
set_option maxHeartbeats 16000000 in
theorem specCollect (T : HeapD) (rs : List Int) (cs : List Value) (v : Value) (w : World) (hw : (wt T) ≤ 1048576) (hrl : rs.length ≤ 1048576) (h : heapSh.rep w (· < w.heap.size) cs T) (hv : intsSh.rep w (· < w.heap.size) [v] rs) :
    Calls Try.prog 5 #[.agg cs.toArray, v] w fun e w' => ColOut w w' e (collectF T rs).1 (collectF T rs).2 ∧ Below w.heap.size w w' := by
  have AH : Hid (∀ w' : World, Below w.heap.size w w' → heapSh.rep w' (· < w'.heap.size) cs T) := fun w' hb => heapSh.mono (heapSh.below h hb) fun b hlt => Nat.lt_of_lt_of_le hlt hb.size
  have AV : Hid (∀ w' : World, Below w.heap.size w w' → intsSh.rep w' (· < w'.heap.size) [v] rs) := fun w' hb => intsSh.mono (intsSh.below hv hb) fun b hlt => Nat.lt_of_lt_of_le hlt hb.size
  obtain ⟨W, a0, c0, half, base, next, rfl, rfl, f0, f1, f2, f3⟩ := heap_open h
  obtain ⟨ar, cr, rfl, hcap, hmax, hat⟩ := ints_open hv
  have HAT : Hid _ := hat
  have RNG : Hid (∀ y ∈ rs, InR y) := fun y hy => by
    obtain ⟨j, hj, e⟩ := List.getElem_of_mem hy
    obtain ⟨_, _, _, _, _, r3, r4⟩ := hat j hj
    rw [← e]; exact ⟨r3, r4⟩
  have HW : Hid (wt (W, half, base, next) ≤ 1048576) := hw
  have HIR : Hid (InR half ∧ InR base ∧ InR next) := ⟨f1, f2, f3⟩
  obtain ⟨w0, hw0⟩ : ∃ w0, w0 = (w.alloc (.cells #[.slice a0 W.length c0, .int .i64 half, .int .i64 base, .int .i64 next] 26)).alloc (.cells #[.slice none 0 0, .int .i64 0, .int .i64 0, .int .i64 0] 26) := ⟨_, rfl⟩
  have B0 : Hid (Below w.heap.size w w0 ∧ w0.heap.size = w.heap.size + 2) := by rw [hw0]; exact ⟨((Below.refl _ _).alloc (Nat.le_refl _) _).alloc (by simp) _, by simp⟩
  have X0 : Hid (w0.heap[w.heap.size]? = some (.cells #[.slice a0 W.length c0, .int .i64 half, .int .i64 base, .int .i64 next] 26) ∧ w0.heap[w.heap.size + 1]? = some (.cells #[.slice none 0 0, .int .i64 0, .int .i64 0, .int .i64 0] 26)) := by
    rw [hw0]
    refine ⟨?_, ?_⟩
    · rw [Below.heap_alloc _ _ _ (by simp)]; exact alloc_top _ _
    · have := alloc_top (w.alloc (.cells #[.slice a0 W.length c0, .int .i64 half, .int .i64 base, .int .i64 next] 26)) (.cells #[.slice none 0 0, .int .i64 0, .int .i64 0, .int .i64 0] 26)
      rwa [World.size_alloc] at this
  have hcall := specRight (W, half, base, next) rs _ _ _ (AH.out _ B0.out.1) (AV.out _ B0.out.1)
  rw [hw0] at hcall
  have HW00 : Hid (w0 = (w.alloc (.cells #[.slice a0 W.length c0, .int .i64 half, .int .i64 base, .int .i64 next] 26)).alloc (.cells #[.slice none 0 0, .int .i64 0, .int .i64 0, .int .i64 0] 26)) := hw0
  obtain ⟨R, hR⟩ : ∃ R, R = collectF (W, half, base, next) rs := ⟨_, rfl⟩
  have HR : Hid (R = collectF (W, half, base, next) rs) := hR
  rw [← hR]
  clear h hv f0 hcap hmax hat f1 f2 f3 hw hw0 hR
  rcases q1 : rightB (W, half, base, next) rs with _ | _
  · have HF : Hid (R = ((W, half, base, next), rs)) := by show _ = _; rw [HR.out]; unfold collectF; rw [q1]; rfl
    rw [q1] at hcall
    clear q1
    obtain ⟨ti, hti, hz0, hz1, hz2⟩ := int_info
    have TI : Hid (Try.prog.info? 3 = some ti ∧ ti.zero = some (.int .i64 0) ∧ ti.size = 1 ∧ ti.bytes = 8) := ⟨hti, hz0, hz1, hz2⟩
    clear hti hz0 hz1 hz2
    cases ar with
    | none =>
      have hrs : rs = [] := by
        cases rs with
        | nil => rfl
        | cons x xs => obtain ⟨b, o, e, _⟩ := HAT.out 0 (by simp); cases e
      subst hrs
      clear HAT RNG
      go_enter Try.func5, Try.ntmps5
      go_wp2_with fail
      refine hcall.mono ?_
      rintro e w1 ⟨rfl, hb⟩
      rw [← HW00.out] at hb
      have B1 : Hid (Below w.heap.size w w1 ∧ Below (w.heap.size + 2) w0 w1) := ⟨B0.out.1.trans (hb.mono (by have := B0.out.2; omega)), by have := hb; rw [B0.out.2] at this; exact this⟩
      have k0 : w1.cell? ⟨w.heap.size, 0, none⟩ = some (.slice a0 W.length c0) := blk_cellM (i := 0) ((B1.out.2.block _ (by omega)).trans X0.out.1) rfl
      have k1 : w1.cell? ⟨w.heap.size, 1, none⟩ = some (.int .i64 half) := blk_cellM (i := 1) ((B1.out.2.block _ (by omega)).trans X0.out.1) rfl
      have k2 : w1.cell? ⟨w.heap.size, 2, none⟩ = some (.int .i64 base) := blk_cellM (i := 2) ((B1.out.2.block _ (by omega)).trans X0.out.1) rfl
      have k3 : w1.cell? ⟨w.heap.size, 3, none⟩ = some (.int .i64 next) := blk_cellM (i := 3) ((B1.out.2.block _ (by omega)).trans X0.out.1) rfl
      have hc2 := copy_is (W, half, base, next) _ w1 HW.out (AH.out _ B1.out.1)
      dsimp only at hc2
      clear hcall hb
      go_wp2_with fail
      refine hc2.mono ?_
      rintro e w2 ⟨⟨aa, cc, rfl, hr1⟩, hb2⟩
      have B2 : Hid (Below w.heap.size w w2 ∧ Below (w.heap.size + 2) w0 w2) := ⟨B1.out.1.trans (hb2.mono B1.out.1.size), B1.out.2.trans (hb2.mono (by have := B1.out.2.size; have := B0.out.2; omega))⟩
      have Z1 : Hid (w.heap.size + 2 ≤ w1.heap.size ∧ w1.heap.size ≤ w2.heap.size) := ⟨by have := B1.out.2.size; have := B0.out.2; omega, hb2.size⟩
      have KR : Hid (IRow w2 w1.heap.size (.slice aa W.length cc) W) := hr1
      clear hc2 hr1 hb2 k0 k1 k2 k3
      have hGA : (w2.alloc (.cells #[] 3)).heap[w.heap.size + 1]? = some (.cells #[.slice none 0 0, .int .i64 0, .int .i64 0, .int .i64 0] 26) := by
        rw [Below.heap_alloc _ _ _ (by have := Z1.out; omega)]; exact (B2.out.2.block _ (by omega)).trans X0.out.2
      have z0 : (w2.alloc (.cells #[] 3)).cell? ⟨w.heap.size + 1, 0, none⟩ = some (.slice none 0 0) := blk_cellM (i := 0) hGA rfl
      have z1 : (w2.alloc (.cells #[] 3)).cell? ⟨w.heap.size + 1, 1, none⟩ = some (.int .i64 0) := blk_cellM (i := 1) hGA rfl
      have z2 : (w2.alloc (.cells #[] 3)).cell? ⟨w.heap.size + 1, 2, none⟩ = some (.int .i64 0) := blk_cellM (i := 2) hGA rfl
      have z3 : (w2.alloc (.cells #[] 3)).cell? ⟨w.heap.size + 1, 3, none⟩ = some (.int .i64 0) := blk_cellM (i := 3) hGA rfl
      have zf : ∀ j, (w2.alloc (.cells #[] 3)).frozen? ⟨w.heap.size + 1, j, none⟩ = false := fun j => blk_freeM hGA
      have HSET : Hid _ := res_set (x0 := .slice aa W.length cc) (x1 := .int .i64 half) (x2 := .int .i64 base) (x3 := .int .i64 next) (B := w.heap.size) (B2.out.1.alloc B2.out.1.size (.cells #[] 3)) (n0 := w.heap.size + 1) (by omega) ⟨_, _, _, _, hGA⟩
      have LI : Hid (IRow (w2.alloc (.cells #[] 3)) w2.heap.size (.slice (some ⟨w2.heap.size, 0, none⟩) 0 0) []) := irow_lit0 w2 (Nat.le_refl _)
      clear hGA
      go_wp2
      obtain ⟨hs1, hs2, hs3⟩ := HSET.out
      generalize World.setCell _ _ _ = wE at hs1 hs2 hs3 ⊢
      have n0 : wE.cell? ⟨w.heap.size + 1, 0, none⟩ = some (.slice aa W.length cc) := blk_cellM (i := 0) hs1 rfl
      have n1 : wE.cell? ⟨w.heap.size + 1, 1, none⟩ = some (.int .i64 half) := blk_cellM (i := 1) hs1 rfl
      have n2 : wE.cell? ⟨w.heap.size + 1, 2, none⟩ = some (.int .i64 base) := blk_cellM (i := 2) hs1 rfl
      have n3 : wE.cell? ⟨w.heap.size + 1, 3, none⟩ = some (.int .i64 next) := blk_cellM (i := 3) hs1 rfl
      refine bodyPost_ret (v := .tuple #[.agg #[.slice aa W.length cc, .int .i64 half, .int .i64 base, .int .i64 next], .slice (some ⟨w2.heap.size, 0, none⟩) 0 0]) (by simp [results, Try.f5, go_sem, n0, n1, n2, n3]) rfl ?_
      rw [HF.out]
      have hz := Z1.out
      refine ⟨⟨aa, cc, .slice (some ⟨w2.heap.size, 0, none⟩) 0 0, rfl, ?_, ?_, (fun k hk hk2 => ?_), HIR.out.1, HIR.out.2.1, HIR.out.2.2⟩, hs2⟩
      · refine irow_base0 (irow_sameM KR.out fun k hk => ?_) (by omega)
        have := KR.out.lt k hk
        exact (hs3 k (by omega)).trans (Below.heap_alloc _ _ _ this.2)
      · refine irow_base0 (irow_sameM LI.out fun k hk => hs3 k ?_) (by omega)
        have := LI.out.lt k hk
        omega
      · have h1 := KR.out.lt k hk
        have h2 := LI.out.lt k hk2
        omega
    | some ad =>
      go_enter Try.func5, Try.ntmps5
      go_wp2_with fail
      refine hcall.mono ?_
      rintro e w1 ⟨rfl, hb⟩
      rw [← HW00.out] at hb
      have B1 : Hid (Below w.heap.size w w1 ∧ Below (w.heap.size + 2) w0 w1) := ⟨B0.out.1.trans (hb.mono (by have := B0.out.2; omega)), by have := hb; rw [B0.out.2] at this; exact this⟩
      have k0 : w1.cell? ⟨w.heap.size, 0, none⟩ = some (.slice a0 W.length c0) := blk_cellM (i := 0) ((B1.out.2.block _ (by omega)).trans X0.out.1) rfl
      have k1 : w1.cell? ⟨w.heap.size, 1, none⟩ = some (.int .i64 half) := blk_cellM (i := 1) ((B1.out.2.block _ (by omega)).trans X0.out.1) rfl
      have k2 : w1.cell? ⟨w.heap.size, 2, none⟩ = some (.int .i64 base) := blk_cellM (i := 2) ((B1.out.2.block _ (by omega)).trans X0.out.1) rfl
      have k3 : w1.cell? ⟨w.heap.size, 3, none⟩ = some (.int .i64 next) := blk_cellM (i := 3) ((B1.out.2.block _ (by omega)).trans X0.out.1) rfl
      have hc2 := copy_is (W, half, base, next) _ w1 HW.out (AH.out _ B1.out.1)
      dsimp only at hc2
      clear hcall hb
      go_wp2_with fail
      refine hc2.mono ?_
      rintro e w2 ⟨⟨aa, cc, rfl, hr1⟩, hb2⟩
      have B2 : Hid (Below w.heap.size w w2 ∧ Below (w.heap.size + 2) w0 w2) := ⟨B1.out.1.trans (hb2.mono B1.out.1.size), B1.out.2.trans (hb2.mono (by have := B1.out.2.size; have := B0.out.2; omega))⟩
      have Z1 : Hid (w.heap.size + 2 ≤ w1.heap.size ∧ w1.heap.size ≤ w2.heap.size) := ⟨by have := B1.out.2.size; have := B0.out.2; omega, hb2.size⟩
      have KR : Hid (IRow w2 w1.heap.size (.slice aa W.length cc) W) := hr1
      clear hc2 hr1 hb2 k0 k1 k2 k3
      have hCL : w2.cell? ⟨w.heap.size + 1, 0, none⟩ = some (.slice none 0 0) := blk_cellM (i := 0) ((B2.out.2.block _ (by omega)).trans X0.out.2) rfl
      have L0 : Hid ((w2.alloc (.cells #[] 3)).ownsRow w2.heap.size 3 1 (.slice (some ⟨w2.heap.size, 0, none⟩) 0 0) 0 []) := World.ownsRow_lit w2 #[] 0 (Nat.le_refl _) (Nat.zero_le _) rfl
      have NA : Hid (∀ j u, (rs.map (Value.int .i64))[j]? = some u → (w2.alloc (.cells #[] 3)).cell? (ad.add j) = some u) := fun j u hu => by
        rw [List.getElem?_map] at hu
        obtain ⟨y, hy, rfl⟩ := Option.map_eq_some_iff.1 hu
        obtain ⟨h1, rfl⟩ := List.getElem?_eq_some_iff.1 hy
        obtain ⟨b, o, e, hS, hc, -⟩ := HAT.out j h1
        cases e
        have hS' : b < w.heap.size := hS
        rw [add_plain, ((Below.refl _ w2).alloc (Nat.le_refl _) _).cell (p := ⟨b, o + j, none⟩) (by have := B2.out.1.size; show b < w2.heap.size; omega), B2.out.1.cell (p := ⟨b, o + j, none⟩) hS]
        exact hc
      have O1 : Hid (∀ u ∈ rs.map (Value.int .i64), u.oneCell' = true) := fun u hu => by
        obtain ⟨y, _, rfl⟩ := List.mem_map.1 hu; rfl
      have LM : Hid ((rs.map (Value.int .i64)).length = rs.length * 1) := by show _ = _; simp
      clear hCL
      go_wp2_with (at_builtin; refine wpList_append_own_at _ rfl (.tmp 14) (.tmp 15) 22 rfl w2.heap.size 3 ti _ 1 8 Try.underlying22 TI.out.1 TI.out.2.1 TI.out.2.2.1 TI.out.2.2.2 rfl (by decide) (.slice (some ⟨w2.heap.size, 0, none⟩) 0 0) 0 [] rfl L0.out ad rs.length cr (rs.map (Value.int .i64)) rfl LM.out NA.out O1.out (by unfold maxLen; omega) (by omega) (by simp) ?_; intro v3 w3 o3 g3 n3 a3
                   obtain ⟨a3', c3', rfl⟩ := own_form o3
                   have hB3 : Below w2.heap.size w2 w3 := ((Below.refl _ w2).alloc (Nat.le_refl _) _).grown g3 (by simp) (fun k hk => by cases hk; exact Nat.le_refl _)
                   have I3 : Hid (IRow w3 w2.heap.size (.slice a3' (0 + rs.length) c3') rs) := ⟨by have := o3; rw [Nat.zero_add, List.nil_append] at this; rw [Nat.zero_add]; exact this, RNG.out⟩
                   have hGA : w3.heap[w.heap.size + 1]? = some (.cells #[.slice none 0 0, .int .i64 0, .int .i64 0, .int .i64 0] 26) := (hB3.block _ (by have := Z1.out; omega)).trans ((B2.out.2.block _ (by omega)).trans X0.out.2)
                   have z0 : w3.cell? ⟨w.heap.size + 1, 0, none⟩ = some (.slice none 0 0) := blk_cellM (i := 0) hGA rfl
                   have z1 : w3.cell? ⟨w.heap.size + 1, 1, none⟩ = some (.int .i64 0) := blk_cellM (i := 1) hGA rfl
                   have z2 : w3.cell? ⟨w.heap.size + 1, 2, none⟩ = some (.int .i64 0) := blk_cellM (i := 2) hGA rfl
                   have z3 : w3.cell? ⟨w.heap.size + 1, 3, none⟩ = some (.int .i64 0) := blk_cellM (i := 3) hGA rfl
                   have zf : ∀ j, w3.frozen? ⟨w.heap.size + 1, j, none⟩ = false := fun j => blk_freeM hGA
                   have HSET : Hid _ := res_set (x0 := .slice aa W.length cc) (x1 := .int .i64 half) (x2 := .int .i64 base) (x3 := .int .i64 next) (B := w.heap.size) (B2.out.1.trans (hB3.mono B2.out.1.size)) (n0 := w.heap.size + 1) (by omega) ⟨_, _, _, _, hGA⟩
                   have KR3 : Hid (IRow w3 w1.heap.size (.slice aa W.length cc) W) := KR.out.keep hB3
                   clear hB3 hGA o3 g3 n3 a3)
      obtain ⟨hs1, hs2, hs3⟩ := HSET.out
      generalize World.setCell _ _ _ = wE at hs1 hs2 hs3 ⊢
      have n0 : wE.cell? ⟨w.heap.size + 1, 0, none⟩ = some (.slice aa W.length cc) := blk_cellM (i := 0) hs1 rfl
      have n1 : wE.cell? ⟨w.heap.size + 1, 1, none⟩ = some (.int .i64 half) := blk_cellM (i := 1) hs1 rfl
      have n2 : wE.cell? ⟨w.heap.size + 1, 2, none⟩ = some (.int .i64 base) := blk_cellM (i := 2) hs1 rfl
      have n3 : wE.cell? ⟨w.heap.size + 1, 3, none⟩ = some (.int .i64 next) := blk_cellM (i := 3) hs1 rfl
      refine bodyPost_ret (v := .tuple #[.agg #[.slice aa W.length cc, .int .i64 half, .int .i64 base, .int .i64 next], .slice a3' (0 + rs.length) c3']) (by simp [results, Try.f5, go_sem, n0, n1, n2, n3]) rfl ?_
      rw [HF.out]
      have hz := Z1.out
      refine ⟨⟨aa, cc, .slice a3' (0 + rs.length) c3', rfl, ?_, ?_, (fun k hk hk2 => ?_), HIR.out.1, HIR.out.2.1, HIR.out.2.2⟩, hs2⟩
      · refine irow_base0 (irow_sameM KR3.out fun k hk => hs3 k ?_) (by omega)
        have := KR3.out.lt k hk
        omega
      · refine irow_base0 (irow_sameM I3.out fun k hk => hs3 k ?_) (by omega)
        have := I3.out.lt k hk
        omega
      · have h1 := KR.out.lt k hk
        have h2 := I3.out.lt k hk2
        omega
  · rw [q1] at hcall
    have Q1 : Hid (rightB (W, half, base, next) rs = true) := q1
    have HF : Hid (R = (((endC (W, half, base, next) rs).1, half, half - base, ((endC (W, half, base, next) rs).2.1 : Int)), (rootsC W (startC (W, half, base, next)) rs).2)) := by show _ = _; rw [HR.out]; unfold collectF; rw [q1]; rfl
    clear q1
    go_enter Try.func5, Try.ntmps5
    go_wp2_with fail
    refine hcall.mono ?_
    rintro e w1 ⟨rfl, hb⟩
    rw [← HW00.out] at hb
    have B1 : Hid (Below w.heap.size w w1 ∧ Below (w.heap.size + 2) w0 w1) := ⟨B0.out.1.trans (hb.mono (by have := B0.out.2; omega)), by have := hb; rw [B0.out.2] at this; exact this⟩
    have k0 : w1.cell? ⟨w.heap.size, 0, none⟩ = some (.slice a0 W.length c0) := blk_cellM (i := 0) ((B1.out.2.block _ (by omega)).trans X0.out.1) rfl
    have k1 : w1.cell? ⟨w.heap.size, 1, none⟩ = some (.int .i64 half) := blk_cellM (i := 1) ((B1.out.2.block _ (by omega)).trans X0.out.1) rfl
    have k2 : w1.cell? ⟨w.heap.size, 2, none⟩ = some (.int .i64 base) := blk_cellM (i := 2) ((B1.out.2.block _ (by omega)).trans X0.out.1) rfl
    have k3 : w1.cell? ⟨w.heap.size, 3, none⟩ = some (.int .i64 next) := blk_cellM (i := 3) ((B1.out.2.block _ (by omega)).trans X0.out.1) rfl
    have hc2 := specCollectW (W, half, base, next) rs _ _ w1 Q1.out hrl (AH.out _ B1.out.1) (AV.out _ B1.out.1)
    dsimp only at hc2
    clear hcall hb
    obtain ⟨E, hE⟩ : ∃ E, E = endC (W, half, base, next) rs := ⟨_, rfl⟩
    rw [← hE] at hc2
    have HF2 : Hid (R = ((E.1, half, half - base, (E.2.1 : Int)), (rootsC W (startC (W, half, base, next)) rs).2)) := by show _ = _; rw [HF.out, hE]
    clear hE HF
    go_wp2_with fail
    refine hc2.mono ?_
    rintro e w2 ⟨⟨q, v2, rfl, hr1, hr2, hap, hnx⟩, hb2⟩
    have HNX : Hid (E.2.1 ≤ 6000) := hnx
    clear hnx
    have B2 : Hid (Below w.heap.size w w2 ∧ Below (w.heap.size + 2) w0 w2) := ⟨B1.out.1.trans (hb2.mono B1.out.1.size), B1.out.2.trans (hb2.mono (by have := B1.out.2.size; have := B0.out.2; omega))⟩
    have Z1 : Hid (w.heap.size + 2 ≤ w1.heap.size ∧ w1.heap.size ≤ w2.heap.size) := ⟨by have := B1.out.2.size; have := B0.out.2; omega, hb2.size⟩
    have KR : Hid (IRow w2 w1.heap.size (.slice (some ⟨q, 0, none⟩) E.1.length E.1.length) E.1 ∧ IRow w2 w1.heap.size v2 (rootsC W (startC (W, half, base, next)) rs).2 ∧ v2.ownBlock ≠ some q) := ⟨hr1, hr2, hap⟩
    have hRb : w2.heap[w.heap.size + 1]? = some (.cells #[.slice none 0 0, .int .i64 0, .int .i64 0, .int .i64 0] 26) := (B2.out.2.block _ (by omega)).trans X0.out.2
    have HRB : Hid (w2.heap[w.heap.size + 1]? = some (.cells #[.slice none 0 0, .int .i64 0, .int .i64 0, .int .i64 0] 26)) := hRb
    obtain ⟨a2, c2, hv2⟩ := own_form hr2.1
    subst hv2
    obtain ⟨MM, hMM⟩ : ∃ MM, MM = (rootsC W (startC (W, half, base, next)) rs).2 := ⟨_, rfl⟩
    rw [← hMM] at KR HF2 ⊢
    have hGA : (w2.alloc (.cells #[.slice (some ⟨q, 0, none⟩) E.1.length E.1.length, .int .i64 half, .int .i64 (half - base), .int .i64 E.2.1] 26)).heap[w.heap.size + 1]? = some (.cells #[.slice none 0 0, .int .i64 0, .int .i64 0, .int .i64 0] 26) := by
      rw [Below.heap_alloc _ _ _ (by have := Z1.out; omega)]; exact HRB.out
    have z0 : (w2.alloc (.cells #[.slice (some ⟨q, 0, none⟩) E.1.length E.1.length, .int .i64 half, .int .i64 (half - base), .int .i64 E.2.1] 26)).cell? ⟨w.heap.size + 1, 0, none⟩ = some (.slice none 0 0) := blk_cellM (i := 0) hGA rfl
    have z1 : (w2.alloc (.cells #[.slice (some ⟨q, 0, none⟩) E.1.length E.1.length, .int .i64 half, .int .i64 (half - base), .int .i64 E.2.1] 26)).cell? ⟨w.heap.size + 1, 1, none⟩ = some (.int .i64 0) := blk_cellM (i := 1) hGA rfl
    have z2 : (w2.alloc (.cells #[.slice (some ⟨q, 0, none⟩) E.1.length E.1.length, .int .i64 half, .int .i64 (half - base), .int .i64 E.2.1] 26)).cell? ⟨w.heap.size + 1, 2, none⟩ = some (.int .i64 0) := blk_cellM (i := 2) hGA rfl
    have z3 : (w2.alloc (.cells #[.slice (some ⟨q, 0, none⟩) E.1.length E.1.length, .int .i64 half, .int .i64 (half - base), .int .i64 E.2.1] 26)).cell? ⟨w.heap.size + 1, 3, none⟩ = some (.int .i64 0) := blk_cellM (i := 3) hGA rfl
    have zf : ∀ j, (w2.alloc (.cells #[.slice (some ⟨q, 0, none⟩) E.1.length E.1.length, .int .i64 half, .int .i64 (half - base), .int .i64 E.2.1] 26)).frozen? ⟨w.heap.size + 1, j, none⟩ = false := fun j => blk_freeM hGA
    have HSET : Hid _ := res_set (x0 := .slice (some ⟨q, 0, none⟩) E.1.length E.1.length) (x1 := .int .i64 half) (x2 := .int .i64 (half - base)) (x3 := .int .i64 E.2.1) (B := w.heap.size) (B2.out.1.alloc B2.out.1.size (.cells #[.slice (some ⟨q, 0, none⟩) E.1.length E.1.length, .int .i64 half, .int .i64 (half - base), .int .i64 E.2.1] 26)) (n0 := w.heap.size + 1) (by omega) ⟨_, _, _, _, hGA⟩
    clear hc2 hr1 hr2 hap hb2 hRb hMM hGA k0 k1 k2 k3
    go_wp2
    obtain ⟨hs1, hs2, hs3⟩ := HSET.out
    generalize World.setCell _ _ _ = wE at hs1 hs2 hs3 ⊢
    have n0 : wE.cell? ⟨w.heap.size + 1, 0, none⟩ = some (.slice (some ⟨q, 0, none⟩) E.1.length E.1.length) := blk_cellM (i := 0) hs1 rfl
    have n1 : wE.cell? ⟨w.heap.size + 1, 1, none⟩ = some (.int .i64 half) := blk_cellM (i := 1) hs1 rfl
    have n2 : wE.cell? ⟨w.heap.size + 1, 2, none⟩ = some (.int .i64 (half - base)) := blk_cellM (i := 2) hs1 rfl
    have n3 : wE.cell? ⟨w.heap.size + 1, 3, none⟩ = some (.int .i64 E.2.1) := blk_cellM (i := 3) hs1 rfl
    refine bodyPost_ret (v := .tuple #[.agg #[.slice (some ⟨q, 0, none⟩) E.1.length E.1.length, .int .i64 half, .int .i64 (half - base), .int .i64 E.2.1], .slice a2 MM.length c2]) (by simp [results, Try.f5, go_sem, n0, n1, n2, n3]) rfl ?_
    rw [HF2.out]
    have hz := Z1.out
    have hh := head_in (heap_head (right_is Q1.out).1)
    dsimp only at hh
    refine ⟨⟨some ⟨q, 0, none⟩, E.1.length, .slice a2 MM.length c2, rfl, ?_, ?_, (fun k hk hk2 => ?_), by unfold InR; show _ ≤ half ∧ half ≤ _; omega, by unfold InR; show _ ≤ half - base ∧ half - base ≤ _; omega, by unfold InR; show _ ≤ (E.2.1 : Int) ∧ (E.2.1 : Int) ≤ _; have := HNX.out; omega⟩, hs2⟩
    · refine irow_base0 (irow_sameM KR.out.1 fun k hk => ?_) (by omega)
      have := KR.out.1.lt k hk
      exact (hs3 k (by omega)).trans (Below.heap_alloc _ _ _ this.2)
    · refine irow_base0 (irow_sameM KR.out.2.1 fun k hk => ?_) (by omega)
      have := KR.out.2.1.lt k hk
      exact (hs3 k (by omega)).trans (Below.heap_alloc _ _ _ this.2)
    · simp only [Value.ownBlock, Option.some.injEq] at hk
      subst hk
      exact KR.out.2.2 hk2

end Go.Proofs.Ytojhldciehfhfaa.heap

namespace Go.Proofs.Ytojhldciehfhfaa.words
open Go Go.RowKit Go.Proofs.Ytojhldciehfhfaa Go.Proofs.Ytojhldciehfhfaa.fun
set_option linter.unusedVariables false
set_option linter.unusedSimpArgs false

theorem ret_bW {a b : Bool} (h : a = b) : Ending.returned (.bool a) = Ending.returned (.bool b) := by rw [h]
set_option maxHeartbeats 1000000 in
theorem wordI_is {n : Int} {b : Bool} {w : World} (h : inB n (-1073741824) 1073741823 = b) :
    Calls Try.prog 64 #[.int .i64 n] w fun e w' => e = .returned (.bool b) ∧ w' = w := by
  by_cases h1 : -1073741824 ≤ n
  · have h6 : decide (-1073741824 ≤ n) = true := decide_eq_true h1
    go_enter Try.func64, Try.ntmps64
    go_wp2
    go_ret
    exact ⟨ret_bW (by rw [← h]; simp only [inB, h6, Bool.true_and]), rfl⟩
  · have h2 : decide (-1073741824 ≤ n) = false := decide_eq_false h1
    go_enter Try.func64, Try.ntmps64
    go_wp2
    go_ret
    exact ⟨ret_bW (by rw [← h]; simp only [inB, h2, Bool.false_and]), rfl⟩

end Go.Proofs.Ytojhldciehfhfaa.words

namespace Go.Proofs.Ytojhldciehfhfaa.heap
open Go Go.RowKit Go.Proofs.Ytojhldciehfhfaa Go.Proofs.Ytojhldciehfhfaa.fun Go.Proofs.Ytojhldciehfhfaa.words
set_option linter.unusedVariables false
set_option linter.unusedSimpArgs false

/-- The tag as a shift tells it, which is cut downwards. -/
def tagS (x : Int) : Int := x / 2 / 2 / 64
def okHdr (tag many : Int) : Bool := decide (0 ≤ tag) && decide (tag ≤ 3000) && decide (many ≤ 20)

set_option maxHeartbeats 2000000 in
theorem headerOf_is (x : Int) (w : World) (h1 : -9223372036854775808 ≤ x) (h2 : x ≤ 9223372036854775807) :
    Calls Try.prog 35 #[.int .i64 x] w fun e w' => e = .returned (.agg #[.bool (funF x), .int .i64 (tagS x), .int .i64 (manyF x)]) ∧ Below w.heap.size w w' := by
  have ha := and_one (x / 2)
  have hb := and_63 (x / 2 / 2)
  have hf : (x / 2 % 2 == 1) = funF x := by unfold funF; rw [Bool.eq_iff_iff]; simp
  go_enter Try.func35, Try.ntmps35
  go_wp2
  refine bodyPost_ret (v := .agg #[.bool (funF x), .int .i64 (tagS x), .int .i64 (manyF x)]) (by simp [results, Try.f35, go_sem, tagS, manyF, hf]) rfl ?_
  refine ⟨rfl, ?_⟩
  exact (Below.refl _ _).alloc (Nat.le_refl _) _

set_option maxHeartbeats 2000000 in
theorem hdrOk_is (f : Bool) (tag many : Int) (w : World) :
    Calls Try.prog 61 #[.agg #[.bool f, .int .i64 tag, .int .i64 many]] w fun e w' => e = .returned (.bool (okHdr tag many)) ∧ Below w.heap.size w w' := by
  have BA : Hid (Below w.heap.size w (w.alloc (.cells #[.bool f, .int .i64 tag, .int .i64 many] 77))) := (Below.refl _ _).alloc (Nat.le_refl _) _
  rcases q1 : decide (0 ≤ tag) with _ | _
  · have HQ : Hid (okHdr tag many = false) := by show _ = _; unfold okHdr; rw [q1]; rfl
    go_enter Try.func61, Try.ntmps61
    go_wp2
    go_ret
    exact ⟨ret_b HQ.out.symm, BA.out⟩
  rcases q2 : decide (tag ≤ 3000) with _ | _
  · have HQ : Hid (okHdr tag many = false) := by show _ = _; unfold okHdr; rw [q1, q2]; rfl
    go_enter Try.func61, Try.ntmps61
    go_wp2
    go_ret
    exact ⟨ret_b HQ.out.symm, BA.out⟩
  rcases q3 : decide (many ≤ 20) with _ | _
  · have HQ : Hid (okHdr tag many = false) := by show _ = _; unfold okHdr; rw [q1, q2, q3]; rfl
    go_enter Try.func61, Try.ntmps61
    go_wp2
    go_ret
    exact ⟨ret_b HQ.out.symm, BA.out⟩
  · have HQ : Hid (okHdr tag many = true) := by show _ = _; unfold okHdr; rw [q1, q2, q3]; rfl
    go_enter Try.func61, Try.ntmps61
    go_wp2
    go_ret
    exact ⟨ret_b HQ.out.symm, BA.out⟩

set_option maxHeartbeats 2000000 in
theorem hdrSize_is (f : Bool) (tag many : Int) (w : World) (h1 : 0 ≤ many) (h2 : many ≤ 1048576) :
    Calls Try.prog 36 #[.agg #[.bool f, .int .i64 tag, .int .i64 many]] w fun e w' => e = .returned (.int .i64 (1 + many)) ∧ Below w.heap.size w w' := by
  go_enter Try.func36, Try.ntmps36
  go_wp2
  go_ret
  exact ⟨rfl, (Below.refl _ _).alloc (Nat.le_refl _) _⟩

end Go.Proofs.Ytojhldciehfhfaa.heap

namespace Go.Proofs.Ytojhldciehfhfaa.lock
open Go Go.RowKit Go.Proofs.Ytojhldciehfhfaa
set_option linter.unusedVariables false
set_option linter.unusedSimpArgs false

abbrev muLink : Go.Conc.Locks.MuLink := { lock := 30, unlock := 31, ilock := 52, iunlock := 53, lockSlow := 70, unlockSlow := 73, disable := 66, enable := 68, acquire := 69, relMerge := 71, cas32 := 67, add32 := 72, tMutex := 65, tIMutex := 63, tPMutex := 88, tPIMutex := 96, tPI32 := 98, tUP := 100, tNoCopy := 60, tU32 := 61 }
theorem muLib : Go.Conc.Locks.MuLib Try.prog muLink :=
  ⟨Try.func30, Try.func31, Try.func52, Try.func53, Try.func66, Try.func68, Try.func69, Try.func71, Try.func67, Try.func72,
    Try.underlying63, Try.runUnderlying63, Try.sizeOf63, Try.isAgg63, Try.zeroValue63,
    Try.underlying65, Try.runUnderlying65, Try.sizeOf65, Try.isAgg65, Try.zeroValue65,
    Try.underlying88, Try.runUnderlying88, Try.sizeOf88, Try.isAgg88, Try.zeroValue88,
    Try.underlying96, Try.runUnderlying96, Try.sizeOf96, Try.isAgg96, Try.zeroValue96,
    Try.underlying98, Try.runUnderlying98, Try.sizeOf98, Try.isAgg98, Try.zeroValue98,
    Try.underlying100, Try.runUnderlying100, Try.sizeOf100, Try.isAgg100, Try.zeroValue100,
    Try.underlying60, Try.runUnderlying60, Try.sizeOf60, Try.isAgg60, Try.zeroValue60,
    Try.underlying21, Try.runUnderlying21, Try.sizeOf21, Try.isAgg21, Try.zeroValue21, (by kernel_rfl)⟩

theorem load_is {a : Addr} {x : Int} {w : World} (hc : w.cell? a = some (.int .i64 x)) :
    Calls Try.prog 55 #[.pointer (some a)] w fun e w' => e = .returned (.int .i64 x) ∧ w' = w := by
  have hl := run_call_load (P := Try.prog) Try.func74 (by kernel_rfl) (by kernel_rfl) (by kernel_rfl) .i64 (by kernel_rfl) hc
  go_enter Try.func55, Try.ntmps55
  go_wp2
  go_ret
  exact ⟨rfl, rfl⟩
theorem add_is {a : Addr} {x y : Int} {w : World} (hc : w.cell? a = some (.int .i64 x)) (hz : w.frozen? a = false) (h1 : -9223372036854775808 ≤ x + y) (h2 : x + y ≤ 9223372036854775807) :
    Calls Try.prog 33 #[.pointer (some a), .int .i64 y] w fun e w' => e = .returned (.int .i64 (x + y)) ∧ w' = w.setCell a (.int .i64 (x + y)) := by
  have hl := run_call_add (P := Try.prog) Try.func54 (by kernel_rfl) (by kernel_rfl) (by kernel_rfl) .i64 (by kernel_rfl) (y := y) (s := x + y) hc hz (by simp [go_sem, IntKind.wrap_i64]; omega)
  go_enter Try.func33, Try.ntmps33
  go_wp2
  go_ret
  exact ⟨rfl, rfl⟩

end Go.Proofs.Ytojhldciehfhfaa.lock
