/-
  The program's bare: a node without types and without kids.
-/
import Derived.Test.YtklcjjckelahcaaEraseWand
import Derived.Test.YtklcjjckelahcaaCloneShelf
import Derived.Deep.RegionHeld3
namespace Go.Proofs.Ytklcjjckelahcaa.typed
open Go.RowKit Go.Proofs.Ytklcjjckelahcaa.rose Go.Proofs.Ytklcjjckelahcaa
set_option linter.unusedVariables false

theorem twoB (w : World) (A B : Obj) (WL : World) (h : WL = (w.alloc A).alloc B) : WL.heap.size = w.heap.size + 2 ∧ Below w.heap.size w WL ∧ WL.heap[w.heap.size]? = some A ∧ WL.heap[w.heap.size + 1]? = some B := by
  subst h
  refine ⟨by simp, ((Below.refl _ w).alloc (Nat.le_refl _) _).alloc (by simp) _, (Below.heap_alloc _ _ _ (by simp)).trans (alloc_top _ _), ?_⟩
  have := alloc_top (w.alloc A) B
  rwa [World.size_alloc] at this

set_option maxRecDepth 100000 in
set_option maxHeartbeats 800000 in
theorem bare_any (x0 x1 : Int) (x2 x3 : ByteArray) (u0 u1 u2 u3 s5 s6 s7 : Value) (w : World) (h2 : x2.size ≤ 1048576) (h3 : x3.size ≤ 1048576) (o0 : u0.oneCell' = true) (o1 : u1.oneCell' = true) (o2 : u2.oneCell' = true) (o3 : u3.oneCell' = true) (o5 : s5.oneCell' = true) (o6 : s6.oneCell' = true) (o7 : s7.oneCell' = true) :
    Calls Try.prog 33 #[.agg #[.int .i64 x0, .int .i64 x1, .string x2, .string x3, u0, u1, u2, u3, s5, s6, s7]] w fun e w' => e = .returned (.agg #[.int .i64 x0, .int .i64 x1, .string x2, .string x3, .slice none 0 0]) ∧ Below w.heap.size w w' := by
  have c2 : Hid (∀ W, Calls Try.prog 51 #[.string x2] W fun e w' => e = .returned (.string x2) ∧ Below W.heap.size W w') := fun W => Try.strings_Clone x2 W (by omega)
  have c3 : Hid (∀ W, Calls Try.prog 51 #[.string x3] W fun e w' => e = .returned (.string x3) ∧ Below W.heap.size W w') := fun W => Try.strings_Clone x3 W (by omega)
  go_enter Try.func33, Try.ntmps33
  go_wp2
  obtain ⟨W0, hW0⟩ : ∃ W0, W0 = (w.alloc (.cells #[.int .i64 x0, .int .i64 x1, .string x2, .string x3, u0, u1, u2, u3, s5, s6, s7] 39)).alloc (.cells #[.int .i64 0, .int .i64 0, .string ⟨#[]⟩, .string ⟨#[]⟩, .slice none 0 0] 32) := ⟨_, rfl⟩
  obtain ⟨z0, b0, k0, k1⟩ := twoB w _ _ W0 hW0
  rw [← hW0]
  have d0 : W0.cell? ⟨w.heap.size, 0, none⟩ = some (.int .i64 x0) := blk_cell (i := 0) k0 rfl
  have d1 : W0.cell? ⟨w.heap.size, 1, none⟩ = some (.int .i64 x1) := blk_cell (i := 1) k0 rfl
  have d2 : W0.cell? ⟨w.heap.size, 2, none⟩ = some (.string x2) := blk_cell (i := 2) k0 rfl
  have d3 : W0.cell? ⟨w.heap.size, 3, none⟩ = some (.string x3) := blk_cell (i := 3) k0 rfl
  have HB : Hid (Below W0.heap.size W0 W0) := Below.refl _ _
  have r0 : W0.cell? ⟨w.heap.size + 1, 0, none⟩ = some (.int .i64 0) := blk_cell (i := 0) k1 rfl
  have r1 : W0.cell? ⟨w.heap.size + 1, 1, none⟩ = some (.int .i64 0) := blk_cell (i := 1) k1 rfl
  have r2 : W0.cell? ⟨w.heap.size + 1, 2, none⟩ = some (.string ⟨#[]⟩) := blk_cell (i := 2) k1 rfl
  have r3 : W0.cell? ⟨w.heap.size + 1, 3, none⟩ = some (.string ⟨#[]⟩) := blk_cell (i := 3) k1 rfl
  have r4 : W0.cell? ⟨w.heap.size + 1, 4, none⟩ = some (.slice none 0 0) := blk_cell (i := 4) k1 rfl
  have fr : ∀ o, W0.frozen? ⟨w.heap.size + 1, o, none⟩ = false := fun o => blk_free k1
  have D0 : Hid _ := d0
  have D1 : Hid _ := d1
  have D2 : Hid _ := d2
  have D3 : Hid _ := d3
  have K1 : Hid _ := k1
  have Z0 : Hid (W0.heap.size = w.heap.size + 2 ∧ Below w.heap.size w W0) := ⟨z0, b0⟩
  clear hW0 k0 k1 z0 b0
  go_region_held3 (fun W => W.cell? ⟨w.heap.size, 0, none⟩ = some (.int .i64 x0) ∧ W.cell? ⟨w.heap.size, 1, none⟩ = some (.int .i64 x1) ∧ W.cell? ⟨w.heap.size, 2, none⟩ = some (.string x2) ∧ W.cell? ⟨w.heap.size, 3, none⟩ = some (.string x3))
    (exact ⟨(by first | with_reducible exact d0 | (rw [cell_set_other _ _ _ _ (by simp)]; (repeat rw [cell_set_other _ _ _ _ (by simp)]); with_reducible exact d0) | (show W0.cell? _ = _; with_reducible exact d0)), (by first | with_reducible exact d1 | (rw [cell_set_other _ _ _ _ (by simp)]; (repeat rw [cell_set_other _ _ _ _ (by simp)]); with_reducible exact d1) | (show W0.cell? _ = _; with_reducible exact d1)), (by first | with_reducible exact d2 | (rw [cell_set_other _ _ _ _ (by simp)]; (repeat rw [cell_set_other _ _ _ _ (by simp)]); with_reducible exact d2) | (show W0.cell? _ = _; with_reducible exact d2)), (by first | with_reducible exact d3 | (rw [cell_set_other _ _ _ _ (by simp)]; (repeat rw [cell_set_other _ _ _ _ (by simp)]); with_reducible exact d3) | (show W0.cell? _ = _; with_reducible exact d3))⟩)
    (first
      | (go_at_call_of 51 x2; refine (c2.out _).mono ?_
         rintro e w1 ⟨rfl, hb⟩
         replace HB : Hid (Below W0.heap.size W0 w1) := Below.trans (by first | exact HB.out | exact HB.out.drew) (hb.mono HB.out.size)
         have hz : w.heap.size + 1 < W0.heap.size := by have := Z0.out.1; omega
         replace d0 := (HB.out.cell (p := ⟨w.heap.size, 0, none⟩) (show w.heap.size < _ by omega)).trans D0.out
         replace d1 := (HB.out.cell (p := ⟨w.heap.size, 1, none⟩) (show w.heap.size < _ by omega)).trans D1.out
         replace d2 := (HB.out.cell (p := ⟨w.heap.size, 2, none⟩) (show w.heap.size < _ by omega)).trans D2.out
         replace d3 := (HB.out.cell (p := ⟨w.heap.size, 3, none⟩) (show w.heap.size < _ by omega)).trans D3.out
         have k1 := (HB.out.block _ hz).trans K1.out
         clear hb
         replace r0 : w1.cell? ⟨w.heap.size + 1, 0, none⟩ = some (.int .i64 0) := blk_cell (i := 0) k1 rfl
         replace r1 : w1.cell? ⟨w.heap.size + 1, 1, none⟩ = some (.int .i64 0) := blk_cell (i := 1) k1 rfl
         replace r2 : w1.cell? ⟨w.heap.size + 1, 2, none⟩ = some (.string ⟨#[]⟩) := blk_cell (i := 2) k1 rfl
         replace r3 : w1.cell? ⟨w.heap.size + 1, 3, none⟩ = some (.string ⟨#[]⟩) := blk_cell (i := 3) k1 rfl
         replace r4 : w1.cell? ⟨w.heap.size + 1, 4, none⟩ = some (.slice none 0 0) := blk_cell (i := 4) k1 rfl
         replace fr : ∀ o, w1.frozen? ⟨w.heap.size + 1, o, none⟩ = false := fun o => blk_free k1
         clear k1 hz)
      | (go_at_call_of 51 x3; refine (c3.out _).mono ?_
         rintro e w1 ⟨rfl, hb⟩
         replace HB : Hid (Below W0.heap.size W0 w1) := Below.trans (by first | exact HB.out | exact HB.out.drew) (hb.mono HB.out.size)
         have hz : w.heap.size + 1 < W0.heap.size := by have := Z0.out.1; omega
         replace d0 := (HB.out.cell (p := ⟨w.heap.size, 0, none⟩) (show w.heap.size < _ by omega)).trans D0.out
         replace d1 := (HB.out.cell (p := ⟨w.heap.size, 1, none⟩) (show w.heap.size < _ by omega)).trans D1.out
         replace d2 := (HB.out.cell (p := ⟨w.heap.size, 2, none⟩) (show w.heap.size < _ by omega)).trans D2.out
         replace d3 := (HB.out.cell (p := ⟨w.heap.size, 3, none⟩) (show w.heap.size < _ by omega)).trans D3.out
         have k1 := (HB.out.block _ hz).trans K1.out
         clear hb
         replace r0 : w1.cell? ⟨w.heap.size + 1, 0, none⟩ = some (.int .i64 0) := blk_cell (i := 0) k1 rfl
         replace r1 : w1.cell? ⟨w.heap.size + 1, 1, none⟩ = some (.int .i64 0) := blk_cell (i := 1) k1 rfl
         replace r2 : w1.cell? ⟨w.heap.size + 1, 2, none⟩ = some (.string ⟨#[]⟩) := blk_cell (i := 2) k1 rfl
         replace r3 : w1.cell? ⟨w.heap.size + 1, 3, none⟩ = some (.string ⟨#[]⟩) := blk_cell (i := 3) k1 rfl
         replace r4 : w1.cell? ⟨w.heap.size + 1, 4, none⟩ = some (.slice none 0 0) := blk_cell (i := 4) k1 rfl
         replace fr : ∀ o, w1.frozen? ⟨w.heap.size + 1, o, none⟩ = false := fun o => blk_free k1
         clear k1 hz))
  all_goals
    go_wp2
    refine bodyPost_ret (v := .agg #[.int .i64 x0, .int .i64 x1, .string x2, .string x3, .slice none 0 0]) (by simp [results, Try.f33, go_sem, r0, r1, r2, r3, r4]) rfl ?_
    refine ⟨rfl, ?_⟩
    have hz := Z0.out.1
    repeat first | with_reducible exact Z0.out.2.trans (HB.out.mono Z0.out.2.size) | (refine Below.setCell ?_ (by first | (simp; done) | (simp; omega)) _)

end Go.Proofs.Ytklcjjckelahcaa.typed
