/-
  The program's TySize, at every type: how many are handed over; nothing that was there is turned.
-/
import Derived.Test.YtfekbchmgnpkaaaTysOfIn
import Derived.Stop.RegionWithIn
namespace Go.Proofs.Ytfekbchmgnpkaaa.ty
open Go.RowKit Go.Shelf Go.Proofs.Ytfekbchmgnpkaaa.rose Go.Proofs.Ytfekbchmgnpkaaa.rangeb Go.Proofs.Ytfekbchmgnpkaaa
set_option linter.unusedVariables false
set_option linter.unusedSimpArgs false
attribute [local go_sem] Oper.semAt_some

set_option maxRecDepth 100000 in
set_option maxHeartbeats 2000000 in
theorem implTySize (T : TyD) (cs : List Value) (w : World) (hw : wt T ≤ 1048576) (h : tySh.rep w (· < w.heap.size) cs T) :
    Calls Try.prog 12 #[.agg cs.toArray] w fun e w' => e = .returned (.int .i64 ((allT T).length : Nat)) ∧ Below w.heap.size w w' := by
  refine (callsIn_wide (n := 5)).1 ?_
  obtain ⟨v0, v1, v2, v3, rfl⟩ := ty_list h
  have o0 := tySh.one h v0 (by simp)
  have o1 := tySh.one h v1 (by simp)
  have o2 := tySh.one h v2 (by simp)
  have o3 := tySh.one h v3 (by simp)
  have hle := all_le T
  have HR : Hid _ := h
  clear h
  refine callsIn_of_wp_marks Try.func12 rfl trivial ?_ rfl
  simp only [Try.ntmps12, List.size_toArray, List.length_cons, List.length_nil, Nat.reduceAdd, Nat.reduceSub, Array.replicate_succ, Array.replicate_zero, List.push_toArray, List.append_toArray, List.nil_append, List.cons_append]
  gi_wp2_with (refine ⟨trivial, ?_⟩; gi_at_call 38; refine (tysOf_in Fence.wide _ trivial rfl v0 v1 v2 v3 _ o0 o1 o2 o3).mono ?_; rintro e w' ⟨rfl, rfl⟩)
  obtain ⟨W0, hW0⟩ : ∃ W0, W0 = (w.alloc (.cells #[v0, v1, v2, v3] 29)).alloc (.cells #[.int .i64 0] 3) := ⟨_, rfl⟩
  have z0 : W0.heap.size = w.heap.size + 2 := by rw [hW0]; simp
  have b0 : Below w.heap.size w W0 := by rw [hW0]; exact ((Below.refl _ w).alloc (Nat.le_refl _) _).alloc (by simp) _
  have k0 : W0.cell? ⟨w.heap.size + 1, 0, none⟩ = some (.int .i64 0) := by rw [hW0]; simp
  have q0 : W0.frozen? ⟨w.heap.size + 1, 0, none⟩ = false := by rw [hW0]; simp
  rw [← hW0]
  clear hW0
  obtain ⟨WL, hWL⟩ : ∃ WL, WL = W0.alloc (.cells #[v0, v1, v2, v3] 29) := ⟨_, rfl⟩
  have zL : WL.heap.size = w.heap.size + 3 := by rw [hWL]; simp [z0]
  have bl : Below W0.heap.size W0 WL := by rw [hWL]; exact (Below.refl _ _).alloc (Nat.le_refl _) _
  have cL : CellsAt WL W0.heap.size 0 [v0, v1, v2, v3] := by
    rw [hWL]
    intro j v hj
    match j, hj with
    | 0, hj | 1, hj | 2, hj | 3, hj => simp at hj; subst hj; simp
    | _ + 4, hj => simp at hj
  rw [z0] at cL
  rw [← hWL]
  refine wpIn_rangeFunc_C (n₀ := w.heap.size) (N := (allT T).length) rfl (by omega) (gf := 69) (lb := #[.pointer (some ⟨w.heap.size + 2, 0, none⟩)]) rfl trivial (enters_of Try.func69 (by kernel_rfl) rfl) (by omega)
    (tysOf_stops Fence.wide _ trivial rfl (by omega) (w.heap.size + 2) w.heap.size T [v0, v1, v2, v3] WL (by omega) (by omega) cL (tySh.below HR.out (b0.trans (bl.mono (by omega)))) hw) (fun _ => rfl)
    (fun pre W => W.cell? ⟨w.heap.size + 1, 0, none⟩ = some (.int .i64 (pre.length : Nat)) ∧ W.frozen? ⟨w.heap.size + 1, 0, none⟩ = false ∧ Below w.heap.size w W)
    (fun _ _ _ => False)
    (fun s A B hs hb => ⟨(hb.cell (p := ⟨w.heap.size + 1, 0, none⟩) (by simp; omega)).trans hs.1, (hb.frozen (p := ⟨w.heap.size + 1, 0, none⟩) (by simp; omega)).trans hs.2.1, hs.2.2.trans (hb.mono (by omega))⟩)
    (fun _ _ _ _ hs _ => hs)
    ⟨(bl.cell (p := ⟨w.heap.size + 1, 0, none⟩) (by simp; omega)).trans k0, (bl.frozen (p := ⟨w.heap.size + 1, 0, none⟩) (by simp; omega)).trans q0, b0.trans (bl.mono (by omega))⟩
    (fun x => { tmps := #[.agg #[v0, v1, v2, v3], .pointer (some ⟨w.heap.size, 0, none⟩), .int .i64 0, .pointer (some ⟨w.heap.size + 1, 0, none⟩), .agg #[v0, v1, v2, v3], .func (.func 69) #[] #[.pointer (some ⟨w.heap.size + 2, 0, none⟩)], encV x, undef, undef, undef], defers := [] }) ?assign ?body ?done ?stop
  case assign =>
    intro l x W K hK
    simp only [enc]
    gi_wp2
    simp
    exact hK
  case body =>
    rintro l pre x W ⟨hc, hf, hB⟩ hlen hz
    have hp : (pre.length : Int) + 1 ≤ 9223372036854775807 := by omega
    gi_wp2
    exact ⟨Kept.box (p := ⟨w.heap.size + 1, 0, none⟩) W _ (by simp) (by simp; omega), by rw [World.cell?_setCell_same' _ _ _ (by rw [hc]; rfl)]; simp, by rw [World.frozen?_setCell]; exact hf, hB.setCell (p := ⟨w.heap.size + 1, 0, none⟩) (by simp) _⟩
  case done =>
    rintro D ys W hD hS ⟨hc, hf, hB⟩ hK
    gi_wp2
    refine ⟨by simp, .inl ⟨_, _, rfl, run_takeDeferred hK, ?_⟩⟩
    have hl : ys.length = (allT T).length := by rw [← hS, List.length_map]
    exact ⟨_, results_tmp rfl _ _ _, by rw [hl]; rfl, hB.trans (put_below _ _ hK (by omega))⟩
  case stop =>
    rintro D c pre W _ _ h _
    exact h.elim

end Go.Proofs.Ytfekbchmgnpkaaa.ty
