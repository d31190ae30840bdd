/-
  The model's Room, at every heap; and HeapOk's and Room's contracts as the laws' frames ask for them.
-/
import Derived.Test.YtempmfpnngbbeabHeapOkSpec
import Derived.Test.YtempmfpnngbbeabHeapWt
namespace Go.Proofs.Ytempmfpnngbbeab.heap
open Go Go.RowKit Go.Proofs.Ytempmfpnngbbeab.rose Go.Proofs.Ytempmfpnngbbeab Go.Proofs.Ytempmfpnngbbeab.fun Go.Proofs.Ytempmfpnngbbeab.words Go.Proofs.Ytempmfpnngbbeab.ints
set_option linter.unusedVariables false
set_option linter.unusedSimpArgs false

/-- How many words are left. -/
def roomF (T : HeapD) : Int := if heapB T then T.2.2.1 + T.2.1 - T.2.2.2 else 0
theorem heapB_in {T : HeapD} (h : heapB T = true) : headB T = true := by
  unfold heapB at h
  simp only [Bool.and_eq_true] at h
  exact h.1.1
theorem specHeapOk_std (T : HeapD) (cs : List Value) (w : World) (hw : (wt T) ≤ 1048576) (h : heapSh.rep w (· < w.heap.size) cs T) :
    Calls Try.prog 8 #[.agg cs.toArray] w fun e w' => e = .returned (.bool (heapB T)) ∧ Below w.heap.size w w' := specHeapOk T cs w h

set_option maxHeartbeats 2000000 in
theorem specRoom (T : HeapD) (cs : List Value) (w : World) (hw : (wt T) ≤ 1048576) (h : heapSh.rep w (· < w.heap.size) cs T) :
    Calls Try.prog 22 #[.agg cs.toArray] w fun e w' => e = .returned (.int .i64 (roomF T)) ∧ Below w.heap.size w w' := by
  obtain ⟨W, a0, c0, half, base, next, rfl, rfl, f0, f1, f2, f3⟩ := heap_open h
  have BA : Hid (Below w.heap.size w (w.alloc (.cells #[.slice a0 W.length c0, .int .i64 half, .int .i64 base, .int .i64 next] 27))) := (Below.refl _ _).alloc (Nat.le_refl _) _
  have A0 : Hid (ArgK w (w.alloc (.cells #[.slice a0 W.length c0, .int .i64 half, .int .i64 base, .int .i64 next] 27)) [.slice a0 W.length c0, .int .i64 half, .int .i64 base, .int .i64 next] 27) := ArgK.new _ _ _ rfl
  have hcall := specHeapOk (W, half, base, next) _ _ (heapSh.mono (heapSh.below h BA.out) fun b hlt => Nat.lt_of_lt_of_le hlt BA.out.size)
  obtain ⟨r, hr⟩ : ∃ r, r = roomF (W, half, base, next) := ⟨_, rfl⟩
  have HR : Hid (r = roomF (W, half, base, next)) := hr
  rw [← hr]
  clear h f0 hr
  rcases q : heapB (W, half, base, next) with _ | _
  · have HF : Hid (r = 0) := by show _ = _; rw [HR.out]; unfold roomF; rw [q]; rfl
    rw [q] at hcall
    clear q
    go_enter Try.func22, Try.ntmps22
    go_wp2_with fail
    refine hcall.mono ?_
    rintro e w1 ⟨rfl, hb⟩
    have A1 := A0.out.on hb
    clear hcall hb
    go_wp2
    go_ret
    exact ⟨ret_i HF.out.symm, A1.bel⟩
  · have HF : Hid (r = base + half - next) := by show _ = _; rw [HR.out]; unfold roomF; rw [q]; rfl
    have hin := head_in (heapB_in q)
    dsimp only at hin
    rw [q] at hcall
    clear q
    go_enter Try.func22, Try.ntmps22
    go_wp2_with fail
    refine hcall.mono ?_
    rintro e w1 ⟨rfl, hb⟩
    have A1 : Hid (ArgK w w1 [.slice a0 W.length c0, .int .i64 half, .int .i64 base, .int .i64 next] 27) := A0.out.on hb
    have k1 : w1.cell? ⟨w.heap.size, 1, none⟩ = some (.int .i64 half) := A1.out.cell 1 rfl
    have k2 : w1.cell? ⟨w.heap.size, 2, none⟩ = some (.int .i64 base) := A1.out.cell 2 rfl
    have k3 : w1.cell? ⟨w.heap.size, 3, none⟩ = some (.int .i64 next) := A1.out.cell 3 rfl
    have hb1 : 0 ≤ base ∧ base ≤ 3000 ∧ 0 ≤ next ∧ next ≤ 6000 ∧ 1 ≤ half ∧ half ≤ 3000 := by omega
    clear hcall hb
    go_wp2
    go_ret
    exact ⟨ret_i (by rw [HF.out]), A1.out.bel⟩

end Go.Proofs.Ytempmfpnngbbeab.heap
