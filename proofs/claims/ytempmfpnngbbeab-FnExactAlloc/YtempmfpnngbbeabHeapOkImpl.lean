/-
  The program's HeapOk, at every heap; nothing that was there is turned.
-/
import Derived.Test.YtempmfpnngbbeabHoldImpl
import Derived.Test.YtempmfpnngbbeabRoomSpec
namespace Go.Proofs.Ytempmfpnngbbeab.heap
open Go Go.RowKit Go.Proofs.Ytempmfpnngbbeab.rose Go.Proofs.Ytempmfpnngbbeab Go.Proofs.Ytempmfpnngbbeab.fun Go.Proofs.Ytempmfpnngbbeab.words Go.Proofs.Ytempmfpnngbbeab.ints
set_option linter.unusedVariables false
set_option linter.unusedSimpArgs false

set_option maxHeartbeats 2000000 in
theorem implHeapOk (T : HeapD) (cs : List Value) (w : World) (hw : (wt T) ≤ 1048576) (h : heapSh.rep w (· < w.heap.size) cs T) :
    Calls Try.prog 10 #[.agg cs.toArray] w fun e w' => e = .returned (.bool (heapB T)) ∧ Below w.heap.size w w' := by
  obtain ⟨W, a0, c0, half, base, next, rfl, rfl, f0, f1, f2, f3⟩ := heap_open h
  have A0 : Hid (ArgK w (w.alloc (.cells #[.slice a0 W.length c0, .int .i64 half, .int .i64 base, .int .i64 next] 27)) [.slice a0 W.length c0, .int .i64 half, .int .i64 base, .int .i64 next] 27) := ArgK.new _ _ _ rfl
  have hcall := hold_is W a0 c0 half base next _ (heapSh.mono (heapSh.below h A0.out.bel) fun b hlt => Nat.lt_of_lt_of_le hlt A0.out.bel.size)
  clear h f0 f1 f2 f3 hw
  rcases q : heapB (W, half, base, next) with _ | _
  · go_enter Try.func10, Try.ntmps10
    go_wp2_with fail
    refine hcall.mono ?_
    rintro e w1 ⟨ho, hb⟩
    obtain ⟨p, rfl⟩ := ho.1 q
    have A1 := A0.out.on hb
    clear hcall hb ho
    go_wp2
    go_ret
    exact ⟨rfl, A1.bel⟩
  · go_enter Try.func10, Try.ntmps10
    go_wp2_with fail
    refine hcall.mono ?_
    rintro e w1 ⟨ho, hb⟩
    obtain ⟨hb', hm, hf, bs, nx, M, -, -, -, rfl, -, -⟩ := ho.2 q
    have A1 := A0.out.on hb
    clear hcall hb ho
    go_wp2
    go_ret
    exact ⟨rfl, A1.bel⟩

end Go.Proofs.Ytempmfpnngbbeab.heap
