/-
  The program's Room, at every heap; nothing that was there is turned.
-/
import Derived.Test.YtempmfpnngbbeabHeapOkImpl
import Derived.Defers
namespace Go.Proofs.Ytempmfpnngbbeab.heap
open Go Go.RowKit Go.Proofs.Ytempmfpnngbbeab.rose Go.Proofs.Ytempmfpnngbbeab Go.Proofs.Ytempmfpnngbbeab.fun Go.Proofs.Ytempmfpnngbbeab.words Go.Proofs.Ytempmfpnngbbeab.ints
set_option linter.unusedVariables false
set_option linter.unusedSimpArgs false

/-- The lock's word is written. -/
theorem HH.lockw {B hb hm : Nat} {wv : Value} {W : List Int} {half base next : Nat} {lk : Int} {M : List Bool} {w : World} (h : HH B hb hm wv W half base next lk M w) (v : Int) : HH B hb hm wv W half base next v M (w.setCell ⟨hb, 0, none⟩ (.int .i32 v)) := by
  have hlo := h.lo
  refine ⟨h.lo, by simp [World.setCell, Array.getElem?_modify, h.blk], (Below.heap_setCell _ _ _ _ (by show hm ≠ hb; omega)).trans h.mks, h.len, intsSh.on h.wds fun b hb' => Below.heap_setCell _ _ _ _ (by show b ≠ hb; omega), h.siz⟩
theorem drewN_bel {B : Nat} {w w' : World} (h : Below B w w') (n : Nat) : Below B w (w'.drewN n) := ⟨h.os, h.tape, h.output, h.size, h.block⟩

set_option maxHeartbeats 4000000 in
theorem room_is {B hb hm : Nat} {wv : Value} {W : List Int} {half base next : Nat} {M : List Bool} {w : World} (h : HH B hb hm wv W half base next 0 M w) :
    Calls Try.prog 36 #[.pointer (some ⟨hb, 0, none⟩)] w fun e w' => e = .returned (.int .i64 ((base : Int) + half - next)) ∧ HH B hb hm wv W half base next 0 M w' ∧ Below B w w' := by
  have c0 := h.c0
  have z0 := h.frz 0
  have H1 : Hid (HH B hb hm wv W half base next 1 M (w.setCell ⟨hb, 0, none⟩ (.int .i32 1))) := h.lockw 1
  have B1 : Hid (Below B w (w.setCell ⟨hb, 0, none⟩ (.int .i32 1))) := (Below.refl _ _).setCell h.lo.1 _
  have LO : Hid (B ≤ hb) := h.lo.1
  have hcall := left_is H1.out
  clear h
  go_enter_defers Try.func36, Try.ntmps36
  go_wp2_with (go_at_call 45; refine (Go.MuLone.lock_free lock.muLib ⟨hb, 0, none⟩ _ c0 z0).mono ?_; rintro e w' ⟨rfl, rfl⟩)
  refine hcall.mono ?_
  rintro e w2 ⟨rfl, n, rfl⟩
  go_wp2
  refine leaves_cons (f := 46) (args := #[.pointer (some ⟨hb, 0, none⟩)]) (by simp) (by simp [go_sem]) ?_
  refine (Go.MuLone.unlock_deferred lock.muLib ⟨hb, 0, none⟩ .returning _ (H1.out.drewN n).c0 ((H1.out.drewN n).frz 0)).mono ?_
  rintro e u' w'' ⟨rfl, rfl, rfl⟩
  exact ⟨_, results_tmp rfl _ _ _, rfl, (H1.out.drewN n).lockw 0, (drewN_bel B1.out n).setCell LO.out _⟩

set_option maxHeartbeats 2000000 in
theorem implRoom (T : HeapD) (cs : List Value) (w : World) (hw : (wt T) ≤ 1048576) (h : heapSh.rep w (· < w.heap.size) cs T) :
    Calls Try.prog 23 #[.agg cs.toArray] w fun e w' => e = .returned (.int .i64 (roomF T)) ∧ Below w.heap.size w w' := by
  obtain ⟨W, a0, c0, half, base, next, rfl, rfl, f0, f1, f2, f3⟩ := heap_open h
  have A0 : Hid (ArgK w (w.alloc (.cells #[.slice a0 W.length c0, .int .i64 half, .int .i64 base, .int .i64 next] 27)) [.slice a0 W.length c0, .int .i64 half, .int .i64 base, .int .i64 next] 27) := ArgK.new _ _ _ rfl
  have hcall := hold_is W a0 c0 half base next _ (heapSh.mono (heapSh.below h A0.out.bel) fun b hlt => Nat.lt_of_lt_of_le hlt A0.out.bel.size)
  have hz : w.heap.size ≤ (w.alloc (.cells #[.slice a0 W.length c0, .int .i64 half, .int .i64 base, .int .i64 next] 27)).heap.size := A0.out.bel.size
  clear h f0 f1 f2 f3 hw
  rcases q : heapB (W, half, base, next) with _ | _
  · have HF : Hid (roomF (W, half, base, next) = 0) := by show _ = _; unfold roomF; rw [q]; rfl
    go_enter Try.func23, Try.ntmps23
    go_wp2_with fail
    refine hcall.mono ?_
    rintro e w1 ⟨ho, hb⟩
    obtain ⟨p, rfl⟩ := ho.1 q
    have A1 := A0.out.on hb
    clear hcall hb ho
    go_wp2
    go_ret
    exact ⟨ret_i HF.out.symm, A1.bel⟩
  · have HF : Hid (roomF (W, half, base, next) = base + half - next) := by show _ = _; unfold roomF; rw [q]; rfl
    go_enter Try.func23, Try.ntmps23
    go_wp2_with fail
    refine hcall.mono ?_
    rintro e w1 ⟨ho, hb⟩
    obtain ⟨hb', hm, hf, bs, nx, M, e1, e2, e3, rfl, hH, -⟩ := ho.2 q
    have A1 := A0.out.on hb
    have HZ : Hid (w.heap.size ≤ (w.alloc (.cells #[.slice a0 W.length c0, .int .i64 half, .int .i64 base, .int .i64 next] 27)).heap.size) := hz
    have hc2 := room_is hH
    subst e1 e2 e3
    clear hcall hb ho hH hz
    go_wp2_with fail
    refine hc2.mono ?_
    rintro e w2 ⟨rfl, -, hb2⟩
    go_wp2
    go_ret
    exact ⟨ret_i HF.out.symm, A1.bel.trans (hb2.mono HZ.out)⟩

end Go.Proofs.Ytempmfpnngbbeab.heap
