/-
  The program's HeapNew, at every number; nothing that was there is turned.
-/
import Derived.Test.YtempmfpnngbbeaaHeapNewSpec
import Derived.Test.YtempmfpnngbbeaaHalfImpl
namespace Go.Proofs.Ytempmfpnngbbeaa.heap
open Go Go.RowKit Go.Proofs.Ytempmfpnngbbeaa.rose Go.Proofs.Ytempmfpnngbbeaa Go.Proofs.Ytempmfpnngbbeaa.fun Go.Proofs.Ytempmfpnngbbeaa.ints
set_option linter.unusedVariables false
set_option linter.unusedSimpArgs false

set_option maxHeartbeats 2000000 in
theorem implHeapNew (n : Int) (w : World) (h1 : -9223372036854775808 ≤ n) (h2 : n ≤ 9223372036854775807) :
    Calls Try.prog 20 #[.int .i64 n] w fun e w' => (∃ cs', e = .returned (.tuple #[.agg cs'.toArray, .bool (newF n).2]) ∧ heapSp.rep w' (fun b => w.heap.size ≤ b ∧ b < w'.heap.size) cs' (newF n).1) ∧ Below w.heap.size w w' := by
  rcases q : inB n 1 3000 with _ | _
  · have HQ : Hid (newF n = (([], 0, 0, 0), false)) := by show _ = _; unfold newF; rw [q]; rfl
    go_enter Try.func20, Try.ntmps20
    go_wp2_with (go_at_call 27; refine (half_is q).mono ?_; rintro e w' ⟨rfl, hx⟩; subst w')
    refine bodyPost_ret (v := .tuple #[.agg #[.slice none 0 0, .int .i64 0, .int .i64 0, .int .i64 0], .bool false]) (by simp [results, Try.f20, go_sem]) rfl ?_
    rw [HQ.out]
    refine ⟨⟨[.slice none 0 0, .int .i64 0, .int .i64 0, .int .i64 0], rfl, heapp_shutv (IRow.nil _ w.heap.size).sp (by omega) (by omega) (by omega)⟩, ?_⟩
    exact (Below.refl _ _).alloc (Nat.le_refl _) _
  · have q1 := inB_yes q
    obtain ⟨m, rfl⟩ : ∃ m : Nat, n = m := ⟨n.toNat, by omega⟩
    have HQ : Hid (newF m = ((List.replicate (2 * m) 0, (m : Int), 0, 0), true)) := by
      show _ = _; unfold newF; rw [q]; simp only [if_true]
      rw [show (2 * (m : Int)).toNat = 2 * m by omega]
    have hmk := make_ints (2 * m) (by omega)
    have hcast : ((2 * m : Nat) : Int) = 2 * (m : Int) := by omega
    rw [hcast] at hmk
    go_enter Try.func20, Try.ntmps20
    go_wp2_with (go_at_call 27; refine (half_is q).mono ?_; rintro e w' ⟨rfl, hx⟩; subst w')
    refine bodyPost_ret (v := .tuple #[.agg #[.slice (some ⟨w.heap.size + 1, 0, none⟩) (2 * m) (2 * m), .int .i64 m, .int .i64 0, .int .i64 0], .bool true]) (by simp [results, Try.f20, go_sem]) rfl ?_
    rw [HQ.out]
    have hr := made_row (2 * m) (by omega) (w.alloc (.cells #[.slice (some ⟨w.heap.size + 1, 0, none⟩) (2 * m) (2 * m), .int .i64 m, .int .i64 0, .int .i64 0] 26)) (base := w.heap.size) (by simp)
    rw [World.size_alloc, Nat.mul_one] at hr
    exact ⟨⟨[.slice (some ⟨w.heap.size + 1, 0, none⟩) (2 * m) (2 * m), .int .i64 m, .int .i64 0, .int .i64 0], rfl, heapp_shutv hr.sp (by omega) (by omega) (by omega)⟩, ((Below.refl _ _).alloc (Nat.le_refl _) _).alloc (by simp) _⟩

end Go.Proofs.Ytempmfpnngbbeaa.heap
