/-
  The program's HeapNew, at every number; nothing that was there is turned.
-/
import Derived.Test.YtigcpigmfcgaoaaB1
import Derived.Test.YtigcpigmfcgaoaaB2
import Derived.Test.YtigcpigmfcgaoaaB3
import Derived.Test.YtigcpigmfcgaoaaB4
import Derived.Test.YtigcpigmfcgaoaaB5
import Derived.Test.YtigcpigmfcgaoaaB6
import Derived.Test.YtigcpigmfcgaoaaB7
import Derived.Test.YtigcpigmfcgaoaaB8
import Derived.Test.YtigcpigmfcgaoaaB9
import Derived.Test.YtigcpigmfcgaoaaB10
import Derived.Test.YtigcpigmfcgaoaaB11
import Derived.Test.YtigcpigmfcgaoaaB12
import Derived.Test.YtigcpigmfcgaoaaB13
import Derived.Test.YtigcpigmfcgaoaaB14
import Derived.Test.YtigcpigmfcgaoaaB15
import Derived.Test.YtigcpigmfcgaoaaB16
import Derived.Test.YtigcpigmfcgaoaaB17
import Derived.Test.YtigcpigmfcgaoaaB18
import Derived.Test.YtigcpigmfcgaoaaB19
import Derived.Test.YtigcpigmfcgaoaaB20
import Derived.Test.YtigcpigmfcgaoaaB21
import Derived.Test.YtigcpigmfcgaoaaB22
import Derived.Test.YtigcpigmfcgaoaaB23
import Derived.Test.YtigcpigmfcgaoaaB24
import Derived.Test.YtigcpigmfcgaoaaB25
import Derived.Test.YtigcpigmfcgaoaaB26
import Derived.Test.YtigcpigmfcgaoaaB27
import Derived.Test.YtigcpigmfcgaoaaB28
import Derived.Test.YtigcpigmfcgaoaaB29
import Derived.Test.YtigcpigmfcgaoaaB30
import Derived.Test.YtigcpigmfcgaoaaB31
import Derived.Test.YtigcpigmfcgaoaaB32
import Derived.Test.YtigcpigmfcgaoaaB33
import Derived.Test.YtigcpigmfcgaoaaB34
import Derived.Test.YtigcpigmfcgaoaaB35
namespace Go.Proofs.Ytigcpigmfcgaoaa.heap
open Go Go.RowKit Go.Proofs.Ytigcpigmfcgaoaa.rose Go.Proofs.Ytigcpigmfcgaoaa Go.Proofs.Ytigcpigmfcgaoaa.fun Go.Proofs.Ytigcpigmfcgaoaa.ints
set_option linter.unusedVariables false
set_option linter.unusedSimpArgs false

set_option maxHeartbeats 2000000 in
theorem implHeapNew (n : Int) (w : World) (h1 : -9223372036854775808 ≤ n) (h2 : n ≤ 9223372036854775807) :
    Calls Try.prog 16 #[.int .i64 n] w fun e w' => (∃ cs', e = .returned (.tuple #[.agg cs'.toArray, .bool (newF n).2]) ∧ heapSp.rep w' (fun b => w.heap.size ≤ b ∧ b < w'.heap.size) cs' (newF n).1) ∧ Below w.heap.size w w' := by
  rcases q : inB n 1 3000 with _ | _
  · have HQ : Hid (newF n = (([], 0, 0, 0), false)) := by show _ = _; unfold newF; rw [q]; rfl
    go_enter Try.func16, Try.ntmps16
    go_wp2_with (go_at_call 39; refine (half_is q).mono ?_; rintro e w' ⟨rfl, hx⟩; subst w')
    refine bodyPost_ret (v := .tuple #[.agg #[.slice none 0 0, .int .i64 0, .int .i64 0, .int .i64 0], .bool false]) (by simp [results, Try.f16, go_sem]) rfl ?_
    rw [HQ.out]
    refine ⟨⟨[.slice none 0 0, .int .i64 0, .int .i64 0, .int .i64 0], rfl, heapp_shutv (IRow.nil _ w.heap.size).sp (by omega) (by omega) (by omega)⟩, ?_⟩
    exact (Below.refl _ _).alloc (Nat.le_refl _) _
  · have q1 := inB_yes q
    obtain ⟨m, rfl⟩ : ∃ m : Nat, n = m := ⟨n.toNat, by omega⟩
    have HQ : Hid (newF m = ((List.replicate (2 * m) 0, (m : Int), 0, 0), true)) := by
      show _ = _; unfold newF; rw [q]; simp only [if_true]
      rw [show (2 * (m : Int)).toNat = 2 * m by omega]
    have hmk := make_ints (2 * m) (by omega)
    have hcast : ((2 * m : Nat) : Int) = 2 * (m : Int) := by omega
    rw [hcast] at hmk
    go_enter Try.func16, Try.ntmps16
    go_wp2_with (go_at_call 39; refine (half_is q).mono ?_; rintro e w' ⟨rfl, hx⟩; subst w')
    refine bodyPost_ret (v := .tuple #[.agg #[.slice (some ⟨w.heap.size + 1, 0, none⟩) (2 * m) (2 * m), .int .i64 m, .int .i64 0, .int .i64 0], .bool true]) (by simp [results, Try.f16, go_sem]) rfl ?_
    rw [HQ.out]
    have hr := made_row (2 * m) (by omega) (w.alloc (.cells #[.slice (some ⟨w.heap.size + 1, 0, none⟩) (2 * m) (2 * m), .int .i64 m, .int .i64 0, .int .i64 0] 26)) (base := w.heap.size) (by simp)
    rw [World.size_alloc, Nat.mul_one] at hr
    exact ⟨⟨[.slice (some ⟨w.heap.size + 1, 0, none⟩) (2 * m) (2 * m), .int .i64 m, .int .i64 0, .int .i64 0], rfl, heapp_shutv hr.sp (by omega) (by omega) (by omega)⟩, ((Below.refl _ _).alloc (Nat.le_refl _) _).alloc (by simp) _⟩

end Go.Proofs.Ytigcpigmfcgaoaa.heap
