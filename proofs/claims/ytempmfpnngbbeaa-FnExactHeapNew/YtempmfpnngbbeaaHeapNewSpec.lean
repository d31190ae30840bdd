/-
  The model's HeapNew, at every number; nothing that was there is turned.
-/
import Derived.Test.YtempmfpnngbbeaaWordsSpec
import Derived.Test.YtempmfpnngbbeaaHeapSp
import Derived.Test.YtempmfpnngbbeaaIntRows
import Derived.Laws.MakeOwn
import Derived.Deep.OwnRows
namespace Go.Proofs.Ytempmfpnngbbeaa.heap
open Go Go.RowKit Go.Proofs.Ytempmfpnngbbeaa.rose Go.Proofs.Ytempmfpnngbbeaa Go.Proofs.Ytempmfpnngbbeaa.fun Go.Proofs.Ytempmfpnngbbeaa.ints
set_option linter.unusedVariables false
set_option linter.unusedSimpArgs false

/-- A new heap: nothing is in use. -/
def newF (n : Int) : HeapD × Bool := if inB n 1 3000 then ((List.replicate (2 * n).toNat 0, n, 0, 0), true) else (([], 0, 0, 0), false)

theorem infoN_int : (Try.prog.info? 3).map (fun i => (i.zero, i.size, i.bytes)) = some (some (.int .i64 0), 1, 8) := by kernel_rfl
theorem make_ints (n : Nat) (h : n ≤ 1048576) (w : World) : (Instr.makeSlice 24 (.int .i64 (n : Int)) (.int .i64 (n : Int))).run Try.prog w = .ok (.slice (some ⟨w.heap.size, 0, none⟩) n n)
    (w.alloc (.cells (madeCells #[.int .i64 0] (n * 1)) 3)) := by
  obtain ⟨i, hi, hzz⟩ := Option.map_eq_some_iff.1 infoN_int
  simp only [Prod.mk.injEq] at hzz
  obtain ⟨hz, hs, hb⟩ := hzz
  have := run_make (P := Try.prog) w 24 3 i _ Try.underlying24 hi hz .i64 .i64 n n (by omega) (by omega) (by rw [hb]; omega) (by omega)
  simpa [hs, Value.cells] using this
theorem made_row (n : Nat) (h : n ≤ 1048576) (w : World) {base : Nat} (hb : base ≤ w.heap.size) : IRow (w.alloc (.cells (madeCells #[.int .i64 0] (n * 1)) 3)) base (.slice (some ⟨w.heap.size, 0, none⟩) n n) (List.replicate n 0) := by
  refine ⟨⟨by simp, Or.inr ⟨w.heap.size, n, madeCells #[.int .i64 0] (n * 1), by simp, hb, alloc_top _ _, by simp, by unfold maxLen; omega, by simp [madeCells], ?_⟩⟩, fun x hx => ?_⟩
  · simp [madeCells]
    rw [List.take_of_length_le (by simp)]
    refine List.eq_replicate_iff.2 ⟨by simp, fun b hb => ?_⟩
    obtain ⟨x, -, rfl⟩ := List.mem_map.1 hb
    rw [Nat.mod_one]
    rfl
  · rw [List.mem_replicate] at hx; unfold InR; omega

set_option maxHeartbeats 2000000 in
theorem specHeapNew (n : Int) (w : World) (h1 : -9223372036854775808 ≤ n) (h2 : n ≤ 9223372036854775807) :
    Calls Try.prog 19 #[.int .i64 n] w fun e w' => (∃ cs', e = .returned (.tuple #[.agg cs'.toArray, .bool (newF n).2]) ∧ heapSp.rep w' (fun b => w.heap.size ≤ b ∧ b < w'.heap.size) cs' (newF n).1) ∧ Below w.heap.size w w' := by
  rcases q : inB n 1 3000 with _ | _
  · have HQ : Hid (newF n = (([], 0, 0, 0), false)) := by show _ = _; unfold newF; rw [q]; rfl
    go_enter Try.func19, Try.ntmps19
    go_wp2_with (go_at_call 26; refine (in_is q).mono ?_; rintro e w' ⟨rfl, hx⟩; subst w')
    refine bodyPost_ret (v := .tuple #[.agg #[.slice none 0 0, .int .i64 0, .int .i64 0, .int .i64 0], .bool false]) (by simp [results, Try.f19, go_sem]) rfl ?_
    rw [HQ.out]
    refine ⟨⟨[.slice none 0 0, .int .i64 0, .int .i64 0, .int .i64 0], rfl, heapp_shutv (IRow.nil _ w.heap.size).sp (by omega) (by omega) (by omega)⟩, ?_⟩
    exact (Below.refl _ _).alloc (Nat.le_refl _) _
  · have q1 := inB_yes q
    obtain ⟨m, rfl⟩ : ∃ m : Nat, n = m := ⟨n.toNat, by omega⟩
    have HQ : Hid (newF m = ((List.replicate (2 * m) 0, (m : Int), 0, 0), true)) := by
      show _ = _; unfold newF; rw [q]; simp only [if_true]
      rw [show (2 * (m : Int)).toNat = 2 * m by omega]
    have hmk := make_ints (2 * m) (by omega)
    have hcast : ((2 * m : Nat) : Int) = 2 * (m : Int) := by omega
    rw [hcast] at hmk
    go_enter Try.func19, Try.ntmps19
    go_wp2_with (go_at_call 26; refine (in_is q).mono ?_; rintro e w' ⟨rfl, hx⟩; subst w')
    refine bodyPost_ret (v := .tuple #[.agg #[.slice (some ⟨w.heap.size + 1, 0, none⟩) (2 * m) (2 * m), .int .i64 m, .int .i64 0, .int .i64 0], .bool true]) (by simp [results, Try.f19, go_sem]) rfl ?_
    rw [HQ.out]
    have hr := made_row (2 * m) (by omega) (w.alloc (.cells #[.slice (some ⟨w.heap.size + 1, 0, none⟩) (2 * m) (2 * m), .int .i64 m, .int .i64 0, .int .i64 0] 26)) (base := w.heap.size) (by simp)
    rw [World.size_alloc, Nat.mul_one] at hr
    exact ⟨⟨[.slice (some ⟨w.heap.size + 1, 0, none⟩) (2 * m) (2 * m), .int .i64 m, .int .i64 0, .int .i64 0], rfl, heapp_shutv hr.sp (by omega) (by omega) (by omega)⟩, ((Below.refl _ _).alloc (Nat.le_refl _) _).alloc (by simp) _⟩

end Go.Proofs.Ytempmfpnngbbeaa.heap
