/-
  The model's Outcome, at every list of datas and machine; nothing that was there is turned.
  The program's WordOk; nothing is turned.
  The program's header: headerOf, ok, size, word; nothing that was there is turned.
  The numbers under which this program holds sync.Mutex, and that it holds it; the atomic number's Load and Add.
-/
import Derived.Deep.RegionHeld3
import Derived.Deep.CutRange
import Derived.Test.YtjofmoebijdccaaGreatChecked
import Derived.WalkKit
import Derived.WalkLawsBesides
import Derived.OwnWalk
import Derived.Conc.MuLone
import Derived.Test.YtjofmoebijdccaaGreatB1
import Derived.Test.YtjofmoebijdccaaGreatB2
import Derived.Test.YtjofmoebijdccaaGreatB3
import Derived.Test.YtjofmoebijdccaaGreatB4
import Derived.Test.YtjofmoebijdccaaGreatB5
import Derived.Test.YtjofmoebijdccaaGreatB6
import Derived.Test.YtjofmoebijdccaaGreatB7
import Derived.Test.YtjofmoebijdccaaGreatB8
import Derived.Test.YtjofmoebijdccaaGreatB9
import Derived.Test.YtjofmoebijdccaaGreatB10
import Derived.Test.YtjofmoebijdccaaGreatB11
import Derived.Test.YtjofmoebijdccaaGreatB12
import Derived.Test.YtjofmoebijdccaaGreatB13
import Derived.Test.YtjofmoebijdccaaGreatB14
import Derived.Test.YtjofmoebijdccaaGreatB15
import Derived.Test.YtjofmoebijdccaaGreatB16
import Derived.Test.YtjofmoebijdccaaGreatB17
import Derived.Test.YtjofmoebijdccaaGreatB18
import Derived.Test.YtjofmoebijdccaaGreatB19
import Derived.Test.YtjofmoebijdccaaGreatB20
import Derived.Test.YtjofmoebijdccaaGreatB21
namespace Go.Proofs.YtjofmoebijdccaaGreat.back
open Go Go.RowKit Go.Proofs.YtjofmoebijdccaaGreat.rose Go.Proofs.YtjofmoebijdccaaGreat Go.Proofs.YtjofmoebijdccaaGreat.heap
set_option linter.unusedVariables false
set_option linter.unusedSimpArgs false

set_option maxRecDepth 100000 in
set_option maxHeartbeats 8000000 in
theorem specOutcome (ks : List data.DataD) (T : vm.VmD) (v : Value) (cs : List Value) (w : World) (hw : (ks.length + data.wts ks) + vm.wt T ≤ 1048576) (h : data.dataSh.slice.rep w (· < w.heap.size) [v] ks) (h' : vm.vmSh.rep w (· < w.heap.size) cs T) :
    Calls Tryz.prog 6 #[v, .agg cs.toArray] w fun e w' => (∃ cs', e = .returned (.tuple #[.agg cs'.toArray, .bool (outF ks T).2]) ∧ value.valueSp.rep w' (fun b => w.heap.size ≤ b ∧ b < w'.heap.size) cs' (outF ks T).1) ∧ Below w.heap.size w w' := by
  have o0 := data.dataSh.slice.one h v (by simp)
  have HB0 : Hid (Below w.heap.size w w) := Below.refl _ _
  obtain ⟨x0, a0, c0, x1, u1_0, u1_1, u1_2, u1_3, x2, a2, c2, x3, a3, c3, x4, a4, c4, x5, x6, rfl, rfl, f0, f1, f2, f3, f4, f5⟩ := vm.vm_open h'
  have ou := heapSh.one f1
  have ou0 := ou u1_0 (by simp)
  have ou1 := ou u1_1 (by simp)
  have ou2 := ou u1_2 (by simp)
  have ou3 := ou u1_3 (by simp)
  clear ou
  have HW : Hid ((ks.length + data.wts ks) + heap.wt x1 ≤ 1048576) := hidX (by have : vm.wt (x0, x1, x2, x3, x4, x5, x6) = (x0.length + fun.wts x0) + (heap.wt x1 + (x2.length + (x3.length + x4.length))) := rfl; omega)
  obtain ⟨r, hr⟩ : ∃ r, r = outF ks (x0, x1, x2, x3, x4, x5, x6) := ⟨_, rfl⟩
  have HR : Hid (r = outF ks (x0, x1, x2, x3, x4, x5, x6)) := hr
  rw [← hr]
  have B0 : Hid (Below w.heap.size w ((w.alloc (.cells #[.slice a0 x0.length c0, u1_0, u1_1, u1_2, u1_3, .slice a2 x2.length c2, .slice a3 x3.length c3, .slice a4 x4.length c4, .int .i64 x5, .bool x6] 43)).alloc (.cells #[.int .i64 0, .int .i64 0, .string ⟨#[]⟩, .slice none 0 0] 34))) := ((Below.refl _ _).alloc (Nat.le_refl _) _).alloc (by simp) _
  have S0 : Hid ((((w.alloc (.cells #[.slice a0 x0.length c0, u1_0, u1_1, u1_2, u1_3, .slice a2 x2.length c2, .slice a3 x3.length c3, .slice a4 x4.length c4, .int .i64 x5, .bool x6] 43)).alloc (.cells #[.int .i64 0, .int .i64 0, .string ⟨#[]⟩, .slice none 0 0] 34))).heap.size = w.heap.size + 2) := by show _ = _; simp
  have X0 : Hid ((((w.alloc (.cells #[.slice a0 x0.length c0, u1_0, u1_1, u1_2, u1_3, .slice a2 x2.length c2, .slice a3 x3.length c3, .slice a4 x4.length c4, .int .i64 x5, .bool x6] 43)).alloc (.cells #[.int .i64 0, .int .i64 0, .string ⟨#[]⟩, .slice none 0 0] 34))).heap[w.heap.size]? = some (.cells #[.slice a0 x0.length c0, u1_0, u1_1, u1_2, u1_3, .slice a2 x2.length c2, .slice a3 x3.length c3, .slice a4 x4.length c4, .int .i64 x5, .bool x6] 43)) := (Below.heap_alloc _ _ _ (by simp)).trans (alloc_top _ _)
  have R0 : Hid ((((w.alloc (.cells #[.slice a0 x0.length c0, u1_0, u1_1, u1_2, u1_3, .slice a2 x2.length c2, .slice a3 x3.length c3, .slice a4 x4.length c4, .int .i64 x5, .bool x6] 43)).alloc (.cells #[.int .i64 0, .int .i64 0, .string ⟨#[]⟩, .slice none 0 0] 34))).heap[w.heap.size + 1]? = some (.cells #[.int .i64 0, .int .i64 0, .string ⟨#[]⟩, .slice none 0 0] 34)) := by
    have := alloc_top (w.alloc (.cells #[.slice a0 x0.length c0, u1_0, u1_1, u1_2, u1_3, .slice a2 x2.length c2, .slice a3 x3.length c3, .slice a4 x4.length c4, .int .i64 x5, .bool x6] 43)) (.cells #[.int .i64 0, .int .i64 0, .string ⟨#[]⟩, .slice none 0 0] 34)
    rwa [World.size_alloc] at this
  have k8 : (((w.alloc (.cells #[.slice a0 x0.length c0, u1_0, u1_1, u1_2, u1_3, .slice a2 x2.length c2, .slice a3 x3.length c3, .slice a4 x4.length c4, .int .i64 x5, .bool x6] 43)).alloc (.cells #[.int .i64 0, .int .i64 0, .string ⟨#[]⟩, .slice none 0 0] 34))).cell? ⟨w.heap.size, 8, none⟩ = some (.int .i64 x5) := blk_cell (i := 8) X0.out rfl
  have k5 : (((w.alloc (.cells #[.slice a0 x0.length c0, u1_0, u1_1, u1_2, u1_3, .slice a2 x2.length c2, .slice a3 x3.length c3, .slice a4 x4.length c4, .int .i64 x5, .bool x6] 43)).alloc (.cells #[.int .i64 0, .int .i64 0, .string ⟨#[]⟩, .slice none 0 0] 34))).cell? ⟨w.heap.size, 5, none⟩ = some (.slice a2 x2.length c2) := blk_cell (i := 5) X0.out rfl
  have hl2 : (x2.length : Int) ≤ 9223372036854775807 := by obtain ⟨aa, cap, e, hq, hm, -⟩ := ints.ints_open f2; unfold maxLen at hm; omega
  by_cases q1 : x5 = 1
  case neg =>
    have t1 : (x5 != 1) = true := by simpa using q1
    have HF : Hid (r = (zeroV, false)) := by show _ = _; rw [HR.out]; exact out_no (Or.inl q1)
    have r0 : (((w.alloc (.cells #[.slice a0 x0.length c0, u1_0, u1_1, u1_2, u1_3, .slice a2 x2.length c2, .slice a3 x3.length c3, .slice a4 x4.length c4, .int .i64 x5, .bool x6] 43)).alloc (.cells #[.int .i64 0, .int .i64 0, .string ⟨#[]⟩, .slice none 0 0] 34))).cell? ⟨w.heap.size + 1, 0, none⟩ = some (.int .i64 0) := blk_cell (i := 0) R0.out rfl
    have r1 : (((w.alloc (.cells #[.slice a0 x0.length c0, u1_0, u1_1, u1_2, u1_3, .slice a2 x2.length c2, .slice a3 x3.length c3, .slice a4 x4.length c4, .int .i64 x5, .bool x6] 43)).alloc (.cells #[.int .i64 0, .int .i64 0, .string ⟨#[]⟩, .slice none 0 0] 34))).cell? ⟨w.heap.size + 1, 1, none⟩ = some (.int .i64 0) := blk_cell (i := 1) R0.out rfl
    have r2 : (((w.alloc (.cells #[.slice a0 x0.length c0, u1_0, u1_1, u1_2, u1_3, .slice a2 x2.length c2, .slice a3 x3.length c3, .slice a4 x4.length c4, .int .i64 x5, .bool x6] 43)).alloc (.cells #[.int .i64 0, .int .i64 0, .string ⟨#[]⟩, .slice none 0 0] 34))).cell? ⟨w.heap.size + 1, 2, none⟩ = some (.string ⟨#[]⟩) := blk_cell (i := 2) R0.out rfl
    have r3 : (((w.alloc (.cells #[.slice a0 x0.length c0, u1_0, u1_1, u1_2, u1_3, .slice a2 x2.length c2, .slice a3 x3.length c3, .slice a4 x4.length c4, .int .i64 x5, .bool x6] 43)).alloc (.cells #[.int .i64 0, .int .i64 0, .string ⟨#[]⟩, .slice none 0 0] 34))).cell? ⟨w.heap.size + 1, 3, none⟩ = some (.slice none 0 0) := blk_cell (i := 3) R0.out rfl
    have fr : ∀ o, (((w.alloc (.cells #[.slice a0 x0.length c0, u1_0, u1_1, u1_2, u1_3, .slice a2 x2.length c2, .slice a3 x3.length c3, .slice a4 x4.length c4, .int .i64 x5, .bool x6] 43)).alloc (.cells #[.int .i64 0, .int .i64 0, .string ⟨#[]⟩, .slice none 0 0] 34))).frozen? ⟨w.heap.size + 1, o, none⟩ = false := fun o => blk_free R0.out
    clear h h' f0 f1 f2 f3 f4 f5 hr hw HB0
    go_enter Tryz.func6, Tryz.ntmps6
    go_wp2
    refine bodyPost_ret (v := .tuple #[.agg #[.int .i64 0, .int .i64 0, .string ⟨#[]⟩, .slice none 0 0], .bool false]) (by simp [results, Tryz.f6, go_sem]) rfl ?_
    rw [HF.out]
    exact ⟨⟨[.int .i64 0, .int .i64 0, .string ⟨#[]⟩, .slice none 0 0], rfl, zero_rep _ _⟩, ((Below.refl _ _).alloc (Nat.le_refl _) _).alloc (by simp) _⟩
  by_cases q2 : x2.length = 1
  case neg =>
    have t1 : (x5 != 1) = false := by simpa using q1
    have t2 : ((x2.length : Int) != 1) = true := by simp; omega
    have HF : Hid (r = (zeroV, false)) := by show _ = _; rw [HR.out]; exact out_no (Or.inr q2)
    have r0 : (((w.alloc (.cells #[.slice a0 x0.length c0, u1_0, u1_1, u1_2, u1_3, .slice a2 x2.length c2, .slice a3 x3.length c3, .slice a4 x4.length c4, .int .i64 x5, .bool x6] 43)).alloc (.cells #[.int .i64 0, .int .i64 0, .string ⟨#[]⟩, .slice none 0 0] 34))).cell? ⟨w.heap.size + 1, 0, none⟩ = some (.int .i64 0) := blk_cell (i := 0) R0.out rfl
    have r1 : (((w.alloc (.cells #[.slice a0 x0.length c0, u1_0, u1_1, u1_2, u1_3, .slice a2 x2.length c2, .slice a3 x3.length c3, .slice a4 x4.length c4, .int .i64 x5, .bool x6] 43)).alloc (.cells #[.int .i64 0, .int .i64 0, .string ⟨#[]⟩, .slice none 0 0] 34))).cell? ⟨w.heap.size + 1, 1, none⟩ = some (.int .i64 0) := blk_cell (i := 1) R0.out rfl
    have r2 : (((w.alloc (.cells #[.slice a0 x0.length c0, u1_0, u1_1, u1_2, u1_3, .slice a2 x2.length c2, .slice a3 x3.length c3, .slice a4 x4.length c4, .int .i64 x5, .bool x6] 43)).alloc (.cells #[.int .i64 0, .int .i64 0, .string ⟨#[]⟩, .slice none 0 0] 34))).cell? ⟨w.heap.size + 1, 2, none⟩ = some (.string ⟨#[]⟩) := blk_cell (i := 2) R0.out rfl
    have r3 : (((w.alloc (.cells #[.slice a0 x0.length c0, u1_0, u1_1, u1_2, u1_3, .slice a2 x2.length c2, .slice a3 x3.length c3, .slice a4 x4.length c4, .int .i64 x5, .bool x6] 43)).alloc (.cells #[.int .i64 0, .int .i64 0, .string ⟨#[]⟩, .slice none 0 0] 34))).cell? ⟨w.heap.size + 1, 3, none⟩ = some (.slice none 0 0) := blk_cell (i := 3) R0.out rfl
    have fr : ∀ o, (((w.alloc (.cells #[.slice a0 x0.length c0, u1_0, u1_1, u1_2, u1_3, .slice a2 x2.length c2, .slice a3 x3.length c3, .slice a4 x4.length c4, .int .i64 x5, .bool x6] 43)).alloc (.cells #[.int .i64 0, .int .i64 0, .string ⟨#[]⟩, .slice none 0 0] 34))).frozen? ⟨w.heap.size + 1, o, none⟩ = false := fun o => blk_free R0.out
    clear h h' f0 f1 f2 f3 f4 f5 hr hw HB0 q1 q2
    go_enter Tryz.func6, Tryz.ntmps6
    go_wp2
    refine bodyPost_ret (v := .tuple #[.agg #[.int .i64 0, .int .i64 0, .string ⟨#[]⟩, .slice none 0 0], .bool false]) (by simp [results, Tryz.f6, go_sem]) rfl ?_
    rw [HF.out]
    exact ⟨⟨[.int .i64 0, .int .i64 0, .string ⟨#[]⟩, .slice none 0 0], rfl, zero_rep _ _⟩, ((Below.refl _ _).alloc (Nat.le_refl _) _).alloc (by simp) _⟩
  have t1 : (x5 != 1) = false := by simpa using q1
  have t2 : ((x2.length : Int) != 1) = false := by simp; omega
  obtain ⟨y, rfl⟩ : ∃ y, x2 = [y] := by
    match x2, q2 with
    | [y], _ => exact ⟨y, rfl⟩
  have HF : Hid (r = backF ks x1 y) := by show _ = _; rw [HR.out]; exact out_yes q1
  obtain ⟨aa, cap, e, -, -, hat⟩ := ints.ints_open f2
  cases e
  obtain ⟨b, o, rfl, hS, hc, y1, y2⟩ := hat 0 (by simp)
  clear B0 S0 X0 R0 k8 k5
  have B0 : Hid (Below w.heap.size w ((w.alloc (.cells #[.slice a0 x0.length c0, u1_0, u1_1, u1_2, u1_3, .slice (some ⟨b, o, none⟩) 1 c2, .slice a3 x3.length c3, .slice a4 x4.length c4, .int .i64 x5, .bool x6] 43)).alloc (.cells #[.int .i64 0, .int .i64 0, .string ⟨#[]⟩, .slice none 0 0] 34))) := ((Below.refl _ _).alloc (Nat.le_refl _) _).alloc (by simp) _
  have S0 : Hid ((((w.alloc (.cells #[.slice a0 x0.length c0, u1_0, u1_1, u1_2, u1_3, .slice (some ⟨b, o, none⟩) 1 c2, .slice a3 x3.length c3, .slice a4 x4.length c4, .int .i64 x5, .bool x6] 43)).alloc (.cells #[.int .i64 0, .int .i64 0, .string ⟨#[]⟩, .slice none 0 0] 34))).heap.size = w.heap.size + 2) := by show _ = _; simp
  have X0 : Hid ((((w.alloc (.cells #[.slice a0 x0.length c0, u1_0, u1_1, u1_2, u1_3, .slice (some ⟨b, o, none⟩) 1 c2, .slice a3 x3.length c3, .slice a4 x4.length c4, .int .i64 x5, .bool x6] 43)).alloc (.cells #[.int .i64 0, .int .i64 0, .string ⟨#[]⟩, .slice none 0 0] 34))).heap[w.heap.size]? = some (.cells #[.slice a0 x0.length c0, u1_0, u1_1, u1_2, u1_3, .slice (some ⟨b, o, none⟩) 1 c2, .slice a3 x3.length c3, .slice a4 x4.length c4, .int .i64 x5, .bool x6] 43)) := (Below.heap_alloc _ _ _ (by simp)).trans (alloc_top _ _)
  have R0 : Hid ((((w.alloc (.cells #[.slice a0 x0.length c0, u1_0, u1_1, u1_2, u1_3, .slice (some ⟨b, o, none⟩) 1 c2, .slice a3 x3.length c3, .slice a4 x4.length c4, .int .i64 x5, .bool x6] 43)).alloc (.cells #[.int .i64 0, .int .i64 0, .string ⟨#[]⟩, .slice none 0 0] 34))).heap[w.heap.size + 1]? = some (.cells #[.int .i64 0, .int .i64 0, .string ⟨#[]⟩, .slice none 0 0] 34)) := by
    have := alloc_top (w.alloc (.cells #[.slice a0 x0.length c0, u1_0, u1_1, u1_2, u1_3, .slice (some ⟨b, o, none⟩) 1 c2, .slice a3 x3.length c3, .slice a4 x4.length c4, .int .i64 x5, .bool x6] 43)) (.cells #[.int .i64 0, .int .i64 0, .string ⟨#[]⟩, .slice none 0 0] 34)
    rwa [World.size_alloc] at this
  have k8 : (((w.alloc (.cells #[.slice a0 x0.length c0, u1_0, u1_1, u1_2, u1_3, .slice (some ⟨b, o, none⟩) 1 c2, .slice a3 x3.length c3, .slice a4 x4.length c4, .int .i64 x5, .bool x6] 43)).alloc (.cells #[.int .i64 0, .int .i64 0, .string ⟨#[]⟩, .slice none 0 0] 34))).cell? ⟨w.heap.size, 8, none⟩ = some (.int .i64 x5) := blk_cell (i := 8) X0.out rfl
  have k5 : (((w.alloc (.cells #[.slice a0 x0.length c0, u1_0, u1_1, u1_2, u1_3, .slice (some ⟨b, o, none⟩) 1 c2, .slice a3 x3.length c3, .slice a4 x4.length c4, .int .i64 x5, .bool x6] 43)).alloc (.cells #[.int .i64 0, .int .i64 0, .string ⟨#[]⟩, .slice none 0 0] 34))).cell? ⟨w.heap.size, 5, none⟩ = some (.slice (some ⟨b, o, none⟩) 1 c2) := blk_cell (i := 5) X0.out rfl
  have ky : (((w.alloc (.cells #[.slice a0 x0.length c0, u1_0, u1_1, u1_2, u1_3, .slice (some ⟨b, o, none⟩) 1 c2, .slice a3 x3.length c3, .slice a4 x4.length c4, .int .i64 x5, .bool x6] 43)).alloc (.cells #[.int .i64 0, .int .i64 0, .string ⟨#[]⟩, .slice none 0 0] 34))).cell? ⟨b, o, none⟩ = some (.int .i64 y) := (B0.out.cell (p := ⟨b, o, none⟩) hS).trans (by simpa using hc)
  have k1 : (((w.alloc (.cells #[.slice a0 x0.length c0, u1_0, u1_1, u1_2, u1_3, .slice (some ⟨b, o, none⟩) 1 c2, .slice a3 x3.length c3, .slice a4 x4.length c4, .int .i64 x5, .bool x6] 43)).alloc (.cells #[.int .i64 0, .int .i64 0, .string ⟨#[]⟩, .slice none 0 0] 34))).cell? ⟨w.heap.size, 1, none⟩ = some u1_0 := blk_cell (i := 1) X0.out rfl
  have k2 : (((w.alloc (.cells #[.slice a0 x0.length c0, u1_0, u1_1, u1_2, u1_3, .slice (some ⟨b, o, none⟩) 1 c2, .slice a3 x3.length c3, .slice a4 x4.length c4, .int .i64 x5, .bool x6] 43)).alloc (.cells #[.int .i64 0, .int .i64 0, .string ⟨#[]⟩, .slice none 0 0] 34))).cell? ⟨w.heap.size, 2, none⟩ = some u1_1 := blk_cell (i := 2) X0.out rfl
  have k3 : (((w.alloc (.cells #[.slice a0 x0.length c0, u1_0, u1_1, u1_2, u1_3, .slice (some ⟨b, o, none⟩) 1 c2, .slice a3 x3.length c3, .slice a4 x4.length c4, .int .i64 x5, .bool x6] 43)).alloc (.cells #[.int .i64 0, .int .i64 0, .string ⟨#[]⟩, .slice none 0 0] 34))).cell? ⟨w.heap.size, 3, none⟩ = some u1_2 := blk_cell (i := 3) X0.out rfl
  have k4 : (((w.alloc (.cells #[.slice a0 x0.length c0, u1_0, u1_1, u1_2, u1_3, .slice (some ⟨b, o, none⟩) 1 c2, .slice a3 x3.length c3, .slice a4 x4.length c4, .int .i64 x5, .bool x6] 43)).alloc (.cells #[.int .i64 0, .int .i64 0, .string ⟨#[]⟩, .slice none 0 0] 34))).cell? ⟨w.heap.size, 4, none⟩ = some u1_3 := blk_cell (i := 4) X0.out rfl
  simp only [List.getElem_cons_zero] at y1 y2
  obtain ⟨wa, hwa⟩ : ∃ wa, wa = ((w.alloc (.cells #[.slice a0 x0.length c0, u1_0, u1_1, u1_2, u1_3, .slice (some ⟨b, o, none⟩) 1 c2, .slice a3 x3.length c3, .slice a4 x4.length c4, .int .i64 x5, .bool x6] 43)).alloc (.cells #[.int .i64 0, .int .i64 0, .string ⟨#[]⟩, .slice none 0 0] 34)) := ⟨_, rfl⟩
  rw [← hwa] at B0 S0 X0 R0 k1 k2 k3 k4 k5 k8 ky
  have HD : Hid (data.dataSh.slice.rep wa (· < wa.heap.size) [v] ks ∧ heapSh.rep wa (· < wa.heap.size) [u1_0, u1_1, u1_2, u1_3] x1) := ⟨data.dataSh.slice.mono (data.dataSh.slice.below h B0.out) fun b hb => Nat.lt_of_lt_of_le hb B0.out.size, heapSh.mono (heapSh.below f1 B0.out) fun b hb => Nat.lt_of_lt_of_le hb B0.out.size⟩
  have hcallD := specBack ks x1 y v [u1_0, u1_1, u1_2, u1_3] wa.drew HW.out y1 y2 (data.dataSh.slice.on HD.out.1 fun _ _ => rfl) (heapSh.on HD.out.2 fun _ _ => rfl)
  have hcallA := specBack ks x1 y v [u1_0, u1_1, u1_2, u1_3] (wa.alloc (.cells #[.int .i64 0, .int .i64 0, .string ⟨#[]⟩, .slice none 0 0] 34)).drew HW.out y1 y2 (rep_thruX data.dataSh.slice HD.out.1 (((Below.refl _ _).alloc (Nat.le_refl _) (.cells #[.int .i64 0, .int .i64 0, .string ⟨#[]⟩, .slice none 0 0] 34)).drew)) (rep_thruX heapSh HD.out.2 (((Below.refl _ _).alloc (Nat.le_refl _) (.cells #[.int .i64 0, .int .i64 0, .string ⟨#[]⟩, .slice none 0 0] 34)).drew))
  have HSB : Hid (b < w.heap.size) := hS
  clear h h' f0 f1 f2 f3 f4 f5 hr hw HB0 q1 q2 hat hc hS
  have qk1 : wa.drew.cell? ⟨w.heap.size, 1, none⟩ = _ := k1
  have qk2 : wa.drew.cell? ⟨w.heap.size, 2, none⟩ = _ := k2
  have qk3 : wa.drew.cell? ⟨w.heap.size, 3, none⟩ = _ := k3
  have qk4 : wa.drew.cell? ⟨w.heap.size, 4, none⟩ = _ := k4
  have qk5 : wa.drew.cell? ⟨w.heap.size, 5, none⟩ = _ := k5
  have qky : wa.drew.cell? ⟨b, o, none⟩ = _ := ky
  have hwf : wa.frozen? ⟨w.heap.size + 1, 0, none⟩ = false := blk_free R0.out
  have z0 : wa.cell? ⟨w.heap.size + 1, 0, none⟩ = some (.int .i64 0) := blk_cell (i := 0) R0.out rfl
  have z1 : wa.cell? ⟨w.heap.size + 1, 1, none⟩ = some (.int .i64 0) := blk_cell (i := 1) R0.out rfl
  have z2 : wa.cell? ⟨w.heap.size + 1, 2, none⟩ = some (.string ⟨#[]⟩) := blk_cell (i := 2) R0.out rfl
  have z3 : wa.cell? ⟨w.heap.size + 1, 3, none⟩ = some (.slice none 0 0) := blk_cell (i := 3) R0.out rfl
  go_enter Tryz.func6, Tryz.ntmps6
  go_upto_region 3 with fail
  rw [← hwa]
  clear hwa
  have hbw : b < w.heap.size := HSB.out
  go_region_held3 (fun X => X.cell? ⟨w.heap.size, 1, none⟩ = some (u1_0) ∧ X.cell? ⟨w.heap.size, 2, none⟩ = some (u1_1) ∧ X.cell? ⟨w.heap.size, 3, none⟩ = some (u1_2) ∧ X.cell? ⟨w.heap.size, 4, none⟩ = some (u1_3) ∧ X.cell? ⟨w.heap.size, 5, none⟩ = some (.slice (some ⟨b, o, none⟩) 1 c2) ∧ X.cell? ⟨b, o, none⟩ = some (.int .i64 y))
    (exact ⟨by first | with_reducible exact k1 | with_reducible exact qk1 | with_reducible exact cell_alX k1 | with_reducible exact cell_alX qk1 | (with_reducible refine cell_set4X k1 ?_; have := HGE.out; have := S0.out; omega) | exact cell_alX k1, by first | with_reducible exact k2 | with_reducible exact qk2 | with_reducible exact cell_alX k2 | with_reducible exact cell_alX qk2 | (with_reducible refine cell_set4X k2 ?_; have := HGE.out; have := S0.out; omega) | exact cell_alX k2, by first | with_reducible exact k3 | with_reducible exact qk3 | with_reducible exact cell_alX k3 | with_reducible exact cell_alX qk3 | (with_reducible refine cell_set4X k3 ?_; have := HGE.out; have := S0.out; omega) | exact cell_alX k3, by first | with_reducible exact k4 | with_reducible exact qk4 | with_reducible exact cell_alX k4 | with_reducible exact cell_alX qk4 | (with_reducible refine cell_set4X k4 ?_; have := HGE.out; have := S0.out; omega) | exact cell_alX k4, by first | with_reducible exact k5 | with_reducible exact qk5 | with_reducible exact cell_alX k5 | with_reducible exact cell_alX qk5 | (with_reducible refine cell_set4X k5 ?_; have := HGE.out; have := S0.out; omega) | exact cell_alX k5, by first | with_reducible exact ky | with_reducible exact qky | with_reducible exact cell_alX ky | with_reducible exact cell_alX qky | (with_reducible refine cell_set4X ky ?_; have := HGE.out; have := S0.out; omega) | exact cell_alX ky⟩)
    (first
    | (go_at_call 22; with_reducible refine hcallD.mono ?_; rintro e w4 ⟨⟨cs', rfl, hrep⟩, hb⟩
       obtain ⟨n0, n1, n2, n3, rfl⟩ := value.value_list (value.valuep_rep hrep)
       have on0 := value.valueSp.one hrep n0 (by simp)
       have on1 := value.valueSp.one hrep n1 (by simp)
       have on2 := value.valueSp.one hrep n2 (by simp)
       have on3 := value.valueSp.one hrep n3 (by simp)
       have so0 := fun (a : Addr) (m : Mode) (w : World) => run_store Tryz.prog w a n0 m on0
       have so1 := fun (a : Addr) (m : Mode) (w : World) => run_store Tryz.prog w a n1 m on1
       have so2 := fun (a : Addr) (m : Mode) (w : World) => run_store Tryz.prog w a n2 m on2
       have so3 := fun (a : Addr) (m : Mode) (w : World) => run_store Tryz.prog w a n3 m on3
       have HP4 : Hid (Below wa.heap.size wa w4) := hidX ((Below.refl _ wa).drew.trans hb)
       replace k1 : w4.cell? ⟨w.heap.size, 1, none⟩ = some (u1_0) := (HP4.out.cell (p := ⟨w.heap.size, 1, none⟩) (by have := HSB.out; have := S0.out; show w.heap.size < wa.heap.size; omega)).trans k1
       replace k2 : w4.cell? ⟨w.heap.size, 2, none⟩ = some (u1_1) := (HP4.out.cell (p := ⟨w.heap.size, 2, none⟩) (by have := HSB.out; have := S0.out; show w.heap.size < wa.heap.size; omega)).trans k2
       replace k3 : w4.cell? ⟨w.heap.size, 3, none⟩ = some (u1_2) := (HP4.out.cell (p := ⟨w.heap.size, 3, none⟩) (by have := HSB.out; have := S0.out; show w.heap.size < wa.heap.size; omega)).trans k3
       replace k4 : w4.cell? ⟨w.heap.size, 4, none⟩ = some (u1_3) := (HP4.out.cell (p := ⟨w.heap.size, 4, none⟩) (by have := HSB.out; have := S0.out; show w.heap.size < wa.heap.size; omega)).trans k4
       replace k5 : w4.cell? ⟨w.heap.size, 5, none⟩ = some (.slice (some ⟨b, o, none⟩) 1 c2) := (HP4.out.cell (p := ⟨w.heap.size, 5, none⟩) (by have := HSB.out; have := S0.out; show w.heap.size < wa.heap.size; omega)).trans k5
       replace ky : w4.cell? ⟨b, o, none⟩ = some (.int .i64 y) := (HP4.out.cell (p := ⟨b, o, none⟩) (by have := HSB.out; have := S0.out; show b < wa.heap.size; omega)).trans ky
       have RF : Hid (value.valueSp.rep w4 (fun b => wa.heap.size ≤ b ∧ b < w4.heap.size) [n0, n1, n2, n3] (backF ks x1 y).1) := hidX hrep
       clear hb hrep)
    | (go_at_call 22; with_reducible refine hcallA.mono ?_; rintro e w4 ⟨⟨cs', rfl, hrep⟩, hb⟩
       obtain ⟨n0, n1, n2, n3, rfl⟩ := value.value_list (value.valuep_rep hrep)
       have on0 := value.valueSp.one hrep n0 (by simp)
       have on1 := value.valueSp.one hrep n1 (by simp)
       have on2 := value.valueSp.one hrep n2 (by simp)
       have on3 := value.valueSp.one hrep n3 (by simp)
       have so0 := fun (a : Addr) (m : Mode) (w : World) => run_store Tryz.prog w a n0 m on0
       have so1 := fun (a : Addr) (m : Mode) (w : World) => run_store Tryz.prog w a n1 m on1
       have so2 := fun (a : Addr) (m : Mode) (w : World) => run_store Tryz.prog w a n2 m on2
       have so3 := fun (a : Addr) (m : Mode) (w : World) => run_store Tryz.prog w a n3 m on3
       have HP4 : Hid (Below wa.heap.size wa w4) := hidX (bel_stepX (((Below.refl _ wa).alloc (Nat.le_refl _) (.cells #[.int .i64 0, .int .i64 0, .string ⟨#[]⟩, .slice none 0 0] 34)).drew) hb)
       replace k1 : w4.cell? ⟨w.heap.size, 1, none⟩ = some (u1_0) := (HP4.out.cell (p := ⟨w.heap.size, 1, none⟩) (by have := HSB.out; have := S0.out; show w.heap.size < wa.heap.size; omega)).trans k1
       replace k2 : w4.cell? ⟨w.heap.size, 2, none⟩ = some (u1_1) := (HP4.out.cell (p := ⟨w.heap.size, 2, none⟩) (by have := HSB.out; have := S0.out; show w.heap.size < wa.heap.size; omega)).trans k2
       replace k3 : w4.cell? ⟨w.heap.size, 3, none⟩ = some (u1_2) := (HP4.out.cell (p := ⟨w.heap.size, 3, none⟩) (by have := HSB.out; have := S0.out; show w.heap.size < wa.heap.size; omega)).trans k3
       replace k4 : w4.cell? ⟨w.heap.size, 4, none⟩ = some (u1_3) := (HP4.out.cell (p := ⟨w.heap.size, 4, none⟩) (by have := HSB.out; have := S0.out; show w.heap.size < wa.heap.size; omega)).trans k4
       replace k5 : w4.cell? ⟨w.heap.size, 5, none⟩ = some (.slice (some ⟨b, o, none⟩) 1 c2) := (HP4.out.cell (p := ⟨w.heap.size, 5, none⟩) (by have := HSB.out; have := S0.out; show w.heap.size < wa.heap.size; omega)).trans k5
       replace ky : w4.cell? ⟨b, o, none⟩ = some (.int .i64 y) := (HP4.out.cell (p := ⟨b, o, none⟩) (by have := HSB.out; have := S0.out; show b < wa.heap.size; omega)).trans ky
       have ZF : Hid (DZ wa w4 wa.heap.size (.cells #[.int .i64 0, .int .i64 0, .string ⟨#[]⟩, .slice none 0 0] 34)) := hidX (DZ.new2d (X := wa) (Z := (.cells #[.int .i64 0, .int .i64 0, .string ⟨#[]⟩, .slice none 0 0] 34)) (Below.refl _ _) hb)
       have RF2 : Hid (value.valueSp.rep w4 (fun b => wa.heap.size + 1 ≤ b ∧ b < w4.heap.size) [n0, n1, n2, n3] (backF ks x1 y).1) := hidX (value.valueSp.mono hrep fun b hb => ⟨by have h1 := hb.1; have : (wa.alloc (.cells #[.int .i64 0, .int .i64 0, .string ⟨#[]⟩, .slice none 0 0] 34)).drew.heap.size = wa.heap.size + 1 := (by show (wa.alloc _).heap.size = _; simp); omega, hb.2⟩)
       have zc0 : w4.cell? ⟨wa.heap.size, 0, none⟩ = some (.int .i64 0) := blkX (i := 0) ZF.out.blk rfl
       have zc1 : w4.cell? ⟨wa.heap.size, 1, none⟩ = some (.int .i64 0) := blkX (i := 1) ZF.out.blk rfl
       have zc2 : w4.cell? ⟨wa.heap.size, 2, none⟩ = some (.string ⟨#[]⟩) := blkX (i := 2) ZF.out.blk rfl
       have zc3 : w4.cell? ⟨wa.heap.size, 3, none⟩ = some (.slice none 0 0) := blkX (i := 3) ZF.out.blk rfl
       have zcf : ∀ o, w4.frozen? ⟨wa.heap.size, o, none⟩ = false := fun o => frzX ZF.out.blk
       have HGE : Hid (wa.heap.size ≤ wa.heap.size) := hidX (Nat.le_refl _)
       clear hb hrep))
  all_goals
    first
      | (have IT := hidX (itm_aX (A := value.valueSp) (t := 34) (arr := #[n0, n1, n2, n3]) HP4.out (Nat.le_refl _) RF.out rfl); revert IT; generalize w4.alloc (.cells #[n0, n1, n2, n3] 34) = w5; generalize hg : w4.heap.size = g5; intro IT)
      | (have IT := hidX (itm_z4X (A := value.valueSp) (t := 34) HP4.out (Nat.le_succ _) ZF.out (Nat.lt_succ_self _) RF2.out); revert IT; generalize ((((w4.setCell ⟨wa.heap.size, 0, none⟩ n0).setCell ⟨wa.heap.size, 1, none⟩ n1).setCell ⟨wa.heap.size, 2, none⟩ n2).setCell ⟨wa.heap.size, 3, none⟩ n3) = w5; intro IT)
    clear k1 k2 k3 k4 k5 ky qk1 qk2 qk3 qk4 qk5 qky hcallD hcallA
    have R5 : Hid (w5.heap[w.heap.size + 1]? = some (.cells #[.int .i64 0, .int .i64 0, .string ⟨#[]⟩, .slice none 0 0] 34)) := hidX ((IT.out.1.block _ (by have := S0.out; omega)).trans R0.out)
    have B5 : Hid (Below w.heap.size w w5) := hidX (B0.out.trans (IT.out.1.mono B0.out.size))
    have y0 := IT.out.2.1.cell 0 (v := n0) rfl
    have y1' := IT.out.2.1.cell 1 (v := n1) rfl
    have y2' := IT.out.2.1.cell 2 (v := n2) rfl
    have y3 := IT.out.2.1.cell 3 (v := n3) rfl
    have zz0 : w5.cell? ⟨w.heap.size + 1, 0, none⟩ = some (.int .i64 0) := blk_cell (i := 0) R5.out rfl
    have zz1 : w5.cell? ⟨w.heap.size + 1, 1, none⟩ = some (.int .i64 0) := blk_cell (i := 1) R5.out rfl
    have zz2 : w5.cell? ⟨w.heap.size + 1, 2, none⟩ = some (.string ⟨#[]⟩) := blk_cell (i := 2) R5.out rfl
    have zz3 : w5.cell? ⟨w.heap.size + 1, 3, none⟩ = some (.slice none 0 0) := blk_cell (i := 3) R5.out rfl
    have zzf : ∀ o, w5.frozen? ⟨w.heap.size + 1, o, none⟩ = false := fun o => blk_free R5.out
    go_wp2
    refine bodyPost_ret (v := .tuple #[.agg #[n0, n1, n2, n3], .bool (backF ks x1 y).2]) (by simp [results, Tryz.f6, go_sem, zz0, zz1, zz2, zz3]) rfl ?_
    rw [HF.out]
    have hge := IT.out.2.2.2.1
    have htop := IT.out.2.1.top
    refine ⟨⟨[n0, n1, n2, n3], rfl, ?_⟩, ((((B5.out.setCell (by simp) _).setCell (by simp) _).setCell (by simp) _).setCell (by simp) _)⟩
    exact value.valueSp.mono (value.valueSp.on IT.out.2.1.rep fun b hb => set4_other (by have := S0.out; omega)) fun b hb => ⟨by have := S0.out; omega, by simp [World.setCell]; omega⟩

end Go.Proofs.YtjofmoebijdccaaGreat.back

namespace Go.Proofs.YtjofmoebijdccaaGreat.words
open Go Go.RowKit Go.Proofs.YtjofmoebijdccaaGreat Go.Proofs.YtjofmoebijdccaaGreat.fun
set_option linter.unusedVariables false
set_option linter.unusedSimpArgs false

theorem ret_bW {a b : Bool} (h : a = b) : Ending.returned (.bool a) = Ending.returned (.bool b) := by rw [h]
set_option maxHeartbeats 1000000 in
theorem wordI_is {n : Int} {b : Bool} {w : World} (h : inB n (-1073741824) 1073741823 = b) :
    Calls Tryz.prog 107 #[.int .i64 n] w fun e w' => e = .returned (.bool b) ∧ w' = w := by
  by_cases h1 : -1073741824 ≤ n
  · have h6 : decide (-1073741824 ≤ n) = true := decide_eq_true h1
    go_enter Tryz.func107, Tryz.ntmps107
    go_wp2
    go_ret
    exact ⟨ret_bW (by rw [← h]; simp only [inB, h6, Bool.true_and]), rfl⟩
  · have h2 : decide (-1073741824 ≤ n) = false := decide_eq_false h1
    go_enter Tryz.func107, Tryz.ntmps107
    go_wp2
    go_ret
    exact ⟨ret_bW (by rw [← h]; simp only [inB, h2, Bool.false_and]), rfl⟩

end Go.Proofs.YtjofmoebijdccaaGreat.words

namespace Go.Proofs.YtjofmoebijdccaaGreat.heap
open Go Go.RowKit Go.Proofs.YtjofmoebijdccaaGreat Go.Proofs.YtjofmoebijdccaaGreat.fun Go.Proofs.YtjofmoebijdccaaGreat.words
set_option linter.unusedVariables false
set_option linter.unusedSimpArgs false

/-- The tag as a shift tells it, which is cut downwards. -/
def tagS (x : Int) : Int := x / 2 / 2 / 64
def okHdr (tag many : Int) : Bool := decide (0 ≤ tag) && decide (tag ≤ 3000) && decide (many ≤ 20)

set_option maxHeartbeats 2000000 in
theorem headerOf_is (x : Int) (w : World) (h1 : -9223372036854775808 ≤ x) (h2 : x ≤ 9223372036854775807) :
    Calls Tryz.prog 92 #[.int .i64 x] w fun e w' => e = .returned (.agg #[.bool (funF x), .int .i64 (tagS x), .int .i64 (manyF x)]) ∧ Below w.heap.size w w' := by
  have ha := and_one (x / 2)
  have hb := and_63 (x / 2 / 2)
  have hf : (x / 2 % 2 == 1) = funF x := by unfold funF; rw [Bool.eq_iff_iff]; simp
  go_enter Tryz.func92, Tryz.ntmps92
  go_wp2
  refine bodyPost_ret (v := .agg #[.bool (funF x), .int .i64 (tagS x), .int .i64 (manyF x)]) (by simp [results, Tryz.f92, go_sem, tagS, manyF, hf]) rfl ?_
  refine ⟨rfl, ?_⟩
  exact (Below.refl _ _).alloc (Nat.le_refl _) _

set_option maxHeartbeats 2000000 in
theorem hdrOk_is (f : Bool) (tag many : Int) (w : World) :
    Calls Tryz.prog 93 #[.agg #[.bool f, .int .i64 tag, .int .i64 many]] w fun e w' => e = .returned (.bool (okHdr tag many)) ∧ Below w.heap.size w w' := by
  have BA : Hid (Below w.heap.size w (w.alloc (.cells #[.bool f, .int .i64 tag, .int .i64 many] 158))) := (Below.refl _ _).alloc (Nat.le_refl _) _
  rcases q1 : decide (0 ≤ tag) with _ | _
  · have HQ : Hid (okHdr tag many = false) := by show _ = _; unfold okHdr; rw [q1]; rfl
    go_enter Tryz.func93, Tryz.ntmps93
    go_wp2
    go_ret
    exact ⟨ret_b HQ.out.symm, BA.out⟩
  rcases q2 : decide (tag ≤ 3000) with _ | _
  · have HQ : Hid (okHdr tag many = false) := by show _ = _; unfold okHdr; rw [q1, q2]; rfl
    go_enter Tryz.func93, Tryz.ntmps93
    go_wp2
    go_ret
    exact ⟨ret_b HQ.out.symm, BA.out⟩
  rcases q3 : decide (many ≤ 20) with _ | _
  · have HQ : Hid (okHdr tag many = false) := by show _ = _; unfold okHdr; rw [q1, q2, q3]; rfl
    go_enter Tryz.func93, Tryz.ntmps93
    go_wp2
    go_ret
    exact ⟨ret_b HQ.out.symm, BA.out⟩
  · have HQ : Hid (okHdr tag many = true) := by show _ = _; unfold okHdr; rw [q1, q2, q3]; rfl
    go_enter Tryz.func93, Tryz.ntmps93
    go_wp2
    go_ret
    exact ⟨ret_b HQ.out.symm, BA.out⟩

set_option maxHeartbeats 2000000 in
theorem hdrSize_is (f : Bool) (tag many : Int) (w : World) (h1 : 0 ≤ many) (h2 : many ≤ 1048576) :
    Calls Tryz.prog 94 #[.agg #[.bool f, .int .i64 tag, .int .i64 many]] w fun e w' => e = .returned (.int .i64 (1 + many)) ∧ Below w.heap.size w w' := by
  go_enter Tryz.func94, Tryz.ntmps94
  go_wp2
  go_ret
  exact ⟨rfl, (Below.refl _ _).alloc (Nat.le_refl _) _⟩

end Go.Proofs.YtjofmoebijdccaaGreat.heap

namespace Go.Proofs.YtjofmoebijdccaaGreat.lock
open Go Go.RowKit Go.Proofs.YtjofmoebijdccaaGreat
set_option linter.unusedVariables false
set_option linter.unusedSimpArgs false

abbrev muLink : Go.Conc.Locks.MuLink := { lock := 98, unlock := 99, ilock := 108, iunlock := 109, lockSlow := 117, unlockSlow := 120, disable := 113, enable := 115, acquire := 116, relMerge := 118, cas32 := 114, add32 := 119, tMutex := 142, tIMutex := 140, tPMutex := 188, tPIMutex := 193, tPI32 := 195, tUP := 197, tNoCopy := 137, tU32 := 138 }
theorem muLib : Go.Conc.Locks.MuLib Tryz.prog muLink :=
  ⟨Tryz.func98, Tryz.func99, Tryz.func108, Tryz.func109, Tryz.func113, Tryz.func115, Tryz.func116, Tryz.func118, Tryz.func114, Tryz.func119,
    Tryz.underlying140, Tryz.runUnderlying140, Tryz.sizeOf140, Tryz.isAgg140, Tryz.zeroValue140,
    Tryz.underlying142, Tryz.runUnderlying142, Tryz.sizeOf142, Tryz.isAgg142, Tryz.zeroValue142,
    Tryz.underlying188, Tryz.runUnderlying188, Tryz.sizeOf188, Tryz.isAgg188, Tryz.zeroValue188,
    Tryz.underlying193, Tryz.runUnderlying193, Tryz.sizeOf193, Tryz.isAgg193, Tryz.zeroValue193,
    Tryz.underlying195, Tryz.runUnderlying195, Tryz.sizeOf195, Tryz.isAgg195, Tryz.zeroValue195,
    Tryz.underlying197, Tryz.runUnderlying197, Tryz.sizeOf197, Tryz.isAgg197, Tryz.zeroValue197,
    Tryz.underlying137, Tryz.runUnderlying137, Tryz.sizeOf137, Tryz.isAgg137, Tryz.zeroValue137,
    Tryz.underlying21, Tryz.runUnderlying21, Tryz.sizeOf21, Tryz.isAgg21, Tryz.zeroValue21, (by kernel_rfl)⟩

theorem load_is {a : Addr} {x : Int} {w : World} (hc : w.cell? a = some (.int .i64 x)) :
    Calls Tryz.prog 106 #[.pointer (some a)] w fun e w' => e = .returned (.int .i64 x) ∧ w' = w := by
  have hl := run_call_load (P := Tryz.prog) Tryz.func111 (by kernel_rfl) (by kernel_rfl) (by kernel_rfl) .i64 (by kernel_rfl) hc
  go_enter Tryz.func106, Tryz.ntmps106
  go_wp2
  go_ret
  exact ⟨rfl, rfl⟩
theorem add_is {a : Addr} {x y : Int} {w : World} (hc : w.cell? a = some (.int .i64 x)) (hz : w.frozen? a = false) (h1 : -9223372036854775808 ≤ x + y) (h2 : x + y ≤ 9223372036854775807) :
    Calls Tryz.prog 73 #[.pointer (some a), .int .i64 y] w fun e w' => e = .returned (.int .i64 (x + y)) ∧ w' = w.setCell a (.int .i64 (x + y)) := by
  have hl := run_call_add (P := Tryz.prog) Tryz.func90 (by kernel_rfl) (by kernel_rfl) (by kernel_rfl) .i64 (by kernel_rfl) (y := y) (s := x + y) hc hz (by simp [go_sem, IntKind.wrap_i64]; omega)
  go_enter Tryz.func73, Tryz.ntmps73
  go_wp2
  go_ret
  exact ⟨rfl, rfl⟩

end Go.Proofs.YtjofmoebijdccaaGreat.lock
