/-
  The program's Outcome, at every list of datas and machine; nothing that was there is turned.
  How many marks Back's arguments and its answer take.
  How many marks Outcome's arguments and its answer take.
-/
import Derived.Deep.RegionHeld3
import Derived.Deep.CutRange
import Derived.Test.YtjofmoebijdccaaGreatB1
import Derived.Test.YtjofmoebijdccaaGreatB2
import Derived.Test.YtjofmoebijdccaaGreatB3
import Derived.Test.YtjofmoebijdccaaGreatB4
import Derived.Test.YtjofmoebijdccaaGreatB5
import Derived.Test.YtjofmoebijdccaaGreatB6
import Derived.Test.YtjofmoebijdccaaGreatB7
import Derived.Test.YtjofmoebijdccaaGreatB8
import Derived.Test.YtjofmoebijdccaaGreatB9
import Derived.Test.YtjofmoebijdccaaGreatB10
import Derived.Test.YtjofmoebijdccaaGreatB11
import Derived.Test.YtjofmoebijdccaaGreatB12
import Derived.Test.YtjofmoebijdccaaGreatB13
import Derived.Test.YtjofmoebijdccaaGreatB14
import Derived.Test.YtjofmoebijdccaaGreatB15
import Derived.Test.YtjofmoebijdccaaGreatB16
import Derived.Test.YtjofmoebijdccaaGreatB17
import Derived.Test.YtjofmoebijdccaaGreatB18
import Derived.Test.YtjofmoebijdccaaGreatB19
import Derived.Test.YtjofmoebijdccaaGreatB20
import Derived.Test.YtjofmoebijdccaaGreatB21
import Derived.Test.YtjofmoebijdccaaGreatB22
import Derived.Test.YtjofmoebijdccaaGreatB23
import Derived.Test.YtjofmoebijdccaaGreatB24
import Derived.Test.YtjofmoebijdccaaGreatB25
import Derived.Test.YtjofmoebijdccaaGreatB26
import Derived.Test.YtjofmoebijdccaaGreatB27
import Derived.Test.YtjofmoebijdccaaGreatB28
import Derived.Test.YtjofmoebijdccaaGreatB29
import Derived.Test.YtjofmoebijdccaaGreatB30
import Derived.Test.YtjofmoebijdccaaGreatB31
import Derived.Test.YtjofmoebijdccaaGreatB32
import Derived.Test.YtjofmoebijdccaaGreatB33
namespace Go.Proofs.YtjofmoebijdccaaGreat.back
open Go Go.RowKit Go.Proofs.YtjofmoebijdccaaGreat.rose Go.Proofs.YtjofmoebijdccaaGreat Go.Proofs.YtjofmoebijdccaaGreat.heap
set_option linter.unusedVariables false
set_option linter.unusedSimpArgs false

set_option maxRecDepth 100000 in
set_option maxHeartbeats 8000000 in
theorem implOutcome (ks : List data.DataD) (T : vm.VmD) (v : Value) (cs : List Value) (w : World) (hw : (ks.length + data.wts ks) + vm.wt T ≤ 1048576) (h : data.dataSh.slice.rep w (· < w.heap.size) [v] ks) (h' : vm.vmSh.rep w (· < w.heap.size) cs T) :
    Calls Tryz.prog 9 #[v, .agg cs.toArray] w fun e w' => (∃ cs', e = .returned (.tuple #[.agg cs'.toArray, .bool (outF ks T).2]) ∧ value.valueSp.rep w' (fun b => w.heap.size ≤ b ∧ b < w'.heap.size) cs' (outF ks T).1) ∧ Below w.heap.size w w' := by
  have o0 := data.dataSh.slice.one h v (by simp)
  have HB0 : Hid (Below w.heap.size w w) := Below.refl _ _
  obtain ⟨x0, a0, c0, x1, u1_0, u1_1, u1_2, u1_3, x2, a2, c2, x3, a3, c3, x4, a4, c4, x5, x6, rfl, rfl, f0, f1, f2, f3, f4, f5⟩ := vm.vm_open h'
  have ou := heapSh.one f1
  have ou0 := ou u1_0 (by simp)
  have ou1 := ou u1_1 (by simp)
  have ou2 := ou u1_2 (by simp)
  have ou3 := ou u1_3 (by simp)
  clear ou
  have HW : Hid ((ks.length + data.wts ks) + heap.wt x1 ≤ 1048576) := hidX (by have : vm.wt (x0, x1, x2, x3, x4, x5, x6) = (x0.length + fun.wts x0) + (heap.wt x1 + (x2.length + (x3.length + x4.length))) := rfl; omega)
  obtain ⟨r, hr⟩ : ∃ r, r = outF ks (x0, x1, x2, x3, x4, x5, x6) := ⟨_, rfl⟩
  have HR : Hid (r = outF ks (x0, x1, x2, x3, x4, x5, x6)) := hr
  rw [← hr]
  have B0 : Hid (Below w.heap.size w ((w.alloc (.cells #[.slice a0 x0.length c0, u1_0, u1_1, u1_2, u1_3, .slice a2 x2.length c2, .slice a3 x3.length c3, .slice a4 x4.length c4, .int .i64 x5, .bool x6] 43)).alloc (.cells #[.int .i64 0, .int .i64 0, .string ⟨#[]⟩, .slice none 0 0] 34))) := ((Below.refl _ _).alloc (Nat.le_refl _) _).alloc (by simp) _
  have S0 : Hid ((((w.alloc (.cells #[.slice a0 x0.length c0, u1_0, u1_1, u1_2, u1_3, .slice a2 x2.length c2, .slice a3 x3.length c3, .slice a4 x4.length c4, .int .i64 x5, .bool x6] 43)).alloc (.cells #[.int .i64 0, .int .i64 0, .string ⟨#[]⟩, .slice none 0 0] 34))).heap.size = w.heap.size + 2) := by show _ = _; simp
  have X0 : Hid ((((w.alloc (.cells #[.slice a0 x0.length c0, u1_0, u1_1, u1_2, u1_3, .slice a2 x2.length c2, .slice a3 x3.length c3, .slice a4 x4.length c4, .int .i64 x5, .bool x6] 43)).alloc (.cells #[.int .i64 0, .int .i64 0, .string ⟨#[]⟩, .slice none 0 0] 34))).heap[w.heap.size]? = some (.cells #[.slice a0 x0.length c0, u1_0, u1_1, u1_2, u1_3, .slice a2 x2.length c2, .slice a3 x3.length c3, .slice a4 x4.length c4, .int .i64 x5, .bool x6] 43)) := (Below.heap_alloc _ _ _ (by simp)).trans (alloc_top _ _)
  have R0 : Hid ((((w.alloc (.cells #[.slice a0 x0.length c0, u1_0, u1_1, u1_2, u1_3, .slice a2 x2.length c2, .slice a3 x3.length c3, .slice a4 x4.length c4, .int .i64 x5, .bool x6] 43)).alloc (.cells #[.int .i64 0, .int .i64 0, .string ⟨#[]⟩, .slice none 0 0] 34))).heap[w.heap.size + 1]? = some (.cells #[.int .i64 0, .int .i64 0, .string ⟨#[]⟩, .slice none 0 0] 34)) := by
    have := alloc_top (w.alloc (.cells #[.slice a0 x0.length c0, u1_0, u1_1, u1_2, u1_3, .slice a2 x2.length c2, .slice a3 x3.length c3, .slice a4 x4.length c4, .int .i64 x5, .bool x6] 43)) (.cells #[.int .i64 0, .int .i64 0, .string ⟨#[]⟩, .slice none 0 0] 34)
    rwa [World.size_alloc] at this
  have k8 : (((w.alloc (.cells #[.slice a0 x0.length c0, u1_0, u1_1, u1_2, u1_3, .slice a2 x2.length c2, .slice a3 x3.length c3, .slice a4 x4.length c4, .int .i64 x5, .bool x6] 43)).alloc (.cells #[.int .i64 0, .int .i64 0, .string ⟨#[]⟩, .slice none 0 0] 34))).cell? ⟨w.heap.size, 8, none⟩ = some (.int .i64 x5) := blkI (i := 8) X0.out rfl
  have k5 : (((w.alloc (.cells #[.slice a0 x0.length c0, u1_0, u1_1, u1_2, u1_3, .slice a2 x2.length c2, .slice a3 x3.length c3, .slice a4 x4.length c4, .int .i64 x5, .bool x6] 43)).alloc (.cells #[.int .i64 0, .int .i64 0, .string ⟨#[]⟩, .slice none 0 0] 34))).cell? ⟨w.heap.size, 5, none⟩ = some (.slice a2 x2.length c2) := blkI (i := 5) X0.out rfl
  have hl2 : (x2.length : Int) ≤ 9223372036854775807 := by obtain ⟨aa, cap, e, hq, hm, -⟩ := ints.ints_open f2; unfold maxLen at hm; omega
  by_cases q1 : x5 = 1
  case neg =>
    have t1 : (x5 != 1) = true := by simpa using q1
    have HF : Hid (r = (zeroV, false)) := by show _ = _; rw [HR.out]; exact out_no (Or.inl q1)
    have r0 : (((w.alloc (.cells #[.slice a0 x0.length c0, u1_0, u1_1, u1_2, u1_3, .slice a2 x2.length c2, .slice a3 x3.length c3, .slice a4 x4.length c4, .int .i64 x5, .bool x6] 43)).alloc (.cells #[.int .i64 0, .int .i64 0, .string ⟨#[]⟩, .slice none 0 0] 34))).cell? ⟨w.heap.size + 1, 0, none⟩ = some (.int .i64 0) := blkI (i := 0) R0.out rfl
    have r1 : (((w.alloc (.cells #[.slice a0 x0.length c0, u1_0, u1_1, u1_2, u1_3, .slice a2 x2.length c2, .slice a3 x3.length c3, .slice a4 x4.length c4, .int .i64 x5, .bool x6] 43)).alloc (.cells #[.int .i64 0, .int .i64 0, .string ⟨#[]⟩, .slice none 0 0] 34))).cell? ⟨w.heap.size + 1, 1, none⟩ = some (.int .i64 0) := blkI (i := 1) R0.out rfl
    have r2 : (((w.alloc (.cells #[.slice a0 x0.length c0, u1_0, u1_1, u1_2, u1_3, .slice a2 x2.length c2, .slice a3 x3.length c3, .slice a4 x4.length c4, .int .i64 x5, .bool x6] 43)).alloc (.cells #[.int .i64 0, .int .i64 0, .string ⟨#[]⟩, .slice none 0 0] 34))).cell? ⟨w.heap.size + 1, 2, none⟩ = some (.string ⟨#[]⟩) := blkI (i := 2) R0.out rfl
    have r3 : (((w.alloc (.cells #[.slice a0 x0.length c0, u1_0, u1_1, u1_2, u1_3, .slice a2 x2.length c2, .slice a3 x3.length c3, .slice a4 x4.length c4, .int .i64 x5, .bool x6] 43)).alloc (.cells #[.int .i64 0, .int .i64 0, .string ⟨#[]⟩, .slice none 0 0] 34))).cell? ⟨w.heap.size + 1, 3, none⟩ = some (.slice none 0 0) := blkI (i := 3) R0.out rfl
    have fr : ∀ o, (((w.alloc (.cells #[.slice a0 x0.length c0, u1_0, u1_1, u1_2, u1_3, .slice a2 x2.length c2, .slice a3 x3.length c3, .slice a4 x4.length c4, .int .i64 x5, .bool x6] 43)).alloc (.cells #[.int .i64 0, .int .i64 0, .string ⟨#[]⟩, .slice none 0 0] 34))).frozen? ⟨w.heap.size + 1, o, none⟩ = false := fun o => frzI R0.out
    clear h h' f0 f1 f2 f3 f4 f5 hr hw HB0
    go_enter Tryz.func9, Tryz.ntmps9
    go_wp2
    refine bodyPost_ret (v := .tuple #[.agg #[.int .i64 0, .int .i64 0, .string ⟨#[]⟩, .slice none 0 0], .bool false]) (by simp [results, Tryz.f9, go_sem]) rfl ?_
    rw [HF.out]
    exact ⟨⟨[.int .i64 0, .int .i64 0, .string ⟨#[]⟩, .slice none 0 0], rfl, zero_repI _ _⟩, ((Below.refl _ _).alloc (Nat.le_refl _) _).alloc (by simp) _⟩
  by_cases q2 : x2.length = 1
  case neg =>
    have t1 : (x5 != 1) = false := by simpa using q1
    have t2 : ((x2.length : Int) != 1) = true := by simp; omega
    have HF : Hid (r = (zeroV, false)) := by show _ = _; rw [HR.out]; exact out_no (Or.inr q2)
    have r0 : (((w.alloc (.cells #[.slice a0 x0.length c0, u1_0, u1_1, u1_2, u1_3, .slice a2 x2.length c2, .slice a3 x3.length c3, .slice a4 x4.length c4, .int .i64 x5, .bool x6] 43)).alloc (.cells #[.int .i64 0, .int .i64 0, .string ⟨#[]⟩, .slice none 0 0] 34))).cell? ⟨w.heap.size + 1, 0, none⟩ = some (.int .i64 0) := blkI (i := 0) R0.out rfl
    have r1 : (((w.alloc (.cells #[.slice a0 x0.length c0, u1_0, u1_1, u1_2, u1_3, .slice a2 x2.length c2, .slice a3 x3.length c3, .slice a4 x4.length c4, .int .i64 x5, .bool x6] 43)).alloc (.cells #[.int .i64 0, .int .i64 0, .string ⟨#[]⟩, .slice none 0 0] 34))).cell? ⟨w.heap.size + 1, 1, none⟩ = some (.int .i64 0) := blkI (i := 1) R0.out rfl
    have r2 : (((w.alloc (.cells #[.slice a0 x0.length c0, u1_0, u1_1, u1_2, u1_3, .slice a2 x2.length c2, .slice a3 x3.length c3, .slice a4 x4.length c4, .int .i64 x5, .bool x6] 43)).alloc (.cells #[.int .i64 0, .int .i64 0, .string ⟨#[]⟩, .slice none 0 0] 34))).cell? ⟨w.heap.size + 1, 2, none⟩ = some (.string ⟨#[]⟩) := blkI (i := 2) R0.out rfl
    have r3 : (((w.alloc (.cells #[.slice a0 x0.length c0, u1_0, u1_1, u1_2, u1_3, .slice a2 x2.length c2, .slice a3 x3.length c3, .slice a4 x4.length c4, .int .i64 x5, .bool x6] 43)).alloc (.cells #[.int .i64 0, .int .i64 0, .string ⟨#[]⟩, .slice none 0 0] 34))).cell? ⟨w.heap.size + 1, 3, none⟩ = some (.slice none 0 0) := blkI (i := 3) R0.out rfl
    have fr : ∀ o, (((w.alloc (.cells #[.slice a0 x0.length c0, u1_0, u1_1, u1_2, u1_3, .slice a2 x2.length c2, .slice a3 x3.length c3, .slice a4 x4.length c4, .int .i64 x5, .bool x6] 43)).alloc (.cells #[.int .i64 0, .int .i64 0, .string ⟨#[]⟩, .slice none 0 0] 34))).frozen? ⟨w.heap.size + 1, o, none⟩ = false := fun o => frzI R0.out
    clear h h' f0 f1 f2 f3 f4 f5 hr hw HB0 q1 q2
    go_enter Tryz.func9, Tryz.ntmps9
    go_wp2
    refine bodyPost_ret (v := .tuple #[.agg #[.int .i64 0, .int .i64 0, .string ⟨#[]⟩, .slice none 0 0], .bool false]) (by simp [results, Tryz.f9, go_sem]) rfl ?_
    rw [HF.out]
    exact ⟨⟨[.int .i64 0, .int .i64 0, .string ⟨#[]⟩, .slice none 0 0], rfl, zero_repI _ _⟩, ((Below.refl _ _).alloc (Nat.le_refl _) _).alloc (by simp) _⟩
  have t1 : (x5 != 1) = false := by simpa using q1
  have t2 : ((x2.length : Int) != 1) = false := by simp; omega
  obtain ⟨y, rfl⟩ : ∃ y, x2 = [y] := by
    match x2, q2 with
    | [y], _ => exact ⟨y, rfl⟩
  have HF : Hid (r = backF ks x1 y) := by show _ = _; rw [HR.out]; exact out_yes q1
  obtain ⟨aa, cap, e, -, -, hat⟩ := ints.ints_open f2
  cases e
  obtain ⟨b, o, rfl, hS, hc, y1, y2⟩ := hat 0 (by simp)
  clear B0 S0 X0 R0 k8 k5
  have B0 : Hid (Below w.heap.size w ((w.alloc (.cells #[.slice a0 x0.length c0, u1_0, u1_1, u1_2, u1_3, .slice (some ⟨b, o, none⟩) 1 c2, .slice a3 x3.length c3, .slice a4 x4.length c4, .int .i64 x5, .bool x6] 43)).alloc (.cells #[.int .i64 0, .int .i64 0, .string ⟨#[]⟩, .slice none 0 0] 34))) := ((Below.refl _ _).alloc (Nat.le_refl _) _).alloc (by simp) _
  have S0 : Hid ((((w.alloc (.cells #[.slice a0 x0.length c0, u1_0, u1_1, u1_2, u1_3, .slice (some ⟨b, o, none⟩) 1 c2, .slice a3 x3.length c3, .slice a4 x4.length c4, .int .i64 x5, .bool x6] 43)).alloc (.cells #[.int .i64 0, .int .i64 0, .string ⟨#[]⟩, .slice none 0 0] 34))).heap.size = w.heap.size + 2) := by show _ = _; simp
  have X0 : Hid ((((w.alloc (.cells #[.slice a0 x0.length c0, u1_0, u1_1, u1_2, u1_3, .slice (some ⟨b, o, none⟩) 1 c2, .slice a3 x3.length c3, .slice a4 x4.length c4, .int .i64 x5, .bool x6] 43)).alloc (.cells #[.int .i64 0, .int .i64 0, .string ⟨#[]⟩, .slice none 0 0] 34))).heap[w.heap.size]? = some (.cells #[.slice a0 x0.length c0, u1_0, u1_1, u1_2, u1_3, .slice (some ⟨b, o, none⟩) 1 c2, .slice a3 x3.length c3, .slice a4 x4.length c4, .int .i64 x5, .bool x6] 43)) := (Below.heap_alloc _ _ _ (by simp)).trans (alloc_top _ _)
  have R0 : Hid ((((w.alloc (.cells #[.slice a0 x0.length c0, u1_0, u1_1, u1_2, u1_3, .slice (some ⟨b, o, none⟩) 1 c2, .slice a3 x3.length c3, .slice a4 x4.length c4, .int .i64 x5, .bool x6] 43)).alloc (.cells #[.int .i64 0, .int .i64 0, .string ⟨#[]⟩, .slice none 0 0] 34))).heap[w.heap.size + 1]? = some (.cells #[.int .i64 0, .int .i64 0, .string ⟨#[]⟩, .slice none 0 0] 34)) := by
    have := alloc_top (w.alloc (.cells #[.slice a0 x0.length c0, u1_0, u1_1, u1_2, u1_3, .slice (some ⟨b, o, none⟩) 1 c2, .slice a3 x3.length c3, .slice a4 x4.length c4, .int .i64 x5, .bool x6] 43)) (.cells #[.int .i64 0, .int .i64 0, .string ⟨#[]⟩, .slice none 0 0] 34)
    rwa [World.size_alloc] at this
  have k8 : (((w.alloc (.cells #[.slice a0 x0.length c0, u1_0, u1_1, u1_2, u1_3, .slice (some ⟨b, o, none⟩) 1 c2, .slice a3 x3.length c3, .slice a4 x4.length c4, .int .i64 x5, .bool x6] 43)).alloc (.cells #[.int .i64 0, .int .i64 0, .string ⟨#[]⟩, .slice none 0 0] 34))).cell? ⟨w.heap.size, 8, none⟩ = some (.int .i64 x5) := blkI (i := 8) X0.out rfl
  have k5 : (((w.alloc (.cells #[.slice a0 x0.length c0, u1_0, u1_1, u1_2, u1_3, .slice (some ⟨b, o, none⟩) 1 c2, .slice a3 x3.length c3, .slice a4 x4.length c4, .int .i64 x5, .bool x6] 43)).alloc (.cells #[.int .i64 0, .int .i64 0, .string ⟨#[]⟩, .slice none 0 0] 34))).cell? ⟨w.heap.size, 5, none⟩ = some (.slice (some ⟨b, o, none⟩) 1 c2) := blkI (i := 5) X0.out rfl
  have ky : (((w.alloc (.cells #[.slice a0 x0.length c0, u1_0, u1_1, u1_2, u1_3, .slice (some ⟨b, o, none⟩) 1 c2, .slice a3 x3.length c3, .slice a4 x4.length c4, .int .i64 x5, .bool x6] 43)).alloc (.cells #[.int .i64 0, .int .i64 0, .string ⟨#[]⟩, .slice none 0 0] 34))).cell? ⟨b, o, none⟩ = some (.int .i64 y) := (B0.out.cell (p := ⟨b, o, none⟩) hS).trans (by simpa using hc)
  have k1 : (((w.alloc (.cells #[.slice a0 x0.length c0, u1_0, u1_1, u1_2, u1_3, .slice (some ⟨b, o, none⟩) 1 c2, .slice a3 x3.length c3, .slice a4 x4.length c4, .int .i64 x5, .bool x6] 43)).alloc (.cells #[.int .i64 0, .int .i64 0, .string ⟨#[]⟩, .slice none 0 0] 34))).cell? ⟨w.heap.size, 1, none⟩ = some u1_0 := blkI (i := 1) X0.out rfl
  have k2 : (((w.alloc (.cells #[.slice a0 x0.length c0, u1_0, u1_1, u1_2, u1_3, .slice (some ⟨b, o, none⟩) 1 c2, .slice a3 x3.length c3, .slice a4 x4.length c4, .int .i64 x5, .bool x6] 43)).alloc (.cells #[.int .i64 0, .int .i64 0, .string ⟨#[]⟩, .slice none 0 0] 34))).cell? ⟨w.heap.size, 2, none⟩ = some u1_1 := blkI (i := 2) X0.out rfl
  have k3 : (((w.alloc (.cells #[.slice a0 x0.length c0, u1_0, u1_1, u1_2, u1_3, .slice (some ⟨b, o, none⟩) 1 c2, .slice a3 x3.length c3, .slice a4 x4.length c4, .int .i64 x5, .bool x6] 43)).alloc (.cells #[.int .i64 0, .int .i64 0, .string ⟨#[]⟩, .slice none 0 0] 34))).cell? ⟨w.heap.size, 3, none⟩ = some u1_2 := blkI (i := 3) X0.out rfl
  have k4 : (((w.alloc (.cells #[.slice a0 x0.length c0, u1_0, u1_1, u1_2, u1_3, .slice (some ⟨b, o, none⟩) 1 c2, .slice a3 x3.length c3, .slice a4 x4.length c4, .int .i64 x5, .bool x6] 43)).alloc (.cells #[.int .i64 0, .int .i64 0, .string ⟨#[]⟩, .slice none 0 0] 34))).cell? ⟨w.heap.size, 4, none⟩ = some u1_3 := blkI (i := 4) X0.out rfl
  simp only [List.getElem_cons_zero] at y1 y2
  obtain ⟨wa, hwa⟩ : ∃ wa, wa = ((w.alloc (.cells #[.slice a0 x0.length c0, u1_0, u1_1, u1_2, u1_3, .slice (some ⟨b, o, none⟩) 1 c2, .slice a3 x3.length c3, .slice a4 x4.length c4, .int .i64 x5, .bool x6] 43)).alloc (.cells #[.int .i64 0, .int .i64 0, .string ⟨#[]⟩, .slice none 0 0] 34)) := ⟨_, rfl⟩
  rw [← hwa] at B0 S0 X0 R0 k1 k2 k3 k4 k5 k8 ky
  have HD : Hid (data.dataSh.slice.rep wa (· < wa.heap.size) [v] ks ∧ heapSh.rep wa (· < wa.heap.size) [u1_0, u1_1, u1_2, u1_3] x1) := ⟨data.dataSh.slice.mono (data.dataSh.slice.below h B0.out) fun b hb => Nat.lt_of_lt_of_le hb B0.out.size, heapSh.mono (heapSh.below f1 B0.out) fun b hb => Nat.lt_of_lt_of_le hb B0.out.size⟩
  have hcallD := implBack ks x1 y v [u1_0, u1_1, u1_2, u1_3] wa.drew HW.out y1 y2 (data.dataSh.slice.on HD.out.1 fun _ _ => rfl) (heapSh.on HD.out.2 fun _ _ => rfl)
  have HSB : Hid (b < w.heap.size) := hS
  clear h h' f0 f1 f2 f3 f4 f5 hr hw HB0 q1 q2 hat hc hS
  have qk1 : wa.drew.cell? ⟨w.heap.size, 1, none⟩ = _ := k1
  have qk2 : wa.drew.cell? ⟨w.heap.size, 2, none⟩ = _ := k2
  have qk3 : wa.drew.cell? ⟨w.heap.size, 3, none⟩ = _ := k3
  have qk4 : wa.drew.cell? ⟨w.heap.size, 4, none⟩ = _ := k4
  have qk5 : wa.drew.cell? ⟨w.heap.size, 5, none⟩ = _ := k5
  have qky : wa.drew.cell? ⟨b, o, none⟩ = _ := ky
  have hwf : wa.frozen? ⟨w.heap.size + 1, 0, none⟩ = false := frzI R0.out
  have z0 : wa.cell? ⟨w.heap.size + 1, 0, none⟩ = some (.int .i64 0) := blkI (i := 0) R0.out rfl
  have z1 : wa.cell? ⟨w.heap.size + 1, 1, none⟩ = some (.int .i64 0) := blkI (i := 1) R0.out rfl
  have z2 : wa.cell? ⟨w.heap.size + 1, 2, none⟩ = some (.string ⟨#[]⟩) := blkI (i := 2) R0.out rfl
  have z3 : wa.cell? ⟨w.heap.size + 1, 3, none⟩ = some (.slice none 0 0) := blkI (i := 3) R0.out rfl
  go_enter Tryz.func9, Tryz.ntmps9
  go_upto_region 3 with fail
  rw [← hwa]
  clear hwa
  have hbw : b < w.heap.size := HSB.out
  go_region_held3 (fun X => X.cell? ⟨w.heap.size, 1, none⟩ = some (u1_0) ∧ X.cell? ⟨w.heap.size, 2, none⟩ = some (u1_1) ∧ X.cell? ⟨w.heap.size, 3, none⟩ = some (u1_2) ∧ X.cell? ⟨w.heap.size, 4, none⟩ = some (u1_3) ∧ X.cell? ⟨w.heap.size, 5, none⟩ = some (.slice (some ⟨b, o, none⟩) 1 c2) ∧ X.cell? ⟨b, o, none⟩ = some (.int .i64 y))
    (exact ⟨by first | with_reducible exact k1 | with_reducible exact qk1 | with_reducible exact cell_alX k1 | with_reducible exact cell_alX qk1 | (with_reducible refine cell_set4X k1 ?_; have := HGE.out; have := S0.out; omega) | exact cell_alX k1, by first | with_reducible exact k2 | with_reducible exact qk2 | with_reducible exact cell_alX k2 | with_reducible exact cell_alX qk2 | (with_reducible refine cell_set4X k2 ?_; have := HGE.out; have := S0.out; omega) | exact cell_alX k2, by first | with_reducible exact k3 | with_reducible exact qk3 | with_reducible exact cell_alX k3 | with_reducible exact cell_alX qk3 | (with_reducible refine cell_set4X k3 ?_; have := HGE.out; have := S0.out; omega) | exact cell_alX k3, by first | with_reducible exact k4 | with_reducible exact qk4 | with_reducible exact cell_alX k4 | with_reducible exact cell_alX qk4 | (with_reducible refine cell_set4X k4 ?_; have := HGE.out; have := S0.out; omega) | exact cell_alX k4, by first | with_reducible exact k5 | with_reducible exact qk5 | with_reducible exact cell_alX k5 | with_reducible exact cell_alX qk5 | (with_reducible refine cell_set4X k5 ?_; have := HGE.out; have := S0.out; omega) | exact cell_alX k5, by first | with_reducible exact ky | with_reducible exact qky | with_reducible exact cell_alX ky | with_reducible exact cell_alX qky | (with_reducible refine cell_set4X ky ?_; have := HGE.out; have := S0.out; omega) | exact cell_alX ky⟩)
    (first
    | (go_at_call 28; with_reducible refine hcallD.mono ?_; rintro e w4 ⟨⟨cs', rfl, hrep⟩, hb⟩
       obtain ⟨n0, n1, n2, n3, rfl⟩ := value.value_list (value.valuep_rep hrep)
       have on0 := value.valueSp.one hrep n0 (by simp)
       have on1 := value.valueSp.one hrep n1 (by simp)
       have on2 := value.valueSp.one hrep n2 (by simp)
       have on3 := value.valueSp.one hrep n3 (by simp)
       have so0 := fun (a : Addr) (m : Mode) (w : World) => run_store Tryz.prog w a n0 m on0
       have so1 := fun (a : Addr) (m : Mode) (w : World) => run_store Tryz.prog w a n1 m on1
       have so2 := fun (a : Addr) (m : Mode) (w : World) => run_store Tryz.prog w a n2 m on2
       have so3 := fun (a : Addr) (m : Mode) (w : World) => run_store Tryz.prog w a n3 m on3
       have HP4 : Hid (Below wa.heap.size wa w4) := hidX ((Below.refl _ wa).drew.trans hb)
       replace k1 : w4.cell? ⟨w.heap.size, 1, none⟩ = some (u1_0) := (HP4.out.cell (p := ⟨w.heap.size, 1, none⟩) (by have := HSB.out; have := S0.out; show w.heap.size < wa.heap.size; omega)).trans k1
       replace k2 : w4.cell? ⟨w.heap.size, 2, none⟩ = some (u1_1) := (HP4.out.cell (p := ⟨w.heap.size, 2, none⟩) (by have := HSB.out; have := S0.out; show w.heap.size < wa.heap.size; omega)).trans k2
       replace k3 : w4.cell? ⟨w.heap.size, 3, none⟩ = some (u1_2) := (HP4.out.cell (p := ⟨w.heap.size, 3, none⟩) (by have := HSB.out; have := S0.out; show w.heap.size < wa.heap.size; omega)).trans k3
       replace k4 : w4.cell? ⟨w.heap.size, 4, none⟩ = some (u1_3) := (HP4.out.cell (p := ⟨w.heap.size, 4, none⟩) (by have := HSB.out; have := S0.out; show w.heap.size < wa.heap.size; omega)).trans k4
       replace k5 : w4.cell? ⟨w.heap.size, 5, none⟩ = some (.slice (some ⟨b, o, none⟩) 1 c2) := (HP4.out.cell (p := ⟨w.heap.size, 5, none⟩) (by have := HSB.out; have := S0.out; show w.heap.size < wa.heap.size; omega)).trans k5
       replace ky : w4.cell? ⟨b, o, none⟩ = some (.int .i64 y) := (HP4.out.cell (p := ⟨b, o, none⟩) (by have := HSB.out; have := S0.out; show b < wa.heap.size; omega)).trans ky
       have RF : Hid (value.valueSp.rep w4 (fun b => wa.heap.size ≤ b ∧ b < w4.heap.size) [n0, n1, n2, n3] (backF ks x1 y).1) := hidX hrep
       have zz0 : w4.cell? ⟨w.heap.size + 1, 0, none⟩ = some (.int .i64 0) := blkI (i := 0) ((HP4.out.block _ (by have := S0.out; omega)).trans R0.out) rfl
       have zz1 : w4.cell? ⟨w.heap.size + 1, 1, none⟩ = some (.int .i64 0) := blkI (i := 1) ((HP4.out.block _ (by have := S0.out; omega)).trans R0.out) rfl
       have zz2 : w4.cell? ⟨w.heap.size + 1, 2, none⟩ = some (.string ⟨#[]⟩) := blkI (i := 2) ((HP4.out.block _ (by have := S0.out; omega)).trans R0.out) rfl
       have zz3 : w4.cell? ⟨w.heap.size + 1, 3, none⟩ = some (.slice none 0 0) := blkI (i := 3) ((HP4.out.block _ (by have := S0.out; omega)).trans R0.out) rfl
       have zzf : ∀ o, w4.frozen? ⟨w.heap.size + 1, o, none⟩ = false := fun o => frzI ((HP4.out.block _ (by have := S0.out; omega)).trans R0.out)
       have HGE : Hid (w.heap.size + 1 ≤ w.heap.size + 1) := hidX (Nat.le_refl _)
       clear hb hrep))
  go_wp2
  refine bodyPost_ret (v := .tuple #[.agg #[n0, n1, n2, n3], .bool (backF ks x1 y).2]) (by simp [results, Tryz.f9, go_sem, zz0, zz1, zz2, zz3]) rfl ?_
  rw [HF.out]
  have B5 : Below w.heap.size w w4 := B0.out.trans (HP4.out.mono B0.out.size)
  refine ⟨⟨[n0, n1, n2, n3], rfl, ?_⟩, ((((B5.setCell (by simp) _).setCell (by simp) _).setCell (by simp) _).setCell (by simp) _)⟩
  exact value.valueSp.mono (value.valueSp.on RF.out fun b hb => s4_other (by have := S0.out; omega)) fun b hb => ⟨by have := S0.out; omega, by simp [World.setCell]; omega⟩

end Go.Proofs.YtjofmoebijdccaaGreat.back

namespace Go.Proofs.YtjofmoebijdccaaGreat.back
open Go Go.RowKit Go.Proofs.YtjofmoebijdccaaGreat.rose Go.Proofs.YtjofmoebijdccaaGreat Go.Proofs.YtjofmoebijdccaaGreat.heap
set_option linter.unusedVariables false

theorem row_cnt {f : Nat → Int → Option (VD × Nat)} (hf : ∀ r x v q, f r x = some (v, q) → value.cnt v + 3 * q ≤ 3 * r) {xs : List Int} {r q : Nat} {vs : List VD} (h : rowB f r xs = some (vs, q)) : value.cnts vs + 3 * q ≤ 3 * r := by
  induction xs generalizing r vs with
  | nil => simp only [rowB, Option.some.injEq, Prod.mk.injEq] at h; obtain ⟨rfl, rfl⟩ := h; simp [value.cnts]
  | cons x xs ih =>
    simp only [rowB] at h
    split at h
    · cases h
    · rename_i v hv
      split at h
      · cases h
      · rename_i vs' hvs
        simp only [Option.some.injEq, Prod.mk.injEq] at h
        have h1 := hf r x v.1 v.2 hv
        have h2 := ih (vs := vs'.1) (r := v.2) (by rw [hvs, ← h.2])
        rw [← h.1, value.cnts]
        omega
theorem back_cnt {g : Int → Option (PD × List Int)} {d r : Nat} {x : Int} {v : VD} {q : Nat} (h : backD g d r x = some (v, q)) : value.cnt v + 3 * q ≤ 3 * r := by
  induction d generalizing r x v q with
  | zero => cases h
  | succ d ih =>
    simp only [backD] at h
    split at h
    · cases h
    · split at h
      · cases h
      · rename_i p hp
        split at h
        · cases h
        · rename_i vs hvs
          simp only [Option.some.injEq, Prod.mk.injEq] at h
          have := row_cnt (fun r x v q hh => ih (r := r) (x := x) (v := v) (q := q) hh) (vs := vs.1) (q := vs.2) hvs
          obtain ⟨⟨p0, p1, p2⟩, pk⟩ := p
          rw [← h.1, value.cnt]
          omega
theorem cnt_T (v : VD) : value.cntT v ≤ value.cnt v := by
  obtain ⟨⟨x0, x1, x2⟩, ks⟩ := v
  simp only [value.cntT, value.cnt]
  omega
theorem back_bound (ks : List data.DataD) (T : HeapD) (x : Int) : value.cntT (backF ks T x).1 ≤ 1073741824 := by
  have hz : value.cntT zeroV ≤ 1073741824 := by have := cnt_T zeroV; simp only [zeroV, value.cnt, value.cnts] at this; unfold zeroV; omega
  unfold backF
  split
  · split
    · rename_i v hv
      have h1 := back_cnt (v := v.1) (q := v.2) hv
      have h2 := cnt_T v.1
      dsimp only
      omega
    · exact hz
  · exact hz
theorem cnts_boundK (ks : List data.DataD) (hw : ks.length + data.wts ks ≤ 1048576) : data.cnts ks ≤ 1073741824 := by have := data.cnts_le ks; omega
theorem cntT_boundK (T : HeapD) (hw : heap.wt T ≤ 1048576) : heap.cntT T ≤ 1073741824 := by
  obtain ⟨W, a, b, c⟩ := T
  have h1 : heap.wt (W, a, b, c) = W.length := rfl
  have h2 : heap.cntT (W, a, b, c) = W.length := rfl
  omega

end Go.Proofs.YtjofmoebijdccaaGreat.back

namespace Go.Proofs.YtjofmoebijdccaaGreat.back
open Go Go.RowKit Go.Proofs.YtjofmoebijdccaaGreat.rose Go.Proofs.YtjofmoebijdccaaGreat Go.Proofs.YtjofmoebijdccaaGreat.heap
set_option linter.unusedVariables false

theorem out_bound (ks : List data.DataD) (T : vm.VmD) : value.cntT (outF ks T).1 ≤ 1073741824 := by
  unfold outF
  split
  · exact back_bound _ _ _
  · show value.cntT zeroV ≤ _
    have := cnt_T zeroV
    simp only [zeroV, value.cnt, value.cnts] at this
    unfold zeroV
    omega
theorem cntT_boundV (T : vm.VmD) (hw : vm.wt T ≤ 1048576) : vm.cntT T ≤ 1073741824 := by
  obtain ⟨x0, x1, x2, x3, x4, x5, x6⟩ := T
  have h1 : vm.wt (x0, x1, x2, x3, x4, x5, x6) = (x0.length + fun.wts x0) + (heap.wt x1 + (x2.length + (x3.length + x4.length))) := rfl
  have h2 : vm.cntT (x0, x1, x2, x3, x4, x5, x6) = fun.cnts x0 + (heap.cntT x1 + (x2.length + (call.cnts x3 + x4.length))) := rfl
  have h3 := fun.cnts_le x0
  have h4 : heap.cntT x1 = heap.wt x1 := by obtain ⟨W, a, b, c⟩ := x1; rfl
  have h5 := call.cnts_le x3
  omega

end Go.Proofs.YtjofmoebijdccaaGreat.back
