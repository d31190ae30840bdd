/-
  At every argument the program's function answers as its model, writes nothing into the argument, and its answer owns its memory; the law's call returns true, and the argument reads as it read before. No condition.
-/
import Derived.Test.YtklcjjckelahcaaRows
import Derived.Test.YtklcjjckelahcaaItems
import Derived.Test.YtklcjjckelahcaaTypedArg
import Derived.Test.YtklcjjckelahcaaTypedToP
import Derived.Test.YtklcjjckelahcaaTypedEq
import Derived.Test.YtklcjjckelahcaaTypedMarkT
import Derived.Test.YtklcjjckelahcaaNodeEq
import Derived.Test.YtklcjjckelahcaaNodeMarkT
import Derived.Test.YtklcjjckelahcaaNodeHeldT
import Derived.Test.YtklcjjckelahcaaEraseBound
import Derived.Test.YtklcjjckelahcaaEraseImpl2
import Derived.ProofKit
import Derived.Deep.DeepHandedRow
import Derived.ChangeOld
import Derived.Carry
namespace Go.Proofs.Ytklcjjckelahcaa.fnExactErase
open Go.ChangeShapes Go.WideShapes Go.ChangeAt Go.RowKit Go.Proofs.Ytklcjjckelahcaa.rose Go.Proofs.Ytklcjjckelahcaa
set_option linter.unusedVariables false

theorem own : ownKnob Try.prog.godebug = none := by kernel_rfl
theorem laidOut : laidOutB Try.prog = true := by kernel_rfl

set_option maxRecDepth 100000 in
set_option maxHeartbeats 8000000 in
theorem walk (cs : List Value) (T : typed.TypedD) (w : World) (h : typed.typedSh.rep w (· < w.heap.size) cs T) :
    Calls Try.prog 3 #[.agg cs.toArray] w fun e w' => e = .returned (.bool true) ∧ Below w.heap.size w w' := by
  obtain ⟨v0, v1, v2, v3, v4, v5, v6, v7, v8, v9, v10, rfl⟩ := typed.typed_list h
  have HT : Hid (typed.typedSh.rep w (· < w.heap.size) [v0, v1, v2, v3, v4, v5, v6, v7, v8, v9, v10] T) := h
  have AT : Hid (∀ w' : World, Below w.heap.size w w' → typed.typedSh.rep w' (· < w'.heap.size) [v0, v1, v2, v3, v4, v5, v6, v7, v8, v9, v10] T) := fun w' hb => typed.typedSh.mono (typed.typedSh.below h hb) fun b hlt => Nat.lt_of_lt_of_le hlt hb.size
  have ov0 := typed.typedSh.one h v0 (by simp)
  have ov1 := typed.typedSh.one h v1 (by simp)
  have ov2 := typed.typedSh.one h v2 (by simp)
  have ov3 := typed.typedSh.one h v3 (by simp)
  have ov4 := typed.typedSh.one h v4 (by simp)
  have ov5 := typed.typedSh.one h v5 (by simp)
  have ov6 := typed.typedSh.one h v6 (by simp)
  have ov7 := typed.typedSh.one h v7 (by simp)
  have ov8 := typed.typedSh.one h v8 (by simp)
  have ov9 := typed.typedSh.one h v9 (by simp)
  have ov10 := typed.typedSh.one h v10 (by simp)
  clear h
  have K0 : Hid (ArgK w (w.alloc (.cells #[v0, v1, v2, v3, v4, v5, v6, v7, v8, v9, v10] 28)) [v0, v1, v2, v3, v4, v5, v6, v7, v8, v9, v10] 28) := ArgK.new _ _ _ rfl
  go_enter Try.func3, Try.ntmps3
  go_wp2_with fail
  refine (typed.sz_any T _ _ 1048576 (by decide) (by decide) (AT.out _ K0.out.bel)).mono ?_
  rintro e w1 ⟨rfl, hb⟩
  have K1 : Hid (ArgK w w1 [v0, v1, v2, v3, v4, v5, v6, v7, v8, v9, v10] 28) := K0.out.on hb
  clear hb K0
  by_cases hw : typed.wt T ≤ 1048576
  · have hl : left (typed.wt T) 1048576 = 1048576 - (typed.wt T : Nat) := by unfold left; rw [if_pos (by omega)]
    rw [hl]
    have t1 : decide ((1048576 : Int) - (typed.wt T : Nat) < 0) = false := by simp; omega
    have ca0 : w1.cell? ⟨w.heap.size, 0, none⟩ = some v0 := K1.out.cell 0 rfl
    have ca1 : w1.cell? ⟨w.heap.size, 1, none⟩ = some v1 := K1.out.cell 1 rfl
    have ca2 : w1.cell? ⟨w.heap.size, 2, none⟩ = some v2 := K1.out.cell 2 rfl
    have ca3 : w1.cell? ⟨w.heap.size, 3, none⟩ = some v3 := K1.out.cell 3 rfl
    have ca4 : w1.cell? ⟨w.heap.size, 4, none⟩ = some v4 := K1.out.cell 4 rfl
    have ca5 : w1.cell? ⟨w.heap.size, 5, none⟩ = some v5 := K1.out.cell 5 rfl
    have ca6 : w1.cell? ⟨w.heap.size, 6, none⟩ = some v6 := K1.out.cell 6 rfl
    have ca7 : w1.cell? ⟨w.heap.size, 7, none⟩ = some v7 := K1.out.cell 7 rfl
    have ca8 : w1.cell? ⟨w.heap.size, 8, none⟩ = some v8 := K1.out.cell 8 rfl
    have ca9 : w1.cell? ⟨w.heap.size, 9, none⟩ = some v9 := K1.out.cell 9 rfl
    have ca10 : w1.cell? ⟨w.heap.size, 10, none⟩ = some v10 := K1.out.cell 10 rfl
    go_wp2_with fail
    refine (typed.toP_any T _ _ hw (AT.out _ K1.out.bel)).mono ?_
    rintro e w2 ⟨⟨cs2, rfl, r2⟩, hb⟩
    clear ca0 ca1 ca2 ca3 ca4 ca5 ca6 ca7 ca8 ca9 ca10
    have K2 : Hid (ArgK w w2 [v0, v1, v2, v3, v4, v5, v6, v7, v8, v9, v10] 28) := K1.out.on hb
    have R2 : Hid (typed.typedSh.rep w2 (· < w2.heap.size) cs2 T) := typed.typedSh.mono (typed.typedp_rep r2) fun b hb => hb.2
    clear hb r2 K1
    go_wp2_with fail
    refine (typed.spec_any T _ _ hw R2.out).mono ?_
    rintro e w3 ⟨⟨cs3, rfl, r3⟩, hb⟩
    obtain ⟨s0, s1, s2, s3, s4, rfl⟩ := node.nd_list (node.ndp_rep r3)
    have os0 := node.ndSp.one r3 s0 (by simp)
    have os1 := node.ndSp.one r3 s1 (by simp)
    have os2 := node.ndSp.one r3 s2 (by simp)
    have os3 := node.ndSp.one r3 s3 (by simp)
    have os4 := node.ndSp.one r3 s4 (by simp)
    have sos0 := fun (a : Addr) (m : Mode) (w : World) => run_store Try.prog w a s0 m os0
    have sos1 := fun (a : Addr) (m : Mode) (w : World) => run_store Try.prog w a s1 m os1
    have sos2 := fun (a : Addr) (m : Mode) (w : World) => run_store Try.prog w a s2 m os2
    have sos3 := fun (a : Addr) (m : Mode) (w : World) => run_store Try.prog w a s3 m os3
    have sos4 := fun (a : Addr) (m : Mode) (w : World) => run_store Try.prog w a s4 m os4
    have hA : Below w3.heap.size w3 (w3.alloc (.cells #[s0, s1, s2, s3, s4] 32)) := (Below.refl _ _).alloc (Nat.le_refl _) _
    obtain ⟨w3b, e3⟩ : ∃ w3b, w3b = w3.alloc (.cells #[s0, s1, s2, s3, s4] 32) := ⟨_, rfl⟩
    have z3 : w3b.heap.size = w3.heap.size + 1 := by rw [e3]; simp
    have K3 : Hid (ArgK w w3b [v0, v1, v2, v3, v4, v5, v6, v7, v8, v9, v10] 28) := by rw [e3]; exact (K2.out.on hb).on hA
    have I3 : Hid (Itm node.ndSh w3b w3.heap.size [s0, s1, s2, s3, s4] 32 w2.heap.size w3.heap.size (typed.er T)) := by rw [e3]; exact Itm.new (node.ndp_rep r3) (Nat.le_refl _) rfl
    have L3 : Hid (w.heap.size < w2.heap.size ∧ w2.heap.size ≤ w3.heap.size) := ⟨K2.out.lt, hb.size⟩
    clear hb r3 R2 K2 hA
    have ca := fun j v hj => K3.out.cell j (v := v) hj
    have ca0 : (w3.alloc (.cells #[s0, s1, s2, s3, s4] 32)).cell? ⟨w.heap.size, 0, none⟩ = some v0 := by have := K3.out.cell 0 (v := v0) rfl; rwa [e3] at this
    have ca1 : (w3.alloc (.cells #[s0, s1, s2, s3, s4] 32)).cell? ⟨w.heap.size, 1, none⟩ = some v1 := by have := K3.out.cell 1 (v := v1) rfl; rwa [e3] at this
    have ca2 : (w3.alloc (.cells #[s0, s1, s2, s3, s4] 32)).cell? ⟨w.heap.size, 2, none⟩ = some v2 := by have := K3.out.cell 2 (v := v2) rfl; rwa [e3] at this
    have ca3 : (w3.alloc (.cells #[s0, s1, s2, s3, s4] 32)).cell? ⟨w.heap.size, 3, none⟩ = some v3 := by have := K3.out.cell 3 (v := v3) rfl; rwa [e3] at this
    have ca4 : (w3.alloc (.cells #[s0, s1, s2, s3, s4] 32)).cell? ⟨w.heap.size, 4, none⟩ = some v4 := by have := K3.out.cell 4 (v := v4) rfl; rwa [e3] at this
    have ca5 : (w3.alloc (.cells #[s0, s1, s2, s3, s4] 32)).cell? ⟨w.heap.size, 5, none⟩ = some v5 := by have := K3.out.cell 5 (v := v5) rfl; rwa [e3] at this
    have ca6 : (w3.alloc (.cells #[s0, s1, s2, s3, s4] 32)).cell? ⟨w.heap.size, 6, none⟩ = some v6 := by have := K3.out.cell 6 (v := v6) rfl; rwa [e3] at this
    have ca7 : (w3.alloc (.cells #[s0, s1, s2, s3, s4] 32)).cell? ⟨w.heap.size, 7, none⟩ = some v7 := by have := K3.out.cell 7 (v := v7) rfl; rwa [e3] at this
    have ca8 : (w3.alloc (.cells #[s0, s1, s2, s3, s4] 32)).cell? ⟨w.heap.size, 8, none⟩ = some v8 := by have := K3.out.cell 8 (v := v8) rfl; rwa [e3] at this
    have ca9 : (w3.alloc (.cells #[s0, s1, s2, s3, s4] 32)).cell? ⟨w.heap.size, 9, none⟩ = some v9 := by have := K3.out.cell 9 (v := v9) rfl; rwa [e3] at this
    have ca10 : (w3.alloc (.cells #[s0, s1, s2, s3, s4] 32)).cell? ⟨w.heap.size, 10, none⟩ = some v10 := by have := K3.out.cell 10 (v := v10) rfl; rwa [e3] at this
    clear ca
    go_wp2_with fail
    rw [← e3]
    refine (typed.toP_any T _ _ hw (AT.out _ K3.out.bel)).mono ?_
    rintro e w4 ⟨⟨cs4, rfl, r4⟩, hb⟩
    clear ca0 ca1 ca2 ca3 ca4 ca5 ca6 ca7 ca8 ca9 ca10 e3
    obtain ⟨q0, q1, q2, q3, q4, q5, q6, q7, q8, q9, q10, rfl⟩ := typed.typed_list (typed.typedp_rep r4)
    have oq0 := typed.typedSp.one r4 q0 (by simp)
    have oq1 := typed.typedSp.one r4 q1 (by simp)
    have oq2 := typed.typedSp.one r4 q2 (by simp)
    have oq3 := typed.typedSp.one r4 q3 (by simp)
    have oq4 := typed.typedSp.one r4 q4 (by simp)
    have oq5 := typed.typedSp.one r4 q5 (by simp)
    have oq6 := typed.typedSp.one r4 q6 (by simp)
    have oq7 := typed.typedSp.one r4 q7 (by simp)
    have oq8 := typed.typedSp.one r4 q8 (by simp)
    have oq9 := typed.typedSp.one r4 q9 (by simp)
    have oq10 := typed.typedSp.one r4 q10 (by simp)
    have soq0 := fun (a : Addr) (m : Mode) (w : World) => run_store Try.prog w a q0 m oq0
    have soq1 := fun (a : Addr) (m : Mode) (w : World) => run_store Try.prog w a q1 m oq1
    have soq2 := fun (a : Addr) (m : Mode) (w : World) => run_store Try.prog w a q2 m oq2
    have soq3 := fun (a : Addr) (m : Mode) (w : World) => run_store Try.prog w a q3 m oq3
    have soq4 := fun (a : Addr) (m : Mode) (w : World) => run_store Try.prog w a q4 m oq4
    have soq5 := fun (a : Addr) (m : Mode) (w : World) => run_store Try.prog w a q5 m oq5
    have soq6 := fun (a : Addr) (m : Mode) (w : World) => run_store Try.prog w a q6 m oq6
    have soq7 := fun (a : Addr) (m : Mode) (w : World) => run_store Try.prog w a q7 m oq7
    have soq8 := fun (a : Addr) (m : Mode) (w : World) => run_store Try.prog w a q8 m oq8
    have soq9 := fun (a : Addr) (m : Mode) (w : World) => run_store Try.prog w a q9 m oq9
    have soq10 := fun (a : Addr) (m : Mode) (w : World) => run_store Try.prog w a q10 m oq10
    obtain ⟨w4b, e4⟩ : ∃ w4b, w4b = w4.alloc (.cells #[q0, q1, q2, q3, q4, q5, q6, q7, q8, q9, q10] 39) := ⟨_, rfl⟩
    have hA : Below w4.heap.size w4 w4b := by rw [e4]; exact (Below.refl _ _).alloc (Nat.le_refl _) _
    have z4 : w4b.heap.size = w4.heap.size + 1 := by rw [e4]; simp
    have K4 : Hid (ArgK w w4b [v0, v1, v2, v3, v4, v5, v6, v7, v8, v9, v10] 28) := (K3.out.on hb).on hA
    have I4 : Hid (Itm node.ndSh w4b w3.heap.size [s0, s1, s2, s3, s4] 32 w2.heap.size w3.heap.size (typed.er T)) := (I3.out.on hb).on hA
    have X4 : Hid (Itm typed.typedSp w4b w4.heap.size [q0, q1, q2, q3, q4, q5, q6, q7, q8, q9, q10] 39 (w3.heap.size + 1) w4.heap.size T) := by rw [e4]; exact Itm.new (by rw [z3] at r4; exact r4) (Nat.le_refl _) rfl
    have L4 : Hid (w3.heap.size + 1 ≤ w4.heap.size) := by have := hb.size; rw [z3] at this; exact this
    clear hb r4 K3 I3 hA
    have cx0 : (w4.alloc (.cells #[q0, q1, q2, q3, q4, q5, q6, q7, q8, q9, q10] 39)).cell? ⟨w4.heap.size, 0, none⟩ = some q0 := by have := X4.out.cell 0 (v := q0) rfl; rwa [e4] at this
    have cx1 : (w4.alloc (.cells #[q0, q1, q2, q3, q4, q5, q6, q7, q8, q9, q10] 39)).cell? ⟨w4.heap.size, 1, none⟩ = some q1 := by have := X4.out.cell 1 (v := q1) rfl; rwa [e4] at this
    have cx2 : (w4.alloc (.cells #[q0, q1, q2, q3, q4, q5, q6, q7, q8, q9, q10] 39)).cell? ⟨w4.heap.size, 2, none⟩ = some q2 := by have := X4.out.cell 2 (v := q2) rfl; rwa [e4] at this
    have cx3 : (w4.alloc (.cells #[q0, q1, q2, q3, q4, q5, q6, q7, q8, q9, q10] 39)).cell? ⟨w4.heap.size, 3, none⟩ = some q3 := by have := X4.out.cell 3 (v := q3) rfl; rwa [e4] at this
    have cx4 : (w4.alloc (.cells #[q0, q1, q2, q3, q4, q5, q6, q7, q8, q9, q10] 39)).cell? ⟨w4.heap.size, 4, none⟩ = some q4 := by have := X4.out.cell 4 (v := q4) rfl; rwa [e4] at this
    have cx5 : (w4.alloc (.cells #[q0, q1, q2, q3, q4, q5, q6, q7, q8, q9, q10] 39)).cell? ⟨w4.heap.size, 5, none⟩ = some q5 := by have := X4.out.cell 5 (v := q5) rfl; rwa [e4] at this
    have cx6 : (w4.alloc (.cells #[q0, q1, q2, q3, q4, q5, q6, q7, q8, q9, q10] 39)).cell? ⟨w4.heap.size, 6, none⟩ = some q6 := by have := X4.out.cell 6 (v := q6) rfl; rwa [e4] at this
    have cx7 : (w4.alloc (.cells #[q0, q1, q2, q3, q4, q5, q6, q7, q8, q9, q10] 39)).cell? ⟨w4.heap.size, 7, none⟩ = some q7 := by have := X4.out.cell 7 (v := q7) rfl; rwa [e4] at this
    have cx8 : (w4.alloc (.cells #[q0, q1, q2, q3, q4, q5, q6, q7, q8, q9, q10] 39)).cell? ⟨w4.heap.size, 8, none⟩ = some q8 := by have := X4.out.cell 8 (v := q8) rfl; rwa [e4] at this
    have cx9 : (w4.alloc (.cells #[q0, q1, q2, q3, q4, q5, q6, q7, q8, q9, q10] 39)).cell? ⟨w4.heap.size, 9, none⟩ = some q9 := by have := X4.out.cell 9 (v := q9) rfl; rwa [e4] at this
    have cx10 : (w4.alloc (.cells #[q0, q1, q2, q3, q4, q5, q6, q7, q8, q9, q10] 39)).cell? ⟨w4.heap.size, 10, none⟩ = some q10 := by have := X4.out.cell 10 (v := q10) rfl; rwa [e4] at this
    go_wp2_with fail
    rw [← e4]
    refine (typed.implErase T _ _ hw (typed.typedSh.mono (typed.typedp_rep X4.out.rep) fun b hb => by have := L4.out; omega)).mono ?_
    rintro e w6 ⟨⟨cs6, rfl, r6⟩, hb⟩
    clear cx0 cx1 cx2 cx3 cx4 cx5 cx6 cx7 cx8 cx9 cx10 e4
    obtain ⟨g0, g1, g2, g3, g4, rfl⟩ := node.nd_list (node.ndp_rep r6)
    have og0 := node.ndSp.one r6 g0 (by simp)
    have og1 := node.ndSp.one r6 g1 (by simp)
    have og2 := node.ndSp.one r6 g2 (by simp)
    have og3 := node.ndSp.one r6 g3 (by simp)
    have og4 := node.ndSp.one r6 g4 (by simp)
    have sog0 := fun (a : Addr) (m : Mode) (w : World) => run_store Try.prog w a g0 m og0
    have sog1 := fun (a : Addr) (m : Mode) (w : World) => run_store Try.prog w a g1 m og1
    have sog2 := fun (a : Addr) (m : Mode) (w : World) => run_store Try.prog w a g2 m og2
    have sog3 := fun (a : Addr) (m : Mode) (w : World) => run_store Try.prog w a g3 m og3
    have sog4 := fun (a : Addr) (m : Mode) (w : World) => run_store Try.prog w a g4 m og4
    obtain ⟨w6b, e6⟩ : ∃ w6b, w6b = w6.alloc (.cells #[g0, g1, g2, g3, g4] 32) := ⟨_, rfl⟩
    have hA : Below w6.heap.size w6 w6b := by rw [e6]; exact (Below.refl _ _).alloc (Nat.le_refl _) _
    have z6 : w6b.heap.size = w6.heap.size + 1 := by rw [e6]; simp
    have K6 : Hid (ArgK w w6b [v0, v1, v2, v3, v4, v5, v6, v7, v8, v9, v10] 28) := (K4.out.on hb).on hA
    have I6 : Hid (Itm node.ndSh w6b w3.heap.size [s0, s1, s2, s3, s4] 32 w2.heap.size w3.heap.size (typed.er T)) := (I4.out.on hb).on hA
    have X6 : Hid (Itm typed.typedSp w6b w4.heap.size [q0, q1, q2, q3, q4, q5, q6, q7, q8, q9, q10] 39 (w3.heap.size + 1) w4.heap.size T) := (X4.out.on hb).on hA
    have G6 : Hid (Itm node.ndSp w6b w6.heap.size [g0, g1, g2, g3, g4] 32 (w4.heap.size + 1) w6.heap.size (typed.er T)) := by rw [e6]; exact Itm.new (by rw [z4] at r6; exact r6) (Nat.le_refl _) rfl
    have L6 : Hid (w4.heap.size + 1 ≤ w6.heap.size) := by have := hb.size; rw [z4] at this; exact this
    clear hb r6 K4 I4 X4 hA
    have cg0 : (w6.alloc (.cells #[g0, g1, g2, g3, g4] 32)).cell? ⟨w6.heap.size, 0, none⟩ = some g0 := by have := G6.out.cell 0 (v := g0) rfl; rwa [e6] at this
    have cg1 : (w6.alloc (.cells #[g0, g1, g2, g3, g4] 32)).cell? ⟨w6.heap.size, 1, none⟩ = some g1 := by have := G6.out.cell 1 (v := g1) rfl; rwa [e6] at this
    have cg2 : (w6.alloc (.cells #[g0, g1, g2, g3, g4] 32)).cell? ⟨w6.heap.size, 2, none⟩ = some g2 := by have := G6.out.cell 2 (v := g2) rfl; rwa [e6] at this
    have cg3 : (w6.alloc (.cells #[g0, g1, g2, g3, g4] 32)).cell? ⟨w6.heap.size, 3, none⟩ = some g3 := by have := G6.out.cell 3 (v := g3) rfl; rwa [e6] at this
    have cg4 : (w6.alloc (.cells #[g0, g1, g2, g3, g4] 32)).cell? ⟨w6.heap.size, 4, none⟩ = some g4 := by have := G6.out.cell 4 (v := g4) rfl; rwa [e6] at this
    have cw0 : (w6.alloc (.cells #[g0, g1, g2, g3, g4] 32)).cell? ⟨w3.heap.size, 0, none⟩ = some s0 := by have := I6.out.cell 0 (v := s0) rfl; rwa [e6] at this
    have cw1 : (w6.alloc (.cells #[g0, g1, g2, g3, g4] 32)).cell? ⟨w3.heap.size, 1, none⟩ = some s1 := by have := I6.out.cell 1 (v := s1) rfl; rwa [e6] at this
    have cw2 : (w6.alloc (.cells #[g0, g1, g2, g3, g4] 32)).cell? ⟨w3.heap.size, 2, none⟩ = some s2 := by have := I6.out.cell 2 (v := s2) rfl; rwa [e6] at this
    have cw3 : (w6.alloc (.cells #[g0, g1, g2, g3, g4] 32)).cell? ⟨w3.heap.size, 3, none⟩ = some s3 := by have := I6.out.cell 3 (v := s3) rfl; rwa [e6] at this
    have cw4 : (w6.alloc (.cells #[g0, g1, g2, g3, g4] 32)).cell? ⟨w3.heap.size, 4, none⟩ = some s4 := by have := I6.out.cell 4 (v := s4) rfl; rwa [e6] at this
    go_wp2_with fail
    rw [← e6]
    refine (node.eq_any (typed.er T) _ _ _ ((G6.out.as (fun h => node.ndp_rep h)).in_) I6.out.in_).mono ?_
    rintro e w7 ⟨rfl, hb⟩
    clear cg0 cg1 cg2 cg3 cg4 cw0 cw1 cw2 cw3 cw4 e6
    have K7 : Hid (ArgK w w7 [v0, v1, v2, v3, v4, v5, v6, v7, v8, v9, v10] 28) := K6.out.on hb
    have I7 : Hid (Itm node.ndSh w7 w3.heap.size [s0, s1, s2, s3, s4] 32 w2.heap.size w3.heap.size (typed.er T)) := I6.out.on hb
    have X7 : Hid (Itm typed.typedSp w7 w4.heap.size [q0, q1, q2, q3, q4, q5, q6, q7, q8, q9, q10] 39 (w3.heap.size + 1) w4.heap.size T) := X6.out.on hb
    have G7 : Hid (Itm node.ndSp w7 w6.heap.size [g0, g1, g2, g3, g4] 32 (w4.heap.size + 1) w6.heap.size (typed.er T)) := G6.out.on hb
    have L7 : Hid (w6.heap.size + 1 ≤ w7.heap.size) := by have := hb.size; rw [z6] at this; exact this
    clear hb K6 I6 X6 G6
    go_wp2
    have ca0 : w7.cell? ⟨w.heap.size, 0, none⟩ = some v0 := K7.out.cell 0 rfl
    have ca1 : w7.cell? ⟨w.heap.size, 1, none⟩ = some v1 := K7.out.cell 1 rfl
    have ca2 : w7.cell? ⟨w.heap.size, 2, none⟩ = some v2 := K7.out.cell 2 rfl
    have ca3 : w7.cell? ⟨w.heap.size, 3, none⟩ = some v3 := K7.out.cell 3 rfl
    have ca4 : w7.cell? ⟨w.heap.size, 4, none⟩ = some v4 := K7.out.cell 4 rfl
    have ca5 : w7.cell? ⟨w.heap.size, 5, none⟩ = some v5 := K7.out.cell 5 rfl
    have ca6 : w7.cell? ⟨w.heap.size, 6, none⟩ = some v6 := K7.out.cell 6 rfl
    have ca7 : w7.cell? ⟨w.heap.size, 7, none⟩ = some v7 := K7.out.cell 7 rfl
    have ca8 : w7.cell? ⟨w.heap.size, 8, none⟩ = some v8 := K7.out.cell 8 rfl
    have ca9 : w7.cell? ⟨w.heap.size, 9, none⟩ = some v9 := K7.out.cell 9 rfl
    have ca10 : w7.cell? ⟨w.heap.size, 10, none⟩ = some v10 := K7.out.cell 10 rfl
    have cx0 : w7.cell? ⟨w4.heap.size, 0, none⟩ = some q0 := X7.out.cell 0 rfl
    have cx1 : w7.cell? ⟨w4.heap.size, 1, none⟩ = some q1 := X7.out.cell 1 rfl
    have cx2 : w7.cell? ⟨w4.heap.size, 2, none⟩ = some q2 := X7.out.cell 2 rfl
    have cx3 : w7.cell? ⟨w4.heap.size, 3, none⟩ = some q3 := X7.out.cell 3 rfl
    have cx4 : w7.cell? ⟨w4.heap.size, 4, none⟩ = some q4 := X7.out.cell 4 rfl
    have cx5 : w7.cell? ⟨w4.heap.size, 5, none⟩ = some q5 := X7.out.cell 5 rfl
    have cx6 : w7.cell? ⟨w4.heap.size, 6, none⟩ = some q6 := X7.out.cell 6 rfl
    have cx7 : w7.cell? ⟨w4.heap.size, 7, none⟩ = some q7 := X7.out.cell 7 rfl
    have cx8 : w7.cell? ⟨w4.heap.size, 8, none⟩ = some q8 := X7.out.cell 8 rfl
    have cx9 : w7.cell? ⟨w4.heap.size, 9, none⟩ = some q9 := X7.out.cell 9 rfl
    have cx10 : w7.cell? ⟨w4.heap.size, 10, none⟩ = some q10 := X7.out.cell 10 rfl
    have hcall := typed.toP_any T _ w7.drew hw (AT.out _ K7.out.bel.drew)
    go_region_with (first | (go_at_call 7; refine hcall.mono ?_; rintro e w8 ⟨⟨cs8, rfl, r8⟩, hb⟩; have cy0 := (hb.cell (p := ⟨w4.heap.size, 0, none⟩) (show w4.heap.size < w7.heap.size from X7.out.lt)).trans cx0; have cy1 := (hb.cell (p := ⟨w4.heap.size, 1, none⟩) (show w4.heap.size < w7.heap.size from X7.out.lt)).trans cx1; have cy2 := (hb.cell (p := ⟨w4.heap.size, 2, none⟩) (show w4.heap.size < w7.heap.size from X7.out.lt)).trans cx2; have cy3 := (hb.cell (p := ⟨w4.heap.size, 3, none⟩) (show w4.heap.size < w7.heap.size from X7.out.lt)).trans cx3; have cy4 := (hb.cell (p := ⟨w4.heap.size, 4, none⟩) (show w4.heap.size < w7.heap.size from X7.out.lt)).trans cx4; have cy5 := (hb.cell (p := ⟨w4.heap.size, 5, none⟩) (show w4.heap.size < w7.heap.size from X7.out.lt)).trans cx5; have cy6 := (hb.cell (p := ⟨w4.heap.size, 6, none⟩) (show w4.heap.size < w7.heap.size from X7.out.lt)).trans cx6; have cy7 := (hb.cell (p := ⟨w4.heap.size, 7, none⟩) (show w4.heap.size < w7.heap.size from X7.out.lt)).trans cx7; have cy8 := (hb.cell (p := ⟨w4.heap.size, 8, none⟩) (show w4.heap.size < w7.heap.size from X7.out.lt)).trans cx8; have cy9 := (hb.cell (p := ⟨w4.heap.size, 9, none⟩) (show w4.heap.size < w7.heap.size from X7.out.lt)).trans cx9; have cy10 := (hb.cell (p := ⟨w4.heap.size, 10, none⟩) (show w4.heap.size < w7.heap.size from X7.out.lt)).trans cx10) | (go_at_call 10; refine (typed.eq_any T [q0, q1, q2, q3, q4, q5, q6, q7, q8, q9, q10] cs8 _ (typed.typedSh.mono (typed.typedp_rep ((X7.out.on ((Below.refl _ w7).drew.trans hb)).rep)) (fun b hlt => by have := X7.out.top; have : w7.heap.size ≤ w8.heap.size := hb.size; omega)) (typed.typedSh.mono (typed.typedp_rep r8) fun b hlt => hlt.2)).mono ?_; rintro e w9 ⟨rfl, hb9⟩))
    all_goals
      have h79 : Below w7.heap.size w7 w9 := ((Below.refl _ w7).drew.trans hb).trans (hb9.mono hb.size)
      have K9 : Hid (ArgK w w9 [v0, v1, v2, v3, v4, v5, v6, v7, v8, v9, v10] 28) := K7.out.on h79
      have I9 : Hid (Itm node.ndSh w9 w3.heap.size [s0, s1, s2, s3, s4] 32 w2.heap.size w3.heap.size (typed.er T)) := I7.out.on h79
      have X9 : Hid (Itm typed.typedSp w9 w4.heap.size [q0, q1, q2, q3, q4, q5, q6, q7, q8, q9, q10] 39 (w3.heap.size + 1) w4.heap.size T) := X7.out.on h79
      have G9 : Hid (Itm node.ndSp w9 w6.heap.size [g0, g1, g2, g3, g4] 32 (w4.heap.size + 1) w6.heap.size (typed.er T)) := G7.out.on h79
      have O9 : Hid (w7.heap.size ≤ w9.heap.size) := h79.size
      clear hb hb9 r8 hcall h79 K7 I7 X7 G7 ca0 ca1 ca2 ca3 ca4 ca5 ca6 ca7 ca8 ca9 ca10 cx0 cx1 cx2 cx3 cx4 cx5 cx6 cx7 cx8 cx9 cx10 cy0 cy1 cy2 cy3 cy4 cy5 cy6 cy7 cy8 cy9 cy10
      have cx0 : w9.cell? ⟨w4.heap.size, 0, none⟩ = some q0 := X9.out.cell 0 rfl
      have cx1 : w9.cell? ⟨w4.heap.size, 1, none⟩ = some q1 := X9.out.cell 1 rfl
      have cx2 : w9.cell? ⟨w4.heap.size, 2, none⟩ = some q2 := X9.out.cell 2 rfl
      have cx3 : w9.cell? ⟨w4.heap.size, 3, none⟩ = some q3 := X9.out.cell 3 rfl
      have cx4 : w9.cell? ⟨w4.heap.size, 4, none⟩ = some q4 := X9.out.cell 4 rfl
      have cx5 : w9.cell? ⟨w4.heap.size, 5, none⟩ = some q5 := X9.out.cell 5 rfl
      have cx6 : w9.cell? ⟨w4.heap.size, 6, none⟩ = some q6 := X9.out.cell 6 rfl
      have cx7 : w9.cell? ⟨w4.heap.size, 7, none⟩ = some q7 := X9.out.cell 7 rfl
      have cx8 : w9.cell? ⟨w4.heap.size, 8, none⟩ = some q8 := X9.out.cell 8 rfl
      have cx9 : w9.cell? ⟨w4.heap.size, 9, none⟩ = some q9 := X9.out.cell 9 rfl
      have cx10 : w9.cell? ⟨w4.heap.size, 10, none⟩ = some q10 := X9.out.cell 10 rfl
      have hcn : typed.cntT T ≤ 1152921504606846975 - 1 := typed.cntT_le T hw
      go_wp2_with fail
      refine (typed.markT_any T _ _ 1 (fun b => w3.heap.size + 1 ≤ b ∧ b < w4.heap.size) (by omega) (by omega) (fun b hb => by have := hb.2; have := X9.out.top; omega) X9.out.rep).mono ?_
      rintro e w10 ⟨rfl, ho⟩
      have K10 : Hid (ArgK w w10 [v0, v1, v2, v3, v4, v5, v6, v7, v8, v9, v10] 28) := K9.out.only ho fun b hb => by have := L3.out; omega
      have I10 : Hid (Itm node.ndSh w10 w3.heap.size [s0, s1, s2, s3, s4] 32 w2.heap.size w3.heap.size (typed.er T)) := I9.out.only ho (fun hq => by omega) (fun b h1 h2 hq => by omega)
      have G10 : Hid (Itm node.ndSp w10 w6.heap.size [g0, g1, g2, g3, g4] 32 (w4.heap.size + 1) w6.heap.size (typed.er T)) := G9.out.only ho (fun hq => by have := L6.out; omega) (fun b h1 h2 hq => by omega)
      clear ho K9 I9 G9 X9 cx0 cx1 cx2 cx3 cx4 cx5 cx6 cx7 cx8 cx9 cx10
      have t2 : decide ((1 : Int) + (typed.cntT T : Nat) < 0) = false := by simp; omega
      generalize (typed.cntT T : Nat) = cn at t2 hcn ⊢
      have cg0 : w10.cell? ⟨w6.heap.size, 0, none⟩ = some g0 := G10.out.cell 0 rfl
      have cg1 : w10.cell? ⟨w6.heap.size, 1, none⟩ = some g1 := G10.out.cell 1 rfl
      have cg2 : w10.cell? ⟨w6.heap.size, 2, none⟩ = some g2 := G10.out.cell 2 rfl
      have cg3 : w10.cell? ⟨w6.heap.size, 3, none⟩ = some g3 := G10.out.cell 3 rfl
      have cg4 : w10.cell? ⟨w6.heap.size, 4, none⟩ = some g4 := G10.out.cell 4 rfl
      have cw0 : w10.cell? ⟨w3.heap.size, 0, none⟩ = some s0 := I10.out.cell 0 rfl
      have cw1 : w10.cell? ⟨w3.heap.size, 1, none⟩ = some s1 := I10.out.cell 1 rfl
      have cw2 : w10.cell? ⟨w3.heap.size, 2, none⟩ = some s2 := I10.out.cell 2 rfl
      have cw3 : w10.cell? ⟨w3.heap.size, 3, none⟩ = some s3 := I10.out.cell 3 rfl
      have cw4 : w10.cell? ⟨w3.heap.size, 4, none⟩ = some s4 := I10.out.cell 4 rfl
      go_wp2_with fail
      refine (node.eq_any (typed.er T) _ _ _ ((G10.out.as (fun h => node.ndp_rep h)).in_) I10.out.in_).mono ?_
      rintro e w11 ⟨rfl, hb⟩
      have K11 : Hid (ArgK w w11 [v0, v1, v2, v3, v4, v5, v6, v7, v8, v9, v10] 28) := K10.out.on hb
      have I11 : Hid (Itm node.ndSh w11 w3.heap.size [s0, s1, s2, s3, s4] 32 w2.heap.size w3.heap.size (typed.er T)) := I10.out.on hb
      have G11 : Hid (Itm node.ndSp w11 w6.heap.size [g0, g1, g2, g3, g4] 32 (w4.heap.size + 1) w6.heap.size (typed.er T)) := G10.out.on hb
      clear hb K10 I10 G10 t2 cg0 cg1 cg2 cg3 cg4 cw0 cw1 cw2 cw3 cw4
      have cg0 : w11.cell? ⟨w6.heap.size, 0, none⟩ = some g0 := G11.out.cell 0 rfl
      have cg1 : w11.cell? ⟨w6.heap.size, 1, none⟩ = some g1 := G11.out.cell 1 rfl
      have cg2 : w11.cell? ⟨w6.heap.size, 2, none⟩ = some g2 := G11.out.cell 2 rfl
      have cg3 : w11.cell? ⟨w6.heap.size, 3, none⟩ = some g3 := G11.out.cell 3 rfl
      have cg4 : w11.cell? ⟨w6.heap.size, 4, none⟩ = some g4 := G11.out.cell 4 rfl
      have hcg : node.cntT (typed.er T) ≤ 1152921504606846974 := (typed.er_cnt T hw)
      go_wp2_with fail
      refine (node.markT_any (typed.er T) _ _ 1 (fun b => w4.heap.size + 1 ≤ b ∧ b < w6.heap.size) (by omega) (by omega) (fun b hb => by have := hb.2; have := G11.out.top; omega) G11.out.rep).mono ?_
      rintro e w12 ⟨rfl, ho, hr⟩
      have K12 : Hid (ArgK w w12 [v0, v1, v2, v3, v4, v5, v6, v7, v8, v9, v10] 28) := K11.out.only ho fun b hb => by have := L3.out; have := L4.out; omega
      have I12 : Hid (Itm node.ndSh w12 w3.heap.size [s0, s1, s2, s3, s4] 32 w2.heap.size w3.heap.size (typed.er T)) := I11.out.only ho (fun hq => by have := L4.out; omega) (fun b h1 h2 hq => by have := L4.out; omega)
      have G12 : Hid (Itm node.ndSh w12 w6.heap.size [g0, g1, g2, g3, g4] 32 (w4.heap.size + 1) w6.heap.size (node.mkT 1 (typed.er T))) := ⟨(ho.block _ G11.out.lt (fun hq => by omega)).trans G11.out.blk, Nat.le_trans G11.out.top ho.size, node.ndp_rep hr⟩
      clear ho hr K11 I11 G11 cg0 cg1 cg2 cg3 cg4
      have t3 : decide ((1 : Int) + (node.cntT (typed.er T) : Nat) < 0) = false := by simp; omega
      obtain ⟨n0, hn0⟩ : ∃ n0 : Nat, n0 = node.cntT (typed.er T) := ⟨_, rfl⟩
      have HN : Hid (n0 = node.cntT (typed.er T)) := hn0
      rw [← hn0] at hcg t3 ⊢
      clear hn0
      have cg0 : w12.cell? ⟨w6.heap.size, 0, none⟩ = some g0 := G12.out.cell 0 rfl
      have cg1 : w12.cell? ⟨w6.heap.size, 1, none⟩ = some g1 := G12.out.cell 1 rfl
      have cg2 : w12.cell? ⟨w6.heap.size, 2, none⟩ = some g2 := G12.out.cell 2 rfl
      have cg3 : w12.cell? ⟨w6.heap.size, 3, none⟩ = some g3 := G12.out.cell 3 rfl
      have cg4 : w12.cell? ⟨w6.heap.size, 4, none⟩ = some g4 := G12.out.cell 4 rfl
      go_wp2_with fail
      refine (node.heldT_any (typed.er T) _ _ 1 (by omega) (by rw [← HN.out]; omega) G12.out.in_).mono ?_
      rw [← HN.out]
      rintro e w13 ⟨rfl, hb⟩
      have K13 : Hid (ArgK w w13 [v0, v1, v2, v3, v4, v5, v6, v7, v8, v9, v10] 28) := K12.out.on hb
      have I13 : Hid (Itm node.ndSh w13 w3.heap.size [s0, s1, s2, s3, s4] 32 w2.heap.size w3.heap.size (typed.er T)) := I12.out.on hb
      have G13 : Hid (Itm node.ndSh w13 w6.heap.size [g0, g1, g2, g3, g4] 32 (w4.heap.size + 1) w6.heap.size (node.mkT 1 (typed.er T))) := G12.out.on hb
      clear hb K12 I12 G12 cg0 cg1 cg2 cg3 cg4
      have ca0 : w13.cell? ⟨w.heap.size, 0, none⟩ = some v0 := K13.out.cell 0 rfl
      have ca1 : w13.cell? ⟨w.heap.size, 1, none⟩ = some v1 := K13.out.cell 1 rfl
      have ca2 : w13.cell? ⟨w.heap.size, 2, none⟩ = some v2 := K13.out.cell 2 rfl
      have ca3 : w13.cell? ⟨w.heap.size, 3, none⟩ = some v3 := K13.out.cell 3 rfl
      have ca4 : w13.cell? ⟨w.heap.size, 4, none⟩ = some v4 := K13.out.cell 4 rfl
      have ca5 : w13.cell? ⟨w.heap.size, 5, none⟩ = some v5 := K13.out.cell 5 rfl
      have ca6 : w13.cell? ⟨w.heap.size, 6, none⟩ = some v6 := K13.out.cell 6 rfl
      have ca7 : w13.cell? ⟨w.heap.size, 7, none⟩ = some v7 := K13.out.cell 7 rfl
      have ca8 : w13.cell? ⟨w.heap.size, 8, none⟩ = some v8 := K13.out.cell 8 rfl
      have ca9 : w13.cell? ⟨w.heap.size, 9, none⟩ = some v9 := K13.out.cell 9 rfl
      have ca10 : w13.cell? ⟨w.heap.size, 10, none⟩ = some v10 := K13.out.cell 10 rfl
      go_wp2_with fail
      refine (typed.toP_any T _ _ hw (AT.out _ K13.out.bel)).mono ?_
      rintro e w14 ⟨⟨cs14, rfl, r14⟩, hb⟩
      clear ca0 ca1 ca2 ca3 ca4 ca5 ca6 ca7 ca8 ca9 ca10
      have K14 : Hid (ArgK w w14 [v0, v1, v2, v3, v4, v5, v6, v7, v8, v9, v10] 28) := K13.out.on hb
      have I14 : Hid (Itm node.ndSh w14 w3.heap.size [s0, s1, s2, s3, s4] 32 w2.heap.size w3.heap.size (typed.er T)) := I13.out.on hb
      have G14 : Hid (Itm node.ndSh w14 w6.heap.size [g0, g1, g2, g3, g4] 32 (w4.heap.size + 1) w6.heap.size (node.mkT 1 (typed.er T))) := G13.out.on hb
      have R14 : Hid (typed.typedSh.rep w14 (· < w14.heap.size) cs14 T) := typed.typedSh.mono (typed.typedp_rep r14) fun b hb => hb.2
      clear hb r14 K13 I13 G13
      go_wp2_with fail
      refine (typed.implErase T _ _ hw R14.out).mono ?_
      rintro e w15 ⟨⟨cs15, rfl, r15⟩, hb⟩
      obtain ⟨h0, h1, h2, h3, h4, rfl⟩ := node.nd_list (node.ndp_rep r15)
      have oh0 := node.ndSp.one r15 h0 (by simp)
      have oh1 := node.ndSp.one r15 h1 (by simp)
      have oh2 := node.ndSp.one r15 h2 (by simp)
      have oh3 := node.ndSp.one r15 h3 (by simp)
      have oh4 := node.ndSp.one r15 h4 (by simp)
      have soh0 := fun (a : Addr) (m : Mode) (w : World) => run_store Try.prog w a h0 m oh0
      have soh1 := fun (a : Addr) (m : Mode) (w : World) => run_store Try.prog w a h1 m oh1
      have soh2 := fun (a : Addr) (m : Mode) (w : World) => run_store Try.prog w a h2 m oh2
      have soh3 := fun (a : Addr) (m : Mode) (w : World) => run_store Try.prog w a h3 m oh3
      have soh4 := fun (a : Addr) (m : Mode) (w : World) => run_store Try.prog w a h4 m oh4
      obtain ⟨w15b, e15⟩ : ∃ w15b, w15b = w15.alloc (.cells #[h0, h1, h2, h3, h4] 32) := ⟨_, rfl⟩
      have hA : Below w15.heap.size w15 w15b := by rw [e15]; exact (Below.refl _ _).alloc (Nat.le_refl _) _
      have K15 : Hid (ArgK w w15b [v0, v1, v2, v3, v4, v5, v6, v7, v8, v9, v10] 28) := (K14.out.on hb).on hA
      have I15 : Hid (Itm node.ndSh w15b w3.heap.size [s0, s1, s2, s3, s4] 32 w2.heap.size w3.heap.size (typed.er T)) := (I14.out.on hb).on hA
      have G15 : Hid (Itm node.ndSh w15b w6.heap.size [g0, g1, g2, g3, g4] 32 (w4.heap.size + 1) w6.heap.size (node.mkT 1 (typed.er T))) := (G14.out.on hb).on hA
      have H15 : Hid (Itm node.ndSh w15b w15.heap.size [h0, h1, h2, h3, h4] 32 w14.heap.size w15.heap.size (typed.er T)) := by rw [e15]; exact Itm.new (node.ndp_rep r15) (Nat.le_refl _) rfl
      clear hb r15 K14 I14 G14 R14 hA
      have ch0 : (w15.alloc (.cells #[h0, h1, h2, h3, h4] 32)).cell? ⟨w15.heap.size, 0, none⟩ = some h0 := by have := H15.out.cell 0 (v := h0) rfl; rwa [e15] at this
      have ch1 : (w15.alloc (.cells #[h0, h1, h2, h3, h4] 32)).cell? ⟨w15.heap.size, 1, none⟩ = some h1 := by have := H15.out.cell 1 (v := h1) rfl; rwa [e15] at this
      have ch2 : (w15.alloc (.cells #[h0, h1, h2, h3, h4] 32)).cell? ⟨w15.heap.size, 2, none⟩ = some h2 := by have := H15.out.cell 2 (v := h2) rfl; rwa [e15] at this
      have ch3 : (w15.alloc (.cells #[h0, h1, h2, h3, h4] 32)).cell? ⟨w15.heap.size, 3, none⟩ = some h3 := by have := H15.out.cell 3 (v := h3) rfl; rwa [e15] at this
      have ch4 : (w15.alloc (.cells #[h0, h1, h2, h3, h4] 32)).cell? ⟨w15.heap.size, 4, none⟩ = some h4 := by have := H15.out.cell 4 (v := h4) rfl; rwa [e15] at this
      have cw0 : (w15.alloc (.cells #[h0, h1, h2, h3, h4] 32)).cell? ⟨w3.heap.size, 0, none⟩ = some s0 := by have := I15.out.cell 0 (v := s0) rfl; rwa [e15] at this
      have cw1 : (w15.alloc (.cells #[h0, h1, h2, h3, h4] 32)).cell? ⟨w3.heap.size, 1, none⟩ = some s1 := by have := I15.out.cell 1 (v := s1) rfl; rwa [e15] at this
      have cw2 : (w15.alloc (.cells #[h0, h1, h2, h3, h4] 32)).cell? ⟨w3.heap.size, 2, none⟩ = some s2 := by have := I15.out.cell 2 (v := s2) rfl; rwa [e15] at this
      have cw3 : (w15.alloc (.cells #[h0, h1, h2, h3, h4] 32)).cell? ⟨w3.heap.size, 3, none⟩ = some s3 := by have := I15.out.cell 3 (v := s3) rfl; rwa [e15] at this
      have cw4 : (w15.alloc (.cells #[h0, h1, h2, h3, h4] 32)).cell? ⟨w3.heap.size, 4, none⟩ = some s4 := by have := I15.out.cell 4 (v := s4) rfl; rwa [e15] at this
      go_wp2_with fail
      rw [← e15]
      refine (node.eq_any (typed.er T) _ _ _ H15.out.in_ I15.out.in_).mono ?_
      rintro e w16 ⟨rfl, hb⟩
      have K16 : Hid (ArgK w w16 [v0, v1, v2, v3, v4, v5, v6, v7, v8, v9, v10] 28) := K15.out.on hb
      have G16 : Hid (Itm node.ndSh w16 w6.heap.size [g0, g1, g2, g3, g4] 32 (w4.heap.size + 1) w6.heap.size (node.mkT 1 (typed.er T))) := G15.out.on hb
      clear hb K15 I15 G15 H15 e15 ch0 ch1 ch2 ch3 ch4 cw0 cw1 cw2 cw3 cw4
      have cg0 : w16.cell? ⟨w6.heap.size, 0, none⟩ = some g0 := G16.out.cell 0 rfl
      have cg1 : w16.cell? ⟨w6.heap.size, 1, none⟩ = some g1 := G16.out.cell 1 rfl
      have cg2 : w16.cell? ⟨w6.heap.size, 2, none⟩ = some g2 := G16.out.cell 2 rfl
      have cg3 : w16.cell? ⟨w6.heap.size, 3, none⟩ = some g3 := G16.out.cell 3 rfl
      have cg4 : w16.cell? ⟨w6.heap.size, 4, none⟩ = some g4 := G16.out.cell 4 rfl
      go_wp2_with fail
      refine (node.heldT_any (typed.er T) _ _ 1 (by omega) (by rw [← HN.out]; omega) G16.out.in_).mono ?_
      rw [← HN.out]
      rintro e w17 ⟨rfl, hb⟩
      have K17 : Hid (ArgK w w17 [v0, v1, v2, v3, v4, v5, v6, v7, v8, v9, v10] 28) := K16.out.on hb
      clear hb
      go_wp2
      go_ret
      exact ⟨rfl, K17.out.bel⟩
  · have hl : left (typed.wt T) 1048576 = -1 := by unfold left; rw [if_neg (by omega)]
    rw [hl]
    go_wp2
    go_ret
    exact ⟨rfl, K1.out.bel⟩

set_option maxRecDepth 100000 in
theorem lifted (os : Os) (started : os.Started) (H : Type) (enc : TypeId × Value → H) :
    ReturnsInHanded {} Try.checked os 3 .any (Rows.fnExactEraseSpec.pre6 enc Try.prog Try.f3 Rows.fnExactEraseRow.domain false) (Rows.fnExactEraseSpec.post enc Try.prog Try.f3 false true false false) := by
  refine returnsInHanded_of_change (C := Try.checked) own started (by kernel_rfl) Try.func3
    (ChangeSpec.witness6 (enc := enc) (C := Try.checked) false ⟨#[], #[.agg #[.int .i64 0, .int .i64 0, .string ⟨#[]⟩, .string ⟨#[]⟩, .int .i64 0, .int .i64 0, .string ⟨#[]⟩, .slice none 0 0, .slice none 0 0, .slice none 0 0, .slice none 0 0]], []⟩ 8 (by kernel_rfl) (by kernel_rfl) (by kernel_rfl) (by kernel_rfl)) ?_
  intro W base args ds gs before hval0 hW hcnd _
  have hval : ∀ (j : Nat) t v, Try.f3.params[j]? = some t → args[j]? = some v → Value.okWide Try.prog W .any base t v := hval0
  have hW' := hW
  obtain ⟨p, q, hA0, hV, rfl, hfz, hnd⟩ := hW
  have hA : DataW.TrodAll enc Try.prog W 0 (fun _ => true) true Try.f3.params.toList args.toList ds p := hA0
  rw [Try.params3] at hA hval
  obtain ⟨v0, vs0, d0, ds0, p0, q0, hargs, rfl, rfl, h0, r0⟩ := trodAll_cons hA
  obtain ⟨rfl, rfl, rfl⟩ := trodAll_nil r0
  obtain rfl : args = #[v0] := by cases args; simp_all
  obtain ⟨rfl, rfl⟩ := trodVars_none hV
  have k0 := h0
  have lt0 : ∀ x ∈ p0, x.block < W.heap.size := by obtain ⟨m, hm⟩ := k0; exact DataW.trod_lt m _ _ _ hm
  obtain ⟨cs, T, rfl, hT⟩ := typed.arg_typed (hval 0 28 v0 rfl rfl) h0
  clear hA0 hval0
  refine (walk cs T W hT).mono fun e W' ⟨he, bel⟩ => ?_
  subst he
  exact ⟨_, rfl, _, _, _, [], _, [], hW', trodAll_mk1 (shut_bool Try.underlying4 _), (trodAll_cons_mk (Below.trod laidOut (by kernel_rfl) (of_decide_eq_true (by kernel_rfl)) k0 bel lt0) trodAll_mk0), rfl, bel.frame _, fun h => by cases h⟩

theorem over : Rows.fnExactEraseRow.holds Try.pinned (OpenSpec.ofChange Rows.fnExactEraseSpec) :=
  OpenClaim.holds_of_wide 3 Try.f3 rfl rfl rfl rfl rfl rfl rfl ⟨rfl, rfl, rfl, rfl, rfl⟩ rfl rfl rfl rfl rfl (by kernel_rfl) Try.func3 (by kernel_rfl)
    (of_decide_eq_true (by kernel_rfl)) (by unfold Func.isWrapper; first | (rw [if_pos (by decide +kernel)]; kernel_rfl) | (rw [if_neg (by decide +kernel)]; exact ⟨rfl, rfl⟩))
    (fun os started H enc _ => lifted os started H enc)

/-- THE STATEMENT. -/
theorem proved : Rows.FnExactEraseSaid :=
  over
#print axioms proved
end Go.Proofs.Ytklcjjckelahcaa.fnExactErase
