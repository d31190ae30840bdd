/-
  The law's copies of a Vm and of slices of it: the same in new memory, all of it apart; nothing that was there is turned.
-/
import Derived.Laws.MakeOwn
import Derived.Deep.OwnRows
import Derived.Test.YtjofmoebijdccaaGreatB1
import Derived.Test.YtjofmoebijdccaaGreatB2
import Derived.Test.YtjofmoebijdccaaGreatB3
import Derived.Test.YtjofmoebijdccaaGreatB4
import Derived.Test.YtjofmoebijdccaaGreatB5
import Derived.Test.YtjofmoebijdccaaGreatB6
import Derived.Test.YtjofmoebijdccaaGreatB7
import Derived.Test.YtjofmoebijdccaaGreatB8
import Derived.Test.YtjofmoebijdccaaGreatB9
import Derived.Test.YtjofmoebijdccaaGreatB10
namespace Go.Proofs.YtjofmoebijdccaaGreat.vm
open Go.RowKit Go.Proofs.YtjofmoebijdccaaGreat.rose Go.Proofs.YtjofmoebijdccaaGreat
set_option linter.unusedVariables false

def ToPSays (T : VmD) : Prop := ∀ cs w, wt T ≤ 1048576 → vmSh.rep w (· < w.heap.size) cs T →
  Calls Tryz.prog 8 #[.agg cs.toArray] w fun e w' => (∃ cs', e = .returned (.agg cs'.toArray) ∧ vmSp.rep w' (fun b => w.heap.size ≤ b ∧ b < w'.heap.size) cs' T) ∧ Below w.heap.size w w'

set_option maxHeartbeats 2000000 in
theorem toP_any (T : VmD) : ToPSays T := by
  intro cs w hw h
  obtain ⟨x0, a0, c0, x1, u1_0, u1_1, u1_2, u1_3, x2, a2, c2, x3, a3, c3, x4, a4, c4, x5, x6, rfl, rfl, f0, f1, f2, f3, f4, f5⟩ := vm_open h
  have ou1_0 := heap.heapSh.one f1 u1_0 (by simp)
  have ou1_1 := heap.heapSh.one f1 u1_1 (by simp)
  have ou1_2 := heap.heapSh.one f1 u1_2 (by simp)
  have ou1_3 := heap.heapSh.one f1 u1_3 (by simp)
  clear h
  have q0 : x0.length + fun.wts x0 ≤ 1048576 := by simp [wt] at hw; omega
  have K0 : ∀ (w' : World), Below w.heap.size w w' → Calls Tryz.prog 24 #[.slice a0 x0.length c0] w' fun e w'' => (∃ v', e = .returned v' ∧ fun.funSp.sslice.rep w'' (fun b => w'.heap.size ≤ b ∧ b < w''.heap.size) [v'] x0) ∧ Below w'.heap.size w' w'' :=
    fun w' hb => fun.toPS_any x0 _ w' q0 (fun.funSh.slice.mono (fun.funSh.slice.below f0 hb) fun b hlt => Nat.lt_of_lt_of_le hlt hb.size)
  have q1 : heap.wt x1 ≤ 1048576 := by simp [wt] at hw; omega
  have K1 : ∀ (w' : World), Below w.heap.size w w' → Calls Tryz.prog 25 #[.agg #[u1_0, u1_1, u1_2, u1_3]] w' fun e w'' => (∃ cs', e = .returned (.agg cs'.toArray) ∧ heap.heapSp.rep w'' (fun b => w'.heap.size ≤ b ∧ b < w''.heap.size) cs' x1) ∧ Below w'.heap.size w' w'' :=
    fun w' hb => heap.toP_any x1 _ w' q1 (heap.heapSh.mono (heap.heapSh.below f1 hb) fun b hlt => Nat.lt_of_lt_of_le hlt hb.size)
  have q2 : x2.length ≤ 1048576 := by simp [wt] at hw; omega
  have K2 : ∀ (w' : World), Below w.heap.size w w' → Calls Tryz.prog 26 #[.slice a2 x2.length c2] w' fun e w'' => (∃ v', e = .returned v' ∧ Sh.int.sslice.rep w'' (fun b => w'.heap.size ≤ b ∧ b < w''.heap.size) [v'] x2) ∧ Below w'.heap.size w' w'' :=
    fun w' hb => ints.toPS_any x2 _ w' q2 (Sh.int.slice.mono (Sh.int.slice.below f2 hb) fun b hlt => Nat.lt_of_lt_of_le hlt hb.size)
  have q3 : x3.length ≤ 1048576 := by simp [wt] at hw; omega
  have K3 : ∀ (w' : World), Below w.heap.size w w' → Calls Tryz.prog 27 #[.slice a3 x3.length c3] w' fun e w'' => (∃ v', e = .returned v' ∧ call.callSp.sslice.rep w'' (fun b => w'.heap.size ≤ b ∧ b < w''.heap.size) [v'] x3) ∧ Below w'.heap.size w' w'' :=
    fun w' hb => call.toPS_any x3 _ w' q3 (call.callSh.slice.mono (call.callSh.slice.below f3 hb) fun b hlt => Nat.lt_of_lt_of_le hlt hb.size)
  have q4 : x4.length ≤ 1048576 := by simp [wt] at hw; omega
  have K4 : ∀ (w' : World), Below w.heap.size w w' → Calls Tryz.prog 26 #[.slice a4 x4.length c4] w' fun e w'' => (∃ v', e = .returned v' ∧ Sh.int.sslice.rep w'' (fun b => w'.heap.size ≤ b ∧ b < w''.heap.size) [v'] x4) ∧ Below w'.heap.size w' w'' :=
    fun w' hb => ints.toPS_any x4 _ w' q4 (Sh.int.slice.mono (Sh.int.slice.below f4 hb) fun b hlt => Nat.lt_of_lt_of_le hlt hb.size)
  clear hw f0 q0 f1 q1 f2 q2 f3 q3 f4 q4
  go_enter Tryz.func8, Tryz.ntmps8
  go_wp2_with fail
  refine (K0 _ ((((Below.refl _ _).alloc (Nat.le_refl _) _).alloc (by simp) _).alloc (by simp; omega) _)).mono ?_
  clear K0
  rintro e w1 ⟨⟨v', rfl, hrep⟩, hb⟩
  obtain ⟨a0', c0', e'⟩ := sslice_cells hrep
  cases e'
  have hz1 : w.heap.size + 3 ≤ w1.heap.size := by have := hb.size; simp at this; omega
  have hpA1 : w1.heap[w.heap.size]? = some (.cells #[.slice a0 x0.length c0, u1_0, u1_1, u1_2, u1_3, .slice a2 x2.length c2, .slice a3 x3.length c3, .slice a4 x4.length c4, .int .i64 x5, .bool x6] 29) := by
    rw [hb.block _ (by simp; omega), Below.heap_alloc _ _ _ (by simp; omega), Below.heap_alloc _ _ _ (by simp)]
    exact alloc_top _ _
  have hp11 : w1.heap[w.heap.size + 1]? = some (.cells #[.slice none 0 0, .slice none 0 0, .int .i64 0, .int .i64 0, .int .i64 0, .slice none 0 0, .slice none 0 0, .slice none 0 0, .int .i64 0, .bool false] 43) := by
    rw [hb.block _ (by simp), Below.heap_alloc _ _ _ (by simp)]
    have := alloc_top (w.alloc (.cells #[.slice a0 x0.length c0, u1_0, u1_1, u1_2, u1_3, .slice a2 x2.length c2, .slice a3 x3.length c3, .slice a4 x4.length c4, .int .i64 x5, .bool x6] 29)) (.cells #[.slice none 0 0, .slice none 0 0, .int .i64 0, .int .i64 0, .int .i64 0, .slice none 0 0, .slice none 0 0, .slice none 0 0, .int .i64 0, .bool false] 43)
    rwa [World.size_alloc] at this
  have hp21 : w1.heap[w.heap.size + 1 + 1]? = some (.cells #[.slice none 0 0, .slice none 0 0, .int .i64 0, .int .i64 0, .int .i64 0, .slice none 0 0, .slice none 0 0, .slice none 0 0, .int .i64 0, .bool false] 43) := by
    rw [hb.block _ (by simp)]
    have := alloc_top ((w.alloc (.cells #[.slice a0 x0.length c0, u1_0, u1_1, u1_2, u1_3, .slice a2 x2.length c2, .slice a3 x3.length c3, .slice a4 x4.length c4, .int .i64 x5, .bool x6] 29)).alloc (.cells #[.slice none 0 0, .slice none 0 0, .int .i64 0, .int .i64 0, .int .i64 0, .slice none 0 0, .slice none 0 0, .slice none 0 0, .int .i64 0, .bool false] 43)) (.cells #[.slice none 0 0, .slice none 0 0, .int .i64 0, .int .i64 0, .int .i64 0, .slice none 0 0, .slice none 0 0, .slice none 0 0, .int .i64 0, .bool false] 43)
    rwa [World.size_alloc, World.size_alloc] at this
  have HB1 : Hid (Below w.heap.size w w1) := ((((Below.refl _ _).alloc (Nat.le_refl _) _).alloc (by simp) _).alloc (by simp; omega) _).trans (hb.mono (by simp; omega))
  have R0_1 : Hid (fun.funSp.sslice.rep w1 (fun b => w.heap.size + 3 ≤ b ∧ b < w1.heap.size) [.slice a0' x0.length c0'] x0) := fun.funSp.sslice.mono hrep fun b hS => ⟨by have := hS.1; simp at this; omega, hS.2⟩
  clear hrep hb
  have ca1_1 : w1.cell? ⟨w.heap.size, 1, none⟩ = some (u1_0) := by simp [World.cell?, hpA1]
  have ca1_2 : w1.cell? ⟨w.heap.size, 2, none⟩ = some (u1_1) := by simp [World.cell?, hpA1]
  have ca1_3 : w1.cell? ⟨w.heap.size, 3, none⟩ = some (u1_2) := by simp [World.cell?, hpA1]
  have ca1_4 : w1.cell? ⟨w.heap.size, 4, none⟩ = some (u1_3) := by simp [World.cell?, hpA1]
  have ca1_5 : w1.cell? ⟨w.heap.size, 5, none⟩ = some (.slice a2 x2.length c2) := by simp [World.cell?, hpA1]
  have ca1_6 : w1.cell? ⟨w.heap.size, 6, none⟩ = some (.slice a3 x3.length c3) := by simp [World.cell?, hpA1]
  have ca1_7 : w1.cell? ⟨w.heap.size, 7, none⟩ = some (.slice a4 x4.length c4) := by simp [World.cell?, hpA1]
  have ca1_8 : w1.cell? ⟨w.heap.size, 8, none⟩ = some (.int .i64 x5) := by simp [World.cell?, hpA1]
  have ca1_9 : w1.cell? ⟨w.heap.size, 9, none⟩ = some (.bool x6) := by simp [World.cell?, hpA1]
  have cr1_0 : w1.cell? ⟨w.heap.size + 1, 0, none⟩ = some (.slice none 0 0) := by simp [World.cell?, hp11]
  have cr1_1 : w1.cell? ⟨w.heap.size + 1, 1, none⟩ = some (.slice none 0 0) := by simp [World.cell?, hp11]
  have cr1_2 : w1.cell? ⟨w.heap.size + 1, 2, none⟩ = some (.int .i64 0) := by simp [World.cell?, hp11]
  have cr1_3 : w1.cell? ⟨w.heap.size + 1, 3, none⟩ = some (.int .i64 0) := by simp [World.cell?, hp11]
  have cr1_4 : w1.cell? ⟨w.heap.size + 1, 4, none⟩ = some (.int .i64 0) := by simp [World.cell?, hp11]
  have cr1_5 : w1.cell? ⟨w.heap.size + 1, 5, none⟩ = some (.slice none 0 0) := by simp [World.cell?, hp11]
  have cr1_6 : w1.cell? ⟨w.heap.size + 1, 6, none⟩ = some (.slice none 0 0) := by simp [World.cell?, hp11]
  have cr1_7 : w1.cell? ⟨w.heap.size + 1, 7, none⟩ = some (.slice none 0 0) := by simp [World.cell?, hp11]
  have cr1_8 : w1.cell? ⟨w.heap.size + 1, 8, none⟩ = some (.int .i64 0) := by simp [World.cell?, hp11]
  have cr1_9 : w1.cell? ⟨w.heap.size + 1, 9, none⟩ = some (.bool false) := by simp [World.cell?, hp11]
  have fr1 : ∀ o, w1.frozen? ⟨w.heap.size + 1, o, none⟩ = false := fun o => by simp [World.frozen?, hp11]
  have co1_0 : w1.cell? ⟨w.heap.size + 1 + 1, 0, none⟩ = some (.slice none 0 0) := by simp [World.cell?, hp21]
  have co1_1 : w1.cell? ⟨w.heap.size + 1 + 1, 1, none⟩ = some (.slice none 0 0) := by simp [World.cell?, hp21]
  have co1_2 : w1.cell? ⟨w.heap.size + 1 + 1, 2, none⟩ = some (.int .i64 0) := by simp [World.cell?, hp21]
  have co1_3 : w1.cell? ⟨w.heap.size + 1 + 1, 3, none⟩ = some (.int .i64 0) := by simp [World.cell?, hp21]
  have co1_4 : w1.cell? ⟨w.heap.size + 1 + 1, 4, none⟩ = some (.int .i64 0) := by simp [World.cell?, hp21]
  have co1_5 : w1.cell? ⟨w.heap.size + 1 + 1, 5, none⟩ = some (.slice none 0 0) := by simp [World.cell?, hp21]
  have co1_6 : w1.cell? ⟨w.heap.size + 1 + 1, 6, none⟩ = some (.slice none 0 0) := by simp [World.cell?, hp21]
  have co1_7 : w1.cell? ⟨w.heap.size + 1 + 1, 7, none⟩ = some (.slice none 0 0) := by simp [World.cell?, hp21]
  have co1_8 : w1.cell? ⟨w.heap.size + 1 + 1, 8, none⟩ = some (.int .i64 0) := by simp [World.cell?, hp21]
  have co1_9 : w1.cell? ⟨w.heap.size + 1 + 1, 9, none⟩ = some (.bool false) := by simp [World.cell?, hp21]
  have fo1 : ∀ o, w1.frozen? ⟨w.heap.size + 1 + 1, o, none⟩ = false := fun o => by simp [World.frozen?, hp21]
  go_wp2_with fail
  refine (K1 _ (by repeat first | with_reducible exact HB1.out | (refine Below.setCell ?_ (by first | (simp; done) | (simp; omega)) _))).mono ?_
  clear K1
  rintro e w2 ⟨⟨cs', rfl, hrep⟩, hb⟩
  obtain ⟨u1_0', u1_1', u1_2', u1_3', rfl⟩ := heap.heap_list (heap.heapp_rep hrep)
  have ou1_0' := heap.heapSp.one hrep u1_0' (by simp)
  have ou1_1' := heap.heapSp.one hrep u1_1' (by simp)
  have ou1_2' := heap.heapSp.one hrep u1_2' (by simp)
  have ou1_3' := heap.heapSp.one hrep u1_3' (by simp)
  have sou1_0' := fun (a : Addr) (m : Mode) (w : World) => run_store Tryz.prog w a u1_0' m ou1_0'
  have sou1_1' := fun (a : Addr) (m : Mode) (w : World) => run_store Tryz.prog w a u1_1' m ou1_1'
  have sou1_2' := fun (a : Addr) (m : Mode) (w : World) => run_store Tryz.prog w a u1_2' m ou1_2'
  have sou1_3' := fun (a : Addr) (m : Mode) (w : World) => run_store Tryz.prog w a u1_3' m ou1_3'
  have hs2 : w1.heap.size ≤ w2.heap.size := by have := hb.size; simp [World.setCell] at this; exact this
  have hz2 : w.heap.size + 3 ≤ w2.heap.size := Nat.le_trans hz1 hs2
  have hpA2 : w2.heap[w.heap.size]? = some (.cells #[.slice a0 x0.length c0, u1_0, u1_1, u1_2, u1_3, .slice a2 x2.length c2, .slice a3 x3.length c3, .slice a4 x4.length c4, .int .i64 x5, .bool x6] 29) := by
    rw [hb.block _ (by simp [World.setCell]; omega)]
    repeat rw [Below.heap_setCell _ _ _ _ (by first | (simp; done) | (simp; omega))]
    exact hpA1
  have hp12 : w2.heap[w.heap.size + 1]? = some (.cells #[.slice none 0 0, .slice none 0 0, .int .i64 0, .int .i64 0, .int .i64 0, .slice none 0 0, .slice none 0 0, .slice none 0 0, .int .i64 0, .bool false] 43) := by
    rw [hb.block _ (by simp [World.setCell]; omega)]
    repeat rw [Below.heap_setCell _ _ _ _ (by first | (simp; done) | (simp; omega))]
    exact hp11
  have hp22 : w2.heap[w.heap.size + 1 + 1]? = some (.cells #[.slice a0' x0.length c0', .slice none 0 0, .int .i64 0, .int .i64 0, .int .i64 0, .slice none 0 0, .slice none 0 0, .slice none 0 0, .int .i64 0, .bool false] 43) := by
    rw [hb.block _ (by simp [World.setCell]; omega)]
    simp [World.setCell, Array.getElem?_modify, hp21]
  have HB2 : Hid (Below w.heap.size w w2) := Below.trans (by repeat first | with_reducible exact HB1.out | (refine Below.setCell ?_ (by first | (simp; done) | (simp; omega)) _)) (hb.mono (by simp [World.setCell]; omega))
  have R1_2 : Hid (heap.heapSp.rep w2 (fun b => w1.heap.size ≤ b ∧ b < w2.heap.size) [u1_0', u1_1', u1_2', u1_3'] x1) := heap.heapSp.mono hrep fun b hS => ⟨by have := hS.1; simp [World.setCell] at this; omega, hS.2⟩
  have R0_2 : Hid (fun.funSp.sslice.rep w2 (fun b => w.heap.size + 3 ≤ b ∧ b < w1.heap.size) [.slice a0' x0.length c0'] x0) := fun.funSp.sslice.on R0_1.out fun b hS => (hb.block b (by simp [World.setCell]; omega)).trans (by repeat rw [Below.heap_setCell _ _ _ _ (by simp; omega)])
  clear R0_1
  clear HB1 hpA1 hp11 hp21
  clear hrep hb
  clear ca1_1 ca1_2 ca1_3 ca1_4 ca1_5 ca1_6 ca1_7 ca1_8 ca1_9 cr1_0 cr1_1 cr1_2 cr1_3 cr1_4 cr1_5 cr1_6 cr1_7 cr1_8 cr1_9 fr1 co1_0 co1_1 co1_2 co1_3 co1_4 co1_5 co1_6 co1_7 co1_8 co1_9 fo1
  have ca2_5 : w2.cell? ⟨w.heap.size, 5, none⟩ = some (.slice a2 x2.length c2) := by simp [World.cell?, hpA2]
  have ca2_6 : w2.cell? ⟨w.heap.size, 6, none⟩ = some (.slice a3 x3.length c3) := by simp [World.cell?, hpA2]
  have ca2_7 : w2.cell? ⟨w.heap.size, 7, none⟩ = some (.slice a4 x4.length c4) := by simp [World.cell?, hpA2]
  have ca2_8 : w2.cell? ⟨w.heap.size, 8, none⟩ = some (.int .i64 x5) := by simp [World.cell?, hpA2]
  have ca2_9 : w2.cell? ⟨w.heap.size, 9, none⟩ = some (.bool x6) := by simp [World.cell?, hpA2]
  have cr2_0 : w2.cell? ⟨w.heap.size + 1, 0, none⟩ = some (.slice none 0 0) := by simp [World.cell?, hp12]
  have cr2_1 : w2.cell? ⟨w.heap.size + 1, 1, none⟩ = some (.slice none 0 0) := by simp [World.cell?, hp12]
  have cr2_2 : w2.cell? ⟨w.heap.size + 1, 2, none⟩ = some (.int .i64 0) := by simp [World.cell?, hp12]
  have cr2_3 : w2.cell? ⟨w.heap.size + 1, 3, none⟩ = some (.int .i64 0) := by simp [World.cell?, hp12]
  have cr2_4 : w2.cell? ⟨w.heap.size + 1, 4, none⟩ = some (.int .i64 0) := by simp [World.cell?, hp12]
  have cr2_5 : w2.cell? ⟨w.heap.size + 1, 5, none⟩ = some (.slice none 0 0) := by simp [World.cell?, hp12]
  have cr2_6 : w2.cell? ⟨w.heap.size + 1, 6, none⟩ = some (.slice none 0 0) := by simp [World.cell?, hp12]
  have cr2_7 : w2.cell? ⟨w.heap.size + 1, 7, none⟩ = some (.slice none 0 0) := by simp [World.cell?, hp12]
  have cr2_8 : w2.cell? ⟨w.heap.size + 1, 8, none⟩ = some (.int .i64 0) := by simp [World.cell?, hp12]
  have cr2_9 : w2.cell? ⟨w.heap.size + 1, 9, none⟩ = some (.bool false) := by simp [World.cell?, hp12]
  have fr2 : ∀ o, w2.frozen? ⟨w.heap.size + 1, o, none⟩ = false := fun o => by simp [World.frozen?, hp12]
  have co2_0 : w2.cell? ⟨w.heap.size + 1 + 1, 0, none⟩ = some (.slice a0' x0.length c0') := by simp [World.cell?, hp22]
  have co2_1 : w2.cell? ⟨w.heap.size + 1 + 1, 1, none⟩ = some (.slice none 0 0) := by simp [World.cell?, hp22]
  have co2_2 : w2.cell? ⟨w.heap.size + 1 + 1, 2, none⟩ = some (.int .i64 0) := by simp [World.cell?, hp22]
  have co2_3 : w2.cell? ⟨w.heap.size + 1 + 1, 3, none⟩ = some (.int .i64 0) := by simp [World.cell?, hp22]
  have co2_4 : w2.cell? ⟨w.heap.size + 1 + 1, 4, none⟩ = some (.int .i64 0) := by simp [World.cell?, hp22]
  have co2_5 : w2.cell? ⟨w.heap.size + 1 + 1, 5, none⟩ = some (.slice none 0 0) := by simp [World.cell?, hp22]
  have co2_6 : w2.cell? ⟨w.heap.size + 1 + 1, 6, none⟩ = some (.slice none 0 0) := by simp [World.cell?, hp22]
  have co2_7 : w2.cell? ⟨w.heap.size + 1 + 1, 7, none⟩ = some (.slice none 0 0) := by simp [World.cell?, hp22]
  have co2_8 : w2.cell? ⟨w.heap.size + 1 + 1, 8, none⟩ = some (.int .i64 0) := by simp [World.cell?, hp22]
  have co2_9 : w2.cell? ⟨w.heap.size + 1 + 1, 9, none⟩ = some (.bool false) := by simp [World.cell?, hp22]
  have fo2 : ∀ o, w2.frozen? ⟨w.heap.size + 1 + 1, o, none⟩ = false := fun o => by simp [World.frozen?, hp22]
  go_wp2_with fail
  refine (K2 _ (by repeat first | with_reducible exact HB2.out | (refine Below.setCell ?_ (by first | (simp; done) | (simp; omega)) _))).mono ?_
  clear K2
  rintro e w3 ⟨⟨v', rfl, hrep⟩, hb⟩
  obtain ⟨a2', c2', e'⟩ := sslice_cells hrep
  cases e'
  have hs3 : w2.heap.size ≤ w3.heap.size := by have := hb.size; simp [World.setCell] at this; exact this
  have hz3 : w.heap.size + 3 ≤ w3.heap.size := Nat.le_trans hz2 hs3
  have hpA3 : w3.heap[w.heap.size]? = some (.cells #[.slice a0 x0.length c0, u1_0, u1_1, u1_2, u1_3, .slice a2 x2.length c2, .slice a3 x3.length c3, .slice a4 x4.length c4, .int .i64 x5, .bool x6] 29) := by
    rw [hb.block _ (by simp [World.setCell]; omega)]
    repeat rw [Below.heap_setCell _ _ _ _ (by first | (simp; done) | (simp; omega))]
    exact hpA2
  have hp13 : w3.heap[w.heap.size + 1]? = some (.cells #[.slice none 0 0, .slice none 0 0, .int .i64 0, .int .i64 0, .int .i64 0, .slice none 0 0, .slice none 0 0, .slice none 0 0, .int .i64 0, .bool false] 43) := by
    rw [hb.block _ (by simp [World.setCell]; omega)]
    repeat rw [Below.heap_setCell _ _ _ _ (by first | (simp; done) | (simp; omega))]
    exact hp12
  have hp23 : w3.heap[w.heap.size + 1 + 1]? = some (.cells #[.slice a0' x0.length c0', u1_0', u1_1', u1_2', u1_3', .slice none 0 0, .slice none 0 0, .slice none 0 0, .int .i64 0, .bool false] 43) := by
    rw [hb.block _ (by simp [World.setCell]; omega)]
    simp [World.setCell, Array.getElem?_modify, hp22]
  have HB3 : Hid (Below w.heap.size w w3) := Below.trans (by repeat first | with_reducible exact HB2.out | (refine Below.setCell ?_ (by first | (simp; done) | (simp; omega)) _)) (hb.mono (by simp [World.setCell]; omega))
  have R2_3 : Hid (Sh.int.sslice.rep w3 (fun b => w2.heap.size ≤ b ∧ b < w3.heap.size) [.slice a2' x2.length c2'] x2) := Sh.int.sslice.mono hrep fun b hS => ⟨by have := hS.1; simp [World.setCell] at this; omega, hS.2⟩
  have R0_3 : Hid (fun.funSp.sslice.rep w3 (fun b => w.heap.size + 3 ≤ b ∧ b < w1.heap.size) [.slice a0' x0.length c0'] x0) := fun.funSp.sslice.on R0_2.out fun b hS => (hb.block b (by simp [World.setCell]; omega)).trans (by repeat rw [Below.heap_setCell _ _ _ _ (by simp; omega)])
  have R1_3 : Hid (heap.heapSp.rep w3 (fun b => w1.heap.size ≤ b ∧ b < w2.heap.size) [u1_0', u1_1', u1_2', u1_3'] x1) := heap.heapSp.on R1_2.out fun b hS => (hb.block b (by simp [World.setCell]; omega)).trans (by repeat rw [Below.heap_setCell _ _ _ _ (by simp; omega)])
  clear R0_2 R1_2
  clear HB2 hpA2 hp12 hp22
  clear hrep hb
  clear ca2_5 ca2_6 ca2_7 ca2_8 ca2_9 cr2_0 cr2_1 cr2_2 cr2_3 cr2_4 cr2_5 cr2_6 cr2_7 cr2_8 cr2_9 fr2 co2_0 co2_1 co2_2 co2_3 co2_4 co2_5 co2_6 co2_7 co2_8 co2_9 fo2
  have ca3_6 : w3.cell? ⟨w.heap.size, 6, none⟩ = some (.slice a3 x3.length c3) := by simp [World.cell?, hpA3]
  have ca3_7 : w3.cell? ⟨w.heap.size, 7, none⟩ = some (.slice a4 x4.length c4) := by simp [World.cell?, hpA3]
  have ca3_8 : w3.cell? ⟨w.heap.size, 8, none⟩ = some (.int .i64 x5) := by simp [World.cell?, hpA3]
  have ca3_9 : w3.cell? ⟨w.heap.size, 9, none⟩ = some (.bool x6) := by simp [World.cell?, hpA3]
  have cr3_0 : w3.cell? ⟨w.heap.size + 1, 0, none⟩ = some (.slice none 0 0) := by simp [World.cell?, hp13]
  have cr3_1 : w3.cell? ⟨w.heap.size + 1, 1, none⟩ = some (.slice none 0 0) := by simp [World.cell?, hp13]
  have cr3_2 : w3.cell? ⟨w.heap.size + 1, 2, none⟩ = some (.int .i64 0) := by simp [World.cell?, hp13]
  have cr3_3 : w3.cell? ⟨w.heap.size + 1, 3, none⟩ = some (.int .i64 0) := by simp [World.cell?, hp13]
  have cr3_4 : w3.cell? ⟨w.heap.size + 1, 4, none⟩ = some (.int .i64 0) := by simp [World.cell?, hp13]
  have cr3_5 : w3.cell? ⟨w.heap.size + 1, 5, none⟩ = some (.slice none 0 0) := by simp [World.cell?, hp13]
  have cr3_6 : w3.cell? ⟨w.heap.size + 1, 6, none⟩ = some (.slice none 0 0) := by simp [World.cell?, hp13]
  have cr3_7 : w3.cell? ⟨w.heap.size + 1, 7, none⟩ = some (.slice none 0 0) := by simp [World.cell?, hp13]
  have cr3_8 : w3.cell? ⟨w.heap.size + 1, 8, none⟩ = some (.int .i64 0) := by simp [World.cell?, hp13]
  have cr3_9 : w3.cell? ⟨w.heap.size + 1, 9, none⟩ = some (.bool false) := by simp [World.cell?, hp13]
  have fr3 : ∀ o, w3.frozen? ⟨w.heap.size + 1, o, none⟩ = false := fun o => by simp [World.frozen?, hp13]
  have co3_0 : w3.cell? ⟨w.heap.size + 1 + 1, 0, none⟩ = some (.slice a0' x0.length c0') := by simp [World.cell?, hp23]
  have co3_1 : w3.cell? ⟨w.heap.size + 1 + 1, 1, none⟩ = some (u1_0') := by simp [World.cell?, hp23]
  have co3_2 : w3.cell? ⟨w.heap.size + 1 + 1, 2, none⟩ = some (u1_1') := by simp [World.cell?, hp23]
  have co3_3 : w3.cell? ⟨w.heap.size + 1 + 1, 3, none⟩ = some (u1_2') := by simp [World.cell?, hp23]
  have co3_4 : w3.cell? ⟨w.heap.size + 1 + 1, 4, none⟩ = some (u1_3') := by simp [World.cell?, hp23]
  have co3_5 : w3.cell? ⟨w.heap.size + 1 + 1, 5, none⟩ = some (.slice none 0 0) := by simp [World.cell?, hp23]
  have co3_6 : w3.cell? ⟨w.heap.size + 1 + 1, 6, none⟩ = some (.slice none 0 0) := by simp [World.cell?, hp23]
  have co3_7 : w3.cell? ⟨w.heap.size + 1 + 1, 7, none⟩ = some (.slice none 0 0) := by simp [World.cell?, hp23]
  have co3_8 : w3.cell? ⟨w.heap.size + 1 + 1, 8, none⟩ = some (.int .i64 0) := by simp [World.cell?, hp23]
  have co3_9 : w3.cell? ⟨w.heap.size + 1 + 1, 9, none⟩ = some (.bool false) := by simp [World.cell?, hp23]
  have fo3 : ∀ o, w3.frozen? ⟨w.heap.size + 1 + 1, o, none⟩ = false := fun o => by simp [World.frozen?, hp23]
  go_wp2_with fail
  refine (K3 _ (by repeat first | with_reducible exact HB3.out | (refine Below.setCell ?_ (by first | (simp; done) | (simp; omega)) _))).mono ?_
  clear K3
  rintro e w4 ⟨⟨v', rfl, hrep⟩, hb⟩
  obtain ⟨a3', c3', e'⟩ := sslice_cells hrep
  cases e'
  have hs4 : w3.heap.size ≤ w4.heap.size := by have := hb.size; simp [World.setCell] at this; exact this
  have hz4 : w.heap.size + 3 ≤ w4.heap.size := Nat.le_trans hz3 hs4
  have hpA4 : w4.heap[w.heap.size]? = some (.cells #[.slice a0 x0.length c0, u1_0, u1_1, u1_2, u1_3, .slice a2 x2.length c2, .slice a3 x3.length c3, .slice a4 x4.length c4, .int .i64 x5, .bool x6] 29) := by
    rw [hb.block _ (by simp [World.setCell]; omega)]
    repeat rw [Below.heap_setCell _ _ _ _ (by first | (simp; done) | (simp; omega))]
    exact hpA3
  have hp14 : w4.heap[w.heap.size + 1]? = some (.cells #[.slice none 0 0, .slice none 0 0, .int .i64 0, .int .i64 0, .int .i64 0, .slice none 0 0, .slice none 0 0, .slice none 0 0, .int .i64 0, .bool false] 43) := by
    rw [hb.block _ (by simp [World.setCell]; omega)]
    repeat rw [Below.heap_setCell _ _ _ _ (by first | (simp; done) | (simp; omega))]
    exact hp13
  have hp24 : w4.heap[w.heap.size + 1 + 1]? = some (.cells #[.slice a0' x0.length c0', u1_0', u1_1', u1_2', u1_3', .slice a2' x2.length c2', .slice none 0 0, .slice none 0 0, .int .i64 0, .bool false] 43) := by
    rw [hb.block _ (by simp [World.setCell]; omega)]
    simp [World.setCell, Array.getElem?_modify, hp23]
  have HB4 : Hid (Below w.heap.size w w4) := Below.trans (by repeat first | with_reducible exact HB3.out | (refine Below.setCell ?_ (by first | (simp; done) | (simp; omega)) _)) (hb.mono (by simp [World.setCell]; omega))
  have R3_4 : Hid (call.callSp.sslice.rep w4 (fun b => w3.heap.size ≤ b ∧ b < w4.heap.size) [.slice a3' x3.length c3'] x3) := call.callSp.sslice.mono hrep fun b hS => ⟨by have := hS.1; simp [World.setCell] at this; omega, hS.2⟩
  have R0_4 : Hid (fun.funSp.sslice.rep w4 (fun b => w.heap.size + 3 ≤ b ∧ b < w1.heap.size) [.slice a0' x0.length c0'] x0) := fun.funSp.sslice.on R0_3.out fun b hS => (hb.block b (by simp [World.setCell]; omega)).trans (by repeat rw [Below.heap_setCell _ _ _ _ (by simp; omega)])
  have R1_4 : Hid (heap.heapSp.rep w4 (fun b => w1.heap.size ≤ b ∧ b < w2.heap.size) [u1_0', u1_1', u1_2', u1_3'] x1) := heap.heapSp.on R1_3.out fun b hS => (hb.block b (by simp [World.setCell]; omega)).trans (by repeat rw [Below.heap_setCell _ _ _ _ (by simp; omega)])
  have R2_4 : Hid (Sh.int.sslice.rep w4 (fun b => w2.heap.size ≤ b ∧ b < w3.heap.size) [.slice a2' x2.length c2'] x2) := Sh.int.sslice.on R2_3.out fun b hS => (hb.block b (by simp [World.setCell]; omega)).trans (by repeat rw [Below.heap_setCell _ _ _ _ (by simp; omega)])
  clear R0_3 R1_3 R2_3
  clear HB3 hpA3 hp13 hp23
  clear hrep hb
  clear ca3_6 ca3_7 ca3_8 ca3_9 cr3_0 cr3_1 cr3_2 cr3_3 cr3_4 cr3_5 cr3_6 cr3_7 cr3_8 cr3_9 fr3 co3_0 co3_1 co3_2 co3_3 co3_4 co3_5 co3_6 co3_7 co3_8 co3_9 fo3
  have ca4_7 : w4.cell? ⟨w.heap.size, 7, none⟩ = some (.slice a4 x4.length c4) := by simp [World.cell?, hpA4]
  have ca4_8 : w4.cell? ⟨w.heap.size, 8, none⟩ = some (.int .i64 x5) := by simp [World.cell?, hpA4]
  have ca4_9 : w4.cell? ⟨w.heap.size, 9, none⟩ = some (.bool x6) := by simp [World.cell?, hpA4]
  have cr4_0 : w4.cell? ⟨w.heap.size + 1, 0, none⟩ = some (.slice none 0 0) := by simp [World.cell?, hp14]
  have cr4_1 : w4.cell? ⟨w.heap.size + 1, 1, none⟩ = some (.slice none 0 0) := by simp [World.cell?, hp14]
  have cr4_2 : w4.cell? ⟨w.heap.size + 1, 2, none⟩ = some (.int .i64 0) := by simp [World.cell?, hp14]
  have cr4_3 : w4.cell? ⟨w.heap.size + 1, 3, none⟩ = some (.int .i64 0) := by simp [World.cell?, hp14]
  have cr4_4 : w4.cell? ⟨w.heap.size + 1, 4, none⟩ = some (.int .i64 0) := by simp [World.cell?, hp14]
  have cr4_5 : w4.cell? ⟨w.heap.size + 1, 5, none⟩ = some (.slice none 0 0) := by simp [World.cell?, hp14]
  have cr4_6 : w4.cell? ⟨w.heap.size + 1, 6, none⟩ = some (.slice none 0 0) := by simp [World.cell?, hp14]
  have cr4_7 : w4.cell? ⟨w.heap.size + 1, 7, none⟩ = some (.slice none 0 0) := by simp [World.cell?, hp14]
  have cr4_8 : w4.cell? ⟨w.heap.size + 1, 8, none⟩ = some (.int .i64 0) := by simp [World.cell?, hp14]
  have cr4_9 : w4.cell? ⟨w.heap.size + 1, 9, none⟩ = some (.bool false) := by simp [World.cell?, hp14]
  have fr4 : ∀ o, w4.frozen? ⟨w.heap.size + 1, o, none⟩ = false := fun o => by simp [World.frozen?, hp14]
  have co4_0 : w4.cell? ⟨w.heap.size + 1 + 1, 0, none⟩ = some (.slice a0' x0.length c0') := by simp [World.cell?, hp24]
  have co4_1 : w4.cell? ⟨w.heap.size + 1 + 1, 1, none⟩ = some (u1_0') := by simp [World.cell?, hp24]
  have co4_2 : w4.cell? ⟨w.heap.size + 1 + 1, 2, none⟩ = some (u1_1') := by simp [World.cell?, hp24]
  have co4_3 : w4.cell? ⟨w.heap.size + 1 + 1, 3, none⟩ = some (u1_2') := by simp [World.cell?, hp24]
  have co4_4 : w4.cell? ⟨w.heap.size + 1 + 1, 4, none⟩ = some (u1_3') := by simp [World.cell?, hp24]
  have co4_5 : w4.cell? ⟨w.heap.size + 1 + 1, 5, none⟩ = some (.slice a2' x2.length c2') := by simp [World.cell?, hp24]
  have co4_6 : w4.cell? ⟨w.heap.size + 1 + 1, 6, none⟩ = some (.slice none 0 0) := by simp [World.cell?, hp24]
  have co4_7 : w4.cell? ⟨w.heap.size + 1 + 1, 7, none⟩ = some (.slice none 0 0) := by simp [World.cell?, hp24]
  have co4_8 : w4.cell? ⟨w.heap.size + 1 + 1, 8, none⟩ = some (.int .i64 0) := by simp [World.cell?, hp24]
  have co4_9 : w4.cell? ⟨w.heap.size + 1 + 1, 9, none⟩ = some (.bool false) := by simp [World.cell?, hp24]
  have fo4 : ∀ o, w4.frozen? ⟨w.heap.size + 1 + 1, o, none⟩ = false := fun o => by simp [World.frozen?, hp24]
  go_wp2_with fail
  refine (K4 _ (by repeat first | with_reducible exact HB4.out | (refine Below.setCell ?_ (by first | (simp; done) | (simp; omega)) _))).mono ?_
  clear K4
  rintro e w5 ⟨⟨v', rfl, hrep⟩, hb⟩
  obtain ⟨a4', c4', e'⟩ := sslice_cells hrep
  cases e'
  have hs5 : w4.heap.size ≤ w5.heap.size := by have := hb.size; simp [World.setCell] at this; exact this
  have hz5 : w.heap.size + 3 ≤ w5.heap.size := Nat.le_trans hz4 hs5
  have hpA5 : w5.heap[w.heap.size]? = some (.cells #[.slice a0 x0.length c0, u1_0, u1_1, u1_2, u1_3, .slice a2 x2.length c2, .slice a3 x3.length c3, .slice a4 x4.length c4, .int .i64 x5, .bool x6] 29) := by
    rw [hb.block _ (by simp [World.setCell]; omega)]
    repeat rw [Below.heap_setCell _ _ _ _ (by first | (simp; done) | (simp; omega))]
    exact hpA4
  have hp15 : w5.heap[w.heap.size + 1]? = some (.cells #[.slice none 0 0, .slice none 0 0, .int .i64 0, .int .i64 0, .int .i64 0, .slice none 0 0, .slice none 0 0, .slice none 0 0, .int .i64 0, .bool false] 43) := by
    rw [hb.block _ (by simp [World.setCell]; omega)]
    repeat rw [Below.heap_setCell _ _ _ _ (by first | (simp; done) | (simp; omega))]
    exact hp14
  have hp25 : w5.heap[w.heap.size + 1 + 1]? = some (.cells #[.slice a0' x0.length c0', u1_0', u1_1', u1_2', u1_3', .slice a2' x2.length c2', .slice a3' x3.length c3', .slice none 0 0, .int .i64 0, .bool false] 43) := by
    rw [hb.block _ (by simp [World.setCell]; omega)]
    simp [World.setCell, Array.getElem?_modify, hp24]
  have HB5 : Hid (Below w.heap.size w w5) := Below.trans (by repeat first | with_reducible exact HB4.out | (refine Below.setCell ?_ (by first | (simp; done) | (simp; omega)) _)) (hb.mono (by simp [World.setCell]; omega))
  have R4_5 : Hid (Sh.int.sslice.rep w5 (fun b => w4.heap.size ≤ b ∧ b < w5.heap.size) [.slice a4' x4.length c4'] x4) := Sh.int.sslice.mono hrep fun b hS => ⟨by have := hS.1; simp [World.setCell] at this; omega, hS.2⟩
  have R0_5 : Hid (fun.funSp.sslice.rep w5 (fun b => w.heap.size + 3 ≤ b ∧ b < w1.heap.size) [.slice a0' x0.length c0'] x0) := fun.funSp.sslice.on R0_4.out fun b hS => (hb.block b (by simp [World.setCell]; omega)).trans (by repeat rw [Below.heap_setCell _ _ _ _ (by simp; omega)])
  have R1_5 : Hid (heap.heapSp.rep w5 (fun b => w1.heap.size ≤ b ∧ b < w2.heap.size) [u1_0', u1_1', u1_2', u1_3'] x1) := heap.heapSp.on R1_4.out fun b hS => (hb.block b (by simp [World.setCell]; omega)).trans (by repeat rw [Below.heap_setCell _ _ _ _ (by simp; omega)])
  have R2_5 : Hid (Sh.int.sslice.rep w5 (fun b => w2.heap.size ≤ b ∧ b < w3.heap.size) [.slice a2' x2.length c2'] x2) := Sh.int.sslice.on R2_4.out fun b hS => (hb.block b (by simp [World.setCell]; omega)).trans (by repeat rw [Below.heap_setCell _ _ _ _ (by simp; omega)])
  have R3_5 : Hid (call.callSp.sslice.rep w5 (fun b => w3.heap.size ≤ b ∧ b < w4.heap.size) [.slice a3' x3.length c3'] x3) := call.callSp.sslice.on R3_4.out fun b hS => (hb.block b (by simp [World.setCell]; omega)).trans (by repeat rw [Below.heap_setCell _ _ _ _ (by simp; omega)])
  clear R0_4 R1_4 R2_4 R3_4
  clear HB4 hpA4 hp14 hp24
  clear hrep hb
  clear ca4_7 ca4_8 ca4_9 cr4_0 cr4_1 cr4_2 cr4_3 cr4_4 cr4_5 cr4_6 cr4_7 cr4_8 cr4_9 fr4 co4_0 co4_1 co4_2 co4_3 co4_4 co4_5 co4_6 co4_7 co4_8 co4_9 fo4
  have ca5_8 : w5.cell? ⟨w.heap.size, 8, none⟩ = some (.int .i64 x5) := by simp [World.cell?, hpA5]
  have ca5_9 : w5.cell? ⟨w.heap.size, 9, none⟩ = some (.bool x6) := by simp [World.cell?, hpA5]
  have cr5_0 : w5.cell? ⟨w.heap.size + 1, 0, none⟩ = some (.slice none 0 0) := by simp [World.cell?, hp15]
  have cr5_1 : w5.cell? ⟨w.heap.size + 1, 1, none⟩ = some (.slice none 0 0) := by simp [World.cell?, hp15]
  have cr5_2 : w5.cell? ⟨w.heap.size + 1, 2, none⟩ = some (.int .i64 0) := by simp [World.cell?, hp15]
  have cr5_3 : w5.cell? ⟨w.heap.size + 1, 3, none⟩ = some (.int .i64 0) := by simp [World.cell?, hp15]
  have cr5_4 : w5.cell? ⟨w.heap.size + 1, 4, none⟩ = some (.int .i64 0) := by simp [World.cell?, hp15]
  have cr5_5 : w5.cell? ⟨w.heap.size + 1, 5, none⟩ = some (.slice none 0 0) := by simp [World.cell?, hp15]
  have cr5_6 : w5.cell? ⟨w.heap.size + 1, 6, none⟩ = some (.slice none 0 0) := by simp [World.cell?, hp15]
  have cr5_7 : w5.cell? ⟨w.heap.size + 1, 7, none⟩ = some (.slice none 0 0) := by simp [World.cell?, hp15]
  have cr5_8 : w5.cell? ⟨w.heap.size + 1, 8, none⟩ = some (.int .i64 0) := by simp [World.cell?, hp15]
  have cr5_9 : w5.cell? ⟨w.heap.size + 1, 9, none⟩ = some (.bool false) := by simp [World.cell?, hp15]
  have fr5 : ∀ o, w5.frozen? ⟨w.heap.size + 1, o, none⟩ = false := fun o => by simp [World.frozen?, hp15]
  have co5_0 : w5.cell? ⟨w.heap.size + 1 + 1, 0, none⟩ = some (.slice a0' x0.length c0') := by simp [World.cell?, hp25]
  have co5_1 : w5.cell? ⟨w.heap.size + 1 + 1, 1, none⟩ = some (u1_0') := by simp [World.cell?, hp25]
  have co5_2 : w5.cell? ⟨w.heap.size + 1 + 1, 2, none⟩ = some (u1_1') := by simp [World.cell?, hp25]
  have co5_3 : w5.cell? ⟨w.heap.size + 1 + 1, 3, none⟩ = some (u1_2') := by simp [World.cell?, hp25]
  have co5_4 : w5.cell? ⟨w.heap.size + 1 + 1, 4, none⟩ = some (u1_3') := by simp [World.cell?, hp25]
  have co5_5 : w5.cell? ⟨w.heap.size + 1 + 1, 5, none⟩ = some (.slice a2' x2.length c2') := by simp [World.cell?, hp25]
  have co5_6 : w5.cell? ⟨w.heap.size + 1 + 1, 6, none⟩ = some (.slice a3' x3.length c3') := by simp [World.cell?, hp25]
  have co5_7 : w5.cell? ⟨w.heap.size + 1 + 1, 7, none⟩ = some (.slice none 0 0) := by simp [World.cell?, hp25]
  have co5_8 : w5.cell? ⟨w.heap.size + 1 + 1, 8, none⟩ = some (.int .i64 0) := by simp [World.cell?, hp25]
  have co5_9 : w5.cell? ⟨w.heap.size + 1 + 1, 9, none⟩ = some (.bool false) := by simp [World.cell?, hp25]
  have fo5 : ∀ o, w5.frozen? ⟨w.heap.size + 1 + 1, o, none⟩ = false := fun o => by simp [World.frozen?, hp25]
  clear hpA5 hp15 hp25
  go_wp2
  refine bodyPost_ret (v := .agg #[.slice a0' x0.length c0', u1_0', u1_1', u1_2', u1_3', .slice a2' x2.length c2', .slice a3' x3.length c3', .slice a4' x4.length c4', .int .i64 x5, .bool x6]) (by simp [results, Tryz.f8, go_sem, cr5_0, cr5_1, cr5_2, cr5_3, cr5_4, cr5_5, cr5_6, cr5_7, cr5_8, cr5_9]) rfl ?_
  refine ⟨⟨[.slice a0' x0.length c0', u1_0', u1_1', u1_2', u1_3', .slice a2' x2.length c2', .slice a3' x3.length c3', .slice a4' x4.length c4', .int .i64 x5, .bool x6], by rfl, vmp_shut (fun.funSp.sslice.on R0_5.out fun b hS => by repeat rw [Below.heap_setCell _ _ _ _ (by simp; omega)]) (heap.heapSp.on R1_5.out fun b hS => by repeat rw [Below.heap_setCell _ _ _ _ (by simp; omega)]) (Sh.int.sslice.on R2_5.out fun b hS => by repeat rw [Below.heap_setCell _ _ _ _ (by simp; omega)]) (call.callSp.sslice.on R3_5.out fun b hS => by repeat rw [Below.heap_setCell _ _ _ _ (by simp; omega)]) (Sh.int.sslice.on R4_5.out fun b hS => by repeat rw [Below.heap_setCell _ _ _ _ (by simp; omega)]) f5 (fun b hS => ⟨by omega, by simp [World.setCell]; omega⟩) (fun b hS => ⟨by omega, by simp [World.setCell]; omega⟩) (fun b hS => ⟨by omega, by simp [World.setCell]; omega⟩) (fun b hS => ⟨by omega, by simp [World.setCell]; omega⟩) (fun b hS => ⟨by omega, by simp [World.setCell]; omega⟩) (fun b h1 h2 => by omega) (fun b h1 h2 => by omega) (fun b h1 h2 => by omega) (fun b h1 h2 => by omega) (fun b h1 h2 => by omega) (fun b h1 h2 => by omega) (fun b h1 h2 => by omega) (fun b h1 h2 => by omega) (fun b h1 h2 => by omega) (fun b h1 h2 => by omega)⟩, ?_⟩
  repeat first | with_reducible exact HB5.out | (refine Below.setCell ?_ (by first | (simp; done) | (simp; omega)) _)


end Go.Proofs.YtjofmoebijdccaaGreat.vm
