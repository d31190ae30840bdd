/-
  The law's copies of a Heap and of slices of it: the same in new memory, all of it apart; nothing that was there is turned.
-/
import Derived.Test.YtempmfpnngbbeabHeapSp
import Derived.Test.YtempmfpnngbbeabHeapSz
import Derived.Test.YtempmfpnngbbeabIntsTo
import Derived.Laws.MakeOwn
import Derived.Deep.OwnRows
namespace Go.Proofs.Ytempmfpnngbbeab.heap
open Go.RowKit Go.Proofs.Ytempmfpnngbbeab.rose Go.Proofs.Ytempmfpnngbbeab
set_option linter.unusedVariables false

def ToPSays (T : HeapD) : Prop := ∀ cs w, wt T ≤ 1048576 → heapSh.rep w (· < w.heap.size) cs T →
  Calls Try.prog 9 #[.agg cs.toArray] w fun e w' => (∃ cs', e = .returned (.agg cs'.toArray) ∧ heapSp.rep w' (fun b => w.heap.size ≤ b ∧ b < w'.heap.size) cs' T) ∧ Below w.heap.size w w'

set_option maxHeartbeats 2000000 in
theorem toP_any (T : HeapD) : ToPSays T := by
  intro cs w hw h
  obtain ⟨x0, a0, c0, x1, x2, x3, rfl, rfl, f0, f1, f2, f3⟩ := heap_open h
  clear h
  have q0 : x0.length ≤ 1048576 := by simp [wt] at hw; omega
  have K0 : ∀ (w' : World), Below w.heap.size w w' → Calls Try.prog 19 #[.slice a0 x0.length c0] w' fun e w'' => (∃ v', e = .returned v' ∧ Sh.int.sslice.rep w'' (fun b => w'.heap.size ≤ b ∧ b < w''.heap.size) [v'] x0) ∧ Below w'.heap.size w' w'' :=
    fun w' hb => ints.toPS_any x0 _ w' q0 (Sh.int.slice.mono (Sh.int.slice.below f0 hb) fun b hlt => Nat.lt_of_lt_of_le hlt hb.size)
  clear hw f0 q0
  go_enter Try.func9, Try.ntmps9
  go_wp2_with fail
  refine (K0 _ ((((Below.refl _ _).alloc (Nat.le_refl _) _).alloc (by simp) _).alloc (by simp; omega) _)).mono ?_
  clear K0
  rintro e w1 ⟨⟨v', rfl, hrep⟩, hb⟩
  obtain ⟨a0', c0', e'⟩ := sslice_cells hrep
  cases e'
  have hz1 : w.heap.size + 3 ≤ w1.heap.size := by have := hb.size; simp at this; omega
  have hpA1 : w1.heap[w.heap.size]? = some (.cells #[.slice a0 x0.length c0, .int .i64 x1, .int .i64 x2, .int .i64 x3] 24) := by
    rw [hb.block _ (by simp; omega), Below.heap_alloc _ _ _ (by simp; omega), Below.heap_alloc _ _ _ (by simp)]
    exact alloc_top _ _
  have hp11 : w1.heap[w.heap.size + 1]? = some (.cells #[.slice none 0 0, .int .i64 0, .int .i64 0, .int .i64 0] 27) := by
    rw [hb.block _ (by simp), Below.heap_alloc _ _ _ (by simp)]
    have := alloc_top (w.alloc (.cells #[.slice a0 x0.length c0, .int .i64 x1, .int .i64 x2, .int .i64 x3] 24)) (.cells #[.slice none 0 0, .int .i64 0, .int .i64 0, .int .i64 0] 27)
    rwa [World.size_alloc] at this
  have hp21 : w1.heap[w.heap.size + 1 + 1]? = some (.cells #[.slice none 0 0, .int .i64 0, .int .i64 0, .int .i64 0] 27) := by
    rw [hb.block _ (by simp)]
    have := alloc_top ((w.alloc (.cells #[.slice a0 x0.length c0, .int .i64 x1, .int .i64 x2, .int .i64 x3] 24)).alloc (.cells #[.slice none 0 0, .int .i64 0, .int .i64 0, .int .i64 0] 27)) (.cells #[.slice none 0 0, .int .i64 0, .int .i64 0, .int .i64 0] 27)
    rwa [World.size_alloc, World.size_alloc] at this
  have HB1 : Hid (Below w.heap.size w w1) := ((((Below.refl _ _).alloc (Nat.le_refl _) _).alloc (by simp) _).alloc (by simp; omega) _).trans (hb.mono (by simp; omega))
  have R0_1 : Hid (Sh.int.sslice.rep w1 (fun b => w.heap.size + 3 ≤ b ∧ b < w1.heap.size) [.slice a0' x0.length c0'] x0) := Sh.int.sslice.mono hrep fun b hS => ⟨by have := hS.1; simp at this; omega, hS.2⟩
  clear hrep hb
  have ca1_1 : w1.cell? ⟨w.heap.size, 1, none⟩ = some (.int .i64 x1) := by simp [World.cell?, hpA1]
  have ca1_2 : w1.cell? ⟨w.heap.size, 2, none⟩ = some (.int .i64 x2) := by simp [World.cell?, hpA1]
  have ca1_3 : w1.cell? ⟨w.heap.size, 3, none⟩ = some (.int .i64 x3) := by simp [World.cell?, hpA1]
  have cr1_0 : w1.cell? ⟨w.heap.size + 1, 0, none⟩ = some (.slice none 0 0) := by simp [World.cell?, hp11]
  have cr1_1 : w1.cell? ⟨w.heap.size + 1, 1, none⟩ = some (.int .i64 0) := by simp [World.cell?, hp11]
  have cr1_2 : w1.cell? ⟨w.heap.size + 1, 2, none⟩ = some (.int .i64 0) := by simp [World.cell?, hp11]
  have cr1_3 : w1.cell? ⟨w.heap.size + 1, 3, none⟩ = some (.int .i64 0) := by simp [World.cell?, hp11]
  have fr1 : ∀ o, w1.frozen? ⟨w.heap.size + 1, o, none⟩ = false := fun o => by simp [World.frozen?, hp11]
  have co1_0 : w1.cell? ⟨w.heap.size + 1 + 1, 0, none⟩ = some (.slice none 0 0) := by simp [World.cell?, hp21]
  have co1_1 : w1.cell? ⟨w.heap.size + 1 + 1, 1, none⟩ = some (.int .i64 0) := by simp [World.cell?, hp21]
  have co1_2 : w1.cell? ⟨w.heap.size + 1 + 1, 2, none⟩ = some (.int .i64 0) := by simp [World.cell?, hp21]
  have co1_3 : w1.cell? ⟨w.heap.size + 1 + 1, 3, none⟩ = some (.int .i64 0) := by simp [World.cell?, hp21]
  have fo1 : ∀ o, w1.frozen? ⟨w.heap.size + 1 + 1, o, none⟩ = false := fun o => by simp [World.frozen?, hp21]
  clear hpA1 hp11 hp21
  go_wp2
  refine bodyPost_ret (v := .agg #[.slice a0' x0.length c0', .int .i64 x1, .int .i64 x2, .int .i64 x3]) (by simp [results, Try.f9, go_sem, cr1_0, cr1_1, cr1_2, cr1_3]) rfl ?_
  refine ⟨⟨[.slice a0' x0.length c0', .int .i64 x1, .int .i64 x2, .int .i64 x3], by rfl, heapp_shut (Sh.int.sslice.mono (Sh.int.sslice.on R0_1.out fun b hS => by repeat rw [Below.heap_setCell _ _ _ _ (by simp; omega)]) fun b hS => ⟨by omega, by simp [World.setCell]; exact hS.2⟩) f1 f2 f3⟩, ?_⟩
  repeat first | with_reducible exact HB1.out | (refine Below.setCell ?_ (by first | (simp; done) | (simp; omega)) _)


end Go.Proofs.Ytempmfpnngbbeab.heap
