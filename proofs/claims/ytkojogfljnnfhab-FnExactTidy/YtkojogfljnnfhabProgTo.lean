/-
  The law's copies of a Prog and of slices of it: the same in new memory; nothing that was there is turned.
-/
import Derived.Test.YtkojogfljnnfhabProgSz
import Derived.Test.YtkojogfljnnfhabDataTo
import Derived.Test.YtkojogfljnnfhabNodeTo
import Derived.Laws.MakeOwn
import Derived.Deep.OwnRows
namespace Go.Proofs.Ytkojogfljnnfhab.prog
open Go.RowKit Go.Proofs.Ytkojogfljnnfhab.rose Go.Proofs.Ytkojogfljnnfhab
set_option linter.unusedVariables false

def ToSays (T : ProgD) : Prop := ∀ cs w, wt T ≤ 1048576 → progSh.rep w (· < w.heap.size) cs T →
  Calls Try.prog 7 #[.agg cs.toArray] w fun e w' => (∃ cs', e = .returned (.agg cs'.toArray) ∧ progSh.rep w' (fun b => w.heap.size ≤ b ∧ b < w'.heap.size) cs' T) ∧ Below w.heap.size w w'

set_option maxHeartbeats 1000000 in
theorem to_any (T : ProgD) : ToSays T := by
  intro cs w hw h
  obtain ⟨x0, a0, c0, x1, u1_0, u1_1, u1_2, u1_3, u1_4, rfl, rfl, f0, f1⟩ := prog_open h
  have ou1_0 := node.ndSh.one f1 u1_0 (by simp)
  have ou1_1 := node.ndSh.one f1 u1_1 (by simp)
  have ou1_2 := node.ndSh.one f1 u1_2 (by simp)
  have ou1_3 := node.ndSh.one f1 u1_3 (by simp)
  have ou1_4 := node.ndSh.one f1 u1_4 (by simp)
  clear h
  have q0 : x0.length + data.wts x0 ≤ 1048576 := by simp [wt] at hw; omega
  have K0 : ∀ (w' : World), Below w.heap.size w w' → Calls Try.prog 21 #[.slice a0 x0.length c0] w' fun e w'' => (∃ v', e = .returned v' ∧ data.dataSh.slice.rep w'' (fun b => w'.heap.size ≤ b ∧ b < w''.heap.size) [v'] x0) ∧ Below w'.heap.size w' w'' :=
    fun w' hb => data.toS_any x0 _ w' q0 (data.dataSh.slice.mono (data.dataSh.slice.below f0 hb) fun b hlt => Nat.lt_of_lt_of_le hlt hb.size)
  have q1 : node.wt x1 ≤ 1048576 := by simp [wt] at hw; omega
  have K1 : ∀ (w' : World), Below w.heap.size w w' → Calls Try.prog 12 #[.agg #[u1_0, u1_1, u1_2, u1_3, u1_4]] w' fun e w'' => (∃ cs', e = .returned (.agg cs'.toArray) ∧ node.ndSh.rep w'' (fun b => w'.heap.size ≤ b ∧ b < w''.heap.size) cs' x1) ∧ Below w'.heap.size w' w'' :=
    fun w' hb => node.to_any x1 _ w' q1 (node.ndSh.mono (node.ndSh.below f1 hb) fun b hlt => Nat.lt_of_lt_of_le hlt hb.size)
  clear hw f0 q0 f1 q1
  go_enter Try.func7, Try.ntmps7
  go_wp2_with fail
  refine (K0 _ ((((Below.refl _ _).alloc (Nat.le_refl _) _).alloc (by simp) _).alloc (by simp; omega) _)).mono ?_
  clear K0
  rintro e w1 ⟨⟨v', rfl, hrep⟩, hb⟩
  obtain ⟨a0', c0', e'⟩ := slice_cells hrep
  cases e'
  have hz1 : w.heap.size + 3 ≤ w1.heap.size := by have := hb.size; simp at this; omega
  have hpA1 : w1.heap[w.heap.size]? = some (.cells #[.slice a0 x0.length c0, u1_0, u1_1, u1_2, u1_3, u1_4] 27) := by
    rw [hb.block _ (by simp; omega), Below.heap_alloc _ _ _ (by simp; omega), Below.heap_alloc _ _ _ (by simp)]
    exact alloc_top _ _
  have hp11 : w1.heap[w.heap.size + 1]? = some (.cells #[.slice none 0 0, .int .i64 0, .int .i64 0, .string ⟨#[]⟩, .string ⟨#[]⟩, .slice none 0 0] 35) := by
    rw [hb.block _ (by simp), Below.heap_alloc _ _ _ (by simp)]
    have := alloc_top (w.alloc (.cells #[.slice a0 x0.length c0, u1_0, u1_1, u1_2, u1_3, u1_4] 27)) (.cells #[.slice none 0 0, .int .i64 0, .int .i64 0, .string ⟨#[]⟩, .string ⟨#[]⟩, .slice none 0 0] 35)
    rwa [World.size_alloc] at this
  have hp21 : w1.heap[w.heap.size + 1 + 1]? = some (.cells #[.slice none 0 0, .int .i64 0, .int .i64 0, .string ⟨#[]⟩, .string ⟨#[]⟩, .slice none 0 0] 35) := by
    rw [hb.block _ (by simp)]
    have := alloc_top ((w.alloc (.cells #[.slice a0 x0.length c0, u1_0, u1_1, u1_2, u1_3, u1_4] 27)).alloc (.cells #[.slice none 0 0, .int .i64 0, .int .i64 0, .string ⟨#[]⟩, .string ⟨#[]⟩, .slice none 0 0] 35)) (.cells #[.slice none 0 0, .int .i64 0, .int .i64 0, .string ⟨#[]⟩, .string ⟨#[]⟩, .slice none 0 0] 35)
    rwa [World.size_alloc, World.size_alloc] at this
  have HB1 : Hid (Below w.heap.size w w1) := ((((Below.refl _ _).alloc (Nat.le_refl _) _).alloc (by simp) _).alloc (by simp; omega) _).trans (hb.mono (by simp; omega))
  have R0_1 : Hid (data.dataSh.slice.rep w1 (fun b => w.heap.size + 2 < b ∧ b < w1.heap.size) [.slice a0' x0.length c0'] x0) := data.dataSh.slice.mono hrep fun b hS => ⟨by have := hS.1; simp at this; omega, hS.2⟩
  clear hrep hb
  have ca1_1 : w1.cell? ⟨w.heap.size, 1, none⟩ = some (u1_0) := by simp [World.cell?, hpA1]
  have ca1_2 : w1.cell? ⟨w.heap.size, 2, none⟩ = some (u1_1) := by simp [World.cell?, hpA1]
  have ca1_3 : w1.cell? ⟨w.heap.size, 3, none⟩ = some (u1_2) := by simp [World.cell?, hpA1]
  have ca1_4 : w1.cell? ⟨w.heap.size, 4, none⟩ = some (u1_3) := by simp [World.cell?, hpA1]
  have ca1_5 : w1.cell? ⟨w.heap.size, 5, none⟩ = some (u1_4) := by simp [World.cell?, hpA1]
  have cr1_0 : w1.cell? ⟨w.heap.size + 1, 0, none⟩ = some (.slice none 0 0) := by simp [World.cell?, hp11]
  have cr1_1 : w1.cell? ⟨w.heap.size + 1, 1, none⟩ = some (.int .i64 0) := by simp [World.cell?, hp11]
  have cr1_2 : w1.cell? ⟨w.heap.size + 1, 2, none⟩ = some (.int .i64 0) := by simp [World.cell?, hp11]
  have cr1_3 : w1.cell? ⟨w.heap.size + 1, 3, none⟩ = some (.string ⟨#[]⟩) := by simp [World.cell?, hp11]
  have cr1_4 : w1.cell? ⟨w.heap.size + 1, 4, none⟩ = some (.string ⟨#[]⟩) := by simp [World.cell?, hp11]
  have cr1_5 : w1.cell? ⟨w.heap.size + 1, 5, none⟩ = some (.slice none 0 0) := by simp [World.cell?, hp11]
  have fr1 : ∀ o, w1.frozen? ⟨w.heap.size + 1, o, none⟩ = false := fun o => by simp [World.frozen?, hp11]
  have co1_0 : w1.cell? ⟨w.heap.size + 1 + 1, 0, none⟩ = some (.slice none 0 0) := by simp [World.cell?, hp21]
  have co1_1 : w1.cell? ⟨w.heap.size + 1 + 1, 1, none⟩ = some (.int .i64 0) := by simp [World.cell?, hp21]
  have co1_2 : w1.cell? ⟨w.heap.size + 1 + 1, 2, none⟩ = some (.int .i64 0) := by simp [World.cell?, hp21]
  have co1_3 : w1.cell? ⟨w.heap.size + 1 + 1, 3, none⟩ = some (.string ⟨#[]⟩) := by simp [World.cell?, hp21]
  have co1_4 : w1.cell? ⟨w.heap.size + 1 + 1, 4, none⟩ = some (.string ⟨#[]⟩) := by simp [World.cell?, hp21]
  have co1_5 : w1.cell? ⟨w.heap.size + 1 + 1, 5, none⟩ = some (.slice none 0 0) := by simp [World.cell?, hp21]
  have fo1 : ∀ o, w1.frozen? ⟨w.heap.size + 1 + 1, o, none⟩ = false := fun o => by simp [World.frozen?, hp21]
  go_wp2_with fail
  refine (K1 _ (by repeat first | with_reducible exact HB1.out | (refine Below.setCell ?_ (by first | (simp; done) | (simp; omega)) _))).mono ?_
  clear K1
  rintro e w2 ⟨⟨cs', rfl, hrep⟩, hb⟩
  obtain ⟨u1_0', u1_1', u1_2', u1_3', u1_4', rfl⟩ := node.nd_list hrep
  have ou1_0' := node.ndSh.one hrep u1_0' (by simp)
  have ou1_1' := node.ndSh.one hrep u1_1' (by simp)
  have ou1_2' := node.ndSh.one hrep u1_2' (by simp)
  have ou1_3' := node.ndSh.one hrep u1_3' (by simp)
  have ou1_4' := node.ndSh.one hrep u1_4' (by simp)
  have sou1_0' := fun (a : Addr) (m : Mode) (w : World) => run_store Try.prog w a u1_0' m ou1_0'
  have sou1_1' := fun (a : Addr) (m : Mode) (w : World) => run_store Try.prog w a u1_1' m ou1_1'
  have sou1_2' := fun (a : Addr) (m : Mode) (w : World) => run_store Try.prog w a u1_2' m ou1_2'
  have sou1_3' := fun (a : Addr) (m : Mode) (w : World) => run_store Try.prog w a u1_3' m ou1_3'
  have sou1_4' := fun (a : Addr) (m : Mode) (w : World) => run_store Try.prog w a u1_4' m ou1_4'
  have hs2 : w1.heap.size ≤ w2.heap.size := by have := hb.size; simp [World.setCell] at this; exact this
  have hz2 : w.heap.size + 3 ≤ w2.heap.size := Nat.le_trans hz1 hs2
  have hpA2 : w2.heap[w.heap.size]? = some (.cells #[.slice a0 x0.length c0, u1_0, u1_1, u1_2, u1_3, u1_4] 27) := by
    rw [hb.block _ (by simp [World.setCell]; omega)]
    repeat rw [Below.heap_setCell _ _ _ _ (by first | (simp; done) | (simp; omega))]
    exact hpA1
  have hp12 : w2.heap[w.heap.size + 1]? = some (.cells #[.slice none 0 0, .int .i64 0, .int .i64 0, .string ⟨#[]⟩, .string ⟨#[]⟩, .slice none 0 0] 35) := by
    rw [hb.block _ (by simp [World.setCell]; omega)]
    repeat rw [Below.heap_setCell _ _ _ _ (by first | (simp; done) | (simp; omega))]
    exact hp11
  have hp22 : w2.heap[w.heap.size + 1 + 1]? = some (.cells #[.slice a0' x0.length c0', .int .i64 0, .int .i64 0, .string ⟨#[]⟩, .string ⟨#[]⟩, .slice none 0 0] 35) := by
    rw [hb.block _ (by simp [World.setCell]; omega)]
    simp [World.setCell, Array.getElem?_modify, hp21]
  have HB2 : Hid (Below w.heap.size w w2) := Below.trans (by repeat first | with_reducible exact HB1.out | (refine Below.setCell ?_ (by first | (simp; done) | (simp; omega)) _)) (hb.mono (by simp [World.setCell]; omega))
  have R1_2 : Hid (node.ndSh.rep w2 (fun b => w.heap.size + 2 < b ∧ b < w2.heap.size) [u1_0', u1_1', u1_2', u1_3', u1_4'] x1) := node.ndSh.mono hrep fun b hS => ⟨by have := hS.1; simp [World.setCell] at this; omega, hS.2⟩
  have R0_2 : Hid (data.dataSh.slice.rep w2 (fun b => w.heap.size + 2 < b ∧ b < w2.heap.size) [.slice a0' x0.length c0'] x0) := data.dataSh.slice.mono (data.dataSh.slice.on R0_1.out fun b hS => (hb.block b (by simp [World.setCell]; omega)).trans (by repeat rw [Below.heap_setCell _ _ _ _ (by simp; omega)])) fun b hS => ⟨hS.1, Nat.lt_of_lt_of_le hS.2 hs2⟩
  clear R0_1
  clear HB1 hs2 hz1 hpA1 hp11 hp21
  clear hrep hb
  clear ca1_1 ca1_2 ca1_3 ca1_4 ca1_5 cr1_0 cr1_1 cr1_2 cr1_3 cr1_4 cr1_5 fr1 co1_0 co1_1 co1_2 co1_3 co1_4 co1_5 fo1
  have cr2_0 : w2.cell? ⟨w.heap.size + 1, 0, none⟩ = some (.slice none 0 0) := by simp [World.cell?, hp12]
  have cr2_1 : w2.cell? ⟨w.heap.size + 1, 1, none⟩ = some (.int .i64 0) := by simp [World.cell?, hp12]
  have cr2_2 : w2.cell? ⟨w.heap.size + 1, 2, none⟩ = some (.int .i64 0) := by simp [World.cell?, hp12]
  have cr2_3 : w2.cell? ⟨w.heap.size + 1, 3, none⟩ = some (.string ⟨#[]⟩) := by simp [World.cell?, hp12]
  have cr2_4 : w2.cell? ⟨w.heap.size + 1, 4, none⟩ = some (.string ⟨#[]⟩) := by simp [World.cell?, hp12]
  have cr2_5 : w2.cell? ⟨w.heap.size + 1, 5, none⟩ = some (.slice none 0 0) := by simp [World.cell?, hp12]
  have fr2 : ∀ o, w2.frozen? ⟨w.heap.size + 1, o, none⟩ = false := fun o => by simp [World.frozen?, hp12]
  have co2_0 : w2.cell? ⟨w.heap.size + 1 + 1, 0, none⟩ = some (.slice a0' x0.length c0') := by simp [World.cell?, hp22]
  have co2_1 : w2.cell? ⟨w.heap.size + 1 + 1, 1, none⟩ = some (.int .i64 0) := by simp [World.cell?, hp22]
  have co2_2 : w2.cell? ⟨w.heap.size + 1 + 1, 2, none⟩ = some (.int .i64 0) := by simp [World.cell?, hp22]
  have co2_3 : w2.cell? ⟨w.heap.size + 1 + 1, 3, none⟩ = some (.string ⟨#[]⟩) := by simp [World.cell?, hp22]
  have co2_4 : w2.cell? ⟨w.heap.size + 1 + 1, 4, none⟩ = some (.string ⟨#[]⟩) := by simp [World.cell?, hp22]
  have co2_5 : w2.cell? ⟨w.heap.size + 1 + 1, 5, none⟩ = some (.slice none 0 0) := by simp [World.cell?, hp22]
  have fo2 : ∀ o, w2.frozen? ⟨w.heap.size + 1 + 1, o, none⟩ = false := fun o => by simp [World.frozen?, hp22]
  clear hpA2 hp12 hp22
  go_wp2
  refine bodyPost_ret (v := .agg #[.slice a0' x0.length c0', u1_0', u1_1', u1_2', u1_3', u1_4']) (by simp [results, Try.f7, go_sem, cr2_0, cr2_1, cr2_2, cr2_3, cr2_4, cr2_5]) rfl ?_
  refine ⟨⟨[.slice a0' x0.length c0', u1_0', u1_1', u1_2', u1_3', u1_4'], by rfl, prog_shut (data.dataSh.slice.mono (data.dataSh.slice.on R0_2.out fun b hS => by repeat rw [Below.heap_setCell _ _ _ _ (by simp; omega)]) fun b hS => ⟨by omega, by simp [World.setCell]; exact hS.2⟩) (node.ndSh.mono (node.ndSh.on R1_2.out fun b hS => by repeat rw [Below.heap_setCell _ _ _ _ (by simp; omega)]) fun b hS => ⟨by omega, by simp [World.setCell]; exact hS.2⟩)⟩, ?_⟩
  repeat first | with_reducible exact HB2.out | (refine Below.setCell ?_ (by first | (simp; done) | (simp; omega)) _)


end Go.Proofs.Ytkojogfljnnfhab.prog
