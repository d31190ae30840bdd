/-
  The law's copies of a Heap and of slices of it: the same in new memory, all of it apart; nothing that was there is turned.
  The law's copies of a Call and of slices of it: the same in new memory, all of it apart; nothing that was there is turned.
-/
import Derived.Laws.MakeOwn
import Derived.Deep.OwnRows
import Derived.Test.YtjibmpebebephaaGreatDoorB1
import Derived.Test.YtjibmpebebephaaGreatDoorB2
import Derived.Test.YtjibmpebebephaaGreatDoorB3
import Derived.Test.YtjibmpebebephaaGreatDoorB4
import Derived.Test.YtjibmpebebephaaGreatDoorB5
import Derived.Test.YtjibmpebebephaaGreatDoorB6
import Derived.Test.YtjibmpebebephaaGreatDoorB7
namespace Go.Proofs.YtjibmpebebephaaGreatDoor.heap
open Go.RowKit Go.Proofs.YtjibmpebebephaaGreatDoor.rose Go.Proofs.YtjibmpebebephaaGreatDoor
set_option linter.unusedVariables false

def ToPSays (T : HeapD) : Prop := ∀ cs w, wt T ≤ 1048576 → heapSh.rep w (· < w.heap.size) cs T →
  Calls Tryz.prog 27 #[.agg cs.toArray] w fun e w' => (∃ cs', e = .returned (.agg cs'.toArray) ∧ heapSp.rep w' (fun b => w.heap.size ≤ b ∧ b < w'.heap.size) cs' T) ∧ Below w.heap.size w w'

set_option maxHeartbeats 2000000 in
theorem toP_any (T : HeapD) : ToPSays T := by
  intro cs w hw h
  obtain ⟨x0, a0, c0, x1, x2, x3, rfl, rfl, f0, f1, f2, f3⟩ := heap_open h
  clear h
  have q0 : x0.length ≤ 1048576 := by simp [wt] at hw; omega
  have K0 : ∀ (w' : World), Below w.heap.size w w' → Calls Tryz.prog 28 #[.slice a0 x0.length c0] w' fun e w'' => (∃ v', e = .returned v' ∧ Sh.int.sslice.rep w'' (fun b => w'.heap.size ≤ b ∧ b < w''.heap.size) [v'] x0) ∧ Below w'.heap.size w' w'' :=
    fun w' hb => ints.toPS_any x0 _ w' q0 (Sh.int.slice.mono (Sh.int.slice.below f0 hb) fun b hlt => Nat.lt_of_lt_of_le hlt hb.size)
  clear hw f0 q0
  go_enter Tryz.func27, Tryz.ntmps27
  go_wp2_with fail
  refine (K0 _ ((((Below.refl _ _).alloc (Nat.le_refl _) _).alloc (by simp) _).alloc (by simp; omega) _)).mono ?_
  clear K0
  rintro e w1 ⟨⟨v', rfl, hrep⟩, hb⟩
  obtain ⟨a0', c0', e'⟩ := sslice_cells hrep
  cases e'
  have hz1 : w.heap.size + 3 ≤ w1.heap.size := by have := hb.size; simp at this; omega
  have hpA1 : w1.heap[w.heap.size]? = some (.cells #[.slice a0 x0.length c0, .int .i64 x1, .int .i64 x2, .int .i64 x3] 25) := by
    rw [hb.block _ (by simp; omega), Below.heap_alloc _ _ _ (by simp; omega), Below.heap_alloc _ _ _ (by simp)]
    exact alloc_top _ _
  have hp11 : w1.heap[w.heap.size + 1]? = some (.cells #[.slice none 0 0, .int .i64 0, .int .i64 0, .int .i64 0] 32) := by
    rw [hb.block _ (by simp), Below.heap_alloc _ _ _ (by simp)]
    have := alloc_top (w.alloc (.cells #[.slice a0 x0.length c0, .int .i64 x1, .int .i64 x2, .int .i64 x3] 25)) (.cells #[.slice none 0 0, .int .i64 0, .int .i64 0, .int .i64 0] 32)
    rwa [World.size_alloc] at this
  have hp21 : w1.heap[w.heap.size + 1 + 1]? = some (.cells #[.slice none 0 0, .int .i64 0, .int .i64 0, .int .i64 0] 32) := by
    rw [hb.block _ (by simp)]
    have := alloc_top ((w.alloc (.cells #[.slice a0 x0.length c0, .int .i64 x1, .int .i64 x2, .int .i64 x3] 25)).alloc (.cells #[.slice none 0 0, .int .i64 0, .int .i64 0, .int .i64 0] 32)) (.cells #[.slice none 0 0, .int .i64 0, .int .i64 0, .int .i64 0] 32)
    rwa [World.size_alloc, World.size_alloc] at this
  have HB1 : Hid (Below w.heap.size w w1) := ((((Below.refl _ _).alloc (Nat.le_refl _) _).alloc (by simp) _).alloc (by simp; omega) _).trans (hb.mono (by simp; omega))
  have R0_1 : Hid (Sh.int.sslice.rep w1 (fun b => w.heap.size + 3 ≤ b ∧ b < w1.heap.size) [.slice a0' x0.length c0'] x0) := Sh.int.sslice.mono hrep fun b hS => ⟨by have := hS.1; simp at this; omega, hS.2⟩
  clear hrep hb
  have ca1_1 : w1.cell? ⟨w.heap.size, 1, none⟩ = some (.int .i64 x1) := by simp [World.cell?, hpA1]
  have ca1_2 : w1.cell? ⟨w.heap.size, 2, none⟩ = some (.int .i64 x2) := by simp [World.cell?, hpA1]
  have ca1_3 : w1.cell? ⟨w.heap.size, 3, none⟩ = some (.int .i64 x3) := by simp [World.cell?, hpA1]
  have cr1_0 : w1.cell? ⟨w.heap.size + 1, 0, none⟩ = some (.slice none 0 0) := by simp [World.cell?, hp11]
  have cr1_1 : w1.cell? ⟨w.heap.size + 1, 1, none⟩ = some (.int .i64 0) := by simp [World.cell?, hp11]
  have cr1_2 : w1.cell? ⟨w.heap.size + 1, 2, none⟩ = some (.int .i64 0) := by simp [World.cell?, hp11]
  have cr1_3 : w1.cell? ⟨w.heap.size + 1, 3, none⟩ = some (.int .i64 0) := by simp [World.cell?, hp11]
  have fr1 : ∀ o, w1.frozen? ⟨w.heap.size + 1, o, none⟩ = false := fun o => by simp [World.frozen?, hp11]
  have co1_0 : w1.cell? ⟨w.heap.size + 1 + 1, 0, none⟩ = some (.slice none 0 0) := by simp [World.cell?, hp21]
  have co1_1 : w1.cell? ⟨w.heap.size + 1 + 1, 1, none⟩ = some (.int .i64 0) := by simp [World.cell?, hp21]
  have co1_2 : w1.cell? ⟨w.heap.size + 1 + 1, 2, none⟩ = some (.int .i64 0) := by simp [World.cell?, hp21]
  have co1_3 : w1.cell? ⟨w.heap.size + 1 + 1, 3, none⟩ = some (.int .i64 0) := by simp [World.cell?, hp21]
  have fo1 : ∀ o, w1.frozen? ⟨w.heap.size + 1 + 1, o, none⟩ = false := fun o => by simp [World.frozen?, hp21]
  clear hpA1 hp11 hp21
  go_wp2
  refine bodyPost_ret (v := .agg #[.slice a0' x0.length c0', .int .i64 x1, .int .i64 x2, .int .i64 x3]) (by simp [results, Tryz.f27, go_sem, cr1_0, cr1_1, cr1_2, cr1_3]) rfl ?_
  refine ⟨⟨[.slice a0' x0.length c0', .int .i64 x1, .int .i64 x2, .int .i64 x3], by rfl, heapp_shut (Sh.int.sslice.mono (Sh.int.sslice.on R0_1.out fun b hS => by repeat rw [Below.heap_setCell _ _ _ _ (by simp; omega)]) fun b hS => ⟨by omega, by simp [World.setCell]; exact hS.2⟩) f1 f2 f3⟩, ?_⟩
  repeat first | with_reducible exact HB1.out | (refine Below.setCell ?_ (by first | (simp; done) | (simp; omega)) _)


end Go.Proofs.YtjibmpebebephaaGreatDoor.heap

namespace Go.Proofs.YtjibmpebebephaaGreatDoor.call
open Go.RowKit Go.Proofs.YtjibmpebebephaaGreatDoor.rose Go.Proofs.YtjibmpebebephaaGreatDoor
set_option linter.unusedVariables false

def ToPSays (T : CallD) : Prop := ∀ cs w, True → callSh.rep w (· < w.heap.size) cs T →
  Calls Tryz.prog 62 #[.agg cs.toArray] w fun e w' => (∃ cs', e = .returned (.agg cs'.toArray) ∧ callSp.rep w' (fun b => w.heap.size ≤ b ∧ b < w'.heap.size) cs' T) ∧ Below w.heap.size w w'

set_option maxHeartbeats 2000000 in
theorem toP_any (T : CallD) : ToPSays T := by
  intro cs w hw h
  obtain ⟨x0, x1, x2, rfl, rfl, f0, f1, f2⟩ := call_open h
  clear h
  clear hw 
  go_enter Tryz.func62, Tryz.ntmps62
  go_wp2
  refine bodyPost_ret (v := .agg #[.int .i64 x0, .int .i64 x1, .int .i64 x2]) (by simp [results, Tryz.f62, go_sem]) rfl ?_
  exact ⟨⟨[.int .i64 x0, .int .i64 x1, .int .i64 x2], rfl, callp_shut f0 f1 f2⟩, (((Below.refl _ _).alloc (Nat.le_refl _) _).alloc (by simp) _).alloc (by simp; omega) _⟩

theorem infoP_op : (Tryz.prog.info? 57).map (fun i => (i.zero, i.size, i.bytes)) = some (some (.agg #[.int .i64 0, .int .i64 0, .int .i64 0]), 3, 24) := by kernel_rfl

theorem makeP_op (n : Nat) (h : n ≤ 1048576) (w : World) : (Instr.makeSlice 33 (.int .i64 (n : Int)) (.int .i64 (n : Int))).run Tryz.prog w = .ok (.slice (some ⟨w.heap.size, 0, none⟩) n n)
    (w.alloc (.cells (madeCells #[.int .i64 0, .int .i64 0, .int .i64 0] (n * 3)) 57)) := by
  obtain ⟨i, hi, hzz⟩ := Option.map_eq_some_iff.1 infoP_op
  simp only [Prod.mk.injEq] at hzz
  obtain ⟨hz, hs, hb⟩ := hzz
  have := run_make (P := Tryz.prog) w 33 57 i _ Tryz.underlying33 hi hz .i64 .i64 n n (by omega) (by omega) (by rw [hb]; omega) (by omega)
  simpa [hs, Value.cells] using this

set_option maxHeartbeats 1000000 in
theorem toPS_of (ks : List CallD) (ih : ∀ k ∈ ks, ToPSays k) (v : Value) (w : World) (hw : ks.length ≤ 1048576) (h : callSh.slice.rep w (· < w.heap.size) [v] ks) :
    Calls Tryz.prog 29 #[v] w fun e w' => (∃ v', e = .returned v' ∧ callSp.sslice.rep w' (fun b => w.heap.size ≤ b ∧ b < w'.heap.size) [v'] ks) ∧ Below w.heap.size w w' := by
  obtain ⟨a, cap, css, rfl, hcap, hmax, hrow, hk⟩ := calls_open h
  clear h hcap hmax
  have IH : Hid (∀ k ∈ ks, ToPSays k) := ih
  have HR : Hid (RowAt w (· < w.heap.size) 3 a ks.length css ∧ ∀ i (h : i < ks.length), callSh.rep w (· < w.heap.size) (css i) ks[i]) := ⟨hrow, hk⟩
  have hn : ks.length ≤ 1048576 := by omega
  clear ih hrow hk hw
  have hmk := makeP_op ks.length hn
  go_enter Tryz.func29, Tryz.ntmps29
  go_wp2
  clear hmk
  generalize hw1 : w.alloc _ = w1
  have F1 : SFilling callSp 57 w1 w.heap.size ks.length 0 ks := by
    subst hw1
    exact SFilling.start
  have B1 : Below w.heap.size w w1 := by subst hw1; exact (Below.refl _ _).alloc (Nat.le_refl _) _
  have Z1 : w.heap.size < w1.heap.size := by subst hw1; simp
  clear hw1
  go_loopw [4] (fun v4 wr => ∃ i : Nat, i ≤ ks.length ∧ v4 = .int .i64 i ∧ Hid (SFilling callSp 57 wr w.heap.size ks.length i ks ∧ Below w.heap.size w wr ∧ w.heap.size < wr.heap.size)) (fun v4 _ => ks.length - (intOf v4).toNat)
  case atStart => exact ⟨0, Nat.zero_le _, rfl, F1, B1, Z1⟩
  case round =>
    obtain ⟨i, hi, rfl, HF⟩ := hrel
    by_cases hlt : i < ks.length
    · obtain ⟨b, o, rfl, hS, hc⟩ := HR.out.1 i hlt
      have hrep := HR.out.2 i hlt
      obtain ⟨v0, v1, v2, hcs, c0, c1, c2⟩ := call_cells hrep hc
      obtain ⟨F, HB, hZ⟩ := HF.out
      have e0 := (HB.cell (p := ⟨b, o + i * 3, none⟩) hS).trans c0
      have e1 := (HB.cell (p := ⟨b, o + i * 3 + 1, none⟩) hS).trans c1
      have e2 := (HB.cell (p := ⟨b, o + i * 3 + 2, none⟩) hS).trans c2
      rw [hcs] at hrep
      clear c0 c1 c2 hc hcs
      have hR := callSh.mono (callSh.below hrep HB) (S' := (· < wr.heap.size)) (fun b hb => Nat.lt_of_lt_of_le hb HB.size)
      clear hrep
      have hcall := IH.out ks[i] (List.getElem_mem hlt) [v0, v1, v2] wr trivial hR
      clear hR F HB hZ
      go_wp2_with fail
      refine hcall.mono ?_
      clear hcall
      rintro e w1 ⟨⟨cs', rfl, hrep'⟩, hb⟩
      obtain ⟨F, HB, hZ⟩ := HF.out
      have hl : cs'.length = 3 := callSp.len hrep'
      have hst := F.store (P := Tryz.prog) hb hZ hlt hl (callSp.one hrep')
      have F2 : Hid (SFilling callSp 57 (w1.setCells w.heap.size (i * 3) cs') w.heap.size ks.length (i + 1) ks) := F.step hb hZ hlt hlt hrep'
      have B2 : Hid (Below w.heap.size w (w1.setCells w.heap.size (i * 3) cs')) := (HB.trans (hb.mono (Nat.le_of_lt hZ))).trans (setCells_below (Nat.le_refl _) _ _)
      have Z2 : Hid (w.heap.size < (w1.setCells w.heap.size (i * 3) cs').heap.size) := by show _ < _; rw [setCells_size]; exact Nat.lt_of_lt_of_le hZ hb.size
      have hk5 : callSp.k = 3 := rfl
      rw [hk5] at hst
      clear F HB hZ HF hrep' hb hk5
      generalize w1.setCells w.heap.size (i * 3) cs' = w2 at hst F2 B2 Z2
      go_wp2
      go_round
      case rel => exact ⟨i + 1, by omega, by go_num, F2.out, B2.out, Z2.out⟩
      case measure => simp [intOf]; omega
    · obtain rfl : i = ks.length := by omega
      go_wp2
      go_ret
      obtain ⟨F, HB, hZ⟩ := HF.out
      exact ⟨⟨_, rfl, F.done hZ (by unfold maxLen; omega)⟩, HB⟩

theorem toPS_any (ks : List CallD) (v : Value) (w : World) (hw : ks.length ≤ 1048576) (h : callSh.slice.rep w (· < w.heap.size) [v] ks) :
    Calls Tryz.prog 29 #[v] w fun e w' => (∃ v', e = .returned v' ∧ callSp.sslice.rep w' (fun b => w.heap.size ≤ b ∧ b < w'.heap.size) [v'] ks) ∧ Below w.heap.size w w' := toPS_of ks (fun k _ => toP_any k) v w hw h

end Go.Proofs.YtjibmpebebephaaGreatDoor.call
