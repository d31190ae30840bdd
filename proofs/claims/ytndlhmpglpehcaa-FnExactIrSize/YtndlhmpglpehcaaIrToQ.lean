/-
  The law's copies of a Ir and of slices of it: the same in new memory; nothing that was there is turned.
-/
import Derived.Test.YtndlhmpglpehcaaIrSz
import Derived.Laws.MakeOwn
import Derived.Test.YtndlhmpglpehcaaRoseQ
import Derived.Deep.OwnRows
namespace Go.Proofs.Ytndlhmpglpehcaa.ir
open Go.RowKit Go.Proofs.Ytndlhmpglpehcaa.rose Go.Proofs.Ytndlhmpglpehcaa
set_option linter.unusedVariables false

def ToSaysQ (T : IrD) : Prop := ∀ cs w, wt T ≤ 1048576 → irSh.rep w (· < w.heap.size) cs T →
  Calls Try.prog 6 #[.agg cs.toArray] w fun e w' => (∃ cs', e = .returned (.agg cs'.toArray) ∧ irSh.rep w' (New w.heap.size w') cs' T) ∧ Below w.heap.size w w'

theorem info_ir : (Try.prog.info? 29).map (fun i => (i.zero, i.size, i.bytes)) = some (some (.agg #[.int .i64 0, .int .i64 0, .slice none 0 0]), 3, 40) := by kernel_rfl

theorem make_ir (n : Nat) (h : n ≤ 1048576) (w : World) : (Instr.makeSlice 27 (.int .i64 (n : Int)) (.int .i64 (n : Int))).run Try.prog w = .ok (.slice (some ⟨w.heap.size, 0, none⟩) n n)
    (w.alloc (.cells (madeCells #[.int .i64 0, .int .i64 0, .slice none 0 0] (n * 3)) 29)) := by
  obtain ⟨i, hi, hzz⟩ := Option.map_eq_some_iff.1 info_ir
  simp only [Prod.mk.injEq] at hzz
  obtain ⟨hz, hs, hb⟩ := hzz
  have := run_make (P := Try.prog) w 27 29 i _ Try.underlying27 hi hz .i64 .i64 n n (by omega) (by omega) (by rw [hb]; omega) (by omega)
  simpa [hs, Value.cells] using this

set_option maxHeartbeats 1000000 in
theorem toS_ofQ (ks : List IrD) (ih : ∀ k ∈ ks, ToSaysQ k) (v : Value) (w : World) (hw : ks.length + wts ks ≤ 1048576) (h : irSh.slice.rep w (· < w.heap.size) [v] ks) :
    Calls Try.prog 10 #[v] w fun e w' => (∃ v', e = .returned v' ∧ irSh.slice.rep w' (New w.heap.size w') [v'] ks) ∧ Below w.heap.size w w' := by
  obtain ⟨a, cap, css, rfl, hcap, hmax, hrow, hk⟩ := irs_open h
  clear h hcap hmax
  have IH : Hid (∀ k ∈ ks, ToSaysQ k) := ih
  have HR : Hid (RowAt w (· < w.heap.size) 3 a ks.length css ∧ ∀ i (h : i < ks.length), irSh.rep w (· < w.heap.size) (css i) ks[i]) := ⟨hrow, hk⟩
  have HW : Hid (wts ks ≤ 1048576) := by show wts ks ≤ 1048576; omega
  have hn : ks.length ≤ 1048576 := by omega
  clear ih hrow hk hw
  have hmk := make_ir ks.length hn
  go_enter Try.func10, Try.ntmps10
  go_wp2
  clear hmk
  generalize hw1 : w.alloc _ = w1
  have F1 : FillingQ irSh 29 w1 w.heap.size ks.length 0 ks := by
    subst hw1
    exact FillingQ.start
  have B1 : Below w.heap.size w w1 := by subst hw1; exact (Below.refl _ _).alloc (Nat.le_refl _) _
  have Z1 : w.heap.size < w1.heap.size := by subst hw1; simp
  clear hw1
  go_loopw [4] (fun v4 wr => ∃ i : Nat, i ≤ ks.length ∧ v4 = .int .i64 i ∧ Hid (FillingQ irSh 29 wr w.heap.size ks.length i ks ∧ Below w.heap.size w wr ∧ w.heap.size < wr.heap.size)) (fun v4 _ => ks.length - (intOf v4).toNat)
  case atStart => exact ⟨0, Nat.zero_le _, rfl, F1, B1, Z1⟩
  case round =>
    obtain ⟨i, hi, rfl, HF⟩ := hrel
    by_cases hlt : i < ks.length
    · obtain ⟨b, o, rfl, hS, hc⟩ := HR.out.1 i hlt
      have hrep := HR.out.2 i hlt
      obtain ⟨v0, v1, v2, hcs, c0, c1, c2⟩ := ir_cells hrep hc
      obtain ⟨F, HB, hZ⟩ := HF.out
      have e0 := (HB.cell (p := ⟨b, o + i * 3, none⟩) hS).trans c0
      have e1 := (HB.cell (p := ⟨b, o + i * 3 + 1, none⟩) hS).trans c1
      have e2 := (HB.cell (p := ⟨b, o + i * 3 + 2, none⟩) hS).trans c2
      rw [hcs] at hrep
      clear c0 c1 c2 hc hcs
      have hR := irSh.mono (irSh.below hrep HB) (S' := (· < wr.heap.size)) (fun b hb => Nat.lt_of_lt_of_le hb HB.size)
      clear hrep
      have hcall := IH.out ks[i] (List.getElem_mem hlt) [v0, v1, v2] wr (by have := wts_take hlt; have := wts_take_le ks (i + 1); have := HW.out; omega) hR
      clear hR F HB hZ
      go_wp2_with fail
      refine hcall.mono ?_
      clear hcall
      rintro e w1 ⟨⟨cs', rfl, hrep'⟩, hb⟩
      obtain ⟨F, HB, hZ⟩ := HF.out
      have hl : cs'.length = 3 := irSh.len hrep'
      have hst := F.store (P := Try.prog) hb hZ hlt hl (irSh.one hrep')
      have F2 : Hid (FillingQ irSh 29 (w1.setCells w.heap.size (i * 3) cs') w.heap.size ks.length (i + 1) ks) := F.step hb hZ hlt hlt hrep'
      have B2 : Hid (Below w.heap.size w (w1.setCells w.heap.size (i * 3) cs')) := (HB.trans (hb.mono (Nat.le_of_lt hZ))).trans (setCells_below (Nat.le_refl _) _ _)
      have Z2 : Hid (w.heap.size < (w1.setCells w.heap.size (i * 3) cs').heap.size) := by show _ < _; rw [setCells_size]; exact Nat.lt_of_lt_of_le hZ hb.size
      have hk5 : irSh.k = 3 := rfl
      rw [hk5] at hst
      clear F HB hZ HF hrep' hb hk5
      generalize w1.setCells w.heap.size (i * 3) cs' = w2 at hst F2 B2 Z2
      go_wp2
      go_round
      case rel => exact ⟨i + 1, by omega, by go_num, F2.out, B2.out, Z2.out⟩
      case measure => simp [intOf]; omega
    · obtain rfl : i = ks.length := by omega
      go_wp2
      go_ret
      obtain ⟨F, HB, hZ⟩ := HF.out
      exact ⟨⟨_, rfl, F.done hZ (by unfold maxLen; omega)⟩, HB⟩

set_option maxHeartbeats 1000000 in
theorem to_anyQ (T : IrD) : ToSaysQ T := by
  induction T using ind with
  | h x x2 ih =>
    intro cs w hw h
    obtain ⟨x0, x1, x2k, a2, c2, hT, rfl, f0, f1, f2⟩ := ir_open h
    cases hT
    clear h
    have q2 : x2.length + wts x2 ≤ 1048576 := by simp [wt] at hw; omega
    have K2 : ∀ (w' : World), Below w.heap.size w w' → Calls Try.prog 10 #[.slice a2 x2.length c2] w' fun e w'' => (∃ v', e = .returned v' ∧ irSh.slice.rep w'' (New w'.heap.size w'') [v'] x2) ∧ Below w'.heap.size w' w'' :=
      fun w' hb => toS_ofQ x2 ih _ w' q2 (irSh.slice.mono (irSh.slice.below f2 hb) fun b hlt => Nat.lt_of_lt_of_le hlt hb.size)
    clear ih hw f2 q2
    go_enter Try.func6, Try.ntmps6
    go_wp2_with fail
    refine (K2 _ ((((Below.refl _ _).alloc (Nat.le_refl _) _).alloc (by simp) _).alloc (by simp; omega) _)).mono ?_
    clear K2
    rintro e w1 ⟨⟨v', rfl, hrep⟩, hb⟩
    obtain ⟨a2', c2', e'⟩ := slice_cells hrep
    cases e'
    have hz1 : w.heap.size + 3 ≤ w1.heap.size := by have := hb.size; simp at this; omega
    have hpA1 : w1.heap[w.heap.size]? = some (.cells #[.int .i64 x0, .int .i64 x1, .slice a2 x2.length c2] 24) := by
      rw [hb.block _ (by simp; omega), Below.heap_alloc _ _ _ (by simp; omega), Below.heap_alloc _ _ _ (by simp)]
      exact alloc_top _ _
    have hp11 : w1.heap[w.heap.size + 1]? = some (.cells #[.int .i64 0, .int .i64 0, .slice none 0 0] 29) := by
      rw [hb.block _ (by simp), Below.heap_alloc _ _ _ (by simp)]
      have := alloc_top (w.alloc (.cells #[.int .i64 x0, .int .i64 x1, .slice a2 x2.length c2] 24)) (.cells #[.int .i64 0, .int .i64 0, .slice none 0 0] 29)
      rwa [World.size_alloc] at this
    have hp21 : w1.heap[w.heap.size + 1 + 1]? = some (.cells #[.int .i64 x0, .int .i64 x1, .slice none 0 0] 29) := by
      rw [hb.block _ (by simp)]
      have := alloc_top ((w.alloc (.cells #[.int .i64 x0, .int .i64 x1, .slice a2 x2.length c2] 24)).alloc (.cells #[.int .i64 0, .int .i64 0, .slice none 0 0] 29)) (.cells #[.int .i64 x0, .int .i64 x1, .slice none 0 0] 29)
      rwa [World.size_alloc, World.size_alloc] at this
    have HB1 : Hid (Below w.heap.size w w1) := ((((Below.refl _ _).alloc (Nat.le_refl _) _).alloc (by simp) _).alloc (by simp; omega) _).trans (hb.mono (by simp; omega))
    have R2_1 : Hid (irSh.slice.rep w1 (New (w.heap.size + 3) w1) [.slice a2' x2.length c2'] x2) := irSh.slice.mono hrep fun b hS => ⟨by have := hS.1; simp at this; omega, hS.2⟩
    clear hrep hb
    have cr1_0 : w1.cell? ⟨w.heap.size + 1, 0, none⟩ = some (.int .i64 0) := by simp [World.cell?, hp11]
    have cr1_1 : w1.cell? ⟨w.heap.size + 1, 1, none⟩ = some (.int .i64 0) := by simp [World.cell?, hp11]
    have cr1_2 : w1.cell? ⟨w.heap.size + 1, 2, none⟩ = some (.slice none 0 0) := by simp [World.cell?, hp11]
    have fr1 : ∀ o, w1.frozen? ⟨w.heap.size + 1, o, none⟩ = false := fun o => by simp [World.frozen?, hp11]
    have co1_0 : w1.cell? ⟨w.heap.size + 1 + 1, 0, none⟩ = some (.int .i64 x0) := by simp [World.cell?, hp21]
    have co1_1 : w1.cell? ⟨w.heap.size + 1 + 1, 1, none⟩ = some (.int .i64 x1) := by simp [World.cell?, hp21]
    have co1_2 : w1.cell? ⟨w.heap.size + 1 + 1, 2, none⟩ = some (.slice none 0 0) := by simp [World.cell?, hp21]
    have fo1 : ∀ o, w1.frozen? ⟨w.heap.size + 1 + 1, o, none⟩ = false := fun o => by simp [World.frozen?, hp21]
    clear hpA1 hp11 hp21
    go_wp2
    refine bodyPost_ret (v := .agg #[.int .i64 x0, .int .i64 x1, .slice a2' x2.length c2']) (by simp [results, Try.f6, go_sem, cr1_0, cr1_1, cr1_2]) rfl ?_
    refine ⟨⟨[.int .i64 x0, .int .i64 x1, .slice a2' x2.length c2'], by rfl, ir_shut f0 f1 (irSh.slice.mono (irSh.slice.on R2_1.out fun b hS => by have hS1 := hS.1; repeat rw [Below.heap_setCell _ _ _ _ (by simp; omega)]) fun b hS => ⟨by have := hS.1; omega, by simp [World.setCell]; exact hS.2.1, by have hS1 := hS.1; unfold Plain; (repeat rw [Below.heap_setCell _ _ _ _ (by simp; omega)]); exact hS.2.2⟩)⟩, ?_⟩
    repeat first | with_reducible exact HB1.out | (refine Below.setCell ?_ (by first | (simp; done) | (simp; omega)) _)

theorem toS_anyQ (ks : List IrD) (v : Value) (w : World) (hw : ks.length + wts ks ≤ 1048576) (h : irSh.slice.rep w (· < w.heap.size) [v] ks) :
    Calls Try.prog 10 #[v] w fun e w' => (∃ v', e = .returned v' ∧ irSh.slice.rep w' (New w.heap.size w') [v'] ks) ∧ Below w.heap.size w w' := toS_ofQ ks (fun k _ => to_anyQ k) v w hw h

end Go.Proofs.Ytndlhmpglpehcaa.ir
