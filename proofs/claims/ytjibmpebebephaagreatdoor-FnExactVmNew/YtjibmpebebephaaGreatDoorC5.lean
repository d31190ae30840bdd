/-
  The law's copies of a Fun and of slices of it: the same in new memory, all of it apart; nothing that was there is turned.
  The law's comparison of two Ops and of slices of them: of two that are the same it says true; nothing that was there is turned.
  The law's comparison of two Funs and of slices of them: of two that are the same it says true; nothing that was there is turned.
  The law's marks in a Op: where it lies apart, each cell gets a number, or a text, of its own, and what is read back is what was written; nothing else is turned.
-/
import Derived.Laws.MakeOwn
import Derived.Deep.OwnRows
import Derived.Deep.RegionWith
import Derived.Test.YtjibmpebebephaaGreatDoorC1
import Derived.Test.YtjibmpebebephaaGreatDoorC2
import Derived.Test.YtjibmpebebephaaGreatDoorC3
import Derived.Test.YtjibmpebebephaaGreatDoorC4
namespace Go.Proofs.YtjibmpebebephaaGreatDoor.fun
open Go.RowKit Go.Proofs.YtjibmpebebephaaGreatDoor.rose Go.Proofs.YtjibmpebebephaaGreatDoor
set_option linter.unusedVariables false

def ToPSays (T : FunD) : Prop := ∀ cs w, wt T ≤ 1048576 → funSh.rep w (· < w.heap.size) cs T →
  Calls Tryz.prog 42 #[.agg cs.toArray] w fun e w' => (∃ cs', e = .returned (.agg cs'.toArray) ∧ funSp.rep w' (fun b => w.heap.size ≤ b ∧ b < w'.heap.size) cs' T) ∧ Below w.heap.size w w'

set_option maxHeartbeats 2000000 in
theorem toP_any (T : FunD) : ToPSays T := by
  intro cs w hw h
  obtain ⟨x0, x1, a1, c1, rfl, rfl, f0, f1⟩ := fun_open h
  clear h
  have q1 : x1.length ≤ 1048576 := by simp [wt] at hw; omega
  have K1 : ∀ (w' : World), Below w.heap.size w w' → Calls Tryz.prog 72 #[.slice a1 x1.length c1] w' fun e w'' => (∃ v', e = .returned v' ∧ op.opSp.sslice.rep w'' (fun b => w'.heap.size ≤ b ∧ b < w''.heap.size) [v'] x1) ∧ Below w'.heap.size w' w'' :=
    fun w' hb => op.toPS_any x1 _ w' q1 (op.opSh.slice.mono (op.opSh.slice.below f1 hb) fun b hlt => Nat.lt_of_lt_of_le hlt hb.size)
  clear hw f1 q1
  go_enter Tryz.func42, Tryz.ntmps42
  go_wp2_with fail
  refine (K1 _ ((((Below.refl _ _).alloc (Nat.le_refl _) _).alloc (by simp) _).alloc (by simp; omega) _)).mono ?_
  clear K1
  rintro e w1 ⟨⟨v', rfl, hrep⟩, hb⟩
  obtain ⟨a1', c1', e'⟩ := sslice_cells hrep
  cases e'
  have hz1 : w.heap.size + 3 ≤ w1.heap.size := by have := hb.size; simp at this; omega
  have hpA1 : w1.heap[w.heap.size]? = some (.cells #[.int .i64 x0, .slice a1 x1.length c1] 78) := by
    rw [hb.block _ (by simp; omega), Below.heap_alloc _ _ _ (by simp; omega), Below.heap_alloc _ _ _ (by simp)]
    exact alloc_top _ _
  have hp11 : w1.heap[w.heap.size + 1]? = some (.cells #[.int .i64 0, .slice none 0 0] 60) := by
    rw [hb.block _ (by simp), Below.heap_alloc _ _ _ (by simp)]
    have := alloc_top (w.alloc (.cells #[.int .i64 x0, .slice a1 x1.length c1] 78)) (.cells #[.int .i64 0, .slice none 0 0] 60)
    rwa [World.size_alloc] at this
  have hp21 : w1.heap[w.heap.size + 1 + 1]? = some (.cells #[.int .i64 x0, .slice none 0 0] 60) := by
    rw [hb.block _ (by simp)]
    have := alloc_top ((w.alloc (.cells #[.int .i64 x0, .slice a1 x1.length c1] 78)).alloc (.cells #[.int .i64 0, .slice none 0 0] 60)) (.cells #[.int .i64 x0, .slice none 0 0] 60)
    rwa [World.size_alloc, World.size_alloc] at this
  have HB1 : Hid (Below w.heap.size w w1) := ((((Below.refl _ _).alloc (Nat.le_refl _) _).alloc (by simp) _).alloc (by simp; omega) _).trans (hb.mono (by simp; omega))
  have R1_1 : Hid (op.opSp.sslice.rep w1 (fun b => w.heap.size + 3 ≤ b ∧ b < w1.heap.size) [.slice a1' x1.length c1'] x1) := op.opSp.sslice.mono hrep fun b hS => ⟨by have := hS.1; simp at this; omega, hS.2⟩
  clear hrep hb
  have cr1_0 : w1.cell? ⟨w.heap.size + 1, 0, none⟩ = some (.int .i64 0) := by simp [World.cell?, hp11]
  have cr1_1 : w1.cell? ⟨w.heap.size + 1, 1, none⟩ = some (.slice none 0 0) := by simp [World.cell?, hp11]
  have fr1 : ∀ o, w1.frozen? ⟨w.heap.size + 1, o, none⟩ = false := fun o => by simp [World.frozen?, hp11]
  have co1_0 : w1.cell? ⟨w.heap.size + 1 + 1, 0, none⟩ = some (.int .i64 x0) := by simp [World.cell?, hp21]
  have co1_1 : w1.cell? ⟨w.heap.size + 1 + 1, 1, none⟩ = some (.slice none 0 0) := by simp [World.cell?, hp21]
  have fo1 : ∀ o, w1.frozen? ⟨w.heap.size + 1 + 1, o, none⟩ = false := fun o => by simp [World.frozen?, hp21]
  clear hpA1 hp11 hp21
  go_wp2
  refine bodyPost_ret (v := .agg #[.int .i64 x0, .slice a1' x1.length c1']) (by simp [results, Tryz.f42, go_sem, cr1_0, cr1_1]) rfl ?_
  refine ⟨⟨[.int .i64 x0, .slice a1' x1.length c1'], by rfl, funp_shut f0 (op.opSp.sslice.mono (op.opSp.sslice.on R1_1.out fun b hS => by repeat rw [Below.heap_setCell _ _ _ _ (by simp; omega)]) fun b hS => ⟨by omega, by simp [World.setCell]; exact hS.2⟩)⟩, ?_⟩
  repeat first | with_reducible exact HB1.out | (refine Below.setCell ?_ (by first | (simp; done) | (simp; omega)) _)

theorem infoP_fun : (Tryz.prog.info? 60).map (fun i => (i.zero, i.size, i.bytes)) = some (some (.agg #[.int .i64 0, .slice none 0 0]), 2, 32) := by kernel_rfl

theorem makeP_fun (n : Nat) (h : n ≤ 1048576) (w : World) : (Instr.makeSlice 31 (.int .i64 (n : Int)) (.int .i64 (n : Int))).run Tryz.prog w = .ok (.slice (some ⟨w.heap.size, 0, none⟩) n n)
    (w.alloc (.cells (madeCells #[.int .i64 0, .slice none 0 0] (n * 2)) 60)) := by
  obtain ⟨i, hi, hzz⟩ := Option.map_eq_some_iff.1 infoP_fun
  simp only [Prod.mk.injEq] at hzz
  obtain ⟨hz, hs, hb⟩ := hzz
  have := run_make (P := Tryz.prog) w 31 60 i _ Tryz.underlying31 hi hz .i64 .i64 n n (by omega) (by omega) (by rw [hb]; omega) (by omega)
  simpa [hs, Value.cells] using this

set_option maxHeartbeats 1000000 in
theorem toPS_of (ks : List FunD) (ih : ∀ k ∈ ks, ToPSays k) (v : Value) (w : World) (hw : ks.length + wts ks ≤ 1048576) (h : funSh.slice.rep w (· < w.heap.size) [v] ks) :
    Calls Tryz.prog 12 #[v] w fun e w' => (∃ v', e = .returned v' ∧ funSp.sslice.rep w' (fun b => w.heap.size ≤ b ∧ b < w'.heap.size) [v'] ks) ∧ Below w.heap.size w w' := by
  obtain ⟨a, cap, css, rfl, hcap, hmax, hrow, hk⟩ := funs_open h
  clear h hcap hmax
  have IH : Hid (∀ k ∈ ks, ToPSays k) := ih
  have HR : Hid (RowAt w (· < w.heap.size) 2 a ks.length css ∧ ∀ i (h : i < ks.length), funSh.rep w (· < w.heap.size) (css i) ks[i]) := ⟨hrow, hk⟩
  have HW : Hid (wts ks ≤ 1048576) := by show wts ks ≤ 1048576; omega
  have hn : ks.length ≤ 1048576 := by omega
  clear ih hrow hk hw
  have hmk := makeP_fun ks.length hn
  go_enter Tryz.func12, Tryz.ntmps12
  go_wp2
  clear hmk
  generalize hw1 : w.alloc _ = w1
  have F1 : SFilling funSp 60 w1 w.heap.size ks.length 0 ks := by
    subst hw1
    exact SFilling.start
  have B1 : Below w.heap.size w w1 := by subst hw1; exact (Below.refl _ _).alloc (Nat.le_refl _) _
  have Z1 : w.heap.size < w1.heap.size := by subst hw1; simp
  clear hw1
  go_loopw [4] (fun v4 wr => ∃ i : Nat, i ≤ ks.length ∧ v4 = .int .i64 i ∧ Hid (SFilling funSp 60 wr w.heap.size ks.length i ks ∧ Below w.heap.size w wr ∧ w.heap.size < wr.heap.size)) (fun v4 _ => ks.length - (intOf v4).toNat)
  case atStart => exact ⟨0, Nat.zero_le _, rfl, F1, B1, Z1⟩
  case round =>
    obtain ⟨i, hi, rfl, HF⟩ := hrel
    by_cases hlt : i < ks.length
    · obtain ⟨b, o, rfl, hS, hc⟩ := HR.out.1 i hlt
      have hrep := HR.out.2 i hlt
      obtain ⟨v0, v1, hcs, c0, c1⟩ := fun_cells hrep hc
      obtain ⟨F, HB, hZ⟩ := HF.out
      have e0 := (HB.cell (p := ⟨b, o + i * 2, none⟩) hS).trans c0
      have e1 := (HB.cell (p := ⟨b, o + i * 2 + 1, none⟩) hS).trans c1
      rw [hcs] at hrep
      clear c0 c1 hc hcs
      have hR := funSh.mono (funSh.below hrep HB) (S' := (· < wr.heap.size)) (fun b hb => Nat.lt_of_lt_of_le hb HB.size)
      clear hrep
      have hcall := IH.out ks[i] (List.getElem_mem hlt) [v0, v1] wr (by have := wts_take hlt; have := wts_take_le ks (i + 1); have := HW.out; omega) hR
      clear hR F HB hZ
      go_wp2_with fail
      refine hcall.mono ?_
      clear hcall
      rintro e w1 ⟨⟨cs', rfl, hrep'⟩, hb⟩
      obtain ⟨F, HB, hZ⟩ := HF.out
      have hl : cs'.length = 2 := funSp.len hrep'
      have hst := F.store (P := Tryz.prog) hb hZ hlt hl (funSp.one hrep')
      have F2 : Hid (SFilling funSp 60 (w1.setCells w.heap.size (i * 2) cs') w.heap.size ks.length (i + 1) ks) := F.step hb hZ hlt hlt hrep'
      have B2 : Hid (Below w.heap.size w (w1.setCells w.heap.size (i * 2) cs')) := (HB.trans (hb.mono (Nat.le_of_lt hZ))).trans (setCells_below (Nat.le_refl _) _ _)
      have Z2 : Hid (w.heap.size < (w1.setCells w.heap.size (i * 2) cs').heap.size) := by show _ < _; rw [setCells_size]; exact Nat.lt_of_lt_of_le hZ hb.size
      have hk5 : funSp.k = 2 := rfl
      rw [hk5] at hst
      clear F HB hZ HF hrep' hb hk5
      generalize w1.setCells w.heap.size (i * 2) cs' = w2 at hst F2 B2 Z2
      go_wp2
      go_round
      case rel => exact ⟨i + 1, by omega, by go_num, F2.out, B2.out, Z2.out⟩
      case measure => simp [intOf]; omega
    · obtain rfl : i = ks.length := by omega
      go_wp2
      go_ret
      obtain ⟨F, HB, hZ⟩ := HF.out
      exact ⟨⟨_, rfl, F.done hZ (by unfold maxLen; omega)⟩, HB⟩

theorem toPS_any (ks : List FunD) (v : Value) (w : World) (hw : ks.length + wts ks ≤ 1048576) (h : funSh.slice.rep w (· < w.heap.size) [v] ks) :
    Calls Tryz.prog 12 #[v] w fun e w' => (∃ v', e = .returned v' ∧ funSp.sslice.rep w' (fun b => w.heap.size ≤ b ∧ b < w'.heap.size) [v'] ks) ∧ Below w.heap.size w w' := toPS_of ks (fun k _ => toP_any k) v w hw h

end Go.Proofs.YtjibmpebebephaaGreatDoor.fun

namespace Go.Proofs.YtjibmpebebephaaGreatDoor.op
open Go.RowKit Go.Proofs.YtjibmpebebephaaGreatDoor.rose Go.Proofs.YtjibmpebebephaaGreatDoor
set_option linter.unusedVariables false

def EqSays (T : OpD) : Prop := ∀ cs1 cs2 w, opSh.rep w (· < w.heap.size) cs1 T → opSh.rep w (· < w.heap.size) cs2 T →
  Calls Tryz.prog 102 #[.agg cs1.toArray, .agg cs2.toArray] w fun e w' => e = .returned (.bool true) ∧ Below w.heap.size w w'

set_option maxHeartbeats 1000000 in
theorem eq_any (T : OpD) : EqSays T := by
  intro cs1 cs2 w h h'
  obtain ⟨x0, x1, x2, rfl, rfl, f0, f1, f2⟩ := op_open h
  obtain ⟨x0', x1', x2', hT, rfl, g0, g1, g2⟩ := op_open h'
  cases hT
  clear h h'
  go_enter Tryz.func102, Tryz.ntmps102
  go_wp2
  go_ret
  exact ⟨rfl, (((Below.refl _ _).alloc (Nat.le_refl _) _).alloc (by simp) _)⟩

set_option maxHeartbeats 2000000 in
theorem eqS_of (ks : List OpD) (ih : ∀ k ∈ ks, EqSays k) (v1 v2 : Value) (w : World) (h : opSh.slice.rep w (· < w.heap.size) [v1] ks) (h' : opSh.slice.rep w (· < w.heap.size) [v2] ks) :
    Calls Tryz.prog 77 #[v1, v2] w fun e w' => e = .returned (.bool true) ∧ Below w.heap.size w w' := by
  obtain ⟨a, cap, css, rfl, hcap, hmax, hrow, hk⟩ := ops_open h
  obtain ⟨a', cap', css', rfl, hcap', hmax', hrow', hk'⟩ := ops_open h'
  have hmx : (ks.length : Int) ≤ 9223372036854775807 := by unfold maxLen at hmax; omega
  clear h hcap hmax h' hcap' hmax'
  have IH : Hid (∀ k ∈ ks, EqSays k) := ih
  have HR : Hid (RowAt w (· < w.heap.size) 3 a ks.length css ∧ ∀ i (h : i < ks.length), opSh.rep w (· < w.heap.size) (css i) ks[i]) := ⟨hrow, hk⟩
  have HR' : Hid (RowAt w (· < w.heap.size) 3 a' ks.length css' ∧ ∀ i (h : i < ks.length), opSh.rep w (· < w.heap.size) (css' i) ks[i]) := ⟨hrow', hk'⟩
  clear ih hrow hk hrow' hk'
  go_enter Tryz.func77, Tryz.ntmps77
  go_wp2
  go_loopw [5] (fun v5 wr => ∃ i : Nat, i ≤ ks.length ∧ v5 = .int .i64 i ∧ Hid (Below w.heap.size w wr)) (fun v5 _ => ks.length - (intOf v5).toNat)
  case atStart => exact ⟨0, Nat.zero_le _, rfl, Below.refl _ _⟩
  case round =>
    obtain ⟨i, hi, rfl, HB⟩ := hrel
    by_cases hlt : i < ks.length
    · obtain ⟨b, o, rfl, hS, hc⟩ := HR.out.1 i hlt
      have hrep := HR.out.2 i hlt
      obtain ⟨v0, v1, v2, hcs, c0, c1, c2⟩ := op_cells hrep hc
      have e0 := (HB.out.cell (p := ⟨b, o + i * 3, none⟩) hS).trans c0
      have e1 := (HB.out.cell (p := ⟨b, o + i * 3 + 1, none⟩) hS).trans c1
      have e2 := (HB.out.cell (p := ⟨b, o + i * 3 + 2, none⟩) hS).trans c2
      rw [hcs] at hrep
      clear c0 c1 c2 hc hcs
      obtain ⟨b', o', rfl, hS', hc⟩ := HR'.out.1 i hlt
      have hrep' := HR'.out.2 i hlt
      obtain ⟨v0', v1', v2', hcs, c0, c1, c2⟩ := op_cells hrep' hc
      have e0' := (HB.out.cell (p := ⟨b', o' + i * 3, none⟩) hS').trans c0
      have e1' := (HB.out.cell (p := ⟨b', o' + i * 3 + 1, none⟩) hS').trans c1
      have e2' := (HB.out.cell (p := ⟨b', o' + i * 3 + 2, none⟩) hS').trans c2
      rw [hcs] at hrep'
      clear c0 c1 c2 hc hcs
      have hR := opSh.mono (opSh.below hrep HB.out) (S' := (· < wr.heap.size)) (fun b hb => Nat.lt_of_lt_of_le hb HB.out.size)
      have hR' := opSh.mono (opSh.below hrep' HB.out) (S' := (· < wr.heap.size)) (fun b hb => Nat.lt_of_lt_of_le hb HB.out.size)
      clear hrep hrep'
      have hcall := IH.out ks[i] (List.getElem_mem hlt) [v0, v1, v2] [v0', v1', v2'] wr.drew (opSh.on hR fun _ _ => rfl) (opSh.on hR' fun _ _ => rfl)
      clear hR hR'
      go_wp2
      go_region_with (go_at_call 102; refine hcall.mono ?_; rintro e w1 ⟨rfl, hb⟩)
      all_goals
        have B1 : Hid (Below w.heap.size w w1) := (HB.out.drew).trans (hb.mono HB.out.size)
        clear hb hcall HB
        go_wp2
        go_round
        case rel => exact ⟨i + 1, by omega, by go_num, B1⟩
        case measure => simp [intOf]; omega
    · obtain rfl : i = ks.length := by omega
      go_wp2
      go_ret
      exact ⟨rfl, HB.out⟩

theorem eqS_any (ks : List OpD) (v1 v2 : Value) (w : World) (h : opSh.slice.rep w (· < w.heap.size) [v1] ks) (h' : opSh.slice.rep w (· < w.heap.size) [v2] ks) :
    Calls Tryz.prog 77 #[v1, v2] w fun e w' => e = .returned (.bool true) ∧ Below w.heap.size w w' := eqS_of ks (fun k _ => eq_any k) v1 v2 w h h'

end Go.Proofs.YtjibmpebebephaaGreatDoor.op

namespace Go.Proofs.YtjibmpebebephaaGreatDoor.fun
open Go.RowKit Go.Proofs.YtjibmpebebephaaGreatDoor.rose Go.Proofs.YtjibmpebebephaaGreatDoor
set_option linter.unusedVariables false

def EqSays (T : FunD) : Prop := ∀ cs1 cs2 w, funSh.rep w (· < w.heap.size) cs1 T → funSh.rep w (· < w.heap.size) cs2 T →
  Calls Tryz.prog 47 #[.agg cs1.toArray, .agg cs2.toArray] w fun e w' => e = .returned (.bool true) ∧ Below w.heap.size w w'

set_option maxHeartbeats 1000000 in
theorem eq_any (T : FunD) : EqSays T := by
  intro cs1 cs2 w h h'
  obtain ⟨x0, x1, a1, c1, rfl, rfl, f0, f1⟩ := fun_open h
  obtain ⟨x0', x1', a1', c1', hT, rfl, g0, g1⟩ := fun_open h'
  cases hT
  clear h h'
  have K1 : ∀ (w' : World), Below w.heap.size w w' → Calls Tryz.prog 77 #[.slice a1 x1.length c1, .slice a1' x1.length c1'] w' fun e w'' => e = .returned (.bool true) ∧ Below w'.heap.size w' w'' :=
    fun w' hb => op.eqS_any x1 _ _ w' (op.opSh.slice.mono (op.opSh.slice.below f1 hb) fun b hlt => Nat.lt_of_lt_of_le hlt hb.size) (op.opSh.slice.mono (op.opSh.slice.below g1 hb) fun b hlt => Nat.lt_of_lt_of_le hlt hb.size)
  clear f1 g1
  go_enter Tryz.func47, Tryz.ntmps47
  go_wp2_with fail
  refine (K1 _ (((Below.refl _ _).alloc (Nat.le_refl _) _).alloc (by simp) _)).mono ?_
  rintro e w1 ⟨rfl, hb⟩
  have B1 : Hid (Below w.heap.size w w1) := (((Below.refl _ _).alloc (Nat.le_refl _) _).alloc (by simp) _).trans (hb.mono (by simp; omega))
  have z1 : w.heap.size + 2 ≤ w1.heap.size := Nat.le_trans (by simp) hb.size
  clear hb K1
  go_wp2
  go_ret
  exact ⟨rfl, B1.out⟩

set_option maxHeartbeats 2000000 in
theorem eqS_of (ks : List FunD) (ih : ∀ k ∈ ks, EqSays k) (v1 v2 : Value) (w : World) (h : funSh.slice.rep w (· < w.heap.size) [v1] ks) (h' : funSh.slice.rep w (· < w.heap.size) [v2] ks) :
    Calls Tryz.prog 14 #[v1, v2] w fun e w' => e = .returned (.bool true) ∧ Below w.heap.size w w' := by
  obtain ⟨a, cap, css, rfl, hcap, hmax, hrow, hk⟩ := funs_open h
  obtain ⟨a', cap', css', rfl, hcap', hmax', hrow', hk'⟩ := funs_open h'
  have hmx : (ks.length : Int) ≤ 9223372036854775807 := by unfold maxLen at hmax; omega
  clear h hcap hmax h' hcap' hmax'
  have IH : Hid (∀ k ∈ ks, EqSays k) := ih
  have HR : Hid (RowAt w (· < w.heap.size) 2 a ks.length css ∧ ∀ i (h : i < ks.length), funSh.rep w (· < w.heap.size) (css i) ks[i]) := ⟨hrow, hk⟩
  have HR' : Hid (RowAt w (· < w.heap.size) 2 a' ks.length css' ∧ ∀ i (h : i < ks.length), funSh.rep w (· < w.heap.size) (css' i) ks[i]) := ⟨hrow', hk'⟩
  clear ih hrow hk hrow' hk'
  go_enter Tryz.func14, Tryz.ntmps14
  go_wp2
  go_loopw [5] (fun v5 wr => ∃ i : Nat, i ≤ ks.length ∧ v5 = .int .i64 i ∧ Hid (Below w.heap.size w wr)) (fun v5 _ => ks.length - (intOf v5).toNat)
  case atStart => exact ⟨0, Nat.zero_le _, rfl, Below.refl _ _⟩
  case round =>
    obtain ⟨i, hi, rfl, HB⟩ := hrel
    by_cases hlt : i < ks.length
    · obtain ⟨b, o, rfl, hS, hc⟩ := HR.out.1 i hlt
      have hrep := HR.out.2 i hlt
      obtain ⟨v0, v1, hcs, c0, c1⟩ := fun_cells hrep hc
      have e0 := (HB.out.cell (p := ⟨b, o + i * 2, none⟩) hS).trans c0
      have e1 := (HB.out.cell (p := ⟨b, o + i * 2 + 1, none⟩) hS).trans c1
      rw [hcs] at hrep
      clear c0 c1 hc hcs
      obtain ⟨b', o', rfl, hS', hc⟩ := HR'.out.1 i hlt
      have hrep' := HR'.out.2 i hlt
      obtain ⟨v0', v1', hcs, c0, c1⟩ := fun_cells hrep' hc
      have e0' := (HB.out.cell (p := ⟨b', o' + i * 2, none⟩) hS').trans c0
      have e1' := (HB.out.cell (p := ⟨b', o' + i * 2 + 1, none⟩) hS').trans c1
      rw [hcs] at hrep'
      clear c0 c1 hc hcs
      have hR := funSh.mono (funSh.below hrep HB.out) (S' := (· < wr.heap.size)) (fun b hb => Nat.lt_of_lt_of_le hb HB.out.size)
      have hR' := funSh.mono (funSh.below hrep' HB.out) (S' := (· < wr.heap.size)) (fun b hb => Nat.lt_of_lt_of_le hb HB.out.size)
      clear hrep hrep'
      have hcall := IH.out ks[i] (List.getElem_mem hlt) [v0, v1] [v0', v1'] wr.drew (funSh.on hR fun _ _ => rfl) (funSh.on hR' fun _ _ => rfl)
      clear hR hR'
      go_wp2
      go_region_with (go_at_call 47; refine hcall.mono ?_; rintro e w1 ⟨rfl, hb⟩)
      all_goals
        have B1 : Hid (Below w.heap.size w w1) := (HB.out.drew).trans (hb.mono HB.out.size)
        clear hb hcall HB
        go_wp2
        go_round
        case rel => exact ⟨i + 1, by omega, by go_num, B1⟩
        case measure => simp [intOf]; omega
    · obtain rfl : i = ks.length := by omega
      go_wp2
      go_ret
      exact ⟨rfl, HB.out⟩

theorem eqS_any (ks : List FunD) (v1 v2 : Value) (w : World) (h : funSh.slice.rep w (· < w.heap.size) [v1] ks) (h' : funSh.slice.rep w (· < w.heap.size) [v2] ks) :
    Calls Tryz.prog 14 #[v1, v2] w fun e w' => e = .returned (.bool true) ∧ Below w.heap.size w w' := eqS_of ks (fun k _ => eq_any k) v1 v2 w h h'

end Go.Proofs.YtjibmpebebephaaGreatDoor.fun

namespace Go.Proofs.YtjibmpebebephaaGreatDoor.op
open Go.RowKit Go.Proofs.YtjibmpebebephaaGreatDoor.rose Go.Proofs.YtjibmpebebephaaGreatDoor
set_option linter.unusedVariables false

/-- How many marks it takes as an element. -/
def cnt : OpD → Nat
  | (x0, x1, x2) => 3
def cnts : List OpD → Nat
  | [] => 0
  | k :: ks => cnt k + cnts ks
def mk (k : Int) : OpD → OpD
  | (x0, x1, x2) => (k, k + 1, k + 1 + 1)
def mks (k : Int) : List OpD → List OpD
  | [] => []
  | t :: ts => mk k t :: mks (k + (cnt t : Nat)) ts

theorem mks_length (k : Int) (ks : List OpD) : (mks k ks).length = ks.length := by
  induction ks generalizing k with
  | nil => simp [mks]
  | cons t ts ih => simp [mks, ih]
theorem cnts_take {ks : List OpD} {i : Nat} (h : i < ks.length) : cnts (ks.take (i + 1)) = cnts (ks.take i) + cnt ks[i] := by
  induction ks generalizing i with
  | nil => simp at h
  | cons k ks ih =>
    cases i with
    | zero => simp [cnts]
    | succ i => simp [cnts, ih (by simpa using h)]; omega
theorem cnts_take_le (ks : List OpD) (i : Nat) : cnts (ks.take i) ≤ cnts ks := by
  induction ks generalizing i with
  | nil => simp [cnts]
  | cons k ks ih =>
    cases i with
    | zero => simp [cnts]
    | succ i => simp [cnts]; exact ih i
theorem mks_get {k : Int} {ks : List OpD} {i : Nat} (h : i < ks.length) (h' : i < (mks k ks).length) : (mks k ks)[i] = mk (k + (cnts (ks.take i) : Nat)) ks[i] := by
  induction ks generalizing k i with
  | nil => simp at h
  | cons t ts ih =>
    cases i with
    | zero => simp [mks, cnts]
    | succ i =>
      simp only [mks, List.getElem_cons_succ, List.take_succ_cons, cnts]
      rw [ih (by simpa using h)]
      congr 1
      omega
theorem cnts_le (ks : List OpD) : cnts ks ≤ 3 * ks.length := by
  induction ks with
  | nil => simp [cnts]
  | cons a l ih =>
    have : cnt a = 3 := rfl
    simp only [cnts, List.length_cons]
    omega

/-- The first i are marked. -/
def mid (k : Int) (ks : List OpD) (i : Nat) : List OpD := (mks k ks).take i ++ ks.drop i
theorem mid_length (k : Int) (ks : List OpD) {i : Nat} (h : i ≤ ks.length) : (mid k ks i).length = ks.length := by
  simp [mid, mks_length]; omega
theorem mid_zero (k : Int) (ks : List OpD) : mid k ks 0 = ks := by simp [mid]
theorem mid_full (k : Int) (ks : List OpD) : mid k ks ks.length = mks k ks := by
  unfold mid; rw [List.take_of_length_le (by rw [mks_length]; exact Nat.le_refl _)]; simp
theorem mid_get (k : Int) (ks : List OpD) {i : Nat} (h : i < ks.length) (h' : i < (mid k ks i).length) : (mid k ks i)[i] = ks[i] := by
  have e : (mid k ks i)[i]? = ks[i]? := by
    unfold mid
    rw [List.getElem?_append_right (by simp; omega)]
    simp [mks_length, Nat.min_eq_left (Nat.le_of_lt h)]
  rw [List.getElem?_eq_getElem h, List.getElem?_eq_getElem h'] at e
  exact Option.some.inj e
theorem mid_set (k : Int) (ks : List OpD) {i : Nat} (h : i < ks.length) : (mid k ks i).set i (mk (k + (cnts (ks.take i) : Nat)) ks[i]) = mid k ks (i + 1) := by
  unfold mid
  have hl : ((mks k ks).take i).length = i := by simp [mks_length]; omega
  rw [List.set_append, if_neg (by omega), hl, Nat.sub_self, List.drop_eq_getElem_cons h, List.set_cons_zero]
  rw [List.take_succ_eq_append_getElem (show i < (mks k ks).length by rw [mks_length]; exact h), List.append_assoc, mks_get h]
  rfl

def MarkSays (ks : List OpD) : Prop := ∀ (v : Value) (w : World) (k : Int) (S : Nat → Prop), 1 ≤ k → k + (cnts ks : Nat) ≤ 1152921504606846976 → (∀ b, S b → b < w.heap.size) → opSp.sslice.rep w S [v] ks →
  Calls Tryz.prog 48 #[v, .int .i64 k] w fun e w' => e = .returned (.int .i64 (k + (cnts ks : Nat))) ∧ opSp.sslice.rep w' S [v] (mks k ks) ∧ Only S w w'

theorem mk_eq (k : Int) (x0 : Int) (x1 : Int) (x2 : Int) : mk k ((x0, x1, x2)) = (k, k + 1, k + 1 + 1) := by simp [mk]

set_option maxRecDepth 100000 in
set_option maxHeartbeats 4000000 in
theorem mark_of (ks : List OpD) : MarkSays ks := by
  intro v w k S hk1 hk2 hS h
  obtain ⟨a, cap, css, F, rfl, hcap, hmax, hnone, hrow⟩ := opps_open h
  have hmx : (ks.length : Int) ≤ 9223372036854775807 := by unfold maxLen at hmax; omega
  have HC : Hid (ks.length ≤ cap ∧ cap ≤ maxLen ∧ (a = none → cap = 0)) := ⟨hcap, hmax, hnone⟩
  have HS : Hid (∀ b, S b → b < w.heap.size) := hS
  have HR : Hid (SRow opSp w S a css F (mid k ks 0)) := by show SRow _ _ _ _ _ _ _; rw [mid_zero]; exact hrow
  clear h hcap hmax hnone hS hrow
  have HK : Hid (k + (cnts ks : Nat) ≤ 1152921504606846976) := hk2
  clear hk2
  go_enter Tryz.func48, Tryz.ntmps48
  go_wp2
  go_loopw [1, 5] (fun v1 v5 wr => ∃ (i : Nat) (css' : Nat → List Value), i ≤ ks.length ∧ v5 = .int .i64 i ∧ v1 = .int .i64 (k + (cnts (ks.take i) : Nat)) ∧ Hid (SRow opSp wr S a css' F (mid k ks i) ∧ Only S w wr)) (fun _ v5 _ => ks.length - (intOf v5).toNat)
  case atStart => exact ⟨0, css, Nat.zero_le _, rfl, by simp [cnts], HR.out, Only.refl _ _⟩
  case round =>
    obtain ⟨i, css', hi, rfl, rfl, HJ⟩ := hrel
    by_cases hlt : i < ks.length
    · have hlm : i < (mid k ks i).length := by rw [mid_length k ks hi]; exact hlt
      obtain ⟨b, o, rfl, hSb, hFb, hc, hfz, cur, t, hbk⟩ := HJ.out.1.at hlm
      have hrep := HJ.out.1.rep i hlm
      rw [mid_get k ks hlt] at hrep
      obtain ⟨x0, x1, x2, hT, hcs, f0, f1, f2⟩ := opp_open hrep
      rw [hcs] at hc
      have ce0_0 : wr.cell? ⟨b, o + i * 3, none⟩ = some (.int .i64 x0) := hc 0 _ rfl
      have ce0_1 : wr.cell? ⟨b, o + i * 3 + 1, none⟩ = some (.int .i64 x1) := hc 1 _ rfl
      have ce0_2 : wr.cell? ⟨b, o + i * 3 + 2, none⟩ = some (.int .i64 x2) := hc 2 _ rfl
      have W1 : Hid (cnts (ks.take (i + 1)) = cnts (ks.take i) + cnt ks[i]) := cnts_take hlt
      have W2 : Hid (cnts (ks.take (i + 1)) ≤ cnts ks) := cnts_take_le ks (i + 1)
      have W3 : Hid (cnt ks[i] = 3) := by show _ = _; rw [hT]; simp [cnt]
      obtain ⟨k1, hk⟩ : ∃ k1 : Int, k1 = k + (cnts (ks.take i) : Nat) := ⟨_, rfl⟩
      have HK1 : Hid (k1 = k + (cnts (ks.take i) : Nat)) := hk
      rw [← hk]
      have hb1 : 1 ≤ k1 := by omega
      have hb2 : k1 + 3 ≤ 1152921504606846976 := by have := W1.out; have := W2.out; have := W3.out; have := HK.out; omega
      have BK : Hid (wr.heap[b]? = some (.cells cur t)) := hbk
      have NB : Hid ((∀ q, F i q → q ≠ b) ∧ ¬ F i b ∧ S b) := ⟨fun q hq e => hFb (e ▸ hq), hFb, hSb⟩
      have HT : Hid (ks[i] = (x0, x1, x2)) := hT
      have z0 : b < wr.heap.size := Nat.lt_of_lt_of_le (HS.out b hSb) HJ.out.2.size
      have FZ0 : Hid (∀ q, F i q → q < wr.heap.size) := fun q hq => Nat.lt_of_lt_of_le (HS.out q (HJ.out.1.sub i hlm q hq)) HJ.out.2.size
      have TT0 : Hid (Turn2 b (o + i * 3) (o + i * 3 + 3) (F i) wr wr) := Turn2.refl _ _ _ _ _
      clear hk hrep hcs hc hbk hFb hSb hT f0 f1 f2
      have hx : k1 + 1 + 1 + 1 = k + (cnts (ks.take (i + 1)) : Nat) := by have := W1.out; have := W3.out; have := HK1.out; omega
      have HX : Hid (k1 + 1 + 1 + 1 = k + (cnts (ks.take (i + 1)) : Nat)) := hx
      clear hx
      have NX : Hid (∃ css2, SRow opSp (((wr.setCell ⟨b, o + i * 3, none⟩ (.int .i64 k1)).setCell ⟨b, o + i * 3 + 1, none⟩ (.int .i64 (k1 + 1))).setCell ⟨b, o + i * 3 + 2, none⟩ (.int .i64 (k1 + 1 + 1))) S (some ⟨b, o, none⟩) css2 F (mid k ks (i + 1)) ∧ Only S w (((wr.setCell ⟨b, o + i * 3, none⟩ (.int .i64 k1)).setCell ⟨b, o + i * 3 + 1, none⟩ (.int .i64 (k1 + 1))).setCell ⟨b, o + i * 3 + 2, none⟩ (.int .i64 (k1 + 1 + 1)))) := by
        have CD : CellsAt (((wr.setCell ⟨b, o + i * 3, none⟩ (.int .i64 k1)).setCell ⟨b, o + i * 3 + 1, none⟩ (.int .i64 (k1 + 1))).setCell ⟨b, o + i * 3 + 2, none⟩ (.int .i64 (k1 + 1 + 1))) b (o + i * 3) [.int .i64 k1, .int .i64 (k1 + 1), .int .i64 (k1 + 1 + 1)] := by
          intro q v hq
          match q, hq with
          | 0, hq => simp at hq; subst hq; exact ((cell_set_ne (by omega)).trans ((cell_set_ne (by omega)).trans (cell_set_eq ce0_0)))
          | 1, hq => simp at hq; subst hq; exact ((cell_set_ne (by omega)).trans (cell_set_eq ((cell_set_ne (by omega)).trans ce0_1)))
          | 2, hq => simp at hq; subst hq; exact (cell_set_eq ((cell_set_ne (by omega)).trans ((cell_set_ne (by omega)).trans ce0_2)))
          | _ + 3, hq => simp at hq
        have hsh : opSp.rep (((wr.setCell ⟨b, o + i * 3, none⟩ (.int .i64 k1)).setCell ⟨b, o + i * 3 + 1, none⟩ (.int .i64 (k1 + 1))).setCell ⟨b, o + i * 3 + 2, none⟩ (.int .i64 (k1 + 1 + 1))) (F i) [.int .i64 k1, .int .i64 (k1 + 1), .int .i64 (k1 + 1 + 1)] (mk k1 ((x0, x1, x2))) := by rw [mk_eq]; exact opp_shutv (by omega) (by omega) (by omega)
        rw [← HT.out] at hsh
        have hn := HJ.out.1.turn2 (fun q hq => Nat.lt_of_lt_of_le (HS.out q hq) HJ.out.2.size) hlm rfl ((((Turn2.refl b (o + i * 3) (o + i * 3 + 3) (F i) wr).set (o + i * 3) _ (by omega) (by omega)).set (o + i * 3 + 1) _ (by omega) (by omega)).set (o + i * 3 + 2) _ (by omega) (by omega)) CD hsh
        rw [HK1.out, mid_set k ks hlt] at hn
        rw [HK1.out]
        exact ⟨_, hn.1, HJ.out.2.trans hn.2⟩
      go_wp2
      go_round
      case rel => obtain ⟨css2, n1, n2⟩ := NX.out; exact ⟨i + 1, css2, by omega, by go_num, by have := HX.out; simp only [Value.int.injEq, true_and]; omega, n1, n2⟩
      case measure => simp [intOf]; omega
    · obtain rfl : i = ks.length := by omega
      have hq := HJ.out
      rw [mid_full] at hq
      go_wp2
      go_ret
      refine ⟨by rw [List.take_length]; rfl, ?_, hq.2⟩
      have hl := mks_length k ks
      exact ⟨a, cap, css', F, by rw [hl], by rw [hl]; exact HC.out.1, HC.out.2.1, HC.out.2.2, hq.1⟩

theorem markS_any (ks : List OpD) : MarkSays ks := mark_of ks


end Go.Proofs.YtjibmpebebephaaGreatDoor.op
