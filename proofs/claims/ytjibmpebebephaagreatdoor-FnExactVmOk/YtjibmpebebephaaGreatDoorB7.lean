/-
  A Vm that lies in memory apart: its slices are all different blocks.
  The law's copies of a Op and of slices of it: the same in new memory, all of it apart; nothing that was there is turned.
  The law's copies of a Fun and of slices of it: the same in new memory, all of it apart; nothing that was there is turned.
  The law's copies of slices of ints: the same in new memory, all of it apart; nothing that was there is turned.
-/
import Derived.Laws.MakeOwn
import Derived.Deep.OwnRows
import Derived.Test.YtjibmpebebephaaGreatDoorB1
import Derived.Test.YtjibmpebebephaaGreatDoorB2
import Derived.Test.YtjibmpebebephaaGreatDoorB3
import Derived.Test.YtjibmpebebephaaGreatDoorB4
import Derived.Test.YtjibmpebebephaaGreatDoorB5
import Derived.Test.YtjibmpebebephaaGreatDoorB6
namespace Go.Proofs.YtjibmpebebephaaGreatDoor.vm
open Go.RowKit Go.Proofs.YtjibmpebebephaaGreatDoor.rose Go.Proofs.YtjibmpebebephaaGreatDoor
set_option linter.unusedVariables false

abbrev vmSp : Sh VmD := fun.funSp.sslice.spair (heap.heapSp.spair (Sh.int.sslice.spair (call.callSp.sslice.spair (Sh.int.sslice.spair (Sh.int.spair Sh.bool)))))

theorem vmp_rep {w : World} {S : Nat → Prop} {cs : List Value} {T : VmD} (h : vmSp.rep w S cs T) : vmSh.rep w S cs T := (fun h => spair_rep (fun h => fun.funps_rep h) (fun h => spair_rep (fun h => heap.heapp_rep h) (fun h => spair_rep (fun h => ints.intsp_rep h) (fun h => spair_rep (fun h => call.callps_rep h) (fun h => spair_rep (fun h => ints.intsp_rep h) (fun h => spair_rep (fun h => h) (fun h => h) h) h) h) h) h) h) h
theorem vmp_shut {w : World} {S : Nat → Prop} {S0 S1 S2 S3 S4 : Nat → Prop} {x0 : List fun.FunD} {x1 : heap.HeapD} {x2 : List Int} {x3 : List call.CallD} {x4 : List Int} {x5 : Int} {x6 : Bool} {u1_0 : Value} {u1_1 : Value} {u1_2 : Value} {u1_3 : Value} {a0 : Option Addr} {c0 : Nat} {a2 : Option Addr} {c2 : Nat} {a3 : Option Addr} {c3 : Nat} {a4 : Option Addr} {c4 : Nat} (h0 : fun.funSp.sslice.rep w S0 [.slice a0 x0.length c0] x0) (h1 : heap.heapSp.rep w S1 [u1_0, u1_1, u1_2, u1_3] x1) (h2 : Sh.int.sslice.rep w S2 [.slice a2 x2.length c2] x2) (h3 : call.callSp.sslice.rep w S3 [.slice a3 x3.length c3] x3) (h4 : Sh.int.sslice.rep w S4 [.slice a4 x4.length c4] x4) (h5 : -9223372036854775808 ≤ x5 ∧ x5 ≤ 9223372036854775807) (s0 : ∀ b, S0 b → S b) (s1 : ∀ b, S1 b → S b) (s2 : ∀ b, S2 b → S b) (s3 : ∀ b, S3 b → S b) (s4 : ∀ b, S4 b → S b) (d0_1 : ∀ b, S0 b → ¬ S1 b) (d0_2 : ∀ b, S0 b → ¬ S2 b) (d0_3 : ∀ b, S0 b → ¬ S3 b) (d0_4 : ∀ b, S0 b → ¬ S4 b) (d1_2 : ∀ b, S1 b → ¬ S2 b) (d1_3 : ∀ b, S1 b → ¬ S3 b) (d1_4 : ∀ b, S1 b → ¬ S4 b) (d2_3 : ∀ b, S2 b → ¬ S3 b) (d2_4 : ∀ b, S2 b → ¬ S4 b) (d3_4 : ∀ b, S3 b → ¬ S4 b) : vmSp.rep w S [.slice a0 x0.length c0, u1_0, u1_1, u1_2, u1_3, .slice a2 x2.length c2, .slice a3 x3.length c3, .slice a4 x4.length c4, .int .i64 x5, .bool x6] ((x0, x1, x2, x3, x4, x5, x6)) :=
  vmSp.mono (S := fun b => S0 b ∨ S1 b ∨ S2 b ∨ S3 b ∨ S4 b) ⟨[_], _, S0, fun b => S1 b ∨ S2 b ∨ S3 b ∨ S4 b, rfl, fun b h => Or.inl h, fun b h => Or.inr h, fun b h1 h2 => h2.elim (fun g => d0_1 b h1 g) (fun g => g.elim (fun g => d0_2 b h1 g) (fun g => g.elim (fun g => d0_3 b h1 g) (fun g => d0_4 b h1 g))), h0, [_, _, _, _], _, S1, fun b => S2 b ∨ S3 b ∨ S4 b, rfl, fun b h => Or.inl h, fun b h => Or.inr h, fun b h1 h2 => h2.elim (fun g => d1_2 b h1 g) (fun g => g.elim (fun g => d1_3 b h1 g) (fun g => d1_4 b h1 g)), h1, [_], _, S2, fun b => S3 b ∨ S4 b, rfl, fun b h => Or.inl h, fun b h => Or.inr h, fun b h1 h2 => h2.elim (fun g => d2_3 b h1 g) (fun g => d2_4 b h1 g), h2, [_], _, S3, S4, rfl, fun b h => Or.inl h, fun b h => Or.inr h, fun b h1 h2 => d3_4 b h1 h2, h3, [_], _, S4, fun _ => False, rfl, fun b h => h, fun b h => h.elim, fun b h1 h2 => h2.elim, h4, [_], _, (fun _ => False), fun _ => False, rfl, fun b h => h.elim, fun b h => h, fun b h => h.elim, ⟨rfl, h5⟩, rfl⟩ fun b h => h.elim (fun g => s0 b g) (fun g => g.elim (fun g => s1 b g) (fun g => g.elim (fun g => s2 b g) (fun g => g.elim (fun g => s3 b g) (fun g => s4 b g))))
theorem vmp_shutv {w : World} {S : Nat → Prop} {S0 S1 S2 S3 S4 : Nat → Prop} {x0 : List fun.FunD} {x1 : heap.HeapD} {x2 : List Int} {x3 : List call.CallD} {x4 : List Int} {x5 : Int} {x6 : Bool} {u1_0 : Value} {u1_1 : Value} {u1_2 : Value} {u1_3 : Value} {v0 : Value} {v2 : Value} {v3 : Value} {v4 : Value} (h0 : fun.funSp.sslice.rep w S0 [v0] x0) (h1 : heap.heapSp.rep w S1 [u1_0, u1_1, u1_2, u1_3] x1) (h2 : Sh.int.sslice.rep w S2 [v2] x2) (h3 : call.callSp.sslice.rep w S3 [v3] x3) (h4 : Sh.int.sslice.rep w S4 [v4] x4) (h5 : -9223372036854775808 ≤ x5 ∧ x5 ≤ 9223372036854775807) (s0 : ∀ b, S0 b → S b) (s1 : ∀ b, S1 b → S b) (s2 : ∀ b, S2 b → S b) (s3 : ∀ b, S3 b → S b) (s4 : ∀ b, S4 b → S b) (d0_1 : ∀ b, S0 b → ¬ S1 b) (d0_2 : ∀ b, S0 b → ¬ S2 b) (d0_3 : ∀ b, S0 b → ¬ S3 b) (d0_4 : ∀ b, S0 b → ¬ S4 b) (d1_2 : ∀ b, S1 b → ¬ S2 b) (d1_3 : ∀ b, S1 b → ¬ S3 b) (d1_4 : ∀ b, S1 b → ¬ S4 b) (d2_3 : ∀ b, S2 b → ¬ S3 b) (d2_4 : ∀ b, S2 b → ¬ S4 b) (d3_4 : ∀ b, S3 b → ¬ S4 b) : vmSp.rep w S [v0, u1_0, u1_1, u1_2, u1_3, v2, v3, v4, .int .i64 x5, .bool x6] ((x0, x1, x2, x3, x4, x5, x6)) :=
  vmSp.mono (S := fun b => S0 b ∨ S1 b ∨ S2 b ∨ S3 b ∨ S4 b) ⟨[_], _, S0, fun b => S1 b ∨ S2 b ∨ S3 b ∨ S4 b, rfl, fun b h => Or.inl h, fun b h => Or.inr h, fun b h1 h2 => h2.elim (fun g => d0_1 b h1 g) (fun g => g.elim (fun g => d0_2 b h1 g) (fun g => g.elim (fun g => d0_3 b h1 g) (fun g => d0_4 b h1 g))), h0, [_, _, _, _], _, S1, fun b => S2 b ∨ S3 b ∨ S4 b, rfl, fun b h => Or.inl h, fun b h => Or.inr h, fun b h1 h2 => h2.elim (fun g => d1_2 b h1 g) (fun g => g.elim (fun g => d1_3 b h1 g) (fun g => d1_4 b h1 g)), h1, [_], _, S2, fun b => S3 b ∨ S4 b, rfl, fun b h => Or.inl h, fun b h => Or.inr h, fun b h1 h2 => h2.elim (fun g => d2_3 b h1 g) (fun g => d2_4 b h1 g), h2, [_], _, S3, S4, rfl, fun b h => Or.inl h, fun b h => Or.inr h, fun b h1 h2 => d3_4 b h1 h2, h3, [_], _, S4, fun _ => False, rfl, fun b h => h, fun b h => h.elim, fun b h1 h2 => h2.elim, h4, [_], _, (fun _ => False), fun _ => False, rfl, fun b h => h.elim, fun b h => h, fun b h => h.elim, ⟨rfl, h5⟩, rfl⟩ fun b h => h.elim (fun g => s0 b g) (fun g => g.elim (fun g => s1 b g) (fun g => g.elim (fun g => s2 b g) (fun g => g.elim (fun g => s3 b g) (fun g => s4 b g))))
theorem vmp_open {w : World} {S : Nat → Prop} {cs : List Value} {T : VmD} (h : vmSp.rep w S cs T) : ∃ x0 a0 c0 x1 u1_0 u1_1 u1_2 u1_3 x2 a2 c2 x3 a3 c3 x4 a4 c4 x5 x6, ∃ (S0 S1 S2 S3 S4 : Nat → Prop), T = (x0, x1, x2, x3, x4, x5, x6) ∧ cs = [.slice a0 x0.length c0, u1_0, u1_1, u1_2, u1_3, .slice a2 x2.length c2, .slice a3 x3.length c3, .slice a4 x4.length c4, .int .i64 x5, .bool x6] ∧ fun.funSp.sslice.rep w S0 [.slice a0 x0.length c0] x0 ∧ heap.heapSp.rep w S1 [u1_0, u1_1, u1_2, u1_3] x1 ∧ Sh.int.sslice.rep w S2 [.slice a2 x2.length c2] x2 ∧ call.callSp.sslice.rep w S3 [.slice a3 x3.length c3] x3 ∧ Sh.int.sslice.rep w S4 [.slice a4 x4.length c4] x4 ∧ (-9223372036854775808 ≤ x5 ∧ x5 ≤ 9223372036854775807) ∧ (∀ b, S0 b → S b) ∧ (∀ b, S1 b → S b) ∧ (∀ b, S2 b → S b) ∧ (∀ b, S3 b → S b) ∧ (∀ b, S4 b → S b) ∧ (∀ b, S0 b → ¬ S1 b) ∧ (∀ b, S0 b → ¬ S2 b) ∧ (∀ b, S0 b → ¬ S3 b) ∧ (∀ b, S0 b → ¬ S4 b) ∧ (∀ b, S1 b → ¬ S2 b) ∧ (∀ b, S1 b → ¬ S3 b) ∧ (∀ b, S1 b → ¬ S4 b) ∧ (∀ b, S2 b → ¬ S3 b) ∧ (∀ b, S2 b → ¬ S4 b) ∧ (∀ b, S3 b → ¬ S4 b) := by
  obtain ⟨x0, x1, x2, x3, x4, x5, x6⟩ := T
  obtain ⟨_, _, A0, B0, rfl, ua0, ub0, ue0, h0, _, _, A1, B1, rfl, ua1, ub1, ue1, h1, _, _, A2, B2, rfl, ua2, ub2, ue2, h2, _, _, A3, B3, rfl, ua3, ub3, ue3, h3, _, _, A4, B4, rfl, ua4, ub4, ue4, h4, _, _, A5, B5, rfl, ua5, ub5, ue5, ⟨rfl, h5⟩, rfl⟩ := h
  obtain ⟨a0, c0, rfl⟩ := sslice_cells h0
  obtain ⟨u1_0, u1_1, u1_2, u1_3, rfl⟩ := heap.heap_list (heap.heapp_rep h1)
  obtain ⟨a2, c2, rfl⟩ := sslice_cells h2
  obtain ⟨a3, c3, rfl⟩ := sslice_cells h3
  obtain ⟨a4, c4, rfl⟩ := sslice_cells h4
  exact ⟨_, _, _, _, _, _, _, _, _, _, _, _, _, _, _, _, _, _, _, A0, A1, A2, A3, A4, rfl, rfl, h0, h1, h2, h3, h4, h5, fun b g => ua0 b g, fun b g => ub0 b (ua1 b g), fun b g => ub0 b (ub1 b (ua2 b g)), fun b g => ub0 b (ub1 b (ub2 b (ua3 b g))), fun b g => ub0 b (ub1 b (ub2 b (ub3 b (ua4 b g)))), fun b g k => ue0 b g (ua1 b k), fun b g k => ue0 b g (ub1 b (ua2 b k)), fun b g k => ue0 b g (ub1 b (ub2 b (ua3 b k))), fun b g k => ue0 b g (ub1 b (ub2 b (ub3 b (ua4 b k)))), fun b g k => ue1 b g (ua2 b k), fun b g k => ue1 b g (ub2 b (ua3 b k)), fun b g k => ue1 b g (ub2 b (ub3 b (ua4 b k))), fun b g k => ue2 b g (ua3 b k), fun b g k => ue2 b g (ub3 b (ua4 b k)), fun b g k => ue3 b g (ua4 b k)⟩

end Go.Proofs.YtjibmpebebephaaGreatDoor.vm

namespace Go.Proofs.YtjibmpebebephaaGreatDoor.op
open Go.RowKit Go.Proofs.YtjibmpebebephaaGreatDoor.rose Go.Proofs.YtjibmpebebephaaGreatDoor
set_option linter.unusedVariables false

def ToPSays (T : OpD) : Prop := ∀ cs w, True → opSh.rep w (· < w.heap.size) cs T →
  Calls Tryz.prog 100 #[.agg cs.toArray] w fun e w' => (∃ cs', e = .returned (.agg cs'.toArray) ∧ opSp.rep w' (fun b => w.heap.size ≤ b ∧ b < w'.heap.size) cs' T) ∧ Below w.heap.size w w'

set_option maxHeartbeats 2000000 in
theorem toP_any (T : OpD) : ToPSays T := by
  intro cs w hw h
  obtain ⟨x0, x1, x2, rfl, rfl, f0, f1, f2⟩ := op_open h
  clear h
  clear hw 
  go_enter Tryz.func100, Tryz.ntmps100
  go_wp2
  refine bodyPost_ret (v := .agg #[.int .i64 x0, .int .i64 x1, .int .i64 x2]) (by simp [results, Tryz.f100, go_sem]) rfl ?_
  exact ⟨⟨[.int .i64 x0, .int .i64 x1, .int .i64 x2], rfl, opp_shut f0 f1 f2⟩, (((Below.refl _ _).alloc (Nat.le_refl _) _).alloc (by simp) _).alloc (by simp; omega) _⟩

theorem infoP_op : (Tryz.prog.info? 90).map (fun i => (i.zero, i.size, i.bytes)) = some (some (.agg #[.int .i64 0, .int .i64 0, .int .i64 0]), 3, 24) := by kernel_rfl

theorem makeP_op (n : Nat) (h : n ≤ 1048576) (w : World) : (Instr.makeSlice 58 (.int .i64 (n : Int)) (.int .i64 (n : Int))).run Tryz.prog w = .ok (.slice (some ⟨w.heap.size, 0, none⟩) n n)
    (w.alloc (.cells (madeCells #[.int .i64 0, .int .i64 0, .int .i64 0] (n * 3)) 90)) := by
  obtain ⟨i, hi, hzz⟩ := Option.map_eq_some_iff.1 infoP_op
  simp only [Prod.mk.injEq] at hzz
  obtain ⟨hz, hs, hb⟩ := hzz
  have := run_make (P := Tryz.prog) w 58 90 i _ Tryz.underlying58 hi hz .i64 .i64 n n (by omega) (by omega) (by rw [hb]; omega) (by omega)
  simpa [hs, Value.cells] using this

set_option maxHeartbeats 1000000 in
theorem toPS_of (ks : List OpD) (ih : ∀ k ∈ ks, ToPSays k) (v : Value) (w : World) (hw : ks.length ≤ 1048576) (h : opSh.slice.rep w (· < w.heap.size) [v] ks) :
    Calls Tryz.prog 72 #[v] w fun e w' => (∃ v', e = .returned v' ∧ opSp.sslice.rep w' (fun b => w.heap.size ≤ b ∧ b < w'.heap.size) [v'] ks) ∧ Below w.heap.size w w' := by
  obtain ⟨a, cap, css, rfl, hcap, hmax, hrow, hk⟩ := ops_open h
  clear h hcap hmax
  have IH : Hid (∀ k ∈ ks, ToPSays k) := ih
  have HR : Hid (RowAt w (· < w.heap.size) 3 a ks.length css ∧ ∀ i (h : i < ks.length), opSh.rep w (· < w.heap.size) (css i) ks[i]) := ⟨hrow, hk⟩
  have hn : ks.length ≤ 1048576 := by omega
  clear ih hrow hk hw
  have hmk := makeP_op ks.length hn
  go_enter Tryz.func72, Tryz.ntmps72
  go_wp2
  clear hmk
  generalize hw1 : w.alloc _ = w1
  have F1 : SFilling opSp 90 w1 w.heap.size ks.length 0 ks := by
    subst hw1
    exact SFilling.start
  have B1 : Below w.heap.size w w1 := by subst hw1; exact (Below.refl _ _).alloc (Nat.le_refl _) _
  have Z1 : w.heap.size < w1.heap.size := by subst hw1; simp
  clear hw1
  go_loopw [4] (fun v4 wr => ∃ i : Nat, i ≤ ks.length ∧ v4 = .int .i64 i ∧ Hid (SFilling opSp 90 wr w.heap.size ks.length i ks ∧ Below w.heap.size w wr ∧ w.heap.size < wr.heap.size)) (fun v4 _ => ks.length - (intOf v4).toNat)
  case atStart => exact ⟨0, Nat.zero_le _, rfl, F1, B1, Z1⟩
  case round =>
    obtain ⟨i, hi, rfl, HF⟩ := hrel
    by_cases hlt : i < ks.length
    · obtain ⟨b, o, rfl, hS, hc⟩ := HR.out.1 i hlt
      have hrep := HR.out.2 i hlt
      obtain ⟨v0, v1, v2, hcs, c0, c1, c2⟩ := op_cells hrep hc
      obtain ⟨F, HB, hZ⟩ := HF.out
      have e0 := (HB.cell (p := ⟨b, o + i * 3, none⟩) hS).trans c0
      have e1 := (HB.cell (p := ⟨b, o + i * 3 + 1, none⟩) hS).trans c1
      have e2 := (HB.cell (p := ⟨b, o + i * 3 + 2, none⟩) hS).trans c2
      rw [hcs] at hrep
      clear c0 c1 c2 hc hcs
      have hR := opSh.mono (opSh.below hrep HB) (S' := (· < wr.heap.size)) (fun b hb => Nat.lt_of_lt_of_le hb HB.size)
      clear hrep
      have hcall := IH.out ks[i] (List.getElem_mem hlt) [v0, v1, v2] wr trivial hR
      clear hR F HB hZ
      go_wp2_with fail
      refine hcall.mono ?_
      clear hcall
      rintro e w1 ⟨⟨cs', rfl, hrep'⟩, hb⟩
      obtain ⟨F, HB, hZ⟩ := HF.out
      have hl : cs'.length = 3 := opSp.len hrep'
      have hst := F.store (P := Tryz.prog) hb hZ hlt hl (opSp.one hrep')
      have F2 : Hid (SFilling opSp 90 (w1.setCells w.heap.size (i * 3) cs') w.heap.size ks.length (i + 1) ks) := F.step hb hZ hlt hlt hrep'
      have B2 : Hid (Below w.heap.size w (w1.setCells w.heap.size (i * 3) cs')) := (HB.trans (hb.mono (Nat.le_of_lt hZ))).trans (setCells_below (Nat.le_refl _) _ _)
      have Z2 : Hid (w.heap.size < (w1.setCells w.heap.size (i * 3) cs').heap.size) := by show _ < _; rw [setCells_size]; exact Nat.lt_of_lt_of_le hZ hb.size
      have hk5 : opSp.k = 3 := rfl
      rw [hk5] at hst
      clear F HB hZ HF hrep' hb hk5
      generalize w1.setCells w.heap.size (i * 3) cs' = w2 at hst F2 B2 Z2
      go_wp2
      go_round
      case rel => exact ⟨i + 1, by omega, by go_num, F2.out, B2.out, Z2.out⟩
      case measure => simp [intOf]; omega
    · obtain rfl : i = ks.length := by omega
      go_wp2
      go_ret
      obtain ⟨F, HB, hZ⟩ := HF.out
      exact ⟨⟨_, rfl, F.done hZ (by unfold maxLen; omega)⟩, HB⟩

theorem toPS_any (ks : List OpD) (v : Value) (w : World) (hw : ks.length ≤ 1048576) (h : opSh.slice.rep w (· < w.heap.size) [v] ks) :
    Calls Tryz.prog 72 #[v] w fun e w' => (∃ v', e = .returned v' ∧ opSp.sslice.rep w' (fun b => w.heap.size ≤ b ∧ b < w'.heap.size) [v'] ks) ∧ Below w.heap.size w w' := toPS_of ks (fun k _ => toP_any k) v w hw h

end Go.Proofs.YtjibmpebebephaaGreatDoor.op

namespace Go.Proofs.YtjibmpebebephaaGreatDoor.fun
open Go.RowKit Go.Proofs.YtjibmpebebephaaGreatDoor.rose Go.Proofs.YtjibmpebebephaaGreatDoor
set_option linter.unusedVariables false

def ToPSays (T : FunD) : Prop := ∀ cs w, wt T ≤ 1048576 → funSh.rep w (· < w.heap.size) cs T →
  Calls Tryz.prog 42 #[.agg cs.toArray] w fun e w' => (∃ cs', e = .returned (.agg cs'.toArray) ∧ funSp.rep w' (fun b => w.heap.size ≤ b ∧ b < w'.heap.size) cs' T) ∧ Below w.heap.size w w'

set_option maxHeartbeats 2000000 in
theorem toP_any (T : FunD) : ToPSays T := by
  intro cs w hw h
  obtain ⟨x0, x1, a1, c1, rfl, rfl, f0, f1⟩ := fun_open h
  clear h
  have q1 : x1.length ≤ 1048576 := by simp [wt] at hw; omega
  have K1 : ∀ (w' : World), Below w.heap.size w w' → Calls Tryz.prog 72 #[.slice a1 x1.length c1] w' fun e w'' => (∃ v', e = .returned v' ∧ op.opSp.sslice.rep w'' (fun b => w'.heap.size ≤ b ∧ b < w''.heap.size) [v'] x1) ∧ Below w'.heap.size w' w'' :=
    fun w' hb => op.toPS_any x1 _ w' q1 (op.opSh.slice.mono (op.opSh.slice.below f1 hb) fun b hlt => Nat.lt_of_lt_of_le hlt hb.size)
  clear hw f1 q1
  go_enter Tryz.func42, Tryz.ntmps42
  go_wp2_with fail
  refine (K1 _ ((((Below.refl _ _).alloc (Nat.le_refl _) _).alloc (by simp) _).alloc (by simp; omega) _)).mono ?_
  clear K1
  rintro e w1 ⟨⟨v', rfl, hrep⟩, hb⟩
  obtain ⟨a1', c1', e'⟩ := sslice_cells hrep
  cases e'
  have hz1 : w.heap.size + 3 ≤ w1.heap.size := by have := hb.size; simp at this; omega
  have hpA1 : w1.heap[w.heap.size]? = some (.cells #[.int .i64 x0, .slice a1 x1.length c1] 78) := by
    rw [hb.block _ (by simp; omega), Below.heap_alloc _ _ _ (by simp; omega), Below.heap_alloc _ _ _ (by simp)]
    exact alloc_top _ _
  have hp11 : w1.heap[w.heap.size + 1]? = some (.cells #[.int .i64 0, .slice none 0 0] 60) := by
    rw [hb.block _ (by simp), Below.heap_alloc _ _ _ (by simp)]
    have := alloc_top (w.alloc (.cells #[.int .i64 x0, .slice a1 x1.length c1] 78)) (.cells #[.int .i64 0, .slice none 0 0] 60)
    rwa [World.size_alloc] at this
  have hp21 : w1.heap[w.heap.size + 1 + 1]? = some (.cells #[.int .i64 x0, .slice none 0 0] 60) := by
    rw [hb.block _ (by simp)]
    have := alloc_top ((w.alloc (.cells #[.int .i64 x0, .slice a1 x1.length c1] 78)).alloc (.cells #[.int .i64 0, .slice none 0 0] 60)) (.cells #[.int .i64 x0, .slice none 0 0] 60)
    rwa [World.size_alloc, World.size_alloc] at this
  have HB1 : Hid (Below w.heap.size w w1) := ((((Below.refl _ _).alloc (Nat.le_refl _) _).alloc (by simp) _).alloc (by simp; omega) _).trans (hb.mono (by simp; omega))
  have R1_1 : Hid (op.opSp.sslice.rep w1 (fun b => w.heap.size + 3 ≤ b ∧ b < w1.heap.size) [.slice a1' x1.length c1'] x1) := op.opSp.sslice.mono hrep fun b hS => ⟨by have := hS.1; simp at this; omega, hS.2⟩
  clear hrep hb
  have cr1_0 : w1.cell? ⟨w.heap.size + 1, 0, none⟩ = some (.int .i64 0) := by simp [World.cell?, hp11]
  have cr1_1 : w1.cell? ⟨w.heap.size + 1, 1, none⟩ = some (.slice none 0 0) := by simp [World.cell?, hp11]
  have fr1 : ∀ o, w1.frozen? ⟨w.heap.size + 1, o, none⟩ = false := fun o => by simp [World.frozen?, hp11]
  have co1_0 : w1.cell? ⟨w.heap.size + 1 + 1, 0, none⟩ = some (.int .i64 x0) := by simp [World.cell?, hp21]
  have co1_1 : w1.cell? ⟨w.heap.size + 1 + 1, 1, none⟩ = some (.slice none 0 0) := by simp [World.cell?, hp21]
  have fo1 : ∀ o, w1.frozen? ⟨w.heap.size + 1 + 1, o, none⟩ = false := fun o => by simp [World.frozen?, hp21]
  clear hpA1 hp11 hp21
  go_wp2
  refine bodyPost_ret (v := .agg #[.int .i64 x0, .slice a1' x1.length c1']) (by simp [results, Tryz.f42, go_sem, cr1_0, cr1_1]) rfl ?_
  refine ⟨⟨[.int .i64 x0, .slice a1' x1.length c1'], by rfl, funp_shut f0 (op.opSp.sslice.mono (op.opSp.sslice.on R1_1.out fun b hS => by repeat rw [Below.heap_setCell _ _ _ _ (by simp; omega)]) fun b hS => ⟨by omega, by simp [World.setCell]; exact hS.2⟩)⟩, ?_⟩
  repeat first | with_reducible exact HB1.out | (refine Below.setCell ?_ (by first | (simp; done) | (simp; omega)) _)

theorem infoP_fun : (Tryz.prog.info? 60).map (fun i => (i.zero, i.size, i.bytes)) = some (some (.agg #[.int .i64 0, .slice none 0 0]), 2, 32) := by kernel_rfl

theorem makeP_fun (n : Nat) (h : n ≤ 1048576) (w : World) : (Instr.makeSlice 31 (.int .i64 (n : Int)) (.int .i64 (n : Int))).run Tryz.prog w = .ok (.slice (some ⟨w.heap.size, 0, none⟩) n n)
    (w.alloc (.cells (madeCells #[.int .i64 0, .slice none 0 0] (n * 2)) 60)) := by
  obtain ⟨i, hi, hzz⟩ := Option.map_eq_some_iff.1 infoP_fun
  simp only [Prod.mk.injEq] at hzz
  obtain ⟨hz, hs, hb⟩ := hzz
  have := run_make (P := Tryz.prog) w 31 60 i _ Tryz.underlying31 hi hz .i64 .i64 n n (by omega) (by omega) (by rw [hb]; omega) (by omega)
  simpa [hs, Value.cells] using this

set_option maxHeartbeats 1000000 in
theorem toPS_of (ks : List FunD) (ih : ∀ k ∈ ks, ToPSays k) (v : Value) (w : World) (hw : ks.length + wts ks ≤ 1048576) (h : funSh.slice.rep w (· < w.heap.size) [v] ks) :
    Calls Tryz.prog 12 #[v] w fun e w' => (∃ v', e = .returned v' ∧ funSp.sslice.rep w' (fun b => w.heap.size ≤ b ∧ b < w'.heap.size) [v'] ks) ∧ Below w.heap.size w w' := by
  obtain ⟨a, cap, css, rfl, hcap, hmax, hrow, hk⟩ := funs_open h
  clear h hcap hmax
  have IH : Hid (∀ k ∈ ks, ToPSays k) := ih
  have HR : Hid (RowAt w (· < w.heap.size) 2 a ks.length css ∧ ∀ i (h : i < ks.length), funSh.rep w (· < w.heap.size) (css i) ks[i]) := ⟨hrow, hk⟩
  have HW : Hid (wts ks ≤ 1048576) := by show wts ks ≤ 1048576; omega
  have hn : ks.length ≤ 1048576 := by omega
  clear ih hrow hk hw
  have hmk := makeP_fun ks.length hn
  go_enter Tryz.func12, Tryz.ntmps12
  go_wp2
  clear hmk
  generalize hw1 : w.alloc _ = w1
  have F1 : SFilling funSp 60 w1 w.heap.size ks.length 0 ks := by
    subst hw1
    exact SFilling.start
  have B1 : Below w.heap.size w w1 := by subst hw1; exact (Below.refl _ _).alloc (Nat.le_refl _) _
  have Z1 : w.heap.size < w1.heap.size := by subst hw1; simp
  clear hw1
  go_loopw [4] (fun v4 wr => ∃ i : Nat, i ≤ ks.length ∧ v4 = .int .i64 i ∧ Hid (SFilling funSp 60 wr w.heap.size ks.length i ks ∧ Below w.heap.size w wr ∧ w.heap.size < wr.heap.size)) (fun v4 _ => ks.length - (intOf v4).toNat)
  case atStart => exact ⟨0, Nat.zero_le _, rfl, F1, B1, Z1⟩
  case round =>
    obtain ⟨i, hi, rfl, HF⟩ := hrel
    by_cases hlt : i < ks.length
    · obtain ⟨b, o, rfl, hS, hc⟩ := HR.out.1 i hlt
      have hrep := HR.out.2 i hlt
      obtain ⟨v0, v1, hcs, c0, c1⟩ := fun_cells hrep hc
      obtain ⟨F, HB, hZ⟩ := HF.out
      have e0 := (HB.cell (p := ⟨b, o + i * 2, none⟩) hS).trans c0
      have e1 := (HB.cell (p := ⟨b, o + i * 2 + 1, none⟩) hS).trans c1
      rw [hcs] at hrep
      clear c0 c1 hc hcs
      have hR := funSh.mono (funSh.below hrep HB) (S' := (· < wr.heap.size)) (fun b hb => Nat.lt_of_lt_of_le hb HB.size)
      clear hrep
      have hcall := IH.out ks[i] (List.getElem_mem hlt) [v0, v1] wr (by have := wts_take hlt; have := wts_take_le ks (i + 1); have := HW.out; omega) hR
      clear hR F HB hZ
      go_wp2_with fail
      refine hcall.mono ?_
      clear hcall
      rintro e w1 ⟨⟨cs', rfl, hrep'⟩, hb⟩
      obtain ⟨F, HB, hZ⟩ := HF.out
      have hl : cs'.length = 2 := funSp.len hrep'
      have hst := F.store (P := Tryz.prog) hb hZ hlt hl (funSp.one hrep')
      have F2 : Hid (SFilling funSp 60 (w1.setCells w.heap.size (i * 2) cs') w.heap.size ks.length (i + 1) ks) := F.step hb hZ hlt hlt hrep'
      have B2 : Hid (Below w.heap.size w (w1.setCells w.heap.size (i * 2) cs')) := (HB.trans (hb.mono (Nat.le_of_lt hZ))).trans (setCells_below (Nat.le_refl _) _ _)
      have Z2 : Hid (w.heap.size < (w1.setCells w.heap.size (i * 2) cs').heap.size) := by show _ < _; rw [setCells_size]; exact Nat.lt_of_lt_of_le hZ hb.size
      have hk5 : funSp.k = 2 := rfl
      rw [hk5] at hst
      clear F HB hZ HF hrep' hb hk5
      generalize w1.setCells w.heap.size (i * 2) cs' = w2 at hst F2 B2 Z2
      go_wp2
      go_round
      case rel => exact ⟨i + 1, by omega, by go_num, F2.out, B2.out, Z2.out⟩
      case measure => simp [intOf]; omega
    · obtain rfl : i = ks.length := by omega
      go_wp2
      go_ret
      obtain ⟨F, HB, hZ⟩ := HF.out
      exact ⟨⟨_, rfl, F.done hZ (by unfold maxLen; omega)⟩, HB⟩

theorem toPS_any (ks : List FunD) (v : Value) (w : World) (hw : ks.length + wts ks ≤ 1048576) (h : funSh.slice.rep w (· < w.heap.size) [v] ks) :
    Calls Tryz.prog 12 #[v] w fun e w' => (∃ v', e = .returned v' ∧ funSp.sslice.rep w' (fun b => w.heap.size ≤ b ∧ b < w'.heap.size) [v'] ks) ∧ Below w.heap.size w w' := toPS_of ks (fun k _ => toP_any k) v w hw h

end Go.Proofs.YtjibmpebebephaaGreatDoor.fun

namespace Go.Proofs.YtjibmpebebephaaGreatDoor.ints
open Go.RowKit Go.Proofs.YtjibmpebebephaaGreatDoor.rose Go.Proofs.YtjibmpebebephaaGreatDoor
set_option linter.unusedVariables false

theorem infoT_int : (Tryz.prog.info? 3).map (fun i => (i.zero, i.size, i.bytes)) = some (some (.int .i64 0), 1, 8) := by kernel_rfl

theorem make_int (n : Nat) (h : n ≤ 1048576) (w : World) : (Instr.makeSlice 23 (.int .i64 (n : Int)) (.int .i64 (n : Int))).run Tryz.prog w = .ok (.slice (some ⟨w.heap.size, 0, none⟩) n n)
    (w.alloc (.cells (madeCells #[.int .i64 0] (n * 1)) 3)) := by
  obtain ⟨i, hi, hzz⟩ := Option.map_eq_some_iff.1 infoT_int
  simp only [Prod.mk.injEq] at hzz
  obtain ⟨hz, hs, hb⟩ := hzz
  have := run_make (P := Tryz.prog) w 23 3 i _ Tryz.underlying23 hi hz .i64 .i64 n n (by omega) (by omega) (by rw [hb]; omega) (by omega)
  simpa [hs, Value.cells] using this

set_option maxHeartbeats 1000000 in
theorem toPS_any (ks : List Int) (v : Value) (w : World) (hw : ks.length ≤ 1048576) (h : Sh.int.slice.rep w (· < w.heap.size) [v] ks) :
    Calls Tryz.prog 28 #[v] w fun e w' => (∃ v', e = .returned v' ∧ Sh.int.sslice.rep w' (fun b => w.heap.size ≤ b ∧ b < w'.heap.size) [v'] ks) ∧ Below w.heap.size w w' := by
  obtain ⟨a, cap, rfl, hcap, hmax, hat⟩ := ints_open h
  have HA : Hid _ := hat
  have hn : ks.length ≤ 1048576 := hw
  clear h hcap hmax hat
  have hmk := make_int ks.length hn
  go_enter Tryz.func28, Tryz.ntmps28
  go_wp2
  clear hmk
  generalize hw1 : w.alloc _ = w1
  have F1 : SFilling Sh.int 3 w1 w.heap.size ks.length 0 ks := by
    subst hw1
    have := SFilling.start (A := Sh.int) (t := 3) (w := w) (z := #[.int .i64 0]) (n := ks.length) (xs := ks)
    rwa [show ks.length * Sh.int.k = ks.length from Nat.mul_one _] at this
  have B1 : Below w.heap.size w w1 := by subst hw1; exact (Below.refl _ _).alloc (Nat.le_refl _) _
  have Z1 : w.heap.size < w1.heap.size := by subst hw1; simp
  clear hw1
  go_loopw [4] (fun v4 wr => ∃ i : Nat, i ≤ ks.length ∧ v4 = .int .i64 i ∧ Hid (SFilling Sh.int 3 wr w.heap.size ks.length i ks ∧ Below w.heap.size w wr ∧ w.heap.size < wr.heap.size)) (fun v4 _ => ks.length - (intOf v4).toNat)
  case atStart => exact ⟨0, Nat.zero_le _, rfl, F1, B1, Z1⟩
  case round =>
    obtain ⟨i, hi, rfl, HF⟩ := hrel
    by_cases hlt : i < ks.length
    · obtain ⟨b, o, rfl, hS, hc, hn1, hn2⟩ := HA.out i hlt
      obtain ⟨F, HB, hZ⟩ := HF.out
      have e0 := (HB.cell (p := ⟨b, o + i, none⟩) hS).trans hc
      have hst := F.store (P := Tryz.prog) (Below.refl _ wr) hZ hlt (cs := [.int .i64 ks[i]]) rfl (by simp [Value.oneCell'])
      have F2 : Hid (SFilling Sh.int 3 (wr.setCells w.heap.size (i * 1) [.int .i64 ks[i]]) w.heap.size ks.length (i + 1) ks) := F.step (Below.refl _ wr) hZ hlt hlt ⟨rfl, hn1, hn2⟩
      have B2 : Hid (Below w.heap.size w (wr.setCells w.heap.size (i * 1) [.int .i64 ks[i]])) := HB.trans (setCells_below (Nat.le_refl _) _ _)
      have Z2 : Hid (w.heap.size < (wr.setCells w.heap.size (i * 1) [.int .i64 ks[i]]).heap.size) := by show _ < _; rw [setCells_size]; exact hZ
      obtain ⟨cur, hcur, hsz⟩ := F.blk
      have fz : ∀ q, wr.frozen? ⟨w.heap.size, q, none⟩ = false := fun q => by simp [World.frozen?, hcur]
      obtain ⟨u, hu⟩ : ∃ u, wr.cell? ⟨w.heap.size, i, none⟩ = some u := ⟨cur[i]'(by simp only [Sh.int] at hsz; omega), by simp [World.cell?, hcur]⟩
      have hk1 : Sh.int.k = 1 := rfl
      rw [hk1] at hst
      clear F HB hZ HF hc hcur
      generalize ks[i] = x0 at e0 hst F2 B2 Z2
      simp only [World.setCells, Nat.mul_one] at F2 B2 Z2
      go_wp2
      go_round
      case rel => exact ⟨i + 1, by omega, by go_num, F2.out, B2.out, Z2.out⟩
      case measure => simp [intOf]; omega
    · obtain rfl : i = ks.length := by omega
      go_wp2
      go_ret
      obtain ⟨F, HB, hZ⟩ := HF.out
      exact ⟨⟨_, rfl, F.done hZ (by unfold maxLen; omega)⟩, HB⟩

theorem toS_any (ks : List Int) (v : Value) (w : World) (hw : ks.length ≤ 1048576) (h : Sh.int.slice.rep w (· < w.heap.size) [v] ks) :
    Calls Tryz.prog 28 #[v] w fun e w' => (∃ v', e = .returned v' ∧ Sh.int.slice.rep w' (fun b => w.heap.size ≤ b ∧ b < w'.heap.size) [v'] ks) ∧ Below w.heap.size w w' :=
  (toPS_any ks v w hw h).mono fun e w' ⟨⟨v', h1, h2⟩, h3⟩ => ⟨⟨v', h1, intsp_rep h2⟩, h3⟩

end Go.Proofs.YtjibmpebebephaaGreatDoor.ints
