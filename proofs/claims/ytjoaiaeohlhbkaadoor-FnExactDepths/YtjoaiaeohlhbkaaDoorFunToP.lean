/-
  The law's copies of a Fun and of slices of it: the same in new memory, all of it apart; nothing that was there is turned.
-/
import Derived.Test.YtjoaiaeohlhbkaaDoorFunSp
import Derived.Test.YtjoaiaeohlhbkaaDoorOpToP
import Derived.Laws.MakeOwn
import Derived.Deep.OwnRows
namespace Go.Proofs.YtjoaiaeohlhbkaaDoor.fun
open Go.RowKit Go.Proofs.YtjoaiaeohlhbkaaDoor.rose Go.Proofs.YtjoaiaeohlhbkaaDoor
set_option linter.unusedVariables false

def ToPSays (T : FunD) : Prop := ∀ cs w, wt T ≤ 1048576 → funSh.rep w (· < w.heap.size) cs T →
  Calls Tryd.prog 18 #[.agg cs.toArray] w fun e w' => (∃ cs', e = .returned (.agg cs'.toArray) ∧ funSp.rep w' (fun b => w.heap.size ≤ b ∧ b < w'.heap.size) cs' T) ∧ Below w.heap.size w w'

set_option maxHeartbeats 2000000 in
theorem toP_any (T : FunD) : ToPSays T := by
  intro cs w hw h
  obtain ⟨x0, x1, a1, c1, rfl, rfl, f0, f1⟩ := fun_open h
  clear h
  have q1 : x1.length ≤ 1048576 := by simp [wt] at hw; omega
  have K1 : ∀ (w' : World), Below w.heap.size w w' → Calls Tryd.prog 27 #[.slice a1 x1.length c1] w' fun e w'' => (∃ v', e = .returned v' ∧ op.opSp.sslice.rep w'' (fun b => w'.heap.size ≤ b ∧ b < w''.heap.size) [v'] x1) ∧ Below w'.heap.size w' w'' :=
    fun w' hb => op.toPS_any x1 _ w' q1 (op.opSh.slice.mono (op.opSh.slice.below f1 hb) fun b hlt => Nat.lt_of_lt_of_le hlt hb.size)
  clear hw f1 q1
  go_enter Tryd.func18, Tryd.ntmps18
  go_wp2_with fail
  refine (K1 _ ((((Below.refl _ _).alloc (Nat.le_refl _) _).alloc (by simp) _).alloc (by simp; omega) _)).mono ?_
  clear K1
  rintro e w1 ⟨⟨v', rfl, hrep⟩, hb⟩
  obtain ⟨a1', c1', e'⟩ := sslice_cells hrep
  cases e'
  have hz1 : w.heap.size + 3 ≤ w1.heap.size := by have := hb.size; simp at this; omega
  have hpA1 : w1.heap[w.heap.size]? = some (.cells #[.int .i64 x0, .slice a1 x1.length c1] 37) := by
    rw [hb.block _ (by simp; omega), Below.heap_alloc _ _ _ (by simp; omega), Below.heap_alloc _ _ _ (by simp)]
    exact alloc_top _ _
  have hp11 : w1.heap[w.heap.size + 1]? = some (.cells #[.int .i64 0, .slice none 0 0] 45) := by
    rw [hb.block _ (by simp), Below.heap_alloc _ _ _ (by simp)]
    have := alloc_top (w.alloc (.cells #[.int .i64 x0, .slice a1 x1.length c1] 37)) (.cells #[.int .i64 0, .slice none 0 0] 45)
    rwa [World.size_alloc] at this
  have hp21 : w1.heap[w.heap.size + 1 + 1]? = some (.cells #[.int .i64 x0, .slice none 0 0] 45) := by
    rw [hb.block _ (by simp)]
    have := alloc_top ((w.alloc (.cells #[.int .i64 x0, .slice a1 x1.length c1] 37)).alloc (.cells #[.int .i64 0, .slice none 0 0] 45)) (.cells #[.int .i64 x0, .slice none 0 0] 45)
    rwa [World.size_alloc, World.size_alloc] at this
  have HB1 : Hid (Below w.heap.size w w1) := ((((Below.refl _ _).alloc (Nat.le_refl _) _).alloc (by simp) _).alloc (by simp; omega) _).trans (hb.mono (by simp; omega))
  have R1_1 : Hid (op.opSp.sslice.rep w1 (fun b => w.heap.size + 3 ≤ b ∧ b < w1.heap.size) [.slice a1' x1.length c1'] x1) := op.opSp.sslice.mono hrep fun b hS => ⟨by have := hS.1; simp at this; omega, hS.2⟩
  clear hrep hb
  have cr1_0 : w1.cell? ⟨w.heap.size + 1, 0, none⟩ = some (.int .i64 0) := by simp [World.cell?, hp11]
  have cr1_1 : w1.cell? ⟨w.heap.size + 1, 1, none⟩ = some (.slice none 0 0) := by simp [World.cell?, hp11]
  have fr1 : ∀ o, w1.frozen? ⟨w.heap.size + 1, o, none⟩ = false := fun o => by simp [World.frozen?, hp11]
  have co1_0 : w1.cell? ⟨w.heap.size + 1 + 1, 0, none⟩ = some (.int .i64 x0) := by simp [World.cell?, hp21]
  have co1_1 : w1.cell? ⟨w.heap.size + 1 + 1, 1, none⟩ = some (.slice none 0 0) := by simp [World.cell?, hp21]
  have fo1 : ∀ o, w1.frozen? ⟨w.heap.size + 1 + 1, o, none⟩ = false := fun o => by simp [World.frozen?, hp21]
  clear hpA1 hp11 hp21
  go_wp2
  refine bodyPost_ret (v := .agg #[.int .i64 x0, .slice a1' x1.length c1']) (by simp [results, Tryd.f18, go_sem, cr1_0, cr1_1]) rfl ?_
  refine ⟨⟨[.int .i64 x0, .slice a1' x1.length c1'], by rfl, funp_shut f0 (op.opSp.sslice.mono (op.opSp.sslice.on R1_1.out fun b hS => by repeat rw [Below.heap_setCell _ _ _ _ (by simp; omega)]) fun b hS => ⟨by omega, by simp [World.setCell]; exact hS.2⟩)⟩, ?_⟩
  repeat first | with_reducible exact HB1.out | (refine Below.setCell ?_ (by first | (simp; done) | (simp; omega)) _)

theorem infoP_fun : (Tryd.prog.info? 45).map (fun i => (i.zero, i.size, i.bytes)) = some (some (.agg #[.int .i64 0, .slice none 0 0]), 2, 32) := by kernel_rfl

theorem makeP_fun (n : Nat) (h : n ≤ 1048576) (w : World) : (Instr.makeSlice 27 (.int .i64 (n : Int)) (.int .i64 (n : Int))).run Tryd.prog w = .ok (.slice (some ⟨w.heap.size, 0, none⟩) n n)
    (w.alloc (.cells (madeCells #[.int .i64 0, .slice none 0 0] (n * 2)) 45)) := by
  obtain ⟨i, hi, hzz⟩ := Option.map_eq_some_iff.1 infoP_fun
  simp only [Prod.mk.injEq] at hzz
  obtain ⟨hz, hs, hb⟩ := hzz
  have := run_make (P := Tryd.prog) w 27 45 i _ Tryd.underlying27 hi hz .i64 .i64 n n (by omega) (by omega) (by rw [hb]; omega) (by omega)
  simpa [hs, Value.cells] using this

set_option maxHeartbeats 1000000 in
theorem toPS_of (ks : List FunD) (ih : ∀ k ∈ ks, ToPSays k) (v : Value) (w : World) (hw : ks.length + wts ks ≤ 1048576) (h : funSh.slice.rep w (· < w.heap.size) [v] ks) :
    Calls Tryd.prog 6 #[v] w fun e w' => (∃ v', e = .returned v' ∧ funSp.sslice.rep w' (fun b => w.heap.size ≤ b ∧ b < w'.heap.size) [v'] ks) ∧ Below w.heap.size w w' := by
  obtain ⟨a, cap, css, rfl, hcap, hmax, hrow, hk⟩ := funs_open h
  clear h hcap hmax
  have IH : Hid (∀ k ∈ ks, ToPSays k) := ih
  have HR : Hid (RowAt w (· < w.heap.size) 2 a ks.length css ∧ ∀ i (h : i < ks.length), funSh.rep w (· < w.heap.size) (css i) ks[i]) := ⟨hrow, hk⟩
  have HW : Hid (wts ks ≤ 1048576) := by show wts ks ≤ 1048576; omega
  have hn : ks.length ≤ 1048576 := by omega
  clear ih hrow hk hw
  have hmk := makeP_fun ks.length hn
  go_enter Tryd.func6, Tryd.ntmps6
  go_wp2
  clear hmk
  generalize hw1 : w.alloc _ = w1
  have F1 : SFilling funSp 45 w1 w.heap.size ks.length 0 ks := by
    subst hw1
    exact SFilling.start
  have B1 : Below w.heap.size w w1 := by subst hw1; exact (Below.refl _ _).alloc (Nat.le_refl _) _
  have Z1 : w.heap.size < w1.heap.size := by subst hw1; simp
  clear hw1
  go_loopw [4] (fun v4 wr => ∃ i : Nat, i ≤ ks.length ∧ v4 = .int .i64 i ∧ Hid (SFilling funSp 45 wr w.heap.size ks.length i ks ∧ Below w.heap.size w wr ∧ w.heap.size < wr.heap.size)) (fun v4 _ => ks.length - (intOf v4).toNat)
  case atStart => exact ⟨0, Nat.zero_le _, rfl, F1, B1, Z1⟩
  case round =>
    obtain ⟨i, hi, rfl, HF⟩ := hrel
    by_cases hlt : i < ks.length
    · obtain ⟨b, o, rfl, hS, hc⟩ := HR.out.1 i hlt
      have hrep := HR.out.2 i hlt
      obtain ⟨v0, v1, hcs, c0, c1⟩ := fun_cells hrep hc
      obtain ⟨F, HB, hZ⟩ := HF.out
      have e0 := (HB.cell (p := ⟨b, o + i * 2, none⟩) hS).trans c0
      have e1 := (HB.cell (p := ⟨b, o + i * 2 + 1, none⟩) hS).trans c1
      rw [hcs] at hrep
      clear c0 c1 hc hcs
      have hR := funSh.mono (funSh.below hrep HB) (S' := (· < wr.heap.size)) (fun b hb => Nat.lt_of_lt_of_le hb HB.size)
      clear hrep
      have hcall := IH.out ks[i] (List.getElem_mem hlt) [v0, v1] wr (by have := wts_take hlt; have := wts_take_le ks (i + 1); have := HW.out; omega) hR
      clear hR F HB hZ
      go_wp2_with fail
      refine hcall.mono ?_
      clear hcall
      rintro e w1 ⟨⟨cs', rfl, hrep'⟩, hb⟩
      obtain ⟨F, HB, hZ⟩ := HF.out
      have hl : cs'.length = 2 := funSp.len hrep'
      have hst := F.store (P := Tryd.prog) hb hZ hlt hl (funSp.one hrep')
      have F2 : Hid (SFilling funSp 45 (w1.setCells w.heap.size (i * 2) cs') w.heap.size ks.length (i + 1) ks) := F.step hb hZ hlt hlt hrep'
      have B2 : Hid (Below w.heap.size w (w1.setCells w.heap.size (i * 2) cs')) := (HB.trans (hb.mono (Nat.le_of_lt hZ))).trans (setCells_below (Nat.le_refl _) _ _)
      have Z2 : Hid (w.heap.size < (w1.setCells w.heap.size (i * 2) cs').heap.size) := by show _ < _; rw [setCells_size]; exact Nat.lt_of_lt_of_le hZ hb.size
      have hk5 : funSp.k = 2 := rfl
      rw [hk5] at hst
      clear F HB hZ HF hrep' hb hk5
      generalize w1.setCells w.heap.size (i * 2) cs' = w2 at hst F2 B2 Z2
      go_wp2
      go_round
      case rel => exact ⟨i + 1, by omega, by go_num, F2.out, B2.out, Z2.out⟩
      case measure => simp [intOf]; omega
    · obtain rfl : i = ks.length := by omega
      go_wp2
      go_ret
      obtain ⟨F, HB, hZ⟩ := HF.out
      exact ⟨⟨_, rfl, F.done hZ (by unfold maxLen; omega)⟩, HB⟩

theorem toPS_any (ks : List FunD) (v : Value) (w : World) (hw : ks.length + wts ks ≤ 1048576) (h : funSh.slice.rep w (· < w.heap.size) [v] ks) :
    Calls Tryd.prog 6 #[v] w fun e w' => (∃ v', e = .returned v' ∧ funSp.sslice.rep w' (fun b => w.heap.size ≤ b ∧ b < w'.heap.size) [v'] ks) ∧ Below w.heap.size w w' := toPS_of ks (fun k _ => toP_any k) v w hw h

end Go.Proofs.YtjoaiaeohlhbkaaDoor.fun
