/-
  The law's copies of a Bind and of slices of it: the same in new memory; nothing that was there is turned.
-/
import Derived.Test.YtfekbchmgnpkaaaBindSz
import Derived.Test.YtfekbchmgnpkaaaTyTo
import Derived.Laws.MakeOwn
import Derived.Deep.OwnRows
namespace Go.Proofs.Ytfekbchmgnpkaaa.bind
open Go.RowKit Go.Proofs.Ytfekbchmgnpkaaa.rose Go.Proofs.Ytfekbchmgnpkaaa
set_option linter.unusedVariables false

def ToSays (T : BindD) : Prop := ∀ cs w, wt T ≤ 1048576 → bindSh.rep w (· < w.heap.size) cs T →
  Calls Try.prog 45 #[.agg cs.toArray] w fun e w' => (∃ cs', e = .returned (.agg cs'.toArray) ∧ bindSh.rep w' (fun b => w.heap.size ≤ b ∧ b < w'.heap.size) cs' T) ∧ Below w.heap.size w w'

set_option maxHeartbeats 1000000 in
theorem to_any (T : BindD) : ToSays T := by
  intro cs w hw h
  obtain ⟨x0, x1, u1_0, u1_1, u1_2, u1_3, rfl, rfl, f0, f1⟩ := bind_open h
  have ou1_0 := ty.tySh.one f1 u1_0 (by simp)
  have ou1_1 := ty.tySh.one f1 u1_1 (by simp)
  have ou1_2 := ty.tySh.one f1 u1_2 (by simp)
  have ou1_3 := ty.tySh.one f1 u1_3 (by simp)
  clear h
  have q1 : ty.wt x1 ≤ 1048576 := by simp [wt] at hw; omega
  have K1 : ∀ (w' : World), Below w.heap.size w w' → Calls Try.prog 11 #[.agg #[u1_0, u1_1, u1_2, u1_3]] w' fun e w'' => (∃ cs', e = .returned (.agg cs'.toArray) ∧ ty.tySh.rep w'' (fun b => w'.heap.size ≤ b ∧ b < w''.heap.size) cs' x1) ∧ Below w'.heap.size w' w'' :=
    fun w' hb => ty.to_any x1 _ w' q1 (ty.tySh.mono (ty.tySh.below f1 hb) fun b hlt => Nat.lt_of_lt_of_le hlt hb.size)
  clear hw f1 q1
  go_enter Try.func45, Try.ntmps45
  go_wp2_with fail
  refine (K1 _ ((((Below.refl _ _).alloc (Nat.le_refl _) _).alloc (by simp) _).alloc (by simp; omega) _)).mono ?_
  clear K1
  rintro e w1 ⟨⟨cs', rfl, hrep⟩, hb⟩
  obtain ⟨u1_0', u1_1', u1_2', u1_3', rfl⟩ := ty.ty_list hrep
  have ou1_0' := ty.tySh.one hrep u1_0' (by simp)
  have ou1_1' := ty.tySh.one hrep u1_1' (by simp)
  have ou1_2' := ty.tySh.one hrep u1_2' (by simp)
  have ou1_3' := ty.tySh.one hrep u1_3' (by simp)
  have sou1_0' := fun (a : Addr) (m : Mode) (w : World) => run_store Try.prog w a u1_0' m ou1_0'
  have sou1_1' := fun (a : Addr) (m : Mode) (w : World) => run_store Try.prog w a u1_1' m ou1_1'
  have sou1_2' := fun (a : Addr) (m : Mode) (w : World) => run_store Try.prog w a u1_2' m ou1_2'
  have sou1_3' := fun (a : Addr) (m : Mode) (w : World) => run_store Try.prog w a u1_3' m ou1_3'
  have hz1 : w.heap.size + 3 ≤ w1.heap.size := by have := hb.size; simp at this; omega
  have hpA1 : w1.heap[w.heap.size]? = some (.cells #[.int .i64 x0, u1_0, u1_1, u1_2, u1_3] 65) := by
    rw [hb.block _ (by simp; omega), Below.heap_alloc _ _ _ (by simp; omega), Below.heap_alloc _ _ _ (by simp)]
    exact alloc_top _ _
  have hp11 : w1.heap[w.heap.size + 1]? = some (.cells #[.int .i64 0, .int .i64 0, .int .i64 0, .string ⟨#[]⟩, .slice none 0 0] 67) := by
    rw [hb.block _ (by simp), Below.heap_alloc _ _ _ (by simp)]
    have := alloc_top (w.alloc (.cells #[.int .i64 x0, u1_0, u1_1, u1_2, u1_3] 65)) (.cells #[.int .i64 0, .int .i64 0, .int .i64 0, .string ⟨#[]⟩, .slice none 0 0] 67)
    rwa [World.size_alloc] at this
  have hp21 : w1.heap[w.heap.size + 1 + 1]? = some (.cells #[.int .i64 x0, .int .i64 0, .int .i64 0, .string ⟨#[]⟩, .slice none 0 0] 67) := by
    rw [hb.block _ (by simp)]
    have := alloc_top ((w.alloc (.cells #[.int .i64 x0, u1_0, u1_1, u1_2, u1_3] 65)).alloc (.cells #[.int .i64 0, .int .i64 0, .int .i64 0, .string ⟨#[]⟩, .slice none 0 0] 67)) (.cells #[.int .i64 x0, .int .i64 0, .int .i64 0, .string ⟨#[]⟩, .slice none 0 0] 67)
    rwa [World.size_alloc, World.size_alloc] at this
  have HB1 : Hid (Below w.heap.size w w1) := ((((Below.refl _ _).alloc (Nat.le_refl _) _).alloc (by simp) _).alloc (by simp; omega) _).trans (hb.mono (by simp; omega))
  have R1_1 : Hid (ty.tySh.rep w1 (fun b => w.heap.size + 2 < b ∧ b < w1.heap.size) [u1_0', u1_1', u1_2', u1_3'] x1) := ty.tySh.mono hrep fun b hS => ⟨by have := hS.1; simp at this; omega, hS.2⟩
  clear hrep hb
  have cr1_0 : w1.cell? ⟨w.heap.size + 1, 0, none⟩ = some (.int .i64 0) := by simp [World.cell?, hp11]
  have cr1_1 : w1.cell? ⟨w.heap.size + 1, 1, none⟩ = some (.int .i64 0) := by simp [World.cell?, hp11]
  have cr1_2 : w1.cell? ⟨w.heap.size + 1, 2, none⟩ = some (.int .i64 0) := by simp [World.cell?, hp11]
  have cr1_3 : w1.cell? ⟨w.heap.size + 1, 3, none⟩ = some (.string ⟨#[]⟩) := by simp [World.cell?, hp11]
  have cr1_4 : w1.cell? ⟨w.heap.size + 1, 4, none⟩ = some (.slice none 0 0) := by simp [World.cell?, hp11]
  have fr1 : ∀ o, w1.frozen? ⟨w.heap.size + 1, o, none⟩ = false := fun o => by simp [World.frozen?, hp11]
  have co1_0 : w1.cell? ⟨w.heap.size + 1 + 1, 0, none⟩ = some (.int .i64 x0) := by simp [World.cell?, hp21]
  have co1_1 : w1.cell? ⟨w.heap.size + 1 + 1, 1, none⟩ = some (.int .i64 0) := by simp [World.cell?, hp21]
  have co1_2 : w1.cell? ⟨w.heap.size + 1 + 1, 2, none⟩ = some (.int .i64 0) := by simp [World.cell?, hp21]
  have co1_3 : w1.cell? ⟨w.heap.size + 1 + 1, 3, none⟩ = some (.string ⟨#[]⟩) := by simp [World.cell?, hp21]
  have co1_4 : w1.cell? ⟨w.heap.size + 1 + 1, 4, none⟩ = some (.slice none 0 0) := by simp [World.cell?, hp21]
  have fo1 : ∀ o, w1.frozen? ⟨w.heap.size + 1 + 1, o, none⟩ = false := fun o => by simp [World.frozen?, hp21]
  clear hpA1 hp11 hp21
  go_wp2
  refine bodyPost_ret (v := .agg #[.int .i64 x0, u1_0', u1_1', u1_2', u1_3']) (by simp [results, Try.f45, go_sem, cr1_0, cr1_1, cr1_2, cr1_3, cr1_4]) rfl ?_
  refine ⟨⟨[.int .i64 x0, u1_0', u1_1', u1_2', u1_3'], by rfl, bind_shut f0 (ty.tySh.mono (ty.tySh.on R1_1.out fun b hS => by repeat rw [Below.heap_setCell _ _ _ _ (by simp; omega)]) fun b hS => ⟨by omega, by simp [World.setCell]; exact hS.2⟩)⟩, ?_⟩
  repeat first | with_reducible exact HB1.out | (refine Below.setCell ?_ (by first | (simp; done) | (simp; omega)) _)

theorem info_bind : (Try.prog.info? 67).map (fun i => (i.zero, i.size, i.bytes)) = some (some (.agg #[.int .i64 0, .int .i64 0, .int .i64 0, .string ⟨#[]⟩, .slice none 0 0]), 5, 64) := by kernel_rfl

theorem make_bind (n : Nat) (h : n ≤ 1048576) (w : World) : (Instr.makeSlice 37 (.int .i64 (n : Int)) (.int .i64 (n : Int))).run Try.prog w = .ok (.slice (some ⟨w.heap.size, 0, none⟩) n n)
    (w.alloc (.cells (madeCells #[.int .i64 0, .int .i64 0, .int .i64 0, .string ⟨#[]⟩, .slice none 0 0] (n * 5)) 67)) := by
  obtain ⟨i, hi, hzz⟩ := Option.map_eq_some_iff.1 info_bind
  simp only [Prod.mk.injEq] at hzz
  obtain ⟨hz, hs, hb⟩ := hzz
  have := run_make (P := Try.prog) w 37 67 i _ Try.underlying37 hi hz .i64 .i64 n n (by omega) (by omega) (by rw [hb]; omega) (by omega)
  simpa [hs, Value.cells] using this

set_option maxHeartbeats 1000000 in
theorem toS_of (ks : List BindD) (ih : ∀ k ∈ ks, ToSays k) (v : Value) (w : World) (hw : ks.length + wts ks ≤ 1048576) (h : bindSh.slice.rep w (· < w.heap.size) [v] ks) :
    Calls Try.prog 18 #[v] w fun e w' => (∃ v', e = .returned v' ∧ bindSh.slice.rep w' (fun b => w.heap.size ≤ b ∧ b < w'.heap.size) [v'] ks) ∧ Below w.heap.size w w' := by
  obtain ⟨a, cap, css, rfl, hcap, hmax, hrow, hk⟩ := binds_open h
  clear h hcap hmax
  have IH : Hid (∀ k ∈ ks, ToSays k) := ih
  have HR : Hid (RowAt w (· < w.heap.size) 5 a ks.length css ∧ ∀ i (h : i < ks.length), bindSh.rep w (· < w.heap.size) (css i) ks[i]) := ⟨hrow, hk⟩
  have HW : Hid (wts ks ≤ 1048576) := by show wts ks ≤ 1048576; omega
  have hn : ks.length ≤ 1048576 := by omega
  clear ih hrow hk hw
  have hmk := make_bind ks.length hn
  go_enter Try.func18, Try.ntmps18
  go_wp2
  clear hmk
  generalize hw1 : w.alloc _ = w1
  have F1 : Filling bindSh 67 w1 w.heap.size ks.length 0 ks := by
    subst hw1
    exact Filling.start
  have B1 : Below w.heap.size w w1 := by subst hw1; exact (Below.refl _ _).alloc (Nat.le_refl _) _
  have Z1 : w.heap.size < w1.heap.size := by subst hw1; simp
  clear hw1
  go_loopw [4] (fun v4 wr => ∃ i : Nat, i ≤ ks.length ∧ v4 = .int .i64 i ∧ Hid (Filling bindSh 67 wr w.heap.size ks.length i ks ∧ Below w.heap.size w wr ∧ w.heap.size < wr.heap.size)) (fun v4 _ => ks.length - (intOf v4).toNat)
  case atStart => exact ⟨0, Nat.zero_le _, rfl, F1, B1, Z1⟩
  case round =>
    obtain ⟨i, hi, rfl, HF⟩ := hrel
    by_cases hlt : i < ks.length
    · obtain ⟨b, o, rfl, hS, hc⟩ := HR.out.1 i hlt
      have hrep := HR.out.2 i hlt
      obtain ⟨v0, v1, v2, v3, v4, hcs, c0, c1, c2, c3, c4⟩ := bind_cells hrep hc
      obtain ⟨F, HB, hZ⟩ := HF.out
      have e0 := (HB.cell (p := ⟨b, o + i * 5, none⟩) hS).trans c0
      have e1 := (HB.cell (p := ⟨b, o + i * 5 + 1, none⟩) hS).trans c1
      have e2 := (HB.cell (p := ⟨b, o + i * 5 + 2, none⟩) hS).trans c2
      have e3 := (HB.cell (p := ⟨b, o + i * 5 + 3, none⟩) hS).trans c3
      have e4 := (HB.cell (p := ⟨b, o + i * 5 + 4, none⟩) hS).trans c4
      rw [hcs] at hrep
      clear c0 c1 c2 c3 c4 hc hcs
      have hR := bindSh.mono (bindSh.below hrep HB) (S' := (· < wr.heap.size)) (fun b hb => Nat.lt_of_lt_of_le hb HB.size)
      clear hrep
      have hcall := IH.out ks[i] (List.getElem_mem hlt) [v0, v1, v2, v3, v4] wr (by have := wts_take hlt; have := wts_take_le ks (i + 1); have := HW.out; omega) hR
      clear hR F HB hZ
      go_wp2_with fail
      refine hcall.mono ?_
      clear hcall
      rintro e w1 ⟨⟨cs', rfl, hrep'⟩, hb⟩
      obtain ⟨F, HB, hZ⟩ := HF.out
      have hl : cs'.length = 5 := bindSh.len hrep'
      have hst := F.store (P := Try.prog) hb hZ hlt hl (bindSh.one hrep')
      have F2 : Hid (Filling bindSh 67 (w1.setCells w.heap.size (i * 5) cs') w.heap.size ks.length (i + 1) ks) := F.step hb hZ hlt hlt hrep'
      have B2 : Hid (Below w.heap.size w (w1.setCells w.heap.size (i * 5) cs')) := (HB.trans (hb.mono (Nat.le_of_lt hZ))).trans (setCells_below (Nat.le_refl _) _ _)
      have Z2 : Hid (w.heap.size < (w1.setCells w.heap.size (i * 5) cs').heap.size) := by show _ < _; rw [setCells_size]; exact Nat.lt_of_lt_of_le hZ hb.size
      have hk5 : bindSh.k = 5 := rfl
      rw [hk5] at hst
      clear F HB hZ HF hrep' hb hk5
      generalize w1.setCells w.heap.size (i * 5) cs' = w2 at hst F2 B2 Z2
      go_wp2
      go_round
      case rel => exact ⟨i + 1, by omega, by go_num, F2.out, B2.out, Z2.out⟩
      case measure => simp [intOf]; omega
    · obtain rfl : i = ks.length := by omega
      go_wp2
      go_ret
      obtain ⟨F, HB, hZ⟩ := HF.out
      exact ⟨⟨_, rfl, F.done hZ (by unfold maxLen; omega)⟩, HB⟩

theorem toS_any (ks : List BindD) (v : Value) (w : World) (hw : ks.length + wts ks ≤ 1048576) (h : bindSh.slice.rep w (· < w.heap.size) [v] ks) :
    Calls Try.prog 18 #[v] w fun e w' => (∃ v', e = .returned v' ∧ bindSh.slice.rep w' (fun b => w.heap.size ≤ b ∧ b < w'.heap.size) [v'] ks) ∧ Below w.heap.size w w' := toS_of ks (fun k _ => to_any k) v w hw h

end Go.Proofs.Ytfekbchmgnpkaaa.bind
