/-
  The law's copies of a Scheme and of slices of it: the same in new memory, all of it apart; nothing that was there is turned.
-/
import Derived.Test.YtklcjjckelahcaaSchemeSp
import Derived.Test.YtklcjjckelahcaaTyToP
import Derived.Test.YtklcjjckelahcaaIntsTo
import Derived.Laws.MakeOwn
import Derived.Deep.OwnRows
namespace Go.Proofs.Ytklcjjckelahcaa.scheme
open Go.RowKit Go.Proofs.Ytklcjjckelahcaa.rose Go.Proofs.Ytklcjjckelahcaa
set_option linter.unusedVariables false

def ToPSays (T : SchemeD) : Prop := ∀ cs w, wt T ≤ 1048576 → schemeSh.rep w (· < w.heap.size) cs T →
  Calls Try.prog 45 #[.agg cs.toArray] w fun e w' => (∃ cs', e = .returned (.agg cs'.toArray) ∧ schemeSp.rep w' (fun b => w.heap.size ≤ b ∧ b < w'.heap.size) cs' T) ∧ Below w.heap.size w w'

set_option maxHeartbeats 2000000 in
theorem toP_any (T : SchemeD) : ToPSays T := by
  intro cs w hw h
  obtain ⟨x0, a0, c0, x1, u1_0, u1_1, u1_2, u1_3, rfl, rfl, f0, f1⟩ := scheme_open h
  have ou1_0 := ty.tySh.one f1 u1_0 (by simp)
  have ou1_1 := ty.tySh.one f1 u1_1 (by simp)
  have ou1_2 := ty.tySh.one f1 u1_2 (by simp)
  have ou1_3 := ty.tySh.one f1 u1_3 (by simp)
  clear h
  have q0 : x0.length ≤ 1048576 := by simp [wt] at hw; omega
  have K0 : ∀ (w' : World), Below w.heap.size w w' → Calls Try.prog 31 #[.slice a0 x0.length c0] w' fun e w'' => (∃ v', e = .returned v' ∧ Sh.int.sslice.rep w'' (fun b => w'.heap.size ≤ b ∧ b < w''.heap.size) [v'] x0) ∧ Below w'.heap.size w' w'' :=
    fun w' hb => ints.toPS_any x0 _ w' q0 (Sh.int.slice.mono (Sh.int.slice.below f0 hb) fun b hlt => Nat.lt_of_lt_of_le hlt hb.size)
  have q1 : ty.wt x1 ≤ 1048576 := by simp [wt] at hw; omega
  have K1 : ∀ (w' : World), Below w.heap.size w w' → Calls Try.prog 18 #[.agg #[u1_0, u1_1, u1_2, u1_3]] w' fun e w'' => (∃ cs', e = .returned (.agg cs'.toArray) ∧ ty.tySp.rep w'' (fun b => w'.heap.size ≤ b ∧ b < w''.heap.size) cs' x1) ∧ Below w'.heap.size w' w'' :=
    fun w' hb => ty.toP_any x1 _ w' q1 (ty.tySh.mono (ty.tySh.below f1 hb) fun b hlt => Nat.lt_of_lt_of_le hlt hb.size)
  clear hw f0 q0 f1 q1
  go_enter Try.func45, Try.ntmps45
  go_wp2_with fail
  refine (K0 _ ((((Below.refl _ _).alloc (Nat.le_refl _) _).alloc (by simp) _).alloc (by simp; omega) _)).mono ?_
  clear K0
  rintro e w1 ⟨⟨v', rfl, hrep⟩, hb⟩
  obtain ⟨a0', c0', e'⟩ := sslice_cells hrep
  cases e'
  have hz1 : w.heap.size + 3 ≤ w1.heap.size := by have := hb.size; simp at this; omega
  have hpA1 : w1.heap[w.heap.size]? = some (.cells #[.slice a0 x0.length c0, u1_0, u1_1, u1_2, u1_3] 76) := by
    rw [hb.block _ (by simp; omega), Below.heap_alloc _ _ _ (by simp; omega), Below.heap_alloc _ _ _ (by simp)]
    exact alloc_top _ _
  have hp11 : w1.heap[w.heap.size + 1]? = some (.cells #[.slice none 0 0, .int .i64 0, .int .i64 0, .string ⟨#[]⟩, .slice none 0 0] 80) := by
    rw [hb.block _ (by simp), Below.heap_alloc _ _ _ (by simp)]
    have := alloc_top (w.alloc (.cells #[.slice a0 x0.length c0, u1_0, u1_1, u1_2, u1_3] 76)) (.cells #[.slice none 0 0, .int .i64 0, .int .i64 0, .string ⟨#[]⟩, .slice none 0 0] 80)
    rwa [World.size_alloc] at this
  have hp21 : w1.heap[w.heap.size + 1 + 1]? = some (.cells #[.slice none 0 0, .int .i64 0, .int .i64 0, .string ⟨#[]⟩, .slice none 0 0] 80) := by
    rw [hb.block _ (by simp)]
    have := alloc_top ((w.alloc (.cells #[.slice a0 x0.length c0, u1_0, u1_1, u1_2, u1_3] 76)).alloc (.cells #[.slice none 0 0, .int .i64 0, .int .i64 0, .string ⟨#[]⟩, .slice none 0 0] 80)) (.cells #[.slice none 0 0, .int .i64 0, .int .i64 0, .string ⟨#[]⟩, .slice none 0 0] 80)
    rwa [World.size_alloc, World.size_alloc] at this
  have HB1 : Hid (Below w.heap.size w w1) := ((((Below.refl _ _).alloc (Nat.le_refl _) _).alloc (by simp) _).alloc (by simp; omega) _).trans (hb.mono (by simp; omega))
  have R0_1 : Hid (Sh.int.sslice.rep w1 (fun b => w.heap.size + 3 ≤ b ∧ b < w1.heap.size) [.slice a0' x0.length c0'] x0) := Sh.int.sslice.mono hrep fun b hS => ⟨by have := hS.1; simp at this; omega, hS.2⟩
  clear hrep hb
  have ca1_1 : w1.cell? ⟨w.heap.size, 1, none⟩ = some (u1_0) := by simp [World.cell?, hpA1]
  have ca1_2 : w1.cell? ⟨w.heap.size, 2, none⟩ = some (u1_1) := by simp [World.cell?, hpA1]
  have ca1_3 : w1.cell? ⟨w.heap.size, 3, none⟩ = some (u1_2) := by simp [World.cell?, hpA1]
  have ca1_4 : w1.cell? ⟨w.heap.size, 4, none⟩ = some (u1_3) := by simp [World.cell?, hpA1]
  have cr1_0 : w1.cell? ⟨w.heap.size + 1, 0, none⟩ = some (.slice none 0 0) := by simp [World.cell?, hp11]
  have cr1_1 : w1.cell? ⟨w.heap.size + 1, 1, none⟩ = some (.int .i64 0) := by simp [World.cell?, hp11]
  have cr1_2 : w1.cell? ⟨w.heap.size + 1, 2, none⟩ = some (.int .i64 0) := by simp [World.cell?, hp11]
  have cr1_3 : w1.cell? ⟨w.heap.size + 1, 3, none⟩ = some (.string ⟨#[]⟩) := by simp [World.cell?, hp11]
  have cr1_4 : w1.cell? ⟨w.heap.size + 1, 4, none⟩ = some (.slice none 0 0) := by simp [World.cell?, hp11]
  have fr1 : ∀ o, w1.frozen? ⟨w.heap.size + 1, o, none⟩ = false := fun o => by simp [World.frozen?, hp11]
  have co1_0 : w1.cell? ⟨w.heap.size + 1 + 1, 0, none⟩ = some (.slice none 0 0) := by simp [World.cell?, hp21]
  have co1_1 : w1.cell? ⟨w.heap.size + 1 + 1, 1, none⟩ = some (.int .i64 0) := by simp [World.cell?, hp21]
  have co1_2 : w1.cell? ⟨w.heap.size + 1 + 1, 2, none⟩ = some (.int .i64 0) := by simp [World.cell?, hp21]
  have co1_3 : w1.cell? ⟨w.heap.size + 1 + 1, 3, none⟩ = some (.string ⟨#[]⟩) := by simp [World.cell?, hp21]
  have co1_4 : w1.cell? ⟨w.heap.size + 1 + 1, 4, none⟩ = some (.slice none 0 0) := by simp [World.cell?, hp21]
  have fo1 : ∀ o, w1.frozen? ⟨w.heap.size + 1 + 1, o, none⟩ = false := fun o => by simp [World.frozen?, hp21]
  go_wp2_with fail
  refine (K1 _ (by repeat first | with_reducible exact HB1.out | (refine Below.setCell ?_ (by first | (simp; done) | (simp; omega)) _))).mono ?_
  clear K1
  rintro e w2 ⟨⟨cs', rfl, hrep⟩, hb⟩
  obtain ⟨u1_0', u1_1', u1_2', u1_3', rfl⟩ := ty.ty_list (ty.typ_rep hrep)
  have ou1_0' := ty.tySp.one hrep u1_0' (by simp)
  have ou1_1' := ty.tySp.one hrep u1_1' (by simp)
  have ou1_2' := ty.tySp.one hrep u1_2' (by simp)
  have ou1_3' := ty.tySp.one hrep u1_3' (by simp)
  have sou1_0' := fun (a : Addr) (m : Mode) (w : World) => run_store Try.prog w a u1_0' m ou1_0'
  have sou1_1' := fun (a : Addr) (m : Mode) (w : World) => run_store Try.prog w a u1_1' m ou1_1'
  have sou1_2' := fun (a : Addr) (m : Mode) (w : World) => run_store Try.prog w a u1_2' m ou1_2'
  have sou1_3' := fun (a : Addr) (m : Mode) (w : World) => run_store Try.prog w a u1_3' m ou1_3'
  have hs2 : w1.heap.size ≤ w2.heap.size := by have := hb.size; simp [World.setCell] at this; exact this
  have hz2 : w.heap.size + 3 ≤ w2.heap.size := Nat.le_trans hz1 hs2
  have hpA2 : w2.heap[w.heap.size]? = some (.cells #[.slice a0 x0.length c0, u1_0, u1_1, u1_2, u1_3] 76) := by
    rw [hb.block _ (by simp [World.setCell]; omega)]
    repeat rw [Below.heap_setCell _ _ _ _ (by first | (simp; done) | (simp; omega))]
    exact hpA1
  have hp12 : w2.heap[w.heap.size + 1]? = some (.cells #[.slice none 0 0, .int .i64 0, .int .i64 0, .string ⟨#[]⟩, .slice none 0 0] 80) := by
    rw [hb.block _ (by simp [World.setCell]; omega)]
    repeat rw [Below.heap_setCell _ _ _ _ (by first | (simp; done) | (simp; omega))]
    exact hp11
  have hp22 : w2.heap[w.heap.size + 1 + 1]? = some (.cells #[.slice a0' x0.length c0', .int .i64 0, .int .i64 0, .string ⟨#[]⟩, .slice none 0 0] 80) := by
    rw [hb.block _ (by simp [World.setCell]; omega)]
    simp [World.setCell, Array.getElem?_modify, hp21]
  have HB2 : Hid (Below w.heap.size w w2) := Below.trans (by repeat first | with_reducible exact HB1.out | (refine Below.setCell ?_ (by first | (simp; done) | (simp; omega)) _)) (hb.mono (by simp [World.setCell]; omega))
  have R1_2 : Hid (ty.tySp.rep w2 (fun b => w1.heap.size ≤ b ∧ b < w2.heap.size) [u1_0', u1_1', u1_2', u1_3'] x1) := ty.tySp.mono hrep fun b hS => ⟨by have := hS.1; simp [World.setCell] at this; omega, hS.2⟩
  have R0_2 : Hid (Sh.int.sslice.rep w2 (fun b => w.heap.size + 3 ≤ b ∧ b < w1.heap.size) [.slice a0' x0.length c0'] x0) := Sh.int.sslice.on R0_1.out fun b hS => (hb.block b (by simp [World.setCell]; omega)).trans (by repeat rw [Below.heap_setCell _ _ _ _ (by simp; omega)])
  clear R0_1
  clear HB1 hpA1 hp11 hp21
  clear hrep hb
  clear ca1_1 ca1_2 ca1_3 ca1_4 cr1_0 cr1_1 cr1_2 cr1_3 cr1_4 fr1 co1_0 co1_1 co1_2 co1_3 co1_4 fo1
  have cr2_0 : w2.cell? ⟨w.heap.size + 1, 0, none⟩ = some (.slice none 0 0) := by simp [World.cell?, hp12]
  have cr2_1 : w2.cell? ⟨w.heap.size + 1, 1, none⟩ = some (.int .i64 0) := by simp [World.cell?, hp12]
  have cr2_2 : w2.cell? ⟨w.heap.size + 1, 2, none⟩ = some (.int .i64 0) := by simp [World.cell?, hp12]
  have cr2_3 : w2.cell? ⟨w.heap.size + 1, 3, none⟩ = some (.string ⟨#[]⟩) := by simp [World.cell?, hp12]
  have cr2_4 : w2.cell? ⟨w.heap.size + 1, 4, none⟩ = some (.slice none 0 0) := by simp [World.cell?, hp12]
  have fr2 : ∀ o, w2.frozen? ⟨w.heap.size + 1, o, none⟩ = false := fun o => by simp [World.frozen?, hp12]
  have co2_0 : w2.cell? ⟨w.heap.size + 1 + 1, 0, none⟩ = some (.slice a0' x0.length c0') := by simp [World.cell?, hp22]
  have co2_1 : w2.cell? ⟨w.heap.size + 1 + 1, 1, none⟩ = some (.int .i64 0) := by simp [World.cell?, hp22]
  have co2_2 : w2.cell? ⟨w.heap.size + 1 + 1, 2, none⟩ = some (.int .i64 0) := by simp [World.cell?, hp22]
  have co2_3 : w2.cell? ⟨w.heap.size + 1 + 1, 3, none⟩ = some (.string ⟨#[]⟩) := by simp [World.cell?, hp22]
  have co2_4 : w2.cell? ⟨w.heap.size + 1 + 1, 4, none⟩ = some (.slice none 0 0) := by simp [World.cell?, hp22]
  have fo2 : ∀ o, w2.frozen? ⟨w.heap.size + 1 + 1, o, none⟩ = false := fun o => by simp [World.frozen?, hp22]
  clear hpA2 hp12 hp22
  go_wp2
  refine bodyPost_ret (v := .agg #[.slice a0' x0.length c0', u1_0', u1_1', u1_2', u1_3']) (by simp [results, Try.f45, go_sem, cr2_0, cr2_1, cr2_2, cr2_3, cr2_4]) rfl ?_
  refine ⟨⟨[.slice a0' x0.length c0', u1_0', u1_1', u1_2', u1_3'], by rfl, schemep_shut (Sh.int.sslice.on R0_2.out fun b hS => by repeat rw [Below.heap_setCell _ _ _ _ (by simp; omega)]) (ty.tySp.on R1_2.out fun b hS => by repeat rw [Below.heap_setCell _ _ _ _ (by simp; omega)]) (fun b hS => ⟨by omega, by simp [World.setCell]; omega⟩) (fun b hS => ⟨by omega, by simp [World.setCell]; omega⟩) (fun b h1 h2 => by omega)⟩, ?_⟩
  repeat first | with_reducible exact HB2.out | (refine Below.setCell ?_ (by first | (simp; done) | (simp; omega)) _)

theorem infoP_scheme : (Try.prog.info? 80).map (fun i => (i.zero, i.size, i.bytes)) = some (some (.agg #[.slice none 0 0, .int .i64 0, .int .i64 0, .string ⟨#[]⟩, .slice none 0 0]), 5, 80) := by kernel_rfl

theorem makeP_scheme (n : Nat) (h : n ≤ 1048576) (w : World) : (Instr.makeSlice 50 (.int .i64 (n : Int)) (.int .i64 (n : Int))).run Try.prog w = .ok (.slice (some ⟨w.heap.size, 0, none⟩) n n)
    (w.alloc (.cells (madeCells #[.slice none 0 0, .int .i64 0, .int .i64 0, .string ⟨#[]⟩, .slice none 0 0] (n * 5)) 80)) := by
  obtain ⟨i, hi, hzz⟩ := Option.map_eq_some_iff.1 infoP_scheme
  simp only [Prod.mk.injEq] at hzz
  obtain ⟨hz, hs, hb⟩ := hzz
  have := run_make (P := Try.prog) w 50 80 i _ Try.underlying50 hi hz .i64 .i64 n n (by omega) (by omega) (by rw [hb]; omega) (by omega)
  simpa [hs, Value.cells] using this

set_option maxHeartbeats 1000000 in
theorem toPS_of (ks : List SchemeD) (ih : ∀ k ∈ ks, ToPSays k) (v : Value) (w : World) (hw : ks.length + wts ks ≤ 1048576) (h : schemeSh.slice.rep w (· < w.heap.size) [v] ks) :
    Calls Try.prog 17 #[v] w fun e w' => (∃ v', e = .returned v' ∧ schemeSp.sslice.rep w' (fun b => w.heap.size ≤ b ∧ b < w'.heap.size) [v'] ks) ∧ Below w.heap.size w w' := by
  obtain ⟨a, cap, css, rfl, hcap, hmax, hrow, hk⟩ := schemes_open h
  clear h hcap hmax
  have IH : Hid (∀ k ∈ ks, ToPSays k) := ih
  have HR : Hid (RowAt w (· < w.heap.size) 5 a ks.length css ∧ ∀ i (h : i < ks.length), schemeSh.rep w (· < w.heap.size) (css i) ks[i]) := ⟨hrow, hk⟩
  have HW : Hid (wts ks ≤ 1048576) := by show wts ks ≤ 1048576; omega
  have hn : ks.length ≤ 1048576 := by omega
  clear ih hrow hk hw
  have hmk := makeP_scheme ks.length hn
  go_enter Try.func17, Try.ntmps17
  go_wp2
  clear hmk
  generalize hw1 : w.alloc _ = w1
  have F1 : SFilling schemeSp 80 w1 w.heap.size ks.length 0 ks := by
    subst hw1
    exact SFilling.start
  have B1 : Below w.heap.size w w1 := by subst hw1; exact (Below.refl _ _).alloc (Nat.le_refl _) _
  have Z1 : w.heap.size < w1.heap.size := by subst hw1; simp
  clear hw1
  go_loopw [4] (fun v4 wr => ∃ i : Nat, i ≤ ks.length ∧ v4 = .int .i64 i ∧ Hid (SFilling schemeSp 80 wr w.heap.size ks.length i ks ∧ Below w.heap.size w wr ∧ w.heap.size < wr.heap.size)) (fun v4 _ => ks.length - (intOf v4).toNat)
  case atStart => exact ⟨0, Nat.zero_le _, rfl, F1, B1, Z1⟩
  case round =>
    obtain ⟨i, hi, rfl, HF⟩ := hrel
    by_cases hlt : i < ks.length
    · obtain ⟨b, o, rfl, hS, hc⟩ := HR.out.1 i hlt
      have hrep := HR.out.2 i hlt
      obtain ⟨v0, v1, v2, v3, v4, hcs, c0, c1, c2, c3, c4⟩ := scheme_cells hrep hc
      obtain ⟨F, HB, hZ⟩ := HF.out
      have e0 := (HB.cell (p := ⟨b, o + i * 5, none⟩) hS).trans c0
      have e1 := (HB.cell (p := ⟨b, o + i * 5 + 1, none⟩) hS).trans c1
      have e2 := (HB.cell (p := ⟨b, o + i * 5 + 2, none⟩) hS).trans c2
      have e3 := (HB.cell (p := ⟨b, o + i * 5 + 3, none⟩) hS).trans c3
      have e4 := (HB.cell (p := ⟨b, o + i * 5 + 4, none⟩) hS).trans c4
      rw [hcs] at hrep
      clear c0 c1 c2 c3 c4 hc hcs
      have hR := schemeSh.mono (schemeSh.below hrep HB) (S' := (· < wr.heap.size)) (fun b hb => Nat.lt_of_lt_of_le hb HB.size)
      clear hrep
      have hcall := IH.out ks[i] (List.getElem_mem hlt) [v0, v1, v2, v3, v4] wr (by have := wts_take hlt; have := wts_take_le ks (i + 1); have := HW.out; omega) hR
      clear hR F HB hZ
      go_wp2_with fail
      refine hcall.mono ?_
      clear hcall
      rintro e w1 ⟨⟨cs', rfl, hrep'⟩, hb⟩
      obtain ⟨F, HB, hZ⟩ := HF.out
      have hl : cs'.length = 5 := schemeSp.len hrep'
      have hst := F.store (P := Try.prog) hb hZ hlt hl (schemeSp.one hrep')
      have F2 : Hid (SFilling schemeSp 80 (w1.setCells w.heap.size (i * 5) cs') w.heap.size ks.length (i + 1) ks) := F.step hb hZ hlt hlt hrep'
      have B2 : Hid (Below w.heap.size w (w1.setCells w.heap.size (i * 5) cs')) := (HB.trans (hb.mono (Nat.le_of_lt hZ))).trans (setCells_below (Nat.le_refl _) _ _)
      have Z2 : Hid (w.heap.size < (w1.setCells w.heap.size (i * 5) cs').heap.size) := by show _ < _; rw [setCells_size]; exact Nat.lt_of_lt_of_le hZ hb.size
      have hk5 : schemeSp.k = 5 := rfl
      rw [hk5] at hst
      clear F HB hZ HF hrep' hb hk5
      generalize w1.setCells w.heap.size (i * 5) cs' = w2 at hst F2 B2 Z2
      go_wp2
      go_round
      case rel => exact ⟨i + 1, by omega, by go_num, F2.out, B2.out, Z2.out⟩
      case measure => simp [intOf]; omega
    · obtain rfl : i = ks.length := by omega
      go_wp2
      go_ret
      obtain ⟨F, HB, hZ⟩ := HF.out
      exact ⟨⟨_, rfl, F.done hZ (by unfold maxLen; omega)⟩, HB⟩

theorem toPS_any (ks : List SchemeD) (v : Value) (w : World) (hw : ks.length + wts ks ≤ 1048576) (h : schemeSh.slice.rep w (· < w.heap.size) [v] ks) :
    Calls Try.prog 17 #[v] w fun e w' => (∃ v', e = .returned v' ∧ schemeSp.sslice.rep w' (fun b => w.heap.size ≤ b ∧ b < w'.heap.size) [v'] ks) ∧ Below w.heap.size w w' := toPS_of ks (fun k _ => toP_any k) v w hw h

end Go.Proofs.Ytklcjjckelahcaa.scheme
