/-
  The law's copies of a Typed and of slices of it: the same in new memory, all of it apart; nothing that was there is turned.
-/
import Derived.Test.YtklcjjckelahcaaTypedSp
import Derived.Test.YtklcjjckelahcaaTyToP
import Derived.Test.YtklcjjckelahcaaIntsTo
import Derived.Laws.MakeOwn
import Derived.Deep.OwnRows
namespace Go.Proofs.Ytklcjjckelahcaa.typed
open Go.RowKit Go.Proofs.Ytklcjjckelahcaa.rose Go.Proofs.Ytklcjjckelahcaa
set_option linter.unusedVariables false

def ToPSays (T : TypedD) : Prop := ∀ cs w, wt T ≤ 1048576 → typedSh.rep w (· < w.heap.size) cs T →
  Calls Try.prog 7 #[.agg cs.toArray] w fun e w' => (∃ cs', e = .returned (.agg cs'.toArray) ∧ typedSp.rep w' (fun b => w.heap.size ≤ b ∧ b < w'.heap.size) cs' T) ∧ Below w.heap.size w w'

theorem infoP_typed : (Try.prog.info? 39).map (fun i => (i.zero, i.size, i.bytes)) = some (some (.agg #[.int .i64 0, .int .i64 0, .string ⟨#[]⟩, .string ⟨#[]⟩, .int .i64 0, .int .i64 0, .string ⟨#[]⟩, .slice none 0 0, .slice none 0 0, .slice none 0 0, .slice none 0 0]), 11, 176) := by kernel_rfl

theorem makeP_typed (n : Nat) (h : n ≤ 1048576) (w : World) : (Instr.makeSlice 37 (.int .i64 (n : Int)) (.int .i64 (n : Int))).run Try.prog w = .ok (.slice (some ⟨w.heap.size, 0, none⟩) n n)
    (w.alloc (.cells (madeCells #[.int .i64 0, .int .i64 0, .string ⟨#[]⟩, .string ⟨#[]⟩, .int .i64 0, .int .i64 0, .string ⟨#[]⟩, .slice none 0 0, .slice none 0 0, .slice none 0 0, .slice none 0 0] (n * 11)) 39)) := by
  obtain ⟨i, hi, hzz⟩ := Option.map_eq_some_iff.1 infoP_typed
  simp only [Prod.mk.injEq] at hzz
  obtain ⟨hz, hs, hb⟩ := hzz
  have := run_make (P := Try.prog) w 37 39 i _ Try.underlying37 hi hz .i64 .i64 n n (by omega) (by omega) (by rw [hb]; omega) (by omega)
  simpa [hs, Value.cells] using this

set_option maxHeartbeats 1000000 in
theorem toPS_of (ks : List TypedD) (ih : ∀ k ∈ ks, ToPSays k) (v : Value) (w : World) (hw : ks.length + wts ks ≤ 1048576) (h : typedSh.slice.rep w (· < w.heap.size) [v] ks) :
    Calls Try.prog 32 #[v] w fun e w' => (∃ v', e = .returned v' ∧ typedSp.sslice.rep w' (fun b => w.heap.size ≤ b ∧ b < w'.heap.size) [v'] ks) ∧ Below w.heap.size w w' := by
  obtain ⟨a, cap, css, rfl, hcap, hmax, hrow, hk⟩ := typeds_open h
  clear h hcap hmax
  have IH : Hid (∀ k ∈ ks, ToPSays k) := ih
  have HR : Hid (RowAt w (· < w.heap.size) 11 a ks.length css ∧ ∀ i (h : i < ks.length), typedSh.rep w (· < w.heap.size) (css i) ks[i]) := ⟨hrow, hk⟩
  have HW : Hid (wts ks ≤ 1048576) := by show wts ks ≤ 1048576; omega
  have hn : ks.length ≤ 1048576 := by omega
  clear ih hrow hk hw
  have hmk := makeP_typed ks.length hn
  go_enter Try.func32, Try.ntmps32
  go_wp2
  clear hmk
  generalize hw1 : w.alloc _ = w1
  have F1 : SFilling typedSp 39 w1 w.heap.size ks.length 0 ks := by
    subst hw1
    exact SFilling.start
  have B1 : Below w.heap.size w w1 := by subst hw1; exact (Below.refl _ _).alloc (Nat.le_refl _) _
  have Z1 : w.heap.size < w1.heap.size := by subst hw1; simp
  clear hw1
  go_loopw [4] (fun v4 wr => ∃ i : Nat, i ≤ ks.length ∧ v4 = .int .i64 i ∧ Hid (SFilling typedSp 39 wr w.heap.size ks.length i ks ∧ Below w.heap.size w wr ∧ w.heap.size < wr.heap.size)) (fun v4 _ => ks.length - (intOf v4).toNat)
  case atStart => exact ⟨0, Nat.zero_le _, rfl, F1, B1, Z1⟩
  case round =>
    obtain ⟨i, hi, rfl, HF⟩ := hrel
    by_cases hlt : i < ks.length
    · obtain ⟨b, o, rfl, hS, hc⟩ := HR.out.1 i hlt
      have hrep := HR.out.2 i hlt
      obtain ⟨v0, v1, v2, v3, v4, v5, v6, v7, v8, v9, v10, hcs, c0, c1, c2, c3, c4, c5, c6, c7, c8, c9, c10⟩ := typed_cells hrep hc
      obtain ⟨F, HB, hZ⟩ := HF.out
      have e0 := (HB.cell (p := ⟨b, o + i * 11, none⟩) hS).trans c0
      have e1 := (HB.cell (p := ⟨b, o + i * 11 + 1, none⟩) hS).trans c1
      have e2 := (HB.cell (p := ⟨b, o + i * 11 + 2, none⟩) hS).trans c2
      have e3 := (HB.cell (p := ⟨b, o + i * 11 + 3, none⟩) hS).trans c3
      have e4 := (HB.cell (p := ⟨b, o + i * 11 + 4, none⟩) hS).trans c4
      have e5 := (HB.cell (p := ⟨b, o + i * 11 + 5, none⟩) hS).trans c5
      have e6 := (HB.cell (p := ⟨b, o + i * 11 + 6, none⟩) hS).trans c6
      have e7 := (HB.cell (p := ⟨b, o + i * 11 + 7, none⟩) hS).trans c7
      have e8 := (HB.cell (p := ⟨b, o + i * 11 + 8, none⟩) hS).trans c8
      have e9 := (HB.cell (p := ⟨b, o + i * 11 + 9, none⟩) hS).trans c9
      have e10 := (HB.cell (p := ⟨b, o + i * 11 + 10, none⟩) hS).trans c10
      rw [hcs] at hrep
      clear c0 c1 c2 c3 c4 c5 c6 c7 c8 c9 c10 hc hcs
      have hR := typedSh.mono (typedSh.below hrep HB) (S' := (· < wr.heap.size)) (fun b hb => Nat.lt_of_lt_of_le hb HB.size)
      clear hrep
      have hcall := IH.out ks[i] (List.getElem_mem hlt) [v0, v1, v2, v3, v4, v5, v6, v7, v8, v9, v10] wr (by have := wts_take hlt; have := wts_take_le ks (i + 1); have := HW.out; omega) hR
      clear hR F HB hZ
      go_wp2_with fail
      refine hcall.mono ?_
      clear hcall
      rintro e w1 ⟨⟨cs', rfl, hrep'⟩, hb⟩
      obtain ⟨F, HB, hZ⟩ := HF.out
      have hl : cs'.length = 11 := typedSp.len hrep'
      have hst := F.store (P := Try.prog) hb hZ hlt hl (typedSp.one hrep')
      have F2 : Hid (SFilling typedSp 39 (w1.setCells w.heap.size (i * 11) cs') w.heap.size ks.length (i + 1) ks) := F.step hb hZ hlt hlt hrep'
      have B2 : Hid (Below w.heap.size w (w1.setCells w.heap.size (i * 11) cs')) := (HB.trans (hb.mono (Nat.le_of_lt hZ))).trans (setCells_below (Nat.le_refl _) _ _)
      have Z2 : Hid (w.heap.size < (w1.setCells w.heap.size (i * 11) cs').heap.size) := by show _ < _; rw [setCells_size]; exact Nat.lt_of_lt_of_le hZ hb.size
      have hk5 : typedSp.k = 11 := rfl
      rw [hk5] at hst
      clear F HB hZ HF hrep' hb hk5
      generalize w1.setCells w.heap.size (i * 11) cs' = w2 at hst F2 B2 Z2
      go_wp2
      go_round
      case rel => exact ⟨i + 1, by omega, by go_num, F2.out, B2.out, Z2.out⟩
      case measure => simp [intOf]; omega
    · obtain rfl : i = ks.length := by omega
      go_wp2
      go_ret
      obtain ⟨F, HB, hZ⟩ := HF.out
      exact ⟨⟨_, rfl, F.done hZ (by unfold maxLen; omega)⟩, HB⟩

set_option maxHeartbeats 2000000 in
theorem toP_any (T : TypedD) : ToPSays T := by
  induction T using ind with
  | h x x7 ih =>
    intro cs w hw h
    obtain ⟨x0, x1, x2, x3, x4, u4_0, u4_1, u4_2, u4_3, x5, a5, c5, x6, a6, c6, x7k, a7, c7, hT, rfl, f0, f1, f2, f3, f4, f5, f6, f7⟩ := typed_open h
    cases hT
    have ou4_0 := ty.tySh.one f4 u4_0 (by simp)
    have ou4_1 := ty.tySh.one f4 u4_1 (by simp)
    have ou4_2 := ty.tySh.one f4 u4_2 (by simp)
    have ou4_3 := ty.tySh.one f4 u4_3 (by simp)
    clear h
    have q4 : ty.wt x4 ≤ 1048576 := by simp [wt] at hw; omega
    have K4 : ∀ (w' : World), Below w.heap.size w w' → Calls Try.prog 18 #[.agg #[u4_0, u4_1, u4_2, u4_3]] w' fun e w'' => (∃ cs', e = .returned (.agg cs'.toArray) ∧ ty.tySp.rep w'' (fun b => w'.heap.size ≤ b ∧ b < w''.heap.size) cs' x4) ∧ Below w'.heap.size w' w'' :=
      fun w' hb => ty.toP_any x4 _ w' q4 (ty.tySh.mono (ty.tySh.below f4 hb) fun b hlt => Nat.lt_of_lt_of_le hlt hb.size)
    have q5 : x5.length + ty.wts x5 ≤ 1048576 := by simp [wt] at hw; omega
    have K5 : ∀ (w' : World), Below w.heap.size w w' → Calls Try.prog 30 #[.slice a5 x5.length c5] w' fun e w'' => (∃ v', e = .returned v' ∧ ty.tySp.sslice.rep w'' (fun b => w'.heap.size ≤ b ∧ b < w''.heap.size) [v'] x5) ∧ Below w'.heap.size w' w'' :=
      fun w' hb => ty.toPS_any x5 _ w' q5 (ty.tySh.slice.mono (ty.tySh.slice.below f5 hb) fun b hlt => Nat.lt_of_lt_of_le hlt hb.size)
    have q6 : x6.length ≤ 1048576 := by simp [wt] at hw; omega
    have K6 : ∀ (w' : World), Below w.heap.size w w' → Calls Try.prog 31 #[.slice a6 x6.length c6] w' fun e w'' => (∃ v', e = .returned v' ∧ Sh.int.sslice.rep w'' (fun b => w'.heap.size ≤ b ∧ b < w''.heap.size) [v'] x6) ∧ Below w'.heap.size w' w'' :=
      fun w' hb => ints.toPS_any x6 _ w' q6 (Sh.int.slice.mono (Sh.int.slice.below f6 hb) fun b hlt => Nat.lt_of_lt_of_le hlt hb.size)
    have q7 : x7.length + wts x7 ≤ 1048576 := by simp [wt] at hw; omega
    have K7 : ∀ (w' : World), Below w.heap.size w w' → Calls Try.prog 32 #[.slice a7 x7.length c7] w' fun e w'' => (∃ v', e = .returned v' ∧ typedSp.sslice.rep w'' (fun b => w'.heap.size ≤ b ∧ b < w''.heap.size) [v'] x7) ∧ Below w'.heap.size w' w'' :=
      fun w' hb => toPS_of x7 ih _ w' q7 (typedSh.slice.mono (typedSh.slice.below f7 hb) fun b hlt => Nat.lt_of_lt_of_le hlt hb.size)
    clear ih hw f4 q4 f5 q5 f6 q6 f7 q7
    go_enter Try.func7, Try.ntmps7
    go_wp2_with fail
    refine (K4 _ ((((Below.refl _ _).alloc (Nat.le_refl _) _).alloc (by simp) _).alloc (by simp; omega) _)).mono ?_
    clear K4
    rintro e w1 ⟨⟨cs', rfl, hrep⟩, hb⟩
    obtain ⟨u4_0', u4_1', u4_2', u4_3', rfl⟩ := ty.ty_list (ty.typ_rep hrep)
    have ou4_0' := ty.tySp.one hrep u4_0' (by simp)
    have ou4_1' := ty.tySp.one hrep u4_1' (by simp)
    have ou4_2' := ty.tySp.one hrep u4_2' (by simp)
    have ou4_3' := ty.tySp.one hrep u4_3' (by simp)
    have sou4_0' := fun (a : Addr) (m : Mode) (w : World) => run_store Try.prog w a u4_0' m ou4_0'
    have sou4_1' := fun (a : Addr) (m : Mode) (w : World) => run_store Try.prog w a u4_1' m ou4_1'
    have sou4_2' := fun (a : Addr) (m : Mode) (w : World) => run_store Try.prog w a u4_2' m ou4_2'
    have sou4_3' := fun (a : Addr) (m : Mode) (w : World) => run_store Try.prog w a u4_3' m ou4_3'
    have hz1 : w.heap.size + 3 ≤ w1.heap.size := by have := hb.size; simp at this; omega
    have hpA1 : w1.heap[w.heap.size]? = some (.cells #[.int .i64 x0, .int .i64 x1, .string x2, .string x3, u4_0, u4_1, u4_2, u4_3, .slice a5 x5.length c5, .slice a6 x6.length c6, .slice a7 x7.length c7] 28) := by
      rw [hb.block _ (by simp; omega), Below.heap_alloc _ _ _ (by simp; omega), Below.heap_alloc _ _ _ (by simp)]
      exact alloc_top _ _
    have hp11 : w1.heap[w.heap.size + 1]? = some (.cells #[.int .i64 0, .int .i64 0, .string ⟨#[]⟩, .string ⟨#[]⟩, .int .i64 0, .int .i64 0, .string ⟨#[]⟩, .slice none 0 0, .slice none 0 0, .slice none 0 0, .slice none 0 0] 39) := by
      rw [hb.block _ (by simp), Below.heap_alloc _ _ _ (by simp)]
      have := alloc_top (w.alloc (.cells #[.int .i64 x0, .int .i64 x1, .string x2, .string x3, u4_0, u4_1, u4_2, u4_3, .slice a5 x5.length c5, .slice a6 x6.length c6, .slice a7 x7.length c7] 28)) (.cells #[.int .i64 0, .int .i64 0, .string ⟨#[]⟩, .string ⟨#[]⟩, .int .i64 0, .int .i64 0, .string ⟨#[]⟩, .slice none 0 0, .slice none 0 0, .slice none 0 0, .slice none 0 0] 39)
      rwa [World.size_alloc] at this
    have hp21 : w1.heap[w.heap.size + 1 + 1]? = some (.cells #[.int .i64 x0, .int .i64 x1, .string x2, .string x3, .int .i64 0, .int .i64 0, .string ⟨#[]⟩, .slice none 0 0, .slice none 0 0, .slice none 0 0, .slice none 0 0] 39) := by
      rw [hb.block _ (by simp)]
      have := alloc_top ((w.alloc (.cells #[.int .i64 x0, .int .i64 x1, .string x2, .string x3, u4_0, u4_1, u4_2, u4_3, .slice a5 x5.length c5, .slice a6 x6.length c6, .slice a7 x7.length c7] 28)).alloc (.cells #[.int .i64 0, .int .i64 0, .string ⟨#[]⟩, .string ⟨#[]⟩, .int .i64 0, .int .i64 0, .string ⟨#[]⟩, .slice none 0 0, .slice none 0 0, .slice none 0 0, .slice none 0 0] 39)) (.cells #[.int .i64 x0, .int .i64 x1, .string x2, .string x3, .int .i64 0, .int .i64 0, .string ⟨#[]⟩, .slice none 0 0, .slice none 0 0, .slice none 0 0, .slice none 0 0] 39)
      rwa [World.size_alloc, World.size_alloc] at this
    have HB1 : Hid (Below w.heap.size w w1) := ((((Below.refl _ _).alloc (Nat.le_refl _) _).alloc (by simp) _).alloc (by simp; omega) _).trans (hb.mono (by simp; omega))
    have R4_1 : Hid (ty.tySp.rep w1 (fun b => w.heap.size + 3 ≤ b ∧ b < w1.heap.size) [u4_0', u4_1', u4_2', u4_3'] x4) := ty.tySp.mono hrep fun b hS => ⟨by have := hS.1; simp at this; omega, hS.2⟩
    clear hrep hb
    have ca1_8 : w1.cell? ⟨w.heap.size, 8, none⟩ = some (.slice a5 x5.length c5) := by simp [World.cell?, hpA1]
    have ca1_9 : w1.cell? ⟨w.heap.size, 9, none⟩ = some (.slice a6 x6.length c6) := by simp [World.cell?, hpA1]
    have ca1_10 : w1.cell? ⟨w.heap.size, 10, none⟩ = some (.slice a7 x7.length c7) := by simp [World.cell?, hpA1]
    have cr1_0 : w1.cell? ⟨w.heap.size + 1, 0, none⟩ = some (.int .i64 0) := by simp [World.cell?, hp11]
    have cr1_1 : w1.cell? ⟨w.heap.size + 1, 1, none⟩ = some (.int .i64 0) := by simp [World.cell?, hp11]
    have cr1_2 : w1.cell? ⟨w.heap.size + 1, 2, none⟩ = some (.string ⟨#[]⟩) := by simp [World.cell?, hp11]
    have cr1_3 : w1.cell? ⟨w.heap.size + 1, 3, none⟩ = some (.string ⟨#[]⟩) := by simp [World.cell?, hp11]
    have cr1_4 : w1.cell? ⟨w.heap.size + 1, 4, none⟩ = some (.int .i64 0) := by simp [World.cell?, hp11]
    have cr1_5 : w1.cell? ⟨w.heap.size + 1, 5, none⟩ = some (.int .i64 0) := by simp [World.cell?, hp11]
    have cr1_6 : w1.cell? ⟨w.heap.size + 1, 6, none⟩ = some (.string ⟨#[]⟩) := by simp [World.cell?, hp11]
    have cr1_7 : w1.cell? ⟨w.heap.size + 1, 7, none⟩ = some (.slice none 0 0) := by simp [World.cell?, hp11]
    have cr1_8 : w1.cell? ⟨w.heap.size + 1, 8, none⟩ = some (.slice none 0 0) := by simp [World.cell?, hp11]
    have cr1_9 : w1.cell? ⟨w.heap.size + 1, 9, none⟩ = some (.slice none 0 0) := by simp [World.cell?, hp11]
    have cr1_10 : w1.cell? ⟨w.heap.size + 1, 10, none⟩ = some (.slice none 0 0) := by simp [World.cell?, hp11]
    have fr1 : ∀ o, w1.frozen? ⟨w.heap.size + 1, o, none⟩ = false := fun o => by simp [World.frozen?, hp11]
    have co1_0 : w1.cell? ⟨w.heap.size + 1 + 1, 0, none⟩ = some (.int .i64 x0) := by simp [World.cell?, hp21]
    have co1_1 : w1.cell? ⟨w.heap.size + 1 + 1, 1, none⟩ = some (.int .i64 x1) := by simp [World.cell?, hp21]
    have co1_2 : w1.cell? ⟨w.heap.size + 1 + 1, 2, none⟩ = some (.string x2) := by simp [World.cell?, hp21]
    have co1_3 : w1.cell? ⟨w.heap.size + 1 + 1, 3, none⟩ = some (.string x3) := by simp [World.cell?, hp21]
    have co1_4 : w1.cell? ⟨w.heap.size + 1 + 1, 4, none⟩ = some (.int .i64 0) := by simp [World.cell?, hp21]
    have co1_5 : w1.cell? ⟨w.heap.size + 1 + 1, 5, none⟩ = some (.int .i64 0) := by simp [World.cell?, hp21]
    have co1_6 : w1.cell? ⟨w.heap.size + 1 + 1, 6, none⟩ = some (.string ⟨#[]⟩) := by simp [World.cell?, hp21]
    have co1_7 : w1.cell? ⟨w.heap.size + 1 + 1, 7, none⟩ = some (.slice none 0 0) := by simp [World.cell?, hp21]
    have co1_8 : w1.cell? ⟨w.heap.size + 1 + 1, 8, none⟩ = some (.slice none 0 0) := by simp [World.cell?, hp21]
    have co1_9 : w1.cell? ⟨w.heap.size + 1 + 1, 9, none⟩ = some (.slice none 0 0) := by simp [World.cell?, hp21]
    have co1_10 : w1.cell? ⟨w.heap.size + 1 + 1, 10, none⟩ = some (.slice none 0 0) := by simp [World.cell?, hp21]
    have fo1 : ∀ o, w1.frozen? ⟨w.heap.size + 1 + 1, o, none⟩ = false := fun o => by simp [World.frozen?, hp21]
    go_wp2_with fail
    refine (K5 _ (by repeat first | with_reducible exact HB1.out | (refine Below.setCell ?_ (by first | (simp; done) | (simp; omega)) _))).mono ?_
    clear K5
    rintro e w2 ⟨⟨v', rfl, hrep⟩, hb⟩
    obtain ⟨a5', c5', e'⟩ := sslice_cells hrep
    cases e'
    have hs2 : w1.heap.size ≤ w2.heap.size := by have := hb.size; simp [World.setCell] at this; exact this
    have hz2 : w.heap.size + 3 ≤ w2.heap.size := Nat.le_trans hz1 hs2
    have hpA2 : w2.heap[w.heap.size]? = some (.cells #[.int .i64 x0, .int .i64 x1, .string x2, .string x3, u4_0, u4_1, u4_2, u4_3, .slice a5 x5.length c5, .slice a6 x6.length c6, .slice a7 x7.length c7] 28) := by
      rw [hb.block _ (by simp [World.setCell]; omega)]
      repeat rw [Below.heap_setCell _ _ _ _ (by first | (simp; done) | (simp; omega))]
      exact hpA1
    have hp12 : w2.heap[w.heap.size + 1]? = some (.cells #[.int .i64 0, .int .i64 0, .string ⟨#[]⟩, .string ⟨#[]⟩, .int .i64 0, .int .i64 0, .string ⟨#[]⟩, .slice none 0 0, .slice none 0 0, .slice none 0 0, .slice none 0 0] 39) := by
      rw [hb.block _ (by simp [World.setCell]; omega)]
      repeat rw [Below.heap_setCell _ _ _ _ (by first | (simp; done) | (simp; omega))]
      exact hp11
    have hp22 : w2.heap[w.heap.size + 1 + 1]? = some (.cells #[.int .i64 x0, .int .i64 x1, .string x2, .string x3, u4_0', u4_1', u4_2', u4_3', .slice none 0 0, .slice none 0 0, .slice none 0 0] 39) := by
      rw [hb.block _ (by simp [World.setCell]; omega)]
      simp [World.setCell, Array.getElem?_modify, hp21]
    have HB2 : Hid (Below w.heap.size w w2) := Below.trans (by repeat first | with_reducible exact HB1.out | (refine Below.setCell ?_ (by first | (simp; done) | (simp; omega)) _)) (hb.mono (by simp [World.setCell]; omega))
    have R5_2 : Hid (ty.tySp.sslice.rep w2 (fun b => w1.heap.size ≤ b ∧ b < w2.heap.size) [.slice a5' x5.length c5'] x5) := ty.tySp.sslice.mono hrep fun b hS => ⟨by have := hS.1; simp [World.setCell] at this; omega, hS.2⟩
    have R4_2 : Hid (ty.tySp.rep w2 (fun b => w.heap.size + 3 ≤ b ∧ b < w1.heap.size) [u4_0', u4_1', u4_2', u4_3'] x4) := ty.tySp.on R4_1.out fun b hS => (hb.block b (by simp [World.setCell]; omega)).trans (by repeat rw [Below.heap_setCell _ _ _ _ (by simp; omega)])
    clear R4_1
    clear HB1 hpA1 hp11 hp21
    clear hrep hb
    clear ca1_8 ca1_9 ca1_10 cr1_0 cr1_1 cr1_2 cr1_3 cr1_4 cr1_5 cr1_6 cr1_7 cr1_8 cr1_9 cr1_10 fr1 co1_0 co1_1 co1_2 co1_3 co1_4 co1_5 co1_6 co1_7 co1_8 co1_9 co1_10 fo1
    have ca2_9 : w2.cell? ⟨w.heap.size, 9, none⟩ = some (.slice a6 x6.length c6) := by simp [World.cell?, hpA2]
    have ca2_10 : w2.cell? ⟨w.heap.size, 10, none⟩ = some (.slice a7 x7.length c7) := by simp [World.cell?, hpA2]
    have cr2_0 : w2.cell? ⟨w.heap.size + 1, 0, none⟩ = some (.int .i64 0) := by simp [World.cell?, hp12]
    have cr2_1 : w2.cell? ⟨w.heap.size + 1, 1, none⟩ = some (.int .i64 0) := by simp [World.cell?, hp12]
    have cr2_2 : w2.cell? ⟨w.heap.size + 1, 2, none⟩ = some (.string ⟨#[]⟩) := by simp [World.cell?, hp12]
    have cr2_3 : w2.cell? ⟨w.heap.size + 1, 3, none⟩ = some (.string ⟨#[]⟩) := by simp [World.cell?, hp12]
    have cr2_4 : w2.cell? ⟨w.heap.size + 1, 4, none⟩ = some (.int .i64 0) := by simp [World.cell?, hp12]
    have cr2_5 : w2.cell? ⟨w.heap.size + 1, 5, none⟩ = some (.int .i64 0) := by simp [World.cell?, hp12]
    have cr2_6 : w2.cell? ⟨w.heap.size + 1, 6, none⟩ = some (.string ⟨#[]⟩) := by simp [World.cell?, hp12]
    have cr2_7 : w2.cell? ⟨w.heap.size + 1, 7, none⟩ = some (.slice none 0 0) := by simp [World.cell?, hp12]
    have cr2_8 : w2.cell? ⟨w.heap.size + 1, 8, none⟩ = some (.slice none 0 0) := by simp [World.cell?, hp12]
    have cr2_9 : w2.cell? ⟨w.heap.size + 1, 9, none⟩ = some (.slice none 0 0) := by simp [World.cell?, hp12]
    have cr2_10 : w2.cell? ⟨w.heap.size + 1, 10, none⟩ = some (.slice none 0 0) := by simp [World.cell?, hp12]
    have fr2 : ∀ o, w2.frozen? ⟨w.heap.size + 1, o, none⟩ = false := fun o => by simp [World.frozen?, hp12]
    have co2_0 : w2.cell? ⟨w.heap.size + 1 + 1, 0, none⟩ = some (.int .i64 x0) := by simp [World.cell?, hp22]
    have co2_1 : w2.cell? ⟨w.heap.size + 1 + 1, 1, none⟩ = some (.int .i64 x1) := by simp [World.cell?, hp22]
    have co2_2 : w2.cell? ⟨w.heap.size + 1 + 1, 2, none⟩ = some (.string x2) := by simp [World.cell?, hp22]
    have co2_3 : w2.cell? ⟨w.heap.size + 1 + 1, 3, none⟩ = some (.string x3) := by simp [World.cell?, hp22]
    have co2_4 : w2.cell? ⟨w.heap.size + 1 + 1, 4, none⟩ = some (u4_0') := by simp [World.cell?, hp22]
    have co2_5 : w2.cell? ⟨w.heap.size + 1 + 1, 5, none⟩ = some (u4_1') := by simp [World.cell?, hp22]
    have co2_6 : w2.cell? ⟨w.heap.size + 1 + 1, 6, none⟩ = some (u4_2') := by simp [World.cell?, hp22]
    have co2_7 : w2.cell? ⟨w.heap.size + 1 + 1, 7, none⟩ = some (u4_3') := by simp [World.cell?, hp22]
    have co2_8 : w2.cell? ⟨w.heap.size + 1 + 1, 8, none⟩ = some (.slice none 0 0) := by simp [World.cell?, hp22]
    have co2_9 : w2.cell? ⟨w.heap.size + 1 + 1, 9, none⟩ = some (.slice none 0 0) := by simp [World.cell?, hp22]
    have co2_10 : w2.cell? ⟨w.heap.size + 1 + 1, 10, none⟩ = some (.slice none 0 0) := by simp [World.cell?, hp22]
    have fo2 : ∀ o, w2.frozen? ⟨w.heap.size + 1 + 1, o, none⟩ = false := fun o => by simp [World.frozen?, hp22]
    go_wp2_with fail
    refine (K6 _ (by repeat first | with_reducible exact HB2.out | (refine Below.setCell ?_ (by first | (simp; done) | (simp; omega)) _))).mono ?_
    clear K6
    rintro e w3 ⟨⟨v', rfl, hrep⟩, hb⟩
    obtain ⟨a6', c6', e'⟩ := sslice_cells hrep
    cases e'
    have hs3 : w2.heap.size ≤ w3.heap.size := by have := hb.size; simp [World.setCell] at this; exact this
    have hz3 : w.heap.size + 3 ≤ w3.heap.size := Nat.le_trans hz2 hs3
    have hpA3 : w3.heap[w.heap.size]? = some (.cells #[.int .i64 x0, .int .i64 x1, .string x2, .string x3, u4_0, u4_1, u4_2, u4_3, .slice a5 x5.length c5, .slice a6 x6.length c6, .slice a7 x7.length c7] 28) := by
      rw [hb.block _ (by simp [World.setCell]; omega)]
      repeat rw [Below.heap_setCell _ _ _ _ (by first | (simp; done) | (simp; omega))]
      exact hpA2
    have hp13 : w3.heap[w.heap.size + 1]? = some (.cells #[.int .i64 0, .int .i64 0, .string ⟨#[]⟩, .string ⟨#[]⟩, .int .i64 0, .int .i64 0, .string ⟨#[]⟩, .slice none 0 0, .slice none 0 0, .slice none 0 0, .slice none 0 0] 39) := by
      rw [hb.block _ (by simp [World.setCell]; omega)]
      repeat rw [Below.heap_setCell _ _ _ _ (by first | (simp; done) | (simp; omega))]
      exact hp12
    have hp23 : w3.heap[w.heap.size + 1 + 1]? = some (.cells #[.int .i64 x0, .int .i64 x1, .string x2, .string x3, u4_0', u4_1', u4_2', u4_3', .slice a5' x5.length c5', .slice none 0 0, .slice none 0 0] 39) := by
      rw [hb.block _ (by simp [World.setCell]; omega)]
      simp [World.setCell, Array.getElem?_modify, hp22]
    have HB3 : Hid (Below w.heap.size w w3) := Below.trans (by repeat first | with_reducible exact HB2.out | (refine Below.setCell ?_ (by first | (simp; done) | (simp; omega)) _)) (hb.mono (by simp [World.setCell]; omega))
    have R6_3 : Hid (Sh.int.sslice.rep w3 (fun b => w2.heap.size ≤ b ∧ b < w3.heap.size) [.slice a6' x6.length c6'] x6) := Sh.int.sslice.mono hrep fun b hS => ⟨by have := hS.1; simp [World.setCell] at this; omega, hS.2⟩
    have R4_3 : Hid (ty.tySp.rep w3 (fun b => w.heap.size + 3 ≤ b ∧ b < w1.heap.size) [u4_0', u4_1', u4_2', u4_3'] x4) := ty.tySp.on R4_2.out fun b hS => (hb.block b (by simp [World.setCell]; omega)).trans (by repeat rw [Below.heap_setCell _ _ _ _ (by simp; omega)])
    have R5_3 : Hid (ty.tySp.sslice.rep w3 (fun b => w1.heap.size ≤ b ∧ b < w2.heap.size) [.slice a5' x5.length c5'] x5) := ty.tySp.sslice.on R5_2.out fun b hS => (hb.block b (by simp [World.setCell]; omega)).trans (by repeat rw [Below.heap_setCell _ _ _ _ (by simp; omega)])
    clear R4_2 R5_2
    clear HB2 hpA2 hp12 hp22
    clear hrep hb
    clear ca2_9 ca2_10 cr2_0 cr2_1 cr2_2 cr2_3 cr2_4 cr2_5 cr2_6 cr2_7 cr2_8 cr2_9 cr2_10 fr2 co2_0 co2_1 co2_2 co2_3 co2_4 co2_5 co2_6 co2_7 co2_8 co2_9 co2_10 fo2
    have ca3_10 : w3.cell? ⟨w.heap.size, 10, none⟩ = some (.slice a7 x7.length c7) := by simp [World.cell?, hpA3]
    have cr3_0 : w3.cell? ⟨w.heap.size + 1, 0, none⟩ = some (.int .i64 0) := by simp [World.cell?, hp13]
    have cr3_1 : w3.cell? ⟨w.heap.size + 1, 1, none⟩ = some (.int .i64 0) := by simp [World.cell?, hp13]
    have cr3_2 : w3.cell? ⟨w.heap.size + 1, 2, none⟩ = some (.string ⟨#[]⟩) := by simp [World.cell?, hp13]
    have cr3_3 : w3.cell? ⟨w.heap.size + 1, 3, none⟩ = some (.string ⟨#[]⟩) := by simp [World.cell?, hp13]
    have cr3_4 : w3.cell? ⟨w.heap.size + 1, 4, none⟩ = some (.int .i64 0) := by simp [World.cell?, hp13]
    have cr3_5 : w3.cell? ⟨w.heap.size + 1, 5, none⟩ = some (.int .i64 0) := by simp [World.cell?, hp13]
    have cr3_6 : w3.cell? ⟨w.heap.size + 1, 6, none⟩ = some (.string ⟨#[]⟩) := by simp [World.cell?, hp13]
    have cr3_7 : w3.cell? ⟨w.heap.size + 1, 7, none⟩ = some (.slice none 0 0) := by simp [World.cell?, hp13]
    have cr3_8 : w3.cell? ⟨w.heap.size + 1, 8, none⟩ = some (.slice none 0 0) := by simp [World.cell?, hp13]
    have cr3_9 : w3.cell? ⟨w.heap.size + 1, 9, none⟩ = some (.slice none 0 0) := by simp [World.cell?, hp13]
    have cr3_10 : w3.cell? ⟨w.heap.size + 1, 10, none⟩ = some (.slice none 0 0) := by simp [World.cell?, hp13]
    have fr3 : ∀ o, w3.frozen? ⟨w.heap.size + 1, o, none⟩ = false := fun o => by simp [World.frozen?, hp13]
    have co3_0 : w3.cell? ⟨w.heap.size + 1 + 1, 0, none⟩ = some (.int .i64 x0) := by simp [World.cell?, hp23]
    have co3_1 : w3.cell? ⟨w.heap.size + 1 + 1, 1, none⟩ = some (.int .i64 x1) := by simp [World.cell?, hp23]
    have co3_2 : w3.cell? ⟨w.heap.size + 1 + 1, 2, none⟩ = some (.string x2) := by simp [World.cell?, hp23]
    have co3_3 : w3.cell? ⟨w.heap.size + 1 + 1, 3, none⟩ = some (.string x3) := by simp [World.cell?, hp23]
    have co3_4 : w3.cell? ⟨w.heap.size + 1 + 1, 4, none⟩ = some (u4_0') := by simp [World.cell?, hp23]
    have co3_5 : w3.cell? ⟨w.heap.size + 1 + 1, 5, none⟩ = some (u4_1') := by simp [World.cell?, hp23]
    have co3_6 : w3.cell? ⟨w.heap.size + 1 + 1, 6, none⟩ = some (u4_2') := by simp [World.cell?, hp23]
    have co3_7 : w3.cell? ⟨w.heap.size + 1 + 1, 7, none⟩ = some (u4_3') := by simp [World.cell?, hp23]
    have co3_8 : w3.cell? ⟨w.heap.size + 1 + 1, 8, none⟩ = some (.slice a5' x5.length c5') := by simp [World.cell?, hp23]
    have co3_9 : w3.cell? ⟨w.heap.size + 1 + 1, 9, none⟩ = some (.slice none 0 0) := by simp [World.cell?, hp23]
    have co3_10 : w3.cell? ⟨w.heap.size + 1 + 1, 10, none⟩ = some (.slice none 0 0) := by simp [World.cell?, hp23]
    have fo3 : ∀ o, w3.frozen? ⟨w.heap.size + 1 + 1, o, none⟩ = false := fun o => by simp [World.frozen?, hp23]
    go_wp2_with fail
    refine (K7 _ (by repeat first | with_reducible exact HB3.out | (refine Below.setCell ?_ (by first | (simp; done) | (simp; omega)) _))).mono ?_
    clear K7
    rintro e w4 ⟨⟨v', rfl, hrep⟩, hb⟩
    obtain ⟨a7', c7', e'⟩ := sslice_cells hrep
    cases e'
    have hs4 : w3.heap.size ≤ w4.heap.size := by have := hb.size; simp [World.setCell] at this; exact this
    have hz4 : w.heap.size + 3 ≤ w4.heap.size := Nat.le_trans hz3 hs4
    have hpA4 : w4.heap[w.heap.size]? = some (.cells #[.int .i64 x0, .int .i64 x1, .string x2, .string x3, u4_0, u4_1, u4_2, u4_3, .slice a5 x5.length c5, .slice a6 x6.length c6, .slice a7 x7.length c7] 28) := by
      rw [hb.block _ (by simp [World.setCell]; omega)]
      repeat rw [Below.heap_setCell _ _ _ _ (by first | (simp; done) | (simp; omega))]
      exact hpA3
    have hp14 : w4.heap[w.heap.size + 1]? = some (.cells #[.int .i64 0, .int .i64 0, .string ⟨#[]⟩, .string ⟨#[]⟩, .int .i64 0, .int .i64 0, .string ⟨#[]⟩, .slice none 0 0, .slice none 0 0, .slice none 0 0, .slice none 0 0] 39) := by
      rw [hb.block _ (by simp [World.setCell]; omega)]
      repeat rw [Below.heap_setCell _ _ _ _ (by first | (simp; done) | (simp; omega))]
      exact hp13
    have hp24 : w4.heap[w.heap.size + 1 + 1]? = some (.cells #[.int .i64 x0, .int .i64 x1, .string x2, .string x3, u4_0', u4_1', u4_2', u4_3', .slice a5' x5.length c5', .slice a6' x6.length c6', .slice none 0 0] 39) := by
      rw [hb.block _ (by simp [World.setCell]; omega)]
      simp [World.setCell, Array.getElem?_modify, hp23]
    have HB4 : Hid (Below w.heap.size w w4) := Below.trans (by repeat first | with_reducible exact HB3.out | (refine Below.setCell ?_ (by first | (simp; done) | (simp; omega)) _)) (hb.mono (by simp [World.setCell]; omega))
    have R7_4 : Hid (typedSp.sslice.rep w4 (fun b => w3.heap.size ≤ b ∧ b < w4.heap.size) [.slice a7' x7.length c7'] x7) := typedSp.sslice.mono hrep fun b hS => ⟨by have := hS.1; simp [World.setCell] at this; omega, hS.2⟩
    have R4_4 : Hid (ty.tySp.rep w4 (fun b => w.heap.size + 3 ≤ b ∧ b < w1.heap.size) [u4_0', u4_1', u4_2', u4_3'] x4) := ty.tySp.on R4_3.out fun b hS => (hb.block b (by simp [World.setCell]; omega)).trans (by repeat rw [Below.heap_setCell _ _ _ _ (by simp; omega)])
    have R5_4 : Hid (ty.tySp.sslice.rep w4 (fun b => w1.heap.size ≤ b ∧ b < w2.heap.size) [.slice a5' x5.length c5'] x5) := ty.tySp.sslice.on R5_3.out fun b hS => (hb.block b (by simp [World.setCell]; omega)).trans (by repeat rw [Below.heap_setCell _ _ _ _ (by simp; omega)])
    have R6_4 : Hid (Sh.int.sslice.rep w4 (fun b => w2.heap.size ≤ b ∧ b < w3.heap.size) [.slice a6' x6.length c6'] x6) := Sh.int.sslice.on R6_3.out fun b hS => (hb.block b (by simp [World.setCell]; omega)).trans (by repeat rw [Below.heap_setCell _ _ _ _ (by simp; omega)])
    clear R4_3 R5_3 R6_3
    clear HB3 hpA3 hp13 hp23
    clear hrep hb
    clear ca3_10 cr3_0 cr3_1 cr3_2 cr3_3 cr3_4 cr3_5 cr3_6 cr3_7 cr3_8 cr3_9 cr3_10 fr3 co3_0 co3_1 co3_2 co3_3 co3_4 co3_5 co3_6 co3_7 co3_8 co3_9 co3_10 fo3
    have cr4_0 : w4.cell? ⟨w.heap.size + 1, 0, none⟩ = some (.int .i64 0) := by simp [World.cell?, hp14]
    have cr4_1 : w4.cell? ⟨w.heap.size + 1, 1, none⟩ = some (.int .i64 0) := by simp [World.cell?, hp14]
    have cr4_2 : w4.cell? ⟨w.heap.size + 1, 2, none⟩ = some (.string ⟨#[]⟩) := by simp [World.cell?, hp14]
    have cr4_3 : w4.cell? ⟨w.heap.size + 1, 3, none⟩ = some (.string ⟨#[]⟩) := by simp [World.cell?, hp14]
    have cr4_4 : w4.cell? ⟨w.heap.size + 1, 4, none⟩ = some (.int .i64 0) := by simp [World.cell?, hp14]
    have cr4_5 : w4.cell? ⟨w.heap.size + 1, 5, none⟩ = some (.int .i64 0) := by simp [World.cell?, hp14]
    have cr4_6 : w4.cell? ⟨w.heap.size + 1, 6, none⟩ = some (.string ⟨#[]⟩) := by simp [World.cell?, hp14]
    have cr4_7 : w4.cell? ⟨w.heap.size + 1, 7, none⟩ = some (.slice none 0 0) := by simp [World.cell?, hp14]
    have cr4_8 : w4.cell? ⟨w.heap.size + 1, 8, none⟩ = some (.slice none 0 0) := by simp [World.cell?, hp14]
    have cr4_9 : w4.cell? ⟨w.heap.size + 1, 9, none⟩ = some (.slice none 0 0) := by simp [World.cell?, hp14]
    have cr4_10 : w4.cell? ⟨w.heap.size + 1, 10, none⟩ = some (.slice none 0 0) := by simp [World.cell?, hp14]
    have fr4 : ∀ o, w4.frozen? ⟨w.heap.size + 1, o, none⟩ = false := fun o => by simp [World.frozen?, hp14]
    have co4_0 : w4.cell? ⟨w.heap.size + 1 + 1, 0, none⟩ = some (.int .i64 x0) := by simp [World.cell?, hp24]
    have co4_1 : w4.cell? ⟨w.heap.size + 1 + 1, 1, none⟩ = some (.int .i64 x1) := by simp [World.cell?, hp24]
    have co4_2 : w4.cell? ⟨w.heap.size + 1 + 1, 2, none⟩ = some (.string x2) := by simp [World.cell?, hp24]
    have co4_3 : w4.cell? ⟨w.heap.size + 1 + 1, 3, none⟩ = some (.string x3) := by simp [World.cell?, hp24]
    have co4_4 : w4.cell? ⟨w.heap.size + 1 + 1, 4, none⟩ = some (u4_0') := by simp [World.cell?, hp24]
    have co4_5 : w4.cell? ⟨w.heap.size + 1 + 1, 5, none⟩ = some (u4_1') := by simp [World.cell?, hp24]
    have co4_6 : w4.cell? ⟨w.heap.size + 1 + 1, 6, none⟩ = some (u4_2') := by simp [World.cell?, hp24]
    have co4_7 : w4.cell? ⟨w.heap.size + 1 + 1, 7, none⟩ = some (u4_3') := by simp [World.cell?, hp24]
    have co4_8 : w4.cell? ⟨w.heap.size + 1 + 1, 8, none⟩ = some (.slice a5' x5.length c5') := by simp [World.cell?, hp24]
    have co4_9 : w4.cell? ⟨w.heap.size + 1 + 1, 9, none⟩ = some (.slice a6' x6.length c6') := by simp [World.cell?, hp24]
    have co4_10 : w4.cell? ⟨w.heap.size + 1 + 1, 10, none⟩ = some (.slice none 0 0) := by simp [World.cell?, hp24]
    have fo4 : ∀ o, w4.frozen? ⟨w.heap.size + 1 + 1, o, none⟩ = false := fun o => by simp [World.frozen?, hp24]
    clear hpA4 hp14 hp24
    go_wp2
    refine bodyPost_ret (v := .agg #[.int .i64 x0, .int .i64 x1, .string x2, .string x3, u4_0', u4_1', u4_2', u4_3', .slice a5' x5.length c5', .slice a6' x6.length c6', .slice a7' x7.length c7']) (by simp [results, Try.f7, go_sem, cr4_0, cr4_1, cr4_2, cr4_3, cr4_4, cr4_5, cr4_6, cr4_7, cr4_8, cr4_9, cr4_10]) rfl ?_
    refine ⟨⟨[.int .i64 x0, .int .i64 x1, .string x2, .string x3, u4_0', u4_1', u4_2', u4_3', .slice a5' x5.length c5', .slice a6' x6.length c6', .slice a7' x7.length c7'], by rfl, typedp_shut f0 f1 f2 f3 (ty.tySp.on R4_4.out fun b hS => by repeat rw [Below.heap_setCell _ _ _ _ (by simp; omega)]) (ty.tySp.sslice.on R5_4.out fun b hS => by repeat rw [Below.heap_setCell _ _ _ _ (by simp; omega)]) (Sh.int.sslice.on R6_4.out fun b hS => by repeat rw [Below.heap_setCell _ _ _ _ (by simp; omega)]) (typedSp.sslice.on R7_4.out fun b hS => by repeat rw [Below.heap_setCell _ _ _ _ (by simp; omega)]) (fun b hS => ⟨by omega, by simp [World.setCell]; omega⟩) (fun b hS => ⟨by omega, by simp [World.setCell]; omega⟩) (fun b hS => ⟨by omega, by simp [World.setCell]; omega⟩) (fun b hS => ⟨by omega, by simp [World.setCell]; omega⟩) (fun b h1 h2 => by omega) (fun b h1 h2 => by omega) (fun b h1 h2 => by omega) (fun b h1 h2 => by omega) (fun b h1 h2 => by omega) (fun b h1 h2 => by omega)⟩, ?_⟩
    repeat first | with_reducible exact HB4.out | (refine Below.setCell ?_ (by first | (simp; done) | (simp; omega)) _)

theorem toPS_any (ks : List TypedD) (v : Value) (w : World) (hw : ks.length + wts ks ≤ 1048576) (h : typedSh.slice.rep w (· < w.heap.size) [v] ks) :
    Calls Try.prog 32 #[v] w fun e w' => (∃ v', e = .returned v' ∧ typedSp.sslice.rep w' (fun b => w.heap.size ≤ b ∧ b < w'.heap.size) [v'] ks) ∧ Below w.heap.size w w' := toPS_of ks (fun k _ => toP_any k) v w hw h

end Go.Proofs.Ytklcjjckelahcaa.typed
