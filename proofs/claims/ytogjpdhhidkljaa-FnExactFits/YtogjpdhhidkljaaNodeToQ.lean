/-
  The law's copies of a tree (toNode, toNodeS): the same tree in new memory; nothing that was there is turned.
-/
import Derived.Test.YtogjpdhhidkljaaNodeSz
import Derived.Laws.MakeOwn
import Derived.Test.YtogjpdhhidkljaaRoseQ
import Derived.Deep.OwnRows
namespace Go.Proofs.Ytogjpdhhidkljaa.node
open Go.RowKit Go.Proofs.Ytogjpdhhidkljaa.rose
set_option linter.unusedVariables false

theorem info_nd : (Try.prog.info? 33).map (fun i => (i.zero, i.size, i.bytes)) = some (some (.agg #[.int .i64 0, .int .i64 0, .string ⟨#[]⟩, .string ⟨#[]⟩, .slice none 0 0]), 5, 72) := by kernel_rfl

theorem make_nd (n : Nat) (h : n ≤ 1048576) (w : World) : (Instr.makeSlice 31 (.int .i64 (n : Int)) (.int .i64 (n : Int))).run Try.prog w = .ok (.slice (some ⟨w.heap.size, 0, none⟩) n n)
    (w.alloc (.cells (madeCells #[.int .i64 0, .int .i64 0, .string ⟨#[]⟩, .string ⟨#[]⟩, .slice none 0 0] (n * 5)) 33)) := by
  obtain ⟨i, hi, hzz⟩ := Option.map_eq_some_iff.1 info_nd
  simp only [Prod.mk.injEq] at hzz
  obtain ⟨hz, hs, hb⟩ := hzz
  have := run_make (P := Try.prog) w 31 33 i _ Try.underlying31 hi hz .i64 .i64 n n (by omega) (by omega) (by rw [hb]; omega) (by omega)
  simpa [hs, Value.cells] using this

def ToSaysQ (T : Nd) : Prop := ∀ cs w, wt T ≤ 1048576 → ndSh.rep w (· < w.heap.size) cs T →
  Calls Try.prog 8 #[.agg cs.toArray] w fun e w' => (∃ cs', e = .returned (.agg cs'.toArray) ∧ ndSh.rep w' (New w.heap.size w') cs' T) ∧ Below w.heap.size w w'

set_option maxHeartbeats 1000000 in
theorem toS_ofQ (ks : List Nd) (ih : ∀ k ∈ ks, ToSaysQ k) (v : Value) (w : World) (hw : ks.length + wts ks ≤ 1048576) (h : ndSh.slice.rep w (· < w.heap.size) [v] ks) :
    Calls Try.prog 20 #[v] w fun e w' => (∃ v', e = .returned v' ∧ ndSh.slice.rep w' (New w.heap.size w') [v'] ks) ∧ Below w.heap.size w w' := by
  obtain ⟨a, cap, css, rfl, hcap, hmax, hrow, hk⟩ := nds_open h
  clear h hcap hmax
  have IH : Hid (∀ k ∈ ks, ToSaysQ k) := ih
  have HR : Hid (RowAt w (· < w.heap.size) 5 a ks.length css ∧ ∀ i (h : i < ks.length), ndSh.rep w (· < w.heap.size) (css i) ks[i]) := ⟨hrow, hk⟩
  have HW : Hid (wts ks ≤ 1048576) := by show wts ks ≤ 1048576; omega
  have hn : ks.length ≤ 1048576 := by omega
  clear ih hrow hk hw
  have hmk := make_nd ks.length hn
  go_enter Try.func20, Try.ntmps20
  go_wp2
  clear hmk
  generalize hw1 : w.alloc _ = w1
  have F1 : FillingQ ndSh 33 w1 w.heap.size ks.length 0 ks := by
    subst hw1
    exact FillingQ.start
  have B1 : Below w.heap.size w w1 := by subst hw1; exact (Below.refl _ _).alloc (Nat.le_refl _) _
  have Z1 : w.heap.size < w1.heap.size := by subst hw1; simp
  clear hw1
  go_loopw [4] (fun v4 wr => ∃ i : Nat, i ≤ ks.length ∧ v4 = .int .i64 i ∧ Hid (FillingQ ndSh 33 wr w.heap.size ks.length i ks ∧ Below w.heap.size w wr ∧ w.heap.size < wr.heap.size)) (fun v4 _ => ks.length - (intOf v4).toNat)
  case atStart => exact ⟨0, Nat.zero_le _, rfl, F1, B1, Z1⟩
  case round =>
    obtain ⟨i, hi, rfl, HF⟩ := hrel
    by_cases hlt : i < ks.length
    · obtain ⟨b, o, rfl, hS, hc⟩ := HR.out.1 i hlt
      have hrep := HR.out.2 i hlt
      obtain ⟨v0, v1, v2, v3, v4, hcs, c0, c1, c2, c3, c4⟩ := nd_cells hrep hc
      obtain ⟨F, HB, hZ⟩ := HF.out
      have e0 := (HB.cell (p := ⟨b, o + i * 5, none⟩) hS).trans c0
      have e1 := (HB.cell (p := ⟨b, o + i * 5 + 1, none⟩) hS).trans c1
      have e2 := (HB.cell (p := ⟨b, o + i * 5 + 2, none⟩) hS).trans c2
      have e3 := (HB.cell (p := ⟨b, o + i * 5 + 3, none⟩) hS).trans c3
      have e4 := (HB.cell (p := ⟨b, o + i * 5 + 4, none⟩) hS).trans c4
      rw [hcs] at hrep
      clear c0 c1 c2 c3 c4 hc hcs
      have hR := ndSh.mono (ndSh.below hrep HB) (S' := (· < wr.heap.size)) (fun b hb => Nat.lt_of_lt_of_le hb HB.size)
      clear hrep
      have hcall := IH.out ks[i] (List.getElem_mem hlt) [v0, v1, v2, v3, v4] wr (by have := wts_take hlt; have := wts_take_le ks (i + 1); have := HW.out; omega) hR
      clear hR F HB hZ
      go_wp2_with fail
      refine hcall.mono ?_
      clear hcall
      rintro e w1 ⟨⟨cs', rfl, hrep'⟩, hb⟩
      obtain ⟨F, HB, hZ⟩ := HF.out
      have hl : cs'.length = 5 := ndSh.len hrep'
      have hst := F.store (P := Try.prog) hb hZ hlt hl (ndSh.one hrep')
      have F2 : Hid (FillingQ ndSh 33 (w1.setCells w.heap.size (i * 5) cs') w.heap.size ks.length (i + 1) ks) := F.step hb hZ hlt hlt hrep'
      have B2 : Hid (Below w.heap.size w (w1.setCells w.heap.size (i * 5) cs')) := (HB.trans (hb.mono (Nat.le_of_lt hZ))).trans (setCells_below (Nat.le_refl _) _ _)
      have Z2 : Hid (w.heap.size < (w1.setCells w.heap.size (i * 5) cs').heap.size) := by show _ < _; rw [setCells_size]; exact Nat.lt_of_lt_of_le hZ hb.size
      have hk5 : ndSh.k = 5 := rfl
      rw [hk5] at hst
      clear F HB hZ HF hrep' hb hk5
      generalize w1.setCells w.heap.size (i * 5) cs' = w2 at hst F2 B2 Z2
      go_wp2
      go_round
      case rel => exact ⟨i + 1, by omega, by go_num, F2.out, B2.out, Z2.out⟩
      case measure => simp [intOf]; omega
    · obtain rfl : i = ks.length := by omega
      go_wp2
      go_ret
      obtain ⟨F, HB, hZ⟩ := HF.out
      exact ⟨⟨_, rfl, F.done hZ (by unfold maxLen; omega)⟩, HB⟩

set_option maxHeartbeats 1000000 in
theorem to_anyQ (T : Nd) : ToSaysQ T := by
  induction T using ind with
  | h x ks ih =>
    intro cs w hw h
    obtain ⟨op, n, s, t, a, cap, ks', hT, rfl, hs, ht, hk⟩ := nd_open h
    cases hT
    obtain ⟨hop, hn⟩ : (-9223372036854775808 ≤ op ∧ op ≤ 9223372036854775807) ∧ (-9223372036854775808 ≤ n ∧ n ≤ 9223372036854775807) := nd_ints h
    clear h
    have hws : ks.length + wts ks ≤ 1048576 := by simp [wt] at hw; omega
    have K1 : ∀ (w' : World), Below w.heap.size w w' → Calls Try.prog 20 #[.slice a ks.length cap] w' fun e w'' => (∃ v', e = .returned v' ∧ ndSh.slice.rep w'' (New w'.heap.size w'') [v'] ks) ∧ Below w'.heap.size w' w'' :=
      fun w' hb => toS_ofQ ks ih _ w' hws (ndSh.slice.mono (ndSh.slice.below hk hb) fun b hlt => Nat.lt_of_lt_of_le hlt hb.size)
    clear ih hk hw
    go_enter Try.func8, Try.ntmps8
    go_wp2_with fail
    refine (K1 _ ((((Below.refl _ _).alloc (Nat.le_refl _) _).alloc (by simp) _).alloc (by simp; omega) _)).mono ?_
    clear K1
    rintro e w1 ⟨⟨v', rfl, hrep⟩, hb⟩
    obtain ⟨a', cap', css, rfl, -⟩ := nds_open hrep
    have hz : w.heap.size + 3 ≤ w1.heap.size := by have := hb.size; simp at this; omega
    have hp1 : w1.heap[w.heap.size + 1]? = some (.cells #[.int .i64 0, .int .i64 0, .string ⟨#[]⟩, .string ⟨#[]⟩, .slice none 0 0] 33) := by
      rw [hb.block _ (by simp), Below.heap_alloc _ _ _ (by simp)]
      have := alloc_top (w.alloc (.cells #[.int .i64 op, .int .i64 n, .string s, .string t, .slice a ks.length cap] 24)) (.cells #[.int .i64 0, .int .i64 0, .string ⟨#[]⟩, .string ⟨#[]⟩, .slice none 0 0] 33)
      rwa [World.size_alloc] at this
    have hp2 : w1.heap[w.heap.size + 1 + 1]? = some (.cells #[.int .i64 op, .int .i64 n, .string s, .string t, .slice none 0 0] 33) := by
      rw [hb.block _ (by simp)]
      have := alloc_top ((w.alloc (.cells #[.int .i64 op, .int .i64 n, .string s, .string t, .slice a ks.length cap] 24)).alloc (.cells #[.int .i64 0, .int .i64 0, .string ⟨#[]⟩, .string ⟨#[]⟩, .slice none 0 0] 33)) (.cells #[.int .i64 op, .int .i64 n, .string s, .string t, .slice none 0 0] 33)
      rwa [World.size_alloc, World.size_alloc] at this
    have HR : Hid (ndSh.slice.rep w1 (New (w.heap.size + 3) w1) [.slice a' ks.length cap'] ks) := ndSh.slice.mono hrep fun b hS => ⟨by have := hS.1; simp at this; omega, hS.2⟩
    have HB : Hid (Below w.heap.size w w1) := ((((Below.refl _ _).alloc (Nat.le_refl _) _).alloc (by simp) _).alloc (by simp; omega) _).trans (hb.mono (by simp; omega))
    clear hrep hb
    have c10 : w1.cell? ⟨w.heap.size + 1, 0, none⟩ = some (.int .i64 0) := by simp [World.cell?, hp1]
    have c11 : w1.cell? ⟨w.heap.size + 1, 1, none⟩ = some (.int .i64 0) := by simp [World.cell?, hp1]
    have c12 : w1.cell? ⟨w.heap.size + 1, 2, none⟩ = some (.string ⟨#[]⟩) := by simp [World.cell?, hp1]
    have c13 : w1.cell? ⟨w.heap.size + 1, 3, none⟩ = some (.string ⟨#[]⟩) := by simp [World.cell?, hp1]
    have c14 : w1.cell? ⟨w.heap.size + 1, 4, none⟩ = some (.slice none 0 0) := by simp [World.cell?, hp1]
    have f1 : ∀ o, w1.frozen? ⟨w.heap.size + 1, o, none⟩ = false := fun o => by simp [World.frozen?, hp1]
    have c20 : w1.cell? ⟨w.heap.size + 1 + 1, 0, none⟩ = some (.int .i64 op) := by simp [World.cell?, hp2]
    have c21 : w1.cell? ⟨w.heap.size + 1 + 1, 1, none⟩ = some (.int .i64 n) := by simp [World.cell?, hp2]
    have c22 : w1.cell? ⟨w.heap.size + 1 + 1, 2, none⟩ = some (.string s) := by simp [World.cell?, hp2]
    have c23 : w1.cell? ⟨w.heap.size + 1 + 1, 3, none⟩ = some (.string t) := by simp [World.cell?, hp2]
    have c24 : w1.cell? ⟨w.heap.size + 1 + 1, 4, none⟩ = some (.slice none 0 0) := by simp [World.cell?, hp2]
    have f2 : ∀ o, w1.frozen? ⟨w.heap.size + 1 + 1, o, none⟩ = false := fun o => by simp [World.frozen?, hp2]
    clear hp1 hp2
    go_wp2
    refine bodyPost_ret (v := .agg #[.int .i64 op, .int .i64 n, .string s, .string t, .slice a' ks.length cap']) (by simp [results, Try.f8, go_sem, c10, c11, c12, c13, c14]) rfl ?_
    refine ⟨⟨[.int .i64 op, .int .i64 n, .string s, .string t, .slice a' ks.length cap'], by rfl, nd_shut hop hn hs ht ?_⟩, ?_⟩
    · refine ndSh.slice.mono (ndSh.slice.on HR.out fun b hS => ?_) fun b hS => ?_
      · have hS1 := hS.1
        repeat rw [Below.heap_setCell _ _ _ _ (by simp; omega)]
      · have hS1 := hS.1
        refine ⟨by omega, by simp [World.setCell]; exact hS.2.1, ?_⟩
        unfold Plain
        (repeat rw [Below.heap_setCell _ _ _ _ (by simp; omega)])
        exact hS.2.2
    · exact (((((HB.out.setCell (by simp; omega) _).setCell (by simp) _).setCell (by simp) _).setCell (by simp) _).setCell (by simp) _).setCell (by simp) _

theorem toS_anyQ (ks : List Nd) (v : Value) (w : World) (hw : ks.length + wts ks ≤ 1048576) (h : ndSh.slice.rep w (· < w.heap.size) [v] ks) :
    Calls Try.prog 20 #[v] w fun e w' => (∃ v', e = .returned v' ∧ ndSh.slice.rep w' (New w.heap.size w') [v'] ks) ∧ Below w.heap.size w w' := toS_ofQ ks (fun k _ => to_anyQ k) v w hw h

end Go.Proofs.Ytogjpdhhidkljaa.node
