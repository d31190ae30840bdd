/-
  The program's Tidy, at every program: tidy or not; nothing that was there is turned.
-/
import Derived.Test.YtkojogfljnnfhabDataTidyImpl
namespace Go.Proofs.Ytkojogfljnnfhab.prog
open Go.RowKit Go.Proofs.Ytkojogfljnnfhab.rose Go.Proofs.Ytkojogfljnnfhab words4
set_option linter.unusedVariables false
set_option linter.unusedSimpArgs false

set_option maxHeartbeats 2000000 in
theorem impl_any (p : ProgD) (cs : List Value) (w : World) (hw : wt p ≤ 1048576) (h : progSh.rep w (· < w.heap.size) cs p) :
    Calls Try.prog 8 #[.agg cs.toArray] w fun e w' => e = .returned (.bool (progOkB p)) ∧ Below w.heap.size w w' := by
  obtain ⟨ds, a, cap, T, y0, y1, y2, y3, y4, rfl, rfl, hk, hm⟩ := prog_open h
  have o0 := node.ndSh.one hm y0 (by simp)
  have o1 := node.ndSh.one hm y1 (by simp)
  have o2 := node.ndSh.one hm y2 (by simp)
  have o3 := node.ndSh.one hm y3 (by simp)
  have o4 := node.ndSh.one hm y4 (by simp)
  clear h
  obtain ⟨a1, cap1, css, e, hcap, hmax, hrow, hk2⟩ := data.datas_open hk
  cases e
  have hws : data.wts ds ≤ 1048576 ∧ ds.length ≤ 1048576 ∧ node.wt T ≤ 1048576 := by simp [wt] at hw; omega
  obtain ⟨hws, hkl, hwT⟩ := hws
  have HR : Hid (RowAt w (· < w.heap.size) 3 a ds.length css ∧ ∀ i (h : i < ds.length), data.dataSh.rep w (· < w.heap.size) (css i) ds[i]) := ⟨hrow, hk2⟩
  obtain ⟨q, hq0⟩ : ∃ q, q = progOkB (ds, T) := ⟨_, rfl⟩
  have HO : Hid (q = (ds.all dataOkB && node.tidyN 24 1 T)) := hq0
  rw [← hq0]
  clear hq0 hrow hk2 hk hcap hmax hw
  have KM : Hid (∀ wk : World, Below w.heap.size w wk → Calls Try.prog 23 #[.agg #[y0, y1, y2, y3, y4], .int .i64 1, .int .i64 24] wk fun e w' => e = .returned (.bool (node.tidyN 24 1 T)) ∧ Below wk.heap.size wk w') := fun wk hb =>
    node.tidy_any 24 (by decide) T _ wk 1 24 rfl hwT (node.ndSh.mono (node.ndSh.below hm hb) fun b hlt => Nat.lt_of_lt_of_le hlt hb.size)
  clear hm hwT
  go_enter Try.func8, Try.ntmps8
  go_wp2
  have T1 : Hid ((w.alloc (.cells #[.slice a ds.length cap, y0, y1, y2, y3, y4] 35)).cell? ⟨w.heap.size, 1, none⟩ = some y0) := by show _ = _; simp
  have T2 : Hid ((w.alloc (.cells #[.slice a ds.length cap, y0, y1, y2, y3, y4] 35)).cell? ⟨w.heap.size, 2, none⟩ = some y1) := by show _ = _; simp
  have T3 : Hid ((w.alloc (.cells #[.slice a ds.length cap, y0, y1, y2, y3, y4] 35)).cell? ⟨w.heap.size, 3, none⟩ = some y2) := by show _ = _; simp
  have T4 : Hid ((w.alloc (.cells #[.slice a ds.length cap, y0, y1, y2, y3, y4] 35)).cell? ⟨w.heap.size, 4, none⟩ = some y3) := by show _ = _; simp
  have T5 : Hid ((w.alloc (.cells #[.slice a ds.length cap, y0, y1, y2, y3, y4] 35)).cell? ⟨w.heap.size, 5, none⟩ = some y4) := by show _ = _; simp
  have B0 : Hid (Below w.heap.size w (w.alloc (.cells #[.slice a ds.length cap, y0, y1, y2, y3, y4] 35))) := (Below.refl _ _).alloc (Nat.le_refl _) _
  have Z0 : Hid ((w.alloc (.cells #[.slice a ds.length cap, y0, y1, y2, y3, y4] 35)).heap.size = w.heap.size + 1) := by show _ = _; simp
  generalize w.alloc (.cells #[.slice a ds.length cap, y0, y1, y2, y3, y4] 35) = w0 at T1 T2 T3 T4 T5 B0 Z0 ⊢
  go_loopw [8] (fun v8 wr => ∃ i : Nat, i ≤ ds.length ∧ v8 = .int .i64 i ∧ Hid ((ds.take i).all dataOkB = true) ∧ Hid (Below w0.heap.size w0 wr)) (fun v8 _ => ds.length - (intOf v8).toNat)
  case atStart => exact ⟨0, Nat.zero_le _, rfl, by show _ = _; simp, Below.refl _ _⟩
  case round =>
    obtain ⟨i, hi, rfl, HA, HB⟩ := hrel
    have BW0 : Hid (Below w.heap.size w wr) := B0.out.trans (HB.out.mono (by rw [Z0.out]; omega))
    by_cases hlt : i < ds.length
    · obtain ⟨b, o, rfl, hS, hc⟩ := HR.out.1 i hlt
      have hrep := HR.out.2 i hlt
      obtain ⟨nm, vars, cons, ak, capk, hT', hcs, -, -, -⟩ := data.data_open hrep
      rw [hcs] at hc hrep
      have BW := BW0.out
      have e0 := (BW.cell (p := ⟨b, o + i * 3, none⟩) hS).trans (hc 0 _ rfl)
      have e1 := (BW.cell (p := ⟨b, o + i * 3 + 1, none⟩) hS).trans (hc 1 _ rfl)
      have e2 := (BW.cell (p := ⟨b, o + i * 3 + 2, none⟩) hS).trans (hc 2 _ rfl)
      have hwi : data.wt ds[i] ≤ 1048576 := by have := data.wt_mem (List.getElem_mem hlt); omega
      have BK : Hid (Below w.heap.size w (wr.alloc (.cells #[.string nm, .int .i64 vars, .slice ak cons.length capk] 47))) := BW.alloc BW.size _
      have BK0 : Hid (Below w0.heap.size w0 (wr.alloc (.cells #[.string nm, .int .i64 vars, .slice ak cons.length capk] 47))) := HB.out.alloc HB.out.size _
      have hcall := data_any ds[i] _ _ hwi (data.dataSh.mono (data.dataSh.below hrep BK.out) fun b hb => Nat.lt_of_lt_of_le hb BK.out.size)
      clear hT' hcs hc hrep hwi HB BW0 BW
      by_cases hok : dataOkB ds[i] = true
      · have hA2 : Hid ((ds.take (i + 1)).all dataOkB = true) := by show _ = _; rw [all_take hlt, HA.out, hok]; rfl
        rw [hok] at hcall
        clear hok HA
        go_wp2_with fail
        refine hcall.mono ?_
        clear hcall
        rintro e w2 ⟨rfl, hb⟩
        have B2 : Hid (Below w0.heap.size w0 w2) := BK0.out.trans (hb.mono BK0.out.size)
        clear hb BK BK0 e0 e1 e2
        go_wp2
        go_round
        case rel => exact ⟨i + 1, by omega, by go_num, hA2, B2⟩
        case measure => simp [intOf]; omega
      · have hok' : dataOkB ds[i] = false := by simpa using hok
        have hq : Hid (q = false) := by show _ = _; rw [HO.out, all_no hlt hok']; rfl
        rw [hok'] at hcall
        clear hok hok' HA
        go_wp2_with fail
        refine hcall.mono ?_
        clear hcall
        rintro e w2 ⟨rfl, hb⟩
        have B2 : Hid (Below w.heap.size w w2) := BK.out.trans (hb.mono BK.out.size)
        clear hb BK BK0 e0 e1 e2
        go_wp2
        go_ret
        exact ⟨ret_bool hq.out.symm, B2.out⟩
    · obtain rfl : i = ds.length := by omega
      have hq : Hid (q = node.tidyN 24 1 T) := by
        have := HA.out
        rw [List.take_length] at this
        show _ = _; rw [HO.out, this]; rfl
      have c1 : wr.cell? ⟨w.heap.size, 1, none⟩ = some y0 := (HB.out.cell (p := ⟨w.heap.size, 1, none⟩) (by simp [Z0.out])).trans T1.out
      have c2 : wr.cell? ⟨w.heap.size, 2, none⟩ = some y1 := (HB.out.cell (p := ⟨w.heap.size, 2, none⟩) (by simp [Z0.out])).trans T2.out
      have c3 : wr.cell? ⟨w.heap.size, 3, none⟩ = some y2 := (HB.out.cell (p := ⟨w.heap.size, 3, none⟩) (by simp [Z0.out])).trans T3.out
      have c4 : wr.cell? ⟨w.heap.size, 4, none⟩ = some y3 := (HB.out.cell (p := ⟨w.heap.size, 4, none⟩) (by simp [Z0.out])).trans T4.out
      have c5 : wr.cell? ⟨w.heap.size, 5, none⟩ = some y4 := (HB.out.cell (p := ⟨w.heap.size, 5, none⟩) (by simp [Z0.out])).trans T5.out
      go_wp2_with fail
      refine (KM.out _ BW0.out).mono ?_
      rintro e w2 ⟨rfl, hb⟩
      have B2 : Hid (Below w.heap.size w w2) := BW0.out.trans (hb.mono BW0.out.size)
      clear hb
      go_wp2
      go_ret
      exact ⟨ret_bool hq.out.symm, B2.out⟩

end Go.Proofs.Ytkojogfljnnfhab.prog
