/-
  The model's test of a pattern (l4Pat): tidy, where a pattern is asked; nothing that was there is turned.
-/
import Derived.Test.YtpdmdcoaaboikaaGreatDoorNodeTidyD
namespace Go.Proofs.YtpdmdcoaaboikaaGreatDoor.node
open Go.RowKit Go.Proofs.YtpdmdcoaaboikaaGreatDoor.rose Go.Proofs.YtpdmdcoaaboikaaGreatDoor words4
set_option linter.unusedVariables false
set_option linter.unusedSimpArgs false

/-- A pattern beside its kids. -/
def patB (op n : Int) (s t : ByteArray) (k : Nat) : Bool := decide (sortB op = 3) && (labelB op n s t && fitB op k)

theorem okNs_all {op sort : Int} (h : ∀ i, kidSortB op i = sort) (ks : List Nd) (i : Nat) : okNs op i ks = ks.all (okN sort) := by
  induction ks generalizing i with
  | nil => simp [okNs]
  | cons k ks ih => rw [okNs, ih, h, List.all_cons]
theorem kid3 {op : Int} (h : sortB op = 3) (i : Nat) : kidSortB op i = 3 := by
  unfold kidSortB
  rw [if_neg, if_neg, h]
  · rintro rfl; simp [sortB] at h
  · rintro ⟨rfl, -⟩; simp [sortB] at h
theorem pat_unfold (op n : Int) (s t : ByteArray) (ks : List Nd) : okN 3 (.mk (op, n, s, t) ks) = (ks.all (okN 3) && patB op n s t ks.length) := by
  rw [okN]
  unfold patB
  by_cases h : sortB op = 3
  · rw [okNs_all (kid3 h), decide_eq_true h]
    cases labelB op n s t <;> cases fitB op ks.length <;> simp
  · rw [decide_eq_false h]; simp

theorem all_take {p : Nd → Bool} {ks : List Nd} {i : Nat} (h : i < ks.length) : (ks.take (i + 1)).all p = ((ks.take i).all p && p ks[i]) := by
  rw [List.take_add_one, List.getElem?_eq_getElem h, List.all_append]; simp
theorem all_no {p : Nd → Bool} {ks : List Nd} {i : Nat} (h : i < ks.length) (hk : p ks[i] = false) : ks.all p = false := by
  rw [List.all_eq_false]; exact ⟨ks[i], List.getElem_mem h, by simp [hk]⟩

def PatSays (T : Nd) : Prop := ∀ cs w, wt T ≤ 1048576 → ndSh.rep w (· < w.heap.size) cs T →
  Calls Tryz.prog 100 #[.agg cs.toArray] w fun e w' => e = .returned (.bool (okN 3 T)) ∧ Below w.heap.size w w'

set_option maxHeartbeats 4000000 in
theorem pat_any (T : Nd) : PatSays T := by
  induction T using ind with
  | h x ks ih =>
    intro cs w hw h
    obtain ⟨op, n, s, t, a, cap, ks', hT, rfl, f2, f3, hk⟩ := nd_open h
    cases hT
    clear h
    obtain ⟨a1, cap1, css, e, hcap, hmax, hrow, hk2⟩ := nds_open hk
    cases e
    have hws : wts ks ≤ 1048576 ∧ ks.length ≤ 1048576 := by simp [wt] at hw; omega
    obtain ⟨hws, hkl⟩ := hws
    have IH : Hid (∀ k ∈ ks, PatSays k) := ih
    have HR : Hid (RowAt w (· < w.heap.size) 5 a ks.length css ∧ ∀ i (h : i < ks.length), ndSh.rep w (· < w.heap.size) (css i) ks[i]) := ⟨hrow, hk2⟩
    have HO : Hid (okN 3 (.mk (op, n, s, t) ks) = (ks.all (okN 3) && patB op n s t ks.length)) := pat_unfold _ _ _ _ _
    generalize okN 3 (.mk (op, n, s, t) ks) = q at HO ⊢
    clear ih hrow hk2 hk hcap hmax hw
    go_enter Tryz.func100, Tryz.ntmps100
    go_wp2
    have T0 : Hid ((w.alloc (.cells #[.int .i64 op, .int .i64 n, .string s, .string t, .slice a ks.length cap] 36)).cell? ⟨w.heap.size, 0, none⟩ = some (.int .i64 op)) := by show _ = _; simp
    have T1 : Hid ((w.alloc (.cells #[.int .i64 op, .int .i64 n, .string s, .string t, .slice a ks.length cap] 36)).cell? ⟨w.heap.size, 1, none⟩ = some (.int .i64 n)) := by show _ = _; simp
    have T2 : Hid ((w.alloc (.cells #[.int .i64 op, .int .i64 n, .string s, .string t, .slice a ks.length cap] 36)).cell? ⟨w.heap.size, 2, none⟩ = some (.string s)) := by show _ = _; simp
    have T3 : Hid ((w.alloc (.cells #[.int .i64 op, .int .i64 n, .string s, .string t, .slice a ks.length cap] 36)).cell? ⟨w.heap.size, 3, none⟩ = some (.string t)) := by show _ = _; simp
    have T4 : Hid ((w.alloc (.cells #[.int .i64 op, .int .i64 n, .string s, .string t, .slice a ks.length cap] 36)).cell? ⟨w.heap.size, 4, none⟩ = some (.slice a ks.length cap)) := by show _ = _; simp
    have B0 : Hid (Below w.heap.size w (w.alloc (.cells #[.int .i64 op, .int .i64 n, .string s, .string t, .slice a ks.length cap] 36))) := (Below.refl _ _).alloc (Nat.le_refl _) _
    have Z0 : Hid ((w.alloc (.cells #[.int .i64 op, .int .i64 n, .string s, .string t, .slice a ks.length cap] 36)).heap.size = w.heap.size + 1) := by show _ = _; simp
    generalize w.alloc (.cells #[.int .i64 op, .int .i64 n, .string s, .string t, .slice a ks.length cap] 36) = w0 at T0 T1 T2 T3 T4 B0 Z0 ⊢
    go_loopw [3] (fun v3 wr => ∃ i : Nat, i ≤ ks.length ∧ v3 = .int .i64 i ∧ Hid ((ks.take i).all (okN 3) = true) ∧ Hid (Below w0.heap.size w0 wr)) (fun v3 _ => ks.length - (intOf v3).toNat)
    case atStart => exact ⟨0, Nat.zero_le _, rfl, by show _ = _; simp, Below.refl _ _⟩
    case round =>
      obtain ⟨i, hi, rfl, HA, HB⟩ := hrel
      have c4 : wr.cell? ⟨w.heap.size, 4, none⟩ = some (.slice a ks.length cap) := (HB.out.cell (p := ⟨w.heap.size, 4, none⟩) (by simp [Z0.out])).trans T4.out
      by_cases hlt : i < ks.length
      · obtain ⟨b, o, rfl, hS, hc⟩ := HR.out.1 i hlt
        have hrep := HR.out.2 i hlt
        have BW : Below w.heap.size w wr := B0.out.trans (HB.out.mono (by rw [Z0.out]; omega))
        obtain ⟨v0, v1, v2, v3, v4, hcs, c0, c1, c2, c3, c4'⟩ := nd_cells hrep hc
        have e0 := (BW.cell (p := ⟨b, o + i * 5, none⟩) hS).trans c0
        have e1 := (BW.cell (p := ⟨b, o + i * 5 + 1, none⟩) hS).trans c1
        have e2 := (BW.cell (p := ⟨b, o + i * 5 + 2, none⟩) hS).trans c2
        have e3 := (BW.cell (p := ⟨b, o + i * 5 + 3, none⟩) hS).trans c3
        have e4 := (BW.cell (p := ⟨b, o + i * 5 + 4, none⟩) hS).trans c4'
        rw [hcs] at hrep
        clear c0 c1 c2 c3 c4' hc hcs
        have hR := ndSh.mono (ndSh.below hrep BW) (S' := (· < wr.heap.size)) (fun b hb => Nat.lt_of_lt_of_le hb BW.size)
        have hwi : wt ks[i] ≤ 1048576 := by have := wt_mem (List.getElem_mem hlt); omega
        have hcall := IH.out ks[i] (List.getElem_mem hlt) [v0, v1, v2, v3, v4] wr hwi hR
        clear hR hrep BW
        by_cases hok : okN 3 ks[i] = true
        · have hA2 : Hid ((ks.take (i + 1)).all (okN 3) = true) := by show _ = _; rw [all_take hlt, HA.out, hok]; rfl
          rw [hok] at hcall
          clear hok HA
          go_wp2_with fail
          refine hcall.mono ?_
          clear hcall
          rintro e w1 ⟨rfl, hb⟩
          have B1 : Hid (Below w0.heap.size w0 w1) := HB.out.trans (hb.mono HB.out.size)
          clear hb HB c4 e0 e1 e2 e3 e4
          go_wp2
          go_round
          case rel => exact ⟨i + 1, by omega, by go_num, hA2, B1⟩
          case measure => simp [intOf]; omega
        · have hok' : okN 3 ks[i] = false := by simpa using hok
          have hq : Hid (q = false) := by show _ = _; rw [HO.out, all_no hlt hok']; rfl
          rw [hok'] at hcall
          clear hok hok' HA
          go_wp2_with fail
          refine hcall.mono ?_
          clear hcall
          rintro e w1 ⟨rfl, hb⟩
          have B1 : Hid (Below w0.heap.size w0 w1) := HB.out.trans (hb.mono HB.out.size)
          clear hb HB c4 e0 e1 e2 e3 e4
          go_wp2
          go_ret
          exact ⟨ret_bool hq.out.symm, B0.out.trans (B1.out.mono (by rw [Z0.out]; omega))⟩
      · obtain rfl : i = ks.length := by omega
        have hq : Hid (q = patB op n s t ks.length) := by
          have := HA.out
          rw [List.take_length] at this
          show _ = _; rw [HO.out, this]; rfl
        have c0 : wr.cell? ⟨w.heap.size, 0, none⟩ = some (.int .i64 op) := (HB.out.cell (p := ⟨w.heap.size, 0, none⟩) (by simp [Z0.out])).trans T0.out
        have c1 : wr.cell? ⟨w.heap.size, 1, none⟩ = some (.int .i64 n) := (HB.out.cell (p := ⟨w.heap.size, 1, none⟩) (by simp [Z0.out])).trans T1.out
        have c2 : wr.cell? ⟨w.heap.size, 2, none⟩ = some (.string s) := (HB.out.cell (p := ⟨w.heap.size, 2, none⟩) (by simp [Z0.out])).trans T2.out
        have c3 : wr.cell? ⟨w.heap.size, 3, none⟩ = some (.string t) := (HB.out.cell (p := ⟨w.heap.size, 3, none⟩) (by simp [Z0.out])).trans T3.out
        have B1 : Hid (Below w.heap.size w wr) := B0.out.trans (HB.out.mono (by rw [Z0.out]; omega))
        have FS : Hid (s.size ≤ maxLen) := f2
        clear HA HO HB T0 T1 T2 T3 T4 B0 Z0 HR IH f2 f3 hi hlt
        generalize ks.length = len at *
        by_cases ht : t.toList = []
        · have ht' : (t.toList == []) = true := by simp [ht]
          by_cases o17 : op = 17
          · subst o17
            have hq2 : Hid (q = (n == 0 && (s.toList == [] && (len : Int) == 0))) := by show _ = _; rw [hq.out]; simp [patB, labelB, fitB, sortB, ht, Bool.and_assoc]
            clear hq
            by_cases hl : (0 : Int) < len
            · have hl0 : ((len : Int) == 0) = false := by simp; omega
              go_wp2
              go_ret
              exact ⟨ret_bool (by rw [hq2.out, hl0]; simp), B1.out⟩
            · have hl0 : ((len : Int) == 0) = true := by simp; omega
              go_wp2
              all_goals
                go_ret
                refine ⟨ret_bool ?_, B1.out⟩
                rw [hq2.out, hl0]
                simp_all
          · by_cases o18 : op = 18
            · subst o18
              have hq2 : Hid (q = (n == 0 && (nameB s && (len : Int) == 0))) := by show _ = _; rw [hq.out]; simp [patB, labelB, fitB, sortB, ht, Bool.and_assoc]
              clear hq
              by_cases hl : (0 : Int) < len
              · have hl0 : ((len : Int) == 0) = false := by simp; omega
                go_wp2
                go_ret
                exact ⟨ret_bool (by rw [hq2.out, hl0]; simp), B1.out⟩
              · have hl0 : ((len : Int) == 0) = true := by simp; omega
                go_wp2_with (go_at_call 89; refine (specName s _ FS.out).mono ?_; rintro e w1 ⟨rfl, hb⟩)
                all_goals
                  go_ret
                  first | refine ⟨ret_bool ?_, B1.out⟩ | refine ⟨ret_bool ?_, B1.out.trans (hb.mono B1.out.size)⟩
                  rw [hq2.out, hl0]
                  simp_all
            · by_cases o19 : op = 19
              · subst o19
                have hq2 : Hid (q = (decide (0 ≤ n ∧ n ≤ 1073741823) && (s.toList == [] && (len : Int) == 0))) := by show _ = _; rw [hq.out]; simp [patB, labelB, fitB, sortB, ht, Bool.and_assoc]
                clear hq
                by_cases hl : (0 : Int) < len
                · have hl0 : ((len : Int) == 0) = false := by simp; omega
                  go_wp2
                  go_ret
                  exact ⟨ret_bool (by rw [hq2.out, hl0]; simp), B1.out⟩
                · have hl0 : ((len : Int) == 0) = true := by simp; omega
                  go_wp2
                  all_goals
                    go_ret
                    refine ⟨ret_bool ?_, B1.out⟩
                    rw [hq2.out, hl0]
                    simp_all
                    try omega
              · by_cases o20 : op = 20
                · subst o20
                  have hq2 : Hid (q = (n == 0 && conB s)) := by show _ = _; rw [hq.out]; simp [patB, labelB, fitB, sortB, ht, Bool.and_assoc]
                  clear hq
                  go_wp2_with (go_at_call 68; refine (specCon s _ FS.out).mono ?_; rintro e w1 ⟨rfl, hb⟩)
                  all_goals
                    go_ret
                    first | refine ⟨ret_bool ?_, B1.out⟩ | refine ⟨ret_bool ?_, B1.out.trans (hb.mono B1.out.size)⟩
                    rw [hq2.out]
                    simp_all
                · have hq2 : Hid (q = false) := by
                    show _ = _; rw [hq.out]; unfold patB
                    rw [decide_eq_false]; rfl
                    unfold sortB; repeat' split
                    all_goals omega
                  clear hq
                  go_wp2
                  all_goals
                    go_ret
                    exact ⟨ret_bool hq2.out.symm, B1.out⟩
        · have ht' : (t.toList == []) = false := by simpa using ht
          have hq2 : Hid (q = false) := by
            show _ = _; rw [hq.out]; unfold patB
            by_cases h3 : sortB op = 3
            · have hne : ¬ op = 6 := by rintro rfl; simp [sortB] at h3
              have : labelB op n s t = false := by unfold labelB; rw [ht']; simp [hne]
              rw [this]; simp
            · rw [decide_eq_false h3]; rfl
          clear hq
          go_wp2
          go_ret
          exact ⟨ret_bool hq2.out.symm, B1.out⟩

end Go.Proofs.YtpdmdcoaaboikaaGreatDoor.node
