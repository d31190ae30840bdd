/-
  The model's test of a pattern (l4Pat): tidy, where a pattern is asked; nothing that was there is turned.
  The model's tests of kids (l4Es) and of a case's alternatives (l4Case), given its test of an expression at what is below; nothing that was there is turned.
-/
import Derived.Test.YtlnpfnglphdaiaaGreatDoorB1
import Derived.Test.YtlnpfnglphdaiaaGreatDoorB2
import Derived.Test.YtlnpfnglphdaiaaGreatDoorB3
import Derived.Test.YtlnpfnglphdaiaaGreatDoorB4
import Derived.Test.YtlnpfnglphdaiaaGreatDoorB5
import Derived.Test.YtlnpfnglphdaiaaGreatDoorB6
import Derived.Test.YtlnpfnglphdaiaaGreatDoorB7
import Derived.Test.YtlnpfnglphdaiaaGreatDoorB8
import Derived.Test.YtlnpfnglphdaiaaGreatDoorB9
import Derived.Test.YtlnpfnglphdaiaaGreatDoorB10
import Derived.Test.YtlnpfnglphdaiaaGreatDoorB11
import Derived.Test.YtlnpfnglphdaiaaGreatDoorB12
import Derived.Test.YtlnpfnglphdaiaaGreatDoorB13
import Derived.Test.YtlnpfnglphdaiaaGreatDoorB14
import Derived.Test.YtlnpfnglphdaiaaGreatDoorB15
import Derived.Test.YtlnpfnglphdaiaaGreatDoorB16
import Derived.Test.YtlnpfnglphdaiaaGreatDoorB17
import Derived.Test.YtlnpfnglphdaiaaGreatDoorB18
import Derived.Test.YtlnpfnglphdaiaaGreatDoorB19
import Derived.Test.YtlnpfnglphdaiaaGreatDoorB20
import Derived.Test.YtlnpfnglphdaiaaGreatDoorB21
import Derived.Test.YtlnpfnglphdaiaaGreatDoorB22
import Derived.Test.YtlnpfnglphdaiaaGreatDoorB23
import Derived.Test.YtlnpfnglphdaiaaGreatDoorB24
import Derived.Test.YtlnpfnglphdaiaaGreatDoorB25
import Derived.Test.YtlnpfnglphdaiaaGreatDoorB26
import Derived.Test.YtlnpfnglphdaiaaGreatDoorB27
import Derived.Test.YtlnpfnglphdaiaaGreatDoorB28
import Derived.Test.YtlnpfnglphdaiaaGreatDoorB29
namespace Go.Proofs.YtlnpfnglphdaiaaGreatDoor.node
open Go.RowKit Go.Proofs.YtlnpfnglphdaiaaGreatDoor.rose Go.Proofs.YtlnpfnglphdaiaaGreatDoor words4
set_option linter.unusedVariables false
set_option linter.unusedSimpArgs false

/-- A pattern beside its kids. -/
def patB (op n : Int) (s t : ByteArray) (k : Nat) : Bool := decide (sortB op = 3) && (labelB op n s t && fitB op k)

theorem okNs_all {op sort : Int} (h : ∀ i, kidSortB op i = sort) (ks : List Nd) (i : Nat) : okNs op i ks = ks.all (okN sort) := by
  induction ks generalizing i with
  | nil => simp [okNs]
  | cons k ks ih => rw [okNs, ih, h, List.all_cons]
theorem kid3 {op : Int} (h : sortB op = 3) (i : Nat) : kidSortB op i = 3 := by
  unfold kidSortB
  rw [if_neg, if_neg, h]
  · rintro rfl; simp [sortB] at h
  · rintro ⟨rfl, -⟩; simp [sortB] at h
theorem pat_unfold (op n : Int) (s t : ByteArray) (ks : List Nd) : okN 3 (.mk (op, n, s, t) ks) = (ks.all (okN 3) && patB op n s t ks.length) := by
  rw [okN]
  unfold patB
  by_cases h : sortB op = 3
  · rw [okNs_all (kid3 h), decide_eq_true h]
    cases labelB op n s t <;> cases fitB op ks.length <;> simp
  · rw [decide_eq_false h]; simp

theorem all_take {p : Nd → Bool} {ks : List Nd} {i : Nat} (h : i < ks.length) : (ks.take (i + 1)).all p = ((ks.take i).all p && p ks[i]) := by
  rw [List.take_add_one, List.getElem?_eq_getElem h, List.all_append]; simp
theorem all_no {p : Nd → Bool} {ks : List Nd} {i : Nat} (h : i < ks.length) (hk : p ks[i] = false) : ks.all p = false := by
  rw [List.all_eq_false]; exact ⟨ks[i], List.getElem_mem h, by simp [hk]⟩

def PatSays (T : Nd) : Prop := ∀ cs w, wt T ≤ 1048576 → ndSh.rep w (· < w.heap.size) cs T →
  Calls Tryz.prog 100 #[.agg cs.toArray] w fun e w' => e = .returned (.bool (okN 3 T)) ∧ Below w.heap.size w w'

set_option maxHeartbeats 4000000 in
theorem pat_any (T : Nd) : PatSays T := by
  induction T using ind with
  | h x ks ih =>
    intro cs w hw h
    obtain ⟨op, n, s, t, a, cap, ks', hT, rfl, f2, f3, hk⟩ := nd_open h
    cases hT
    clear h
    obtain ⟨a1, cap1, css, e, hcap, hmax, hrow, hk2⟩ := nds_open hk
    cases e
    have hws : wts ks ≤ 1048576 ∧ ks.length ≤ 1048576 := by simp [wt] at hw; omega
    obtain ⟨hws, hkl⟩ := hws
    have IH : Hid (∀ k ∈ ks, PatSays k) := ih
    have HR : Hid (RowAt w (· < w.heap.size) 5 a ks.length css ∧ ∀ i (h : i < ks.length), ndSh.rep w (· < w.heap.size) (css i) ks[i]) := ⟨hrow, hk2⟩
    have HO : Hid (okN 3 (.mk (op, n, s, t) ks) = (ks.all (okN 3) && patB op n s t ks.length)) := pat_unfold _ _ _ _ _
    generalize okN 3 (.mk (op, n, s, t) ks) = q at HO ⊢
    clear ih hrow hk2 hk hcap hmax hw
    go_enter Tryz.func100, Tryz.ntmps100
    go_wp2
    have T0 : Hid ((w.alloc (.cells #[.int .i64 op, .int .i64 n, .string s, .string t, .slice a ks.length cap] 36)).cell? ⟨w.heap.size, 0, none⟩ = some (.int .i64 op)) := by show _ = _; simp
    have T1 : Hid ((w.alloc (.cells #[.int .i64 op, .int .i64 n, .string s, .string t, .slice a ks.length cap] 36)).cell? ⟨w.heap.size, 1, none⟩ = some (.int .i64 n)) := by show _ = _; simp
    have T2 : Hid ((w.alloc (.cells #[.int .i64 op, .int .i64 n, .string s, .string t, .slice a ks.length cap] 36)).cell? ⟨w.heap.size, 2, none⟩ = some (.string s)) := by show _ = _; simp
    have T3 : Hid ((w.alloc (.cells #[.int .i64 op, .int .i64 n, .string s, .string t, .slice a ks.length cap] 36)).cell? ⟨w.heap.size, 3, none⟩ = some (.string t)) := by show _ = _; simp
    have T4 : Hid ((w.alloc (.cells #[.int .i64 op, .int .i64 n, .string s, .string t, .slice a ks.length cap] 36)).cell? ⟨w.heap.size, 4, none⟩ = some (.slice a ks.length cap)) := by show _ = _; simp
    have B0 : Hid (Below w.heap.size w (w.alloc (.cells #[.int .i64 op, .int .i64 n, .string s, .string t, .slice a ks.length cap] 36))) := (Below.refl _ _).alloc (Nat.le_refl _) _
    have Z0 : Hid ((w.alloc (.cells #[.int .i64 op, .int .i64 n, .string s, .string t, .slice a ks.length cap] 36)).heap.size = w.heap.size + 1) := by show _ = _; simp
    generalize w.alloc (.cells #[.int .i64 op, .int .i64 n, .string s, .string t, .slice a ks.length cap] 36) = w0 at T0 T1 T2 T3 T4 B0 Z0 ⊢
    go_loopw [3] (fun v3 wr => ∃ i : Nat, i ≤ ks.length ∧ v3 = .int .i64 i ∧ Hid ((ks.take i).all (okN 3) = true) ∧ Hid (Below w0.heap.size w0 wr)) (fun v3 _ => ks.length - (intOf v3).toNat)
    case atStart => exact ⟨0, Nat.zero_le _, rfl, by show _ = _; simp, Below.refl _ _⟩
    case round =>
      obtain ⟨i, hi, rfl, HA, HB⟩ := hrel
      have c4 : wr.cell? ⟨w.heap.size, 4, none⟩ = some (.slice a ks.length cap) := (HB.out.cell (p := ⟨w.heap.size, 4, none⟩) (by simp [Z0.out])).trans T4.out
      by_cases hlt : i < ks.length
      · obtain ⟨b, o, rfl, hS, hc⟩ := HR.out.1 i hlt
        have hrep := HR.out.2 i hlt
        have BW : Below w.heap.size w wr := B0.out.trans (HB.out.mono (by rw [Z0.out]; omega))
        obtain ⟨v0, v1, v2, v3, v4, hcs, c0, c1, c2, c3, c4'⟩ := nd_cells hrep hc
        have e0 := (BW.cell (p := ⟨b, o + i * 5, none⟩) hS).trans c0
        have e1 := (BW.cell (p := ⟨b, o + i * 5 + 1, none⟩) hS).trans c1
        have e2 := (BW.cell (p := ⟨b, o + i * 5 + 2, none⟩) hS).trans c2
        have e3 := (BW.cell (p := ⟨b, o + i * 5 + 3, none⟩) hS).trans c3
        have e4 := (BW.cell (p := ⟨b, o + i * 5 + 4, none⟩) hS).trans c4'
        rw [hcs] at hrep
        clear c0 c1 c2 c3 c4' hc hcs
        have hR := ndSh.mono (ndSh.below hrep BW) (S' := (· < wr.heap.size)) (fun b hb => Nat.lt_of_lt_of_le hb BW.size)
        have hwi : wt ks[i] ≤ 1048576 := by have := wt_mem (List.getElem_mem hlt); omega
        have hcall := IH.out ks[i] (List.getElem_mem hlt) [v0, v1, v2, v3, v4] wr hwi hR
        clear hR hrep BW
        by_cases hok : okN 3 ks[i] = true
        · have hA2 : Hid ((ks.take (i + 1)).all (okN 3) = true) := by show _ = _; rw [all_take hlt, HA.out, hok]; rfl
          rw [hok] at hcall
          clear hok HA
          go_wp2_with fail
          refine hcall.mono ?_
          clear hcall
          rintro e w1 ⟨rfl, hb⟩
          have B1 : Hid (Below w0.heap.size w0 w1) := HB.out.trans (hb.mono HB.out.size)
          clear hb HB c4 e0 e1 e2 e3 e4
          go_wp2
          go_round
          case rel => exact ⟨i + 1, by omega, by go_num, hA2, B1⟩
          case measure => simp [intOf]; omega
        · have hok' : okN 3 ks[i] = false := by simpa using hok
          have hq : Hid (q = false) := by show _ = _; rw [HO.out, all_no hlt hok']; rfl
          rw [hok'] at hcall
          clear hok hok' HA
          go_wp2_with fail
          refine hcall.mono ?_
          clear hcall
          rintro e w1 ⟨rfl, hb⟩
          have B1 : Hid (Below w0.heap.size w0 w1) := HB.out.trans (hb.mono HB.out.size)
          clear hb HB c4 e0 e1 e2 e3 e4
          go_wp2
          go_ret
          exact ⟨ret_bool hq.out.symm, B0.out.trans (B1.out.mono (by rw [Z0.out]; omega))⟩
      · obtain rfl : i = ks.length := by omega
        have hq : Hid (q = patB op n s t ks.length) := by
          have := HA.out
          rw [List.take_length] at this
          show _ = _; rw [HO.out, this]; rfl
        have c0 : wr.cell? ⟨w.heap.size, 0, none⟩ = some (.int .i64 op) := (HB.out.cell (p := ⟨w.heap.size, 0, none⟩) (by simp [Z0.out])).trans T0.out
        have c1 : wr.cell? ⟨w.heap.size, 1, none⟩ = some (.int .i64 n) := (HB.out.cell (p := ⟨w.heap.size, 1, none⟩) (by simp [Z0.out])).trans T1.out
        have c2 : wr.cell? ⟨w.heap.size, 2, none⟩ = some (.string s) := (HB.out.cell (p := ⟨w.heap.size, 2, none⟩) (by simp [Z0.out])).trans T2.out
        have c3 : wr.cell? ⟨w.heap.size, 3, none⟩ = some (.string t) := (HB.out.cell (p := ⟨w.heap.size, 3, none⟩) (by simp [Z0.out])).trans T3.out
        have B1 : Hid (Below w.heap.size w wr) := B0.out.trans (HB.out.mono (by rw [Z0.out]; omega))
        have FS : Hid (s.size ≤ maxLen) := f2
        clear HA HO HB T0 T1 T2 T3 T4 B0 Z0 HR IH f2 f3 hi hlt
        generalize ks.length = len at *
        by_cases ht : t.toList = []
        · have ht' : (t.toList == []) = true := by simp [ht]
          by_cases o17 : op = 17
          · subst o17
            have hq2 : Hid (q = (n == 0 && (s.toList == [] && (len : Int) == 0))) := by show _ = _; rw [hq.out]; simp [patB, labelB, fitB, sortB, ht, Bool.and_assoc]
            clear hq
            by_cases hl : (0 : Int) < len
            · have hl0 : ((len : Int) == 0) = false := by simp; omega
              go_wp2
              go_ret
              exact ⟨ret_bool (by rw [hq2.out, hl0]; simp), B1.out⟩
            · have hl0 : ((len : Int) == 0) = true := by simp; omega
              go_wp2
              all_goals
                go_ret
                refine ⟨ret_bool ?_, B1.out⟩
                rw [hq2.out, hl0]
                simp_all
          · by_cases o18 : op = 18
            · subst o18
              have hq2 : Hid (q = (n == 0 && (nameB s && (len : Int) == 0))) := by show _ = _; rw [hq.out]; simp [patB, labelB, fitB, sortB, ht, Bool.and_assoc]
              clear hq
              by_cases hl : (0 : Int) < len
              · have hl0 : ((len : Int) == 0) = false := by simp; omega
                go_wp2
                go_ret
                exact ⟨ret_bool (by rw [hq2.out, hl0]; simp), B1.out⟩
              · have hl0 : ((len : Int) == 0) = true := by simp; omega
                go_wp2_with (go_at_call 89; refine (specName s _ FS.out).mono ?_; rintro e w1 ⟨rfl, hb⟩)
                all_goals
                  go_ret
                  first | refine ⟨ret_bool ?_, B1.out⟩ | refine ⟨ret_bool ?_, B1.out.trans (hb.mono B1.out.size)⟩
                  rw [hq2.out, hl0]
                  simp_all
            · by_cases o19 : op = 19
              · subst o19
                have hq2 : Hid (q = (decide (0 ≤ n ∧ n ≤ 1073741823) && (s.toList == [] && (len : Int) == 0))) := by show _ = _; rw [hq.out]; simp [patB, labelB, fitB, sortB, ht, Bool.and_assoc]
                clear hq
                by_cases hl : (0 : Int) < len
                · have hl0 : ((len : Int) == 0) = false := by simp; omega
                  go_wp2
                  go_ret
                  exact ⟨ret_bool (by rw [hq2.out, hl0]; simp), B1.out⟩
                · have hl0 : ((len : Int) == 0) = true := by simp; omega
                  go_wp2
                  all_goals
                    go_ret
                    refine ⟨ret_bool ?_, B1.out⟩
                    rw [hq2.out, hl0]
                    simp_all
                    try omega
              · by_cases o20 : op = 20
                · subst o20
                  have hq2 : Hid (q = (n == 0 && conB s)) := by show _ = _; rw [hq.out]; simp [patB, labelB, fitB, sortB, ht, Bool.and_assoc]
                  clear hq
                  go_wp2_with (go_at_call 68; refine (specCon s _ FS.out).mono ?_; rintro e w1 ⟨rfl, hb⟩)
                  all_goals
                    go_ret
                    first | refine ⟨ret_bool ?_, B1.out⟩ | refine ⟨ret_bool ?_, B1.out.trans (hb.mono B1.out.size)⟩
                    rw [hq2.out]
                    simp_all
                · have hq2 : Hid (q = false) := by
                    show _ = _; rw [hq.out]; unfold patB
                    rw [decide_eq_false]; rfl
                    unfold sortB; repeat' split
                    all_goals omega
                  clear hq
                  go_wp2
                  all_goals
                    go_ret
                    exact ⟨ret_bool hq2.out.symm, B1.out⟩
        · have ht' : (t.toList == []) = false := by simpa using ht
          have hq2 : Hid (q = false) := by
            show _ = _; rw [hq.out]; unfold patB
            by_cases h3 : sortB op = 3
            · have hne : ¬ op = 6 := by rintro rfl; simp [sortB] at h3
              have : labelB op n s t = false := by unfold labelB; rw [ht']; simp [hne]
              rw [this]; simp
            · rw [decide_eq_false h3]; rfl
          clear hq
          go_wp2
          go_ret
          exact ⟨ret_bool hq2.out.symm, B1.out⟩

end Go.Proofs.YtlnpfnglphdaiaaGreatDoor.node

namespace Go.Proofs.YtlnpfnglphdaiaaGreatDoor.node
open Go.RowKit Go.Proofs.YtlnpfnglphdaiaaGreatDoor.rose Go.Proofs.YtlnpfnglphdaiaaGreatDoor words4
set_option linter.unusedVariables false
set_option linter.unusedSimpArgs false

def ESays (T : Nd) : Prop := ∀ cs w, wt T ≤ 1048576 → ndSh.rep w (· < w.heap.size) cs T →
  Calls Tryz.prog 72 #[.agg cs.toArray] w fun e w' => e = .returned (.bool (okN 1 T)) ∧ Below w.heap.size w w'

set_option maxHeartbeats 1000000 in
theorem es_of (op n : Int) (s t : ByteArray) (a : Option Addr) (cap : Nat) (ks : List Nd) (ih : ∀ k ∈ ks, ESays k) (hws : wts ks ≤ 1048576) (hkl : ks.length ≤ 1048576) (w : World) (hk : ndSh.slice.rep w (· < w.heap.size) [.slice a ks.length cap] ks) :
    Calls Tryz.prog 90 #[.agg #[.int .i64 op, .int .i64 n, .string s, .string t, .slice a ks.length cap], .int .i64 0] w fun e w' => e = .returned (.bool (ks.all (okN 1))) ∧ Below w.heap.size w w' := by
  obtain ⟨a1, cap1, css, e, hcap, hmax, hrow, hk2⟩ := nds_open hk
  cases e
  have IH : Hid (∀ k ∈ ks, ESays k) := ih
  have HR : Hid (RowAt w (· < w.heap.size) 5 a ks.length css ∧ ∀ i (h : i < ks.length), ndSh.rep w (· < w.heap.size) (css i) ks[i]) := ⟨hrow, hk2⟩
  clear ih hrow hk2 hk hcap hmax
  obtain ⟨q, hq0⟩ : ∃ q, q = ks.all (okN 1) := ⟨_, rfl⟩
  have HO : Hid (q = ks.all (okN 1)) := hq0
  rw [← hq0]
  clear hq0
  go_enter Tryz.func90, Tryz.ntmps90
  go_wp2
  have T4 : Hid ((w.alloc (.cells #[.int .i64 op, .int .i64 n, .string s, .string t, .slice a ks.length cap] 36)).cell? ⟨w.heap.size, 4, none⟩ = some (.slice a ks.length cap)) := by show _ = _; simp
  have B0 : Hid (Below w.heap.size w (w.alloc (.cells #[.int .i64 op, .int .i64 n, .string s, .string t, .slice a ks.length cap] 36))) := (Below.refl _ _).alloc (Nat.le_refl _) _
  have Z0 : Hid ((w.alloc (.cells #[.int .i64 op, .int .i64 n, .string s, .string t, .slice a ks.length cap] 36)).heap.size = w.heap.size + 1) := by show _ = _; simp
  generalize w.alloc (.cells #[.int .i64 op, .int .i64 n, .string s, .string t, .slice a ks.length cap] 36) = w0 at T4 B0 Z0 ⊢
  go_loopw [5] (fun v5 wr => ∃ i : Nat, i ≤ ks.length ∧ v5 = .int .i64 i ∧ Hid ((ks.take i).all (okN 1) = true) ∧ Hid (Below w0.heap.size w0 wr)) (fun v5 _ => ks.length - (intOf v5).toNat)
  case atStart => exact ⟨0, Nat.zero_le _, rfl, by show _ = _; simp, Below.refl _ _⟩
  case round =>
      obtain ⟨i, hi, rfl, HA, HB⟩ := hrel
      have c4 : wr.cell? ⟨w.heap.size, 4, none⟩ = some (.slice a ks.length cap) := (HB.out.cell (p := ⟨w.heap.size, 4, none⟩) (by simp [Z0.out])).trans T4.out
      by_cases hlt : i < ks.length
      · obtain ⟨b, o, rfl, hS, hc⟩ := HR.out.1 i hlt
        have hrep := HR.out.2 i hlt
        have BW : Below w.heap.size w wr := B0.out.trans (HB.out.mono (by rw [Z0.out]; omega))
        obtain ⟨v0, v1, v2, v3, v4, hcs, c0, c1, c2, c3, c4'⟩ := nd_cells hrep hc
        have e0 := (BW.cell (p := ⟨b, o + i * 5, none⟩) hS).trans c0
        have e1 := (BW.cell (p := ⟨b, o + i * 5 + 1, none⟩) hS).trans c1
        have e2 := (BW.cell (p := ⟨b, o + i * 5 + 2, none⟩) hS).trans c2
        have e3 := (BW.cell (p := ⟨b, o + i * 5 + 3, none⟩) hS).trans c3
        have e4 := (BW.cell (p := ⟨b, o + i * 5 + 4, none⟩) hS).trans c4'
        rw [hcs] at hrep
        clear c0 c1 c2 c3 c4' hc hcs
        have hR := ndSh.mono (ndSh.below hrep BW) (S' := (· < wr.heap.size)) (fun b hb => Nat.lt_of_lt_of_le hb BW.size)
        have hwi : wt ks[i] ≤ 1048576 := by have := wt_mem (List.getElem_mem hlt); omega
        have hcall := IH.out ks[i] (List.getElem_mem hlt) [v0, v1, v2, v3, v4] wr hwi hR
        clear hR hrep BW
        by_cases hok : okN 1 ks[i] = true
        · have hA2 : Hid ((ks.take (i + 1)).all (okN 1) = true) := by show _ = _; rw [all_take hlt, HA.out, hok]; rfl
          rw [hok] at hcall
          clear hok HA
          go_wp2_with fail
          refine hcall.mono ?_
          clear hcall
          rintro e w1 ⟨rfl, hb⟩
          have B1 : Hid (Below w0.heap.size w0 w1) := HB.out.trans (hb.mono HB.out.size)
          clear hb HB c4 e0 e1 e2 e3 e4
          go_wp2
          go_round
          case rel => exact ⟨i + 1, by omega, by go_num, hA2, B1⟩
          case measure => simp [intOf]; omega
        · have hok' : okN 1 ks[i] = false := by simpa using hok
          have hq : Hid (q = false) := by show _ = _; rw [HO.out, all_no hlt hok']
          rw [hok'] at hcall
          clear hok hok' HA
          go_wp2_with fail
          refine hcall.mono ?_
          clear hcall
          rintro e w1 ⟨rfl, hb⟩
          have B1 : Hid (Below w0.heap.size w0 w1) := HB.out.trans (hb.mono HB.out.size)
          clear hb HB c4 e0 e1 e2 e3 e4
          go_wp2
          go_ret
          exact ⟨ret_bool hq.out.symm, B0.out.trans (B1.out.mono (by rw [Z0.out]; omega))⟩
      · obtain rfl : i = ks.length := by omega
        have hq : Hid (q = true) := by
          have := HA.out
          rw [List.take_length] at this
          show _ = _; rw [HO.out, this]
        go_wp2
        go_ret
        exact ⟨ret_bool hq.out.symm, B0.out.trans (HB.out.mono (by rw [Z0.out]; omega))⟩

/-- An alternative. -/
theorem alt_unfold (op n : Int) (s t : ByteArray) (ks : List Nd) : okN 2 (.mk (op, n, s, t) ks) = (decide (op = 8) && (n == 0 && (s.toList == [] && (t.toList == [] && (match ks with | [p, e] => okN 3 p && okN 1 e | _ => false))))) := by
  rw [okN]
  by_cases h8 : op = 8
  · subst h8
    have h1 : kidSortB 8 0 = 3 := by decide
    have h2 : kidSortB 8 1 = 1 := by decide
    match ks with
    | [] => simp [fitB]
    | [p] => simp [fitB]
    | [p, e] =>
      simp [sortB, labelB, fitB, okNs, h1, h2, Bool.and_assoc]
    | p :: e :: r :: ks =>
      have : ¬ ((((p :: e :: r :: ks).length : Nat) : Int) = 2) := by simp; omega
      simp [fitB, this]
      omega
  · have : ¬ sortB op = 2 := by unfold sortB; rw [if_neg h8]; split; decide; split <;> decide
    simp [this, h8]

def caseB : List Nd → Bool
  | [] => false
  | k :: ks => decide (2 ≤ (((k :: ks).length : Nat) : Int)) && (okN 1 k && ks.all (okN 2))
theorem caseB_no {ks : List Nd} {i : Nat} (h : i < ks.length) (h1 : 1 ≤ i) (hk : okN 2 ks[i] = false) : caseB ks = false := by
  match ks, i, h, h1, hk with
  | k :: ks, i + 1, h, _, hk =>
    have : ks.all (okN 2) = false := all_no (i := i) (by simpa using h) (by simpa using hk)
    simp [caseB, this]
theorem caseB_yes {ks : List Nd} (h : (ks.drop 1).all (okN 2) = true) (h2 : 2 ≤ ks.length) : caseB ks = okN 1 ks[0] := by
  match ks, h2 with
  | k :: ks, h2 =>
    have h' : ks.all (okN 2) = true := by simpa using h
    have : (2 : Int) ≤ (((k :: ks).length : Nat) : Int) := by omega
    rw [caseB, h', decide_eq_true this]; simp
theorem drop_take {ks : List Nd} {i : Nat} (h : i < ks.length) (h1 : 1 ≤ i) (ha : ((ks.take i).drop 1).all (okN 2) = true) (hk : okN 2 ks[i] = true) : ((ks.take (i + 1)).drop 1).all (okN 2) = true := by
  rw [List.take_add_one, List.getElem?_eq_getElem h, List.drop_append_of_le_length (by simp; omega), List.all_append, ha]
  simp [hk]

set_option maxHeartbeats 4000000 in
theorem case_of (op n : Int) (s t : ByteArray) (a : Option Addr) (cap : Nat) (ks : List Nd) (ih : ∀ k ∈ ks, ESays k) (ih2 : ∀ k ∈ ks, ∀ k' ∈ k.kids, ESays k') (hws : wts ks ≤ 1048576) (hkl : ks.length ≤ 1048576) (w : World) (hk : ndSh.slice.rep w (· < w.heap.size) [.slice a ks.length cap] ks) :
    Calls Tryz.prog 91 #[.agg #[.int .i64 op, .int .i64 n, .string s, .string t, .slice a ks.length cap]] w fun e w' => e = .returned (.bool (caseB ks)) ∧ Below w.heap.size w w' := by
  have IH2 : Hid (∀ k ∈ ks, ∀ k' ∈ k.kids, ESays k') := ih2
  clear ih2
  obtain ⟨a1, cap1, css, e, hcap, hmax, hrow, hk2⟩ := nds_open hk
  cases e
  have IH : Hid (∀ k ∈ ks, ESays k) := ih
  have HR : Hid (RowAt w (· < w.heap.size) 5 a ks.length css ∧ ∀ i (h : i < ks.length), ndSh.rep w (· < w.heap.size) (css i) ks[i]) := ⟨hrow, hk2⟩
  clear ih hrow hk2 hk hcap hmax
  obtain ⟨q, hq0⟩ : ∃ q, q = caseB ks := ⟨_, rfl⟩
  have HO : Hid (q = caseB ks) := hq0
  rw [← hq0]
  clear hq0
  go_enter Tryz.func91, Tryz.ntmps91
  go_wp2
  have T4 : Hid ((w.alloc (.cells #[.int .i64 op, .int .i64 n, .string s, .string t, .slice a ks.length cap] 36)).cell? ⟨w.heap.size, 4, none⟩ = some (.slice a ks.length cap)) := by show _ = _; simp
  have B0 : Hid (Below w.heap.size w (w.alloc (.cells #[.int .i64 op, .int .i64 n, .string s, .string t, .slice a ks.length cap] 36))) := (Below.refl _ _).alloc (Nat.le_refl _) _
  have Z0 : Hid ((w.alloc (.cells #[.int .i64 op, .int .i64 n, .string s, .string t, .slice a ks.length cap] 36)).heap.size = w.heap.size + 1) := by show _ = _; simp
  generalize w.alloc (.cells #[.int .i64 op, .int .i64 n, .string s, .string t, .slice a ks.length cap] 36) = w0 at T4 B0 Z0 ⊢
  go_loopw [3] (fun v3 wr => ∃ i : Nat, 1 ≤ i ∧ (i ≤ ks.length ∨ i = 1) ∧ v3 = .int .i64 i ∧ Hid (((ks.take i).drop 1).all (okN 2) = true) ∧ Hid (Below w0.heap.size w0 wr)) (fun v3 _ => ks.length - (intOf v3).toNat)
  case atStart => exact ⟨1, Nat.le_refl _, Or.inr rfl, rfl, by show _ = _; cases ks <;> simp, Below.refl _ _⟩
  case round =>
      obtain ⟨i, hi1, hi, rfl, HA, HB⟩ := hrel
      have c4 : wr.cell? ⟨w.heap.size, 4, none⟩ = some (.slice a ks.length cap) := (HB.out.cell (p := ⟨w.heap.size, 4, none⟩) (by simp [Z0.out])).trans T4.out
      by_cases hlt : i < ks.length
      · obtain ⟨b, o, rfl, hS, hc⟩ := HR.out.1 i hlt
        have hrep := HR.out.2 i hlt
        have BW : Below w.heap.size w wr := B0.out.trans (HB.out.mono (by rw [Z0.out]; omega))
        obtain ⟨op', n', s', t', a', cap', ks', hT', hcs, g2, g3, hk'⟩ := nd_open hrep
        rw [hcs] at hc hrep
        have e0 := (BW.cell (p := ⟨b, o + i * 5, none⟩) hS).trans (hc 0 _ rfl)
        have e1 := (BW.cell (p := ⟨b, o + i * 5 + 1, none⟩) hS).trans (hc 1 _ rfl)
        have e2 := (BW.cell (p := ⟨b, o + i * 5 + 2, none⟩) hS).trans (hc 2 _ rfl)
        have e3 := (BW.cell (p := ⟨b, o + i * 5 + 3, none⟩) hS).trans (hc 3 _ rfl)
        have e4 := (BW.cell (p := ⟨b, o + i * 5 + 4, none⟩) hS).trans (hc 4 _ rfl)
        have hwi : wt ks[i] ≤ 1048576 := by have := wt_mem (List.getElem_mem hlt); omega
        have HU : Hid (okN 2 ks[i] = _) := (congrArg (okN 2) hT').trans (alt_unfold op' n' s' t' ks')
        have BWk : Below w.heap.size w (wr.alloc (.cells #[.int .i64 op', .int .i64 n', .string s', .string t', .slice a' ks'.length cap'] 36)) := BW.alloc BW.size _
        have BK : Hid (Below w.heap.size w (wr.alloc (.cells #[.int .i64 op', .int .i64 n', .string s', .string t', .slice a' ks'.length cap'] 36))) := BWk
        have BK0 : Hid (Below w0.heap.size w0 (wr.alloc (.cells #[.int .i64 op', .int .i64 n', .string s', .string t', .slice a' ks'.length cap'] 36))) := HB.out.alloc HB.out.size _
        have hwk : wts ks' ≤ 1048576 := by rw [hT'] at hwi; simp [wt] at hwi; omega
        have IK : Hid (∀ k' ∈ ks', ESays k') := by
          have := IH2.out ks[i] (List.getElem_mem hlt)
          rw [hT'] at this
          exact this
        have HK : Hid (ndSh.slice.rep w (· < w.heap.size) [.slice a' ks'.length cap'] ks') := hk'
        clear BW BWk hcs g2 g3 hc hrep hT' hwi hk'
        have out : okN 2 ks[i] = false → q = false := fun h => by rw [HO.out, caseB_no hlt hi1 h]
        have OUT : Hid (okN 2 ks[i] = false → q = false) := out
        clear out
        by_cases o8 : op' = 8
        · subst o8
          by_cases hn : n' = 0
          · subst hn
            by_cases hs : s'.toList = []
            · have hs' : (s'.toList == []) = true := by simp [hs]
              by_cases ht : t'.toList = []
              · have ht' : (t'.toList == []) = true := by simp [ht]
                by_cases hl : (ks'.length : Int) = 2
                · obtain ⟨p, e, rfl⟩ : ∃ p e, ks' = [p, e] := by
                    match ks', hl with
                    | [], hl => simp at hl
                    | [_], hl => simp at hl
                    | [p, e], _ => exact ⟨p, e, rfl⟩
                    | _ :: _ :: _ :: _, hl => simp at hl; omega
                  have hU : okN 2 ks[i] = (okN 3 p && okN 1 e) := by rw [HU.out]; simp [hs, ht]
                  have HU2 : Hid (okN 2 ks[i] = (okN 3 p && okN 1 e)) := hU
                  clear hU HU hl
                  obtain ⟨ak, capk, cssk, ek, -, -, hrowk, hkk⟩ := nds_open HK.out
                  cases ek
                  obtain ⟨bk, ok, eb, hSk, hck0⟩ := hrowk 0 (by simp)
                  obtain ⟨bk1, ok1, eb1, hSk1, hck1⟩ := hrowk 1 (by simp)
                  subst eb
                  cases eb1
                  have hr0 := hkk 0 (by simp)
                  have hr1 := hkk 1 (by simp)
                  simp only [List.getElem_cons_zero, List.getElem_cons_succ] at hr0 hr1
                  obtain ⟨p0, p1, p2, p3, p4, hcs0, y0, y1, y2, y3, y4⟩ := nd_cells hr0 hck0
                  obtain ⟨r0, r1, r2, r3, r4, hcs1, z0, z1, z2, z3, z4⟩ := nd_cells hr1 hck1
                  rw [hcs0] at hr0
                  rw [hcs1] at hr1
                  clear hcs0 hcs1 hck0 hck1 hkk hrowk
                  simp only [Nat.zero_mul, Nat.add_zero, Nat.one_mul] at y0 y1 y2 y3 y4 z0 z1 z2 z3 z4
                  have w0_ := (BK.out.cell (p := ⟨bk, ok, none⟩) hSk).trans y0
                  have w1_ := (BK.out.cell (p := ⟨bk, ok + 1, none⟩) hSk).trans y1
                  have w2_ := (BK.out.cell (p := ⟨bk, ok + 2, none⟩) hSk).trans y2
                  have w3_ := (BK.out.cell (p := ⟨bk, ok + 3, none⟩) hSk).trans y3
                  have w4_ := (BK.out.cell (p := ⟨bk, ok + 4, none⟩) hSk).trans y4
                  have hwp : wt p ≤ 1048576 ∧ wt e ≤ 1048576 := by simp [wts] at hwk; omega
                  have hcp : ∀ wk : World, Below w.heap.size w wk → Calls Tryz.prog 100 #[.agg #[p0, p1, p2, p3, p4]] wk fun e_ w' => e_ = .returned (.bool (okN 3 p)) ∧ Below wk.heap.size wk w' := fun wk hbk =>
                    pat_any p _ wk hwp.1 (ndSh.mono (ndSh.below hr0 hbk) fun b hb => Nat.lt_of_lt_of_le hb hbk.size)
                  have hce : ∀ wk : World, Below w.heap.size w wk → Calls Tryz.prog 72 #[.agg #[r0, r1, r2, r3, r4]] wk fun e_ w' => e_ = .returned (.bool (okN 1 e)) ∧ Below wk.heap.size wk w' := fun wk hbk =>
                    IK.out e (by simp) _ wk hwp.2 (ndSh.mono (ndSh.below hr1 hbk) fun b hb => Nat.lt_of_lt_of_le hb hbk.size)
                  have Y : Hid (w.cell? ⟨bk, ok + 5, none⟩ = some r0 ∧ w.cell? ⟨bk, ok + 5 + 1, none⟩ = some r1 ∧ w.cell? ⟨bk, ok + 5 + 2, none⟩ = some r2 ∧ w.cell? ⟨bk, ok + 5 + 3, none⟩ = some r3 ∧ w.cell? ⟨bk, ok + 5 + 4, none⟩ = some r4) := ⟨z0, z1, z2, z3, z4⟩
                  clear y0 y1 y2 y3 y4 z0 z1 z2 z3 z4 hr0 hr1 hwp
                  simp only [List.length_cons, List.length_nil, Nat.zero_add, Nat.reduceAdd] at *
                  go_wp2_with fail
                  refine (hcp _ BK.out).mono ?_
                  clear hcp
                  rintro e_ w2 ⟨rfl, hb⟩
                  have B2 : Hid (Below w.heap.size w w2) := BK.out.trans (hb.mono BK.out.size)
                  have B20 : Hid (Below w0.heap.size w0 w2) := BK0.out.trans (hb.mono BK0.out.size)
                  have c4k : w2.cell? ⟨wr.heap.size, 4, none⟩ = some (.slice (some ⟨bk, ok, none⟩) 2 cap') := (hb.cell (p := ⟨wr.heap.size, 4, none⟩) (by simp)).trans (by simp)
                  clear hb w0_ w1_ w2_ w3_ w4_ e0 e1 e2 e3 e4 c4
                  by_cases hp3 : okN 3 p = true
                  · rw [hp3]
                    obtain ⟨z0, z1, z2, z3, z4⟩ := Y.out
                    have x0_ := (B2.out.cell (p := ⟨bk, ok + 5, none⟩) hSk).trans z0
                    have x1_ := (B2.out.cell (p := ⟨bk, ok + 5 + 1, none⟩) hSk).trans z1
                    have x2_ := (B2.out.cell (p := ⟨bk, ok + 5 + 2, none⟩) hSk).trans z2
                    have x3_ := (B2.out.cell (p := ⟨bk, ok + 5 + 3, none⟩) hSk).trans z3
                    have x4_ := (B2.out.cell (p := ⟨bk, ok + 5 + 4, none⟩) hSk).trans z4
                    clear z0 z1 z2 z3 z4
                    have hcall := hce w2 B2.out
                    clear hce
                    go_wp2_with fail
                    refine hcall.mono ?_
                    clear hcall
                    rintro e_ w3 ⟨rfl, hb⟩
                    have B3 : Hid (Below w.heap.size w w3) := B2.out.trans (hb.mono B2.out.size)
                    have B30 : Hid (Below w0.heap.size w0 w3) := B20.out.trans (hb.mono B20.out.size)
                    clear hb x0_ x1_ x2_ x3_ x4_ c4k
                    by_cases he1 : okN 1 e = true
                    · rw [he1]
                      have hA2 : Hid (((ks.take (i + 1)).drop 1).all (okN 2) = true) := drop_take hlt hi1 HA.out (by rw [HU2.out, hp3, he1]; rfl)
                      clear HA
                      go_wp2
                      go_round
                      case rel => exact ⟨i + 1, by omega, by omega, by go_num, hA2, B30⟩
                      case measure => simp [intOf]; omega
                    · have he1' : okN 1 e = false := by simpa using he1
                      rw [he1']
                      have hq : Hid (q = false) := OUT.out (by rw [HU2.out, hp3, he1']; rfl)
                      go_wp2
                      go_ret
                      exact ⟨ret_bool hq.out.symm, B3.out⟩
                  · have hp3' : okN 3 p = false := by simpa using hp3
                    rw [hp3']
                    have hq : Hid (q = false) := OUT.out (by rw [HU2.out, hp3']; rfl)
                    go_wp2
                    go_ret
                    exact ⟨ret_bool hq.out.symm, B2.out⟩
                · have hl' : ((ks'.length : Int) == 2) = false := by simpa using hl
                  have hq : Hid (q = false) := OUT.out (by
                    rw [HU.out]
                    match ks', hl with
                    | [], _ => simp
                    | [_], _ => simp
                    | [_, _], hl => simp at hl
                    | _ :: _ :: _ :: _, _ => simp)
                  go_wp2
                  go_ret
                  exact ⟨ret_bool hq.out.symm, BK.out⟩
              · have ht' : (t'.toList == []) = false := by simpa using ht
                have hq : Hid (q = false) := OUT.out (by rw [HU.out]; simp [ht])
                go_wp2
                go_ret
                exact ⟨ret_bool hq.out.symm, BK.out⟩
            · have hs' : (s'.toList == []) = false := by simpa using hs
              have hq : Hid (q = false) := OUT.out (by rw [HU.out]; simp [hs])
              go_wp2
              go_ret
              exact ⟨ret_bool hq.out.symm, BK.out⟩
          · have hq : Hid (q = false) := OUT.out (by rw [HU.out]; simp [hn])
            go_wp2
            go_ret
            exact ⟨ret_bool hq.out.symm, BK.out⟩
        · have hq : Hid (q = false) := OUT.out (by rw [HU.out]; simp [o8])
          go_wp2
          go_ret
          exact ⟨ret_bool hq.out.symm, BK.out⟩
      · have h2 : (ks.length : Int) ≤ i := by omega
        have B1 : Hid (Below w.heap.size w wr) := B0.out.trans (HB.out.mono (by rw [Z0.out]; omega))
        by_cases hl : 2 ≤ ks.length
        · have hq : Hid (q = okN 1 ks[0]) := by
            have hi' : i = ks.length := by omega
            have := HA.out
            rw [hi', List.take_length] at this
            show _ = _; rw [HO.out, caseB_yes this hl]
          have hl' : (2 : Int) ≤ ks.length := by omega
          obtain ⟨b, o, rfl, hS, hc⟩ := HR.out.1 0 (by omega)
          have hrep := HR.out.2 0 (by omega)
          have BW := B1.out
          obtain ⟨v0, v1, v2, v3, v4, hcs, c0, c1, c2, c3, c4'⟩ := nd_cells hrep hc
          have e0 := (BW.cell (p := ⟨b, o + 0 * 5, none⟩) hS).trans c0
          have e1 := (BW.cell (p := ⟨b, o + 0 * 5 + 1, none⟩) hS).trans c1
          have e2 := (BW.cell (p := ⟨b, o + 0 * 5 + 2, none⟩) hS).trans c2
          have e3 := (BW.cell (p := ⟨b, o + 0 * 5 + 3, none⟩) hS).trans c3
          have e4 := (BW.cell (p := ⟨b, o + 0 * 5 + 4, none⟩) hS).trans c4'
          simp only [Nat.zero_mul, Nat.add_zero] at e0 e1 e2 e3 e4
          rw [hcs] at hrep
          clear c0 c1 c2 c3 c4' hc hcs
          have hR := ndSh.mono (ndSh.below hrep BW) (S' := (· < wr.heap.size)) (fun b hb => Nat.lt_of_lt_of_le hb BW.size)
          have hwi : wt ks[0] ≤ 1048576 := by have := wt_mem (List.getElem_mem (l := ks) (n := 0) (by omega)); omega
          have hcall := IH.out ks[0] (List.getElem_mem (by omega)) [v0, v1, v2, v3, v4] wr hwi hR
          clear hR hrep BW
          go_wp2_with fail
          refine hcall.mono ?_
          clear hcall
          rintro e w1 ⟨rfl, hb⟩
          have B2 : Hid (Below w.heap.size w w1) := B1.out.trans (hb.mono B1.out.size)
          clear hb
          go_wp2
          go_ret
          exact ⟨ret_bool hq.out.symm, B2.out⟩
        · have hq : Hid (q = false) := by
            show _ = _; rw [HO.out]
            match ks, hl with
            | [], _ => rfl
            | [k], _ => rfl
            | k :: k2 :: ks, hl => simp at hl
          have hl' : ¬ (2 : Int) ≤ ks.length := by omega
          go_wp2
          go_ret
          exact ⟨ret_bool hq.out.symm, B1.out⟩

end Go.Proofs.YtlnpfnglphdaiaaGreatDoor.node
