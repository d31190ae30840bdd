/-
  The program's test of a type (tidyTy, tidyTyAlone): tidy, and at most so many storeys; nothing that was there is turned.
-/
import Derived.Test.YtkojogfljnnfhabTyTidy
import Derived.Test.YtkojogfljnnfhabImplWords4
namespace Go.Proofs.Ytkojogfljnnfhab.ty
open Go.RowKit Go.Proofs.Ytkojogfljnnfhab.rose Go.Proofs.Ytkojogfljnnfhab words4
set_option linter.unusedVariables false

/-- Tidy, and at most so many storeys. -/
def tidyL (vars : Int) : Nat → TyD → Bool
  | 0, _ => false
  | L + 1, .mk (op, n, s) ks => aloneB vars op n s ks.length && ks.all (tidyL vars L)

theorem tidyL_eq (vars : Int) (L : Nat) (T : TyD) : tidyL vars L T = (decide (dp T ≤ L) && okTy vars T) := by
  induction L generalizing T with
  | zero =>
    obtain ⟨x, ks⟩ := T
    simp [tidyL, dp]
  | succ L ih =>
    obtain ⟨⟨op, n, s⟩, ks⟩ := T
    have key : ks.all (tidyL vars L) = (decide (dps ks ≤ L) && okTys vars ks) := by
      induction ks with
      | nil => simp [dps, okTys]
      | cons k ks ih2 =>
        rw [List.all_cons, ih2, ih, dps, okTys]
        by_cases h1 : dp k ≤ L <;> by_cases h2 : dps ks ≤ L <;> simp [h1, h2, Nat.max_le] <;> cases okTy vars k <;> simp
    rw [tidyL, key, dp, okTy]
    cases okTys vars ks <;> cases aloneB vars op n s ks.length <;> simp

theorem all_take {p : TyD → Bool} {ks : List TyD} {i : Nat} (h : i < ks.length) : (ks.take (i + 1)).all p = ((ks.take i).all p && p ks[i]) := by
  rw [List.take_add_one, List.getElem?_eq_getElem h, List.all_append]; simp
theorem all_no {p : TyD → Bool} {ks : List TyD} {i : Nat} (h : i < ks.length) (hk : p ks[i] = false) : ks.all p = false := by
  rw [List.all_eq_false]; exact ⟨ks[i], List.getElem_mem h, by simp [hk]⟩

set_option maxHeartbeats 1000000 in
theorem implAlone (op n vars : Int) (s : ByteArray) (a : Option Addr) (len cap : Nat) (hs : s.size ≤ maxLen) (hl : len ≤ 1048576) (w : World) :
    Calls Try.prog 48 #[.agg #[.int .i64 op, .int .i64 n, .string s, .slice a len cap], .int .i64 vars] w fun e w' => e = .returned (.bool (aloneB vars op n s len)) ∧ Below w.heap.size w w' := by
  have FS : Hid (s.size ≤ maxLen) := hs
  clear hs
  obtain ⟨q, hq0⟩ : ∃ q, q = aloneB vars op n s len := ⟨_, rfl⟩
  have hq : Hid (q = aloneB vars op n s len) := hq0
  rw [← hq0]
  clear hq0
  by_cases o1 : op = 1
  · subst o1
    go_enter Try.func48, Try.ntmps48
    go_wp2
    all_goals
      go_ret
      refine ⟨ret_bool ?_, (Below.refl _ _).alloc (Nat.le_refl _) _⟩
      rw [hq.out]
      simp_all [aloneB]
  · by_cases o2 : op = 2
    · subst o2
      by_cases hn0 : 0 ≤ n
      · by_cases hn1 : n < vars
        · have hq2 : Hid (q = (s.toList == [] && ((len : Int) == 0))) := by
            show _ = _; rw [hq.out]; unfold aloneB; rw [if_neg (by decide), if_pos rfl, decide_eq_true (show 0 ≤ n ∧ n < vars by omega)]; rfl
          clear hq
          go_enter Try.func48, Try.ntmps48
          go_wp2
          all_goals
            go_ret
            refine ⟨ret_bool ?_, (Below.refl _ _).alloc (Nat.le_refl _) _⟩
            rw [hq2.out]
            simp_all
        · have hq2 : Hid (q = false) := by
            show _ = _; rw [hq.out]; unfold aloneB; rw [if_neg (by decide), if_pos rfl, decide_eq_false (show ¬ (0 ≤ n ∧ n < vars) by omega)]; rfl
          clear hq
          go_enter Try.func48, Try.ntmps48
          go_wp2
          go_ret
          exact ⟨ret_bool hq2.out.symm, (Below.refl _ _).alloc (Nat.le_refl _) _⟩
      · have hq2 : Hid (q = false) := by
          show _ = _; rw [hq.out]; unfold aloneB; rw [if_neg (by decide), if_pos rfl, decide_eq_false (show ¬ (0 ≤ n ∧ n < vars) by omega)]; rfl
        clear hq
        go_enter Try.func48, Try.ntmps48
        go_wp2
        go_ret
        exact ⟨ret_bool hq2.out.symm, (Below.refl _ _).alloc (Nat.le_refl _) _⟩
    · by_cases o3 : op = 3
      · subst o3
        go_enter Try.func48, Try.ntmps48
        go_wp2
        all_goals
          go_ret
          refine ⟨ret_bool ?_, (Below.refl _ _).alloc (Nat.le_refl _) _⟩
          rw [hq.out]
          simp_all [aloneB]
      · by_cases o4 : op = 4
        · subst o4
          go_enter Try.func48, Try.ntmps48
          go_wp2_with (go_at_call 36; refine (implCon s FS.out _).mono ?_; rintro e w1 ⟨rfl, hb⟩)
          all_goals
            go_ret
            first | refine ⟨ret_bool ?_, (Below.refl _ _).alloc (Nat.le_refl _) _⟩ | refine ⟨ret_bool ?_, ((Below.refl _ _).alloc (Nat.le_refl _) _).trans (hb.mono (by simp))⟩
            rw [hq.out]
            simp_all [aloneB]
        · have hq2 : Hid (q = false) := by show _ = _; rw [hq.out]; simp [aloneB, o1, o2, o3, o4]
          clear hq
          go_enter Try.func48, Try.ntmps48
          go_wp2
          go_ret
          exact ⟨ret_bool hq2.out.symm, (Below.refl _ _).alloc (Nat.le_refl _) _⟩

def TidySays (L : Nat) : Prop := ∀ (T : TyD) cs w (vars l : Int), l = (L : Nat) → wt T ≤ 1048576 → tySh.rep w (· < w.heap.size) cs T →
  Calls Try.prog 37 #[.agg cs.toArray, .int .i64 vars, .int .i64 l] w fun e w' => e = .returned (.bool (tidyL vars L T)) ∧ Below w.heap.size w w'

set_option maxHeartbeats 1000000 in
theorem tidy_any (L : Nat) (hL : L ≤ 24) : TidySays L := by
  induction L with
  | zero =>
    intro T cs w vars l hl hw h
    obtain ⟨op, n, s, ks, a, cap, rfl, rfl, f0, f1, f2, hk⟩ := ty_open h
    clear h hk
    have t0 : l = 0 := by simpa using hl
    subst t0
    clear hl
    rw [show tidyL vars 0 (.mk (op, n, s) ks) = false by simp [tidyL]]
    go_enter Try.func37, Try.ntmps37
    go_wp2
    go_ret
    exact ⟨rfl, (Below.refl _ _).alloc (Nat.le_refl _) _⟩
  | succ L ih0 =>
    have IH : Hid (TidySays L) := ih0 (by omega)
    clear ih0
    intro T cs w vars l hl hw h
    obtain ⟨op, n, s, ks, a, cap, rfl, rfl, f0, f1, f2, hk⟩ := ty_open h
    clear h
    obtain ⟨a1, cap1, css, e, hcap, hmax, hrow, hk2⟩ := tys_open hk
    cases e
    have hws : wts ks ≤ 1048576 ∧ ks.length ≤ 1048576 := by simp [wt] at hw; omega
    obtain ⟨hws, hkl⟩ := hws
    have hl1 : 1 ≤ l := by omega
    have hl2 : l ≤ 24 := by omega
    have HL : Hid (l = ((L + 1 : Nat) : Int)) := hl
    clear hl
    have HR : Hid (RowAt w (· < w.heap.size) 4 a ks.length css ∧ ∀ i (h : i < ks.length), tySh.rep w (· < w.heap.size) (css i) ks[i]) := ⟨hrow, hk2⟩
    have HO : Hid (tidyL vars (L + 1) (.mk (op, n, s) ks) = (aloneB vars op n s ks.length && ks.all (tidyL vars L))) := by show _ = _; rw [tidyL]
    generalize tidyL vars (L + 1) (.mk (op, n, s) ks) = q at HO ⊢
    have B0 : Hid (Below w.heap.size w (w.alloc (.cells #[.int .i64 op, .int .i64 n, .string s, .slice a ks.length cap] 55))) := (Below.refl _ _).alloc (Nat.le_refl _) _
    have X3 : Hid ((w.alloc (.cells #[.int .i64 op, .int .i64 n, .string s, .slice a ks.length cap] 55)).cell? ⟨w.heap.size, 3, none⟩ = some (.slice a ks.length cap)) := by show _ = _; simp
    have Z0 : Hid (w.heap.size < (w.alloc (.cells #[.int .i64 op, .int .i64 n, .string s, .slice a ks.length cap] 55)).heap.size) := by show _ < _; simp
    clear hrow hk2 hk hcap hmax hw
    have hcall := implAlone op n vars s a ks.length cap f2 hkl (w.alloc (.cells #[.int .i64 op, .int .i64 n, .string s, .slice a ks.length cap] 55))
    by_cases hal : aloneB vars op n s ks.length = true
    · rw [hal] at hcall HO
      have t0 : (l == 0) = false := by simp; omega
      go_enter Try.func37, Try.ntmps37
      go_wp2_with fail
      refine hcall.mono ?_
      clear hcall
      rintro e w1 ⟨rfl, hb⟩
      have B1 : Hid (Below w.heap.size w w1) := B0.out.trans (hb.mono B0.out.size)
      have c3 : w1.cell? ⟨w.heap.size, 3, none⟩ = some (.slice a ks.length cap) := (hb.cell (p := ⟨w.heap.size, 3, none⟩) Z0.out).trans X3.out
      clear hb B0 X3 Z0 f0 f1 f2
      go_wp2
      clear c3
      go_loopw [20] (fun v20 wr => ∃ i : Nat, i ≤ ks.length ∧ v20 = .int .i64 i ∧ Hid ((ks.take i).all (tidyL vars L) = true) ∧ Hid (Below w.heap.size w wr)) (fun v20 _ => ks.length - (intOf v20).toNat)
      case atStart => exact ⟨0, Nat.zero_le _, rfl, by show _ = _; simp, B1⟩
      case round =>
        obtain ⟨i, hi, rfl, HA, HB⟩ := hrel
        by_cases hlt : i < ks.length
        · obtain ⟨b, o, rfl, hS, hc⟩ := HR.out.1 i hlt
          have hrep := HR.out.2 i hlt
          have BW := HB.out
          obtain ⟨op', n', s', ks', a', cap', hT', hcs, g0, g1, g2, -⟩ := ty_open hrep
          rw [hcs] at hc hrep
          have e0 := (BW.cell (p := ⟨b, o + i * 4, none⟩) hS).trans (hc 0 _ rfl)
          have e1 := (BW.cell (p := ⟨b, o + i * 4 + 1, none⟩) hS).trans (hc 1 _ rfl)
          have e2 := (BW.cell (p := ⟨b, o + i * 4 + 2, none⟩) hS).trans (hc 2 _ rfl)
          have e3 := (BW.cell (p := ⟨b, o + i * 4 + 3, none⟩) hS).trans (hc 3 _ rfl)
          have BK : Below w.heap.size w (wr.alloc (.cells #[.int .i64 op', .int .i64 n', .string s', .slice a' ks'.length cap'] 55)) := BW.alloc BW.size _
          have hR := tySh.mono (tySh.below hrep BK) (S' := (· < (wr.alloc (.cells #[.int .i64 op', .int .i64 n', .string s', .slice a' ks'.length cap'] 55)).heap.size)) (fun b hb => Nat.lt_of_lt_of_le hb BK.size)
          have hwi : wt ks[i] ≤ 1048576 := by have := wt_mem (List.getElem_mem hlt); omega
          have hcall := IH.out ks[i] _ _ vars (l - 1) (by have := HL.out; omega) hwi hR
          have HBK : Hid (Below w.heap.size w (wr.alloc (.cells #[.int .i64 op', .int .i64 n', .string s', .slice a' ks'.length cap'] 55))) := BK
          clear hR hrep BW BK hT' hcs g0 g1 g2 hc HB
          by_cases hok : tidyL vars L ks[i] = true
          · have hA2 : Hid ((ks.take (i + 1)).all (tidyL vars L) = true) := by show _ = _; rw [all_take hlt, HA.out, hok]; rfl
            rw [hok] at hcall
            clear hok HA
            go_wp2_with fail
            refine hcall.mono ?_
            clear hcall
            rintro e w2 ⟨rfl, hb⟩
            have B2 : Hid (Below w.heap.size w w2) := HBK.out.trans (hb.mono HBK.out.size)
            clear hb HBK e0 e1 e2 e3
            go_wp2
            go_round
            case rel => exact ⟨i + 1, by omega, by go_num, hA2, B2⟩
            case measure => simp [intOf]; omega
          · have hok' : tidyL vars L ks[i] = false := by simpa using hok
            have hq : Hid (q = false) := by show _ = _; rw [HO.out, all_no hlt hok']; rfl
            rw [hok'] at hcall
            clear hok hok' HA
            go_wp2_with fail
            refine hcall.mono ?_
            clear hcall
            rintro e w2 ⟨rfl, hb⟩
            have B2 : Hid (Below w.heap.size w w2) := HBK.out.trans (hb.mono HBK.out.size)
            clear hb HBK e0 e1 e2 e3
            go_wp2
            go_ret
            exact ⟨ret_bool hq.out.symm, B2.out⟩
        · obtain rfl : i = ks.length := by omega
          have hq : Hid (q = true) := by
            have := HA.out
            rw [List.take_length] at this
            show _ = _; rw [HO.out, this]; rfl
          go_wp2
          go_ret
          exact ⟨ret_bool hq.out.symm, HB.out⟩
    · have hal' : aloneB vars op n s ks.length = false := by simpa using hal
      have hq : Hid (q = false) := by show _ = _; rw [HO.out, hal']; rfl
      rw [hal'] at hcall
      have t0 : (l == 0) = false := by simp; omega
      clear HO hal hal'
      go_enter Try.func37, Try.ntmps37
      go_wp2_with fail
      refine hcall.mono ?_
      clear hcall
      rintro e w1 ⟨rfl, hb⟩
      have B1 : Hid (Below w.heap.size w w1) := B0.out.trans (hb.mono B0.out.size)
      clear hb
      go_wp2
      go_ret
      exact ⟨ret_bool hq.out.symm, B1.out⟩

end Go.Proofs.Ytkojogfljnnfhab.ty
