/-
  The model's test of an expression (l4E): tidy, where an expression is asked; nothing that was there is turned.
-/
import Derived.Test.YtlnpfnglphdaiaaGreatDoorB1
import Derived.Test.YtlnpfnglphdaiaaGreatDoorB2
import Derived.Test.YtlnpfnglphdaiaaGreatDoorB3
import Derived.Test.YtlnpfnglphdaiaaGreatDoorB4
import Derived.Test.YtlnpfnglphdaiaaGreatDoorB5
import Derived.Test.YtlnpfnglphdaiaaGreatDoorB6
import Derived.Test.YtlnpfnglphdaiaaGreatDoorB7
import Derived.Test.YtlnpfnglphdaiaaGreatDoorB8
import Derived.Test.YtlnpfnglphdaiaaGreatDoorB9
import Derived.Test.YtlnpfnglphdaiaaGreatDoorB10
import Derived.Test.YtlnpfnglphdaiaaGreatDoorB11
import Derived.Test.YtlnpfnglphdaiaaGreatDoorB12
import Derived.Test.YtlnpfnglphdaiaaGreatDoorB13
import Derived.Test.YtlnpfnglphdaiaaGreatDoorB14
import Derived.Test.YtlnpfnglphdaiaaGreatDoorB15
import Derived.Test.YtlnpfnglphdaiaaGreatDoorB16
import Derived.Test.YtlnpfnglphdaiaaGreatDoorB17
import Derived.Test.YtlnpfnglphdaiaaGreatDoorB18
import Derived.Test.YtlnpfnglphdaiaaGreatDoorB19
import Derived.Test.YtlnpfnglphdaiaaGreatDoorB20
import Derived.Test.YtlnpfnglphdaiaaGreatDoorB21
import Derived.Test.YtlnpfnglphdaiaaGreatDoorB22
import Derived.Test.YtlnpfnglphdaiaaGreatDoorB23
import Derived.Test.YtlnpfnglphdaiaaGreatDoorB24
import Derived.Test.YtlnpfnglphdaiaaGreatDoorB25
import Derived.Test.YtlnpfnglphdaiaaGreatDoorB26
import Derived.Test.YtlnpfnglphdaiaaGreatDoorB27
import Derived.Test.YtlnpfnglphdaiaaGreatDoorB28
import Derived.Test.YtlnpfnglphdaiaaGreatDoorB29
import Derived.Test.YtlnpfnglphdaiaaGreatDoorB30
namespace Go.Proofs.YtlnpfnglphdaiaaGreatDoor.node
open Go.RowKit Go.Proofs.YtlnpfnglphdaiaaGreatDoor.rose Go.Proofs.YtlnpfnglphdaiaaGreatDoor words4
set_option linter.unusedVariables false
set_option linter.unusedSimpArgs false
set_option maxRecDepth 100000

/-- An expression beside its kids. -/
def eB (op n : Int) (s t : ByteArray) (k : Nat) : Bool := decide (sortB op = 1) && (labelB op n s t && fitB op k)

theorem kid1 {op : Int} (h : sortB op = 1) (h7 : ¬ op = 7) (i : Nat) : kidSortB op i = 1 := by
  unfold kidSortB
  rw [if_neg, if_neg, h]
  · rintro rfl; simp [sortB] at h
  · rintro ⟨rfl, -⟩; exact h7 rfl
theorem e_unfold (op n : Int) (s t : ByteArray) (ks : List Nd) (h7 : ¬ op = 7) : okN 1 (.mk (op, n, s, t) ks) = (eB op n s t ks.length && ks.all (okN 1)) := by
  rw [okN]
  unfold eB
  by_cases h : sortB op = 1
  · rw [okNs_all (kid1 h h7), decide_eq_true h]
    cases labelB op n s t <;> cases fitB op ks.length <;> simp
  · rw [decide_eq_false h]; simp
theorem case_unfold (n : Int) (s t : ByteArray) (ks : List Nd) : okN 1 (.mk (7, n, s, t) ks) = (n == 0 && (s.toList == [] && (t.toList == [] && caseB ks))) := by
  rw [okN]
  have h0 : kidSortB 7 0 = 1 := by decide
  have h1 : ∀ (ks : List Nd) i, okNs 7 (i + 1) ks = ks.all (okN 2) := by
    intro ks
    induction ks with
    | nil => intro i; simp [okNs]
    | cons k ks ih => intro i; rw [okNs, ih, List.all_cons]; simp [kidSortB]
  have h2 : sortB 7 = 1 := by decide
  match ks with
  | [] => simp [fitB, caseB]
  | k :: ks =>
    rw [okNs, h1, h0, h2, caseB]
    simp only [labelB, fitB]
    simp [Bool.and_assoc]

set_option maxHeartbeats 1000000 in
theorem e1 (n : Int) (s t : ByteArray) (a : Option Addr) (len cap : Nat) (q A C : Bool) (w : World) (FS : Hid (s.size ≤ maxLen)) (FT : Hid (t.size ≤ maxLen)) (HA0 : Hid (len = 0 → A = true)) (hkl : len ≤ 1048576)
    (KE : Hid (∀ wk : World, Below w.heap.size w wk → Calls Tryz.prog 90 #[.agg #[.int .i64 1, .int .i64 n, .string s, .string t, .slice a len cap], .int .i64 0] wk fun e w' => e = .returned (.bool A) ∧ Below wk.heap.size wk w'))
    (KC : Hid (∀ wk : World, Below w.heap.size w wk → Calls Tryz.prog 91 #[.agg #[.int .i64 1, .int .i64 n, .string s, .string t, .slice a len cap]] wk fun e w' => e = .returned (.bool C) ∧ Below wk.heap.size wk w'))
    (HO : Hid (q = (eB 1 n s t len && A))) :
    Calls Tryz.prog 72 #[.agg #[.int .i64 1, .int .i64 n, .string s, .string t, .slice a len cap]] w fun e w' => e = .returned (.bool q) ∧ Below w.heap.size w w' := by
  by_cases ht : t.toList = []
  · have ht' : (t.toList == []) = true := by simp [ht]
    by_cases hs : s.toList = []
    · have hs' : (s.toList == []) = true := by simp [hs]
      by_cases hk0 : (len : Int) = 0
      · have hk' : ((len : Int) == 0) = true := by simp [hk0]
        have HK : Hid ((len : Int) = 0) := hk0
        have hA : A = true := HA0.out (by omega)
        have HA1 : Hid (A = true) := hA
        clear hA
        clear hk0
        have hq : Hid (q = decide (0 ≤ n ∧ n ≤ 1073741823)) := by show _ = _; rw [HO.out]; simp [eB, labelB, fitB, sortB, ht, hs, HK.out, HA1.out]
        by_cases h0 : 0 ≤ n
        · by_cases h1 : n ≤ 1073741823
          · go_enter Tryz.func72, Tryz.ntmps72
            go_wp2
            go_ret
            exact ⟨ret_bool (by rw [hq.out, decide_eq_true (show 0 ≤ n ∧ n ≤ 1073741823 by omega)]), (Below.refl _ _).alloc (Nat.le_refl _) _⟩
          · go_enter Tryz.func72, Tryz.ntmps72
            go_wp2
            go_ret
            exact ⟨ret_bool (by rw [hq.out, decide_eq_false (show ¬ (0 ≤ n ∧ n ≤ 1073741823) by omega)]), (Below.refl _ _).alloc (Nat.le_refl _) _⟩
        · go_enter Tryz.func72, Tryz.ntmps72
          go_wp2
          go_ret
          exact ⟨ret_bool (by rw [hq.out, decide_eq_false (show ¬ (0 ≤ n ∧ n ≤ 1073741823) by omega)]), (Below.refl _ _).alloc (Nat.le_refl _) _⟩
      · have hk' : ((len : Int) == 0) = false := by simpa using hk0
        have hk1 : ¬ len = 0 := by omega
        have hq : Hid (q = false) := by show _ = _; rw [HO.out]; simp [eB, labelB, fitB, sortB, ht, hs, hk0, hk1]
        go_enter Tryz.func72, Tryz.ntmps72
        go_wp2
        go_ret
        exact ⟨ret_bool hq.out.symm, (Below.refl _ _).alloc (Nat.le_refl _) _⟩
    · have hs' : (s.toList == []) = false := by simpa using hs
      have hq : Hid (q = false) := by show _ = _; rw [HO.out]; simp [eB, labelB, fitB, sortB, ht, hs]
      go_enter Tryz.func72, Tryz.ntmps72
      go_wp2
      go_ret
      exact ⟨ret_bool hq.out.symm, (Below.refl _ _).alloc (Nat.le_refl _) _⟩
  · have ht' : (t.toList == []) = false := by simpa using ht
    have hq : Hid (q = false) := by show _ = _; rw [HO.out]; simp [eB, labelB, fitB, sortB, ht]
    go_enter Tryz.func72, Tryz.ntmps72
    go_wp2
    go_ret
    exact ⟨ret_bool hq.out.symm, (Below.refl _ _).alloc (Nat.le_refl _) _⟩

set_option maxHeartbeats 1000000 in
theorem e2 (n : Int) (s t : ByteArray) (a : Option Addr) (len cap : Nat) (q A C : Bool) (w : World) (FS : Hid (s.size ≤ maxLen)) (FT : Hid (t.size ≤ maxLen)) (HA0 : Hid (len = 0 → A = true)) (hkl : len ≤ 1048576)
    (KE : Hid (∀ wk : World, Below w.heap.size w wk → Calls Tryz.prog 90 #[.agg #[.int .i64 2, .int .i64 n, .string s, .string t, .slice a len cap], .int .i64 0] wk fun e w' => e = .returned (.bool A) ∧ Below wk.heap.size wk w'))
    (KC : Hid (∀ wk : World, Below w.heap.size w wk → Calls Tryz.prog 91 #[.agg #[.int .i64 2, .int .i64 n, .string s, .string t, .slice a len cap]] wk fun e w' => e = .returned (.bool C) ∧ Below wk.heap.size wk w'))
    (HO : Hid (q = (eB 2 n s t len && A))) :
    Calls Tryz.prog 72 #[.agg #[.int .i64 2, .int .i64 n, .string s, .string t, .slice a len cap]] w fun e w' => e = .returned (.bool q) ∧ Below w.heap.size w w' := by
  by_cases hn : n = 0
  · subst hn
    by_cases ht : t.toList = []
    · have ht' : (t.toList == []) = true := by simp [ht]
      by_cases hk0 : (len : Int) = 0
      · have hk' : ((len : Int) == 0) = true := by simp [hk0]
        have HK : Hid ((len : Int) = 0) := hk0
        have hA : A = true := HA0.out (by omega)
        have HA1 : Hid (A = true) := hA
        clear hA
        clear hk0
        go_enter Tryz.func72, Tryz.ntmps72
        go_wp2_with fail
        refine (specName s _ FS.out).mono ?_
        rintro e w1 ⟨rfl, hb⟩
        have B1 : Hid (Below w.heap.size w w1) := ((Below.refl _ _).alloc (Nat.le_refl _) _).trans (hb.mono (by simp))
        have z1 : w.heap.size < w1.heap.size := Nat.lt_of_lt_of_le (by simp) hb.size
        have b1_0 : w1.cell? ⟨w.heap.size, 0, none⟩ = some (.int .i64 2) := (hb.cell (p := ⟨w.heap.size, 0, none⟩) (by simp)).trans (by simp)
        have b1_1 : w1.cell? ⟨w.heap.size, 1, none⟩ = some (.int .i64 0) := (hb.cell (p := ⟨w.heap.size, 1, none⟩) (by simp)).trans (by simp)
        have b1_2 : w1.cell? ⟨w.heap.size, 2, none⟩ = some (.string s) := (hb.cell (p := ⟨w.heap.size, 2, none⟩) (by simp)).trans (by simp)
        have b1_3 : w1.cell? ⟨w.heap.size, 3, none⟩ = some (.string t) := (hb.cell (p := ⟨w.heap.size, 3, none⟩) (by simp)).trans (by simp)
        have b1_4 : w1.cell? ⟨w.heap.size, 4, none⟩ = some (.slice a len cap) := (hb.cell (p := ⟨w.heap.size, 4, none⟩) (by simp)).trans (by simp)
        clear hb
        have hq : Hid (q = nameB s) := by show _ = _; rw [HO.out]; simp [eB, labelB, fitB, sortB, ht, HK.out, HA1.out]
        go_wp2
        go_ret
        exact ⟨ret_bool hq.out.symm, B1.out⟩
      · have hk' : ((len : Int) == 0) = false := by simpa using hk0
        have hk1 : ¬ len = 0 := by omega
        have hq : Hid (q = false) := by show _ = _; rw [HO.out]; simp [eB, labelB, fitB, sortB, ht, hk0, hk1]
        go_enter Tryz.func72, Tryz.ntmps72
        go_wp2
        go_ret
        exact ⟨ret_bool hq.out.symm, (Below.refl _ _).alloc (Nat.le_refl _) _⟩
    · have ht' : (t.toList == []) = false := by simpa using ht
      have hq : Hid (q = false) := by show _ = _; rw [HO.out]; simp [eB, labelB, fitB, sortB, ht]
      go_enter Tryz.func72, Tryz.ntmps72
      go_wp2
      go_ret
      exact ⟨ret_bool hq.out.symm, (Below.refl _ _).alloc (Nat.le_refl _) _⟩
  · clear KE KC
    have hq : Hid (q = false) := by show _ = _; rw [HO.out]; simp [eB, labelB, fitB, sortB, hn]
    go_enter Tryz.func72, Tryz.ntmps72
    go_wp2
    go_ret
    exact ⟨ret_bool hq.out.symm, (Below.refl _ _).alloc (Nat.le_refl _) _⟩

set_option maxHeartbeats 1000000 in
theorem e3 (n : Int) (s t : ByteArray) (a : Option Addr) (len cap : Nat) (q A C : Bool) (w : World) (FS : Hid (s.size ≤ maxLen)) (FT : Hid (t.size ≤ maxLen)) (HA0 : Hid (len = 0 → A = true)) (hkl : len ≤ 1048576)
    (KE : Hid (∀ wk : World, Below w.heap.size w wk → Calls Tryz.prog 90 #[.agg #[.int .i64 3, .int .i64 n, .string s, .string t, .slice a len cap], .int .i64 0] wk fun e w' => e = .returned (.bool A) ∧ Below wk.heap.size wk w'))
    (KC : Hid (∀ wk : World, Below w.heap.size w wk → Calls Tryz.prog 91 #[.agg #[.int .i64 3, .int .i64 n, .string s, .string t, .slice a len cap]] wk fun e w' => e = .returned (.bool C) ∧ Below wk.heap.size wk w'))
    (HO : Hid (q = (eB 3 n s t len && A))) :
    Calls Tryz.prog 72 #[.agg #[.int .i64 3, .int .i64 n, .string s, .string t, .slice a len cap]] w fun e w' => e = .returned (.bool q) ∧ Below w.heap.size w w' := by
  by_cases hn : n = 0
  · subst hn
    by_cases ht : t.toList = []
    · have ht' : (t.toList == []) = true := by simp [ht]
      by_cases hk0 : (len : Int) = 1
      · have hk' : ((len : Int) == 1) = true := by simp [hk0]
        have HK : Hid ((len : Int) = 1) := hk0
        clear hk0
        go_enter Tryz.func72, Tryz.ntmps72
        go_wp2_with fail
        refine (specName s _ FS.out).mono ?_
        rintro e w1 ⟨rfl, hb⟩
        have B1 : Hid (Below w.heap.size w w1) := ((Below.refl _ _).alloc (Nat.le_refl _) _).trans (hb.mono (by simp))
        have z1 : w.heap.size < w1.heap.size := Nat.lt_of_lt_of_le (by simp) hb.size
        have b1_0 : w1.cell? ⟨w.heap.size, 0, none⟩ = some (.int .i64 3) := (hb.cell (p := ⟨w.heap.size, 0, none⟩) (by simp)).trans (by simp)
        have b1_1 : w1.cell? ⟨w.heap.size, 1, none⟩ = some (.int .i64 0) := (hb.cell (p := ⟨w.heap.size, 1, none⟩) (by simp)).trans (by simp)
        have b1_2 : w1.cell? ⟨w.heap.size, 2, none⟩ = some (.string s) := (hb.cell (p := ⟨w.heap.size, 2, none⟩) (by simp)).trans (by simp)
        have b1_3 : w1.cell? ⟨w.heap.size, 3, none⟩ = some (.string t) := (hb.cell (p := ⟨w.heap.size, 3, none⟩) (by simp)).trans (by simp)
        have b1_4 : w1.cell? ⟨w.heap.size, 4, none⟩ = some (.slice a len cap) := (hb.cell (p := ⟨w.heap.size, 4, none⟩) (by simp)).trans (by simp)
        clear hb
        by_cases hnms : nameB s = true
        · rw [hnms]
          have hq : Hid (q = A) := by show _ = _; rw [HO.out]; simp [eB, labelB, fitB, sortB, ht, HK.out, hnms]
          go_wp2_with fail
          refine (KE.out _ (B1.out)).mono ?_
          rintro e wz ⟨rfl, hb⟩
          have BZ : Hid (Below w.heap.size w wz) := B1.out.trans (hb.mono B1.out.size)
          clear hb
          go_wp2
          go_ret
          exact ⟨ret_bool hq.out.symm, BZ.out⟩
        · have hnms' : nameB s = false := by simpa using hnms
          rw [hnms']
          have hq : Hid (q = false) := by show _ = _; rw [HO.out]; simp [eB, labelB, fitB, sortB, ht, HK.out, hnms']
          go_wp2
          go_ret
          exact ⟨ret_bool hq.out.symm, B1.out⟩
      · have hk' : ((len : Int) == 1) = false := by simpa using hk0
        have hk1 : ¬ len = 1 := by omega
        have hq : Hid (q = false) := by show _ = _; rw [HO.out]; simp [eB, labelB, fitB, sortB, ht, hk0, hk1]
        go_enter Tryz.func72, Tryz.ntmps72
        go_wp2
        go_ret
        exact ⟨ret_bool hq.out.symm, (Below.refl _ _).alloc (Nat.le_refl _) _⟩
    · have ht' : (t.toList == []) = false := by simpa using ht
      have hq : Hid (q = false) := by show _ = _; rw [HO.out]; simp [eB, labelB, fitB, sortB, ht]
      go_enter Tryz.func72, Tryz.ntmps72
      go_wp2
      go_ret
      exact ⟨ret_bool hq.out.symm, (Below.refl _ _).alloc (Nat.le_refl _) _⟩
  · clear KE KC
    have hq : Hid (q = false) := by show _ = _; rw [HO.out]; simp [eB, labelB, fitB, sortB, hn]
    go_enter Tryz.func72, Tryz.ntmps72
    go_wp2
    go_ret
    exact ⟨ret_bool hq.out.symm, (Below.refl _ _).alloc (Nat.le_refl _) _⟩

set_option maxHeartbeats 1000000 in
theorem e4 (n : Int) (s t : ByteArray) (a : Option Addr) (len cap : Nat) (q A C : Bool) (w : World) (FS : Hid (s.size ≤ maxLen)) (FT : Hid (t.size ≤ maxLen)) (HA0 : Hid (len = 0 → A = true)) (hkl : len ≤ 1048576)
    (KE : Hid (∀ wk : World, Below w.heap.size w wk → Calls Tryz.prog 90 #[.agg #[.int .i64 4, .int .i64 n, .string s, .string t, .slice a len cap], .int .i64 0] wk fun e w' => e = .returned (.bool A) ∧ Below wk.heap.size wk w'))
    (KC : Hid (∀ wk : World, Below w.heap.size w wk → Calls Tryz.prog 91 #[.agg #[.int .i64 4, .int .i64 n, .string s, .string t, .slice a len cap]] wk fun e w' => e = .returned (.bool C) ∧ Below wk.heap.size wk w'))
    (HO : Hid (q = (eB 4 n s t len && A))) :
    Calls Tryz.prog 72 #[.agg #[.int .i64 4, .int .i64 n, .string s, .string t, .slice a len cap]] w fun e w' => e = .returned (.bool q) ∧ Below w.heap.size w w' := by
  by_cases hn : n = 0
  · subst hn
    by_cases ht : t.toList = []
    · have ht' : (t.toList == []) = true := by simp [ht]
      by_cases hs : s.toList = []
      · have hs' : (s.toList == []) = true := by simp [hs]
        by_cases hk0 : (len : Int) = 2
        · have hk' : ((len : Int) == 2) = true := by simp [hk0]
          have HK : Hid ((len : Int) = 2) := hk0
          clear hk0
          have hq : Hid (q = A) := by show _ = _; rw [HO.out]; simp [eB, labelB, fitB, sortB, ht, hs, HK.out]
          go_enter Tryz.func72, Tryz.ntmps72
          go_wp2_with fail
          refine (KE.out _ ((Below.refl _ _).alloc (Nat.le_refl _) _)).mono ?_
          rintro e wz ⟨rfl, hb⟩
          have BZ : Hid (Below w.heap.size w wz) := ((Below.refl _ _).alloc (Nat.le_refl _) _).trans (hb.mono (by simp))
          clear hb
          go_wp2
          go_ret
          exact ⟨ret_bool hq.out.symm, BZ.out⟩
        · have hk' : ((len : Int) == 2) = false := by simpa using hk0
          have hk1 : ¬ len = 2 := by omega
          have hq : Hid (q = false) := by show _ = _; rw [HO.out]; simp [eB, labelB, fitB, sortB, ht, hs, hk0, hk1]
          go_enter Tryz.func72, Tryz.ntmps72
          go_wp2
          go_ret
          exact ⟨ret_bool hq.out.symm, (Below.refl _ _).alloc (Nat.le_refl _) _⟩
      · have hs' : (s.toList == []) = false := by simpa using hs
        have hq : Hid (q = false) := by show _ = _; rw [HO.out]; simp [eB, labelB, fitB, sortB, ht, hs]
        go_enter Tryz.func72, Tryz.ntmps72
        go_wp2
        go_ret
        exact ⟨ret_bool hq.out.symm, (Below.refl _ _).alloc (Nat.le_refl _) _⟩
    · have ht' : (t.toList == []) = false := by simpa using ht
      have hq : Hid (q = false) := by show _ = _; rw [HO.out]; simp [eB, labelB, fitB, sortB, ht]
      go_enter Tryz.func72, Tryz.ntmps72
      go_wp2
      go_ret
      exact ⟨ret_bool hq.out.symm, (Below.refl _ _).alloc (Nat.le_refl _) _⟩
  · clear KE KC
    have hq : Hid (q = false) := by show _ = _; rw [HO.out]; simp [eB, labelB, fitB, sortB, hn]
    go_enter Tryz.func72, Tryz.ntmps72
    go_wp2
    go_ret
    exact ⟨ret_bool hq.out.symm, (Below.refl _ _).alloc (Nat.le_refl _) _⟩

set_option maxHeartbeats 1000000 in
theorem e5 (n : Int) (s t : ByteArray) (a : Option Addr) (len cap : Nat) (q A C : Bool) (w : World) (FS : Hid (s.size ≤ maxLen)) (FT : Hid (t.size ≤ maxLen)) (HA0 : Hid (len = 0 → A = true)) (hkl : len ≤ 1048576)
    (KE : Hid (∀ wk : World, Below w.heap.size w wk → Calls Tryz.prog 90 #[.agg #[.int .i64 5, .int .i64 n, .string s, .string t, .slice a len cap], .int .i64 0] wk fun e w' => e = .returned (.bool A) ∧ Below wk.heap.size wk w'))
    (KC : Hid (∀ wk : World, Below w.heap.size w wk → Calls Tryz.prog 91 #[.agg #[.int .i64 5, .int .i64 n, .string s, .string t, .slice a len cap]] wk fun e w' => e = .returned (.bool C) ∧ Below wk.heap.size wk w'))
    (HO : Hid (q = (eB 5 n s t len && A))) :
    Calls Tryz.prog 72 #[.agg #[.int .i64 5, .int .i64 n, .string s, .string t, .slice a len cap]] w fun e w' => e = .returned (.bool q) ∧ Below w.heap.size w w' := by
  by_cases hn : n = 0
  · subst hn
    by_cases ht : t.toList = []
    · have ht' : (t.toList == []) = true := by simp [ht]
      by_cases hk0 : (len : Int) = 2
      · have hk' : ((len : Int) == 2) = true := by simp [hk0]
        have HK : Hid ((len : Int) = 2) := hk0
        clear hk0
        go_enter Tryz.func72, Tryz.ntmps72
        go_wp2_with fail
        refine (specName s _ FS.out).mono ?_
        rintro e w1 ⟨rfl, hb⟩
        have B1 : Hid (Below w.heap.size w w1) := ((Below.refl _ _).alloc (Nat.le_refl _) _).trans (hb.mono (by simp))
        have z1 : w.heap.size < w1.heap.size := Nat.lt_of_lt_of_le (by simp) hb.size
        have b1_0 : w1.cell? ⟨w.heap.size, 0, none⟩ = some (.int .i64 5) := (hb.cell (p := ⟨w.heap.size, 0, none⟩) (by simp)).trans (by simp)
        have b1_1 : w1.cell? ⟨w.heap.size, 1, none⟩ = some (.int .i64 0) := (hb.cell (p := ⟨w.heap.size, 1, none⟩) (by simp)).trans (by simp)
        have b1_2 : w1.cell? ⟨w.heap.size, 2, none⟩ = some (.string s) := (hb.cell (p := ⟨w.heap.size, 2, none⟩) (by simp)).trans (by simp)
        have b1_3 : w1.cell? ⟨w.heap.size, 3, none⟩ = some (.string t) := (hb.cell (p := ⟨w.heap.size, 3, none⟩) (by simp)).trans (by simp)
        have b1_4 : w1.cell? ⟨w.heap.size, 4, none⟩ = some (.slice a len cap) := (hb.cell (p := ⟨w.heap.size, 4, none⟩) (by simp)).trans (by simp)
        clear hb
        by_cases hnms : nameB s = true
        · rw [hnms]
          have hq : Hid (q = A) := by show _ = _; rw [HO.out]; simp [eB, labelB, fitB, sortB, ht, HK.out, hnms]
          go_wp2_with fail
          refine (KE.out _ (B1.out)).mono ?_
          rintro e wz ⟨rfl, hb⟩
          have BZ : Hid (Below w.heap.size w wz) := B1.out.trans (hb.mono B1.out.size)
          clear hb
          go_wp2
          go_ret
          exact ⟨ret_bool hq.out.symm, BZ.out⟩
        · have hnms' : nameB s = false := by simpa using hnms
          rw [hnms']
          have hq : Hid (q = false) := by show _ = _; rw [HO.out]; simp [eB, labelB, fitB, sortB, ht, HK.out, hnms']
          go_wp2
          go_ret
          exact ⟨ret_bool hq.out.symm, B1.out⟩
      · have hk' : ((len : Int) == 2) = false := by simpa using hk0
        have hk1 : ¬ len = 2 := by omega
        have hq : Hid (q = false) := by show _ = _; rw [HO.out]; simp [eB, labelB, fitB, sortB, ht, hk0, hk1]
        go_enter Tryz.func72, Tryz.ntmps72
        go_wp2
        go_ret
        exact ⟨ret_bool hq.out.symm, (Below.refl _ _).alloc (Nat.le_refl _) _⟩
    · have ht' : (t.toList == []) = false := by simpa using ht
      have hq : Hid (q = false) := by show _ = _; rw [HO.out]; simp [eB, labelB, fitB, sortB, ht]
      go_enter Tryz.func72, Tryz.ntmps72
      go_wp2
      go_ret
      exact ⟨ret_bool hq.out.symm, (Below.refl _ _).alloc (Nat.le_refl _) _⟩
  · clear KE KC
    have hq : Hid (q = false) := by show _ = _; rw [HO.out]; simp [eB, labelB, fitB, sortB, hn]
    go_enter Tryz.func72, Tryz.ntmps72
    go_wp2
    go_ret
    exact ⟨ret_bool hq.out.symm, (Below.refl _ _).alloc (Nat.le_refl _) _⟩

set_option maxHeartbeats 1000000 in
theorem e6 (n : Int) (s t : ByteArray) (a : Option Addr) (len cap : Nat) (q A C : Bool) (w : World) (FS : Hid (s.size ≤ maxLen)) (FT : Hid (t.size ≤ maxLen)) (HA0 : Hid (len = 0 → A = true)) (hkl : len ≤ 1048576)
    (KE : Hid (∀ wk : World, Below w.heap.size w wk → Calls Tryz.prog 90 #[.agg #[.int .i64 6, .int .i64 n, .string s, .string t, .slice a len cap], .int .i64 0] wk fun e w' => e = .returned (.bool A) ∧ Below wk.heap.size wk w'))
    (KC : Hid (∀ wk : World, Below w.heap.size w wk → Calls Tryz.prog 91 #[.agg #[.int .i64 6, .int .i64 n, .string s, .string t, .slice a len cap]] wk fun e w' => e = .returned (.bool C) ∧ Below wk.heap.size wk w'))
    (HO : Hid (q = (eB 6 n s t len && A))) :
    Calls Tryz.prog 72 #[.agg #[.int .i64 6, .int .i64 n, .string s, .string t, .slice a len cap]] w fun e w' => e = .returned (.bool q) ∧ Below w.heap.size w w' := by
  by_cases hn : n = 0
  · subst hn
    by_cases hk0 : (len : Int) = 2
    · have hk' : ((len : Int) == 2) = true := by simp [hk0]
      have HK : Hid ((len : Int) = 2) := hk0
      clear hk0
      go_enter Tryz.func72, Tryz.ntmps72
      go_wp2_with fail
      refine (specName s _ FS.out).mono ?_
      rintro e w1 ⟨rfl, hb⟩
      have B1 : Hid (Below w.heap.size w w1) := ((Below.refl _ _).alloc (Nat.le_refl _) _).trans (hb.mono (by simp))
      have z1 : w.heap.size < w1.heap.size := Nat.lt_of_lt_of_le (by simp) hb.size
      have b1_0 : w1.cell? ⟨w.heap.size, 0, none⟩ = some (.int .i64 6) := (hb.cell (p := ⟨w.heap.size, 0, none⟩) (by simp)).trans (by simp)
      have b1_1 : w1.cell? ⟨w.heap.size, 1, none⟩ = some (.int .i64 0) := (hb.cell (p := ⟨w.heap.size, 1, none⟩) (by simp)).trans (by simp)
      have b1_2 : w1.cell? ⟨w.heap.size, 2, none⟩ = some (.string s) := (hb.cell (p := ⟨w.heap.size, 2, none⟩) (by simp)).trans (by simp)
      have b1_3 : w1.cell? ⟨w.heap.size, 3, none⟩ = some (.string t) := (hb.cell (p := ⟨w.heap.size, 3, none⟩) (by simp)).trans (by simp)
      have b1_4 : w1.cell? ⟨w.heap.size, 4, none⟩ = some (.slice a len cap) := (hb.cell (p := ⟨w.heap.size, 4, none⟩) (by simp)).trans (by simp)
      clear hb
      by_cases hnms : nameB s = true
      · rw [hnms]
        go_wp2_with fail
        refine (specName t _ FT.out).mono ?_
        rintro e w2 ⟨rfl, hb⟩
        have B2 : Hid (Below w.heap.size w w2) := B1.out.trans (hb.mono B1.out.size)
        have z2 : w.heap.size < w2.heap.size := Nat.lt_of_lt_of_le z1 hb.size
        have b2_0 : w2.cell? ⟨w.heap.size, 0, none⟩ = some (.int .i64 6) := (hb.cell (p := ⟨w.heap.size, 0, none⟩) z1).trans b1_0
        have b2_1 : w2.cell? ⟨w.heap.size, 1, none⟩ = some (.int .i64 0) := (hb.cell (p := ⟨w.heap.size, 1, none⟩) z1).trans b1_1
        have b2_2 : w2.cell? ⟨w.heap.size, 2, none⟩ = some (.string s) := (hb.cell (p := ⟨w.heap.size, 2, none⟩) z1).trans b1_2
        have b2_3 : w2.cell? ⟨w.heap.size, 3, none⟩ = some (.string t) := (hb.cell (p := ⟨w.heap.size, 3, none⟩) z1).trans b1_3
        have b2_4 : w2.cell? ⟨w.heap.size, 4, none⟩ = some (.slice a len cap) := (hb.cell (p := ⟨w.heap.size, 4, none⟩) z1).trans b1_4
        clear hb
        by_cases hnmt : nameB t = true
        · rw [hnmt]
          have hq : Hid (q = A) := by show _ = _; rw [HO.out]; simp [eB, labelB, fitB, sortB, HK.out, hnms, hnmt]
          go_wp2_with fail
          refine (KE.out _ (B2.out)).mono ?_
          rintro e wz ⟨rfl, hb⟩
          have BZ : Hid (Below w.heap.size w wz) := B2.out.trans (hb.mono B2.out.size)
          clear hb
          go_wp2
          go_ret
          exact ⟨ret_bool hq.out.symm, BZ.out⟩
        · have hnmt' : nameB t = false := by simpa using hnmt
          rw [hnmt']
          have hq : Hid (q = false) := by show _ = _; rw [HO.out]; simp [eB, labelB, fitB, sortB, HK.out, hnms, hnmt']
          go_wp2
          go_ret
          exact ⟨ret_bool hq.out.symm, B2.out⟩
      · have hnms' : nameB s = false := by simpa using hnms
        rw [hnms']
        have hq : Hid (q = false) := by show _ = _; rw [HO.out]; simp [eB, labelB, fitB, sortB, HK.out, hnms']
        go_wp2
        go_ret
        exact ⟨ret_bool hq.out.symm, B1.out⟩
    · have hk' : ((len : Int) == 2) = false := by simpa using hk0
      have hk1 : ¬ len = 2 := by omega
      have hq : Hid (q = false) := by show _ = _; rw [HO.out]; simp [eB, labelB, fitB, sortB, hk0, hk1]
      go_enter Tryz.func72, Tryz.ntmps72
      go_wp2
      go_ret
      exact ⟨ret_bool hq.out.symm, (Below.refl _ _).alloc (Nat.le_refl _) _⟩
  · clear KE KC
    have hq : Hid (q = false) := by show _ = _; rw [HO.out]; simp [eB, labelB, fitB, sortB, hn]
    go_enter Tryz.func72, Tryz.ntmps72
    go_wp2
    go_ret
    exact ⟨ret_bool hq.out.symm, (Below.refl _ _).alloc (Nat.le_refl _) _⟩

set_option maxHeartbeats 1000000 in
theorem e7 (n : Int) (s t : ByteArray) (a : Option Addr) (len cap : Nat) (q A C : Bool) (w : World) (FS : Hid (s.size ≤ maxLen)) (FT : Hid (t.size ≤ maxLen)) (HA0 : Hid (len = 0 → A = true)) (hkl : len ≤ 1048576)
    (KE : Hid (∀ wk : World, Below w.heap.size w wk → Calls Tryz.prog 90 #[.agg #[.int .i64 7, .int .i64 n, .string s, .string t, .slice a len cap], .int .i64 0] wk fun e w' => e = .returned (.bool A) ∧ Below wk.heap.size wk w'))
    (KC : Hid (∀ wk : World, Below w.heap.size w wk → Calls Tryz.prog 91 #[.agg #[.int .i64 7, .int .i64 n, .string s, .string t, .slice a len cap]] wk fun e w' => e = .returned (.bool C) ∧ Below wk.heap.size wk w'))
    (HO : Hid (q = (n == 0 && (s.toList == [] && (t.toList == [] && C))))) :
    Calls Tryz.prog 72 #[.agg #[.int .i64 7, .int .i64 n, .string s, .string t, .slice a len cap]] w fun e w' => e = .returned (.bool q) ∧ Below w.heap.size w w' := by
  by_cases hn : n = 0
  · subst hn
    by_cases ht : t.toList = []
    · have ht' : (t.toList == []) = true := by simp [ht]
      by_cases hs : s.toList = []
      · have hs' : (s.toList == []) = true := by simp [hs]
        have hq : Hid (q = C) := by show _ = _; rw [HO.out]; simp [eB, labelB, fitB, sortB, ht, hs]
        go_enter Tryz.func72, Tryz.ntmps72
        go_wp2_with fail
        refine (KC.out _ ((Below.refl _ _).alloc (Nat.le_refl _) _)).mono ?_
        rintro e wz ⟨rfl, hb⟩
        have BZ : Hid (Below w.heap.size w wz) := ((Below.refl _ _).alloc (Nat.le_refl _) _).trans (hb.mono (by simp))
        clear hb
        go_wp2
        go_ret
        exact ⟨ret_bool hq.out.symm, BZ.out⟩
      · have hs' : (s.toList == []) = false := by simpa using hs
        have hq : Hid (q = false) := by show _ = _; rw [HO.out]; simp [eB, labelB, fitB, sortB, ht, hs]
        go_enter Tryz.func72, Tryz.ntmps72
        go_wp2
        go_ret
        exact ⟨ret_bool hq.out.symm, (Below.refl _ _).alloc (Nat.le_refl _) _⟩
    · have ht' : (t.toList == []) = false := by simpa using ht
      have hq : Hid (q = false) := by show _ = _; rw [HO.out]; simp [eB, labelB, fitB, sortB, ht]
      go_enter Tryz.func72, Tryz.ntmps72
      go_wp2
      go_ret
      exact ⟨ret_bool hq.out.symm, (Below.refl _ _).alloc (Nat.le_refl _) _⟩
  · clear KE KC
    have hq : Hid (q = false) := by show _ = _; rw [HO.out]; simp [eB, labelB, fitB, sortB, hn]
    go_enter Tryz.func72, Tryz.ntmps72
    go_wp2
    go_ret
    exact ⟨ret_bool hq.out.symm, (Below.refl _ _).alloc (Nat.le_refl _) _⟩

set_option maxHeartbeats 1000000 in
theorem e9 (n : Int) (s t : ByteArray) (a : Option Addr) (len cap : Nat) (q A C : Bool) (w : World) (FS : Hid (s.size ≤ maxLen)) (FT : Hid (t.size ≤ maxLen)) (HA0 : Hid (len = 0 → A = true)) (hkl : len ≤ 1048576)
    (KE : Hid (∀ wk : World, Below w.heap.size w wk → Calls Tryz.prog 90 #[.agg #[.int .i64 9, .int .i64 n, .string s, .string t, .slice a len cap], .int .i64 0] wk fun e w' => e = .returned (.bool A) ∧ Below wk.heap.size wk w'))
    (KC : Hid (∀ wk : World, Below w.heap.size w wk → Calls Tryz.prog 91 #[.agg #[.int .i64 9, .int .i64 n, .string s, .string t, .slice a len cap]] wk fun e w' => e = .returned (.bool C) ∧ Below wk.heap.size wk w'))
    (HO : Hid (q = (eB 9 n s t len && A))) :
    Calls Tryz.prog 72 #[.agg #[.int .i64 9, .int .i64 n, .string s, .string t, .slice a len cap]] w fun e w' => e = .returned (.bool q) ∧ Below w.heap.size w w' := by
  by_cases hn : n = 0
  · subst hn
    by_cases ht : t.toList = []
    · have ht' : (t.toList == []) = true := by simp [ht]
      by_cases hs : s.toList = []
      · have hs' : (s.toList == []) = true := by simp [hs]
        by_cases hk0 : (len : Int) = 3
        · have hk' : ((len : Int) == 3) = true := by simp [hk0]
          have HK : Hid ((len : Int) = 3) := hk0
          clear hk0
          have hq : Hid (q = A) := by show _ = _; rw [HO.out]; simp [eB, labelB, fitB, sortB, ht, hs, HK.out]
          go_enter Tryz.func72, Tryz.ntmps72
          go_wp2_with fail
          refine (KE.out _ ((Below.refl _ _).alloc (Nat.le_refl _) _)).mono ?_
          rintro e wz ⟨rfl, hb⟩
          have BZ : Hid (Below w.heap.size w wz) := ((Below.refl _ _).alloc (Nat.le_refl _) _).trans (hb.mono (by simp))
          clear hb
          go_wp2
          go_ret
          exact ⟨ret_bool hq.out.symm, BZ.out⟩
        · have hk' : ((len : Int) == 3) = false := by simpa using hk0
          have hk1 : ¬ len = 3 := by omega
          have hq : Hid (q = false) := by show _ = _; rw [HO.out]; simp [eB, labelB, fitB, sortB, ht, hs, hk0, hk1]
          go_enter Tryz.func72, Tryz.ntmps72
          go_wp2
          go_ret
          exact ⟨ret_bool hq.out.symm, (Below.refl _ _).alloc (Nat.le_refl _) _⟩
      · have hs' : (s.toList == []) = false := by simpa using hs
        have hq : Hid (q = false) := by show _ = _; rw [HO.out]; simp [eB, labelB, fitB, sortB, ht, hs]
        go_enter Tryz.func72, Tryz.ntmps72
        go_wp2
        go_ret
        exact ⟨ret_bool hq.out.symm, (Below.refl _ _).alloc (Nat.le_refl _) _⟩
    · have ht' : (t.toList == []) = false := by simpa using ht
      have hq : Hid (q = false) := by show _ = _; rw [HO.out]; simp [eB, labelB, fitB, sortB, ht]
      go_enter Tryz.func72, Tryz.ntmps72
      go_wp2
      go_ret
      exact ⟨ret_bool hq.out.symm, (Below.refl _ _).alloc (Nat.le_refl _) _⟩
  · clear KE KC
    have hq : Hid (q = false) := by show _ = _; rw [HO.out]; simp [eB, labelB, fitB, sortB, hn]
    go_enter Tryz.func72, Tryz.ntmps72
    go_wp2
    go_ret
    exact ⟨ret_bool hq.out.symm, (Below.refl _ _).alloc (Nat.le_refl _) _⟩

set_option maxHeartbeats 1000000 in
theorem e10 (n : Int) (s t : ByteArray) (a : Option Addr) (len cap : Nat) (q A C : Bool) (w : World) (FS : Hid (s.size ≤ maxLen)) (FT : Hid (t.size ≤ maxLen)) (HA0 : Hid (len = 0 → A = true)) (hkl : len ≤ 1048576)
    (KE : Hid (∀ wk : World, Below w.heap.size w wk → Calls Tryz.prog 90 #[.agg #[.int .i64 10, .int .i64 n, .string s, .string t, .slice a len cap], .int .i64 0] wk fun e w' => e = .returned (.bool A) ∧ Below wk.heap.size wk w'))
    (KC : Hid (∀ wk : World, Below w.heap.size w wk → Calls Tryz.prog 91 #[.agg #[.int .i64 10, .int .i64 n, .string s, .string t, .slice a len cap]] wk fun e w' => e = .returned (.bool C) ∧ Below wk.heap.size wk w'))
    (HO : Hid (q = (eB 10 n s t len && A))) :
    Calls Tryz.prog 72 #[.agg #[.int .i64 10, .int .i64 n, .string s, .string t, .slice a len cap]] w fun e w' => e = .returned (.bool q) ∧ Below w.heap.size w w' := by
  by_cases hn : n = 0
  · subst hn
    by_cases ht : t.toList = []
    · have ht' : (t.toList == []) = true := by simp [ht]
      by_cases hs : s.toList = []
      · have hs' : (s.toList == []) = true := by simp [hs]
        by_cases hk0 : (len : Int) = 2
        · have hk' : ((len : Int) == 2) = true := by simp [hk0]
          have HK : Hid ((len : Int) = 2) := hk0
          clear hk0
          have hq : Hid (q = A) := by show _ = _; rw [HO.out]; simp [eB, labelB, fitB, sortB, ht, hs, HK.out]
          go_enter Tryz.func72, Tryz.ntmps72
          go_wp2_with (go_at_call 53; go_in)
          refine (KE.out _ ((Below.refl _ _).alloc (Nat.le_refl _) _)).mono ?_
          rintro e wz ⟨rfl, hb⟩
          have BZ : Hid (Below w.heap.size w wz) := ((Below.refl _ _).alloc (Nat.le_refl _) _).trans (hb.mono (by simp))
          clear hb
          go_wp2
          go_ret
          exact ⟨ret_bool hq.out.symm, BZ.out⟩
        · have hk' : ((len : Int) == 2) = false := by simpa using hk0
          have hk1 : ¬ len = 2 := by omega
          have hq : Hid (q = false) := by show _ = _; rw [HO.out]; simp [eB, labelB, fitB, sortB, ht, hs, hk0, hk1]
          go_enter Tryz.func72, Tryz.ntmps72
          go_wp2
          go_ret
          exact ⟨ret_bool hq.out.symm, (Below.refl _ _).alloc (Nat.le_refl _) _⟩
      · have hs' : (s.toList == []) = false := by simpa using hs
        have hq : Hid (q = false) := by show _ = _; rw [HO.out]; simp [eB, labelB, fitB, sortB, ht, hs]
        go_enter Tryz.func72, Tryz.ntmps72
        go_wp2
        go_ret
        exact ⟨ret_bool hq.out.symm, (Below.refl _ _).alloc (Nat.le_refl _) _⟩
    · have ht' : (t.toList == []) = false := by simpa using ht
      have hq : Hid (q = false) := by show _ = _; rw [HO.out]; simp [eB, labelB, fitB, sortB, ht]
      go_enter Tryz.func72, Tryz.ntmps72
      go_wp2
      go_ret
      exact ⟨ret_bool hq.out.symm, (Below.refl _ _).alloc (Nat.le_refl _) _⟩
  · clear KE KC
    have hq : Hid (q = false) := by show _ = _; rw [HO.out]; simp [eB, labelB, fitB, sortB, hn]
    go_enter Tryz.func72, Tryz.ntmps72
    go_wp2
    go_ret
    exact ⟨ret_bool hq.out.symm, (Below.refl _ _).alloc (Nat.le_refl _) _⟩

set_option maxHeartbeats 1000000 in
theorem e11 (n : Int) (s t : ByteArray) (a : Option Addr) (len cap : Nat) (q A C : Bool) (w : World) (FS : Hid (s.size ≤ maxLen)) (FT : Hid (t.size ≤ maxLen)) (HA0 : Hid (len = 0 → A = true)) (hkl : len ≤ 1048576)
    (KE : Hid (∀ wk : World, Below w.heap.size w wk → Calls Tryz.prog 90 #[.agg #[.int .i64 11, .int .i64 n, .string s, .string t, .slice a len cap], .int .i64 0] wk fun e w' => e = .returned (.bool A) ∧ Below wk.heap.size wk w'))
    (KC : Hid (∀ wk : World, Below w.heap.size w wk → Calls Tryz.prog 91 #[.agg #[.int .i64 11, .int .i64 n, .string s, .string t, .slice a len cap]] wk fun e w' => e = .returned (.bool C) ∧ Below wk.heap.size wk w'))
    (HO : Hid (q = (eB 11 n s t len && A))) :
    Calls Tryz.prog 72 #[.agg #[.int .i64 11, .int .i64 n, .string s, .string t, .slice a len cap]] w fun e w' => e = .returned (.bool q) ∧ Below w.heap.size w w' := by
  by_cases hn : n = 0
  · subst hn
    by_cases ht : t.toList = []
    · have ht' : (t.toList == []) = true := by simp [ht]
      by_cases hs : s.toList = []
      · have hs' : (s.toList == []) = true := by simp [hs]
        by_cases hk0 : (len : Int) = 2
        · have hk' : ((len : Int) == 2) = true := by simp [hk0]
          have HK : Hid ((len : Int) = 2) := hk0
          clear hk0
          have hq : Hid (q = A) := by show _ = _; rw [HO.out]; simp [eB, labelB, fitB, sortB, ht, hs, HK.out]
          go_enter Tryz.func72, Tryz.ntmps72
          go_wp2_with (go_at_call 53; go_in)
          refine (KE.out _ ((Below.refl _ _).alloc (Nat.le_refl _) _)).mono ?_
          rintro e wz ⟨rfl, hb⟩
          have BZ : Hid (Below w.heap.size w wz) := ((Below.refl _ _).alloc (Nat.le_refl _) _).trans (hb.mono (by simp))
          clear hb
          go_wp2
          go_ret
          exact ⟨ret_bool hq.out.symm, BZ.out⟩
        · have hk' : ((len : Int) == 2) = false := by simpa using hk0
          have hk1 : ¬ len = 2 := by omega
          have hq : Hid (q = false) := by show _ = _; rw [HO.out]; simp [eB, labelB, fitB, sortB, ht, hs, hk0, hk1]
          go_enter Tryz.func72, Tryz.ntmps72
          go_wp2
          go_ret
          exact ⟨ret_bool hq.out.symm, (Below.refl _ _).alloc (Nat.le_refl _) _⟩
      · have hs' : (s.toList == []) = false := by simpa using hs
        have hq : Hid (q = false) := by show _ = _; rw [HO.out]; simp [eB, labelB, fitB, sortB, ht, hs]
        go_enter Tryz.func72, Tryz.ntmps72
        go_wp2
        go_ret
        exact ⟨ret_bool hq.out.symm, (Below.refl _ _).alloc (Nat.le_refl _) _⟩
    · have ht' : (t.toList == []) = false := by simpa using ht
      have hq : Hid (q = false) := by show _ = _; rw [HO.out]; simp [eB, labelB, fitB, sortB, ht]
      go_enter Tryz.func72, Tryz.ntmps72
      go_wp2
      go_ret
      exact ⟨ret_bool hq.out.symm, (Below.refl _ _).alloc (Nat.le_refl _) _⟩
  · clear KE KC
    have hq : Hid (q = false) := by show _ = _; rw [HO.out]; simp [eB, labelB, fitB, sortB, hn]
    go_enter Tryz.func72, Tryz.ntmps72
    go_wp2
    go_ret
    exact ⟨ret_bool hq.out.symm, (Below.refl _ _).alloc (Nat.le_refl _) _⟩

set_option maxHeartbeats 1000000 in
theorem e12 (n : Int) (s t : ByteArray) (a : Option Addr) (len cap : Nat) (q A C : Bool) (w : World) (FS : Hid (s.size ≤ maxLen)) (FT : Hid (t.size ≤ maxLen)) (HA0 : Hid (len = 0 → A = true)) (hkl : len ≤ 1048576)
    (KE : Hid (∀ wk : World, Below w.heap.size w wk → Calls Tryz.prog 90 #[.agg #[.int .i64 12, .int .i64 n, .string s, .string t, .slice a len cap], .int .i64 0] wk fun e w' => e = .returned (.bool A) ∧ Below wk.heap.size wk w'))
    (KC : Hid (∀ wk : World, Below w.heap.size w wk → Calls Tryz.prog 91 #[.agg #[.int .i64 12, .int .i64 n, .string s, .string t, .slice a len cap]] wk fun e w' => e = .returned (.bool C) ∧ Below wk.heap.size wk w'))
    (HO : Hid (q = (eB 12 n s t len && A))) :
    Calls Tryz.prog 72 #[.agg #[.int .i64 12, .int .i64 n, .string s, .string t, .slice a len cap]] w fun e w' => e = .returned (.bool q) ∧ Below w.heap.size w w' := by
  by_cases hn : n = 0
  · subst hn
    by_cases ht : t.toList = []
    · have ht' : (t.toList == []) = true := by simp [ht]
      by_cases hs : s.toList = []
      · have hs' : (s.toList == []) = true := by simp [hs]
        by_cases hk0 : (len : Int) = 2
        · have hk' : ((len : Int) == 2) = true := by simp [hk0]
          have HK : Hid ((len : Int) = 2) := hk0
          clear hk0
          have hq : Hid (q = A) := by show _ = _; rw [HO.out]; simp [eB, labelB, fitB, sortB, ht, hs, HK.out]
          go_enter Tryz.func72, Tryz.ntmps72
          go_wp2_with (go_at_call 53; go_in)
          refine (KE.out _ ((Below.refl _ _).alloc (Nat.le_refl _) _)).mono ?_
          rintro e wz ⟨rfl, hb⟩
          have BZ : Hid (Below w.heap.size w wz) := ((Below.refl _ _).alloc (Nat.le_refl _) _).trans (hb.mono (by simp))
          clear hb
          go_wp2
          go_ret
          exact ⟨ret_bool hq.out.symm, BZ.out⟩
        · have hk' : ((len : Int) == 2) = false := by simpa using hk0
          have hk1 : ¬ len = 2 := by omega
          have hq : Hid (q = false) := by show _ = _; rw [HO.out]; simp [eB, labelB, fitB, sortB, ht, hs, hk0, hk1]
          go_enter Tryz.func72, Tryz.ntmps72
          go_wp2
          go_ret
          exact ⟨ret_bool hq.out.symm, (Below.refl _ _).alloc (Nat.le_refl _) _⟩
      · have hs' : (s.toList == []) = false := by simpa using hs
        have hq : Hid (q = false) := by show _ = _; rw [HO.out]; simp [eB, labelB, fitB, sortB, ht, hs]
        go_enter Tryz.func72, Tryz.ntmps72
        go_wp2
        go_ret
        exact ⟨ret_bool hq.out.symm, (Below.refl _ _).alloc (Nat.le_refl _) _⟩
    · have ht' : (t.toList == []) = false := by simpa using ht
      have hq : Hid (q = false) := by show _ = _; rw [HO.out]; simp [eB, labelB, fitB, sortB, ht]
      go_enter Tryz.func72, Tryz.ntmps72
      go_wp2
      go_ret
      exact ⟨ret_bool hq.out.symm, (Below.refl _ _).alloc (Nat.le_refl _) _⟩
  · clear KE KC
    have hq : Hid (q = false) := by show _ = _; rw [HO.out]; simp [eB, labelB, fitB, sortB, hn]
    go_enter Tryz.func72, Tryz.ntmps72
    go_wp2
    go_ret
    exact ⟨ret_bool hq.out.symm, (Below.refl _ _).alloc (Nat.le_refl _) _⟩

set_option maxHeartbeats 1000000 in
theorem e13 (n : Int) (s t : ByteArray) (a : Option Addr) (len cap : Nat) (q A C : Bool) (w : World) (FS : Hid (s.size ≤ maxLen)) (FT : Hid (t.size ≤ maxLen)) (HA0 : Hid (len = 0 → A = true)) (hkl : len ≤ 1048576)
    (KE : Hid (∀ wk : World, Below w.heap.size w wk → Calls Tryz.prog 90 #[.agg #[.int .i64 13, .int .i64 n, .string s, .string t, .slice a len cap], .int .i64 0] wk fun e w' => e = .returned (.bool A) ∧ Below wk.heap.size wk w'))
    (KC : Hid (∀ wk : World, Below w.heap.size w wk → Calls Tryz.prog 91 #[.agg #[.int .i64 13, .int .i64 n, .string s, .string t, .slice a len cap]] wk fun e w' => e = .returned (.bool C) ∧ Below wk.heap.size wk w'))
    (HO : Hid (q = (eB 13 n s t len && A))) :
    Calls Tryz.prog 72 #[.agg #[.int .i64 13, .int .i64 n, .string s, .string t, .slice a len cap]] w fun e w' => e = .returned (.bool q) ∧ Below w.heap.size w w' := by
  by_cases hn : n = 0
  · subst hn
    by_cases ht : t.toList = []
    · have ht' : (t.toList == []) = true := by simp [ht]
      by_cases hs : s.toList = []
      · have hs' : (s.toList == []) = true := by simp [hs]
        by_cases hk0 : (len : Int) = 2
        · have hk' : ((len : Int) == 2) = true := by simp [hk0]
          have HK : Hid ((len : Int) = 2) := hk0
          clear hk0
          have hq : Hid (q = A) := by show _ = _; rw [HO.out]; simp [eB, labelB, fitB, sortB, ht, hs, HK.out]
          go_enter Tryz.func72, Tryz.ntmps72
          go_wp2_with (go_at_call 53; go_in)
          refine (KE.out _ ((Below.refl _ _).alloc (Nat.le_refl _) _)).mono ?_
          rintro e wz ⟨rfl, hb⟩
          have BZ : Hid (Below w.heap.size w wz) := ((Below.refl _ _).alloc (Nat.le_refl _) _).trans (hb.mono (by simp))
          clear hb
          go_wp2
          go_ret
          exact ⟨ret_bool hq.out.symm, BZ.out⟩
        · have hk' : ((len : Int) == 2) = false := by simpa using hk0
          have hk1 : ¬ len = 2 := by omega
          have hq : Hid (q = false) := by show _ = _; rw [HO.out]; simp [eB, labelB, fitB, sortB, ht, hs, hk0, hk1]
          go_enter Tryz.func72, Tryz.ntmps72
          go_wp2
          go_ret
          exact ⟨ret_bool hq.out.symm, (Below.refl _ _).alloc (Nat.le_refl _) _⟩
      · have hs' : (s.toList == []) = false := by simpa using hs
        have hq : Hid (q = false) := by show _ = _; rw [HO.out]; simp [eB, labelB, fitB, sortB, ht, hs]
        go_enter Tryz.func72, Tryz.ntmps72
        go_wp2
        go_ret
        exact ⟨ret_bool hq.out.symm, (Below.refl _ _).alloc (Nat.le_refl _) _⟩
    · have ht' : (t.toList == []) = false := by simpa using ht
      have hq : Hid (q = false) := by show _ = _; rw [HO.out]; simp [eB, labelB, fitB, sortB, ht]
      go_enter Tryz.func72, Tryz.ntmps72
      go_wp2
      go_ret
      exact ⟨ret_bool hq.out.symm, (Below.refl _ _).alloc (Nat.le_refl _) _⟩
  · clear KE KC
    have hq : Hid (q = false) := by show _ = _; rw [HO.out]; simp [eB, labelB, fitB, sortB, hn]
    go_enter Tryz.func72, Tryz.ntmps72
    go_wp2
    go_ret
    exact ⟨ret_bool hq.out.symm, (Below.refl _ _).alloc (Nat.le_refl _) _⟩

set_option maxHeartbeats 1000000 in
theorem e14 (n : Int) (s t : ByteArray) (a : Option Addr) (len cap : Nat) (q A C : Bool) (w : World) (FS : Hid (s.size ≤ maxLen)) (FT : Hid (t.size ≤ maxLen)) (HA0 : Hid (len = 0 → A = true)) (hkl : len ≤ 1048576)
    (KE : Hid (∀ wk : World, Below w.heap.size w wk → Calls Tryz.prog 90 #[.agg #[.int .i64 14, .int .i64 n, .string s, .string t, .slice a len cap], .int .i64 0] wk fun e w' => e = .returned (.bool A) ∧ Below wk.heap.size wk w'))
    (KC : Hid (∀ wk : World, Below w.heap.size w wk → Calls Tryz.prog 91 #[.agg #[.int .i64 14, .int .i64 n, .string s, .string t, .slice a len cap]] wk fun e w' => e = .returned (.bool C) ∧ Below wk.heap.size wk w'))
    (HO : Hid (q = (eB 14 n s t len && A))) :
    Calls Tryz.prog 72 #[.agg #[.int .i64 14, .int .i64 n, .string s, .string t, .slice a len cap]] w fun e w' => e = .returned (.bool q) ∧ Below w.heap.size w w' := by
  by_cases hn : n = 0
  · subst hn
    by_cases ht : t.toList = []
    · have ht' : (t.toList == []) = true := by simp [ht]
      by_cases hs : s.toList = []
      · have hs' : (s.toList == []) = true := by simp [hs]
        by_cases hk0 : (len : Int) = 2
        · have hk' : ((len : Int) == 2) = true := by simp [hk0]
          have HK : Hid ((len : Int) = 2) := hk0
          clear hk0
          have hq : Hid (q = A) := by show _ = _; rw [HO.out]; simp [eB, labelB, fitB, sortB, ht, hs, HK.out]
          go_enter Tryz.func72, Tryz.ntmps72
          go_wp2_with (go_at_call 53; go_in)
          refine (KE.out _ ((Below.refl _ _).alloc (Nat.le_refl _) _)).mono ?_
          rintro e wz ⟨rfl, hb⟩
          have BZ : Hid (Below w.heap.size w wz) := ((Below.refl _ _).alloc (Nat.le_refl _) _).trans (hb.mono (by simp))
          clear hb
          go_wp2
          go_ret
          exact ⟨ret_bool hq.out.symm, BZ.out⟩
        · have hk' : ((len : Int) == 2) = false := by simpa using hk0
          have hk1 : ¬ len = 2 := by omega
          have hq : Hid (q = false) := by show _ = _; rw [HO.out]; simp [eB, labelB, fitB, sortB, ht, hs, hk0, hk1]
          go_enter Tryz.func72, Tryz.ntmps72
          go_wp2
          go_ret
          exact ⟨ret_bool hq.out.symm, (Below.refl _ _).alloc (Nat.le_refl _) _⟩
      · have hs' : (s.toList == []) = false := by simpa using hs
        have hq : Hid (q = false) := by show _ = _; rw [HO.out]; simp [eB, labelB, fitB, sortB, ht, hs]
        go_enter Tryz.func72, Tryz.ntmps72
        go_wp2
        go_ret
        exact ⟨ret_bool hq.out.symm, (Below.refl _ _).alloc (Nat.le_refl _) _⟩
    · have ht' : (t.toList == []) = false := by simpa using ht
      have hq : Hid (q = false) := by show _ = _; rw [HO.out]; simp [eB, labelB, fitB, sortB, ht]
      go_enter Tryz.func72, Tryz.ntmps72
      go_wp2
      go_ret
      exact ⟨ret_bool hq.out.symm, (Below.refl _ _).alloc (Nat.le_refl _) _⟩
  · clear KE KC
    have hq : Hid (q = false) := by show _ = _; rw [HO.out]; simp [eB, labelB, fitB, sortB, hn]
    go_enter Tryz.func72, Tryz.ntmps72
    go_wp2
    go_ret
    exact ⟨ret_bool hq.out.symm, (Below.refl _ _).alloc (Nat.le_refl _) _⟩

set_option maxHeartbeats 1000000 in
theorem e15 (n : Int) (s t : ByteArray) (a : Option Addr) (len cap : Nat) (q A C : Bool) (w : World) (FS : Hid (s.size ≤ maxLen)) (FT : Hid (t.size ≤ maxLen)) (HA0 : Hid (len = 0 → A = true)) (hkl : len ≤ 1048576)
    (KE : Hid (∀ wk : World, Below w.heap.size w wk → Calls Tryz.prog 90 #[.agg #[.int .i64 15, .int .i64 n, .string s, .string t, .slice a len cap], .int .i64 0] wk fun e w' => e = .returned (.bool A) ∧ Below wk.heap.size wk w'))
    (KC : Hid (∀ wk : World, Below w.heap.size w wk → Calls Tryz.prog 91 #[.agg #[.int .i64 15, .int .i64 n, .string s, .string t, .slice a len cap]] wk fun e w' => e = .returned (.bool C) ∧ Below wk.heap.size wk w'))
    (HO : Hid (q = (eB 15 n s t len && A))) :
    Calls Tryz.prog 72 #[.agg #[.int .i64 15, .int .i64 n, .string s, .string t, .slice a len cap]] w fun e w' => e = .returned (.bool q) ∧ Below w.heap.size w w' := by
  by_cases hn : n = 0
  · subst hn
    by_cases ht : t.toList = []
    · have ht' : (t.toList == []) = true := by simp [ht]
      go_enter Tryz.func72, Tryz.ntmps72
      go_wp2_with fail
      refine (specCon s _ FS.out).mono ?_
      rintro e w1 ⟨rfl, hb⟩
      have B1 : Hid (Below w.heap.size w w1) := ((Below.refl _ _).alloc (Nat.le_refl _) _).trans (hb.mono (by simp))
      have z1 : w.heap.size < w1.heap.size := Nat.lt_of_lt_of_le (by simp) hb.size
      have b1_0 : w1.cell? ⟨w.heap.size, 0, none⟩ = some (.int .i64 15) := (hb.cell (p := ⟨w.heap.size, 0, none⟩) (by simp)).trans (by simp)
      have b1_1 : w1.cell? ⟨w.heap.size, 1, none⟩ = some (.int .i64 0) := (hb.cell (p := ⟨w.heap.size, 1, none⟩) (by simp)).trans (by simp)
      have b1_2 : w1.cell? ⟨w.heap.size, 2, none⟩ = some (.string s) := (hb.cell (p := ⟨w.heap.size, 2, none⟩) (by simp)).trans (by simp)
      have b1_3 : w1.cell? ⟨w.heap.size, 3, none⟩ = some (.string t) := (hb.cell (p := ⟨w.heap.size, 3, none⟩) (by simp)).trans (by simp)
      have b1_4 : w1.cell? ⟨w.heap.size, 4, none⟩ = some (.slice a len cap) := (hb.cell (p := ⟨w.heap.size, 4, none⟩) (by simp)).trans (by simp)
      clear hb
      by_cases hnms : conB s = true
      · rw [hnms]
        have hq : Hid (q = A) := by show _ = _; rw [HO.out]; simp [eB, labelB, fitB, sortB, ht, hnms]
        go_wp2_with fail
        refine (KE.out _ (B1.out)).mono ?_
        rintro e wz ⟨rfl, hb⟩
        have BZ : Hid (Below w.heap.size w wz) := B1.out.trans (hb.mono B1.out.size)
        clear hb
        go_wp2
        go_ret
        exact ⟨ret_bool hq.out.symm, BZ.out⟩
      · have hnms' : conB s = false := by simpa using hnms
        rw [hnms']
        have hq : Hid (q = false) := by show _ = _; rw [HO.out]; simp [eB, labelB, fitB, sortB, ht, hnms']
        go_wp2
        go_ret
        exact ⟨ret_bool hq.out.symm, B1.out⟩
    · have ht' : (t.toList == []) = false := by simpa using ht
      have hq : Hid (q = false) := by show _ = _; rw [HO.out]; simp [eB, labelB, fitB, sortB, ht]
      go_enter Tryz.func72, Tryz.ntmps72
      go_wp2
      go_ret
      exact ⟨ret_bool hq.out.symm, (Below.refl _ _).alloc (Nat.le_refl _) _⟩
  · clear KE KC
    have hq : Hid (q = false) := by show _ = _; rw [HO.out]; simp [eB, labelB, fitB, sortB, hn]
    go_enter Tryz.func72, Tryz.ntmps72
    go_wp2
    go_ret
    exact ⟨ret_bool hq.out.symm, (Below.refl _ _).alloc (Nat.le_refl _) _⟩

set_option maxHeartbeats 1000000 in
theorem e16 (n : Int) (s t : ByteArray) (a : Option Addr) (len cap : Nat) (q A C : Bool) (w : World) (FS : Hid (s.size ≤ maxLen)) (FT : Hid (t.size ≤ maxLen)) (HA0 : Hid (len = 0 → A = true)) (hkl : len ≤ 1048576)
    (KE : Hid (∀ wk : World, Below w.heap.size w wk → Calls Tryz.prog 90 #[.agg #[.int .i64 16, .int .i64 n, .string s, .string t, .slice a len cap], .int .i64 0] wk fun e w' => e = .returned (.bool A) ∧ Below wk.heap.size wk w'))
    (KC : Hid (∀ wk : World, Below w.heap.size w wk → Calls Tryz.prog 91 #[.agg #[.int .i64 16, .int .i64 n, .string s, .string t, .slice a len cap]] wk fun e w' => e = .returned (.bool C) ∧ Below wk.heap.size wk w'))
    (HO : Hid (q = (eB 16 n s t len && A))) :
    Calls Tryz.prog 72 #[.agg #[.int .i64 16, .int .i64 n, .string s, .string t, .slice a len cap]] w fun e w' => e = .returned (.bool q) ∧ Below w.heap.size w w' := by
  by_cases hn : n = 0
  · subst hn
    by_cases ht : t.toList = []
    · have ht' : (t.toList == []) = true := by simp [ht]
      by_cases hs : s.toList = []
      · have hs' : (s.toList == []) = true := by simp [hs]
        by_cases hk0 : (len : Int) = 1
        · have hk' : ((len : Int) == 1) = true := by simp [hk0]
          have HK : Hid ((len : Int) = 1) := hk0
          clear hk0
          have hq : Hid (q = A) := by show _ = _; rw [HO.out]; simp [eB, labelB, fitB, sortB, ht, hs, HK.out]
          go_enter Tryz.func72, Tryz.ntmps72
          go_wp2_with fail
          refine (KE.out _ ((Below.refl _ _).alloc (Nat.le_refl _) _)).mono ?_
          rintro e wz ⟨rfl, hb⟩
          have BZ : Hid (Below w.heap.size w wz) := ((Below.refl _ _).alloc (Nat.le_refl _) _).trans (hb.mono (by simp))
          clear hb
          go_wp2
          go_ret
          exact ⟨ret_bool hq.out.symm, BZ.out⟩
        · have hk' : ((len : Int) == 1) = false := by simpa using hk0
          have hk1 : ¬ len = 1 := by omega
          have hq : Hid (q = false) := by show _ = _; rw [HO.out]; simp [eB, labelB, fitB, sortB, ht, hs, hk0, hk1]
          go_enter Tryz.func72, Tryz.ntmps72
          go_wp2
          go_ret
          exact ⟨ret_bool hq.out.symm, (Below.refl _ _).alloc (Nat.le_refl _) _⟩
      · have hs' : (s.toList == []) = false := by simpa using hs
        have hq : Hid (q = false) := by show _ = _; rw [HO.out]; simp [eB, labelB, fitB, sortB, ht, hs]
        go_enter Tryz.func72, Tryz.ntmps72
        go_wp2
        go_ret
        exact ⟨ret_bool hq.out.symm, (Below.refl _ _).alloc (Nat.le_refl _) _⟩
    · have ht' : (t.toList == []) = false := by simpa using ht
      have hq : Hid (q = false) := by show _ = _; rw [HO.out]; simp [eB, labelB, fitB, sortB, ht]
      go_enter Tryz.func72, Tryz.ntmps72
      go_wp2
      go_ret
      exact ⟨ret_bool hq.out.symm, (Below.refl _ _).alloc (Nat.le_refl _) _⟩
  · clear KE KC
    have hq : Hid (q = false) := by show _ = _; rw [HO.out]; simp [eB, labelB, fitB, sortB, hn]
    go_enter Tryz.func72, Tryz.ntmps72
    go_wp2
    go_ret
    exact ⟨ret_bool hq.out.symm, (Below.refl _ _).alloc (Nat.le_refl _) _⟩

set_option maxHeartbeats 1000000 in
theorem eNo (op n : Int) (s t : ByteArray) (a : Option Addr) (len cap : Nat) (w : World) (h : op = 8 ∨ op < 1 ∨ 16 < op) (hkl : len ≤ 1048576) :
    Calls Tryz.prog 72 #[.agg #[.int .i64 op, .int .i64 n, .string s, .string t, .slice a len cap]] w fun e w' => e = .returned (.bool false) ∧ Below w.heap.size w w' := by
  have n1 : ¬ op = 1 := by omega
  have n2 : ¬ op = 2 := by omega
  have n3 : ¬ op = 3 := by omega
  have n4 : ¬ op = 4 := by omega
  have n5 : ¬ op = 5 := by omega
  have n6 : ¬ op = 6 := by omega
  have n7 : ¬ op = 7 := by omega
  have n9 : ¬ op = 9 := by omega
  have n10 : ¬ op = 10 := by omega
  have n11 : ¬ op = 11 := by omega
  have n12 : ¬ op = 12 := by omega
  have n13 : ¬ op = 13 := by omega
  have n14 : ¬ op = 14 := by omega
  have n15 : ¬ op = 15 := by omega
  have n16 : ¬ op = 16 := by omega
  rcases h with rfl | h | h
  · go_enter Tryz.func72, Tryz.ntmps72
    go_wp2
    all_goals
      go_ret
      exact ⟨rfl, (Below.refl _ _).alloc (Nat.le_refl _) _⟩
  · have h10 : ¬ 10 ≤ op := by omega
    go_enter Tryz.func72, Tryz.ntmps72
    go_wp2
    all_goals
      go_ret
      exact ⟨rfl, (Below.refl _ _).alloc (Nat.le_refl _) _⟩
  · have h10 : 10 ≤ op := by omega
    have h14 : ¬ op ≤ 14 := by omega
    go_enter Tryz.func72, Tryz.ntmps72
    go_wp2
    all_goals
      go_ret
      exact ⟨rfl, (Below.refl _ _).alloc (Nat.le_refl _) _⟩

theorem kids_dp {T : Nd} {k : Nd} (h : k ∈ T.kids) : dp k < dp T := by
  obtain ⟨x, ks⟩ := T
  have : ∀ ks : List Nd, k ∈ ks → dp k ≤ dps ks := by
    intro ks
    induction ks with
    | nil => intro h; cases h
    | cons a ks ih =>
      intro h
      simp only [dps]
      rcases List.mem_cons.1 h with rfl | h
      · omega
      · have := ih h; omega
  have := this ks h
  rw [dp]; omega

theorem e_any (m : Nat) (T : Nd) (hm : dp T ≤ m) : ESays T := by
  induction m generalizing T with
  | zero =>
    obtain ⟨x, ks⟩ := T
    simp [dp] at hm
  | succ m ih =>
    intro cs w hw h
    have i1 : ∀ k ∈ T.kids, ESays k := fun k hk => ih k (by have := kids_dp hk; omega)
    have i2 : ∀ k ∈ T.kids, ∀ k' ∈ k.kids, ESays k' := fun k hk k' hk' => ih k' (by have := kids_dp hk; have := kids_dp hk'; omega)
    obtain ⟨op, n, s, t, a, cap, ks, rfl, rfl, f2, f3, hk⟩ := nd_open h
    have hws : wts ks ≤ 1048576 ∧ ks.length ≤ 1048576 := by simp [wt] at hw; omega
    have at_ : ∀ wk : World, Below w.heap.size w wk → ndSh.slice.rep wk (· < wk.heap.size) [.slice a ks.length cap] ks := fun wk hb => ndSh.slice.mono (ndSh.slice.below hk hb) fun b hlt => Nat.lt_of_lt_of_le hlt hb.size
    have KE : ∀ wk : World, Below w.heap.size w wk → Calls Tryz.prog 90 #[.agg #[.int .i64 op, .int .i64 n, .string s, .string t, .slice a ks.length cap], .int .i64 0] wk fun e w' => e = .returned (.bool (ks.all (okN 1))) ∧ Below wk.heap.size wk w' := fun wk hb => es_of op n s t a cap ks i1 hws.1 hws.2 wk (at_ wk hb)
    have KC : ∀ wk : World, Below w.heap.size w wk → Calls Tryz.prog 91 #[.agg #[.int .i64 op, .int .i64 n, .string s, .string t, .slice a ks.length cap]] wk fun e w' => e = .returned (.bool (caseB ks)) ∧ Below wk.heap.size wk w' := fun wk hb => case_of op n s t a cap ks i1 i2 hws.1 hws.2 wk (at_ wk hb)
    have HA0 : ks.length = 0 → ks.all (okN 1) = true := fun h0 => by rw [List.eq_nil_of_length_eq_zero h0]; rfl
    have hu := e_unfold op n s t ks
    by_cases hx : op = 8 ∨ op < 1 ∨ 16 < op
    · have h7 : ¬ op = 7 := by omega
      have hs1 : ¬ sortB op = 1 := by unfold sortB; repeat' split
                                      all_goals omega
      rw [hu h7, show eB op n s t ks.length = false by unfold eB; rw [decide_eq_false hs1]; rfl, Bool.false_and]
      exact eNo op n s t a ks.length cap w hx hws.2
    · have hc : op = 1 ∨ op = 2 ∨ op = 3 ∨ op = 4 ∨ op = 5 ∨ op = 6 ∨ op = 7 ∨ op = 9 ∨ op = 10 ∨ op = 11 ∨ op = 12 ∨ op = 13 ∨ op = 14 ∨ op = 15 ∨ op = 16 := by omega
      rcases hc with rfl | rfl | rfl | rfl | rfl | rfl | rfl | rfl | rfl | rfl | rfl | rfl | rfl | rfl | rfl
      · exact e1 n s t a ks.length cap _ _ _ w f2 f3 HA0 hws.2 KE KC (hu (by decide))
      · exact e2 n s t a ks.length cap _ _ _ w f2 f3 HA0 hws.2 KE KC (hu (by decide))
      · exact e3 n s t a ks.length cap _ _ _ w f2 f3 HA0 hws.2 KE KC (hu (by decide))
      · exact e4 n s t a ks.length cap _ _ _ w f2 f3 HA0 hws.2 KE KC (hu (by decide))
      · exact e5 n s t a ks.length cap _ _ _ w f2 f3 HA0 hws.2 KE KC (hu (by decide))
      · exact e6 n s t a ks.length cap _ _ _ w f2 f3 HA0 hws.2 KE KC (hu (by decide))
      · exact e7 n s t a ks.length cap _ _ _ w f2 f3 HA0 hws.2 KE KC (case_unfold n s t ks)
      · exact e9 n s t a ks.length cap _ _ _ w f2 f3 HA0 hws.2 KE KC (hu (by decide))
      · exact e10 n s t a ks.length cap _ _ _ w f2 f3 HA0 hws.2 KE KC (hu (by decide))
      · exact e11 n s t a ks.length cap _ _ _ w f2 f3 HA0 hws.2 KE KC (hu (by decide))
      · exact e12 n s t a ks.length cap _ _ _ w f2 f3 HA0 hws.2 KE KC (hu (by decide))
      · exact e13 n s t a ks.length cap _ _ _ w f2 f3 HA0 hws.2 KE KC (hu (by decide))
      · exact e14 n s t a ks.length cap _ _ _ w f2 f3 HA0 hws.2 KE KC (hu (by decide))
      · exact e15 n s t a ks.length cap _ _ _ w f2 f3 HA0 hws.2 KE KC (hu (by decide))
      · exact e16 n s t a ks.length cap _ _ _ w f2 f3 HA0 hws.2 KE KC (hu (by decide))

end Go.Proofs.YtlnpfnglphdaiaaGreatDoor.node
