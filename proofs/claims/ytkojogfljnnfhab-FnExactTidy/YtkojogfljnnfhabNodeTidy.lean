/-
  What a tidy node is (sorts, labels, how many kids, the kids' sorts), and the program's tests of these (sortOf, kidsFit, kidSort, labelled): what each returns; nothing that was there is turned.
-/
import Derived.Test.YtkojogfljnnfhabNodeSz
import Derived.Test.YtkojogfljnnfhabNodeDeep
import Derived.Test.YtkojogfljnnfhabImplWords4
namespace Go.Proofs.Ytkojogfljnnfhab.node
open Go.RowKit Go.Proofs.Ytkojogfljnnfhab.rose Go.Proofs.Ytkojogfljnnfhab words4
set_option linter.unusedVariables false
set_option linter.unusedSimpArgs false

def sortB (op : Int) : Int := if op = 8 then 2 else if 1 ≤ op ∧ op ≤ 16 then 1 else if 17 ≤ op ∧ op ≤ 20 then 3 else 0
def labelB (op n : Int) (s t : ByteArray) : Bool :=
  if op = 1 ∨ op = 19 then decide (0 ≤ n ∧ n ≤ 1073741823) && (s.toList == [] && t.toList == [])
  else if op = 2 ∨ op = 3 ∨ op = 5 ∨ op = 18 then n == 0 && (nameB s && t.toList == [])
  else if op = 6 then n == 0 && (nameB s && nameB t)
  else if op = 15 ∨ op = 20 then n == 0 && (conB s && t.toList == [])
  else n == 0 && (s.toList == [] && t.toList == [])
def fitB (op : Int) (k : Nat) : Bool :=
  if op = 1 ∨ op = 2 ∨ op = 17 ∨ op = 18 ∨ op = 19 then (k : Int) == 0
  else if op = 3 ∨ op = 16 then (k : Int) == 1
  else if op = 9 then (k : Int) == 3
  else if op = 7 then decide (2 ≤ (k : Int))
  else if op = 15 ∨ op = 20 then true
  else (k : Int) == 2
def kidSortB (op : Int) (i : Nat) : Int := if op = 7 ∧ 0 < i then 2 else if op = 8 then (if i = 0 then 3 else 1) else sortB op

mutual
/-- Whether a node is tidy, where that sort is asked. -/
def okN (sort : Int) : Nd → Bool
  | .mk (op, n, s, t) ks => decide (sortB op = sort) && (labelB op n s t && (fitB op ks.length && okNs op 0 ks))
def okNs (op : Int) (i : Nat) : List Nd → Bool
  | [] => true
  | k :: ks => okN (kidSortB op i) k && okNs op (i + 1) ks
end

theorem op_cases (op : Int) : op = 1 ∨ op = 2 ∨ op = 3 ∨ op = 4 ∨ op = 5 ∨ op = 6 ∨ op = 7 ∨ op = 8 ∨ op = 9 ∨ op = 10 ∨ op = 11 ∨ op = 12 ∨ op = 13 ∨ op = 14 ∨ op = 15 ∨ op = 16 ∨ op = 17 ∨ op = 18 ∨ op = 19 ∨ op = 20 ∨ (op < 1 ∨ 20 < op) := by omega

theorem ret_int {k : IntKind} {a b : Int} (h : a = b) : Ending.returned (.int k a) = .returned (.int k b) := by rw [h]

theorem implSort (op : Int) (w : World) : Calls Try.prog 38 #[.int .i64 op] w fun e w' => e = .returned (.int .i64 (sortB op)) ∧ w' = w := by
  obtain ⟨q, hq0⟩ : ∃ q, q = sortB op := ⟨_, rfl⟩
  have hq : Hid (q = sortB op) := hq0
  rw [← hq0]
  clear hq0
  by_cases h8 : op = 8
  · subst h8
    go_enter Try.func38, Try.ntmps38
    go_wp2
    go_ret
    exact ⟨ret_int (by rw [hq.out]; rfl), rfl⟩
  · by_cases h1 : 1 ≤ op
    · by_cases h16 : op ≤ 16
      · have hr : Hid (q = 1) := by show _ = _; rw [hq.out]; unfold sortB; rw [if_neg h8, if_pos ⟨h1, h16⟩]
        go_enter Try.func38, Try.ntmps38
        go_wp2
        go_ret
        exact ⟨ret_int hr.out.symm, rfl⟩
      · have h17 : 17 ≤ op := by omega
        by_cases h20 : op ≤ 20
        · have hr : Hid (q = 3) := by show _ = _; rw [hq.out]; unfold sortB; rw [if_neg h8, if_neg (by omega), if_pos ⟨h17, h20⟩]
          go_enter Try.func38, Try.ntmps38
          go_wp2
          go_ret
          exact ⟨ret_int hr.out.symm, rfl⟩
        · have hr : Hid (q = 0) := by show _ = _; rw [hq.out]; unfold sortB; rw [if_neg h8, if_neg (by omega), if_neg (by omega)]
          go_enter Try.func38, Try.ntmps38
          go_wp2
          go_ret
          exact ⟨ret_int hr.out.symm, rfl⟩
    · have hr : Hid (q = 0) := by show _ = _; rw [hq.out]; unfold sortB; rw [if_neg h8, if_neg (by omega), if_neg (by omega)]
      have h17 : ¬ 17 ≤ op := by omega
      go_enter Try.func38, Try.ntmps38
      go_wp2
      go_ret
      exact ⟨ret_int hr.out.symm, rfl⟩

set_option maxHeartbeats 4000000 in
theorem implFit (op : Int) (k : Nat) (w : World) : Calls Try.prog 40 #[.int .i64 op, .int .i64 k] w fun e w' => e = .returned (.bool (fitB op k)) ∧ w' = w := by
  obtain ⟨q, hq0⟩ : ∃ q, q = fitB op k := ⟨_, rfl⟩
  have hq : Hid (q = fitB op k) := hq0
  rw [← hq0]
  clear hq0
  rcases op_cases op with rfl | rfl | rfl | rfl | rfl | rfl | rfl | rfl | rfl | rfl | rfl | rfl | rfl | rfl | rfl | rfl | rfl | rfl | rfl | rfl | h
  all_goals first
    | (go_enter Try.func40, Try.ntmps40
       go_wp2
       go_ret
       exact ⟨ret_bool (by rw [hq.out]; rfl), rfl⟩)
    | skip
  have n1 : ¬ op = 1 := by omega
  have n2 : ¬ op = 2 := by omega
  have n3 : ¬ op = 3 := by omega
  have n4 : ¬ op = 4 := by omega
  have n5 : ¬ op = 5 := by omega
  have n6 : ¬ op = 6 := by omega
  have n7 : ¬ op = 7 := by omega
  have n8 : ¬ op = 8 := by omega
  have n9 : ¬ op = 9 := by omega
  have n10 : ¬ op = 10 := by omega
  have n11 : ¬ op = 11 := by omega
  have n12 : ¬ op = 12 := by omega
  have n13 : ¬ op = 13 := by omega
  have n14 : ¬ op = 14 := by omega
  have n15 : ¬ op = 15 := by omega
  have n16 : ¬ op = 16 := by omega
  have n17 : ¬ op = 17 := by omega
  have n18 : ¬ op = 18 := by omega
  have n19 : ¬ op = 19 := by omega
  have n20 : ¬ op = 20 := by omega
  go_enter Try.func40, Try.ntmps40
  go_wp2
  go_ret
  exact ⟨ret_bool (by rw [hq.out]; simp [fitB, n1, n2, n3, n4, n5, n6, n7, n8, n9, n10, n11, n12, n13, n14, n15, n16, n17, n18, n19, n20]), rfl⟩

set_option maxHeartbeats 1000000 in
theorem implKidSort (op : Int) (i : Nat) (w : World) : Calls Try.prog 41 #[.int .i64 op, .int .i64 i] w fun e w' => e = .returned (.int .i64 (kidSortB op i)) ∧ w' = w := by
  obtain ⟨q, hq0⟩ : ∃ q, q = kidSortB op i := ⟨_, rfl⟩
  have hq : Hid (q = kidSortB op i) := hq0
  rw [← hq0]
  clear hq0
  by_cases h7 : op = 7
  · subst h7
    by_cases hi : (0 : Int) < i
    · have hr : Hid (q = 2) := by show _ = _; rw [hq.out]; unfold kidSortB; rw [if_pos ⟨rfl, by omega⟩]
      go_enter Try.func41, Try.ntmps41
      go_wp2
      go_ret
      exact ⟨ret_int hr.out.symm, rfl⟩
    · have hr : Hid (q = sortB 7) := by show _ = _; rw [hq.out]; unfold kidSortB; rw [if_neg (by omega), if_neg (by omega)]
      go_enter Try.func41, Try.ntmps41
      go_wp2_with (go_at_call 38; refine (implSort 7 _).mono ?_; rintro e w1 ⟨rfl, rfl⟩)
      go_ret
      exact ⟨ret_int hr.out.symm, rfl⟩
  · by_cases h8 : op = 8
    · subst h8
      by_cases hi : (i : Int) = 0
      · have hr : Hid (q = 3) := by show _ = _; rw [hq.out]; unfold kidSortB; rw [if_neg (by omega), if_pos rfl, if_pos (by omega)]
        have hi0 : i = 0 := by omega
        subst hi0
        go_enter Try.func41, Try.ntmps41
        go_wp2
        go_ret
        exact ⟨ret_int hr.out.symm, rfl⟩
      · have hr : Hid (q = 1) := by show _ = _; rw [hq.out]; unfold kidSortB; rw [if_neg (by omega), if_pos rfl, if_neg (by omega)]
        go_enter Try.func41, Try.ntmps41
        go_wp2
        go_ret
        exact ⟨ret_int hr.out.symm, rfl⟩
    · have hr : Hid (q = sortB op) := by show _ = _; rw [hq.out]; unfold kidSortB; rw [if_neg (by omega), if_neg h8]
      go_enter Try.func41, Try.ntmps41
      go_wp2_with (go_at_call 38; refine (implSort op _).mono ?_; rintro e w1 ⟨rfl, rfl⟩)
      go_ret
      exact ⟨ret_int hr.out.symm, rfl⟩

set_option maxHeartbeats 8000000 in
theorem implLabel (op n : Int) (s t : ByteArray) (a : Option Addr) (len cap : Nat) (hs : s.size ≤ maxLen) (ht : t.size ≤ maxLen) (w : World) :
    Calls Try.prog 39 #[.agg #[.int .i64 op, .int .i64 n, .string s, .string t, .slice a len cap]] w fun e w' => e = .returned (.bool (labelB op n s t)) ∧ Below w.heap.size w w' := by
  have FS : Hid (s.size ≤ maxLen) := hs
  have FT : Hid (t.size ≤ maxLen) := ht
  clear hs ht
  obtain ⟨q, hq0⟩ : ∃ q, q = labelB op n s t := ⟨_, rfl⟩
  have hq : Hid (q = labelB op n s t) := hq0
  rw [← hq0]
  clear hq0
  have num : (op = 1 ∨ op = 19) → Calls Try.prog 39 #[.agg #[.int .i64 op, .int .i64 n, .string s, .string t, .slice a len cap]] w fun e w' => e = .returned (.bool q) ∧ Below w.heap.size w w' := by
    intro ho
    by_cases h0 : 0 ≤ n
    · have h00 : -1073741824 ≤ n := by omega
      by_cases h1 : n ≤ 1073741823
      · have hr : Hid (q = (s.toList == [] && t.toList == [])) := by show _ = _; rw [hq.out]; unfold labelB; rw [if_pos ho, decide_eq_true (show 0 ≤ n ∧ n ≤ 1073741823 by omega)]; rfl
        clear hq
        rcases ho with rfl | rfl
        all_goals
          go_enter Try.func39, Try.ntmps39
          go_wp2
          all_goals
            go_ret
            refine ⟨ret_bool ?_, (Below.refl _ _).alloc (Nat.le_refl _) _⟩
            rw [hr.out]
            simp_all
      · have hr : Hid (q = false) := by show _ = _; rw [hq.out]; unfold labelB; rw [if_pos ho, decide_eq_false (show ¬ (0 ≤ n ∧ n ≤ 1073741823) by omega)]; rfl
        clear hq
        rcases ho with rfl | rfl
        all_goals
          go_enter Try.func39, Try.ntmps39
          go_wp2
          go_ret
          exact ⟨ret_bool hr.out.symm, (Below.refl _ _).alloc (Nat.le_refl _) _⟩
    · have hr : Hid (q = false) := by show _ = _; rw [hq.out]; unfold labelB; rw [if_pos ho, decide_eq_false (show ¬ (0 ≤ n ∧ n ≤ 1073741823) by omega)]; rfl
      clear hq
      rcases ho with rfl | rfl
      all_goals
        go_enter Try.func39, Try.ntmps39
        go_wp2
        go_ret
        exact ⟨ret_bool hr.out.symm, (Below.refl _ _).alloc (Nat.le_refl _) _⟩
  have name : (op = 2 ∨ op = 3 ∨ op = 5 ∨ op = 18) → Calls Try.prog 39 #[.agg #[.int .i64 op, .int .i64 n, .string s, .string t, .slice a len cap]] w fun e w' => e = .returned (.bool q) ∧ Below w.heap.size w w' := by
    intro ho
    have hr : Hid (q = (n == 0 && (nameB s && t.toList == []))) := by show _ = _; rw [hq.out]; unfold labelB; rw [if_neg (by omega), if_pos ho]
    clear hq num
    rcases ho with rfl | rfl | rfl | rfl
    all_goals
      by_cases hn0 : n = 0
      · subst hn0
        go_enter Try.func39, Try.ntmps39
        go_wp2_with fail
        refine (implName s FS.out _).mono ?_
        rintro e w1 ⟨rfl, hb⟩
        have B1 : Hid (Below w.heap.size w w1) := ((Below.refl _ _).alloc (Nat.le_refl _) _).trans (hb.mono (by simp))
        have c3 : w1.cell? ⟨w.heap.size, 3, none⟩ = some (.string t) := (hb.cell (p := ⟨w.heap.size, 3, none⟩) (by simp)).trans (by simp)
        clear hb
        by_cases hn : nameB s = true
        · rw [hn]
          go_wp2
          go_ret
          exact ⟨ret_bool (by rw [hr.out, hn]; simp), B1.out⟩
        · have hn' : nameB s = false := by simpa using hn
          rw [hn']
          go_wp2
          go_ret
          exact ⟨ret_bool (by rw [hr.out, hn']; simp), B1.out⟩
      · have hr2 : Hid (q = false) := by show _ = _; rw [hr.out]; simp [hn0]
        go_enter Try.func39, Try.ntmps39
        go_wp2
        go_ret
        exact ⟨ret_bool hr2.out.symm, (Below.refl _ _).alloc (Nat.le_refl _) _⟩
  have recs : op = 6 → Calls Try.prog 39 #[.agg #[.int .i64 op, .int .i64 n, .string s, .string t, .slice a len cap]] w fun e w' => e = .returned (.bool q) ∧ Below w.heap.size w w' := by
    intro ho
    have hr : Hid (q = (n == 0 && (nameB s && nameB t))) := by show _ = _; rw [hq.out]; unfold labelB; rw [if_neg (by omega), if_neg (by omega), if_pos ho]
    clear hq num name
    subst ho
    by_cases hn0 : n = 0
    · subst hn0
      go_enter Try.func39, Try.ntmps39
      go_wp2_with fail
      refine (implName s FS.out _).mono ?_
      rintro e w1 ⟨rfl, hb⟩
      have B1 : Hid (Below w.heap.size w w1) := ((Below.refl _ _).alloc (Nat.le_refl _) _).trans (hb.mono (by simp))
      have c3 : w1.cell? ⟨w.heap.size, 3, none⟩ = some (.string t) := (hb.cell (p := ⟨w.heap.size, 3, none⟩) (by simp)).trans (by simp)
      clear hb
      by_cases hn : nameB s = true
      · rw [hn]
        go_wp2_with fail
        refine (implName t FT.out _).mono ?_
        rintro e w2 ⟨rfl, hb⟩
        have B2 : Hid (Below w.heap.size w w2) := B1.out.trans (hb.mono B1.out.size)
        clear hb
        go_wp2
        go_ret
        exact ⟨ret_bool (by rw [hr.out, hn]; simp), B2.out⟩
      · have hn' : nameB s = false := by simpa using hn
        rw [hn']
        go_wp2
        go_ret
        exact ⟨ret_bool (by rw [hr.out, hn']; simp), B1.out⟩
    · have hr2 : Hid (q = false) := by show _ = _; rw [hr.out]; simp [hn0]
      go_enter Try.func39, Try.ntmps39
      go_wp2
      go_ret
      exact ⟨ret_bool hr2.out.symm, (Below.refl _ _).alloc (Nat.le_refl _) _⟩
  have con : (op = 15 ∨ op = 20) → Calls Try.prog 39 #[.agg #[.int .i64 op, .int .i64 n, .string s, .string t, .slice a len cap]] w fun e w' => e = .returned (.bool q) ∧ Below w.heap.size w w' := by
    intro ho
    have hr : Hid (q = (n == 0 && (conB s && t.toList == []))) := by show _ = _; rw [hq.out]; unfold labelB; rw [if_neg (by omega), if_neg (by omega), if_neg (by omega), if_pos ho]
    clear hq num name recs
    rcases ho with rfl | rfl
    all_goals
      by_cases hn0 : n = 0
      · subst hn0
        go_enter Try.func39, Try.ntmps39
        go_wp2_with fail
        refine (implCon s FS.out _).mono ?_
        rintro e w1 ⟨rfl, hb⟩
        have B1 : Hid (Below w.heap.size w w1) := ((Below.refl _ _).alloc (Nat.le_refl _) _).trans (hb.mono (by simp))
        have c3 : w1.cell? ⟨w.heap.size, 3, none⟩ = some (.string t) := (hb.cell (p := ⟨w.heap.size, 3, none⟩) (by simp)).trans (by simp)
        clear hb
        by_cases hn : conB s = true
        · rw [hn]
          go_wp2
          go_ret
          exact ⟨ret_bool (by rw [hr.out, hn]; simp), B1.out⟩
        · have hn' : conB s = false := by simpa using hn
          rw [hn']
          go_wp2
          go_ret
          exact ⟨ret_bool (by rw [hr.out, hn']; simp), B1.out⟩
      · have hr2 : Hid (q = false) := by show _ = _; rw [hr.out]; simp [hn0]
        go_enter Try.func39, Try.ntmps39
        go_wp2
        go_ret
        exact ⟨ret_bool hr2.out.symm, (Below.refl _ _).alloc (Nat.le_refl _) _⟩
  by_cases o1 : op = 1 ∨ op = 19
  · exact num o1
  by_cases o2 : op = 2 ∨ op = 3 ∨ op = 5 ∨ op = 18
  · exact name o2
  by_cases o3 : op = 6
  · exact recs o3
  by_cases o4 : op = 15 ∨ op = 20
  · exact con o4
  have hr : Hid (q = (n == 0 && (s.toList == [] && t.toList == []))) := by show _ = _; rw [hq.out]; unfold labelB; rw [if_neg o1, if_neg o2, if_neg o3, if_neg o4]
  clear hq num name recs con
  have n1 : ¬ op = 1 := by omega
  have n2 : ¬ op = 2 := by omega
  have n3 : ¬ op = 3 := by omega
  have n5 : ¬ op = 5 := by omega
  have n15 : ¬ op = 15 := by omega
  have n18 : ¬ op = 18 := by omega
  have n19 : ¬ op = 19 := by omega
  have n20 : ¬ op = 20 := by omega
  clear o1 o2 o4
  go_enter Try.func39, Try.ntmps39
  go_wp2
  all_goals
    go_ret
    refine ⟨ret_bool ?_, (Below.refl _ _).alloc (Nat.le_refl _) _⟩
    rw [hr.out]
    simp_all

end Go.Proofs.Ytkojogfljnnfhab.node
