/-
  The model's IsRef, WordInt, WordRef, l17Of and l7In, at every argument; nothing is turned.
-/
import Derived.Test.YtempmfpnngbbeabWordsSpec
import Derived.Test.YtempmfpnngbbeabHeapDefs
import Derived.Test.YtempmfpnngbbeabIntsSp
namespace Go.Proofs.Ytempmfpnngbbeab.heap
open Go Go.RowKit Go.Proofs.Ytempmfpnngbbeab.rose Go.Proofs.Ytempmfpnngbbeab Go.Proofs.Ytempmfpnngbbeab.fun Go.Proofs.Ytempmfpnngbbeab.words
set_option linter.unusedVariables false
set_option linter.unusedSimpArgs false

set_option maxHeartbeats 1000000 in
theorem isref_is {n : Int} {b : Bool} {w : World} (h : decide (n % 2 = 0) = b) : Calls Try.prog 37 #[.int .i64 n] w fun e w' => e = .returned (.bool b) ∧ w' = w := by
  have ha := and_one n
  go_enter Try.func37, Try.ntmps37
  go_wp2
  go_ret
  exact ⟨ret_b (by rw [← h, Bool.eq_iff_iff]; simp), rfl⟩
set_option maxHeartbeats 1000000 in
theorem wordint_is (n : Int) (w : World) : Calls Try.prog 40 #[.int .i64 n] w fun e w' => e = .returned (.int .i64 (n / 2)) ∧ w' = w := by
  go_enter Try.func40, Try.ntmps40
  go_wp2
  go_ret
  exact ⟨ret_i (by first | rfl | omega), rfl⟩
set_option maxHeartbeats 1000000 in
theorem wordref_is (n : Int) (w : World) : Calls Try.prog 38 #[.int .i64 n] w fun e w' => e = .returned (.int .i64 (n / 2)) ∧ w' = w := by
  go_enter Try.func38, Try.ntmps38
  go_wp2
  go_ret
  exact ⟨ret_i (by first | rfl | omega), rfl⟩
set_option maxHeartbeats 2000000 in
theorem of_is (n : Int) (w : World) (h1 : -9223372036854775808 ≤ n) (h2 : n ≤ 9223372036854775807) : Calls Try.prog 27 #[.int .i64 n] w fun e w' => e = .returned (.tuple #[.bool (funF n), .int .i64 (tagF n), .int .i64 (manyF n)]) ∧ w' = w := by
  have ha := and_one (n / 2)
  have hb := and_63 (n / 2 / 2)
  have hq : IntKind.i64.wrap (Int.tdiv (n / 2 / 2) 64) = Int.tdiv (n / 2 / 2) 64 := IntWalk.i64_quo' _ _ (by omega)
  go_enter Try.func27, Try.ntmps27
  go_wp2
  refine bodyPost_ret (v := .tuple #[.bool (funF n), .int .i64 (tagF n), .int .i64 (manyF n)]) (by simp [results, Try.f27, go_sem, funF, tagF, manyF]; try (rw [Bool.eq_iff_iff]; simp)) rfl ?_
  exact ⟨rfl, rfl⟩
set_option maxHeartbeats 1000000 in
theorem in7_is {l : List Int} {x : Int} {b : Bool} (v : Value) (w : World) (hb : decide (x ∈ l) = b) (h : ints.intsSh.rep w (· < w.heap.size) [v] l) : Calls Try.prog 30 #[v, .int .i64 x] w fun e w' => e = .returned (.bool b) ∧ w' = w := by
  obtain ⟨a, cap, rfl, hcap, hmax, hat⟩ := ints.ints_open h
  have hmx : (l.length : Int) ≤ 9223372036854775807 := by unfold maxLen at hmax; omega
  have HA : Hid _ := hat
  have HB : Hid (decide (x ∈ l) = b) := hb
  clear h hcap hmax hat hb
  go_enter Try.func30, Try.ntmps30
  go_wp2
  go_loopw [5] (fun v5 wr => ∃ i : Nat, i ≤ l.length ∧ v5 = .int .i64 i ∧ wr = w ∧ Hid (∀ j (hj : j < l.length), j < i → l[j] ≠ x)) (fun v5 _ => l.length - (intOf v5).toNat)
  case atStart => exact ⟨0, Nat.zero_le _, rfl, rfl, fun j _ hj => absurd hj (Nat.not_lt_zero _)⟩
  case round =>
    obtain ⟨i, hi, rfl, hwr, HJ⟩ := hrel
    subst wr
    by_cases hlt : i < l.length
    · obtain ⟨b', o, rfl, hS, hc, -⟩ := HA.out i hlt
      have e0 : w.cell? ⟨b', o + i, none⟩ = some (.int .i64 l[i]) := hc
      clear hc
      by_cases he : l[i] = x
      · have HE : Hid (b = true) := by show _ = _; rw [← HB.out]; simp only [decide_eq_true_eq]; rw [← he]; exact List.getElem_mem hlt
        rw [he] at e0
        go_wp2
        go_ret
        exact ⟨ret_b HE.out.symm, rfl⟩
      · have hne : (l[i] == x) = false := by simpa using he
        have HN : Hid (∀ j (hj : j < l.length), j < i + 1 → l[j] ≠ x) := fun j hj h1 => by
          by_cases q : j = i
          · subst q; exact he
          · exact HJ.out j hj (by omega)
        generalize l[i] = y at e0 hne
        clear he
        go_wp2
        go_round
        case rel => exact ⟨i + 1, by omega, by go_num, by first | rfl | trivial, HN⟩
        case measure => simp [intOf]; omega
    · obtain rfl : i = l.length := by omega
      have HE : Hid (b = false) := by
        show _ = _; rw [← HB.out]; simp only [decide_eq_false_iff_not]
        intro hm
        obtain ⟨j, hj, e⟩ := List.getElem_of_mem hm
        exact HJ.out j hj hj e
      go_wp2
      go_ret
      exact ⟨ret_b HE.out.symm, rfl⟩

end Go.Proofs.Ytempmfpnngbbeab.heap
