/-
  The model's l7In, at every argument: whether a number is in a list; nothing that was there is turned.
-/
import Derived.Test.YtklcjjckelahcaaInts
namespace Go.Proofs.Ytklcjjckelahcaa.ints
open Go.RowKit Go.Proofs.Ytklcjjckelahcaa.rose Go.Proofs.Ytklcjjckelahcaa
set_option linter.unusedVariables false

theorem ret_boolI {a b : Bool} (h : a = b) : Ending.returned (.bool a) = Ending.returned (.bool b) := by rw [h]

set_option maxHeartbeats 1000000 in
theorem in_any (ks : List Int) (v : Value) (n : Int) (w : World) (h : intsSh.rep w (· < w.heap.size) [v] ks) :
    Calls Try.prog 44 #[v, .int .i64 n] w fun e w' => e = .returned (.bool (decide (n ∈ ks))) ∧ Below w.heap.size w w' := by
  obtain ⟨a, cap, rfl, hcap, hmax, hat⟩ := ints_open h
  have hmx : (ks.length : Int) ≤ 9223372036854775807 := by unfold maxLen at hmax; omega
  have HA : Hid _ := hat
  clear h hcap hmax hat
  obtain ⟨q, hq⟩ : ∃ q, q = decide (n ∈ ks) := ⟨_, rfl⟩
  have HQ : Hid (q = decide (n ∈ ks)) := hq
  rw [← hq]
  clear hq
  go_enter Try.func44, Try.ntmps44
  go_wp2
  go_loopw [5] (fun v5 wr => ∃ i : Nat, i ≤ ks.length ∧ v5 = .int .i64 i ∧ Hid (n ∉ ks.take i) ∧ Hid (Below w.heap.size w wr)) (fun v5 _ => ks.length - (intOf v5).toNat)
  case atStart => exact ⟨0, Nat.zero_le _, rfl, by show ¬ _; simp, Below.refl _ _⟩
  case round =>
    obtain ⟨i, hi, rfl, HN, HB⟩ := hrel
    by_cases hlt : i < ks.length
    · obtain ⟨b, o, rfl, hS, hc, -⟩ := HA.out i hlt
      have e0 := (HB.out.cell (p := ⟨b, o + i, none⟩) hS).trans hc
      have hm : ks[i] ∈ ks := List.getElem_mem hlt
      have hT : ks.take (i + 1) = ks.take i ++ [ks[i]] := List.take_succ_eq_append_getElem hlt
      have HM : Hid (ks[i] ∈ ks ∧ ks.take (i + 1) = ks.take i ++ [ks[i]]) := ⟨hm, hT⟩
      clear hc hm hT
      generalize ks[i] = x0 at e0 HM
      by_cases hx : x0 = n
      · have hx' : (x0 == n) = true := by simp [hx]
        have hq1 : Hid (q = true) := by show _ = _; rw [HQ.out]; simp; rw [← hx]; exact HM.out.1
        go_wp2
        go_ret
        exact ⟨ret_boolI hq1.out.symm, HB.out⟩
      · have hx' : (x0 == n) = false := by simpa using hx
        have HN2 : Hid (n ∉ ks.take (i + 1)) := by
          show ¬ _
          rw [HM.out.2]
          simp only [List.mem_append, List.mem_singleton, not_or]
          exact ⟨HN.out, fun e => hx e.symm⟩
        go_wp2
        go_round
        case rel => exact ⟨i + 1, by omega, by go_num, HN2, HB⟩
        case measure => simp [intOf]; omega
    · obtain rfl : i = ks.length := by omega
      have hq1 : Hid (q = false) := by
        show _ = _
        have := HN.out
        rw [List.take_length] at this
        rw [HQ.out]; simpa using this
      go_wp2
      go_ret
      exact ⟨ret_boolI hq1.out.symm, HB.out⟩

end Go.Proofs.Ytklcjjckelahcaa.ints
