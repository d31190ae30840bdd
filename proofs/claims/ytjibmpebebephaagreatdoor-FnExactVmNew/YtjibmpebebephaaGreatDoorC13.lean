/-
  The model's l1In, l13Tag, WordOk and l13Op, at every place of every function; nothing that was there is turned.
-/
import Derived.Test.YtjibmpebebephaaGreatDoorChecked
import Derived.WalkKit
import Derived.WalkLawsBesides
import Derived.Deep.QuietTactic
import Derived.BigQuiet
import Derived.Test.YtjibmpebebephaaGreatDoorC1
import Derived.Test.YtjibmpebebephaaGreatDoorC2
import Derived.Test.YtjibmpebebephaaGreatDoorC3
import Derived.Test.YtjibmpebebephaaGreatDoorC4
import Derived.Test.YtjibmpebebephaaGreatDoorC5
import Derived.Test.YtjibmpebebephaaGreatDoorC6
import Derived.Test.YtjibmpebebephaaGreatDoorC7
import Derived.Test.YtjibmpebebephaaGreatDoorC8
import Derived.Test.YtjibmpebebephaaGreatDoorC9
import Derived.Test.YtjibmpebebephaaGreatDoorC10
import Derived.Test.YtjibmpebebephaaGreatDoorC11
import Derived.Test.YtjibmpebebephaaGreatDoorC12
namespace Go.Proofs.YtjibmpebebephaaGreatDoor.fun
open Go.RowKit Go.Proofs.YtjibmpebebephaaGreatDoor.rose Go.Proofs.YtjibmpebebephaaGreatDoor
set_option linter.unusedVariables false

theorem tag_is {n : Int} {b : Bool} {w : World} (h : inB n 0 59 = b) :
    Calls Tryz.prog 79 #[.int .i64 n] w fun e w' => e = .returned (.bool b) ∧ w' = w := by
  go_enter Tryz.func79, Tryz.ntmps79
  go_wp2_with (go_at_call 23; refine (in_is h).mono ?_; rintro e w' ⟨rfl, rfl⟩)
  go_ret
  exact ⟨rfl, rfl⟩
theorem word_is {n : Int} {b : Bool} {w : World} (h : inB n (-1073741824) 1073741823 = b) :
    Calls Tryz.prog 26 #[.int .i64 n] w fun e w' => e = .returned (.bool b) ∧ w' = w := by
  go_enter Tryz.func26, Tryz.ntmps26
  go_wp2_with (go_at_call 23; refine (in_is h).mono ?_; rintro e w' ⟨rfl, rfl⟩)
  go_ret
  exact ⟨rfl, rfl⟩


set_option maxRecDepth 100000 in
set_option maxHeartbeats 2000000 in
theorem l13Op_1 (ks : List FunD) (i : Nat) (hi : i < ks.length) (v : Value) (c n m : Int) (w : World) (h : funSh.slice.rep w (· < w.heap.size) [v] ks) (hf : 0 ≤ ks[i].1 ∧ ks[i].1 ≤ 20) (hl : 1 ≤ ks[i].2.length ∧ ks[i].2.length ≤ 3000) (hc : c = 1) :
    Calls Tryz.prog 56 #[v, .int .i64 i, .agg #[.int .i64 c, .int .i64 n, .int .i64 m]] w fun e w' => e = .returned (.bool (opB ks i ks[i] c n m)) ∧ Below w.heap.size w w' := by
  obtain ⟨a, cap, css, rfl, hcap, hmax, hrow, hk⟩ := funs_open h
  have hmx : (ks.length : Int) ≤ 9223372036854775807 := by unfold maxLen at hmax; omega
  have HR : Hid (RowAt w (· < w.heap.size) 2 a ks.length css ∧ ∀ i (h : i < ks.length), funSh.rep w (· < w.heap.size) (css i) ks[i]) := ⟨hrow, hk⟩
  obtain ⟨b, o, rfl, hS, hc⟩ := hrow i hi
  obtain ⟨x0, x1, a1, c1, hT, hcs, g0, -⟩ := fun_open (hk i hi)
  replace hf : 0 ≤ x0 ∧ x0 ≤ 20 := by rw [hT] at hf; exact hf
  replace hl : 1 ≤ x1.length ∧ x1.length ≤ 3000 := by rw [hT] at hl; exact hl
  rw [hT]
  rw [hcs] at hc
  have d0 : w.cell? ⟨b, o + i * 2, none⟩ = some (.int .i64 x0) := hc 0 _ rfl
  have d1 : w.cell? ⟨b, o + i * 2 + 1, none⟩ = some (.slice a1 x1.length c1) := hc 1 _ rfl
  clear hc hcs hT hrow hk h hcap hmax
  have B0 : Hid (Below w.heap.size w (w.alloc (.cells #[.int .i64 c, .int .i64 n, .int .i64 m] 90))) := (Below.refl _ _).alloc (Nat.le_refl _) _
  have t0 : (w.alloc (.cells #[.int .i64 c, .int .i64 n, .int .i64 m] 90)).cell? ⟨w.heap.size, 0, none⟩ = some (.int .i64 c) := by simp
  have t1 : (w.alloc (.cells #[.int .i64 c, .int .i64 n, .int .i64 m] 90)).cell? ⟨w.heap.size, 1, none⟩ = some (.int .i64 n) := by simp
  have t2 : (w.alloc (.cells #[.int .i64 c, .int .i64 n, .int .i64 m] 90)).cell? ⟨w.heap.size, 2, none⟩ = some (.int .i64 m) := by simp
  have e0 := (B0.out.cell (p := ⟨b, o + i * 2, none⟩) hS).trans d0
  have e1 := (B0.out.cell (p := ⟨b, o + i * 2 + 1, none⟩) hS).trans d1
  have hiI : (i : Int) < (ks.length : Int) := by omega
  clear d0 d1
  subst hc
  rcases q0 : inB n (-1073741824) 1073741823 with _ | _
  · -- false
    go_enter Tryz.func56, Tryz.ntmps56
    go_wp2_with (first | (go_at_call 23; refine (in_is (by assumption)).mono ?_; rintro e w' ⟨rfl, rfl⟩) | (go_at_call 79; refine (tag_is (by assumption)).mono ?_; rintro e w' ⟨rfl, rfl⟩) | (go_at_call 26; refine (word_is (by assumption)).mono ?_; rintro e w' ⟨rfl, rfl⟩))
    go_ret
    exact ⟨ret_boolF (by simp [opB, q0]), B0.out⟩
  · -- true
    rcases q1 : decide (m = 0) with _ | _
    · -- false
      have q1b : (m == 0) = false := by have := of_decide_eq_false q1; simp [this]
      go_enter Tryz.func56, Tryz.ntmps56
      go_wp2_with (first | (go_at_call 23; refine (in_is (by assumption)).mono ?_; rintro e w' ⟨rfl, rfl⟩) | (go_at_call 79; refine (tag_is (by assumption)).mono ?_; rintro e w' ⟨rfl, rfl⟩) | (go_at_call 26; refine (word_is (by assumption)).mono ?_; rintro e w' ⟨rfl, rfl⟩))
      go_ret
      exact ⟨ret_boolF (by simp [opB, q0, (of_decide_eq_false q1)]), B0.out⟩
    · -- true
      have q1b : (m == 0) = true := by have := of_decide_eq_true q1; simp [this]
      go_enter Tryz.func56, Tryz.ntmps56
      go_wp2_with (first | (go_at_call 23; refine (in_is (by assumption)).mono ?_; rintro e w' ⟨rfl, rfl⟩) | (go_at_call 79; refine (tag_is (by assumption)).mono ?_; rintro e w' ⟨rfl, rfl⟩) | (go_at_call 26; refine (word_is (by assumption)).mono ?_; rintro e w' ⟨rfl, rfl⟩))
      go_ret
      exact ⟨ret_boolF (by simp [opB, q0, (of_decide_eq_true q1)]), B0.out⟩

set_option maxRecDepth 100000 in
set_option maxHeartbeats 2000000 in
theorem l13Op_2 (ks : List FunD) (i : Nat) (hi : i < ks.length) (v : Value) (c n m : Int) (w : World) (h : funSh.slice.rep w (· < w.heap.size) [v] ks) (hf : 0 ≤ ks[i].1 ∧ ks[i].1 ≤ 20) (hl : 1 ≤ ks[i].2.length ∧ ks[i].2.length ≤ 3000) (hc : c = 2) :
    Calls Tryz.prog 56 #[v, .int .i64 i, .agg #[.int .i64 c, .int .i64 n, .int .i64 m]] w fun e w' => e = .returned (.bool (opB ks i ks[i] c n m)) ∧ Below w.heap.size w w' := by
  obtain ⟨a, cap, css, rfl, hcap, hmax, hrow, hk⟩ := funs_open h
  have hmx : (ks.length : Int) ≤ 9223372036854775807 := by unfold maxLen at hmax; omega
  have HR : Hid (RowAt w (· < w.heap.size) 2 a ks.length css ∧ ∀ i (h : i < ks.length), funSh.rep w (· < w.heap.size) (css i) ks[i]) := ⟨hrow, hk⟩
  obtain ⟨b, o, rfl, hS, hc⟩ := hrow i hi
  obtain ⟨x0, x1, a1, c1, hT, hcs, g0, -⟩ := fun_open (hk i hi)
  replace hf : 0 ≤ x0 ∧ x0 ≤ 20 := by rw [hT] at hf; exact hf
  replace hl : 1 ≤ x1.length ∧ x1.length ≤ 3000 := by rw [hT] at hl; exact hl
  rw [hT]
  rw [hcs] at hc
  have d0 : w.cell? ⟨b, o + i * 2, none⟩ = some (.int .i64 x0) := hc 0 _ rfl
  have d1 : w.cell? ⟨b, o + i * 2 + 1, none⟩ = some (.slice a1 x1.length c1) := hc 1 _ rfl
  clear hc hcs hT hrow hk h hcap hmax
  have B0 : Hid (Below w.heap.size w (w.alloc (.cells #[.int .i64 c, .int .i64 n, .int .i64 m] 90))) := (Below.refl _ _).alloc (Nat.le_refl _) _
  have t0 : (w.alloc (.cells #[.int .i64 c, .int .i64 n, .int .i64 m] 90)).cell? ⟨w.heap.size, 0, none⟩ = some (.int .i64 c) := by simp
  have t1 : (w.alloc (.cells #[.int .i64 c, .int .i64 n, .int .i64 m] 90)).cell? ⟨w.heap.size, 1, none⟩ = some (.int .i64 n) := by simp
  have t2 : (w.alloc (.cells #[.int .i64 c, .int .i64 n, .int .i64 m] 90)).cell? ⟨w.heap.size, 2, none⟩ = some (.int .i64 m) := by simp
  have e0 := (B0.out.cell (p := ⟨b, o + i * 2, none⟩) hS).trans d0
  have e1 := (B0.out.cell (p := ⟨b, o + i * 2 + 1, none⟩) hS).trans d1
  have hiI : (i : Int) < (ks.length : Int) := by omega
  clear d0 d1
  subst hc
  rcases q0 : inB n 0 2999 with _ | _
  · -- false
    go_enter Tryz.func56, Tryz.ntmps56
    go_wp2_with (first | (go_at_call 23; refine (in_is (by assumption)).mono ?_; rintro e w' ⟨rfl, rfl⟩) | (go_at_call 79; refine (tag_is (by assumption)).mono ?_; rintro e w' ⟨rfl, rfl⟩) | (go_at_call 26; refine (word_is (by assumption)).mono ?_; rintro e w' ⟨rfl, rfl⟩))
    go_ret
    exact ⟨ret_boolF (by simp [opB, q0]), B0.out⟩
  · -- true
    rcases q1 : decide (m = 0) with _ | _
    · -- false
      have q1b : (m == 0) = false := by have := of_decide_eq_false q1; simp [this]
      go_enter Tryz.func56, Tryz.ntmps56
      go_wp2_with (first | (go_at_call 23; refine (in_is (by assumption)).mono ?_; rintro e w' ⟨rfl, rfl⟩) | (go_at_call 79; refine (tag_is (by assumption)).mono ?_; rintro e w' ⟨rfl, rfl⟩) | (go_at_call 26; refine (word_is (by assumption)).mono ?_; rintro e w' ⟨rfl, rfl⟩))
      go_ret
      exact ⟨ret_boolF (by simp [opB, q0, (of_decide_eq_false q1)]), B0.out⟩
    · -- true
      have q1b : (m == 0) = true := by have := of_decide_eq_true q1; simp [this]
      go_enter Tryz.func56, Tryz.ntmps56
      go_wp2_with (first | (go_at_call 23; refine (in_is (by assumption)).mono ?_; rintro e w' ⟨rfl, rfl⟩) | (go_at_call 79; refine (tag_is (by assumption)).mono ?_; rintro e w' ⟨rfl, rfl⟩) | (go_at_call 26; refine (word_is (by assumption)).mono ?_; rintro e w' ⟨rfl, rfl⟩))
      go_ret
      exact ⟨ret_boolF (by simp [opB, q0, (of_decide_eq_true q1)]), B0.out⟩

set_option maxRecDepth 100000 in
set_option maxHeartbeats 2000000 in
theorem l13Op_3 (ks : List FunD) (i : Nat) (hi : i < ks.length) (v : Value) (c n m : Int) (w : World) (h : funSh.slice.rep w (· < w.heap.size) [v] ks) (hf : 0 ≤ ks[i].1 ∧ ks[i].1 ≤ 20) (hl : 1 ≤ ks[i].2.length ∧ ks[i].2.length ≤ 3000) (hc : c = 3) :
    Calls Tryz.prog 56 #[v, .int .i64 i, .agg #[.int .i64 c, .int .i64 n, .int .i64 m]] w fun e w' => e = .returned (.bool (opB ks i ks[i] c n m)) ∧ Below w.heap.size w w' := by
  obtain ⟨a, cap, css, rfl, hcap, hmax, hrow, hk⟩ := funs_open h
  have hmx : (ks.length : Int) ≤ 9223372036854775807 := by unfold maxLen at hmax; omega
  have HR : Hid (RowAt w (· < w.heap.size) 2 a ks.length css ∧ ∀ i (h : i < ks.length), funSh.rep w (· < w.heap.size) (css i) ks[i]) := ⟨hrow, hk⟩
  obtain ⟨b, o, rfl, hS, hc⟩ := hrow i hi
  obtain ⟨x0, x1, a1, c1, hT, hcs, g0, -⟩ := fun_open (hk i hi)
  replace hf : 0 ≤ x0 ∧ x0 ≤ 20 := by rw [hT] at hf; exact hf
  replace hl : 1 ≤ x1.length ∧ x1.length ≤ 3000 := by rw [hT] at hl; exact hl
  rw [hT]
  rw [hcs] at hc
  have d0 : w.cell? ⟨b, o + i * 2, none⟩ = some (.int .i64 x0) := hc 0 _ rfl
  have d1 : w.cell? ⟨b, o + i * 2 + 1, none⟩ = some (.slice a1 x1.length c1) := hc 1 _ rfl
  clear hc hcs hT hrow hk h hcap hmax
  have B0 : Hid (Below w.heap.size w (w.alloc (.cells #[.int .i64 c, .int .i64 n, .int .i64 m] 90))) := (Below.refl _ _).alloc (Nat.le_refl _) _
  have t0 : (w.alloc (.cells #[.int .i64 c, .int .i64 n, .int .i64 m] 90)).cell? ⟨w.heap.size, 0, none⟩ = some (.int .i64 c) := by simp
  have t1 : (w.alloc (.cells #[.int .i64 c, .int .i64 n, .int .i64 m] 90)).cell? ⟨w.heap.size, 1, none⟩ = some (.int .i64 n) := by simp
  have t2 : (w.alloc (.cells #[.int .i64 c, .int .i64 n, .int .i64 m] 90)).cell? ⟨w.heap.size, 2, none⟩ = some (.int .i64 m) := by simp
  have e0 := (B0.out.cell (p := ⟨b, o + i * 2, none⟩) hS).trans d0
  have e1 := (B0.out.cell (p := ⟨b, o + i * 2 + 1, none⟩) hS).trans d1
  have hiI : (i : Int) < (ks.length : Int) := by omega
  clear d0 d1
  subst hc
  rcases q0 : inB n 0 (x0 - 1) with _ | _
  · -- false
    go_enter Tryz.func56, Tryz.ntmps56
    go_wp2_with (first | (go_at_call 23; refine (in_is (by assumption)).mono ?_; rintro e w' ⟨rfl, rfl⟩) | (go_at_call 79; refine (tag_is (by assumption)).mono ?_; rintro e w' ⟨rfl, rfl⟩) | (go_at_call 26; refine (word_is (by assumption)).mono ?_; rintro e w' ⟨rfl, rfl⟩))
    go_quiet ((go_at_call 23; exact Calls.quiet_of_same (in_is (by assumption))))
    go_wp2
    go_ret
    exact ⟨ret_boolF (by simp [opB, q0]), by first | exact B0.out | exact ⟨B0.out.os, B0.out.tape, B0.out.output, B0.out.size, B0.out.block⟩⟩
  · -- true
    rcases q1 : decide (m = 0) with _ | _
    · -- false
      have q1b : (m == 0) = false := by have := of_decide_eq_false q1; simp [this]
      go_enter Tryz.func56, Tryz.ntmps56
      go_wp2_with (first | (go_at_call 23; refine (in_is (by assumption)).mono ?_; rintro e w' ⟨rfl, rfl⟩) | (go_at_call 79; refine (tag_is (by assumption)).mono ?_; rintro e w' ⟨rfl, rfl⟩) | (go_at_call 26; refine (word_is (by assumption)).mono ?_; rintro e w' ⟨rfl, rfl⟩))
      go_quiet ((go_at_call 23; exact Calls.quiet_of_same (in_is (by assumption))))
      go_wp2
      go_ret
      exact ⟨ret_boolF (by simp [opB, q0, (of_decide_eq_false q1)]), by first | exact B0.out | exact ⟨B0.out.os, B0.out.tape, B0.out.output, B0.out.size, B0.out.block⟩⟩
    · -- true
      have q1b : (m == 0) = true := by have := of_decide_eq_true q1; simp [this]
      go_enter Tryz.func56, Tryz.ntmps56
      go_wp2_with (first | (go_at_call 23; refine (in_is (by assumption)).mono ?_; rintro e w' ⟨rfl, rfl⟩) | (go_at_call 79; refine (tag_is (by assumption)).mono ?_; rintro e w' ⟨rfl, rfl⟩) | (go_at_call 26; refine (word_is (by assumption)).mono ?_; rintro e w' ⟨rfl, rfl⟩))
      go_quiet ((go_at_call 23; exact Calls.quiet_of_same (in_is (by assumption))))
      go_wp2
      go_ret
      exact ⟨ret_boolF (by simp [opB, q0, (of_decide_eq_true q1)]), by first | exact B0.out | exact ⟨B0.out.os, B0.out.tape, B0.out.output, B0.out.size, B0.out.block⟩⟩

set_option maxRecDepth 100000 in
set_option maxHeartbeats 2000000 in
theorem l13Op_4 (ks : List FunD) (i : Nat) (hi : i < ks.length) (v : Value) (c n m : Int) (w : World) (h : funSh.slice.rep w (· < w.heap.size) [v] ks) (hf : 0 ≤ ks[i].1 ∧ ks[i].1 ≤ 20) (hl : 1 ≤ ks[i].2.length ∧ ks[i].2.length ≤ 3000) (hc : c = 4) :
    Calls Tryz.prog 56 #[v, .int .i64 i, .agg #[.int .i64 c, .int .i64 n, .int .i64 m]] w fun e w' => e = .returned (.bool (opB ks i ks[i] c n m)) ∧ Below w.heap.size w w' := by
  obtain ⟨a, cap, css, rfl, hcap, hmax, hrow, hk⟩ := funs_open h
  have hmx : (ks.length : Int) ≤ 9223372036854775807 := by unfold maxLen at hmax; omega
  have HR : Hid (RowAt w (· < w.heap.size) 2 a ks.length css ∧ ∀ i (h : i < ks.length), funSh.rep w (· < w.heap.size) (css i) ks[i]) := ⟨hrow, hk⟩
  obtain ⟨b, o, rfl, hS, hc⟩ := hrow i hi
  obtain ⟨x0, x1, a1, c1, hT, hcs, g0, -⟩ := fun_open (hk i hi)
  replace hf : 0 ≤ x0 ∧ x0 ≤ 20 := by rw [hT] at hf; exact hf
  replace hl : 1 ≤ x1.length ∧ x1.length ≤ 3000 := by rw [hT] at hl; exact hl
  rw [hT]
  rw [hcs] at hc
  have d0 : w.cell? ⟨b, o + i * 2, none⟩ = some (.int .i64 x0) := hc 0 _ rfl
  have d1 : w.cell? ⟨b, o + i * 2 + 1, none⟩ = some (.slice a1 x1.length c1) := hc 1 _ rfl
  clear hc hcs hT hrow hk h hcap hmax
  have B0 : Hid (Below w.heap.size w (w.alloc (.cells #[.int .i64 c, .int .i64 n, .int .i64 m] 90))) := (Below.refl _ _).alloc (Nat.le_refl _) _
  have t0 : (w.alloc (.cells #[.int .i64 c, .int .i64 n, .int .i64 m] 90)).cell? ⟨w.heap.size, 0, none⟩ = some (.int .i64 c) := by simp
  have t1 : (w.alloc (.cells #[.int .i64 c, .int .i64 n, .int .i64 m] 90)).cell? ⟨w.heap.size, 1, none⟩ = some (.int .i64 n) := by simp
  have t2 : (w.alloc (.cells #[.int .i64 c, .int .i64 n, .int .i64 m] 90)).cell? ⟨w.heap.size, 2, none⟩ = some (.int .i64 m) := by simp
  have e0 := (B0.out.cell (p := ⟨b, o + i * 2, none⟩) hS).trans d0
  have e1 := (B0.out.cell (p := ⟨b, o + i * 2 + 1, none⟩) hS).trans d1
  have hiI : (i : Int) < (ks.length : Int) := by omega
  clear d0 d1
  subst hc
  rcases q0 : decide (0 < (i : Int)) with _ | _
  · -- false
    have q0n : ¬ 0 < i := by have := of_decide_eq_false q0; omega
    have q0d : decide (0 < i) = false := decide_eq_false q0n
    go_enter Tryz.func56, Tryz.ntmps56
    go_wp2_with (first | (go_at_call 23; refine (in_is (by assumption)).mono ?_; rintro e w' ⟨rfl, rfl⟩) | (go_at_call 79; refine (tag_is (by assumption)).mono ?_; rintro e w' ⟨rfl, rfl⟩) | (go_at_call 26; refine (word_is (by assumption)).mono ?_; rintro e w' ⟨rfl, rfl⟩))
    go_ret
    exact ⟨ret_boolF (by simp [opB, q0n]), B0.out⟩
  · -- true
    have q0n : 0 < i := by have := of_decide_eq_true q0; omega
    have q0d : decide (0 < i) = true := decide_eq_true q0n
    rcases q1 : decide (n = 0) with _ | _
    · -- false
      have q1b : (n == 0) = false := by have := of_decide_eq_false q1; simp [this]
      go_enter Tryz.func56, Tryz.ntmps56
      go_wp2_with (first | (go_at_call 23; refine (in_is (by assumption)).mono ?_; rintro e w' ⟨rfl, rfl⟩) | (go_at_call 79; refine (tag_is (by assumption)).mono ?_; rintro e w' ⟨rfl, rfl⟩) | (go_at_call 26; refine (word_is (by assumption)).mono ?_; rintro e w' ⟨rfl, rfl⟩))
      go_ret
      exact ⟨ret_boolF (by simp [opB, q0n, (of_decide_eq_false q1)]), B0.out⟩
    · -- true
      have q1b : (n == 0) = true := by have := of_decide_eq_true q1; simp [this]
      rcases q2 : decide (m = 0) with _ | _
      · -- false
        have q2b : (m == 0) = false := by have := of_decide_eq_false q2; simp [this]
        go_enter Tryz.func56, Tryz.ntmps56
        go_wp2_with (first | (go_at_call 23; refine (in_is (by assumption)).mono ?_; rintro e w' ⟨rfl, rfl⟩) | (go_at_call 79; refine (tag_is (by assumption)).mono ?_; rintro e w' ⟨rfl, rfl⟩) | (go_at_call 26; refine (word_is (by assumption)).mono ?_; rintro e w' ⟨rfl, rfl⟩))
        go_ret
        exact ⟨ret_boolF (by simp [opB, q0n, (of_decide_eq_true q1), (of_decide_eq_false q2)]), B0.out⟩
      · -- true
        have q2b : (m == 0) = true := by have := of_decide_eq_true q2; simp [this]
        go_enter Tryz.func56, Tryz.ntmps56
        go_wp2_with (first | (go_at_call 23; refine (in_is (by assumption)).mono ?_; rintro e w' ⟨rfl, rfl⟩) | (go_at_call 79; refine (tag_is (by assumption)).mono ?_; rintro e w' ⟨rfl, rfl⟩) | (go_at_call 26; refine (word_is (by assumption)).mono ?_; rintro e w' ⟨rfl, rfl⟩))
        go_ret
        exact ⟨ret_boolF (by simp [opB, q0n, (of_decide_eq_true q1), (of_decide_eq_true q2)]), B0.out⟩

set_option maxRecDepth 100000 in
set_option maxHeartbeats 2000000 in
theorem l13Op_5 (ks : List FunD) (i : Nat) (hi : i < ks.length) (v : Value) (c n m : Int) (w : World) (h : funSh.slice.rep w (· < w.heap.size) [v] ks) (hf : 0 ≤ ks[i].1 ∧ ks[i].1 ≤ 20) (hl : 1 ≤ ks[i].2.length ∧ ks[i].2.length ≤ 3000) (hc : c = 5) :
    Calls Tryz.prog 56 #[v, .int .i64 i, .agg #[.int .i64 c, .int .i64 n, .int .i64 m]] w fun e w' => e = .returned (.bool (opB ks i ks[i] c n m)) ∧ Below w.heap.size w w' := by
  obtain ⟨a, cap, css, rfl, hcap, hmax, hrow, hk⟩ := funs_open h
  have hmx : (ks.length : Int) ≤ 9223372036854775807 := by unfold maxLen at hmax; omega
  have HR : Hid (RowAt w (· < w.heap.size) 2 a ks.length css ∧ ∀ i (h : i < ks.length), funSh.rep w (· < w.heap.size) (css i) ks[i]) := ⟨hrow, hk⟩
  obtain ⟨b, o, rfl, hS, hc⟩ := hrow i hi
  obtain ⟨x0, x1, a1, c1, hT, hcs, g0, -⟩ := fun_open (hk i hi)
  replace hf : 0 ≤ x0 ∧ x0 ≤ 20 := by rw [hT] at hf; exact hf
  replace hl : 1 ≤ x1.length ∧ x1.length ≤ 3000 := by rw [hT] at hl; exact hl
  rw [hT]
  rw [hcs] at hc
  have d0 : w.cell? ⟨b, o + i * 2, none⟩ = some (.int .i64 x0) := hc 0 _ rfl
  have d1 : w.cell? ⟨b, o + i * 2 + 1, none⟩ = some (.slice a1 x1.length c1) := hc 1 _ rfl
  clear hc hcs hT hrow hk h hcap hmax
  have B0 : Hid (Below w.heap.size w (w.alloc (.cells #[.int .i64 c, .int .i64 n, .int .i64 m] 90))) := (Below.refl _ _).alloc (Nat.le_refl _) _
  have t0 : (w.alloc (.cells #[.int .i64 c, .int .i64 n, .int .i64 m] 90)).cell? ⟨w.heap.size, 0, none⟩ = some (.int .i64 c) := by simp
  have t1 : (w.alloc (.cells #[.int .i64 c, .int .i64 n, .int .i64 m] 90)).cell? ⟨w.heap.size, 1, none⟩ = some (.int .i64 n) := by simp
  have t2 : (w.alloc (.cells #[.int .i64 c, .int .i64 n, .int .i64 m] 90)).cell? ⟨w.heap.size, 2, none⟩ = some (.int .i64 m) := by simp
  have e0 := (B0.out.cell (p := ⟨b, o + i * 2, none⟩) hS).trans d0
  have e1 := (B0.out.cell (p := ⟨b, o + i * 2 + 1, none⟩) hS).trans d1
  have hiI : (i : Int) < (ks.length : Int) := by omega
  clear d0 d1
  subst hc
  rcases q0 : inB n 1 ((ks.length : Int) - 1) with _ | _
  · -- false
    go_enter Tryz.func56, Tryz.ntmps56
    go_wp2_with (first | (go_at_call 23; refine (in_is (by assumption)).mono ?_; rintro e w' ⟨rfl, rfl⟩) | (go_at_call 79; refine (tag_is (by assumption)).mono ?_; rintro e w' ⟨rfl, rfl⟩) | (go_at_call 26; refine (word_is (by assumption)).mono ?_; rintro e w' ⟨rfl, rfl⟩))
    go_quiet ((go_at_call 23; exact Calls.quiet_of_same (in_is (by assumption))))
    go_wp2
    go_ret
    exact ⟨ret_boolF (by simp [opB, q0]), by first | exact B0.out | exact ⟨B0.out.os, B0.out.tape, B0.out.output, B0.out.size, B0.out.block⟩⟩
  · -- true
    obtain ⟨j, rfl⟩ : ∃ j : Nat, n = j := ⟨n.toNat, by have := (inB_yes q0).1; omega⟩
    have hj : j < ks.length := by have := (inB_yes q0).2; omega
    have hjI : (j : Int) < (ks.length : Int) := by omega
    obtain ⟨b2, o2, hbo, hS2, hc2⟩ := HR.out.1 j hj
    cases hbo
    obtain ⟨y0, y1, a2, c2, hT2, hcs2, -, -⟩ := fun_open (HR.out.2 j hj)
    rw [hcs2] at hc2
    have u0 := (B0.out.cell (p := ⟨b, o + j * 2, none⟩) hS).trans (hc2 0 _ rfl)
    have hfr : freeAt ks j = y0 := by rw [freeAt_get hj, hT2]
    clear hc2 hcs2 hT2 hS2
    rcases q1 : decide (m = y0) with _ | _
    · -- false
      go_enter Tryz.func56, Tryz.ntmps56
      go_wp2_with (first | (go_at_call 23; refine (in_is (by assumption)).mono ?_; rintro e w' ⟨rfl, rfl⟩) | (go_at_call 79; refine (tag_is (by assumption)).mono ?_; rintro e w' ⟨rfl, rfl⟩) | (go_at_call 26; refine (word_is (by assumption)).mono ?_; rintro e w' ⟨rfl, rfl⟩))
      go_quiet ((go_at_call 23; exact Calls.quiet_of_same (in_is (by assumption))))
      go_wp2
      go_ret
      exact ⟨ret_boolF (by simp [opB, q0, hfr, (of_decide_eq_false q1)]), by first | exact B0.out | exact ⟨B0.out.os, B0.out.tape, B0.out.output, B0.out.size, B0.out.block⟩⟩
    · -- true
      go_enter Tryz.func56, Tryz.ntmps56
      go_wp2_with (first | (go_at_call 23; refine (in_is (by assumption)).mono ?_; rintro e w' ⟨rfl, rfl⟩) | (go_at_call 79; refine (tag_is (by assumption)).mono ?_; rintro e w' ⟨rfl, rfl⟩) | (go_at_call 26; refine (word_is (by assumption)).mono ?_; rintro e w' ⟨rfl, rfl⟩))
      go_quiet ((go_at_call 23; exact Calls.quiet_of_same (in_is (by assumption))))
      go_wp2
      go_ret
      exact ⟨ret_boolF (by simp [opB, q0, hfr, (of_decide_eq_true q1)]), by first | exact B0.out | exact ⟨B0.out.os, B0.out.tape, B0.out.output, B0.out.size, B0.out.block⟩⟩

set_option maxRecDepth 100000 in
set_option maxHeartbeats 2000000 in
theorem l13Op_8 (ks : List FunD) (i : Nat) (hi : i < ks.length) (v : Value) (c n m : Int) (w : World) (h : funSh.slice.rep w (· < w.heap.size) [v] ks) (hf : 0 ≤ ks[i].1 ∧ ks[i].1 ≤ 20) (hl : 1 ≤ ks[i].2.length ∧ ks[i].2.length ≤ 3000) (hc : c = 8) :
    Calls Tryz.prog 56 #[v, .int .i64 i, .agg #[.int .i64 c, .int .i64 n, .int .i64 m]] w fun e w' => e = .returned (.bool (opB ks i ks[i] c n m)) ∧ Below w.heap.size w w' := by
  obtain ⟨a, cap, css, rfl, hcap, hmax, hrow, hk⟩ := funs_open h
  have hmx : (ks.length : Int) ≤ 9223372036854775807 := by unfold maxLen at hmax; omega
  have HR : Hid (RowAt w (· < w.heap.size) 2 a ks.length css ∧ ∀ i (h : i < ks.length), funSh.rep w (· < w.heap.size) (css i) ks[i]) := ⟨hrow, hk⟩
  obtain ⟨b, o, rfl, hS, hc⟩ := hrow i hi
  obtain ⟨x0, x1, a1, c1, hT, hcs, g0, -⟩ := fun_open (hk i hi)
  replace hf : 0 ≤ x0 ∧ x0 ≤ 20 := by rw [hT] at hf; exact hf
  replace hl : 1 ≤ x1.length ∧ x1.length ≤ 3000 := by rw [hT] at hl; exact hl
  rw [hT]
  rw [hcs] at hc
  have d0 : w.cell? ⟨b, o + i * 2, none⟩ = some (.int .i64 x0) := hc 0 _ rfl
  have d1 : w.cell? ⟨b, o + i * 2 + 1, none⟩ = some (.slice a1 x1.length c1) := hc 1 _ rfl
  clear hc hcs hT hrow hk h hcap hmax
  have B0 : Hid (Below w.heap.size w (w.alloc (.cells #[.int .i64 c, .int .i64 n, .int .i64 m] 90))) := (Below.refl _ _).alloc (Nat.le_refl _) _
  have t0 : (w.alloc (.cells #[.int .i64 c, .int .i64 n, .int .i64 m] 90)).cell? ⟨w.heap.size, 0, none⟩ = some (.int .i64 c) := by simp
  have t1 : (w.alloc (.cells #[.int .i64 c, .int .i64 n, .int .i64 m] 90)).cell? ⟨w.heap.size, 1, none⟩ = some (.int .i64 n) := by simp
  have t2 : (w.alloc (.cells #[.int .i64 c, .int .i64 n, .int .i64 m] 90)).cell? ⟨w.heap.size, 2, none⟩ = some (.int .i64 m) := by simp
  have e0 := (B0.out.cell (p := ⟨b, o + i * 2, none⟩) hS).trans d0
  have e1 := (B0.out.cell (p := ⟨b, o + i * 2 + 1, none⟩) hS).trans d1
  have hiI : (i : Int) < (ks.length : Int) := by omega
  clear d0 d1
  subst hc
  rcases q0 : inB n 0 59 with _ | _
  · -- false
    go_enter Tryz.func56, Tryz.ntmps56
    go_wp2_with (first | (go_at_call 23; refine (in_is (by assumption)).mono ?_; rintro e w' ⟨rfl, rfl⟩) | (go_at_call 79; refine (tag_is (by assumption)).mono ?_; rintro e w' ⟨rfl, rfl⟩) | (go_at_call 26; refine (word_is (by assumption)).mono ?_; rintro e w' ⟨rfl, rfl⟩))
    go_ret
    exact ⟨ret_boolF (by simp [opB, q0]), B0.out⟩
  · -- true
    rcases q1 : inB m 0 20 with _ | _
    · -- false
      go_enter Tryz.func56, Tryz.ntmps56
      go_wp2_with (first | (go_at_call 23; refine (in_is (by assumption)).mono ?_; rintro e w' ⟨rfl, rfl⟩) | (go_at_call 79; refine (tag_is (by assumption)).mono ?_; rintro e w' ⟨rfl, rfl⟩) | (go_at_call 26; refine (word_is (by assumption)).mono ?_; rintro e w' ⟨rfl, rfl⟩))
      go_ret
      exact ⟨ret_boolF (by simp [opB, q0, q1]), B0.out⟩
    · -- true
      go_enter Tryz.func56, Tryz.ntmps56
      go_wp2_with (first | (go_at_call 23; refine (in_is (by assumption)).mono ?_; rintro e w' ⟨rfl, rfl⟩) | (go_at_call 79; refine (tag_is (by assumption)).mono ?_; rintro e w' ⟨rfl, rfl⟩) | (go_at_call 26; refine (word_is (by assumption)).mono ?_; rintro e w' ⟨rfl, rfl⟩))
      go_ret
      exact ⟨ret_boolF (by simp [opB, q0, q1]), B0.out⟩

set_option maxRecDepth 100000 in
set_option maxHeartbeats 2000000 in
theorem l13Op_9 (ks : List FunD) (i : Nat) (hi : i < ks.length) (v : Value) (c n m : Int) (w : World) (h : funSh.slice.rep w (· < w.heap.size) [v] ks) (hf : 0 ≤ ks[i].1 ∧ ks[i].1 ≤ 20) (hl : 1 ≤ ks[i].2.length ∧ ks[i].2.length ≤ 3000) (hc : c = 9) :
    Calls Tryz.prog 56 #[v, .int .i64 i, .agg #[.int .i64 c, .int .i64 n, .int .i64 m]] w fun e w' => e = .returned (.bool (opB ks i ks[i] c n m)) ∧ Below w.heap.size w w' := by
  obtain ⟨a, cap, css, rfl, hcap, hmax, hrow, hk⟩ := funs_open h
  have hmx : (ks.length : Int) ≤ 9223372036854775807 := by unfold maxLen at hmax; omega
  have HR : Hid (RowAt w (· < w.heap.size) 2 a ks.length css ∧ ∀ i (h : i < ks.length), funSh.rep w (· < w.heap.size) (css i) ks[i]) := ⟨hrow, hk⟩
  obtain ⟨b, o, rfl, hS, hc⟩ := hrow i hi
  obtain ⟨x0, x1, a1, c1, hT, hcs, g0, -⟩ := fun_open (hk i hi)
  replace hf : 0 ≤ x0 ∧ x0 ≤ 20 := by rw [hT] at hf; exact hf
  replace hl : 1 ≤ x1.length ∧ x1.length ≤ 3000 := by rw [hT] at hl; exact hl
  rw [hT]
  rw [hcs] at hc
  have d0 : w.cell? ⟨b, o + i * 2, none⟩ = some (.int .i64 x0) := hc 0 _ rfl
  have d1 : w.cell? ⟨b, o + i * 2 + 1, none⟩ = some (.slice a1 x1.length c1) := hc 1 _ rfl
  clear hc hcs hT hrow hk h hcap hmax
  have B0 : Hid (Below w.heap.size w (w.alloc (.cells #[.int .i64 c, .int .i64 n, .int .i64 m] 90))) := (Below.refl _ _).alloc (Nat.le_refl _) _
  have t0 : (w.alloc (.cells #[.int .i64 c, .int .i64 n, .int .i64 m] 90)).cell? ⟨w.heap.size, 0, none⟩ = some (.int .i64 c) := by simp
  have t1 : (w.alloc (.cells #[.int .i64 c, .int .i64 n, .int .i64 m] 90)).cell? ⟨w.heap.size, 1, none⟩ = some (.int .i64 n) := by simp
  have t2 : (w.alloc (.cells #[.int .i64 c, .int .i64 n, .int .i64 m] 90)).cell? ⟨w.heap.size, 2, none⟩ = some (.int .i64 m) := by simp
  have e0 := (B0.out.cell (p := ⟨b, o + i * 2, none⟩) hS).trans d0
  have e1 := (B0.out.cell (p := ⟨b, o + i * 2 + 1, none⟩) hS).trans d1
  have hiI : (i : Int) < (ks.length : Int) := by omega
  clear d0 d1
  subst hc
  rcases q0 : inB n 0 59 with _ | _
  · -- false
    go_enter Tryz.func56, Tryz.ntmps56
    go_wp2_with (first | (go_at_call 23; refine (in_is (by assumption)).mono ?_; rintro e w' ⟨rfl, rfl⟩) | (go_at_call 79; refine (tag_is (by assumption)).mono ?_; rintro e w' ⟨rfl, rfl⟩) | (go_at_call 26; refine (word_is (by assumption)).mono ?_; rintro e w' ⟨rfl, rfl⟩))
    go_ret
    exact ⟨ret_boolF (by simp [opB, q0]), B0.out⟩
  · -- true
    rcases q1 : decide (m = 0) with _ | _
    · -- false
      have q1b : (m == 0) = false := by have := of_decide_eq_false q1; simp [this]
      go_enter Tryz.func56, Tryz.ntmps56
      go_wp2_with (first | (go_at_call 23; refine (in_is (by assumption)).mono ?_; rintro e w' ⟨rfl, rfl⟩) | (go_at_call 79; refine (tag_is (by assumption)).mono ?_; rintro e w' ⟨rfl, rfl⟩) | (go_at_call 26; refine (word_is (by assumption)).mono ?_; rintro e w' ⟨rfl, rfl⟩))
      go_ret
      exact ⟨ret_boolF (by simp [opB, q0, (of_decide_eq_false q1)]), B0.out⟩
    · -- true
      have q1b : (m == 0) = true := by have := of_decide_eq_true q1; simp [this]
      go_enter Tryz.func56, Tryz.ntmps56
      go_wp2_with (first | (go_at_call 23; refine (in_is (by assumption)).mono ?_; rintro e w' ⟨rfl, rfl⟩) | (go_at_call 79; refine (tag_is (by assumption)).mono ?_; rintro e w' ⟨rfl, rfl⟩) | (go_at_call 26; refine (word_is (by assumption)).mono ?_; rintro e w' ⟨rfl, rfl⟩))
      go_ret
      exact ⟨ret_boolF (by simp [opB, q0, (of_decide_eq_true q1)]), B0.out⟩

set_option maxRecDepth 100000 in
set_option maxHeartbeats 2000000 in
theorem l13Op_10 (ks : List FunD) (i : Nat) (hi : i < ks.length) (v : Value) (c n m : Int) (w : World) (h : funSh.slice.rep w (· < w.heap.size) [v] ks) (hf : 0 ≤ ks[i].1 ∧ ks[i].1 ≤ 20) (hl : 1 ≤ ks[i].2.length ∧ ks[i].2.length ≤ 3000) (hc : c = 10) :
    Calls Tryz.prog 56 #[v, .int .i64 i, .agg #[.int .i64 c, .int .i64 n, .int .i64 m]] w fun e w' => e = .returned (.bool (opB ks i ks[i] c n m)) ∧ Below w.heap.size w w' := by
  obtain ⟨a, cap, css, rfl, hcap, hmax, hrow, hk⟩ := funs_open h
  have hmx : (ks.length : Int) ≤ 9223372036854775807 := by unfold maxLen at hmax; omega
  have HR : Hid (RowAt w (· < w.heap.size) 2 a ks.length css ∧ ∀ i (h : i < ks.length), funSh.rep w (· < w.heap.size) (css i) ks[i]) := ⟨hrow, hk⟩
  obtain ⟨b, o, rfl, hS, hc⟩ := hrow i hi
  obtain ⟨x0, x1, a1, c1, hT, hcs, g0, -⟩ := fun_open (hk i hi)
  replace hf : 0 ≤ x0 ∧ x0 ≤ 20 := by rw [hT] at hf; exact hf
  replace hl : 1 ≤ x1.length ∧ x1.length ≤ 3000 := by rw [hT] at hl; exact hl
  rw [hT]
  rw [hcs] at hc
  have d0 : w.cell? ⟨b, o + i * 2, none⟩ = some (.int .i64 x0) := hc 0 _ rfl
  have d1 : w.cell? ⟨b, o + i * 2 + 1, none⟩ = some (.slice a1 x1.length c1) := hc 1 _ rfl
  clear hc hcs hT hrow hk h hcap hmax
  have B0 : Hid (Below w.heap.size w (w.alloc (.cells #[.int .i64 c, .int .i64 n, .int .i64 m] 90))) := (Below.refl _ _).alloc (Nat.le_refl _) _
  have t0 : (w.alloc (.cells #[.int .i64 c, .int .i64 n, .int .i64 m] 90)).cell? ⟨w.heap.size, 0, none⟩ = some (.int .i64 c) := by simp
  have t1 : (w.alloc (.cells #[.int .i64 c, .int .i64 n, .int .i64 m] 90)).cell? ⟨w.heap.size, 1, none⟩ = some (.int .i64 n) := by simp
  have t2 : (w.alloc (.cells #[.int .i64 c, .int .i64 n, .int .i64 m] 90)).cell? ⟨w.heap.size, 2, none⟩ = some (.int .i64 m) := by simp
  have e0 := (B0.out.cell (p := ⟨b, o + i * 2, none⟩) hS).trans d0
  have e1 := (B0.out.cell (p := ⟨b, o + i * 2 + 1, none⟩) hS).trans d1
  have hiI : (i : Int) < (ks.length : Int) := by omega
  clear d0 d1
  subst hc
  rcases q0 : inB n 0 59 with _ | _
  · -- false
    go_enter Tryz.func56, Tryz.ntmps56
    go_wp2_with (first | (go_at_call 23; refine (in_is (by assumption)).mono ?_; rintro e w' ⟨rfl, rfl⟩) | (go_at_call 79; refine (tag_is (by assumption)).mono ?_; rintro e w' ⟨rfl, rfl⟩) | (go_at_call 26; refine (word_is (by assumption)).mono ?_; rintro e w' ⟨rfl, rfl⟩))
    go_ret
    exact ⟨ret_boolF (by simp [opB, q0]), B0.out⟩
  · -- true
    rcases q1 : inB m 0 ((x1.length : Int) - 1) with _ | _
    · -- false
      go_enter Tryz.func56, Tryz.ntmps56
      go_wp2_with (first | (go_at_call 23; refine (in_is (by assumption)).mono ?_; rintro e w' ⟨rfl, rfl⟩) | (go_at_call 79; refine (tag_is (by assumption)).mono ?_; rintro e w' ⟨rfl, rfl⟩) | (go_at_call 26; refine (word_is (by assumption)).mono ?_; rintro e w' ⟨rfl, rfl⟩))
      go_ret
      exact ⟨ret_boolF (by simp [opB, q0, q1]), B0.out⟩
    · -- true
      go_enter Tryz.func56, Tryz.ntmps56
      go_wp2_with (first | (go_at_call 23; refine (in_is (by assumption)).mono ?_; rintro e w' ⟨rfl, rfl⟩) | (go_at_call 79; refine (tag_is (by assumption)).mono ?_; rintro e w' ⟨rfl, rfl⟩) | (go_at_call 26; refine (word_is (by assumption)).mono ?_; rintro e w' ⟨rfl, rfl⟩))
      go_ret
      exact ⟨ret_boolF (by simp [opB, q0, q1]), B0.out⟩

set_option maxRecDepth 100000 in
set_option maxHeartbeats 2000000 in
theorem l13Op_11 (ks : List FunD) (i : Nat) (hi : i < ks.length) (v : Value) (c n m : Int) (w : World) (h : funSh.slice.rep w (· < w.heap.size) [v] ks) (hf : 0 ≤ ks[i].1 ∧ ks[i].1 ≤ 20) (hl : 1 ≤ ks[i].2.length ∧ ks[i].2.length ≤ 3000) (hc : c = 11) :
    Calls Tryz.prog 56 #[v, .int .i64 i, .agg #[.int .i64 c, .int .i64 n, .int .i64 m]] w fun e w' => e = .returned (.bool (opB ks i ks[i] c n m)) ∧ Below w.heap.size w w' := by
  obtain ⟨a, cap, css, rfl, hcap, hmax, hrow, hk⟩ := funs_open h
  have hmx : (ks.length : Int) ≤ 9223372036854775807 := by unfold maxLen at hmax; omega
  have HR : Hid (RowAt w (· < w.heap.size) 2 a ks.length css ∧ ∀ i (h : i < ks.length), funSh.rep w (· < w.heap.size) (css i) ks[i]) := ⟨hrow, hk⟩
  obtain ⟨b, o, rfl, hS, hc⟩ := hrow i hi
  obtain ⟨x0, x1, a1, c1, hT, hcs, g0, -⟩ := fun_open (hk i hi)
  replace hf : 0 ≤ x0 ∧ x0 ≤ 20 := by rw [hT] at hf; exact hf
  replace hl : 1 ≤ x1.length ∧ x1.length ≤ 3000 := by rw [hT] at hl; exact hl
  rw [hT]
  rw [hcs] at hc
  have d0 : w.cell? ⟨b, o + i * 2, none⟩ = some (.int .i64 x0) := hc 0 _ rfl
  have d1 : w.cell? ⟨b, o + i * 2 + 1, none⟩ = some (.slice a1 x1.length c1) := hc 1 _ rfl
  clear hc hcs hT hrow hk h hcap hmax
  have B0 : Hid (Below w.heap.size w (w.alloc (.cells #[.int .i64 c, .int .i64 n, .int .i64 m] 90))) := (Below.refl _ _).alloc (Nat.le_refl _) _
  have t0 : (w.alloc (.cells #[.int .i64 c, .int .i64 n, .int .i64 m] 90)).cell? ⟨w.heap.size, 0, none⟩ = some (.int .i64 c) := by simp
  have t1 : (w.alloc (.cells #[.int .i64 c, .int .i64 n, .int .i64 m] 90)).cell? ⟨w.heap.size, 1, none⟩ = some (.int .i64 n) := by simp
  have t2 : (w.alloc (.cells #[.int .i64 c, .int .i64 n, .int .i64 m] 90)).cell? ⟨w.heap.size, 2, none⟩ = some (.int .i64 m) := by simp
  have e0 := (B0.out.cell (p := ⟨b, o + i * 2, none⟩) hS).trans d0
  have e1 := (B0.out.cell (p := ⟨b, o + i * 2 + 1, none⟩) hS).trans d1
  have hiI : (i : Int) < (ks.length : Int) := by omega
  clear d0 d1
  subst hc
  rcases q0 : inB n (-1073741824) 1073741823 with _ | _
  · -- false
    go_enter Tryz.func56, Tryz.ntmps56
    go_wp2_with (first | (go_at_call 23; refine (in_is (by assumption)).mono ?_; rintro e w' ⟨rfl, rfl⟩) | (go_at_call 79; refine (tag_is (by assumption)).mono ?_; rintro e w' ⟨rfl, rfl⟩) | (go_at_call 26; refine (word_is (by assumption)).mono ?_; rintro e w' ⟨rfl, rfl⟩))
    go_ret
    exact ⟨ret_boolF (by simp [opB, q0]), B0.out⟩
  · -- true
    rcases q1 : inB m 0 ((x1.length : Int) - 1) with _ | _
    · -- false
      go_enter Tryz.func56, Tryz.ntmps56
      go_wp2_with (first | (go_at_call 23; refine (in_is (by assumption)).mono ?_; rintro e w' ⟨rfl, rfl⟩) | (go_at_call 79; refine (tag_is (by assumption)).mono ?_; rintro e w' ⟨rfl, rfl⟩) | (go_at_call 26; refine (word_is (by assumption)).mono ?_; rintro e w' ⟨rfl, rfl⟩))
      go_ret
      exact ⟨ret_boolF (by simp [opB, q0, q1]), B0.out⟩
    · -- true
      go_enter Tryz.func56, Tryz.ntmps56
      go_wp2_with (first | (go_at_call 23; refine (in_is (by assumption)).mono ?_; rintro e w' ⟨rfl, rfl⟩) | (go_at_call 79; refine (tag_is (by assumption)).mono ?_; rintro e w' ⟨rfl, rfl⟩) | (go_at_call 26; refine (word_is (by assumption)).mono ?_; rintro e w' ⟨rfl, rfl⟩))
      go_ret
      exact ⟨ret_boolF (by simp [opB, q0, q1]), B0.out⟩

set_option maxRecDepth 100000 in
set_option maxHeartbeats 2000000 in
theorem l13Op_18 (ks : List FunD) (i : Nat) (hi : i < ks.length) (v : Value) (c n m : Int) (w : World) (h : funSh.slice.rep w (· < w.heap.size) [v] ks) (hf : 0 ≤ ks[i].1 ∧ ks[i].1 ≤ 20) (hl : 1 ≤ ks[i].2.length ∧ ks[i].2.length ≤ 3000) (hc : c = 18) :
    Calls Tryz.prog 56 #[v, .int .i64 i, .agg #[.int .i64 c, .int .i64 n, .int .i64 m]] w fun e w' => e = .returned (.bool (opB ks i ks[i] c n m)) ∧ Below w.heap.size w w' := by
  obtain ⟨a, cap, css, rfl, hcap, hmax, hrow, hk⟩ := funs_open h
  have hmx : (ks.length : Int) ≤ 9223372036854775807 := by unfold maxLen at hmax; omega
  have HR : Hid (RowAt w (· < w.heap.size) 2 a ks.length css ∧ ∀ i (h : i < ks.length), funSh.rep w (· < w.heap.size) (css i) ks[i]) := ⟨hrow, hk⟩
  obtain ⟨b, o, rfl, hS, hc⟩ := hrow i hi
  obtain ⟨x0, x1, a1, c1, hT, hcs, g0, -⟩ := fun_open (hk i hi)
  replace hf : 0 ≤ x0 ∧ x0 ≤ 20 := by rw [hT] at hf; exact hf
  replace hl : 1 ≤ x1.length ∧ x1.length ≤ 3000 := by rw [hT] at hl; exact hl
  rw [hT]
  rw [hcs] at hc
  have d0 : w.cell? ⟨b, o + i * 2, none⟩ = some (.int .i64 x0) := hc 0 _ rfl
  have d1 : w.cell? ⟨b, o + i * 2 + 1, none⟩ = some (.slice a1 x1.length c1) := hc 1 _ rfl
  clear hc hcs hT hrow hk h hcap hmax
  have B0 : Hid (Below w.heap.size w (w.alloc (.cells #[.int .i64 c, .int .i64 n, .int .i64 m] 90))) := (Below.refl _ _).alloc (Nat.le_refl _) _
  have t0 : (w.alloc (.cells #[.int .i64 c, .int .i64 n, .int .i64 m] 90)).cell? ⟨w.heap.size, 0, none⟩ = some (.int .i64 c) := by simp
  have t1 : (w.alloc (.cells #[.int .i64 c, .int .i64 n, .int .i64 m] 90)).cell? ⟨w.heap.size, 1, none⟩ = some (.int .i64 n) := by simp
  have t2 : (w.alloc (.cells #[.int .i64 c, .int .i64 n, .int .i64 m] 90)).cell? ⟨w.heap.size, 2, none⟩ = some (.int .i64 m) := by simp
  have e0 := (B0.out.cell (p := ⟨b, o + i * 2, none⟩) hS).trans d0
  have e1 := (B0.out.cell (p := ⟨b, o + i * 2 + 1, none⟩) hS).trans d1
  have hiI : (i : Int) < (ks.length : Int) := by omega
  clear d0 d1
  subst hc
  rcases q0 : inB n 0 ((x1.length : Int) - 1) with _ | _
  · -- false
    go_enter Tryz.func56, Tryz.ntmps56
    go_wp2_with (first | (go_at_call 23; refine (in_is (by assumption)).mono ?_; rintro e w' ⟨rfl, rfl⟩) | (go_at_call 79; refine (tag_is (by assumption)).mono ?_; rintro e w' ⟨rfl, rfl⟩) | (go_at_call 26; refine (word_is (by assumption)).mono ?_; rintro e w' ⟨rfl, rfl⟩))
    go_ret
    exact ⟨ret_boolF (by simp [opB, q0]), B0.out⟩
  · -- true
    rcases q1 : decide (m = 0) with _ | _
    · -- false
      have q1b : (m == 0) = false := by have := of_decide_eq_false q1; simp [this]
      go_enter Tryz.func56, Tryz.ntmps56
      go_wp2_with (first | (go_at_call 23; refine (in_is (by assumption)).mono ?_; rintro e w' ⟨rfl, rfl⟩) | (go_at_call 79; refine (tag_is (by assumption)).mono ?_; rintro e w' ⟨rfl, rfl⟩) | (go_at_call 26; refine (word_is (by assumption)).mono ?_; rintro e w' ⟨rfl, rfl⟩))
      go_ret
      exact ⟨ret_boolF (by simp [opB, q0, (of_decide_eq_false q1)]), B0.out⟩
    · -- true
      have q1b : (m == 0) = true := by have := of_decide_eq_true q1; simp [this]
      go_enter Tryz.func56, Tryz.ntmps56
      go_wp2_with (first | (go_at_call 23; refine (in_is (by assumption)).mono ?_; rintro e w' ⟨rfl, rfl⟩) | (go_at_call 79; refine (tag_is (by assumption)).mono ?_; rintro e w' ⟨rfl, rfl⟩) | (go_at_call 26; refine (word_is (by assumption)).mono ?_; rintro e w' ⟨rfl, rfl⟩))
      go_ret
      exact ⟨ret_boolF (by simp [opB, q0, (of_decide_eq_true q1)]), B0.out⟩

set_option maxRecDepth 100000 in
set_option maxHeartbeats 2000000 in
theorem l13Op_19 (ks : List FunD) (i : Nat) (hi : i < ks.length) (v : Value) (c n m : Int) (w : World) (h : funSh.slice.rep w (· < w.heap.size) [v] ks) (hf : 0 ≤ ks[i].1 ∧ ks[i].1 ≤ 20) (hl : 1 ≤ ks[i].2.length ∧ ks[i].2.length ≤ 3000) (hc : c = 19) :
    Calls Tryz.prog 56 #[v, .int .i64 i, .agg #[.int .i64 c, .int .i64 n, .int .i64 m]] w fun e w' => e = .returned (.bool (opB ks i ks[i] c n m)) ∧ Below w.heap.size w w' := by
  obtain ⟨a, cap, css, rfl, hcap, hmax, hrow, hk⟩ := funs_open h
  have hmx : (ks.length : Int) ≤ 9223372036854775807 := by unfold maxLen at hmax; omega
  have HR : Hid (RowAt w (· < w.heap.size) 2 a ks.length css ∧ ∀ i (h : i < ks.length), funSh.rep w (· < w.heap.size) (css i) ks[i]) := ⟨hrow, hk⟩
  obtain ⟨b, o, rfl, hS, hc⟩ := hrow i hi
  obtain ⟨x0, x1, a1, c1, hT, hcs, g0, -⟩ := fun_open (hk i hi)
  replace hf : 0 ≤ x0 ∧ x0 ≤ 20 := by rw [hT] at hf; exact hf
  replace hl : 1 ≤ x1.length ∧ x1.length ≤ 3000 := by rw [hT] at hl; exact hl
  rw [hT]
  rw [hcs] at hc
  have d0 : w.cell? ⟨b, o + i * 2, none⟩ = some (.int .i64 x0) := hc 0 _ rfl
  have d1 : w.cell? ⟨b, o + i * 2 + 1, none⟩ = some (.slice a1 x1.length c1) := hc 1 _ rfl
  clear hc hcs hT hrow hk h hcap hmax
  have B0 : Hid (Below w.heap.size w (w.alloc (.cells #[.int .i64 c, .int .i64 n, .int .i64 m] 90))) := (Below.refl _ _).alloc (Nat.le_refl _) _
  have t0 : (w.alloc (.cells #[.int .i64 c, .int .i64 n, .int .i64 m] 90)).cell? ⟨w.heap.size, 0, none⟩ = some (.int .i64 c) := by simp
  have t1 : (w.alloc (.cells #[.int .i64 c, .int .i64 n, .int .i64 m] 90)).cell? ⟨w.heap.size, 1, none⟩ = some (.int .i64 n) := by simp
  have t2 : (w.alloc (.cells #[.int .i64 c, .int .i64 n, .int .i64 m] 90)).cell? ⟨w.heap.size, 2, none⟩ = some (.int .i64 m) := by simp
  have e0 := (B0.out.cell (p := ⟨b, o + i * 2, none⟩) hS).trans d0
  have e1 := (B0.out.cell (p := ⟨b, o + i * 2 + 1, none⟩) hS).trans d1
  have hiI : (i : Int) < (ks.length : Int) := by omega
  clear d0 d1
  subst hc
  rcases q0 : inB n 0 ((x1.length : Int) - 1) with _ | _
  · -- false
    go_enter Tryz.func56, Tryz.ntmps56
    go_wp2_with (first | (go_at_call 23; refine (in_is (by assumption)).mono ?_; rintro e w' ⟨rfl, rfl⟩) | (go_at_call 79; refine (tag_is (by assumption)).mono ?_; rintro e w' ⟨rfl, rfl⟩) | (go_at_call 26; refine (word_is (by assumption)).mono ?_; rintro e w' ⟨rfl, rfl⟩))
    go_ret
    exact ⟨ret_boolF (by simp [opB, q0]), B0.out⟩
  · -- true
    rcases q1 : decide (m = 0) with _ | _
    · -- false
      have q1b : (m == 0) = false := by have := of_decide_eq_false q1; simp [this]
      go_enter Tryz.func56, Tryz.ntmps56
      go_wp2_with (first | (go_at_call 23; refine (in_is (by assumption)).mono ?_; rintro e w' ⟨rfl, rfl⟩) | (go_at_call 79; refine (tag_is (by assumption)).mono ?_; rintro e w' ⟨rfl, rfl⟩) | (go_at_call 26; refine (word_is (by assumption)).mono ?_; rintro e w' ⟨rfl, rfl⟩))
      go_ret
      exact ⟨ret_boolF (by simp [opB, q0, (of_decide_eq_false q1)]), B0.out⟩
    · -- true
      have q1b : (m == 0) = true := by have := of_decide_eq_true q1; simp [this]
      go_enter Tryz.func56, Tryz.ntmps56
      go_wp2_with (first | (go_at_call 23; refine (in_is (by assumption)).mono ?_; rintro e w' ⟨rfl, rfl⟩) | (go_at_call 79; refine (tag_is (by assumption)).mono ?_; rintro e w' ⟨rfl, rfl⟩) | (go_at_call 26; refine (word_is (by assumption)).mono ?_; rintro e w' ⟨rfl, rfl⟩))
      go_ret
      exact ⟨ret_boolF (by simp [opB, q0, (of_decide_eq_true q1)]), B0.out⟩

set_option maxRecDepth 100000 in
set_option maxHeartbeats 2000000 in
theorem l13Op_0 (ks : List FunD) (i : Nat) (hi : i < ks.length) (v : Value) (c n m : Int) (w : World) (h : funSh.slice.rep w (· < w.heap.size) [v] ks) (hf : 0 ≤ ks[i].1 ∧ ks[i].1 ≤ 20) (hl : 1 ≤ ks[i].2.length ∧ ks[i].2.length ≤ 3000) (hc1 : ¬ c = 1) (hc2 : ¬ c = 2) (hc3 : ¬ c = 3) (hc4 : ¬ c = 4) (hc5 : ¬ c = 5) (hc8 : ¬ c = 8) (hc9 : ¬ c = 9) (hc10 : ¬ c = 10) (hc11 : ¬ c = 11) (hc18 : ¬ c = 18) (hc19 : ¬ c = 19) :
    Calls Tryz.prog 56 #[v, .int .i64 i, .agg #[.int .i64 c, .int .i64 n, .int .i64 m]] w fun e w' => e = .returned (.bool (opB ks i ks[i] c n m)) ∧ Below w.heap.size w w' := by
  obtain ⟨a, cap, css, rfl, hcap, hmax, hrow, hk⟩ := funs_open h
  have hmx : (ks.length : Int) ≤ 9223372036854775807 := by unfold maxLen at hmax; omega
  have HR : Hid (RowAt w (· < w.heap.size) 2 a ks.length css ∧ ∀ i (h : i < ks.length), funSh.rep w (· < w.heap.size) (css i) ks[i]) := ⟨hrow, hk⟩
  obtain ⟨b, o, rfl, hS, hc⟩ := hrow i hi
  obtain ⟨x0, x1, a1, c1, hT, hcs, g0, -⟩ := fun_open (hk i hi)
  replace hf : 0 ≤ x0 ∧ x0 ≤ 20 := by rw [hT] at hf; exact hf
  replace hl : 1 ≤ x1.length ∧ x1.length ≤ 3000 := by rw [hT] at hl; exact hl
  rw [hT]
  rw [hcs] at hc
  have d0 : w.cell? ⟨b, o + i * 2, none⟩ = some (.int .i64 x0) := hc 0 _ rfl
  have d1 : w.cell? ⟨b, o + i * 2 + 1, none⟩ = some (.slice a1 x1.length c1) := hc 1 _ rfl
  clear hc hcs hT hrow hk h hcap hmax
  have B0 : Hid (Below w.heap.size w (w.alloc (.cells #[.int .i64 c, .int .i64 n, .int .i64 m] 90))) := (Below.refl _ _).alloc (Nat.le_refl _) _
  have t0 : (w.alloc (.cells #[.int .i64 c, .int .i64 n, .int .i64 m] 90)).cell? ⟨w.heap.size, 0, none⟩ = some (.int .i64 c) := by simp
  have t1 : (w.alloc (.cells #[.int .i64 c, .int .i64 n, .int .i64 m] 90)).cell? ⟨w.heap.size, 1, none⟩ = some (.int .i64 n) := by simp
  have t2 : (w.alloc (.cells #[.int .i64 c, .int .i64 n, .int .i64 m] 90)).cell? ⟨w.heap.size, 2, none⟩ = some (.int .i64 m) := by simp
  have e0 := (B0.out.cell (p := ⟨b, o + i * 2, none⟩) hS).trans d0
  have e1 := (B0.out.cell (p := ⟨b, o + i * 2 + 1, none⟩) hS).trans d1
  have hiI : (i : Int) < (ks.length : Int) := by omega
  clear d0 d1
  rcases q0 : inB c 1 21 with _ | _
  · -- false
    have s0 : decide (c = 1) = false := by simp; omega
    have s2 : decide (c = 2) = false := by simp; omega
    have s3 : decide (c = 3) = false := by simp; omega
    have s4 : decide (c = 4) = false := by simp; omega
    have s5 : decide (c = 5) = false := by simp; omega
    have s8 : decide (c = 8) = false := by simp; omega
    have s9 : decide (c = 9) = false := by simp; omega
    have s10 : decide (c = 10) = false := by simp; omega
    have s11 : decide (c = 11) = false := by simp; omega
    have s18 : decide (c = 18) = false := by simp; omega
    have s19 : decide (c = 19) = false := by simp; omega
    go_enter Tryz.func56, Tryz.ntmps56
    go_wp2_with (first | (go_at_call 23; refine (in_is (by assumption)).mono ?_; rintro e w' ⟨rfl, rfl⟩) | (go_at_call 79; refine (tag_is (by assumption)).mono ?_; rintro e w' ⟨rfl, rfl⟩) | (go_at_call 26; refine (word_is (by assumption)).mono ?_; rintro e w' ⟨rfl, rfl⟩))
    go_ret
    exact ⟨ret_boolF (by simp [opB, q0, hc1, hc2, hc3, hc4, hc5, hc8, hc9, hc10, hc11, hc18, hc19]), B0.out⟩
  · -- true
    rcases q1 : decide (n = 0) with _ | _
    · -- false
      have q1b : (n == 0) = false := by have := of_decide_eq_false q1; simp [this]
      have s0 : decide (c = 1) = false := by simp; omega
      have s2 : decide (c = 2) = false := by simp; omega
      have s3 : decide (c = 3) = false := by simp; omega
      have s4 : decide (c = 4) = false := by simp; omega
      have s5 : decide (c = 5) = false := by simp; omega
      have s8 : decide (c = 8) = false := by simp; omega
      have s9 : decide (c = 9) = false := by simp; omega
      have s10 : decide (c = 10) = false := by simp; omega
      have s11 : decide (c = 11) = false := by simp; omega
      have s18 : decide (c = 18) = false := by simp; omega
      have s19 : decide (c = 19) = false := by simp; omega
      go_enter Tryz.func56, Tryz.ntmps56
      go_wp2_with (first | (go_at_call 23; refine (in_is (by assumption)).mono ?_; rintro e w' ⟨rfl, rfl⟩) | (go_at_call 79; refine (tag_is (by assumption)).mono ?_; rintro e w' ⟨rfl, rfl⟩) | (go_at_call 26; refine (word_is (by assumption)).mono ?_; rintro e w' ⟨rfl, rfl⟩))
      go_ret
      exact ⟨ret_boolF (by simp [opB, q0, (of_decide_eq_false q1), hc1, hc2, hc3, hc4, hc5, hc8, hc9, hc10, hc11, hc18, hc19]), B0.out⟩
    · -- true
      have q1b : (n == 0) = true := by have := of_decide_eq_true q1; simp [this]
      rcases q2 : decide (m = 0) with _ | _
      · -- false
        have q2b : (m == 0) = false := by have := of_decide_eq_false q2; simp [this]
        have s0 : decide (c = 1) = false := by simp; omega
        have s2 : decide (c = 2) = false := by simp; omega
        have s3 : decide (c = 3) = false := by simp; omega
        have s4 : decide (c = 4) = false := by simp; omega
        have s5 : decide (c = 5) = false := by simp; omega
        have s8 : decide (c = 8) = false := by simp; omega
        have s9 : decide (c = 9) = false := by simp; omega
        have s10 : decide (c = 10) = false := by simp; omega
        have s11 : decide (c = 11) = false := by simp; omega
        have s18 : decide (c = 18) = false := by simp; omega
        have s19 : decide (c = 19) = false := by simp; omega
        go_enter Tryz.func56, Tryz.ntmps56
        go_wp2_with (first | (go_at_call 23; refine (in_is (by assumption)).mono ?_; rintro e w' ⟨rfl, rfl⟩) | (go_at_call 79; refine (tag_is (by assumption)).mono ?_; rintro e w' ⟨rfl, rfl⟩) | (go_at_call 26; refine (word_is (by assumption)).mono ?_; rintro e w' ⟨rfl, rfl⟩))
        go_ret
        exact ⟨ret_boolF (by simp [opB, q0, (of_decide_eq_true q1), (of_decide_eq_false q2), hc1, hc2, hc3, hc4, hc5, hc8, hc9, hc10, hc11, hc18, hc19]), B0.out⟩
      · -- true
        have q2b : (m == 0) = true := by have := of_decide_eq_true q2; simp [this]
        have s0 : decide (c = 1) = false := by simp; omega
        have s2 : decide (c = 2) = false := by simp; omega
        have s3 : decide (c = 3) = false := by simp; omega
        have s4 : decide (c = 4) = false := by simp; omega
        have s5 : decide (c = 5) = false := by simp; omega
        have s8 : decide (c = 8) = false := by simp; omega
        have s9 : decide (c = 9) = false := by simp; omega
        have s10 : decide (c = 10) = false := by simp; omega
        have s11 : decide (c = 11) = false := by simp; omega
        have s18 : decide (c = 18) = false := by simp; omega
        have s19 : decide (c = 19) = false := by simp; omega
        go_enter Tryz.func56, Tryz.ntmps56
        go_wp2_with (first | (go_at_call 23; refine (in_is (by assumption)).mono ?_; rintro e w' ⟨rfl, rfl⟩) | (go_at_call 79; refine (tag_is (by assumption)).mono ?_; rintro e w' ⟨rfl, rfl⟩) | (go_at_call 26; refine (word_is (by assumption)).mono ?_; rintro e w' ⟨rfl, rfl⟩))
        go_ret
        exact ⟨ret_boolF (by simp [opB, q0, (of_decide_eq_true q1), (of_decide_eq_true q2), hc1, hc2, hc3, hc4, hc5, hc8, hc9, hc10, hc11, hc18, hc19]), B0.out⟩

theorem l13Op_any (ks : List FunD) (i : Nat) (hi : i < ks.length) (v : Value) (c n m : Int) (w : World) (h : funSh.slice.rep w (· < w.heap.size) [v] ks) (hf : 0 ≤ ks[i].1 ∧ ks[i].1 ≤ 20) (hl : 1 ≤ ks[i].2.length ∧ ks[i].2.length ≤ 3000) :
    Calls Tryz.prog 56 #[v, .int .i64 i, .agg #[.int .i64 c, .int .i64 n, .int .i64 m]] w fun e w' => e = .returned (.bool (opB ks i ks[i] c n m)) ∧ Below w.heap.size w w' := by
  by_cases hc1 : c = 1
  · exact l13Op_1 ks i hi v c n m w h hf hl hc1
  by_cases hc2 : c = 2
  · exact l13Op_2 ks i hi v c n m w h hf hl hc2
  by_cases hc3 : c = 3
  · exact l13Op_3 ks i hi v c n m w h hf hl hc3
  by_cases hc4 : c = 4
  · exact l13Op_4 ks i hi v c n m w h hf hl hc4
  by_cases hc5 : c = 5
  · exact l13Op_5 ks i hi v c n m w h hf hl hc5
  by_cases hc8 : c = 8
  · exact l13Op_8 ks i hi v c n m w h hf hl hc8
  by_cases hc9 : c = 9
  · exact l13Op_9 ks i hi v c n m w h hf hl hc9
  by_cases hc10 : c = 10
  · exact l13Op_10 ks i hi v c n m w h hf hl hc10
  by_cases hc11 : c = 11
  · exact l13Op_11 ks i hi v c n m w h hf hl hc11
  by_cases hc18 : c = 18
  · exact l13Op_18 ks i hi v c n m w h hf hl hc18
  by_cases hc19 : c = 19
  · exact l13Op_19 ks i hi v c n m w h hf hl hc19
  exact l13Op_0 ks i hi v c n m w h hf hl hc1 hc2 hc3 hc4 hc5 hc8 hc9 hc10 hc11 hc18 hc19

end Go.Proofs.YtjibmpebebephaaGreatDoor.fun
