/-
  The model's draws of numbers and words (chapter 17): some number; nothing that was there is turned.
-/
import Derived.Test.YtphbbacpeojmlaaDrawAny
namespace Go.Proofs.Ytphbbacpeojmlaa.cur
open Go.RowKit
set_option linter.unusedVariables false

set_option maxHeartbeats 400000 in
theorem drawIntWord_any (a : Option Addr) (len cap : Nat) (w : World) (hC : Code w.heap.size w a len) :
    Calls Try.prog 5 #[.slice a len cap] w fun e w' => ∃ x : Int, e = .returned (.int .i64 x) ∧ -9223372036854775808 ≤ x ∧ x ≤ 9223372036854775807 ∧ Below w.heap.size w w' := by
  have HC : Hid (Code w.heap.size w a len) := hC
  clear hC
  go_enter Try.func5, Try.ntmps5
  go_wp2_with fail
  refine (new_any a len cap w.heap.size _ HC.out (Nat.le_refl _)).mono ?_
  rintro e w1 ⟨rfl, hc1, hg1, hs1⟩
  have H1 : Hid (Cur w.heap.size w1 w.heap.size) := hc1
  have G1 : Hid (w.grownBy w1 none) := hg1
  clear hc1 hg1 hs1
  go_wp2_with fail
  refine (drawAny_any w.heap.size w.heap.size _ H1.out).mono ?_
  rintro e w2 ⟨x, rfl, hx0, hx1, hc2, hg2⟩
  have G2 : Hid (w1.grownBy w2 (some w.heap.size)) := hg2
  clear hc2 hg2
  go_wp2
  go_ret
  exact ⟨x, rfl, hx0, hx1, below_of rfl G1.out G2.out (Nat.le_refl _)⟩

set_option maxHeartbeats 400000 in
theorem drawRefWord_any (a : Option Addr) (len cap : Nat) (w : World) (hC : Code w.heap.size w a len) :
    Calls Try.prog 6 #[.slice a len cap] w fun e w' => ∃ x : Int, e = .returned (.int .i64 x) ∧ -9223372036854775808 ≤ x ∧ x ≤ 9223372036854775807 ∧ Below w.heap.size w w' := by
  have HC : Hid (Code w.heap.size w a len) := hC
  clear hC
  go_enter Try.func6, Try.ntmps6
  go_wp2_with fail
  refine (new_any a len cap w.heap.size _ HC.out (Nat.le_refl _)).mono ?_
  rintro e w1 ⟨rfl, hc1, hg1, hs1⟩
  have hlt := hc1.lt
  have H1 : Hid (Cur w.heap.size w1 w.heap.size) := hc1
  have G1 : Hid (w.grownBy w1 none) := hg1
  clear hc1 hg1 hs1
  go_wp2_with fail
  refine (pickInt_any w.heap.size w.heap.size w1.heap.size 7 _ (H1.out.on (World.grownBy_alloc _ _ none)) (by decide) (by decide) (by omega) (by simp)
    (ints_new w1 [0, 1, 5, 6000, 6001, -1, 9223372036854775807] 3 (by decide))).mono ?_
  rintro e w2 ⟨x, rfl, hx0, hx1, hc2, hg2⟩
  have G2 : Hid (w1.grownBy w2 (some w.heap.size)) := (World.grownBy_alloc w1 _ (some w.heap.size)).trans hg2
  clear hc2 hg2
  go_wp2
  go_ret
  exact ⟨x, rfl, hx0, hx1, below_of rfl G1.out G2.out (Nat.le_refl _)⟩

set_option maxHeartbeats 400000 in
theorem drawIsRef_any (a : Option Addr) (len cap : Nat) (w : World) (hC : Code w.heap.size w a len) :
    Calls Try.prog 11 #[.slice a len cap] w fun e w' => ∃ x : Int, e = .returned (.int .i64 x) ∧ -9223372036854775808 ≤ x ∧ x ≤ 9223372036854775807 ∧ Below w.heap.size w w' := by
  have HC : Hid (Code w.heap.size w a len) := hC
  clear hC
  go_enter Try.func11, Try.ntmps11
  go_wp2_with fail
  refine (new_any a len cap w.heap.size _ HC.out (Nat.le_refl _)).mono ?_
  rintro e w1 ⟨rfl, hc1, hg1, hs1⟩
  have hlt := hc1.lt
  have H1 : Hid (Cur w.heap.size w1 w.heap.size) := hc1
  have G1 : Hid (w.grownBy w1 none) := hg1
  clear hc1 hg1 hs1
  go_wp2_with fail
  refine (pickInt_any w.heap.size w.heap.size w1.heap.size 7 _ (H1.out.on (World.grownBy_alloc _ _ none)) (by decide) (by decide) (by omega) (by simp)
    (ints_new w1 [0, 1, 2, 3, -1, -2, 9223372036854775807] 3 (by decide))).mono ?_
  rintro e w2 ⟨x, rfl, hx0, hx1, hc2, hg2⟩
  have G2 : Hid (w1.grownBy w2 (some w.heap.size)) := (World.grownBy_alloc w1 _ (some w.heap.size)).trans hg2
  clear hc2 hg2
  go_wp2
  go_ret
  exact ⟨x, rfl, hx0, hx1, below_of rfl G1.out G2.out (Nat.le_refl _)⟩

set_option maxHeartbeats 400000 in
theorem drawWordInt_any (a : Option Addr) (len cap : Nat) (w : World) (hC : Code w.heap.size w a len) :
    Calls Try.prog 9 #[.slice a len cap] w fun e w' => ∃ x : Int, e = .returned (.int .i64 x) ∧ -9223372036854775808 ≤ x ∧ x ≤ 9223372036854775807 ∧ Below w.heap.size w w' := by
  have HC : Hid (Code w.heap.size w a len) := hC
  clear hC
  go_enter Try.func9, Try.ntmps9
  go_wp2_with fail
  refine (new_any a len cap w.heap.size _ HC.out (Nat.le_refl _)).mono ?_
  rintro e w1 ⟨rfl, hc1, hg1, hs1⟩
  have hlt := hc1.lt
  have H1 : Hid (Cur w.heap.size w1 w.heap.size) := hc1
  have G1 : Hid (w.grownBy w1 none) := hg1
  clear hc1 hg1 hs1
  go_wp2_with fail
  refine (pickInt_any w.heap.size w.heap.size w1.heap.size 8 _ (H1.out.on (World.grownBy_alloc _ _ none)) (by decide) (by decide) (by omega) (by simp)
    (ints_new w1 [0, 1, 3, -1, -3, 11, 9223372036854775807, -9223372036854775808] 3 (by decide))).mono ?_
  rintro e w2 ⟨x, rfl, hx0, hx1, hc2, hg2⟩
  have G2 : Hid (w1.grownBy w2 (some w.heap.size)) := (World.grownBy_alloc w1 _ (some w.heap.size)).trans hg2
  clear hc2 hg2
  go_wp2
  go_ret
  exact ⟨x, rfl, hx0, hx1, below_of rfl G1.out G2.out (Nat.le_refl _)⟩

set_option maxHeartbeats 400000 in
theorem drawWordRef_any (a : Option Addr) (len cap : Nat) (w : World) (hC : Code w.heap.size w a len) :
    Calls Try.prog 10 #[.slice a len cap] w fun e w' => ∃ x : Int, e = .returned (.int .i64 x) ∧ -9223372036854775808 ≤ x ∧ x ≤ 9223372036854775807 ∧ Below w.heap.size w w' := by
  have HC : Hid (Code w.heap.size w a len) := hC
  clear hC
  go_enter Try.func10, Try.ntmps10
  go_wp2_with fail
  refine (drawWordInt_any a len cap _ HC.out).mono ?_
  rintro e w1 ⟨x, rfl, hx0, hx1, hb⟩
  have B1 : Hid (Below w.heap.size w w1) := hb
  clear hb
  go_wp2
  go_ret
  exact ⟨x, rfl, hx0, hx1, B1.out⟩

end Go.Proofs.Ytphbbacpeojmlaa.cur
