/-
  The model's draws out of a cursor: l1Below is below its bound, l1PickInt gives one of its list; nothing but the cursor's own block has turned.
-/
import Derived.Test.YtphbbacpeojmlaaCur
namespace Go.Proofs.Ytphbbacpeojmlaa.cur
open Go.RowKit
set_option linter.unusedVariables false

theorem Cur.lt {B p : Nat} {w : World} (hc : Cur B w p) : p < w.heap.size := by
  obtain ⟨a, len, cap, i, h, hp, hi, hC, hB⟩ := hc
  rcases Nat.lt_or_ge p w.heap.size with h' | h'
  · exact h'
  · rw [Array.getElem?_eq_none h'] at hp; cases hp
theorem Cur.le {B p : Nat} {w : World} (hc : Cur B w p) : B ≤ p := hc.choose_spec.choose_spec.choose_spec.choose_spec.choose_spec.2.2.2
theorem Cur.on {B p : Nat} {w w' : World} (hc : Cur B w p) (hg : w.grownBy w' none) : Cur B w' p := by
  have hlt := hc.lt
  obtain ⟨a, len, cap, i, h, hp, hi, hC, hB⟩ := hc
  exact ⟨a, len, cap, i, h, by rw [hg.block p hlt (by simp)]; exact hp, hi, hC.of_cells fun ad had => World.cell?_of_block (hg.block ad.block (by omega) (by simp)), hB⟩

set_option maxHeartbeats 400000 in
/-- l1Below, at a bound up to 256. -/
theorem below_small (B p : Nat) (n : Int) (w : World) (hc : Cur B w p) (h0 : 0 < n) (h1 : n ≤ 256) :
    Calls Try.prog 27 #[.pointer (some ⟨p, 0, none⟩), .int .i64 n] w fun e w' => ∃ x : Int, e = .returned (.int .i64 x) ∧ 0 ≤ x ∧ x < n ∧ Cur B w' p ∧ w.grownBy w' (some p) := by
  have HC : Hid (Cur B w p) := hc
  clear hc
  have t1 : decide (n ≤ 0) = false := by simp; omega
  have t2 : decide (n ≤ 256) = true := by simp; omega
  have t3 : (n == 0) = false := beq_eq_false_iff_ne.2 (by omega)
  go_enter Try.func27, Try.ntmps27
  go_wp2_with fail
  refine (byte_any B p _ HC.out).mono ?_
  rintro e w1 ⟨x, rfl, hx0, hx1, hc1, hg1⟩
  have H1 : Hid (Cur B w1 p) := hc1
  have G1 : Hid (w.grownBy w1 (some p)) := hg1
  clear hc1 hg1
  go_wp2
  go_ret
  exact ⟨_, rfl, Int.emod_nonneg _ (by omega), Int.emod_lt_of_pos _ h0, H1.out, G1.out⟩

set_option maxHeartbeats 400000 in
/-- l1PickInt: one of the list. -/
theorem pickInt_any (B p q n : Nat) (w : World) (hc : Cur B w p) (h0 : 0 < n) (h1 : n ≤ 256) (hq : q ≠ p) (hqw : q < w.heap.size)
    (hz : ∀ j, j < n → ∃ z : Int, w.cell? ⟨q, j, none⟩ = some (.int .i64 z) ∧ -9223372036854775808 ≤ z ∧ z ≤ 9223372036854775807) :
    Calls Try.prog 23 #[.pointer (some ⟨p, 0, none⟩), .slice (some ⟨q, 0, none⟩) n n] w fun e w' => ∃ x : Int, e = .returned (.int .i64 x) ∧ -9223372036854775808 ≤ x ∧ x ≤ 9223372036854775807 ∧ Cur B w' p ∧ w.grownBy w' (some p) := by
  have HC : Hid (Cur B w p) := hc
  have HZ : Hid (∀ j, j < n → ∃ z : Int, w.cell? ⟨q, j, none⟩ = some (.int .i64 z) ∧ -9223372036854775808 ≤ z ∧ z ≤ 9223372036854775807) := hz
  clear hc hz
  go_enter Try.func23, Try.ntmps23
  go_wp2_with fail
  refine (below_small B p (n : Int) _ HC.out (by omega) (by omega)).mono ?_
  rintro e w1 ⟨x, rfl, hx0, hx1, hc1, hg1⟩
  have H1 : Hid (Cur B w1 p) := hc1
  have G1 : Hid (w.grownBy w1 (some p)) := hg1
  clear hc1 hg1
  obtain ⟨k, rfl⟩ := Int.eq_ofNat_of_zero_le hx0
  obtain ⟨z, hz1, hz2, hz3⟩ := HZ.out k (by omega)
  have hcell : w1.cell? ⟨q, k, none⟩ = some (.int .i64 z) := by
    rw [World.cell?_of_block (G1.out.block q hqw (by simpa using hq))]; exact hz1
  clear hz1
  go_wp2
  go_ret
  exact ⟨z, rfl, hz2, hz3, H1.out, G1.out⟩

end Go.Proofs.Ytphbbacpeojmlaa.cur
