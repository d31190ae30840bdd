/-
  The model's draws of chapter 1: an int within its bounds, a text of at most 22 bytes; of what was there nothing has turned.
-/
import Derived.Test.YtckmhcjmahchnafDoorCur2
import Derived.Test.YtckmhcjmahchnafDoorWalks
import Derived.Deep.RegionWith
namespace Go.Proofs.YtckmhcjmahchnafDoor.cur
open Go.RowKit
set_option linter.unusedVariables false

theorem grown_drew {w w' : World} {row : Option Nat} (h : w.grownBy w' row) : w.grownBy w'.drew row := ⟨h.os, h.tape, h.output, h.size, h.block⟩

theorem ints_new (w : World) (zs : List Int) (t : TypeId) (hz : ∀ z ∈ zs, -9223372036854775808 ≤ z ∧ z ≤ 9223372036854775807) :
    ∀ j, j < zs.length → ∃ z : Int, (w.alloc (.cells (zs.map (Value.int .i64)).toArray t)).cell? ⟨w.heap.size, j, none⟩ = some (.int .i64 z) ∧ -9223372036854775808 ≤ z ∧ z ≤ 9223372036854775807 := by
  intro j hj
  refine ⟨zs[j], ?_, hz _ (List.getElem_mem hj)⟩
  rw [World.cell?_alloc_new]
  simp [hj]
theorem strs_new (w : World) (ss : List ByteArray) (t : TypeId) (m : Nat) (hz : ∀ s ∈ ss, s.size ≤ m) :
    ∀ j, j < ss.length → ∃ s : ByteArray, (w.alloc (.cells (ss.map Value.string).toArray t)).cell? ⟨w.heap.size, j, none⟩ = some (.string s) ∧ s.size ≤ m := by
  intro j hj
  refine ⟨ss[j], ?_, hz _ (List.getElem_mem hj)⟩
  rw [World.cell?_alloc_new]
  simp [hj]

set_option maxHeartbeats 400000 in
theorem drawAny_any (B p : Nat) (w : World) (hc : Cur B w p) :
    Calls Tryd.prog 17 #[.pointer (some ⟨p, 0, none⟩)] w fun e w' => ∃ x : Int, e = .returned (.int .i64 x) ∧ -9223372036854775808 ≤ x ∧ x ≤ 9223372036854775807 ∧ Cur B w' p ∧ w.grownBy w' (some p) := by
  have hlt := hc.lt
  have HC : Hid (Cur B w p) := hc
  clear hc
  go_enter Tryd.func17, Tryd.ntmps17
  go_wp2_with fail
  refine (pickInt_any B p w.heap.size 10 _ (HC.out.on (World.grownBy_alloc _ _ none)) (by decide) (by decide) (by omega) (by simp)
    (ints_new w [0, 1, -1, 5, 1073741823, 1073741824, -1073741824, -1073741825, 9223372036854775807, -9223372036854775808] 3 (by decide))).mono ?_
  rintro e w1 ⟨x, rfl, hx0, hx1, hc1, hg1⟩
  have H1 : Hid (Cur B w1 p) := hc1
  have G1 : Hid (w.grownBy w1 (some p)) := (World.grownBy_alloc w _ (some p)).trans hg1
  clear hc1 hg1
  go_wp2
  go_ret
  exact ⟨x, rfl, hx0, hx1, H1.out, G1.out⟩

theorem below_of {B p : Nat} {w w1 w2 : World} (hB : B = w.heap.size) (h1 : w.grownBy w1 none) (h2 : w1.grownBy w2 (some p)) (hp : B ≤ p) : Below w.heap.size w w2 := by
  subst hB
  exact ((Below.refl _ w).grown h1 (Nat.le_refl _) (fun k hk => by cases hk)).grown h2 h1.size (fun k hk => by cases hk; exact hp)

set_option maxHeartbeats 400000 in
theorem drawDigits_any (a : Option Addr) (len cap : Nat) (w : World) (hC : Code w.heap.size w a len) :
    Calls Tryd.prog 5 #[.slice a len cap] w fun e w' => ∃ x : Int, e = .returned (.int .i64 x) ∧ -9223372036854775808 ≤ x ∧ x ≤ 9223372036854775807 ∧ Below w.heap.size w w' := by
  have HC : Hid (Code w.heap.size w a len) := hC
  clear hC
  go_enter Tryd.func5, Tryd.ntmps5
  go_wp2_with fail
  refine (new_any a len cap w.heap.size _ HC.out (Nat.le_refl _)).mono ?_
  rintro e w1 ⟨rfl, hc1, hg1, hs1⟩
  have H1 : Hid (Cur w.heap.size w1 w.heap.size) := hc1
  have G1 : Hid (w.grownBy w1 none) := hg1
  clear hc1 hg1 hs1
  go_wp2_with fail
  refine (drawAny_any w.heap.size w.heap.size _ H1.out).mono ?_
  rintro e w2 ⟨x, rfl, hx0, hx1, hc2, hg2⟩
  have G2 : Hid (w1.grownBy w2 (some w.heap.size)) := hg2
  clear hc2 hg2
  go_wp2
  go_ret
  exact ⟨x, rfl, hx0, hx1, below_of rfl G1.out G2.out (Nat.le_refl _)⟩

set_option maxHeartbeats 400000 in
theorem drawRound_any (a : Option Addr) (len cap : Nat) (w : World) (hC : Code w.heap.size w a len) :
    Calls Tryd.prog 12 #[.slice a len cap] w fun e w' => ∃ x : Int, e = .returned (.int .i64 x) ∧ -9223372036854775808 ≤ x ∧ x ≤ 9223372036854775807 ∧ Below w.heap.size w w' := by
  have HC : Hid (Code w.heap.size w a len) := hC
  clear hC
  go_enter Tryd.func12, Tryd.ntmps12
  go_wp2_with fail
  refine (new_any a len cap w.heap.size _ HC.out (Nat.le_refl _)).mono ?_
  rintro e w1 ⟨rfl, hc1, hg1, hs1⟩
  have H1 : Hid (Cur w.heap.size w1 w.heap.size) := hc1
  have G1 : Hid (w.grownBy w1 none) := hg1
  clear hc1 hg1 hs1
  go_wp2_with fail
  refine (drawAny_any w.heap.size w.heap.size _ H1.out).mono ?_
  rintro e w2 ⟨x, rfl, hx0, hx1, hc2, hg2⟩
  have G2 : Hid (w1.grownBy w2 (some w.heap.size)) := hg2
  clear hc2 hg2
  go_wp2
  go_ret
  exact ⟨x, rfl, hx0, hx1, below_of rfl G1.out G2.out (Nat.le_refl _)⟩

set_option maxHeartbeats 400000 in
theorem drawWordOk_any (a : Option Addr) (len cap : Nat) (w : World) (hC : Code w.heap.size w a len) :
    Calls Tryd.prog 13 #[.slice a len cap] w fun e w' => ∃ x : Int, e = .returned (.int .i64 x) ∧ -9223372036854775808 ≤ x ∧ x ≤ 9223372036854775807 ∧ Below w.heap.size w w' := by
  have HC : Hid (Code w.heap.size w a len) := hC
  clear hC
  go_enter Tryd.func13, Tryd.ntmps13
  go_wp2_with fail
  refine (new_any a len cap w.heap.size _ HC.out (Nat.le_refl _)).mono ?_
  rintro e w1 ⟨rfl, hc1, hg1, hs1⟩
  have H1 : Hid (Cur w.heap.size w1 w.heap.size) := hc1
  have G1 : Hid (w.grownBy w1 none) := hg1
  clear hc1 hg1 hs1
  go_wp2_with fail
  refine (drawAny_any w.heap.size w.heap.size _ H1.out).mono ?_
  rintro e w2 ⟨x, rfl, hx0, hx1, hc2, hg2⟩
  have G2 : Hid (w1.grownBy w2 (some w.heap.size)) := hg2
  clear hc2 hg2
  go_wp2
  go_ret
  exact ⟨x, rfl, hx0, hx1, below_of rfl G1.out G2.out (Nat.le_refl _)⟩

/-- below B, of the world ahead of a call that keeps all that was there -/
theorem grown_of_below {w w' : World} (h : Below w.heap.size w w') : w.grownBy w' none := ⟨h.os, h.tape, h.output, h.size, fun k hk _ => h.block k hk⟩

set_option maxHeartbeats 1000000 in
theorem drawNumber_any (a : Option Addr) (len cap : Nat) (w : World) (hC : Code w.heap.size w a len) :
    Calls Tryd.prog 10 #[.slice a len cap] w fun e w' => ∃ s : ByteArray, e = .returned (.string s) ∧ s.size ≤ 22 ∧ Below w.heap.size w w' := by
  have HC : Hid (Code w.heap.size w a len) := hC
  clear hC
  go_enter Tryd.func10, Tryd.ntmps10
  go_wp2_with fail
  refine (new_any a len cap w.heap.size _ HC.out (Nat.le_refl _)).mono ?_
  rintro e w1 ⟨rfl, hc1, hg1, hs1⟩
  have H1 : Hid (Cur w.heap.size w1 w.heap.size) := hc1
  have G1 : Hid (w.grownBy w1 none) := hg1
  clear hc1 hg1 hs1
  go_wp2_with fail
  refine (drawAny_any w.heap.size w.heap.size _ H1.out).mono ?_
  rintro e w2 ⟨x, rfl, hx0, hx1, hc2, hg2⟩
  have H2 : Hid (Cur w.heap.size w2 w.heap.size) := hc2
  have B2 : Hid (Below w.heap.size w w2) := below_of rfl G1.out hg2 (Nat.le_refl _)
  clear hc2 hg2 G1 H1
  go_wp2_with fail
  refine (walks.digits_any x hx0 hx1 _).mono ?_
  rintro e w3 ⟨rfl, hb3⟩
  have hsz := Lib.itoa_length_le x hx0 hx1
  obtain ⟨s, hs⟩ : ∃ s : ByteArray, s = ⟨(Lib.itoa x).toArray⟩ := ⟨_, rfl⟩
  have hss : s.size ≤ 21 := by rw [hs]; show (Lib.itoa x).toArray.size ≤ 21; simpa using hsz
  rw [← hs]
  clear hs hsz
  have H3 : Hid (Cur w.heap.size w3 w.heap.size) := H2.out.on (grown_of_below hb3)
  have B3 : Hid (Below w.heap.size w w3) := B2.out.trans (hb3.mono B2.out.size)
  clear hb3 H2 B2 hx0 hx1
  go_wp2_with fail
  refine (below_small w.heap.size w.heap.size ((s.size : Int) + 1) _ H3.out (by omega) (by omega)).mono ?_
  rintro e w4 ⟨t, rfl, ht0, ht1, hc4, hg4⟩
  have H4 : Hid (Cur w.heap.size w4 w.heap.size) := hc4
  have B4 : Hid (Below w.heap.size w w4) := B3.out.grown hg4 B3.out.size (fun k hk => by cases hk; exact Nat.le_refl _)
  clear hc4 hg4 H3 B3
  obtain ⟨k, rfl⟩ := Int.eq_ofNat_of_zero_le ht0
  go_wp2_with fail
  refine (below_small w.heap.size w.heap.size 5 _ H4.out (by omega) (by omega)).mono ?_
  rintro e w5 ⟨r, rfl, hr0, hr1, hc5, hg5⟩
  have H5 : Hid (Cur w.heap.size w5 w.heap.size) := hc5
  have B5 : Hid (Below w.heap.size w w5) := B4.out.grown hg5 B4.out.size (fun k hk => by cases hk; exact Nat.le_refl _)
  clear hc5 hg5 H4 B4
  by_cases r0 : r = 0
  · subst r0
    have hk : k ≤ s.size := by omega
    go_wp2
    have hlt5 := H5.out.lt
    have hcall := pick_any w.heap.size w.heap.size w5.heap.size 5 1 (w5.alloc (.cells #[.string ⟨#[48]⟩, .string ⟨#[45]⟩, .string ⟨#[32]⟩, .string ⟨#[120]⟩, .string ⟨#[57]⟩] 9)).drew
      (H5.out.on (grown_drew (World.grownBy_alloc w5 _ none))) (by decide) (by decide) (by omega) (by simp)
      (strs_new w5 [⟨#[48]⟩, ⟨#[45]⟩, ⟨#[32]⟩, ⟨#[120]⟩, ⟨#[57]⟩] 9 1 (by decide))
    clear hlt5
    go_region_with (go_at_call 23; refine hcall.mono ?_; rintro e w6 ⟨u, rfl, hu, hc6, hg6⟩)
    go_wp2
    go_ret
    refine ⟨_, rfl, ?_, ?_⟩
    · simp only [ByteArray.size_append, ByteArray.size_extract]; omega
    · exact (B5.out.alloc B5.out.size _).drew.grown hg6 (by have := B5.out.size; simp; omega) (fun k hk => by cases hk; exact Nat.le_refl _)
  · have e0 : (r == 0) = false := beq_eq_false_iff_ne.2 r0
    by_cases r1 : r = 1
    · subst r1
      go_wp2
      go_ret
      exact ⟨_, rfl, by simp; omega, B5.out⟩
    · have e1 : (r == 1) = false := beq_eq_false_iff_ne.2 r1
      go_wp2
      go_ret
      exact ⟨_, rfl, by omega, B5.out⟩
end Go.Proofs.YtckmhcjmahchnafDoor.cur
