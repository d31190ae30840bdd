/-
  The kids of a block of a heap at work (kidsAt): a piece of the words.
-/
import Derived.Test.YthpdkjenadngoaaGreatDoorB1
import Derived.Test.YthpdkjenadngoaaGreatDoorB2
import Derived.Test.YthpdkjenadngoaaGreatDoorB3
import Derived.Test.YthpdkjenadngoaaGreatDoorB4
import Derived.Test.YthpdkjenadngoaaGreatDoorB5
import Derived.Test.YthpdkjenadngoaaGreatDoorB6
import Derived.Test.YthpdkjenadngoaaGreatDoorB7
import Derived.Test.YthpdkjenadngoaaGreatDoorB8
import Derived.Test.YthpdkjenadngoaaGreatDoorB9
import Derived.Test.YthpdkjenadngoaaGreatDoorB10
import Derived.Test.YthpdkjenadngoaaGreatDoorB11
import Derived.Test.YthpdkjenadngoaaGreatDoorB12
import Derived.Test.YthpdkjenadngoaaGreatDoorB13
import Derived.Test.YthpdkjenadngoaaGreatDoorB14
import Derived.Test.YthpdkjenadngoaaGreatDoorB15
import Derived.Test.YthpdkjenadngoaaGreatDoorB16
import Derived.Test.YthpdkjenadngoaaGreatDoorB17
import Derived.Test.YthpdkjenadngoaaGreatDoorB18
import Derived.Test.YthpdkjenadngoaaGreatDoorB19
import Derived.Test.YthpdkjenadngoaaGreatDoorB20
import Derived.Test.YthpdkjenadngoaaGreatDoorB21
namespace Go.Proofs.YthpdkjenadngoaaGreatDoor.heap
open Go Go.RowKit Go.Proofs.YthpdkjenadngoaaGreatDoor.rose Go.Proofs.YthpdkjenadngoaaGreatDoor Go.Proofs.YthpdkjenadngoaaGreatDoor.fun Go.Proofs.YthpdkjenadngoaaGreatDoor.words Go.Proofs.YthpdkjenadngoaaGreatDoor.ints
set_option linter.unusedVariables false
set_option linter.unusedSimpArgs false

theorem getD_atH {W : List Int} {p : Nat} (h : p < W.length) : W.getD p 0 = W[p] := by rw [List.getD_eq_getElem?_getD, List.getElem?_eq_getElem h]; rfl

set_option maxRecDepth 100000 in
set_option maxHeartbeats 4000000 in
theorem kidsAt_is {B hb hm : Nat} {wv : Value} {W : List Int} {half base next : Nat} {lk : Int} {M : List Bool} {w : World} (h : HH B hb hm wv W half base next lk M w) (p mn : Nat) (hmn : (manyF (W.getD p 0)).toNat = mn) (hp : p + mn < W.length) :
    Calls Tryz.prog 51 #[.pointer (some ⟨hb, 0, none⟩), .int .i64 p] w fun e w' =>
      (∃ b o c, e = .returned (.slice (some ⟨b, o, none⟩) mn c) ∧ b < B ∧ mn ≤ c ∧ c ≤ maxLen ∧ ∀ j (hj : j < mn), ∃ hW : p + 1 + j < W.length, w.cell? ⟨b, o + j, none⟩ = some (.int .i64 W[p + 1 + j]) ∧ -9223372036854775808 ≤ W[p + 1 + j] ∧ W[p + 1 + j] ≤ 9223372036854775807) ∧ Below w.heap.size w w' := by
  have hw6 : W.length ≤ 6000 := by have := h.siz; omega
  have hlt := h.lt.1
  have hlo := h.lo
  obtain ⟨a0, c0, e, hcap, hmax, hat⟩ := ints_open h.wds
  subst e
  have HA : Hid _ := hat
  have hpl : p < W.length := by omega
  obtain ⟨b, o, rfl, hS, hc, r1, r2⟩ := hat p hpl
  have hgd := getD_atH hpl
  have c3 := h.c3
  obtain ⟨x, hx⟩ : ∃ x, x = W[p] := ⟨_, rfl⟩
  rw [← hx] at hc hgd r1 r2
  rw [hgd] at hmn
  have hm := many_in x
  have hmi : manyF x = (mn : Int) := by omega
  have hz : b < w.heap.size := by omega
  have cx := hc
  have CAP : Hid (W.length ≤ c0 ∧ c0 ≤ maxLen) := ⟨hcap, hmax⟩
  have hcc : (W.length : Int) ≤ (c0 : Int) := by omega
  have hc5 : (c0 : Int) ≤ 9223372036854775807 := by unfold maxLen at hmax; omega
  have pI : (p : Int) < (W.length : Int) := by omega
  have pmI : (p : Int) + (1 + (mn : Int)) ≤ (c0 : Int) := by omega
  have hm63 : mn ≤ 63 := by omega
  have i0 : (0 : Int) ≤ (p : Int) := by omega
  have i1 : IntKind.i64.wrap ((p : Int) + 1) = (p : Int) + 1 := by rw [IntKind.wrap_i64]; omega
  have i2 : IntKind.i64.wrap ((p : Int) + (1 + (mn : Int))) = (p : Int) + (1 + (mn : Int)) := by rw [IntKind.wrap_i64]; omega
  have i3 : (0 : Int) ≤ (p : Int) + 1 := by omega
  have i4 : (p : Int) + 1 ≤ (p : Int) + (1 + (mn : Int)) := by omega
  have K0 : Hid (Below w.heap.size w w) := Below.refl _ _
  have c3n : w.drew.cell? ⟨hb, 3, none⟩ = some (.slice (some ⟨b, o, none⟩) W.length c0) := c3
  have cxn : w.drew.cell? ⟨b, o + p, none⟩ = some (.int .i64 x) := cx
  clear h hlo hat hc hcap hmax hmn hx hgd hm
  go_enter Tryz.func51, Tryz.ntmps51
  go_wp2
  go_region_held3 (fun X => X.cell? ⟨hb, 3, none⟩ = some (.slice (some ⟨b, o, none⟩) W.length c0) ∧ X.cell? ⟨b, o + p, none⟩ = some (.int .i64 x))
    (exact ⟨(by first | with_reducible exact c3 | with_reducible exact c3n), (by first | with_reducible exact cx | with_reducible exact cxn)⟩)
    (first
      | (go_at_call 48; refine (headerOf_is x _ r1 r2).mono ?_; rintro e w1 ⟨rfl, hB⟩; have K1 : Hid (Below w.heap.size w w1) := K0.out.drew.trans hB; replace c3 : w1.cell? ⟨hb, 3, none⟩ = some (.slice (some ⟨b, o, none⟩) W.length c0) := (hB.cell (p := ⟨hb, 3, none⟩) hlt).trans c3; replace cx : w1.cell? ⟨b, o + p, none⟩ = some (.int .i64 x) := (hB.cell (p := ⟨b, o + p, none⟩) hz).trans cx; have hz1 : w.heap.size ≤ w1.heap.size := hB.size; clear hB)
      | (go_at_call 49; refine (hdrSize_is _ _ _ _ (by omega) (by omega)).mono ?_; rintro e w2 ⟨rfl, hB⟩; have K2 : Hid (Below w.heap.size w w2) := K1.out.trans (hB.mono hz1); replace c3 : w2.cell? ⟨hb, 3, none⟩ = some (.slice (some ⟨b, o, none⟩) W.length c0) := (hB.cell (p := ⟨hb, 3, none⟩) (Nat.lt_of_lt_of_le hlt hz1)).trans c3; replace cx : w2.cell? ⟨b, o + p, none⟩ = some (.int .i64 x) := (hB.cell (p := ⟨b, o + p, none⟩) (Nat.lt_of_lt_of_le hz hz1)).trans cx; clear hB))
  go_wp2
  · obtain rfl : mn = 0 := by omega
    have hC := CAP.out
    refine bodyPost_ret (v := .slice (some ⟨b, o, none⟩) 0 (c0 - (p + 1))) (by simp [results, Tryz.f51, go_sem]; omega) rfl ?_
    exact ⟨⟨b, o, c0 - (p + 1), rfl, hS, by omega, by omega, fun j hj => absurd hj (Nat.not_lt_zero _)⟩, K2.out⟩
  · have hln : ((p : Int) + (1 + (mn : Int))).toNat - (p + 1) = mn := by omega
    have hC := CAP.out
    refine bodyPost_ret (v := .slice (some ⟨b, o + (p + 1), none⟩) mn (c0 - (p + 1))) (by simp [results, Tryz.f51, go_sem, hln]) rfl ?_
    refine ⟨⟨b, o + (p + 1), c0 - (p + 1), rfl, hS, by omega, by omega, fun j hj => ?_⟩, K2.out⟩
    have hW : p + 1 + j < W.length := by omega
    obtain ⟨b', o', e, -, hc, s1, s2⟩ := HA.out (p + 1 + j) hW
    cases e
    exact ⟨hW, by rw [show o + (p + 1) + j = o + (p + 1 + j) by omega]; exact hc, s1, s2⟩

end Go.Proofs.YthpdkjenadngoaaGreatDoor.heap
