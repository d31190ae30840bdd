/-
  The program's heap at work (heldHeap): how it lies in memory; what its methods that only read answer.
  The kids of a block of a heap at work (kidsAt): a piece of the words.
-/
import Derived.Deep.QuietTactic
import Derived.BigQuiet
import Derived.Deep.RegionHeld3
import Derived.Test.YtjofmoebijdccaaGreatB1
import Derived.Test.YtjofmoebijdccaaGreatB2
import Derived.Test.YtjofmoebijdccaaGreatB3
import Derived.Test.YtjofmoebijdccaaGreatB4
import Derived.Test.YtjofmoebijdccaaGreatB5
import Derived.Test.YtjofmoebijdccaaGreatB6
import Derived.Test.YtjofmoebijdccaaGreatB7
import Derived.Test.YtjofmoebijdccaaGreatB8
import Derived.Test.YtjofmoebijdccaaGreatB9
import Derived.Test.YtjofmoebijdccaaGreatB10
import Derived.Test.YtjofmoebijdccaaGreatB11
import Derived.Test.YtjofmoebijdccaaGreatB12
import Derived.Test.YtjofmoebijdccaaGreatB13
import Derived.Test.YtjofmoebijdccaaGreatB14
import Derived.Test.YtjofmoebijdccaaGreatB15
import Derived.Test.YtjofmoebijdccaaGreatB16
import Derived.Test.YtjofmoebijdccaaGreatB17
import Derived.Test.YtjofmoebijdccaaGreatB18
import Derived.Test.YtjofmoebijdccaaGreatB19
import Derived.Test.YtjofmoebijdccaaGreatB20
import Derived.Test.YtjofmoebijdccaaGreatB21
import Derived.Test.YtjofmoebijdccaaGreatB22
namespace Go.Proofs.YtjofmoebijdccaaGreat.heap
open Go Go.RowKit Go.Proofs.YtjofmoebijdccaaGreat.rose Go.Proofs.YtjofmoebijdccaaGreat Go.Proofs.YtjofmoebijdccaaGreat.fun Go.Proofs.YtjofmoebijdccaaGreat.words Go.Proofs.YtjofmoebijdccaaGreat.ints
set_option linter.unusedVariables false
set_option linter.unusedSimpArgs false

/-- How often it was moved. -/
def timesF (base : Nat) : Int := if base = 0 then 0 else 1
/-- A heap at work: its own block hb, its marks' block hm; the words lie below B. -/
structure HH (B hb hm : Nat) (wv : Value) (W : List Int) (half base next : Nat) (lk : Int) (M : List Bool) (w : World) : Prop where
  lo : B ≤ hb ∧ B ≤ hm ∧ hb ≠ hm
  blk : w.heap[hb]? = some (.cells #[.int .i32 lk, .int .u32 0, .int .i64 (timesF base), wv, .int .i64 half, .int .i64 next, .slice (some ⟨hm, 0, none⟩) half half] 148)
  mks : w.heap[hm]? = some (.cells (M.map Value.bool).toArray 4)
  len : M.length = half
  wds : intsSh.rep w (· < B) [wv] W
  siz : W.length = 2 * half ∧ (base = 0 ∨ base = half) ∧ 1 ≤ half ∧ half ≤ 3000 ∧ base ≤ next ∧ next ≤ base + half

section
variable {B hb hm : Nat} {wv : Value} {W : List Int} {half base next : Nat} {lk : Int} {M : List Bool} {w w' : World}
theorem HH.lt (h : HH B hb hm wv W half base next lk M w) : hb < w.heap.size ∧ hm < w.heap.size := ⟨(Array.getElem?_eq_some_iff.1 h.blk).1, (Array.getElem?_eq_some_iff.1 h.mks).1⟩
theorem HH.on (h : HH B hb hm wv W half base next lk M w) (hB : Below w.heap.size w w') : HH B hb hm wv W half base next lk M w' :=
  ⟨h.lo, (hB.block hb h.lt.1).trans h.blk, (hB.block hm h.lt.2).trans h.mks, h.len, intsSh.on h.wds fun b hb' => hB.block b (by have := h.lo; have := h.lt; omega), h.siz⟩
theorem HH.same (h : HH B hb hm wv W half base next lk M w) (e : w'.heap = w.heap) : HH B hb hm wv W half base next lk M w' :=
  ⟨h.lo, by rw [e]; exact h.blk, by rw [e]; exact h.mks, h.len, intsSh.on h.wds fun b _ => by rw [e], h.siz⟩
theorem HH.drewN (h : HH B hb hm wv W half base next lk M w) (n : Nat) : HH B hb hm wv W half base next lk M (w.drewN n) := h.same rfl
theorem HH.c0 (h : HH B hb hm wv W half base next lk M w) : w.cell? ⟨hb, 0, none⟩ = some (.int .i32 lk) := by simp [World.cell?, h.blk]
theorem HH.c2 (h : HH B hb hm wv W half base next lk M w) : w.cell? ⟨hb, 2, none⟩ = some (.int .i64 (timesF base)) := by simp [World.cell?, h.blk]
theorem HH.c3 (h : HH B hb hm wv W half base next lk M w) : w.cell? ⟨hb, 3, none⟩ = some wv := by simp [World.cell?, h.blk]
theorem HH.c4 (h : HH B hb hm wv W half base next lk M w) : w.cell? ⟨hb, 4, none⟩ = some (.int .i64 half) := by simp [World.cell?, h.blk]
theorem HH.c5 (h : HH B hb hm wv W half base next lk M w) : w.cell? ⟨hb, 5, none⟩ = some (.int .i64 next) := by simp [World.cell?, h.blk]
theorem HH.c6 (h : HH B hb hm wv W half base next lk M w) : w.cell? ⟨hb, 6, none⟩ = some (.slice (some ⟨hm, 0, none⟩) half half) := by simp [World.cell?, h.blk]
theorem HH.frz (h : HH B hb hm wv W half base next lk M w) (j : Nat) : w.frozen? ⟨hb, j, none⟩ = false := by simp [World.frozen?, h.blk]
theorem HH.mfrz (h : HH B hb hm wv W half base next lk M w) (j : Nat) : w.frozen? ⟨hm, j, none⟩ = false := by simp [World.frozen?, h.mks]
theorem HH.mk_ (h : HH B hb hm wv W half base next lk M w) (j : Nat) (hj : j < half) : w.cell? ⟨hm, j, none⟩ = some (.bool (M.getD j false)) := by
  have hl : j < M.length := by rw [h.len]; exact hj
  simp [World.cell?, h.mks, List.getD, hl]
end

set_option maxHeartbeats 2000000 in
theorem base_is {B hb hm : Nat} {wv : Value} {W : List Int} {half base next : Nat} {lk : Int} {M : List Bool} {w : World} (h : HH B hb hm wv W half base next lk M w) :
    Calls Tryz.prog 91 #[.pointer (some ⟨hb, 0, none⟩)] w fun e w' => e = .returned (.int .i64 base) ∧ ∃ n, w' = w.drewN n := by
  have hs := h.siz
  have c2 := h.c2
  have c4 := h.c4
  have c2n : ∀ n, (w.drewN n).cell? ⟨hb, 2, none⟩ = some (.int .i64 (timesF base)) := fun n => h.c2
  by_cases hz : base = 0
  · subst hz
    have e : timesF 0 = 0 := rfl
    rw [e] at c2 c2n
    clear h e
    go_enter Tryz.func91, Tryz.ntmps91
    go_wp2
    go_quiet ((go_at_call 106; exact Calls.quiet_of_same (lock.load_is (c2n _))))
    go_wp2
    go_ret
    exact ⟨ret_i (by first | rfl | (simp; done) | omega), ⟨_, rfl⟩⟩
  · have e : timesF base = 1 := by unfold timesF; rw [if_neg hz]
    rw [e] at c2 c2n
    clear h e
    go_enter Tryz.func91, Tryz.ntmps91
    go_wp2
    go_quiet ((go_at_call 106; exact Calls.quiet_of_same (lock.load_is (c2n _))))
    go_wp2
    go_ret
    exact ⟨ret_i (by first | rfl | omega | (simp; omega)), ⟨_, rfl⟩⟩

/-- Whether a block begins at p, by the marks. -/
def atB (base next : Nat) (M : List Bool) (p : Int) : Bool := decide ((base : Int) ≤ p) && decide (p < (next : Int)) && M.getD (p - base).toNat false

set_option maxHeartbeats 2000000 in
theorem isBlock_is {B hb hm : Nat} {wv : Value} {W : List Int} {half base next : Nat} {lk : Int} {M : List Bool} {w : World} (h : HH B hb hm wv W half base next lk M w) (p : Int) (h1 : -9223372036854775808 ≤ p) (h2 : p ≤ 9223372036854775807) :
    Calls Tryz.prog 100 #[.pointer (some ⟨hb, 0, none⟩), .int .i64 p] w fun e w' => e = .returned (.bool (atB base next M p)) ∧ ∃ n, w' = w.drewN n := by
  have hs := h.siz
  have hcall := base_is h
  have H : Hid (HH B hb hm wv W half base next lk M w) := h
  rcases q1 : decide ((base : Int) ≤ p) with _ | _
  · have HQ : Hid (atB base next M p = false) := by show _ = _; unfold atB; rw [q1]; rfl
    clear h
    go_enter Tryz.func100, Tryz.ntmps100
    go_wp2_with fail
    refine hcall.mono ?_
    rintro e w1 ⟨rfl, n, rfl⟩
    go_wp2
    go_ret
    exact ⟨ret_b HQ.out.symm, ⟨_, rfl⟩⟩
  rcases q2 : decide (p < (next : Int)) with _ | _
  · have HQ : Hid (atB base next M p = false) := by show _ = _; unfold atB; rw [q1, q2]; rfl
    clear h
    go_enter Tryz.func100, Tryz.ntmps100
    go_wp2_with fail
    refine hcall.mono ?_
    rintro e w1 ⟨rfl, n, rfl⟩
    have c5 := (H.out.drewN n).c5
    go_wp2
    go_ret
    exact ⟨ret_b HQ.out.symm, ⟨_, rfl⟩⟩
  · have g1 := of_decide_eq_true q1
    have g2 := of_decide_eq_true q2
    obtain ⟨j, hj⟩ : ∃ j : Nat, p = base + j := ⟨(p - base).toNat, by omega⟩
    subst hj
    have hjh : j < half := by omega
    have HQ : Hid (atB base next M ((base : Int) + j) = M.getD j false) := by
      show _ = _; unfold atB; rw [q1, q2]; simp only [Bool.true_and]; rw [show ((base : Int) + j - base).toNat = j by omega]
    clear h
    go_enter Tryz.func100, Tryz.ntmps100
    go_wp2_with fail
    refine hcall.mono ?_
    rintro e w1 ⟨rfl, n, rfl⟩
    have c5 := (H.out.drewN n).c5
    have c6 := (H.out.drewN n).c6
    have cm := (H.out.drewN n).mk_ j hjh
    have e1 : (base : Int) + j - base = j := by omega
    go_wp2
    go_ret
    exact ⟨ret_b HQ.out.symm, ⟨_, rfl⟩⟩

/-- Whether a word is an int of a word, or a block's place by the marks. -/
def kidM (base next : Nat) (M : List Bool) (x : Int) : Bool := if x % 2 = 0 then atB base next M (x / 2) else inB (x / 2) (-1073741824) 1073741823

set_option maxHeartbeats 2000000 in
theorem okKid_is {B hb hm : Nat} {wv : Value} {W : List Int} {half base next : Nat} {lk : Int} {M : List Bool} {w : World} (h : HH B hb hm wv W half base next lk M w) (x : Int) (h1 : -9223372036854775808 ≤ x) (h2 : x ≤ 9223372036854775807) :
    Calls Tryz.prog 96 #[.pointer (some ⟨hb, 0, none⟩), .int .i64 x] w fun e w' => e = .returned (.bool (kidM base next M x)) ∧ ∃ n, w' = w.drewN n := by
  have ha := and_one x
  have hcall := isBlock_is h (x / 2) (by omega) (by omega)
  clear h
  by_cases q : x % 2 = 0
  · have HQ : Hid (kidM base next M x = atB base next M (x / 2)) := by show _ = _; unfold kidM; rw [if_pos q]
    rw [q] at ha
    go_enter Tryz.func96, Tryz.ntmps96
    go_wp2_with (first | (go_at_call 77; go_in) | (go_at_call 80; go_in))
    refine hcall.mono ?_
    rintro e w1 ⟨rfl, n, rfl⟩
    go_wp2
    go_ret
    exact ⟨ret_b HQ.out.symm, ⟨_, rfl⟩⟩
  · have HQ : Hid (kidM base next M x = inB (x / 2) (-1073741824) 1073741823) := by show _ = _; unfold kidM; rw [if_neg q]
    have q1 : x % 2 = 1 := by omega
    rw [q1] at ha
    obtain ⟨b, hbx⟩ : ∃ b, inB (x / 2) (-1073741824) 1073741823 = b := ⟨_, rfl⟩
    clear hcall
    go_enter Tryz.func96, Tryz.ntmps96
    go_wp2_with (first | (go_at_call 77; go_in) | (go_at_call 78; go_in) | (go_at_call 107; refine (words.wordI_is hbx).mono ?_; rintro e w' ⟨rfl, hx⟩; subst w'))
    go_ret
    exact ⟨ret_b (by rw [HQ.out, hbx]), ⟨0, rfl⟩⟩

end Go.Proofs.YtjofmoebijdccaaGreat.heap

namespace Go.Proofs.YtjofmoebijdccaaGreat.heap
open Go Go.RowKit Go.Proofs.YtjofmoebijdccaaGreat.rose Go.Proofs.YtjofmoebijdccaaGreat Go.Proofs.YtjofmoebijdccaaGreat.fun Go.Proofs.YtjofmoebijdccaaGreat.words Go.Proofs.YtjofmoebijdccaaGreat.ints
set_option linter.unusedVariables false
set_option linter.unusedSimpArgs false

theorem getD_atH {W : List Int} {p : Nat} (h : p < W.length) : W.getD p 0 = W[p] := by rw [List.getD_eq_getElem?_getD, List.getElem?_eq_getElem h]; rfl

set_option maxRecDepth 100000 in
set_option maxHeartbeats 4000000 in
theorem kidsAt_is {B hb hm : Nat} {wv : Value} {W : List Int} {half base next : Nat} {lk : Int} {M : List Bool} {w : World} (h : HH B hb hm wv W half base next lk M w) (p mn : Nat) (hmn : (manyF (W.getD p 0)).toNat = mn) (hp : p + mn < W.length) :
    Calls Tryz.prog 95 #[.pointer (some ⟨hb, 0, none⟩), .int .i64 p] w fun e w' =>
      (∃ b o c, e = .returned (.slice (some ⟨b, o, none⟩) mn c) ∧ b < B ∧ mn ≤ c ∧ c ≤ maxLen ∧ ∀ j (hj : j < mn), ∃ hW : p + 1 + j < W.length, w.cell? ⟨b, o + j, none⟩ = some (.int .i64 W[p + 1 + j]) ∧ -9223372036854775808 ≤ W[p + 1 + j] ∧ W[p + 1 + j] ≤ 9223372036854775807) ∧ Below w.heap.size w w' := by
  have hw6 : W.length ≤ 6000 := by have := h.siz; omega
  have hlt := h.lt.1
  have hlo := h.lo
  obtain ⟨a0, c0, e, hcap, hmax, hat⟩ := ints_open h.wds
  subst e
  have HA : Hid _ := hat
  have hpl : p < W.length := by omega
  obtain ⟨b, o, rfl, hS, hc, r1, r2⟩ := hat p hpl
  have hgd := getD_atH hpl
  have c3 := h.c3
  obtain ⟨x, hx⟩ : ∃ x, x = W[p] := ⟨_, rfl⟩
  rw [← hx] at hc hgd r1 r2
  rw [hgd] at hmn
  have hm := many_in x
  have hmi : manyF x = (mn : Int) := by omega
  have hz : b < w.heap.size := by omega
  have cx := hc
  have CAP : Hid (W.length ≤ c0 ∧ c0 ≤ maxLen) := ⟨hcap, hmax⟩
  have hcc : (W.length : Int) ≤ (c0 : Int) := by omega
  have hc5 : (c0 : Int) ≤ 9223372036854775807 := by unfold maxLen at hmax; omega
  have pI : (p : Int) < (W.length : Int) := by omega
  have pmI : (p : Int) + (1 + (mn : Int)) ≤ (c0 : Int) := by omega
  have hm63 : mn ≤ 63 := by omega
  have i0 : (0 : Int) ≤ (p : Int) := by omega
  have i1 : IntKind.i64.wrap ((p : Int) + 1) = (p : Int) + 1 := by rw [IntKind.wrap_i64]; omega
  have i2 : IntKind.i64.wrap ((p : Int) + (1 + (mn : Int))) = (p : Int) + (1 + (mn : Int)) := by rw [IntKind.wrap_i64]; omega
  have i3 : (0 : Int) ≤ (p : Int) + 1 := by omega
  have i4 : (p : Int) + 1 ≤ (p : Int) + (1 + (mn : Int)) := by omega
  have K0 : Hid (Below w.heap.size w w) := Below.refl _ _
  have c3n : w.drew.cell? ⟨hb, 3, none⟩ = some (.slice (some ⟨b, o, none⟩) W.length c0) := c3
  have cxn : w.drew.cell? ⟨b, o + p, none⟩ = some (.int .i64 x) := cx
  clear h hlo hat hc hcap hmax hmn hx hgd hm
  go_enter Tryz.func95, Tryz.ntmps95
  go_wp2
  go_region_held3 (fun X => X.cell? ⟨hb, 3, none⟩ = some (.slice (some ⟨b, o, none⟩) W.length c0) ∧ X.cell? ⟨b, o + p, none⟩ = some (.int .i64 x))
    (exact ⟨(by first | with_reducible exact c3 | with_reducible exact c3n), (by first | with_reducible exact cx | with_reducible exact cxn)⟩)
    (first
      | (go_at_call 92; refine (headerOf_is x _ r1 r2).mono ?_; rintro e w1 ⟨rfl, hB⟩; have K1 : Hid (Below w.heap.size w w1) := K0.out.drew.trans hB; replace c3 : w1.cell? ⟨hb, 3, none⟩ = some (.slice (some ⟨b, o, none⟩) W.length c0) := (hB.cell (p := ⟨hb, 3, none⟩) hlt).trans c3; replace cx : w1.cell? ⟨b, o + p, none⟩ = some (.int .i64 x) := (hB.cell (p := ⟨b, o + p, none⟩) hz).trans cx; have hz1 : w.heap.size ≤ w1.heap.size := hB.size; clear hB)
      | (go_at_call 94; refine (hdrSize_is _ _ _ _ (by omega) (by omega)).mono ?_; rintro e w2 ⟨rfl, hB⟩; have K2 : Hid (Below w.heap.size w w2) := K1.out.trans (hB.mono hz1); replace c3 : w2.cell? ⟨hb, 3, none⟩ = some (.slice (some ⟨b, o, none⟩) W.length c0) := (hB.cell (p := ⟨hb, 3, none⟩) (Nat.lt_of_lt_of_le hlt hz1)).trans c3; replace cx : w2.cell? ⟨b, o + p, none⟩ = some (.int .i64 x) := (hB.cell (p := ⟨b, o + p, none⟩) (Nat.lt_of_lt_of_le hz hz1)).trans cx; clear hB))
  go_wp2
  · obtain rfl : mn = 0 := by omega
    have hC := CAP.out
    refine bodyPost_ret (v := .slice (some ⟨b, o, none⟩) 0 (c0 - (p + 1))) (by simp [results, Tryz.f95, go_sem]; omega) rfl ?_
    exact ⟨⟨b, o, c0 - (p + 1), rfl, hS, by omega, by omega, fun j hj => absurd hj (Nat.not_lt_zero _)⟩, K2.out⟩
  · have hln : ((p : Int) + (1 + (mn : Int))).toNat - (p + 1) = mn := by omega
    have hC := CAP.out
    refine bodyPost_ret (v := .slice (some ⟨b, o + (p + 1), none⟩) mn (c0 - (p + 1))) (by simp [results, Tryz.f95, go_sem, hln]) rfl ?_
    refine ⟨⟨b, o + (p + 1), c0 - (p + 1), rfl, hS, by omega, by omega, fun j hj => ?_⟩, K2.out⟩
    have hW : p + 1 + j < W.length := by omega
    obtain ⟨b', o', e, -, hc, s1, s2⟩ := HA.out (p + 1 + j) hW
    cases e
    exact ⟨hW, by rw [show o + (p + 1) + j = o + (p + 1 + j) by omega]; exact hc, s1, s2⟩

end Go.Proofs.YtjofmoebijdccaaGreat.heap
