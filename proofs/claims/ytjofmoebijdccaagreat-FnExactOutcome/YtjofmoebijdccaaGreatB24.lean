/-
  A heap at work finds its blocks (findBlocks): the marks are those of the places that the model finds.
-/
import Derived.Test.YtjofmoebijdccaaGreatB1
import Derived.Test.YtjofmoebijdccaaGreatB2
import Derived.Test.YtjofmoebijdccaaGreatB3
import Derived.Test.YtjofmoebijdccaaGreatB4
import Derived.Test.YtjofmoebijdccaaGreatB5
import Derived.Test.YtjofmoebijdccaaGreatB6
import Derived.Test.YtjofmoebijdccaaGreatB7
import Derived.Test.YtjofmoebijdccaaGreatB8
import Derived.Test.YtjofmoebijdccaaGreatB9
import Derived.Test.YtjofmoebijdccaaGreatB10
import Derived.Test.YtjofmoebijdccaaGreatB11
import Derived.Test.YtjofmoebijdccaaGreatB12
import Derived.Test.YtjofmoebijdccaaGreatB13
import Derived.Test.YtjofmoebijdccaaGreatB14
import Derived.Test.YtjofmoebijdccaaGreatB15
import Derived.Test.YtjofmoebijdccaaGreatB16
import Derived.Test.YtjofmoebijdccaaGreatB17
import Derived.Test.YtjofmoebijdccaaGreatB18
import Derived.Test.YtjofmoebijdccaaGreatB19
import Derived.Test.YtjofmoebijdccaaGreatB20
import Derived.Test.YtjofmoebijdccaaGreatB21
import Derived.Test.YtjofmoebijdccaaGreatB22
import Derived.Test.YtjofmoebijdccaaGreatB23
namespace Go.Proofs.YtjofmoebijdccaaGreat.heap
open Go Go.RowKit Go.Proofs.YtjofmoebijdccaaGreat.rose Go.Proofs.YtjofmoebijdccaaGreat Go.Proofs.YtjofmoebijdccaaGreat.fun Go.Proofs.YtjofmoebijdccaaGreat.words Go.Proofs.YtjofmoebijdccaaGreat.ints
set_option linter.unusedVariables false
set_option linter.unusedSimpArgs false

theorem isRef_same (x : Int) (w : World) (h1 : -9223372036854775808 ≤ x) (h2 : x ≤ 9223372036854775807) :
    Calls Tryz.prog 77 #[.int .i64 x] w fun e w' => e = .returned (.bool (decide (x % 2 = 0))) ∧ w' = w := by
  have ha := and_one x
  go_enter Tryz.func77, Tryz.ntmps77
  go_wp2
  go_ret
  exact ⟨ret_b (by rw [Bool.eq_iff_iff]; simp), rfl⟩

theorem isRef_b {x : Int} {b : Bool} (hb : decide (x % 2 = 0) = b) (w : World) (h1 : -9223372036854775808 ≤ x) (h2 : x ≤ 9223372036854775807) :
    Calls Tryz.prog 77 #[.int .i64 x] w fun e w' => e = .returned (.bool b) ∧ w' = w := by rw [← hb]; exact isRef_same x w h1 h2
theorem okb_is {f : Bool} {tag many : Int} {b : Bool} (hb : okHdr tag many = b) (w : World) :
    Calls Tryz.prog 93 #[.agg #[.bool f, .int .i64 tag, .int .i64 many]] w fun e w' => e = .returned (.bool b) ∧ Below w.heap.size w w' := by rw [← hb]; exact hdrOk_is f tag many w

theorem badH_is (x room : Int) : badH x room = (decide (x % 2 = 0) || !okHdr (tagS x) (manyF x) || decide (room < 1 + manyF x)) := by
  have hm := many_in x
  by_cases h0 : x < 0
  · have ht : okHdr (tagS x) (manyF x) = false := by
      have : ¬ 0 ≤ tagS x := by unfold tagS; omega
      unfold okHdr; rw [decide_eq_false this]; rfl
    unfold badH
    rw [ht, decide_eq_true h0]; simp
  · have ht : tagF x = tagS x := by unfold tagF tagS; rw [Int.tdiv_eq_ediv_of_nonneg (by omega)]
    have h1 : 0 ≤ tagS x := by unfold tagS; omega
    have e1 : decide (room < 1 + manyF x) = decide (room ≤ manyF x) := decide_eq_decide.2 (by omega)
    have e2 : decide (3000 < tagS x) = !decide (tagS x ≤ 3000) := by by_cases q : tagS x ≤ 3000 <;> simp [q] <;> omega
    have e3 : decide (20 < manyF x) = !decide (manyF x ≤ 20) := by by_cases q : manyF x ≤ 20 <;> simp [q] <;> omega
    unfold badH okHdr
    rw [ht, decide_eq_false h0, decide_eq_true h1, e1, e2, e3]
    cases decide (x % 2 = 0) <;> cases decide (tagS x ≤ 3000) <;> cases decide (manyF x ≤ 20) <;> cases decide (room ≤ manyF x) <;> rfl

/-- A mark is set. -/
theorem HH.mark {B hb hm : Nat} {wv : Value} {W : List Int} {half base next : Nat} {lk : Int} {M : List Bool} {w : World} (h : HH B hb hm wv W half base next lk M w) (j : Nat) :
    HH B hb hm wv W half base next lk (M.set j true) (w.setCell ⟨hm, j, none⟩ (.bool true)) := by
  have hlo := h.lo
  refine ⟨h.lo, (Below.heap_setCell _ _ _ _ hlo.2.2).trans h.blk, ?_, by rw [List.length_set]; exact h.len, intsSh.on h.wds fun b hb' => Below.heap_setCell _ _ _ _ (by show b ≠ hm; omega), h.siz⟩
  simp [World.setCell, Array.getElem?_modify, h.mks, List.map_set]

/-- The marks are of these places. -/
def MarksAre (half base : Nat) (M : List Bool) (l : List Int) : Prop := ∀ j, j < half → M.getD j false = decide (((base + j : Nat) : Int) ∈ l)
/-- Where the finder stands. -/
structure FB (B hb hm : Nat) (wv : Value) (W : List Int) (half base next : Nat) (lk : Int) (w : World) (p : Nat) (M : List Bool) (acc : List Int) (wr : World) : Prop where
  hh : HH B hb hm wv W half base next lk M wr
  bel : Below B w wr
  mks : MarksAre half base M acc
  lim : base ≤ p ∧ p ≤ next ∧ ∀ y ∈ acc, y < (p : Int)
  acc : (plF W next base).1 = acc ++ (plF W next p).1 ∧ (plF W next base).2 = (plF W next p).2
theorem FB.on {B hb hm : Nat} {wv : Value} {W : List Int} {half base next : Nat} {lk : Int} {w : World} {p : Nat} {M : List Bool} {acc : List Int} {wr wl : World} (h : FB B hb hm wv W half base next lk w p M acc wr) (hB : Below wr.heap.size wr wl) : FB B hb hm wv W half base next lk w p M acc wl :=
  ⟨h.hh.on hB, h.bel.trans (hB.mono (by have := h.hh.lo; have := h.hh.lt; omega)), h.mks, h.lim, h.acc⟩
theorem FB.drew {B hb hm : Nat} {wv : Value} {W : List Int} {half base next : Nat} {lk : Int} {w : World} {p : Nat} {M : List Bool} {acc : List Int} {wr : World} (h : FB B hb hm wv W half base next lk w p M acc wr) : FB B hb hm wv W half base next lk w p M acc wr.drew :=
  ⟨h.hh.same rfl, h.bel.drew, h.mks, h.lim, h.acc⟩
/-- One block more is found. -/
theorem FB.found {B hb hm : Nat} {wv : Value} {W : List Int} {half base next : Nat} {lk : Int} {w : World} {p mn : Nat} {M : List Bool} {acc : List Int} {wr : World} (h : FB B hb hm wv W half base next lk w p M acc wr) (hp : p < next) (hmn : (manyF (W.getD p 0)).toNat = mn) (hb' : badH (W.getD p 0) ((next : Int) - p) = false) :
    FB B hb hm wv W half base next lk w (p + 1 + mn) (M.set (p - base) true) (acc ++ [(p : Int)]) (wr.setCell ⟨hm, p - base, none⟩ (.bool true)) := by
  have hl := h.lim
  have hs := h.hh.siz
  have hML := h.hh.len
  refine ⟨h.hh.mark _, h.bel.setCell (by have := h.hh.lo; show B ≤ hm; omega) _, fun j hj => ?_, ⟨by omega, ?_, fun y hy => ?_⟩, ?_⟩
  · have hm := h.mks j hj
    by_cases e : j = p - base
    · subst e
      have : ((base + (p - base) : Nat) : Int) = p := by omega
      rw [this]
      simp [List.getD, List.getElem?_set, hML, hj]
    · have hne : ¬ (((base + j : Nat) : Int) = (p : Int)) := by omega
      rw [List.getD_eq_getElem?_getD, List.getElem?_set_ne (fun q => e q.symm), ← List.getD_eq_getElem?_getD, hm]
      simp only [List.mem_append, List.mem_singleton, hne, or_false]
  · rw [badH_is] at hb'
    simp only [Bool.or_eq_false_iff, decide_eq_false_iff_not] at hb'
    have := many_in (W.getD p 0)
    omega
  · rcases List.mem_append.1 hy with q | q
    · have := hl.2.2 y q; omega
    · rw [List.mem_singleton] at q; subst q; omega
  · have ha := h.acc
    rw [plF_more hp hb', hmn] at ha
    exact ⟨by rw [ha.1]; simp, ha.2⟩

set_option maxRecDepth 100000 in
set_option maxHeartbeats 8000000 in
theorem findBlocks_is {B hb hm : Nat} {wv : Value} {W : List Int} {half base next : Nat} {lk : Int} {M : List Bool} {w : World} (h : HH B hb hm wv W half base next lk M w) (hM : ∀ j, j < half → M.getD j false = false) :
    Calls Tryz.prog 74 #[.pointer (some ⟨hb, 0, none⟩)] w fun e w' => e = .returned (.bool (plF W next base).2) ∧ (∃ M', HH B hb hm wv W half base next lk M' w' ∧ ((plF W next base).2 = true → MarksAre half base M' (plF W next base).1)) ∧ Below B w w' := by
  have hlo := h.lo
  have hlt := h.lt
  have F0 : Hid (FB B hb hm wv W half base next lk w base M [] w) := ⟨h, Below.refl _ _, fun j hj => by rw [hM j hj]; simp, ⟨Nat.le_refl _, h.siz.2.2.2.2.1, fun y hy => by cases hy⟩, by simp⟩
  have hcall := base_is h
  obtain ⟨a0, c0, e, hcap, hmax, hat⟩ := ints_open h.wds
  subst e
  have hw6 : W.length ≤ 6000 ∧ next ≤ 6000 ∧ half ≤ 3000 ∧ base ≤ 3000 := by have := h.siz; omega
  have HNX : Hid (next ≤ W.length ∧ next ≤ base + half ∧ W.length ≤ c0) := by have := h.siz; exact ⟨by omega, by omega, hcap⟩
  obtain ⟨rr, hrr⟩ : ∃ rr, rr = (plF W next base).2 := ⟨_, rfl⟩
  have HRR : Hid (rr = (plF W next base).2) := hrr
  rw [← hrr]
  have HAT : Hid _ := hat
  clear h hM hcap hmax hrr hat
  go_enter Tryz.func74, Tryz.ntmps74
  go_wp2_with fail
  refine hcall.mono ?_
  rintro e w1 ⟨rfl, n, rfl⟩
  have F1 : Hid (FB B hb hm (.slice a0 W.length c0) W half base next lk w base M [] (w.drewN n)) := ⟨F0.out.hh.drewN n, ⟨F0.out.bel.os, F0.out.bel.tape, F0.out.bel.output, F0.out.bel.size, F0.out.bel.block⟩, F0.out.mks, F0.out.lim, F0.out.acc⟩
  clear hcall F0
  go_wp2
  go_loopw [4] (fun v4 wr => ∃ (p : Nat) (M' : List Bool) (acc : List Int), v4 = .int .i64 p ∧ Hid (FB B hb hm (.slice a0 W.length c0) W half base next lk w p M' acc wr)) (fun v4 _ => next + 1 - (intOf v4).toNat)
  case atStart => exact ⟨base, M, [], rfl, F1⟩
  case round =>
    obtain ⟨p, M', acc, rfl, HF⟩ := hrel
    have hlim := HF.out.lim
    have c3 := HF.out.hh.c3
    have c5 := HF.out.hh.c5
    by_cases hlt2 : p < next
    · have hlt3 : (p : Int) < (next : Int) := by omega
      have hpl : p < W.length := by have := HNX.out; omega
      obtain ⟨a1, c1, e, -, -, hat⟩ := ints_open HF.out.hh.wds
      cases e
      obtain ⟨b, o, rfl, hS, cx, r1, r2⟩ := hat p hpl
      have hgd := getD_atH hpl
      obtain ⟨x, hx⟩ : ∃ x, x = W[p] := ⟨_, rfl⟩
      rw [← hx] at cx hgd r1 r2
      have hm' := many_in x
      obtain ⟨mn, hmn⟩ : ∃ t : Nat, manyF x = (t : Int) := ⟨(manyF x).toNat, by omega⟩
      have HM : Hid ((manyF (W.getD p 0)).toNat = mn ∧ manyF x = (mn : Int) ∧ W.getD p 0 = x) := ⟨by rw [hgd]; omega, hmn, hgd⟩
      have hmn63 : mn ≤ 63 := by omega
      have pI : (p : Int) < (W.length : Int) := by omega
      have i0 : (0 : Int) ≤ (p : Int) := by omega
      have hbad := badH_is x ((next : Int) - p)
      have HB : Hid (badH (W.getD p 0) ((next : Int) - p) = (decide (x % 2 = 0) || !okHdr (tagS x) mn || decide ((next : Int) - p < 1 + mn))) := by show _ = _; rw [hgd, ← hmn]; exact hbad
      have hcall2 : ∀ W' : World, Calls Tryz.prog 92 #[.int .i64 x] W' fun e w' => e = .returned (.agg #[.bool (funF x), .int .i64 (tagS x), .int .i64 mn]) ∧ Below W'.heap.size W' w' := fun W' => by rw [← hmn]; exact headerOf_is x W' r1 r2
      have FF : Hid (FB B hb hm (.slice (some ⟨b, o, none⟩) W.length c0) W half base next lk w p M' acc wr) := HF.out
      clear hat hx hbad hgd hmn hm' HF
      go_wp2_with (go_at_call 92; refine (hcall2 _).mono ?_; rintro e w2 ⟨rfl, hB⟩)
      have K3 : Hid (FB B hb hm (.slice (some ⟨b, o, none⟩) W.length c0) W half base next lk w p M' acc (w2.alloc (.cells #[.bool (funF x), .int .i64 (tagS x), .int .i64 mn] 158))) := (FF.out.on hB).on ((Below.refl _ _).alloc (Nat.le_refl _) _)
      have hnz : w2.heap.size < (w2.alloc (.cells #[.bool (funF x), .int .i64 (tagS x), .int .i64 mn] 158)).heap.size := by simp
      have hne : ¬ w2.heap.size = hm := by have := (FF.out.on hB).hh.lt.2; omega
      have T3 := alloc_top w2 (.cells #[.bool (funF x), .int .i64 (tagS x), .int .i64 mn] 158)
      clear hB hcall2 c3 c5 cx
      generalize w2.alloc (.cells #[.bool (funF x), .int .i64 (tagS x), .int .i64 mn] 158) = w3 at *
      generalize w2.heap.size = nb at *
      have hbz : hb < w3.heap.size := K3.out.hh.lt.1
      have hxz : b < w3.heap.size := by have := K3.out.hh.lo; omega
      have c3 := K3.out.hh.c3
      have c5 := K3.out.hh.c5
      have cx : w3.cell? ⟨b, o + p, none⟩ = some (.int .i64 x) := by
        obtain ⟨a1, c1, e, -, -, hat⟩ := ints_open K3.out.hh.wds
        cases e
        obtain ⟨b', o', e, -, hc, -, -⟩ := hat p hpl
        cases e
        rw [hc, ← getD_atH hpl, HM.out.2.2]
      have g0 : w3.cell? ⟨nb, 0, none⟩ = some (.bool (funF x)) := by simp [World.cell?, T3]
      have g1 : w3.cell? ⟨nb, 1, none⟩ = some (.int .i64 (tagS x)) := by simp [World.cell?, T3]
      have g2 : w3.cell? ⟨nb, 2, none⟩ = some (.int .i64 mn) := by simp [World.cell?, T3]
      have c3n : w3.drew.cell? ⟨hb, 3, none⟩ = some (.slice (some ⟨b, o, none⟩) W.length c0) := c3
      have c5n : w3.drew.cell? ⟨hb, 5, none⟩ = some (.int .i64 next) := c5
      have cxn : w3.drew.cell? ⟨b, o + p, none⟩ = some (.int .i64 x) := cx
      have g0n : w3.drew.cell? ⟨nb, 0, none⟩ = some (.bool (funF x)) := g0
      have g1n : w3.drew.cell? ⟨nb, 1, none⟩ = some (.int .i64 (tagS x)) := g1
      have g2n : w3.drew.cell? ⟨nb, 2, none⟩ = some (.int .i64 mn) := g2
      have i5 : IntKind.i64.wrap ((next : Int) - (p : Int)) = (next : Int) - (p : Int) := by rw [IntKind.wrap_i64]; omega
      clear T3
      rcases q1 : decide (x % 2 = 0) with _ | _
      case true =>
        have HF : Hid (rr = false) := by
          show _ = _; rw [HRR.out, FF.out.acc.2, plF_bad hlt2 (by rw [HB.out]; rw [q1]; rfl)]
        clear HB
        go_quiet ((go_at_call 77; exact Calls.quiet_of_same (isRef_b q1 _ r1 r2)))
        have K4 : Hid (FB B hb hm (.slice (some ⟨b, o, none⟩) W.length c0) W half base next lk w p M' acc (w3.drewN nq)) := ⟨K3.out.hh.drewN nq, ⟨K3.out.bel.os, K3.out.bel.tape, K3.out.bel.output, K3.out.bel.size, K3.out.bel.block⟩, K3.out.mks, K3.out.lim, K3.out.acc⟩
        go_wp2
        go_ret
        exact ⟨ret_b HF.out.symm, ⟨M', K4.out.hh, fun hq => by rw [HF.out] at hq; cases hq⟩, K4.out.bel⟩
      rcases q2 : okHdr (tagS x) mn with _ | _
      · have HF : Hid (rr = false) := by
          show _ = _; rw [HRR.out, FF.out.acc.2, plF_bad hlt2 (by rw [HB.out]; rw [q1, q2]; rfl)]
        clear HB
        refine wp_region_held_drew (S := (fun X : World => X.cell? ⟨hb, 3, none⟩ = some (.slice (some ⟨b, o, none⟩) W.length c0) ∧ X.cell? ⟨b, o + p, none⟩ = some (.int .i64 x) ∧ X.cell? ⟨hb, 5, none⟩ = some (.int .i64 next) ∧ X.cell? ⟨nb, 0, none⟩ = some (.bool (funF x)) ∧ X.cell? ⟨nb, 1, none⟩ = some (.int .i64 (tagS x)) ∧ X.cell? ⟨nb, 2, none⟩ = some (.int .i64 mn))) (by kernel_rfl) ⟨c3n, cxn, c5n, g0n, g1n, g2n⟩ ?_
        intro hS0
        refine wpAnyH_take (i := 0) (v := .pointer (some ⟨hb, 0, none⟩)) rfl (by kernel_rfl) (by kernel_rfl) (by kernel_rfl) (fun _ _ _ h => h) (Or.inl ⟨by kernel_rfl, ?_⟩) hS0 ?_
        · intro W hSw
          obtain ⟨s0, s1, s2, s3, s4, s5⟩ := hSw
          go_simp
        try simp only [Act.put, List.setIfInBounds_toArray, List.set_cons_zero, List.set_cons_succ]
        refine wpAnyH_take (i := 1) (v := .pointer (some ⟨hb, 0, none⟩)) rfl (by kernel_rfl) (by kernel_rfl) (by kernel_rfl) (fun _ _ _ h => h) (Or.inl ⟨by kernel_rfl, ?_⟩) hS0 ?_
        · intro W hSw
          obtain ⟨s0, s1, s2, s3, s4, s5⟩ := hSw
          go_simp
        try simp only [Act.put, List.setIfInBounds_toArray, List.set_cons_zero, List.set_cons_succ]
        refine wpAnyH_take (i := 2) (v := .pointer (some ⟨hb, 3, none⟩)) rfl (by kernel_rfl) (by kernel_rfl) (by kernel_rfl) (fun _ _ _ h => h) (Or.inl ⟨by kernel_rfl, ?_⟩) hS0 ?_
        · intro W hSw
          obtain ⟨s0, s1, s2, s3, s4, s5⟩ := hSw
          go_simp
        try simp only [Act.put, List.setIfInBounds_toArray, List.set_cons_zero, List.set_cons_succ]
        refine wpAnyH_take (i := 3) (v := .slice (some ⟨b, o, none⟩) W.length c0) rfl (by kernel_rfl) (by kernel_rfl) (by kernel_rfl) (fun _ _ _ h => h) (Or.inl ⟨by kernel_rfl, ?_⟩) hS0 ?_
        · intro W hSw
          obtain ⟨s0, s1, s2, s3, s4, s5⟩ := hSw
          go_simp
        try simp only [Act.put, List.setIfInBounds_toArray, List.set_cons_zero, List.set_cons_succ]
        refine wpAnyH_take (i := 4) (v := .int .i64 p) rfl (by kernel_rfl) (by kernel_rfl) (by kernel_rfl) (fun _ _ _ h => h) (Or.inl ⟨by kernel_rfl, ?_⟩) hS0 ?_
        · intro W hSw
          obtain ⟨s0, s1, s2, s3, s4, s5⟩ := hSw
          go_simp
        try simp only [Act.put, List.setIfInBounds_toArray, List.set_cons_zero, List.set_cons_succ]
        refine wpAnyH_take (i := 5) (v := .pointer (some ⟨b, o + p, none⟩)) rfl (by kernel_rfl) (by kernel_rfl) (by kernel_rfl) (fun _ _ _ h => h) (Or.inl ⟨by kernel_rfl, ?_⟩) hS0 ?_
        · intro W hSw
          obtain ⟨s0, s1, s2, s3, s4, s5⟩ := hSw
          go_simp
        try simp only [Act.put, List.setIfInBounds_toArray, List.set_cons_zero, List.set_cons_succ]
        refine wpAnyH_take (i := 6) (v := .int .i64 x) rfl (by kernel_rfl) (by kernel_rfl) (by kernel_rfl) (fun _ _ _ h => h) (Or.inl ⟨by kernel_rfl, ?_⟩) hS0 ?_
        · intro W hSw
          obtain ⟨s0, s1, s2, s3, s4, s5⟩ := hSw
          go_simp
        try simp only [Act.put, List.setIfInBounds_toArray, List.set_cons_zero, List.set_cons_succ]
        refine wpAnyH_ready (rs := [7]) (by kernel_rfl) (by simp) ?_
        refine AllReadyH.cons rfl (fun K hK => ?_) AllReadyH.nil
        go_simp
        go_at_call 77
        refine (isRef_b q1 _ r1 r2).mono ?_
        rintro e w4 ⟨rfl, hx4⟩
        subst hx4
        refine hK.out _ _ hS0 (fun _ => ?_)
        clear hK K
        try simp only [Act.put, List.setIfInBounds_toArray, List.set_cons_zero, List.set_cons_succ]
        refine wpAnyH_take (i := 8) (v := .bool false) rfl (by kernel_rfl) (by kernel_rfl) (by kernel_rfl) (fun _ _ _ h => h) (Or.inl ⟨by kernel_rfl, ?_⟩) hS0 ?_
        · intro W hSw
          obtain ⟨s0, s1, s2, s3, s4, s5⟩ := hSw
          go_simp
        try simp only [Act.put, List.setIfInBounds_toArray, List.set_cons_zero, List.set_cons_succ]
        refine wpAnyH_take (i := 9) (v := .agg #[.bool (funF x), .int .i64 (tagS x), .int .i64 mn]) rfl (by kernel_rfl) (by kernel_rfl) (by kernel_rfl) (fun _ _ _ h => h) (Or.inl ⟨by kernel_rfl, ?_⟩) hS0 ?_
        · intro W hSw
          obtain ⟨s0, s1, s2, s3, s4, s5⟩ := hSw
          go_simp
        try simp only [Act.put, List.setIfInBounds_toArray, List.set_cons_zero, List.set_cons_succ]
        refine wpAnyH_ready (rs := [10]) (by kernel_rfl) (by simp) ?_
        refine AllReadyH.cons rfl (fun K hK => ?_) AllReadyH.nil
        go_simp
        go_at_call 93
        refine (okb_is q2 _).mono ?_
        rintro e w5 ⟨rfl, hB⟩
        have K5 : Hid (FB B hb hm (.slice (some ⟨b, o, none⟩) W.length c0) W half base next lk w p M' acc w5) := K3.out.drew.on hB
        replace c3 : w5.cell? ⟨hb, 3, none⟩ = some (.slice (some ⟨b, o, none⟩) W.length c0) := (hB.cell (p := ⟨hb, 3, none⟩) hbz).trans c3
        replace cx : w5.cell? ⟨b, o + p, none⟩ = some (.int .i64 x) := (hB.cell (p := ⟨b, o + p, none⟩) hxz).trans cx
        replace c5 : w5.cell? ⟨hb, 5, none⟩ = some (.int .i64 next) := (hB.cell (p := ⟨hb, 5, none⟩) hbz).trans c5
        replace g0 : w5.cell? ⟨nb, 0, none⟩ = some (.bool (funF x)) := (hB.cell (p := ⟨nb, 0, none⟩) hnz).trans g0
        replace g1 : w5.cell? ⟨nb, 1, none⟩ = some (.int .i64 (tagS x)) := (hB.cell (p := ⟨nb, 1, none⟩) hnz).trans g1
        replace g2 : w5.cell? ⟨nb, 2, none⟩ = some (.int .i64 mn) := (hB.cell (p := ⟨nb, 2, none⟩) hnz).trans g2
        have hS5 : (fun X : World => X.cell? ⟨hb, 3, none⟩ = some (.slice (some ⟨b, o, none⟩) W.length c0) ∧ X.cell? ⟨b, o + p, none⟩ = some (.int .i64 x) ∧ X.cell? ⟨hb, 5, none⟩ = some (.int .i64 next) ∧ X.cell? ⟨nb, 0, none⟩ = some (.bool (funF x)) ∧ X.cell? ⟨nb, 1, none⟩ = some (.int .i64 (tagS x)) ∧ X.cell? ⟨nb, 2, none⟩ = some (.int .i64 mn)) w5 := ⟨c3, cx, c5, g0, g1, g2⟩
        clear hB
        refine hK.out _ _ hS5 (fun _ => ?_)
        clear hK K
        try simp only [Act.put, List.setIfInBounds_toArray, List.set_cons_zero, List.set_cons_succ]
        refine wpAnyH_take (i := 11) (v := .bool true) rfl (by kernel_rfl) (by kernel_rfl) (by kernel_rfl) (fun _ _ _ h => h) (Or.inl ⟨by kernel_rfl, ?_⟩) hS5 ?_
        · intro W hSw
          obtain ⟨s0, s1, s2, s3, s4, s5⟩ := hSw
          go_simp
        try simp only [Act.put, List.setIfInBounds_toArray, List.set_cons_zero, List.set_cons_succ]
        refine wpAnyH_take (i := 12) (v := .bool true) rfl (by kernel_rfl) (by kernel_rfl) (by kernel_rfl) (fun _ _ _ h => h) (Or.inl ⟨by kernel_rfl, ?_⟩) hS5 ?_
        · intro W hSw
          obtain ⟨s0, s1, s2, s3, s4, s5⟩ := hSw
          go_simp
        try simp only [Act.put, List.setIfInBounds_toArray, List.set_cons_zero, List.set_cons_succ]
        refine wpAnyH_take (i := 13) (v := .bool true) rfl (by kernel_rfl) (by kernel_rfl) (by kernel_rfl) (fun _ _ _ h => h) (Or.inl ⟨by kernel_rfl, ?_⟩) hS5 ?_
        · intro W hSw
          obtain ⟨s0, s1, s2, s3, s4, s5⟩ := hSw
          go_simp
        try simp only [Act.put, List.setIfInBounds_toArray, List.set_cons_zero, List.set_cons_succ]
        refine wpAnyH_take (i := 14) (v := undef) rfl (by kernel_rfl) (by kernel_rfl) (by kernel_rfl) (fun _ _ _ h => h) (Or.inr ⟨by kernel_rfl, rfl⟩) hS5 ?_
        try simp only [Act.put, List.setIfInBounds_toArray, List.set_cons_zero, List.set_cons_succ]
        refine wpAnyH_take (i := 15) (v := undef) rfl (by kernel_rfl) (by kernel_rfl) (by kernel_rfl) (fun _ _ _ h => h) (Or.inr ⟨by kernel_rfl, rfl⟩) hS5 ?_
        try simp only [Act.put, List.setIfInBounds_toArray, List.set_cons_zero, List.set_cons_succ]
        refine wpAnyH_take (i := 16) (v := undef) rfl (by kernel_rfl) (by kernel_rfl) (by kernel_rfl) (fun _ _ _ h => h) (Or.inr ⟨by kernel_rfl, rfl⟩) hS5 ?_
        try simp only [Act.put, List.setIfInBounds_toArray, List.set_cons_zero, List.set_cons_succ]
        refine wpAnyH_take (i := 17) (v := undef) rfl (by kernel_rfl) (by kernel_rfl) (by kernel_rfl) (fun _ _ _ h => h) (Or.inr ⟨by kernel_rfl, rfl⟩) hS5 ?_
        try simp only [Act.put, List.setIfInBounds_toArray, List.set_cons_zero, List.set_cons_succ]
        refine wpAnyH_take (i := 18) (v := undef) rfl (by kernel_rfl) (by kernel_rfl) (by kernel_rfl) (fun _ _ _ h => h) (Or.inr ⟨by kernel_rfl, rfl⟩) hS5 ?_
        try simp only [Act.put, List.setIfInBounds_toArray, List.set_cons_zero, List.set_cons_succ]
        refine wpAnyH_take (i := 19) (v := undef) rfl (by kernel_rfl) (by kernel_rfl) (by kernel_rfl) (fun _ _ _ h => h) (Or.inr ⟨by kernel_rfl, rfl⟩) hS5 ?_
        try simp only [Act.put, List.setIfInBounds_toArray, List.set_cons_zero, List.set_cons_succ]
        refine wpAnyH_take (i := 20) (v := undef) rfl (by kernel_rfl) (by kernel_rfl) (by kernel_rfl) (fun _ _ _ h => h) (Or.inr ⟨by kernel_rfl, rfl⟩) hS5 ?_
        try simp only [Act.put, List.setIfInBounds_toArray, List.set_cons_zero, List.set_cons_succ]
        refine wpAnyH_take (i := 21) (v := undef) rfl (by kernel_rfl) (by kernel_rfl) (by kernel_rfl) (fun _ _ _ h => h) (Or.inr ⟨by kernel_rfl, rfl⟩) hS5 ?_
        try simp only [Act.put, List.setIfInBounds_toArray, List.set_cons_zero, List.set_cons_succ]
        refine wpAnyH_take (i := 22) (v := undef) rfl (by kernel_rfl) (by kernel_rfl) (by kernel_rfl) (fun _ _ _ h => h) (Or.inr ⟨by kernel_rfl, rfl⟩) hS5 ?_
        try simp only [Act.put, List.setIfInBounds_toArray, List.set_cons_zero, List.set_cons_succ]
        refine wpAnyH_take (i := 23) (v := .bool true) rfl (by kernel_rfl) (by kernel_rfl) (by kernel_rfl) (fun _ _ _ h => h) (Or.inl ⟨by kernel_rfl, ?_⟩) hS5 ?_
        · intro W hSw
          obtain ⟨s0, s1, s2, s3, s4, s5⟩ := hSw
          go_simp
        try simp only [Act.put, List.setIfInBounds_toArray, List.set_cons_zero, List.set_cons_succ]
        refine wpAnyH_done (by kernel_rfl) ?_ _
        try simp only [Act.put, List.getElem_toArray, List.getElem?_toArray, List.getElem_cons_succ, List.getElem_cons_zero, List.getElem?_cons_succ, List.getElem?_cons_zero, List.setIfInBounds_toArray, List.set_cons_succ, List.set_cons_zero]

        go_wp2
        go_ret
        exact ⟨ret_b HF.out.symm, ⟨M', K5.out.hh, fun hq => by rw [HF.out] at hq; cases hq⟩, K5.out.bel⟩
      rcases q3 : decide ((next : Int) - p < 1 + mn) with _ | _
      case true =>
        have HF : Hid (rr = false) := by
          show _ = _; rw [HRR.out, FF.out.acc.2, plF_bad hlt2 (by rw [HB.out]; rw [q1, q2, q3]; rfl)]
        clear HB
        go_region_held3 (fun X => X.cell? ⟨hb, 3, none⟩ = some (.slice (some ⟨b, o, none⟩) W.length c0) ∧ X.cell? ⟨b, o + p, none⟩ = some (.int .i64 x) ∧ X.cell? ⟨hb, 5, none⟩ = some (.int .i64 next) ∧ X.cell? ⟨nb, 0, none⟩ = some (.bool (funF x)) ∧ X.cell? ⟨nb, 1, none⟩ = some (.int .i64 (tagS x)) ∧ X.cell? ⟨nb, 2, none⟩ = some (.int .i64 mn))
        (exact ⟨(by first | with_reducible exact c3 | with_reducible exact c3n), (by first | with_reducible exact cx | with_reducible exact cxn), (by first | with_reducible exact c5 | with_reducible exact c5n), (by first | with_reducible exact g0 | with_reducible exact g0n), (by first | with_reducible exact g1 | with_reducible exact g1n), (by first | with_reducible exact g2 | with_reducible exact g2n)⟩)
        (first
          | (go_at_call 77; refine (isRef_b q1 _ r1 r2).mono ?_; rintro e w4 ⟨rfl, hx4⟩; subst hx4)
          | (go_at_call 93; refine (okb_is q2 _).mono ?_; rintro e w5 ⟨rfl, hB⟩; have K5 : Hid (FB B hb hm (.slice (some ⟨b, o, none⟩) W.length c0) W half base next lk w p M' acc w5) := K3.out.drew.on hB; replace c3 : w5.cell? ⟨hb, 3, none⟩ = some (.slice (some ⟨b, o, none⟩) W.length c0) := (hB.cell (p := ⟨hb, 3, none⟩) hbz).trans c3; replace cx : w5.cell? ⟨b, o + p, none⟩ = some (.int .i64 x) := (hB.cell (p := ⟨b, o + p, none⟩) hxz).trans cx; replace c5 : w5.cell? ⟨hb, 5, none⟩ = some (.int .i64 next) := (hB.cell (p := ⟨hb, 5, none⟩) hbz).trans c5; replace g0 : w5.cell? ⟨nb, 0, none⟩ = some (.bool (funF x)) := (hB.cell (p := ⟨nb, 0, none⟩) hnz).trans g0; replace g1 : w5.cell? ⟨nb, 1, none⟩ = some (.int .i64 (tagS x)) := (hB.cell (p := ⟨nb, 1, none⟩) hnz).trans g1; replace g2 : w5.cell? ⟨nb, 2, none⟩ = some (.int .i64 mn) := (hB.cell (p := ⟨nb, 2, none⟩) hnz).trans g2; have hz5 : w3.heap.size ≤ w5.heap.size := hB.size; clear hB)
          | (go_at_call 94; refine (hdrSize_is _ _ _ _ (by omega) (by omega)).mono ?_; rintro e w6 ⟨rfl, hB⟩; have K6 : Hid (FB B hb hm (.slice (some ⟨b, o, none⟩) W.length c0) W half base next lk w p M' acc w6) := K5.out.on hB; replace c3 : w6.cell? ⟨hb, 3, none⟩ = some (.slice (some ⟨b, o, none⟩) W.length c0) := (hB.cell (p := ⟨hb, 3, none⟩) (Nat.lt_of_lt_of_le hbz hz5)).trans c3; replace cx : w6.cell? ⟨b, o + p, none⟩ = some (.int .i64 x) := (hB.cell (p := ⟨b, o + p, none⟩) (Nat.lt_of_lt_of_le hxz hz5)).trans cx; replace c5 : w6.cell? ⟨hb, 5, none⟩ = some (.int .i64 next) := (hB.cell (p := ⟨hb, 5, none⟩) (Nat.lt_of_lt_of_le hbz hz5)).trans c5; replace g0 : w6.cell? ⟨nb, 0, none⟩ = some (.bool (funF x)) := (hB.cell (p := ⟨nb, 0, none⟩) (Nat.lt_of_lt_of_le hnz hz5)).trans g0; replace g1 : w6.cell? ⟨nb, 1, none⟩ = some (.int .i64 (tagS x)) := (hB.cell (p := ⟨nb, 1, none⟩) (Nat.lt_of_lt_of_le hnz hz5)).trans g1; replace g2 : w6.cell? ⟨nb, 2, none⟩ = some (.int .i64 mn) := (hB.cell (p := ⟨nb, 2, none⟩) (Nat.lt_of_lt_of_le hnz hz5)).trans g2; have hz6 : w3.heap.size ≤ w6.heap.size := Nat.le_trans hz5 hB.size; clear hB))
        go_wp2
        go_ret
        exact ⟨ret_b HF.out.symm, ⟨M', K6.out.hh, fun hq => by rw [HF.out] at hq; cases hq⟩, K6.out.bel⟩
      case false =>
        have HNB : Hid (badH (W.getD p 0) ((next : Int) - p) = false) := by show _ = _; rw [HB.out, q1, q2, q3]; rfl
        clear HB
        go_region_held3 (fun X => X.cell? ⟨hb, 3, none⟩ = some (.slice (some ⟨b, o, none⟩) W.length c0) ∧ X.cell? ⟨b, o + p, none⟩ = some (.int .i64 x) ∧ X.cell? ⟨hb, 5, none⟩ = some (.int .i64 next) ∧ X.cell? ⟨nb, 0, none⟩ = some (.bool (funF x)) ∧ X.cell? ⟨nb, 1, none⟩ = some (.int .i64 (tagS x)) ∧ X.cell? ⟨nb, 2, none⟩ = some (.int .i64 mn))
        (exact ⟨(by first | with_reducible exact c3 | with_reducible exact c3n), (by first | with_reducible exact cx | with_reducible exact cxn), (by first | with_reducible exact c5 | with_reducible exact c5n), (by first | with_reducible exact g0 | with_reducible exact g0n), (by first | with_reducible exact g1 | with_reducible exact g1n), (by first | with_reducible exact g2 | with_reducible exact g2n)⟩)
        (first
          | (go_at_call 77; refine (isRef_b q1 _ r1 r2).mono ?_; rintro e w4 ⟨rfl, hx4⟩; subst hx4)
          | (go_at_call 93; refine (okb_is q2 _).mono ?_; rintro e w5 ⟨rfl, hB⟩; have K5 : Hid (FB B hb hm (.slice (some ⟨b, o, none⟩) W.length c0) W half base next lk w p M' acc w5) := K3.out.drew.on hB; replace c3 : w5.cell? ⟨hb, 3, none⟩ = some (.slice (some ⟨b, o, none⟩) W.length c0) := (hB.cell (p := ⟨hb, 3, none⟩) hbz).trans c3; replace cx : w5.cell? ⟨b, o + p, none⟩ = some (.int .i64 x) := (hB.cell (p := ⟨b, o + p, none⟩) hxz).trans cx; replace c5 : w5.cell? ⟨hb, 5, none⟩ = some (.int .i64 next) := (hB.cell (p := ⟨hb, 5, none⟩) hbz).trans c5; replace g0 : w5.cell? ⟨nb, 0, none⟩ = some (.bool (funF x)) := (hB.cell (p := ⟨nb, 0, none⟩) hnz).trans g0; replace g1 : w5.cell? ⟨nb, 1, none⟩ = some (.int .i64 (tagS x)) := (hB.cell (p := ⟨nb, 1, none⟩) hnz).trans g1; replace g2 : w5.cell? ⟨nb, 2, none⟩ = some (.int .i64 mn) := (hB.cell (p := ⟨nb, 2, none⟩) hnz).trans g2; have hz5 : w3.heap.size ≤ w5.heap.size := hB.size; clear hB)
          | (go_at_call 94; refine (hdrSize_is _ _ _ _ (by omega) (by omega)).mono ?_; rintro e w6 ⟨rfl, hB⟩; have K6 : Hid (FB B hb hm (.slice (some ⟨b, o, none⟩) W.length c0) W half base next lk w p M' acc w6) := K5.out.on hB; replace c3 : w6.cell? ⟨hb, 3, none⟩ = some (.slice (some ⟨b, o, none⟩) W.length c0) := (hB.cell (p := ⟨hb, 3, none⟩) (Nat.lt_of_lt_of_le hbz hz5)).trans c3; replace cx : w6.cell? ⟨b, o + p, none⟩ = some (.int .i64 x) := (hB.cell (p := ⟨b, o + p, none⟩) (Nat.lt_of_lt_of_le hxz hz5)).trans cx; replace c5 : w6.cell? ⟨hb, 5, none⟩ = some (.int .i64 next) := (hB.cell (p := ⟨hb, 5, none⟩) (Nat.lt_of_lt_of_le hbz hz5)).trans c5; replace g0 : w6.cell? ⟨nb, 0, none⟩ = some (.bool (funF x)) := (hB.cell (p := ⟨nb, 0, none⟩) (Nat.lt_of_lt_of_le hnz hz5)).trans g0; replace g1 : w6.cell? ⟨nb, 1, none⟩ = some (.int .i64 (tagS x)) := (hB.cell (p := ⟨nb, 1, none⟩) (Nat.lt_of_lt_of_le hnz hz5)).trans g1; replace g2 : w6.cell? ⟨nb, 2, none⟩ = some (.int .i64 mn) := (hB.cell (p := ⟨nb, 2, none⟩) (Nat.lt_of_lt_of_le hnz hz5)).trans g2; have hz6 : w3.heap.size ≤ w6.heap.size := Nat.le_trans hz5 hB.size; clear hB))
        have hbp : base ≤ p := K6.out.lim.1
        have hj : p - base < half := by have := HNX.out; omega
        have hji : (p : Int) - (base : Int) = ((p - base : Nat) : Int) := by omega
        have hji2 : ((p - base : Nat) : Int) < (half : Int) := by omega
        have c6 := K6.out.hh.c6
        have cm := K6.out.hh.mk_ (p - base) hj
        have fm := K6.out.hh.mfrz (p - base)
        have K7 : Hid (FB B hb hm (.slice (some ⟨b, o, none⟩) W.length c0) W half base next lk w (p + 1 + mn) (M'.set (p - base) true) (acc ++ [(p : Int)]) (w6.setCell ⟨hm, p - base, none⟩ (.bool true))) := K6.out.found hlt2 HM.out.1 HNB.out
        go_wp2_with (go_at_call 94; refine (hdrSize_is _ _ _ _ (by omega) (by omega)).mono ?_; rintro e w8 ⟨rfl, hB⟩)
        have K8 := K7.out.on hB
        go_round
        case rel => exact ⟨p + 1 + mn, M'.set (p - base) true, acc ++ [(p : Int)], by go_num, K8⟩
        case measure => simp [intOf]; omega
    · have hpn : p = next := by omega
      have hnl : ¬ (p : Int) < (next : Int) := by omega
      have FF : Hid (FB B hb hm (.slice a0 W.length c0) W half base next lk w p M' acc wr) := HF.out
      have HF : Hid (rr = true) := by show _ = _; rw [HRR.out, FF.out.acc.2, plF_end (by omega)]
      go_wp2
      go_ret
      refine ⟨ret_b HF.out.symm, ⟨M', FF.out.hh, fun _ => ?_⟩, FF.out.bel⟩
      have := FF.out.acc.1
      rw [plF_end (p := p) (by omega), List.append_nil] at this
      rw [this]
      exact FF.out.mks

end Go.Proofs.YtjofmoebijdccaaGreat.heap
