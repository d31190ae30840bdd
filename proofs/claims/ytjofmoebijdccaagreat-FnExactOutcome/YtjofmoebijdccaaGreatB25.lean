/-
  A heap at work looks at its kids (okKids): they are right as the model says.
  The program's okHalf; nothing is turned.
  The program's hold: a heap at work, if it is right; nothing that was there is turned.
  The lock's word of a heap at work.
-/
import Derived.Laws.MakeOwn
import Derived.Defers
import Derived.Test.YtjofmoebijdccaaGreatB1
import Derived.Test.YtjofmoebijdccaaGreatB2
import Derived.Test.YtjofmoebijdccaaGreatB3
import Derived.Test.YtjofmoebijdccaaGreatB4
import Derived.Test.YtjofmoebijdccaaGreatB5
import Derived.Test.YtjofmoebijdccaaGreatB6
import Derived.Test.YtjofmoebijdccaaGreatB7
import Derived.Test.YtjofmoebijdccaaGreatB8
import Derived.Test.YtjofmoebijdccaaGreatB9
import Derived.Test.YtjofmoebijdccaaGreatB10
import Derived.Test.YtjofmoebijdccaaGreatB11
import Derived.Test.YtjofmoebijdccaaGreatB12
import Derived.Test.YtjofmoebijdccaaGreatB13
import Derived.Test.YtjofmoebijdccaaGreatB14
import Derived.Test.YtjofmoebijdccaaGreatB15
import Derived.Test.YtjofmoebijdccaaGreatB16
import Derived.Test.YtjofmoebijdccaaGreatB17
import Derived.Test.YtjofmoebijdccaaGreatB18
import Derived.Test.YtjofmoebijdccaaGreatB19
import Derived.Test.YtjofmoebijdccaaGreatB20
import Derived.Test.YtjofmoebijdccaaGreatB21
import Derived.Test.YtjofmoebijdccaaGreatB22
import Derived.Test.YtjofmoebijdccaaGreatB23
import Derived.Test.YtjofmoebijdccaaGreatB24
namespace Go.Proofs.YtjofmoebijdccaaGreat.heap
open Go Go.RowKit Go.Proofs.YtjofmoebijdccaaGreat.rose Go.Proofs.YtjofmoebijdccaaGreat Go.Proofs.YtjofmoebijdccaaGreat.fun Go.Proofs.YtjofmoebijdccaaGreat.words Go.Proofs.YtjofmoebijdccaaGreat.ints
set_option linter.unusedVariables false
set_option linter.unusedSimpArgs false

theorem atB_is {half base next : Nat} {M : List Bool} {l : List Int} (hM : MarksAre half base M l) (hn : next ≤ base + half) (hl : ∀ y ∈ l, (base : Int) ≤ y ∧ y < (next : Int)) (p : Int) : atB base next M p = decide (p ∈ l) := by
  unfold atB
  by_cases h1 : (base : Int) ≤ p
  · by_cases h2 : p < (next : Int)
    · have h3 := hM (p - base).toNat (by omega)
      rw [decide_eq_true h1, decide_eq_true h2, h3]
      rw [show ((base + (p - base).toNat : Nat) : Int) = p by omega]
      rfl
    · have : ¬ p ∈ l := fun hp => h2 (hl p hp).2
      rw [decide_eq_false h2, decide_eq_false this]; simp
  · have : ¬ p ∈ l := fun hp => h1 (hl p hp).1
    rw [decide_eq_false h1, decide_eq_false this]; simp
theorem kidM_is {half base next : Nat} {M : List Bool} {l : List Int} (hM : MarksAre half base M l) (hn : next ≤ base + half) (hl : ∀ y ∈ l, (base : Int) ≤ y ∧ y < (next : Int)) (x : Int) : kidM base next M x = thereB l x := by
  unfold kidM thereB
  rw [atB_is hM hn hl]
theorem plF_span {W : List Int} {nx p : Nat} (h : (plF W nx p).2 = true) : ∀ y ∈ (plF W nx p).1, (p : Int) ≤ y ∧ y < (nx : Int) := fun y hy => by
  obtain ⟨q, rfl, h1, h2⟩ := plF_in h y hy
  omega
/-- A place is at the head of those from it on. -/
theorem plF_head {W : List Int} {nx p : Nat} (hp : p < nx) (h : (plF W nx p).2 = true) : (plF W nx p).1 = (p : Int) :: (plF W nx (p + 1 + (manyF (W.getD p 0)).toNat)).1 ∧ (plF W nx (p + 1 + (manyF (W.getD p 0)).toNat)).2 = true ∧ p + (manyF (W.getD p 0)).toNat < nx := by
  rcases hb : badH (W.getD p 0) ((nx : Int) - p) with _ | _
  · have h2 := plF_more hp hb
    rw [h2] at h
    refine ⟨by rw [h2], h, ?_⟩
    have hi : (p : Int) ∈ (plF W nx p).1 := by rw [h2]; exact List.mem_cons_self ..
    obtain ⟨q, e, h3, h4⟩ := plF_in (by rw [h2]; exact h) _ hi
    obtain rfl : p = q := by omega
    exact h4
  · rw [plF_bad hp hb] at h; cases h

/-- Where the loop over blocks stands. -/
structure OK (W : List Int) (half base next : Nat) (p : Nat) (acc : List Int) : Prop where
  eq : (plF W next base).1 = acc ++ (plF W next p).1
  ok : (plF W next p).2 = true
  lim : base ≤ p ∧ p ≤ next
  kids : ∀ y ∈ acc, kidsB (W, (half : Int), (base : Int), (next : Int)) y.toNat = true

set_option maxRecDepth 100000 in
set_option maxHeartbeats 8000000 in
theorem okKids_is {B hb hm : Nat} {wv : Value} {W : List Int} {half base next : Nat} {lk : Int} {M : List Bool} {w : World} (h : HH B hb hm wv W half base next lk M w) (hM : MarksAre half base M (plF W next base).1) (hp : (plF W next base).2 = true) :
    Calls Tryz.prog 75 #[.pointer (some ⟨hb, 0, none⟩)] w fun e w' => e = .returned (.bool ((plF W next base).1.all fun x => kidsB (W, (half : Int), (base : Int), (next : Int)) x.toNat)) ∧ Below w.heap.size w w' := by
  have HW : Hid (HH B hb hm wv W half base next lk M w) := h
  have hcall := base_is h
  have hs : next ≤ base + half ∧ next ≤ 6000 ∧ W.length ≤ 6000 ∧ next ≤ W.length ∧ base ≤ next := by have := h.siz; omega
  have HKM : Hid (∀ x, kidM base next M x = thereB (plF W next base).1 x) := kidM_is hM hs.1 (plF_span hp)
  have HPT : Hid (plT (W, (half : Int), (base : Int), (next : Int)) = plF W next base) := by show _ = _; unfold plT; simp
  have K0 : Hid (OK W half base next base []) := ⟨by simp, hp, ⟨Nat.le_refl _, hs.2.2.2.2⟩, fun y hy => by cases hy⟩
  obtain ⟨r, hr⟩ : ∃ r, r = ((plF W next base).1.all fun x => kidsB (W, (half : Int), (base : Int), (next : Int)) x.toNat) := ⟨_, rfl⟩
  have HR : Hid (r = ((plF W next base).1.all fun x => kidsB (W, (half : Int), (base : Int), (next : Int)) x.toNat)) := hr
  rw [← hr]
  have HS : Hid _ := hs
  have hn6 : next ≤ 6000 := hs.2.1
  clear hr h hM hp hs
  go_enter Tryz.func75, Tryz.ntmps75
  go_wp2_with fail
  refine hcall.mono ?_
  rintro e w1 ⟨rfl, n, rfl⟩
  have B1 : Hid (Below w.heap.size w (w.drewN n)) := ⟨rfl, rfl, rfl, Nat.le_refl _, fun _ _ => rfl⟩
  clear hcall
  go_wp2
  go_loopw [3] (fun v3 wr => ∃ (p : Nat) (acc : List Int), v3 = .int .i64 p ∧ Hid (OK W half base next p acc) ∧ Hid (Below w.heap.size w wr)) (fun v3 _ => next + 1 - (intOf v3).toNat)
  case atStart => exact ⟨base, [], rfl, K0, B1⟩
  case round =>
    obtain ⟨p, acc, rfl, HO, HB⟩ := hrel
    obtain ⟨wo, hwo⟩ : ∃ wo, wo = wr := ⟨_, rfl⟩
    subst hwo
    have c5 := (HW.out.on HB.out).c5
    by_cases hlt : p < next
    · have hltI : (p : Int) < (next : Int) := by omega
      obtain ⟨e1, e2, e3⟩ := plF_head hlt HO.out.ok
      have H1 : Hid _ := HS.out
      obtain ⟨mn, hmn⟩ : ∃ t : Nat, (manyF (W.getD p 0)).toNat = t := ⟨_, rfl⟩
      have HMN : Hid ((manyF (W.getD p 0)).toNat = mn ∧ (plF W next p).1 = (p : Int) :: (plF W next (p + 1 + mn)).1 ∧ (plF W next (p + 1 + mn)).2 = true) := by rw [hmn] at e1 e2; exact ⟨hmn, e1, e2⟩
      have hpm : p + mn < next := by omega
      have hpl : p + mn < W.length := by have := HS.out; omega
      have hk := kidsAt_is (HW.out.on HB.out) p mn hmn hpl
      have hmn63 : mn ≤ 63 := by have := many_in (W.getD p 0); omega
      clear e1 e2 e3 hmn
      go_wp2_with fail
      refine hk.mono ?_
      rintro e w2 ⟨⟨kb, ko, kc, rfl, k1, k2, k3, k4⟩, hB2⟩
      have B2 : Hid (Below w.heap.size w w2) := HB.out.trans (hB2.mono HB.out.size)
      have KC : Hid (∀ j (hj : j < mn), ∃ hW : p + 1 + j < W.length, kb < B ∧ wo.cell? ⟨kb, ko + j, none⟩ = some (.int .i64 W[p + 1 + j]) ∧ -9223372036854775808 ≤ W[p + 1 + j] ∧ W[p + 1 + j] ≤ 9223372036854775807) := fun j hj => by
        obtain ⟨hW, q1, q2, q3⟩ := k4 j hj
        exact ⟨hW, k1, q1, q2, q3⟩
      have WR2 : Hid (Below wo.heap.size wo w2) := hB2
      clear hk hB2 k4 k2 k3 c5
      go_wp2
      go_loopw [29] (fun v29 wI => ∃ k : Nat, k ≤ mn ∧ v29 = .int .i64 k ∧ Hid (Below wo.heap.size wo wI) ∧ Hid (∀ j, j < k → thereB (plF W next base).1 (W.getD (p + 1 + j) 0) = true)) (fun v29 _ => mn + 1 - (intOf v29).toNat)
      case atStart => exact ⟨0, Nat.zero_le _, rfl, WR2, fun j hj => absurd hj (Nat.not_lt_zero _)⟩
      case round =>
        obtain ⟨k, hkm, rfl, HI, HT⟩ := hrel
        have hWI : Below w.heap.size w wr := HB.out.trans (HI.out.mono HB.out.size)
        by_cases hkl : k < mn
        · obtain ⟨hW, hkB, q1, q2, q3⟩ := KC.out k hkl
          have hkb : kb < wo.heap.size := by have := (HW.out.on HB.out).lo; have := (HW.out.on HB.out).lt; omega
          have ck : wr.cell? ⟨kb, ko + k, none⟩ = some (.int .i64 W[p + 1 + k]) := (HI.out.cell (p := ⟨kb, ko + k, none⟩) hkb).trans q1
          have hgd := getD_atH hW
          obtain ⟨x, hx⟩ : ∃ x, x = W[p + 1 + k] := ⟨_, rfl⟩
          rw [← hx] at ck hgd q2 q3
          have hc2 := okKid_is (HW.out.on hWI) x q2 q3
          rw [HKM.out x] at hc2
          have HG : Hid (W.getD (p + 1 + k) 0 = x) := hgd
          have HWI : Hid (Below w.heap.size w wr) := hWI
          have i0 : (0 : Int) ≤ (k : Int) := by omega
          have i1 : (k : Int) < (mn : Int) := by omega
          clear hx hgd q1 hkB hkb hWI
          rcases q : thereB (plF W next base).1 x with _ | _
          · have HF : Hid (r = false) := by
              show _ = _
              rw [HR.out, List.all_eq_false]
              refine ⟨(p : Int), by rw [HO.out.eq, HMN.out.2.1]; simp, ?_⟩
              have : kidsB (W, (half : Int), (base : Int), (next : Int)) p = false := kids_no (k := k) (by show k < (manyF (W.getD p 0)).toNat; rw [HMN.out.1]; exact hkl) (by show thereB (plT _).1 (W.getD (p + 1 + k) 0) = false; rw [HPT.out, HG.out]; exact q)
              rw [Int.toNat_natCast, this]; decide
            rw [q] at hc2
            clear q
            go_wp2_with fail
            refine hc2.mono ?_
            rintro e w3 ⟨rfl, n3, rfl⟩
            go_wp2
            go_ret
            exact ⟨ret_b HF.out.symm, ⟨HWI.out.os, HWI.out.tape, HWI.out.output, HWI.out.size, HWI.out.block⟩⟩
          · rw [q] at hc2
            have HQ : Hid (thereB (plF W next base).1 x = true) := q
            clear q
            go_wp2_with fail
            refine hc2.mono ?_
            rintro e w3 ⟨rfl, n3, rfl⟩
            have HI3 : Hid (Below wo.heap.size wo (wr.drewN n3)) := ⟨HI.out.os, HI.out.tape, HI.out.output, HI.out.size, HI.out.block⟩
            go_wp2
            go_round
            case rel => exact ⟨k + 1, by omega, by go_num, HI3, fun j hj => by
              by_cases e : j = k
              · subst e; rw [HG.out]; exact HQ.out
              · exact HT.out j (by omega)⟩
            case measure => simp [intOf]; omega
        · obtain rfl : k = mn := by omega
          have hkk : ¬ (k : Int) < (k : Int) := by omega
          have HH3 : Hid (HH B hb hm wv W half base next lk M wr) := HW.out.on hWI
          obtain ⟨a0, c0, e, -, -, hat⟩ := ints_open HH3.out.wds
          subst e
          have hpl2 : p < W.length := by omega
          obtain ⟨b, o, rfl, hS, cx, r1, r2⟩ := hat p hpl2
          have c3 := HH3.out.c3
          have hgd := getD_atH hpl2
          obtain ⟨x, hx⟩ : ∃ x, x = W[p] := ⟨_, rfl⟩
          rw [← hx] at cx hgd r1 r2
          have hmx : manyF x = (k : Int) := by have := HMN.out.1; rw [hgd] at this; have := many_in x; omega
          have hcallh : ∀ W' : World, Calls Tryz.prog 92 #[.int .i64 x] W' fun e w' => e = .returned (.agg #[.bool (funF x), .int .i64 (tagS x), .int .i64 k]) ∧ Below W'.heap.size W' w' := fun W' => by rw [← hmx]; exact headerOf_is x W' r1 r2
          have i0 : (0 : Int) ≤ (p : Int) := by omega
          have pI : (p : Int) < (W.length : Int) := by omega
          have HWI : Hid (Below w.heap.size w wr) := hWI
          clear hat hx hgd hmx hWI
          go_wp2_with (first
            | (go_at_call 92; refine (hcallh _).mono ?_; rintro e w3 ⟨rfl, hB3⟩)
            | (go_at_call 94; refine (hdrSize_is _ _ _ _ (by omega) (by omega)).mono ?_; rintro e w4 ⟨rfl, hB4⟩))
          have HWI4 : Hid (Below w.heap.size w w4) := (HWI.out.trans (hB3.mono HWI.out.size)).trans (hB4.mono (Nat.le_trans HWI.out.size hB3.size))
          have HO2 : Hid (OK W half base next (p + 1 + k) (acc ++ [(p : Int)])) := ⟨by rw [HO.out.eq, HMN.out.2.1]; simp, HMN.out.2.2, ⟨by have := HO.out.lim; omega, by omega⟩, fun y hy => by
            rcases List.mem_append.1 hy with q | q
            · exact HO.out.kids y q
            · rw [List.mem_singleton] at q
              subst q
              rw [Int.toNat_natCast]
              refine kids_yes fun z hz => ?_
              have hz' : z < (manyF (W.getD p 0)).toNat := hz
              rw [HMN.out.1] at hz'
              show thereB (plT _).1 (W.getD (p + 1 + z) 0) = true
              rw [HPT.out]
              exact HT.out z hz'⟩
          go_round
          case rel => exact ⟨p + 1 + k, acc ++ [(p : Int)], by go_num, HO2, HWI4⟩
          case measure => simp [intOf]; omega
    · have hpn : p = next := by have := HO.out.lim; omega
      have hnl : ¬ (p : Int) < (next : Int) := by omega
      have HF : Hid (r = true) := by
        show _ = _
        rw [HR.out, List.all_eq_true]
        intro y hy
        have := HO.out.eq
        rw [plF_end (p := p) (by omega), List.append_nil] at this
        rw [this] at hy
        exact HO.out.kids y hy
      go_wp2
      go_ret
      exact ⟨ret_b HF.out.symm, HB.out⟩

end Go.Proofs.YtjofmoebijdccaaGreat.heap

namespace Go.Proofs.YtjofmoebijdccaaGreat.heap
open Go Go.RowKit Go.Proofs.YtjofmoebijdccaaGreat Go.Proofs.YtjofmoebijdccaaGreat.fun
set_option linter.unusedVariables false
set_option linter.unusedSimpArgs false

set_option maxHeartbeats 1000000 in
theorem half_is {n : Int} {b : Bool} {w : World} (h : inB n 1 3000 = b) :
    Calls Tryz.prog 89 #[.int .i64 n] w fun e w' => e = .returned (.bool b) ∧ w' = w := by
  by_cases h1 : 1 ≤ n
  · have h6 : decide (1 ≤ n) = true := decide_eq_true h1
    go_enter Tryz.func89, Tryz.ntmps89
    go_wp2
    go_ret
    exact ⟨words.ret_bW (by rw [← h]; simp only [inB, h6, Bool.true_and]), rfl⟩
  · have h2 : decide (1 ≤ n) = false := decide_eq_false h1
    go_enter Tryz.func89, Tryz.ntmps89
    go_wp2
    go_ret
    exact ⟨words.ret_bW (by rw [← h]; simp only [inB, h2, Bool.false_and]), rfl⟩

end Go.Proofs.YtjofmoebijdccaaGreat.heap

namespace Go.Proofs.YtjofmoebijdccaaGreat.heap
open Go Go.RowKit Go.Proofs.YtjofmoebijdccaaGreat.rose Go.Proofs.YtjofmoebijdccaaGreat Go.Proofs.YtjofmoebijdccaaGreat.fun Go.Proofs.YtjofmoebijdccaaGreat.words Go.Proofs.YtjofmoebijdccaaGreat.ints
set_option linter.unusedVariables false
set_option linter.unusedSimpArgs false

set_option maxHeartbeats 4000000 in
theorem okHalves_is (T : HeapD) (cs : List Value) (w : World) (h : heapSh.rep w (· < w.heap.size) cs T) :
    Calls Tryz.prog 72 #[.agg cs.toArray] w fun e w' => e = .returned (.bool (headB T)) ∧ Below w.heap.size w w' := by
  obtain ⟨W, a0, c0, half, base, next, rfl, rfl, f0, f1, f2, f3⟩ := heap_open h
  obtain ⟨a, cap, e, hcap, hmax, hat⟩ := ints_open f0
  cases e
  have hmx : (W.length : Int) ≤ 9223372036854775807 := by unfold maxLen at hmax; omega
  have BA : Hid (Below w.heap.size w (w.alloc (.cells #[.slice a0 W.length c0, .int .i64 half, .int .i64 base, .int .i64 next] 40))) := (Below.refl _ _).alloc (Nat.le_refl _) _
  obtain ⟨r, hr⟩ : ∃ r, r = headB (W, half, base, next) := ⟨_, rfl⟩
  have HR : Hid (r = headB (W, half, base, next)) := hr
  rw [← hr]
  clear h f0 hcap hmax hat hr
  rcases q1 : inB half 1 3000 with _ | _
  · have HF : Hid (r = false) := by show _ = _; rw [HR.out]; unfold headB; rw [q1]; rfl
    go_enter Tryz.func72, Tryz.ntmps72
    go_wp2_with (go_at_call 89; refine (half_is (by assumption)).mono ?_; rintro e w' ⟨rfl, hx⟩; subst w')
    go_ret
    exact ⟨ret_b HF.out.symm, BA.out⟩
  have g1 := inB_yes q1
  by_cases q2 : (W.length : Int) = 2 * half
  case neg =>
    have t2 : ((W.length : Int) != 2 * half) = true := by simpa using q2
    have HF : Hid (r = false) := by show _ = _; rw [HR.out]; unfold headB; simp [q2]
    go_enter Tryz.func72, Tryz.ntmps72
    go_wp2_with (go_at_call 89; refine (half_is (by assumption)).mono ?_; rintro e w' ⟨rfl, hx⟩; subst w')
    go_ret
    exact ⟨ret_b HF.out.symm, BA.out⟩
  have t2 : ((W.length : Int) != 2 * half) = false := by simpa using q2
  by_cases q3 : base = 0 ∨ base = half
  case neg =>
    have t3 : (base != 0) = true := by simp; omega
    have t3' : (base != half) = true := by simp; omega
    have HF : Hid (r = false) := by show _ = _; rw [HR.out]; unfold headB; simp; omega
    go_enter Tryz.func72, Tryz.ntmps72
    go_wp2_with (go_at_call 89; refine (half_is (by assumption)).mono ?_; rintro e w' ⟨rfl, hx⟩; subst w')
    go_ret
    exact ⟨ret_b HF.out.symm, BA.out⟩
  have T3 : Hid ((base != 0) = false ∨ ((base != 0) = true ∧ (base != half) = false)) := by
    show _ ∨ _
    by_cases z : base = 0
    · exact .inl (by simpa using z)
    · exact .inr ⟨by simpa using z, by simp; omega⟩
  have HR2 : Hid (r = (decide (base ≤ next) && decide (next ≤ base + half))) := by
    show _ = _
    rw [HR.out]; unfold headB inB; dsimp only
    have : inB half 1 3000 = true := q1
    unfold inB at this
    rw [this]
    simp [q2]
    rcases q3 with q | q <;> simp [q]
  rcases q4 : decide (base ≤ next) with _ | _
  · have HF : Hid (r = false) := by show _ = _; rw [HR2.out, q4]; rfl
    rcases T3.out with t3 | ⟨t3, t3'⟩
    all_goals
      go_enter Tryz.func72, Tryz.ntmps72
      go_wp2_with (go_at_call 89; refine (half_is (by assumption)).mono ?_; rintro e w' ⟨rfl, hx⟩; subst w')
      go_ret
      exact ⟨ret_b HF.out.symm, BA.out⟩
  · obtain ⟨t, ht⟩ : ∃ t, decide (next ≤ base + half) = t := ⟨_, rfl⟩
    have HF : Hid (r = t) := by show _ = _; rw [HR2.out, q4, ht]; rfl
    rcases T3.out with t3 | ⟨t3, t3'⟩
    all_goals
      go_enter Tryz.func72, Tryz.ntmps72
      go_wp2_with (go_at_call 89; refine (half_is (by assumption)).mono ?_; rintro e w' ⟨rfl, hx⟩; subst w')
      go_ret
      exact ⟨ret_b HF.out.symm, BA.out⟩

theorem add1_is {a : Addr} {w : World} (hc : w.cell? a = some (.int .i64 0)) (hz : w.frozen? a = false) :
    Calls Tryz.prog 73 #[.pointer (some a), .int .i64 1] w fun e w' => e = .returned (.int .i64 1) ∧ w' = w.setCell a (.int .i64 1) := lock.add_is (x := 0) (y := 1) hc hz (by decide) (by decide)

theorem infoN_bool : (Tryz.prog.info? 4).map (fun i => (i.zero, i.size, i.bytes)) = some (some (.bool false), 1, 1) := by kernel_rfl
theorem make_bools (n : Nat) (h : n ≤ 1048576) (w : World) : (Instr.makeSlice 135 (.int .i64 (n : Int)) (.int .i64 (n : Int))).run Tryz.prog w = .ok (.slice (some ⟨w.heap.size, 0, none⟩) n n)
    (w.alloc (.cells (List.replicate n (.bool false)).toArray 4)) := by
  obtain ⟨i, hi, hzz⟩ := Option.map_eq_some_iff.1 infoN_bool
  simp only [Prod.mk.injEq] at hzz
  obtain ⟨hz, hs, hb⟩ := hzz
  have := run_make (P := Tryz.prog) w 135 4 i _ Tryz.underlying135 hi hz .i64 .i64 n n (by omega) (by omega) (by rw [hb]; omega) (by omega)
  have e : madeCells #[.bool false] (n * 1) = (List.replicate n (.bool false)).toArray := by
    apply Array.ext
    · simp [madeCells]
    · intro j h1 h2
      simp [madeCells, Nat.mod_one]
  rw [← e]
  simpa [hs, Value.cells] using this

/-- What hold answers. -/
def HoldOut (W : List Int) (half base next : Int) (wv : Value) (w : World) (e : Ending) (w' : World) : Prop :=
  (heapB (W, half, base, next) = false → ∃ p, e = .returned (.tuple #[.pointer p, .bool false])) ∧
  (heapB (W, half, base, next) = true → ∃ (hb hm hf bs nx : Nat) (M : List Bool), half = hf ∧ base = bs ∧ next = nx ∧ e = .returned (.tuple #[.pointer (some ⟨hb, 0, none⟩), .bool true]) ∧ HH w.heap.size hb hm wv W hf bs nx 0 M w' ∧ MarksAre hf bs M (plF W nx bs).1)

theorem heapB_parts {T : HeapD} : heapB T = (headB T && (plT T).2 && ((plT T).1.all fun x => kidsB T x.toNat)) := rfl

set_option maxRecDepth 100000 in
set_option maxHeartbeats 8000000 in
theorem hold_is (W : List Int) (a0 : Option Addr) (c0 : Nat) (half base next : Int) (w : World) (h : heapSh.rep w (· < w.heap.size) [.slice a0 W.length c0, .int .i64 half, .int .i64 base, .int .i64 next] (W, half, base, next)) :
    Calls Tryz.prog 51 #[.agg #[.slice a0 W.length c0, .int .i64 half, .int .i64 base, .int .i64 next]] w fun e w' => HoldOut W half base next (.slice a0 W.length c0) w e w' ∧ Below w.heap.size w w' := by
  have AH : Hid (∀ w' : World, Below w.heap.size w w' → heapSh.rep w' (· < w'.heap.size) [.slice a0 W.length c0, .int .i64 half, .int .i64 base, .int .i64 next] (W, half, base, next)) := fun w' hb => heapSh.mono (heapSh.below h hb) fun b hlt => Nat.lt_of_lt_of_le hlt hb.size
  have AI : Hid (∀ w' : World, Below w.heap.size w w' → intsSh.rep w' (· < w.heap.size) [.slice a0 W.length c0] W) := fun w' hb => by
    obtain ⟨W', a', c', hf', bs', nx', eT, eC, f0, -⟩ := heap_open (heapSh.below h hb)
    simp only [Prod.mk.injEq] at eT
    obtain ⟨rfl, rfl, rfl, rfl⟩ := eT
    simp only [List.cons.injEq] at eC
    rw [eC.1]; exact f0
  obtain ⟨W', a', c', hf', bs', nx', eT, eC, -, f1, f2, f3⟩ := heap_open h
  simp only [Prod.mk.injEq] at eT
  obtain ⟨rfl, rfl, rfl, rfl⟩ := eT
  clear eC a' c'
  have A0 : Hid (ArgK w (w.alloc (.cells #[.slice a0 W.length c0, .int .i64 half, .int .i64 base, .int .i64 next] 40)) [.slice a0 W.length c0, .int .i64 half, .int .i64 base, .int .i64 next] 40) := ArgK.new _ _ _ rfl
  have hcall := okHalves_is (W, half, base, next) [.slice a0 W.length c0, .int .i64 half, .int .i64 base, .int .i64 next] _ (AH.out _ A0.out.bel)
  clear h
  rcases q1 : headB (W, half, base, next) with _ | _
  · have HF : Hid (heapB (W, half, base, next) = false) := heapB_head q1
    rw [q1] at hcall
    clear q1 f1 f2 f3
    go_enter Tryz.func51, Tryz.ntmps51
    go_wp2_with fail
    refine hcall.mono ?_
    rintro e w1 ⟨rfl, hb⟩
    have A1 := A0.out.on hb
    clear hcall hb
    go_wp2
    refine bodyPost_ret (v := .tuple #[.pointer none, .bool false]) (by simp [results, Tryz.f51, go_sem]) rfl ?_
    exact ⟨⟨fun _ => ⟨_, rfl⟩, fun hq => by rw [HF.out] at hq; cases hq⟩, A1.bel⟩
  · rw [q1] at hcall
    have hin := head_in q1
    dsimp only at hin
    obtain ⟨hf, rfl⟩ : ∃ z : Nat, half = z := ⟨half.toNat, by omega⟩
    obtain ⟨bs, rfl⟩ : ∃ z : Nat, base = z := ⟨base.toNat, by omega⟩
    obtain ⟨nx, rfl⟩ : ∃ z : Nat, next = z := ⟨next.toNat, by omega⟩
    have HSZ : Hid (W.length = 2 * hf ∧ (bs = 0 ∨ bs = hf) ∧ 1 ≤ hf ∧ hf ≤ 3000 ∧ bs ≤ nx ∧ nx ≤ bs + hf) := by show _ ∧ _; omega
    have HPT : Hid (plT (W, (hf : Int), (bs : Int), (nx : Int)) = plF W nx bs) := by show _ = _; unfold plT; simp
    have HHB : Hid (heapB (W, (hf : Int), (bs : Int), (nx : Int)) = ((plF W nx bs).2 && ((plF W nx bs).1.all fun x => kidsB (W, (hf : Int), (bs : Int), (nx : Int)) x.toNat))) := by show _ = _; rw [heapB_parts, q1, HPT.out]; rfl
    have hmk := make_bools hf (by omega)
    have h3000 : hf ≤ 3000 ∧ bs ≤ 3000 ∧ nx ≤ 6000 := by omega
    have hf0 : (0 : Int) ≤ (hf : Int) := by omega
    clear q1 hin f1 f2 f3
    go_enter Tryz.func51, Tryz.ntmps51
    go_wp2_with fail
    refine hcall.mono ?_
    rintro e w1 ⟨rfl, hb⟩
    have A1 : Hid (ArgK w w1 [.slice a0 W.length c0, .int .i64 hf, .int .i64 bs, .int .i64 nx] 40) := A0.out.on hb
    clear hcall hb A0
    have k0 : w1.cell? ⟨w.heap.size, 0, none⟩ = some (.slice a0 W.length c0) := A1.out.cell 0 rfl
    have k1 : w1.cell? ⟨w.heap.size, 1, none⟩ = some (.int .i64 hf) := A1.out.cell 1 rfl
    have k3 : w1.cell? ⟨w.heap.size, 3, none⟩ = some (.int .i64 nx) := A1.out.cell 3 rfl
    have k0n : w1.drew.cell? ⟨w.heap.size, 0, none⟩ = some (.slice a0 W.length c0) := k0
    have k1n : w1.drew.cell? ⟨w.heap.size, 1, none⟩ = some (.int .i64 hf) := k1
    have k3n : w1.drew.cell? ⟨w.heap.size, 3, none⟩ = some (.int .i64 nx) := k3
    have A2 : Hid (∀ Y : Obj, ArgK w (w1.alloc Y) [.slice a0 W.length c0, .int .i64 hf, .int .i64 bs, .int .i64 nx] 40) := fun Y => A1.out.on ((Below.refl _ _).alloc (Nat.le_refl _) _)
    have A3 : Hid (∀ Y Z : Obj, ArgK w ((w1.alloc Y).alloc Z) [.slice a0 W.length c0, .int .i64 hf, .int .i64 bs, .int .i64 nx] 40) := fun Y Z => (A2.out Y).on ((Below.refl _ _).alloc (Nat.le_refl _) _)
    have k0A : ∀ Y : Obj, (w1.alloc Y).drew.cell? ⟨w.heap.size, 0, none⟩ = some (.slice a0 W.length c0) := fun Y => (A2.out Y).cell 0 rfl
    have k0B : ∀ Y Z : Obj, ((w1.alloc Y).alloc Z).drew.cell? ⟨w.heap.size, 0, none⟩ = some (.slice a0 W.length c0) := fun Y Z => (A3.out Y Z).cell 0 rfl
    have k1A : ∀ Y : Obj, (w1.alloc Y).drew.cell? ⟨w.heap.size, 1, none⟩ = some (.int .i64 hf) := fun Y => (A2.out Y).cell 1 rfl
    have k1B : ∀ Y Z : Obj, ((w1.alloc Y).alloc Z).drew.cell? ⟨w.heap.size, 1, none⟩ = some (.int .i64 hf) := fun Y Z => (A3.out Y Z).cell 1 rfl
    have k3A : ∀ Y : Obj, (w1.alloc Y).drew.cell? ⟨w.heap.size, 3, none⟩ = some (.int .i64 nx) := fun Y => (A2.out Y).cell 3 rfl
    have k3B : ∀ Y Z : Obj, ((w1.alloc Y).alloc Z).drew.cell? ⟨w.heap.size, 3, none⟩ = some (.int .i64 nx) := fun Y Z => (A3.out Y Z).cell 3 rfl
    go_wp2
    go_region_held3 (fun X => X.cell? ⟨w.heap.size, 0, none⟩ = some (.slice a0 W.length c0) ∧ X.cell? ⟨w.heap.size, 1, none⟩ = some (.int .i64 hf) ∧ X.cell? ⟨w.heap.size, 3, none⟩ = some (.int .i64 nx))
      (exact ⟨(by first | with_reducible exact k0 | with_reducible exact k0n | with_reducible exact k0A _ | with_reducible exact k0B _ _), (by first | with_reducible exact k1 | with_reducible exact k1n | with_reducible exact k1A _ | with_reducible exact k1B _ _), (by first | with_reducible exact k3 | with_reducible exact k3n | with_reducible exact k3A _ | with_reducible exact k3B _ _)⟩)
      (fail)
    have hz1 := A1.out.lt
    obtain ⟨wR, hwR⟩ : ∃ wR, wR = ((w1.alloc (.cells (Array.replicate hf (.bool false)) 4)).alloc (.cells #[.int .i32 0, .int .u32 0, .int .i64 0, .slice a0 W.length c0, .int .i64 hf, .int .i64 nx, .slice (some ⟨w1.heap.size, 0, none⟩) hf hf] 148)).drew := ⟨_, rfl⟩
    rw [← hwR]
    have RB : wR.heap[w1.heap.size + 1]? = some (.cells #[.int .i32 0, .int .u32 0, .int .i64 0, .slice a0 W.length c0, .int .i64 hf, .int .i64 nx, .slice (some ⟨w1.heap.size, 0, none⟩) hf hf] 148) := by
      rw [hwR]
      have := alloc_top (w1.alloc (.cells (Array.replicate hf (.bool false)) 4)) (.cells #[.int .i32 0, .int .u32 0, .int .i64 0, .slice a0 W.length c0, .int .i64 hf, .int .i64 nx, .slice (some ⟨w1.heap.size, 0, none⟩) hf hf] 148)
      rwa [World.size_alloc] at this
    have RM : wR.heap[w1.heap.size]? = some (.cells (Array.replicate hf (.bool false)) 4) := by
      rw [hwR]
      have hB : Below (w1.alloc (.cells (Array.replicate hf (.bool false)) 4)).heap.size (w1.alloc (.cells (Array.replicate hf (.bool false)) 4)) ((w1.alloc (.cells (Array.replicate hf (.bool false)) 4)).alloc (.cells #[.int .i32 0, .int .u32 0, .int .i64 0, .slice a0 W.length c0, .int .i64 hf, .int .i64 nx, .slice (some ⟨w1.heap.size, 0, none⟩) hf hf] 148)).drew := ((Below.refl _ _).alloc (Nat.le_refl _) _).drew
      exact (hB.block _ (by simp)).trans (alloc_top _ _)
    have AR : Hid (ArgK w wR [.slice a0 W.length c0, .int .i64 hf, .int .i64 bs, .int .i64 nx] 40) := by rw [hwR]; exact (A3.out _ _).drew
    clear hwR A2 A3 k0A k0B k1A k1B k3A k3B k0n k1n k3n k0 k1 k3 hmk
    generalize hgm : w1.heap.size = hm at *
    have hhb : ∃ hb, hm + 1 = hb := ⟨_, rfl⟩
    obtain ⟨hb, hhb⟩ := hhb
    rw [hhb] at RB
    simp only [hhb]
    have hLO : w.heap.size ≤ hb ∧ w.heap.size ≤ hm ∧ hb ≠ hm := by omega
    have LO : Hid _ := hLO
    have k2 : wR.cell? ⟨w.heap.size, 2, none⟩ = some (.int .i64 bs) := AR.out.cell 2 rfl
    have r2 : wR.cell? ⟨hb, 2, none⟩ = some (.int .i64 0) := by simp [World.cell?, RB]
    have rz : wR.frozen? ⟨hb, 2, none⟩ = false := by simp [World.frozen?, RB]
    have RBh : Hid _ := RB
    have RMh : Hid _ := RM
    clear RB RM hz1 hLO hhb hgm A1
    by_cases hz : bs = 0
    · have KX : Hid (HH w.heap.size hb hm (.slice a0 W.length c0) W hf bs nx 0 (List.replicate hf false) wR) :=
        ⟨LO.out, by rw [RBh.out]; subst hz; rfl, by rw [RMh.out]; simp, by simp, AI.out _ AR.out.bel, HSZ.out⟩
      have BX : Hid (Below w.heap.size w wR) := AR.out.bel
      have hzz : ¬ (0 : Int) < (bs : Int) := by omega
      clear r2 rz
      go_wp2_with fail
      have hfi := findBlocks_is KX.out (fun j hj => by simp [List.getD, hj])
      rcases q5 : (plF W nx bs).2 with _ | _
      · have HF : Hid (heapB (W, (hf : Int), (bs : Int), (nx : Int)) = false) := by show _ = _; rw [HHB.out, q5]; rfl
        rw [q5] at hfi
        clear q5
        go_wp2_with fail
        refine hfi.mono ?_
        rintro e w5 ⟨rfl, -, hB5⟩
        have HB5 : Hid (Below w.heap.size w w5) := BX.out.trans hB5
        clear hfi hB5
        go_wp2
        refine bodyPost_ret (v := .tuple #[.pointer (some ⟨hb, 0, none⟩), .bool false]) (by simp [results, Tryz.f51, go_sem]) rfl ?_
        exact ⟨⟨fun _ => ⟨_, rfl⟩, fun hq => by rw [HF.out] at hq; cases hq⟩, HB5.out⟩
      · have Q5 : Hid ((plF W nx bs).2 = true) := q5
        rw [q5] at hfi
        clear q5
        go_wp2_with fail
        refine hfi.mono ?_
        rintro e w5 ⟨rfl, ⟨M5, hH5, hM5⟩, hB5⟩
        have HB5 : Hid (Below w.heap.size w w5) := BX.out.trans hB5
        have hM6 := hM5 (by first | trivial | exact Q5.out)
        have hok := okKids_is hH5 hM6 Q5.out
        have KK : Hid (HH w.heap.size hb hm (.slice a0 W.length c0) W hf bs nx 0 M5 w5 ∧ MarksAre hf bs M5 (plF W nx bs).1) := ⟨hH5, hM6⟩
        obtain ⟨rr, hrr⟩ : ∃ rr, rr = ((plF W nx bs).1.all fun x => kidsB (W, (hf : Int), (bs : Int), (nx : Int)) x.toNat) := ⟨_, rfl⟩
        have HF : Hid (heapB (W, (hf : Int), (bs : Int), (nx : Int)) = rr) := by show _ = _; rw [HHB.out, Q5.out, hrr]; rfl
        rw [← hrr] at hok
        clear hfi hB5 hH5 hM5 hM6 hrr
        go_wp2_with fail
        refine hok.mono ?_
        rintro e w6 ⟨rfl, hB6⟩
        have HB6 : Hid (Below w.heap.size w w6) := HB5.out.trans (hB6.mono HB5.out.size)
        have K6 : Hid (HH w.heap.size hb hm (.slice a0 W.length c0) W hf bs nx 0 M5 w6) := KK.out.1.on hB6
        clear hok hB6
        go_wp2
        cases rr
        · refine bodyPost_ret (v := .tuple #[.pointer (some ⟨hb, 0, none⟩), .bool false]) (by simp [results, Tryz.f51, go_sem]) rfl ?_
          exact ⟨⟨fun _ => ⟨_, rfl⟩, fun hq => by rw [HF.out] at hq; cases hq⟩, HB6.out⟩
        · refine bodyPost_ret (v := .tuple #[.pointer (some ⟨hb, 0, none⟩), .bool true]) (by simp [results, Tryz.f51, go_sem]) rfl ?_
          exact ⟨⟨fun hq => (by rw [HF.out] at hq; cases hq), fun _ => ⟨hb, hm, hf, bs, nx, M5, rfl, rfl, rfl, rfl, K6.out, KK.out.2⟩⟩, HB6.out⟩
    · have KX : Hid (HH w.heap.size hb hm (.slice a0 W.length c0) W hf bs nx 0 (List.replicate hf false) (wR.setCell ⟨hb, 2, none⟩ (.int .i64 1))) := by
        have hlo := LO.out
        refine ⟨LO.out, ?_, (Below.heap_setCell _ _ _ _ (by show hm ≠ hb; omega)).trans (by rw [RMh.out]; simp), by simp, intsSh.on (AI.out _ AR.out.bel) fun b hb' => Below.heap_setCell _ _ _ _ (by show b ≠ hb; omega), HSZ.out⟩
        have : timesF bs = 1 := by unfold timesF; rw [if_neg hz]
        rw [this]
        simp [World.setCell, Array.getElem?_modify, RBh.out]
      have BX : Hid (Below w.heap.size w (wR.setCell ⟨hb, 2, none⟩ (.int .i64 1))) := AR.out.bel.setCell LO.out.1 _
      have hzz : (0 : Int) < (bs : Int) := by omega
      go_wp2_with (go_at_call 73; refine (add1_is r2 rz).mono ?_; rintro e w4 ⟨rfl, hw4⟩; subst hw4)
      have hfi := findBlocks_is KX.out (fun j hj => by simp [List.getD, hj])
      rcases q5 : (plF W nx bs).2 with _ | _
      · have HF : Hid (heapB (W, (hf : Int), (bs : Int), (nx : Int)) = false) := by show _ = _; rw [HHB.out, q5]; rfl
        rw [q5] at hfi
        clear q5
        go_wp2_with fail
        refine hfi.mono ?_
        rintro e w5 ⟨rfl, -, hB5⟩
        have HB5 : Hid (Below w.heap.size w w5) := BX.out.trans hB5
        clear hfi hB5
        go_wp2
        refine bodyPost_ret (v := .tuple #[.pointer (some ⟨hb, 0, none⟩), .bool false]) (by simp [results, Tryz.f51, go_sem]) rfl ?_
        exact ⟨⟨fun _ => ⟨_, rfl⟩, fun hq => by rw [HF.out] at hq; cases hq⟩, HB5.out⟩
      · have Q5 : Hid ((plF W nx bs).2 = true) := q5
        rw [q5] at hfi
        clear q5
        go_wp2_with fail
        refine hfi.mono ?_
        rintro e w5 ⟨rfl, ⟨M5, hH5, hM5⟩, hB5⟩
        have HB5 : Hid (Below w.heap.size w w5) := BX.out.trans hB5
        have hM6 := hM5 (by first | trivial | exact Q5.out)
        have hok := okKids_is hH5 hM6 Q5.out
        have KK : Hid (HH w.heap.size hb hm (.slice a0 W.length c0) W hf bs nx 0 M5 w5 ∧ MarksAre hf bs M5 (plF W nx bs).1) := ⟨hH5, hM6⟩
        obtain ⟨rr, hrr⟩ : ∃ rr, rr = ((plF W nx bs).1.all fun x => kidsB (W, (hf : Int), (bs : Int), (nx : Int)) x.toNat) := ⟨_, rfl⟩
        have HF : Hid (heapB (W, (hf : Int), (bs : Int), (nx : Int)) = rr) := by show _ = _; rw [HHB.out, Q5.out, hrr]; rfl
        rw [← hrr] at hok
        clear hfi hB5 hH5 hM5 hM6 hrr
        go_wp2_with fail
        refine hok.mono ?_
        rintro e w6 ⟨rfl, hB6⟩
        have HB6 : Hid (Below w.heap.size w w6) := HB5.out.trans (hB6.mono HB5.out.size)
        have K6 : Hid (HH w.heap.size hb hm (.slice a0 W.length c0) W hf bs nx 0 M5 w6) := KK.out.1.on hB6
        clear hok hB6
        go_wp2
        cases rr
        · refine bodyPost_ret (v := .tuple #[.pointer (some ⟨hb, 0, none⟩), .bool false]) (by simp [results, Tryz.f51, go_sem]) rfl ?_
          exact ⟨⟨fun _ => ⟨_, rfl⟩, fun hq => by rw [HF.out] at hq; cases hq⟩, HB6.out⟩
        · refine bodyPost_ret (v := .tuple #[.pointer (some ⟨hb, 0, none⟩), .bool true]) (by simp [results, Tryz.f51, go_sem]) rfl ?_
          exact ⟨⟨fun hq => (by rw [HF.out] at hq; cases hq), fun _ => ⟨hb, hm, hf, bs, nx, M5, rfl, rfl, rfl, rfl, K6.out, KK.out.2⟩⟩, HB6.out⟩

end Go.Proofs.YtjofmoebijdccaaGreat.heap

namespace Go.Proofs.YtjofmoebijdccaaGreat.heap
open Go Go.RowKit Go.Proofs.YtjofmoebijdccaaGreat.rose Go.Proofs.YtjofmoebijdccaaGreat Go.Proofs.YtjofmoebijdccaaGreat.fun Go.Proofs.YtjofmoebijdccaaGreat.words Go.Proofs.YtjofmoebijdccaaGreat.ints
set_option linter.unusedVariables false
set_option linter.unusedSimpArgs false

/-- The lock's word is written. -/
theorem HH.lockw {B hb hm : Nat} {wv : Value} {W : List Int} {half base next : Nat} {lk : Int} {M : List Bool} {w : World} (h : HH B hb hm wv W half base next lk M w) (v : Int) : HH B hb hm wv W half base next v M (w.setCell ⟨hb, 0, none⟩ (.int .i32 v)) := by
  have hlo := h.lo
  refine ⟨h.lo, by simp [World.setCell, Array.getElem?_modify, h.blk], (Below.heap_setCell _ _ _ _ (by show hm ≠ hb; omega)).trans h.mks, h.len, intsSh.on h.wds fun b hb' => Below.heap_setCell _ _ _ _ (by show b ≠ hb; omega), h.siz⟩
theorem drewN_bel {B : Nat} {w w' : World} (h : Below B w w') (n : Nat) : Below B w (w'.drewN n) := ⟨h.os, h.tape, h.output, h.size, h.block⟩

end Go.Proofs.YtjofmoebijdccaaGreat.heap
