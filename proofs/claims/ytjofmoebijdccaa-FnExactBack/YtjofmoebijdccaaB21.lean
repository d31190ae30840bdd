/-
  A heap at work looks at its kids (okKids): they are right as the model says.
  The program's okHalf; nothing is turned.
-/
import Derived.Test.YtjofmoebijdccaaB1
import Derived.Test.YtjofmoebijdccaaB2
import Derived.Test.YtjofmoebijdccaaB3
import Derived.Test.YtjofmoebijdccaaB4
import Derived.Test.YtjofmoebijdccaaB5
import Derived.Test.YtjofmoebijdccaaB6
import Derived.Test.YtjofmoebijdccaaB7
import Derived.Test.YtjofmoebijdccaaB8
import Derived.Test.YtjofmoebijdccaaB9
import Derived.Test.YtjofmoebijdccaaB10
import Derived.Test.YtjofmoebijdccaaB11
import Derived.Test.YtjofmoebijdccaaB12
import Derived.Test.YtjofmoebijdccaaB13
import Derived.Test.YtjofmoebijdccaaB14
import Derived.Test.YtjofmoebijdccaaB15
import Derived.Test.YtjofmoebijdccaaB16
import Derived.Test.YtjofmoebijdccaaB17
import Derived.Test.YtjofmoebijdccaaB18
import Derived.Test.YtjofmoebijdccaaB19
import Derived.Test.YtjofmoebijdccaaB20
namespace Go.Proofs.Ytjofmoebijdccaa.heap
open Go Go.RowKit Go.Proofs.Ytjofmoebijdccaa.rose Go.Proofs.Ytjofmoebijdccaa Go.Proofs.Ytjofmoebijdccaa.fun Go.Proofs.Ytjofmoebijdccaa.words Go.Proofs.Ytjofmoebijdccaa.ints
set_option linter.unusedVariables false
set_option linter.unusedSimpArgs false

theorem atB_is {half base next : Nat} {M : List Bool} {l : List Int} (hM : MarksAre half base M l) (hn : next ≤ base + half) (hl : ∀ y ∈ l, (base : Int) ≤ y ∧ y < (next : Int)) (p : Int) : atB base next M p = decide (p ∈ l) := by
  unfold atB
  by_cases h1 : (base : Int) ≤ p
  · by_cases h2 : p < (next : Int)
    · have h3 := hM (p - base).toNat (by omega)
      rw [decide_eq_true h1, decide_eq_true h2, h3]
      rw [show ((base + (p - base).toNat : Nat) : Int) = p by omega]
      rfl
    · have : ¬ p ∈ l := fun hp => h2 (hl p hp).2
      rw [decide_eq_false h2, decide_eq_false this]; simp
  · have : ¬ p ∈ l := fun hp => h1 (hl p hp).1
    rw [decide_eq_false h1, decide_eq_false this]; simp
theorem kidM_is {half base next : Nat} {M : List Bool} {l : List Int} (hM : MarksAre half base M l) (hn : next ≤ base + half) (hl : ∀ y ∈ l, (base : Int) ≤ y ∧ y < (next : Int)) (x : Int) : kidM base next M x = thereB l x := by
  unfold kidM thereB
  rw [atB_is hM hn hl]
theorem plF_span {W : List Int} {nx p : Nat} (h : (plF W nx p).2 = true) : ∀ y ∈ (plF W nx p).1, (p : Int) ≤ y ∧ y < (nx : Int) := fun y hy => by
  obtain ⟨q, rfl, h1, h2⟩ := plF_in h y hy
  omega
/-- A place is at the head of those from it on. -/
theorem plF_head {W : List Int} {nx p : Nat} (hp : p < nx) (h : (plF W nx p).2 = true) : (plF W nx p).1 = (p : Int) :: (plF W nx (p + 1 + (manyF (W.getD p 0)).toNat)).1 ∧ (plF W nx (p + 1 + (manyF (W.getD p 0)).toNat)).2 = true ∧ p + (manyF (W.getD p 0)).toNat < nx := by
  rcases hb : badH (W.getD p 0) ((nx : Int) - p) with _ | _
  · have h2 := plF_more hp hb
    rw [h2] at h
    refine ⟨by rw [h2], h, ?_⟩
    have hi : (p : Int) ∈ (plF W nx p).1 := by rw [h2]; exact List.mem_cons_self ..
    obtain ⟨q, e, h3, h4⟩ := plF_in (by rw [h2]; exact h) _ hi
    obtain rfl : p = q := by omega
    exact h4
  · rw [plF_bad hp hb] at h; cases h

/-- Where the loop over blocks stands. -/
structure OK (W : List Int) (half base next : Nat) (p : Nat) (acc : List Int) : Prop where
  eq : (plF W next base).1 = acc ++ (plF W next p).1
  ok : (plF W next p).2 = true
  lim : base ≤ p ∧ p ≤ next
  kids : ∀ y ∈ acc, kidsB (W, (half : Int), (base : Int), (next : Int)) y.toNat = true

set_option maxRecDepth 100000 in
set_option maxHeartbeats 8000000 in
theorem okKids_is {B hb hm : Nat} {wv : Value} {W : List Int} {half base next : Nat} {lk : Int} {M : List Bool} {w : World} (h : HH B hb hm wv W half base next lk M w) (hM : MarksAre half base M (plF W next base).1) (hp : (plF W next base).2 = true) :
    Calls Try.prog 49 #[.pointer (some ⟨hb, 0, none⟩)] w fun e w' => e = .returned (.bool ((plF W next base).1.all fun x => kidsB (W, (half : Int), (base : Int), (next : Int)) x.toNat)) ∧ Below w.heap.size w w' := by
  have HW : Hid (HH B hb hm wv W half base next lk M w) := h
  have hcall := base_is h
  have hs : next ≤ base + half ∧ next ≤ 6000 ∧ W.length ≤ 6000 ∧ next ≤ W.length ∧ base ≤ next := by have := h.siz; omega
  have HKM : Hid (∀ x, kidM base next M x = thereB (plF W next base).1 x) := kidM_is hM hs.1 (plF_span hp)
  have HPT : Hid (plT (W, (half : Int), (base : Int), (next : Int)) = plF W next base) := by show _ = _; unfold plT; simp
  have K0 : Hid (OK W half base next base []) := ⟨by simp, hp, ⟨Nat.le_refl _, hs.2.2.2.2⟩, fun y hy => by cases hy⟩
  obtain ⟨r, hr⟩ : ∃ r, r = ((plF W next base).1.all fun x => kidsB (W, (half : Int), (base : Int), (next : Int)) x.toNat) := ⟨_, rfl⟩
  have HR : Hid (r = ((plF W next base).1.all fun x => kidsB (W, (half : Int), (base : Int), (next : Int)) x.toNat)) := hr
  rw [← hr]
  have HS : Hid _ := hs
  have hn6 : next ≤ 6000 := hs.2.1
  clear hr h hM hp hs
  go_enter Try.func49, Try.ntmps49
  go_wp2_with fail
  refine hcall.mono ?_
  rintro e w1 ⟨rfl, n, rfl⟩
  have B1 : Hid (Below w.heap.size w (w.drewN n)) := ⟨rfl, rfl, rfl, Nat.le_refl _, fun _ _ => rfl⟩
  clear hcall
  go_wp2
  go_loopw [3] (fun v3 wr => ∃ (p : Nat) (acc : List Int), v3 = .int .i64 p ∧ Hid (OK W half base next p acc) ∧ Hid (Below w.heap.size w wr)) (fun v3 _ => next + 1 - (intOf v3).toNat)
  case atStart => exact ⟨base, [], rfl, K0, B1⟩
  case round =>
    obtain ⟨p, acc, rfl, HO, HB⟩ := hrel
    obtain ⟨wo, hwo⟩ : ∃ wo, wo = wr := ⟨_, rfl⟩
    subst hwo
    have c5 := (HW.out.on HB.out).c5
    by_cases hlt : p < next
    · have hltI : (p : Int) < (next : Int) := by omega
      obtain ⟨e1, e2, e3⟩ := plF_head hlt HO.out.ok
      have H1 : Hid _ := HS.out
      obtain ⟨mn, hmn⟩ : ∃ t : Nat, (manyF (W.getD p 0)).toNat = t := ⟨_, rfl⟩
      have HMN : Hid ((manyF (W.getD p 0)).toNat = mn ∧ (plF W next p).1 = (p : Int) :: (plF W next (p + 1 + mn)).1 ∧ (plF W next (p + 1 + mn)).2 = true) := by rw [hmn] at e1 e2; exact ⟨hmn, e1, e2⟩
      have hpm : p + mn < next := by omega
      have hpl : p + mn < W.length := by have := HS.out; omega
      have hk := kidsAt_is (HW.out.on HB.out) p mn hmn hpl
      have hmn63 : mn ≤ 63 := by have := many_in (W.getD p 0); omega
      clear e1 e2 e3 hmn
      go_wp2_with fail
      refine hk.mono ?_
      rintro e w2 ⟨⟨kb, ko, kc, rfl, k1, k2, k3, k4⟩, hB2⟩
      have B2 : Hid (Below w.heap.size w w2) := HB.out.trans (hB2.mono HB.out.size)
      have KC : Hid (∀ j (hj : j < mn), ∃ hW : p + 1 + j < W.length, kb < B ∧ wo.cell? ⟨kb, ko + j, none⟩ = some (.int .i64 W[p + 1 + j]) ∧ -9223372036854775808 ≤ W[p + 1 + j] ∧ W[p + 1 + j] ≤ 9223372036854775807) := fun j hj => by
        obtain ⟨hW, q1, q2, q3⟩ := k4 j hj
        exact ⟨hW, k1, q1, q2, q3⟩
      have WR2 : Hid (Below wo.heap.size wo w2) := hB2
      clear hk hB2 k4 k2 k3 c5
      go_wp2
      go_loopw [29] (fun v29 wI => ∃ k : Nat, k ≤ mn ∧ v29 = .int .i64 k ∧ Hid (Below wo.heap.size wo wI) ∧ Hid (∀ j, j < k → thereB (plF W next base).1 (W.getD (p + 1 + j) 0) = true)) (fun v29 _ => mn + 1 - (intOf v29).toNat)
      case atStart => exact ⟨0, Nat.zero_le _, rfl, WR2, fun j hj => absurd hj (Nat.not_lt_zero _)⟩
      case round =>
        obtain ⟨k, hkm, rfl, HI, HT⟩ := hrel
        have hWI : Below w.heap.size w wr := HB.out.trans (HI.out.mono HB.out.size)
        by_cases hkl : k < mn
        · obtain ⟨hW, hkB, q1, q2, q3⟩ := KC.out k hkl
          have hkb : kb < wo.heap.size := by have := (HW.out.on HB.out).lo; have := (HW.out.on HB.out).lt; omega
          have ck : wr.cell? ⟨kb, ko + k, none⟩ = some (.int .i64 W[p + 1 + k]) := (HI.out.cell (p := ⟨kb, ko + k, none⟩) hkb).trans q1
          have hgd := getD_atH hW
          obtain ⟨x, hx⟩ : ∃ x, x = W[p + 1 + k] := ⟨_, rfl⟩
          rw [← hx] at ck hgd q2 q3
          have hc2 := okKid_is (HW.out.on hWI) x q2 q3
          rw [HKM.out x] at hc2
          have HG : Hid (W.getD (p + 1 + k) 0 = x) := hgd
          have HWI : Hid (Below w.heap.size w wr) := hWI
          have i0 : (0 : Int) ≤ (k : Int) := by omega
          have i1 : (k : Int) < (mn : Int) := by omega
          clear hx hgd q1 hkB hkb hWI
          rcases q : thereB (plF W next base).1 x with _ | _
          · have HF : Hid (r = false) := by
              show _ = _
              rw [HR.out, List.all_eq_false]
              refine ⟨(p : Int), by rw [HO.out.eq, HMN.out.2.1]; simp, ?_⟩
              have : kidsB (W, (half : Int), (base : Int), (next : Int)) p = false := kids_no (k := k) (by show k < (manyF (W.getD p 0)).toNat; rw [HMN.out.1]; exact hkl) (by show thereB (plT _).1 (W.getD (p + 1 + k) 0) = false; rw [HPT.out, HG.out]; exact q)
              rw [Int.toNat_natCast, this]; decide
            rw [q] at hc2
            clear q
            go_wp2_with fail
            refine hc2.mono ?_
            rintro e w3 ⟨rfl, n3, rfl⟩
            go_wp2
            go_ret
            exact ⟨ret_b HF.out.symm, ⟨HWI.out.os, HWI.out.tape, HWI.out.output, HWI.out.size, HWI.out.block⟩⟩
          · rw [q] at hc2
            have HQ : Hid (thereB (plF W next base).1 x = true) := q
            clear q
            go_wp2_with fail
            refine hc2.mono ?_
            rintro e w3 ⟨rfl, n3, rfl⟩
            have HI3 : Hid (Below wo.heap.size wo (wr.drewN n3)) := ⟨HI.out.os, HI.out.tape, HI.out.output, HI.out.size, HI.out.block⟩
            go_wp2
            go_round
            case rel => exact ⟨k + 1, by omega, by go_num, HI3, fun j hj => by
              by_cases e : j = k
              · subst e; rw [HG.out]; exact HQ.out
              · exact HT.out j (by omega)⟩
            case measure => simp [intOf]; omega
        · obtain rfl : k = mn := by omega
          have hkk : ¬ (k : Int) < (k : Int) := by omega
          have HH3 : Hid (HH B hb hm wv W half base next lk M wr) := HW.out.on hWI
          obtain ⟨a0, c0, e, -, -, hat⟩ := ints_open HH3.out.wds
          subst e
          have hpl2 : p < W.length := by omega
          obtain ⟨b, o, rfl, hS, cx, r1, r2⟩ := hat p hpl2
          have c3 := HH3.out.c3
          have hgd := getD_atH hpl2
          obtain ⟨x, hx⟩ : ∃ x, x = W[p] := ⟨_, rfl⟩
          rw [← hx] at cx hgd r1 r2
          have hmx : manyF x = (k : Int) := by have := HMN.out.1; rw [hgd] at this; have := many_in x; omega
          have hcallh : ∀ W' : World, Calls Try.prog 65 #[.int .i64 x] W' fun e w' => e = .returned (.agg #[.bool (funF x), .int .i64 (tagS x), .int .i64 k]) ∧ Below W'.heap.size W' w' := fun W' => by rw [← hmx]; exact headerOf_is x W' r1 r2
          have i0 : (0 : Int) ≤ (p : Int) := by omega
          have pI : (p : Int) < (W.length : Int) := by omega
          have HWI : Hid (Below w.heap.size w wr) := hWI
          clear hat hx hgd hmx hWI
          go_wp2_with (first
            | (go_at_call 65; refine (hcallh _).mono ?_; rintro e w3 ⟨rfl, hB3⟩)
            | (go_at_call 67; refine (hdrSize_is _ _ _ _ (by omega) (by omega)).mono ?_; rintro e w4 ⟨rfl, hB4⟩))
          have HWI4 : Hid (Below w.heap.size w w4) := (HWI.out.trans (hB3.mono HWI.out.size)).trans (hB4.mono (Nat.le_trans HWI.out.size hB3.size))
          have HO2 : Hid (OK W half base next (p + 1 + k) (acc ++ [(p : Int)])) := ⟨by rw [HO.out.eq, HMN.out.2.1]; simp, HMN.out.2.2, ⟨by have := HO.out.lim; omega, by omega⟩, fun y hy => by
            rcases List.mem_append.1 hy with q | q
            · exact HO.out.kids y q
            · rw [List.mem_singleton] at q
              subst q
              rw [Int.toNat_natCast]
              refine kids_yes fun z hz => ?_
              have hz' : z < (manyF (W.getD p 0)).toNat := hz
              rw [HMN.out.1] at hz'
              show thereB (plT _).1 (W.getD (p + 1 + z) 0) = true
              rw [HPT.out]
              exact HT.out z hz'⟩
          go_round
          case rel => exact ⟨p + 1 + k, acc ++ [(p : Int)], by go_num, HO2, HWI4⟩
          case measure => simp [intOf]; omega
    · have hpn : p = next := by have := HO.out.lim; omega
      have hnl : ¬ (p : Int) < (next : Int) := by omega
      have HF : Hid (r = true) := by
        show _ = _
        rw [HR.out, List.all_eq_true]
        intro y hy
        have := HO.out.eq
        rw [plF_end (p := p) (by omega), List.append_nil] at this
        rw [this] at hy
        exact HO.out.kids y hy
      go_wp2
      go_ret
      exact ⟨ret_b HF.out.symm, HB.out⟩

end Go.Proofs.Ytjofmoebijdccaa.heap

namespace Go.Proofs.Ytjofmoebijdccaa.heap
open Go Go.RowKit Go.Proofs.Ytjofmoebijdccaa Go.Proofs.Ytjofmoebijdccaa.fun
set_option linter.unusedVariables false
set_option linter.unusedSimpArgs false

set_option maxHeartbeats 1000000 in
theorem half_is {n : Int} {b : Bool} {w : World} (h : inB n 1 3000 = b) :
    Calls Try.prog 62 #[.int .i64 n] w fun e w' => e = .returned (.bool b) ∧ w' = w := by
  by_cases h1 : 1 ≤ n
  · have h6 : decide (1 ≤ n) = true := decide_eq_true h1
    go_enter Try.func62, Try.ntmps62
    go_wp2
    go_ret
    exact ⟨words.ret_bW (by rw [← h]; simp only [inB, h6, Bool.true_and]), rfl⟩
  · have h2 : decide (1 ≤ n) = false := decide_eq_false h1
    go_enter Try.func62, Try.ntmps62
    go_wp2
    go_ret
    exact ⟨words.ret_bW (by rw [← h]; simp only [inB, h2, Bool.false_and]), rfl⟩

end Go.Proofs.Ytjofmoebijdccaa.heap
