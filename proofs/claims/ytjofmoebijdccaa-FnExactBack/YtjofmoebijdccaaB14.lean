/-
  The model's HeapOk, at every heap; nothing that was there is turned.
  What a search among the cons of datas has met so far; answers of one and two ints. No program.
  The model's TagCon, at every list of datas; nothing that was there is turned.
-/
import Derived.Deep.QuietTactic
import Derived.BigQuiet
import Derived.WalkKit
import Derived.WalkLawsBesides
import Derived.Test.YtjofmoebijdccaaB1
import Derived.Test.YtjofmoebijdccaaB2
import Derived.Test.YtjofmoebijdccaaB3
import Derived.Test.YtjofmoebijdccaaB4
import Derived.Test.YtjofmoebijdccaaB5
import Derived.Test.YtjofmoebijdccaaB6
import Derived.Test.YtjofmoebijdccaaB7
import Derived.Test.YtjofmoebijdccaaB8
import Derived.Test.YtjofmoebijdccaaB9
import Derived.Test.YtjofmoebijdccaaB10
import Derived.Test.YtjofmoebijdccaaB11
import Derived.Test.YtjofmoebijdccaaB12
import Derived.Test.YtjofmoebijdccaaB13
namespace Go.Proofs.Ytjofmoebijdccaa.heap
open Go Go.RowKit Go.Proofs.Ytjofmoebijdccaa.rose Go.Proofs.Ytjofmoebijdccaa Go.Proofs.Ytjofmoebijdccaa.fun Go.Proofs.Ytjofmoebijdccaa.words Go.Proofs.Ytjofmoebijdccaa.ints
set_option linter.unusedVariables false
set_option linter.unusedSimpArgs false

theorem drewN_below {B : Nat} {w w' : World} (h : Below B w w') (n : Nat) : Below B w (w'.drewN n) := ⟨h.os, h.tape, h.output, h.size, h.block⟩
theorem drewN_arg {w wk : World} {cs : List Value} {t : TypeId} (h : ArgK w wk cs t) (n : Nat) : ArgK w (wk.drewN n) cs t := ⟨drewN_below h.bel n, h.blk⟩
theorem drewN_row {w : World} {base : Nat} {v : Value} {l : List Int} (h : IRow w base v l) (n : Nat) : IRow (w.drewN n) base v l := h
theorem getD_at {W : List Int} {p : Nat} (h : p < W.length) : W.getD p 0 = W[p] := by rw [List.getD_eq_getElem?_getD, List.getElem?_eq_getElem h]; rfl

/-- Where the loops over blocks and their kids stand. -/
structure HK (w wr : World) (cs : List Value) (v : Value) (l : List Int) : Prop where
  arg : ArgK w wr cs 35
  row : IRow wr (w.heap.size + 1) v l
theorem HK.drewN {w wr : World} {cs : List Value} {v : Value} {l : List Int} (h : HK w wr cs v l) (n : Nat) : HK w (wr.drewN n) cs v l := ⟨drewN_arg h.arg n, drewN_row h.row n⟩

set_option maxRecDepth 100000 in
set_option maxHeartbeats 16000000 in
theorem specHeapOk (T : HeapD) (cs : List Value) (w : World) (h : heapSh.rep w (· < w.heap.size) cs T) :
    Calls Try.prog 19 #[.agg cs.toArray] w fun e w' => e = .returned (.bool (heapB T)) ∧ Below w.heap.size w w' := by
  have AH : Hid (∀ w' : World, Below w.heap.size w w' → heapSh.rep w' (· < w'.heap.size) cs T) := fun w' hb => heapSh.mono (heapSh.below h hb) fun b hlt => Nat.lt_of_lt_of_le hlt hb.size
  obtain ⟨W, a0, c0, half, base, next, rfl, rfl, f0, f1, f2, f3⟩ := heap_open h
  obtain ⟨a, cap, e, hcap, hmax, hat⟩ := ints_open f0
  cases e
  have HA : Hid _ := hat
  have hmx : (W.length : Int) ≤ 9223372036854775807 := by unfold maxLen at hmax; omega
  obtain ⟨r, hr⟩ : ∃ r, r = heapB (W, half, base, next) := ⟨_, rfl⟩
  have HR : Hid (r = heapB (W, half, base, next)) := hr
  rw [← hr]
  have BA : Hid (Below w.heap.size w (w.alloc (.cells #[.slice a0 W.length c0, .int .i64 half, .int .i64 base, .int .i64 next] 35))) := (Below.refl _ _).alloc (Nat.le_refl _) _
  clear h f0 hcap hmax hat hr
  rcases q1 : inB half 1 3000 with _ | _
  · have HF : Hid (r = false) := by show _ = _; rw [HR.out]; exact heapB_head (by unfold headB; rw [q1]; rfl)
    go_enter Try.func19, Try.ntmps19
    go_wp2_with (go_at_call 37; refine (in_is (by assumption)).mono ?_; rintro e w' ⟨rfl, hx⟩; subst w')
    go_ret
    exact ⟨ret_b HF.out.symm, BA.out⟩
  have g1 := inB_yes q1
  by_cases q2 : (W.length : Int) = 2 * half
  case neg =>
    have t2 : ((W.length : Int) != 2 * half) = true := by simpa using q2
    have HF : Hid (r = false) := by show _ = _; rw [HR.out]; exact heapB_head (by unfold headB; simp [q2])
    go_enter Try.func19, Try.ntmps19
    go_wp2_with (go_at_call 37; refine (in_is (by assumption)).mono ?_; rintro e w' ⟨rfl, hx⟩; subst w')
    go_ret
    exact ⟨ret_b HF.out.symm, BA.out⟩
  have t2 : ((W.length : Int) != 2 * half) = false := by simpa using q2
  by_cases q3 : base = 0 ∨ base = half
  case neg =>
    have t3 : (base != 0) = true := by simp; omega
    have t3' : (base != half) = true := by simp; omega
    have HF : Hid (r = false) := by show _ = _; rw [HR.out]; exact heapB_head (by unfold headB; simp; omega)
    go_enter Try.func19, Try.ntmps19
    go_wp2_with (go_at_call 37; refine (in_is (by assumption)).mono ?_; rintro e w' ⟨rfl, hx⟩; subst w')
    go_ret
    exact ⟨ret_b HF.out.symm, BA.out⟩
  have T3 : Hid ((base != 0) = false ∨ ((base != 0) = true ∧ (base != half) = false)) := by
    show _ ∨ _
    by_cases z : base = 0
    · exact .inl (by simpa using z)
    · exact .inr ⟨by simpa using z, by simp; omega⟩
  rcases q4 : inB next base (base + half) with _ | _
  · have HF : Hid (r = false) := by show _ = _; rw [HR.out]; exact heapB_head (by unfold headB; dsimp only; rw [q4]; simp)
    rcases T3.out with t3 | ⟨t3, t3'⟩
    all_goals
      go_enter Try.func19, Try.ntmps19
      go_wp2_with (go_at_call 37; refine (in_is (by assumption)).mono ?_; rintro e w' ⟨rfl, hx⟩; subst w')
      go_ret
      exact ⟨ret_b HF.out.symm, BA.out⟩
  have g4 := inB_yes q4
  have HD : Hid (headB (W, half, base, next) = true) := by
    show _ = _; unfold headB; dsimp only; rw [q1, q4]; simp; exact ⟨by omega, q3⟩
  have A0 : Hid (ArgK w (w.alloc (.cells #[.slice a0 W.length c0, .int .i64 half, .int .i64 base, .int .i64 next] 35)) [.slice a0 W.length c0, .int .i64 half, .int .i64 base, .int .i64 next] 35) := ArgK.new _ _ _ rfl
  have hcall := specPlacesOf (W, half, base, next) [.slice a0 W.length c0, .int .i64 half, .int .i64 base, .int .i64 next] _ HD.out (AH.out _ BA.out)
  obtain ⟨pl, hpl⟩ : ∃ pl, pl = plT (W, half, base, next) := ⟨_, rfl⟩
  have HPL : Hid (pl = plT (W, half, base, next)) := hpl
  rw [← hpl] at hcall
  clear hpl f1 f2 f3
  rcases T3.out with t3 | ⟨t3, t3'⟩
  all_goals
    go_enter Try.func19, Try.ntmps19
    go_wp2_with (go_at_call 37; refine (in_is (by assumption)).mono ?_; rintro e w' ⟨rfl, hx⟩; subst w')
    refine hcall.mono ?_
    rintro e w1 ⟨⟨v1, l, rfl, hr1, hl1⟩, hb1⟩
    have A1 : Hid (ArgK w w1 [.slice a0 W.length c0, .int .i64 half, .int .i64 base, .int .i64 next] 35) := A0.out.on hb1
    clear hcall
    rcases q5 : pl.2 with _ | _
    · have HF : Hid (r = false) := by show _ = _; rw [HR.out]; exact heapB_places (by rw [← HPL.out]; exact q5)
      clear hr1 hl1 hb1 q5
      go_wp2
      go_ret
      exact ⟨ret_b HF.out.symm, A1.out.bel⟩
    · have hle : l = pl.1 := hl1 q5
      have HLE : Hid (l = (plT (W, half, base, next)).1 ∧ (plT (W, half, base, next)).2 = true) := ⟨by rw [← HPL.out]; exact hle, by rw [← HPL.out]; exact q5⟩
      rw [World.size_alloc] at hr1
      obtain ⟨a1, c1, hv1⟩ := own_form hr1.1
      subst hv1
      have K1 : Hid (HK w w1 [.slice a0 W.length c0, .int .i64 half, .int .i64 base, .int .i64 next] (.slice a1 l.length c1) l) := ⟨A1.out, hr1⟩
      have HIN : Hid (∀ i (hi : i < l.length), ∃ q : Nat, l[i] = q ∧ q + (manyF (W.getD q 0)).toNat < W.length) := fun i hi => by
        obtain ⟨q, hq, -, h2⟩ := plF_in (W := W) (nx := next.toNat) (p := base.toNat) HLE.out.2 l[i] ((fun y (hy : y ∈ l) => by have e := HLE.out.1; rw [e] at hy; exact hy : ∀ y, y ∈ l → y ∈ (plF W next.toNat base.toNat).1) _ (List.getElem_mem hi))
        exact ⟨q, hq, by omega⟩
      have hll : l.length ≤ 6000 := by
        have := plF_len (W := W) (nx := next.toNat) (p := base.toNat)
        rw [HLE.out.1]; unfold plT; dsimp only; omega
      clear hr1 hl1 hb1 q5 hle A1
      obtain ⟨cs, hcs⟩ : ∃ cs : List Value, cs = [.slice a0 W.length c0, .int .i64 half, .int .i64 base, .int .i64 next] := ⟨_, rfl⟩
      rw [← hcs] at K1
      have HCS : Hid (cs[0]? = some (.slice a0 W.length c0)) := by show _ = _; rw [hcs]; rfl
      clear hcs AH A0 BA
      go_wp2
      go_loopw [5] (fun v5 wr => ∃ i : Nat, i ≤ l.length ∧ v5 = .int .i64 i ∧ Hid (HK w wr cs (.slice a1 l.length c1) l) ∧ Hid (∀ j (hj : j < l.length), j < i → kidsB (W, half, base, next) (l[j]).toNat = true)) (fun v5 _ => l.length - (intOf v5).toNat)
      case atStart => exact ⟨0, Nat.zero_le _, rfl, K1, fun j _ hj => absurd hj (Nat.not_lt_zero _)⟩
      case round =>
        obtain ⟨i, hi, rfl, HQ, HJ⟩ := hrel
        by_cases hlt : i < l.length
        · obtain ⟨q, hq, hqm⟩ := HIN.out i hlt
          have hql : q < W.length := by omega
          obtain ⟨b, o, rfl, hS, hc, r1, r2⟩ := HA.out q hql
          rcases HQ.out.row.open with ⟨-, h0⟩ | ⟨g, cp, hv, -, -, -, -, hcl, -⟩
          · rw [h0] at hlt; simp at hlt
          cases hv
          have e0 : wr.cell? ⟨g, i, none⟩ = some (.int .i64 q) := by rw [← hq]; exact hcl i hlt
          have e1 : wr.cell? ⟨b, o + q, none⟩ = some (.int .i64 W[q]) := (HQ.out.arg.bel.cell (p := ⟨b, o + q, none⟩) hS).trans hc
          have k0 : wr.cell? ⟨w.heap.size, 0, none⟩ = some (.slice (some ⟨b, o, none⟩) W.length c0) := HQ.out.arg.cell 0 HCS.out
          have hm := many_in W[q]
          have hgd := getD_at hql
          obtain ⟨x, hx⟩ : ∃ x, x = W[q] := ⟨_, rfl⟩
          rw [← hx] at e1 hm hgd r1 r2
          obtain ⟨mn, hmn⟩ : ∃ t : Nat, (t : Int) = manyF x := ⟨(manyF x).toNat, by omega⟩
          have HMN : Hid ((manyF (W.getD q 0)).toNat = mn) := by show _ = _; rw [hgd]; omega
          have hqk : q + mn < W.length := by rw [HMN.out] at hqm; exact hqm
          have hm63 : mn ≤ 63 := by omega
          have OF : Hid (∀ W' : World, Calls Try.prog 38 #[.int .i64 x] W' fun e w' => e = .returned (.tuple #[.bool (funF x), .int .i64 (tagF x), .int .i64 mn]) ∧ w' = W') := fun W' => by rw [hmn]; exact of_is x W' r1 r2
          have HLI : Hid (l[i] = (q : Int)) := hq
          have iI : (i : Int) < (l.length : Int) := by omega
          have qI : (q : Int) < (W.length : Int) := by omega
          clear hc hcl hx hmn hm hgd hq hqm r1 r2
          go_wp2
          go_quiet ((go_at_call 38; exact Calls.quiet_of_same (OF.out _)))
          have K2 : Hid (HK w (wr.drewN nq) cs (.slice (some ⟨g, 0, none⟩) l.length c1) l) := HQ.out.drewN nq
          clear e0 e1 k0
          go_wp2
          go_loopw [9] (fun v9 wi => ∃ k : Nat, 1 ≤ k ∧ k ≤ mn + 1 ∧ v9 = .int .i64 k ∧ Hid (HK w wi cs (.slice (some ⟨g, 0, none⟩) l.length c1) l) ∧ Hid (∀ j, j + 1 < k → thereB l (W.getD (q + 1 + j) 0) = true)) (fun v9 _ => mn + 2 - (intOf v9).toNat)
          case atStart => exact ⟨1, Nat.le_refl _, by omega, rfl, K2, fun j hj => by omega⟩
          case round =>
            obtain ⟨k, hk1, hk2, rfl, HP, HT⟩ := hrel
            by_cases hkm : k ≤ mn
            · have hqk2 : q + k < W.length := by omega
              obtain ⟨b', o', hbo, hS', hc', r1, r2⟩ := HA.out (q + k) hqk2
              cases hbo
              rcases HP.out.row.open with ⟨h0, -⟩ | ⟨g', cp', hv', -, -, -, -, hcl', -⟩
              · cases h0
              cases hv'
              have e0 : wr.cell? ⟨g, i, none⟩ = some (.int .i64 q) := by rw [← HLI.out]; exact hcl' i hlt
              have e1 : wr.cell? ⟨b, o + (q + k), none⟩ = some (.int .i64 W[q + k]) := (HP.out.arg.bel.cell (p := ⟨b, o + (q + k), none⟩) hS').trans hc'
              have k0 : wr.cell? ⟨w.heap.size, 0, none⟩ = some (.slice (some ⟨b, o, none⟩) W.length c0) := HP.out.arg.cell 0 HCS.out
              have hsp := HP.out.row.sp
              have REP : Hid (intsSh.rep wr (· < wr.heap.size) [.slice (some ⟨g, 0, none⟩) l.length c1] l) := intsSh.mono (intsp_rep hsp) fun q hq => hq.2
              have hgd := getD_at hqk2
              obtain ⟨y, hy⟩ : ∃ y, y = W[q + k] := ⟨_, rfl⟩
              rw [← hy] at e1 hgd r1 r2
              obtain ⟨k', rfl⟩ : ∃ k', k = k' + 1 := ⟨k - 1, by omega⟩
              have HG : Hid (W.getD (q + 1 + k') 0 = y) := by show _ = _; rw [show q + 1 + k' = q + (k' + 1) by omega]; exact hgd
              have qkI : (q : Int) + ((k' : Int) + 1) < (W.length : Int) := by omega
              clear hc' hcl' hsp hy hgd
              rcases q6 : thereB l y with _ | _
              · have HF : Hid (r = false) := by
                  have hnk : kidsB (W, half, base, next) q = false := kids_no (k := k') (by show k' < (manyF (W.getD q 0)).toNat; rw [HMN.out]; omega) (by show thereB (plT _).1 (W.getD (q + 1 + k') 0) = false; rw [HG.out, ← HLE.out.1]; exact q6)
                  show _ = _
                  rw [HR.out]
                  refine heapB_kids (i := i) (by rw [← HLE.out.1]; exact hlt) ?_
                  have : (plT (W, half, base, next)).1[i]'(by rw [← HLE.out.1]; exact hlt) = (q : Int) := by rw [← HLI.out]; simp only [HLE.out.1]
                  rw [this, Int.toNat_natCast]; exact hnk
                go_wp2
                go_quiet ((go_at_call 39; exact Calls.quiet_of_same (there_is _ _ q6 (intsSh.on REP.out fun _ _ => rfl))))
                go_wp2
                go_ret
                exact ⟨ret_b HF.out.symm, drewN_below HP.out.arg.bel _⟩
              · have HT2 : Hid (∀ j, j + 1 < k' + 1 + 1 → thereB l (W.getD (q + 1 + j) 0) = true) := fun j hj => by
                  by_cases e : j = k'
                  · subst e; rw [HG.out]; exact q6
                  · exact HT.out j (by omega)
                go_wp2
                go_quiet ((go_at_call 39; exact Calls.quiet_of_same (there_is _ _ q6 (intsSh.on REP.out fun _ _ => rfl))))
                go_wp2
                go_round
                case rel => exact ⟨k' + 1 + 1, by omega, by omega, by go_num, HP.out.drewN _, HT2⟩
                case measure => simp [intOf]; omega
            · obtain rfl : k = mn + 1 := by omega
              have HJ2 : Hid (∀ j (hj : j < l.length), j < i + 1 → kidsB (W, half, base, next) (l[j]).toNat = true) := fun j hj h1 => by
                by_cases e : j = i
                · subst e
                  rw [HLI.out, Int.toNat_natCast]
                  refine kids_yes fun z hz => ?_
                  have hz' : z < (manyF (W.getD q 0)).toNat := hz
                  rw [HMN.out] at hz'
                  have := HT.out z (by omega)
                  rw [HLE.out.1] at this
                  exact this
                · exact HJ.out j hj (by omega)
              go_wp2
              go_round
              case rel => exact ⟨i + 1, by omega, by go_num, HP, HJ2⟩
              case measure => simp [intOf]; omega
        · obtain rfl : i = l.length := by omega
          have HF : Hid (r = true) := by
            show _ = _
            rw [HR.out]
            refine heapB_yes HD.out HLE.out.2 fun j hj => ?_
            have hj' : j < l.length := by rw [HLE.out.1]; exact hj
            have := HJ.out j hj' hj'
            simpa only [HLE.out.1] using this
          go_wp2
          go_ret
          exact ⟨ret_b HF.out.symm, HQ.out.arg.bel⟩

end Go.Proofs.Ytjofmoebijdccaa.heap

namespace Go.Proofs.Ytjofmoebijdccaa.data
open Go.RowKit Go.Proofs.Ytjofmoebijdccaa.rose Go.Proofs.Ytjofmoebijdccaa
set_option linter.unusedVariables false
set_option linter.unusedSimpArgs false

theorem ret_pair {a b c d : Int} (h1 : a = c) (h2 : b = d) : Ending.returned (.tuple #[.int .i64 a, .int .i64 b]) = Ending.returned (.tuple #[.int .i64 c, .int .i64 d]) := by rw [h1, h2]
theorem ret_int {a b : Int} (h : a = b) : Ending.returned (.int .i64 a) = Ending.returned (.int .i64 b) := by rw [h]

theorem wts_con {ks : List DataD} {i : Nat} (h : i < ks.length) : ks[i].2.2.length ≤ wts ks := by
  have h1 := wt_mem (List.getElem_mem h)
  have h2 : ks[i].2.2.length ≤ wt ks[i] := by
    obtain ⟨x0, x1, x2⟩ := ks[i]
    simp [wt]; omega
  omega

/-- None ahead of (i, j) has that name. -/
def NoneYet (ks : List DataD) (name : ByteArray) (i j : Nat) : Prop := ∀ y ∈ ahead ks i j, named name y = false

theorem yet_step {ks : List DataD} {name : ByteArray} {i j : Nat} (h : NoneYet ks name i j) (hi : i < ks.length) (hj : j < ks[i].2.2.length) (hn : (ks[i].2.2[j].1.toList == name.toList) = false) : NoneYet ks name i (j + 1) := by
  intro y hy
  rw [ahead_step hi hj, List.mem_append] at hy
  rcases hy with hy | hy
  · exact h y hy
  · simp at hy
    subst hy
    exact hn
theorem yet_next {ks : List DataD} {name : ByteArray} {i : Nat} (hi : i < ks.length) (h : NoneYet ks name i ks[i].2.2.length) : NoneYet ks name (i + 1) 0 := by
  unfold NoneYet at *
  rw [← ahead_next hi]
  exact h
theorem yet_found {ks : List DataD} {name : ByteArray} {i j : Nat} (h : NoneYet ks name i j) (hi : i < ks.length) (hj : j < ks[i].2.2.length) (hn : (ks[i].2.2[j].1.toList == name.toList) = true) : placeB ks name = (((total (ks.take i) + j : Nat) : Int), (i : Int), (j : Int)) := by
  unfold placeB
  rw [find_pre (x := ⟨total (ks.take i) + j, i, j, ks[i].2.2[j]⟩) (pre := ahead ks i j) (by rw [← ahead_step hi hj]; exact ahead_prefix hi hj) h hn]
  rfl
theorem yet_end {ks : List DataD} {name : ByteArray} (h : NoneYet ks name ks.length 0) : placeB ks name = (-1, -1, -1) := by
  unfold NoneYet at h
  rw [ahead_end] at h
  unfold placeB
  rw [find_no h]
  rfl

end Go.Proofs.Ytjofmoebijdccaa.data

namespace Go.Proofs.Ytjofmoebijdccaa.data
open Go.RowKit Go.Proofs.Ytjofmoebijdccaa.rose Go.Proofs.Ytjofmoebijdccaa
set_option linter.unusedVariables false
set_option linter.unusedSimpArgs false

set_option maxRecDepth 100000 in
set_option maxHeartbeats 2000000 in
theorem specTagCon (ks : List DataD) (v : Value) (tag : Int) (w : World) (h0 : -9223372036854775808 ≤ tag) (h1 : tag ≤ 9223372036854775807) (hw : ks.length + wts ks ≤ 1048576) (h : dataSh.slice.rep w (· < w.heap.size) [v] ks) :
    Calls Try.prog 44 #[v, .int .i64 tag] w fun e w' => e = .returned (.tuple #[.int .i64 (tagB ks tag).2.1, .int .i64 (tagB ks tag).2.2]) ∧ Below w.heap.size w w' := by
  obtain ⟨a, cap, css, rfl, hcap, hmax, hrow, hk⟩ := datas_open h
  clear h hcap hmax
  have HR : Hid (RowAt w (· < w.heap.size) 3 a ks.length css ∧ ∀ i (h : i < ks.length), dataSh.rep w (· < w.heap.size) (css i) ks[i]) := ⟨hrow, hk⟩
  clear hrow hk
  have HTL : Hid (∀ i, total (ks.take i) ≤ 1048576) := fun i => by have := total_take_le ks i; have := total_le ks; omega
  obtain ⟨p, hp⟩ : ∃ p, p = tagB ks tag := ⟨_, rfl⟩
  have HP : Hid (p = tagB ks tag) := hp
  rw [← hp]
  clear hp
  obtain ⟨p0, p1, p2⟩ := p
  go_enter Try.func44, Try.ntmps44
  go_wp2
  go_loopw [6, 7] (fun v6 v7 wr => ∃ i q : Nat, i ≤ ks.length ∧ v7 = .int .i64 i ∧ v6 = .int .i64 (q : Nat) ∧ q ≤ 1048576 ∧ Hid (q = total (ks.take i)) ∧ (tag < 0 ∨ (q : Int) ≤ tag) ∧ wr = w) (fun _ v7 _ => ks.length - (intOf v7).toNat)
  case atStart => exact ⟨0, 0, Nat.zero_le _, rfl, rfl, by omega, by show _ = _; simp [total], by omega, rfl⟩
  case round =>
    obtain ⟨i, q, hi, rfl, rfl, hq, HQ, hA, rfl⟩ := hrel
    by_cases hlt : i < ks.length
    · obtain ⟨b, o, rfl, hS, hc⟩ := HR.out.1 i hlt
      obtain ⟨x0, x1, x2, a2, c2, hT, hcs, f0, f1, f2⟩ := data_open (HR.out.2 i hlt)
      rw [hcs] at hc
      have e2 := hc 2 _ rfl
      have hx2 : x2.length ≤ 1048576 := by
        have := wts_con hlt
        rw [hT] at this
        simp at this
        omega
      have HT : Hid (ks[i].2.2 = x2) := by show _ = _; rw [hT]
      have HTK : Hid (total (ks.take (i + 1)) = q + x2.length) := by show _ = _; rw [total_take hlt, HT.out, HQ.out]
      clear f2 hcs hc hT
      by_cases h2 : (q : Int) ≤ tag
      · by_cases h3 : tag - (q : Int) < (x2.length : Nat)
        · have HF : Hid ((p0, p1, p2) = (tag, (i : Int), tag - (q : Nat))) := by
            show _ = _
            rw [HP.out, tag_at hlt (by rw [← HQ.out]; exact h2) (by rw [← HQ.out, HT.out]; exact h3), ← HQ.out]
          go_wp2
          go_ret2
          have := HF.out
          simp only [Prod.mk.injEq] at this
          exact ⟨ret_pair this.2.1.symm this.2.2.symm, Below.refl _ _⟩
        · go_wp2
          go_round
          case rel => exact ⟨i + 1, q + x2.length, by omega, by go_num, by go_num, by rw [← HTK.out]; exact HTL.out _, by show _ = _; rw [HTK.out], by omega, trivial⟩
          case measure => simp [intOf]; omega
      · go_wp2
        go_round
        case rel => exact ⟨i + 1, q + x2.length, by omega, by go_num, by go_num, by rw [← HTK.out]; exact HTL.out _, by show _ = _; rw [HTK.out], by omega, trivial⟩
        case measure => simp [intOf]; omega
    · obtain rfl : i = ks.length := by omega
      have HF : Hid ((p0, p1, p2) = (-1, -1, -1)) := by
        show _ = _
        have := HQ.out
        rw [List.take_length] at this
        rw [HP.out, tag_none (by omega)]
      go_wp2
      go_ret2
      have := HF.out
      simp only [Prod.mk.injEq] at this
      exact ⟨ret_pair this.2.1.symm this.2.2.symm, Below.refl _ _⟩

end Go.Proofs.Ytjofmoebijdccaa.data
