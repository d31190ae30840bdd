/-
  The model's HeapOk, at every heap; nothing that was there is turned.
  The model's l18Right, at every heap and all roots; nothing that was there is turned.
  What is held while blocks are gone through.
-/
import Derived.Deep.QuietTactic
import Derived.BigQuiet
import Derived.Test.YtibjpdchdopigaaDoorB1
import Derived.Test.YtibjpdchdopigaaDoorB2
import Derived.Test.YtibjpdchdopigaaDoorB3
import Derived.Test.YtibjpdchdopigaaDoorB4
import Derived.Test.YtibjpdchdopigaaDoorB5
import Derived.Test.YtibjpdchdopigaaDoorB6
namespace Go.Proofs.YtibjpdchdopigaaDoor.heap
open Go Go.RowKit Go.Proofs.YtibjpdchdopigaaDoor.rose Go.Proofs.YtibjpdchdopigaaDoor Go.Proofs.YtibjpdchdopigaaDoor.fun Go.Proofs.YtibjpdchdopigaaDoor.words Go.Proofs.YtibjpdchdopigaaDoor.ints
set_option linter.unusedVariables false
set_option linter.unusedSimpArgs false

theorem drewN_below {B : Nat} {w w' : World} (h : Below B w w') (n : Nat) : Below B w (w'.drewN n) := ⟨h.os, h.tape, h.output, h.size, h.block⟩
theorem drewN_arg {w wk : World} {cs : List Value} {t : TypeId} (h : ArgK w wk cs t) (n : Nat) : ArgK w (wk.drewN n) cs t := ⟨drewN_below h.bel n, h.blk⟩
theorem drewN_row {w : World} {base : Nat} {v : Value} {l : List Int} (h : IRow w base v l) (n : Nat) : IRow (w.drewN n) base v l := h
theorem getD_at {W : List Int} {p : Nat} (h : p < W.length) : W.getD p 0 = W[p] := by rw [List.getD_eq_getElem?_getD, List.getElem?_eq_getElem h]; rfl

/-- Where the loops over blocks and their kids stand. -/
structure HK (w wr : World) (cs : List Value) (v : Value) (l : List Int) : Prop where
  arg : ArgK w wr cs 27
  row : IRow wr (w.heap.size + 1) v l
theorem HK.drewN {w wr : World} {cs : List Value} {v : Value} {l : List Int} (h : HK w wr cs v l) (n : Nat) : HK w (wr.drewN n) cs v l := ⟨drewN_arg h.arg n, drewN_row h.row n⟩

set_option maxRecDepth 100000 in
set_option maxHeartbeats 16000000 in
theorem specHeapOk (T : HeapD) (cs : List Value) (w : World) (h : heapSh.rep w (· < w.heap.size) cs T) :
    Calls Tryd.prog 19 #[.agg cs.toArray] w fun e w' => e = .returned (.bool (heapB T)) ∧ Below w.heap.size w w' := by
  have AH : Hid (∀ w' : World, Below w.heap.size w w' → heapSh.rep w' (· < w'.heap.size) cs T) := fun w' hb => heapSh.mono (heapSh.below h hb) fun b hlt => Nat.lt_of_lt_of_le hlt hb.size
  obtain ⟨W, a0, c0, half, base, next, rfl, rfl, f0, f1, f2, f3⟩ := heap_open h
  obtain ⟨a, cap, e, hcap, hmax, hat⟩ := ints_open f0
  cases e
  have HA : Hid _ := hat
  have hmx : (W.length : Int) ≤ 9223372036854775807 := by unfold maxLen at hmax; omega
  obtain ⟨r, hr⟩ : ∃ r, r = heapB (W, half, base, next) := ⟨_, rfl⟩
  have HR : Hid (r = heapB (W, half, base, next)) := hr
  rw [← hr]
  have BA : Hid (Below w.heap.size w (w.alloc (.cells #[.slice a0 W.length c0, .int .i64 half, .int .i64 base, .int .i64 next] 27))) := (Below.refl _ _).alloc (Nat.le_refl _) _
  clear h f0 hcap hmax hat hr
  rcases q1 : inB half 1 3000 with _ | _
  · have HF : Hid (r = false) := by show _ = _; rw [HR.out]; exact heapB_head (by unfold headB; rw [q1]; rfl)
    go_enter Tryd.func19, Tryd.ntmps19
    go_wp2_with (go_at_call 36; refine (in_is (by assumption)).mono ?_; rintro e w' ⟨rfl, hx⟩; subst w')
    go_ret
    exact ⟨ret_b HF.out.symm, BA.out⟩
  have g1 := inB_yes q1
  by_cases q2 : (W.length : Int) = 2 * half
  case neg =>
    have t2 : ((W.length : Int) != 2 * half) = true := by simpa using q2
    have HF : Hid (r = false) := by show _ = _; rw [HR.out]; exact heapB_head (by unfold headB; simp [q2])
    go_enter Tryd.func19, Tryd.ntmps19
    go_wp2_with (go_at_call 36; refine (in_is (by assumption)).mono ?_; rintro e w' ⟨rfl, hx⟩; subst w')
    go_ret
    exact ⟨ret_b HF.out.symm, BA.out⟩
  have t2 : ((W.length : Int) != 2 * half) = false := by simpa using q2
  by_cases q3 : base = 0 ∨ base = half
  case neg =>
    have t3 : (base != 0) = true := by simp; omega
    have t3' : (base != half) = true := by simp; omega
    have HF : Hid (r = false) := by show _ = _; rw [HR.out]; exact heapB_head (by unfold headB; simp; omega)
    go_enter Tryd.func19, Tryd.ntmps19
    go_wp2_with (go_at_call 36; refine (in_is (by assumption)).mono ?_; rintro e w' ⟨rfl, hx⟩; subst w')
    go_ret
    exact ⟨ret_b HF.out.symm, BA.out⟩
  have T3 : Hid ((base != 0) = false ∨ ((base != 0) = true ∧ (base != half) = false)) := by
    show _ ∨ _
    by_cases z : base = 0
    · exact .inl (by simpa using z)
    · exact .inr ⟨by simpa using z, by simp; omega⟩
  rcases q4 : inB next base (base + half) with _ | _
  · have HF : Hid (r = false) := by show _ = _; rw [HR.out]; exact heapB_head (by unfold headB; dsimp only; rw [q4]; simp)
    rcases T3.out with t3 | ⟨t3, t3'⟩
    all_goals
      go_enter Tryd.func19, Tryd.ntmps19
      go_wp2_with (go_at_call 36; refine (in_is (by assumption)).mono ?_; rintro e w' ⟨rfl, hx⟩; subst w')
      go_ret
      exact ⟨ret_b HF.out.symm, BA.out⟩
  have g4 := inB_yes q4
  have HD : Hid (headB (W, half, base, next) = true) := by
    show _ = _; unfold headB; dsimp only; rw [q1, q4]; simp; exact ⟨by omega, q3⟩
  have A0 : Hid (ArgK w (w.alloc (.cells #[.slice a0 W.length c0, .int .i64 half, .int .i64 base, .int .i64 next] 27)) [.slice a0 W.length c0, .int .i64 half, .int .i64 base, .int .i64 next] 27) := ArgK.new _ _ _ rfl
  have hcall := specPlacesOf (W, half, base, next) [.slice a0 W.length c0, .int .i64 half, .int .i64 base, .int .i64 next] _ HD.out (AH.out _ BA.out)
  obtain ⟨pl, hpl⟩ : ∃ pl, pl = plT (W, half, base, next) := ⟨_, rfl⟩
  have HPL : Hid (pl = plT (W, half, base, next)) := hpl
  rw [← hpl] at hcall
  clear hpl f1 f2 f3
  rcases T3.out with t3 | ⟨t3, t3'⟩
  all_goals
    go_enter Tryd.func19, Tryd.ntmps19
    go_wp2_with (go_at_call 36; refine (in_is (by assumption)).mono ?_; rintro e w' ⟨rfl, hx⟩; subst w')
    refine hcall.mono ?_
    rintro e w1 ⟨⟨v1, l, rfl, hr1, hl1⟩, hb1⟩
    have A1 : Hid (ArgK w w1 [.slice a0 W.length c0, .int .i64 half, .int .i64 base, .int .i64 next] 27) := A0.out.on hb1
    clear hcall
    rcases q5 : pl.2 with _ | _
    · have HF : Hid (r = false) := by show _ = _; rw [HR.out]; exact heapB_places (by rw [← HPL.out]; exact q5)
      clear hr1 hl1 hb1 q5
      go_wp2
      go_ret
      exact ⟨ret_b HF.out.symm, A1.out.bel⟩
    · have hle : l = pl.1 := hl1 q5
      have HLE : Hid (l = (plT (W, half, base, next)).1 ∧ (plT (W, half, base, next)).2 = true) := ⟨by rw [← HPL.out]; exact hle, by rw [← HPL.out]; exact q5⟩
      rw [World.size_alloc] at hr1
      obtain ⟨a1, c1, hv1⟩ := own_form hr1.1
      subst hv1
      have K1 : Hid (HK w w1 [.slice a0 W.length c0, .int .i64 half, .int .i64 base, .int .i64 next] (.slice a1 l.length c1) l) := ⟨A1.out, hr1⟩
      have HIN : Hid (∀ i (hi : i < l.length), ∃ q : Nat, l[i] = q ∧ q + (manyF (W.getD q 0)).toNat < W.length) := fun i hi => by
        obtain ⟨q, hq, -, h2⟩ := plF_in (W := W) (nx := next.toNat) (p := base.toNat) HLE.out.2 l[i] ((fun y (hy : y ∈ l) => by have e := HLE.out.1; rw [e] at hy; exact hy : ∀ y, y ∈ l → y ∈ (plF W next.toNat base.toNat).1) _ (List.getElem_mem hi))
        exact ⟨q, hq, by omega⟩
      have hll : l.length ≤ 6000 := by
        have := plF_len (W := W) (nx := next.toNat) (p := base.toNat)
        rw [HLE.out.1]; unfold plT; dsimp only; omega
      clear hr1 hl1 hb1 q5 hle A1
      obtain ⟨cs, hcs⟩ : ∃ cs : List Value, cs = [.slice a0 W.length c0, .int .i64 half, .int .i64 base, .int .i64 next] := ⟨_, rfl⟩
      rw [← hcs] at K1
      have HCS : Hid (cs[0]? = some (.slice a0 W.length c0)) := by show _ = _; rw [hcs]; rfl
      clear hcs AH A0 BA
      go_wp2
      go_loopw [5] (fun v5 wr => ∃ i : Nat, i ≤ l.length ∧ v5 = .int .i64 i ∧ Hid (HK w wr cs (.slice a1 l.length c1) l) ∧ Hid (∀ j (hj : j < l.length), j < i → kidsB (W, half, base, next) (l[j]).toNat = true)) (fun v5 _ => l.length - (intOf v5).toNat)
      case atStart => exact ⟨0, Nat.zero_le _, rfl, K1, fun j _ hj => absurd hj (Nat.not_lt_zero _)⟩
      case round =>
        obtain ⟨i, hi, rfl, HQ, HJ⟩ := hrel
        by_cases hlt : i < l.length
        · obtain ⟨q, hq, hqm⟩ := HIN.out i hlt
          have hql : q < W.length := by omega
          obtain ⟨b, o, rfl, hS, hc, r1, r2⟩ := HA.out q hql
          rcases HQ.out.row.open with ⟨-, h0⟩ | ⟨g, cp, hv, -, -, -, -, hcl, -⟩
          · rw [h0] at hlt; simp at hlt
          cases hv
          have e0 : wr.cell? ⟨g, i, none⟩ = some (.int .i64 q) := by rw [← hq]; exact hcl i hlt
          have e1 : wr.cell? ⟨b, o + q, none⟩ = some (.int .i64 W[q]) := (HQ.out.arg.bel.cell (p := ⟨b, o + q, none⟩) hS).trans hc
          have k0 : wr.cell? ⟨w.heap.size, 0, none⟩ = some (.slice (some ⟨b, o, none⟩) W.length c0) := HQ.out.arg.cell 0 HCS.out
          have hm := many_in W[q]
          have hgd := getD_at hql
          obtain ⟨x, hx⟩ : ∃ x, x = W[q] := ⟨_, rfl⟩
          rw [← hx] at e1 hm hgd r1 r2
          obtain ⟨mn, hmn⟩ : ∃ t : Nat, (t : Int) = manyF x := ⟨(manyF x).toNat, by omega⟩
          have HMN : Hid ((manyF (W.getD q 0)).toNat = mn) := by show _ = _; rw [hgd]; omega
          have hqk : q + mn < W.length := by rw [HMN.out] at hqm; exact hqm
          have hm63 : mn ≤ 63 := by omega
          have OF : Hid (∀ W' : World, Calls Tryd.prog 15 #[.int .i64 x] W' fun e w' => e = .returned (.tuple #[.bool (funF x), .int .i64 (tagF x), .int .i64 mn]) ∧ w' = W') := fun W' => by rw [hmn]; exact of_is x W' r1 r2
          have HLI : Hid (l[i] = (q : Int)) := hq
          have iI : (i : Int) < (l.length : Int) := by omega
          have qI : (q : Int) < (W.length : Int) := by omega
          clear hc hcl hx hmn hm hgd hq hqm r1 r2
          go_wp2
          go_quiet ((go_at_call 15; exact Calls.quiet_of_same (OF.out _)))
          have K2 : Hid (HK w (wr.drewN nq) cs (.slice (some ⟨g, 0, none⟩) l.length c1) l) := HQ.out.drewN nq
          clear e0 e1 k0
          go_wp2
          go_loopw [9] (fun v9 wi => ∃ k : Nat, 1 ≤ k ∧ k ≤ mn + 1 ∧ v9 = .int .i64 k ∧ Hid (HK w wi cs (.slice (some ⟨g, 0, none⟩) l.length c1) l) ∧ Hid (∀ j, j + 1 < k → thereB l (W.getD (q + 1 + j) 0) = true)) (fun v9 _ => mn + 2 - (intOf v9).toNat)
          case atStart => exact ⟨1, Nat.le_refl _, by omega, rfl, K2, fun j hj => by omega⟩
          case round =>
            obtain ⟨k, hk1, hk2, rfl, HP, HT⟩ := hrel
            by_cases hkm : k ≤ mn
            · have hqk2 : q + k < W.length := by omega
              obtain ⟨b', o', hbo, hS', hc', r1, r2⟩ := HA.out (q + k) hqk2
              cases hbo
              rcases HP.out.row.open with ⟨h0, -⟩ | ⟨g', cp', hv', -, -, -, -, hcl', -⟩
              · cases h0
              cases hv'
              have e0 : wr.cell? ⟨g, i, none⟩ = some (.int .i64 q) := by rw [← HLI.out]; exact hcl' i hlt
              have e1 : wr.cell? ⟨b, o + (q + k), none⟩ = some (.int .i64 W[q + k]) := (HP.out.arg.bel.cell (p := ⟨b, o + (q + k), none⟩) hS').trans hc'
              have k0 : wr.cell? ⟨w.heap.size, 0, none⟩ = some (.slice (some ⟨b, o, none⟩) W.length c0) := HP.out.arg.cell 0 HCS.out
              have hsp := HP.out.row.sp
              have REP : Hid (intsSh.rep wr (· < wr.heap.size) [.slice (some ⟨g, 0, none⟩) l.length c1] l) := intsSh.mono (intsp_rep hsp) fun q hq => hq.2
              have hgd := getD_at hqk2
              obtain ⟨y, hy⟩ : ∃ y, y = W[q + k] := ⟨_, rfl⟩
              rw [← hy] at e1 hgd r1 r2
              obtain ⟨k', rfl⟩ : ∃ k', k = k' + 1 := ⟨k - 1, by omega⟩
              have HG : Hid (W.getD (q + 1 + k') 0 = y) := by show _ = _; rw [show q + 1 + k' = q + (k' + 1) by omega]; exact hgd
              have qkI : (q : Int) + ((k' : Int) + 1) < (W.length : Int) := by omega
              clear hc' hcl' hsp hy hgd
              rcases q6 : thereB l y with _ | _
              · have HF : Hid (r = false) := by
                  have hnk : kidsB (W, half, base, next) q = false := kids_no (k := k') (by show k' < (manyF (W.getD q 0)).toNat; rw [HMN.out]; omega) (by show thereB (plT _).1 (W.getD (q + 1 + k') 0) = false; rw [HG.out, ← HLE.out.1]; exact q6)
                  show _ = _
                  rw [HR.out]
                  refine heapB_kids (i := i) (by rw [← HLE.out.1]; exact hlt) ?_
                  have : (plT (W, half, base, next)).1[i]'(by rw [← HLE.out.1]; exact hlt) = (q : Int) := by rw [← HLI.out]; simp only [HLE.out.1]
                  rw [this, Int.toNat_natCast]; exact hnk
                go_wp2
                go_quiet ((go_at_call 21; exact Calls.quiet_of_same (there_is _ _ q6 (intsSh.on REP.out fun _ _ => rfl))))
                go_wp2
                go_ret
                exact ⟨ret_b HF.out.symm, drewN_below HP.out.arg.bel _⟩
              · have HT2 : Hid (∀ j, j + 1 < k' + 1 + 1 → thereB l (W.getD (q + 1 + j) 0) = true) := fun j hj => by
                  by_cases e : j = k'
                  · subst e; rw [HG.out]; exact q6
                  · exact HT.out j (by omega)
                go_wp2
                go_quiet ((go_at_call 21; exact Calls.quiet_of_same (there_is _ _ q6 (intsSh.on REP.out fun _ _ => rfl))))
                go_wp2
                go_round
                case rel => exact ⟨k' + 1 + 1, by omega, by omega, by go_num, HP.out.drewN _, HT2⟩
                case measure => simp [intOf]; omega
            · obtain rfl : k = mn + 1 := by omega
              have HJ2 : Hid (∀ j (hj : j < l.length), j < i + 1 → kidsB (W, half, base, next) (l[j]).toNat = true) := fun j hj h1 => by
                by_cases e : j = i
                · subst e
                  rw [HLI.out, Int.toNat_natCast]
                  refine kids_yes fun z hz => ?_
                  have hz' : z < (manyF (W.getD q 0)).toNat := hz
                  rw [HMN.out] at hz'
                  have := HT.out z (by omega)
                  rw [HLE.out.1] at this
                  exact this
                · exact HJ.out j hj (by omega)
              go_wp2
              go_round
              case rel => exact ⟨i + 1, by omega, by go_num, HP, HJ2⟩
              case measure => simp [intOf]; omega
        · obtain rfl : i = l.length := by omega
          have HF : Hid (r = true) := by
            show _ = _
            rw [HR.out]
            refine heapB_yes HD.out HLE.out.2 fun j hj => ?_
            have hj' : j < l.length := by rw [HLE.out.1]; exact hj
            have := HJ.out j hj' hj'
            simpa only [HLE.out.1] using this
          go_wp2
          go_ret
          exact ⟨ret_b HF.out.symm, HQ.out.arg.bel⟩

end Go.Proofs.YtibjpdchdopigaaDoor.heap

namespace Go.Proofs.YtibjpdchdopigaaDoor.heap
open Go Go.RowKit Go.Proofs.YtibjpdchdopigaaDoor.rose Go.Proofs.YtibjpdchdopigaaDoor Go.Proofs.YtibjpdchdopigaaDoor.fun Go.Proofs.YtibjpdchdopigaaDoor.words Go.Proofs.YtibjpdchdopigaaDoor.ints
set_option linter.unusedVariables false
set_option linter.unusedSimpArgs false

set_option maxRecDepth 100000 in
set_option maxHeartbeats 8000000 in
theorem specRight (T : HeapD) (rs : List Int) (cs : List Value) (v : Value) (w : World) (h : heapSh.rep w (· < w.heap.size) cs T) (hv : intsSh.rep w (· < w.heap.size) [v] rs) :
    Calls Tryd.prog 12 #[.agg cs.toArray, v] w fun e w' => e = .returned (.bool (rightB T rs)) ∧ Below w.heap.size w w' := by
  have AH : Hid (∀ w' : World, Below w.heap.size w w' → heapSh.rep w' (· < w'.heap.size) cs T) := fun w' hb => heapSh.mono (heapSh.below h hb) fun b hlt => Nat.lt_of_lt_of_le hlt hb.size
  obtain ⟨W, a0, c0, half, base, next, rfl, rfl, f0, f1, f2, f3⟩ := heap_open h
  obtain ⟨ar, cr, rfl, hcap, hmax, hat⟩ := ints_open hv
  have HA : Hid _ := hat
  have hmx : (rs.length : Int) ≤ 9223372036854775807 := by unfold maxLen at hmax; omega
  obtain ⟨r, hr⟩ : ∃ r, r = rightB (W, half, base, next) rs := ⟨_, rfl⟩
  have HR : Hid (r = rightB (W, half, base, next) rs) := hr
  rw [← hr]
  have BA : Hid (Below w.heap.size w (w.alloc (.cells #[.slice a0 W.length c0, .int .i64 half, .int .i64 base, .int .i64 next] 27))) := (Below.refl _ _).alloc (Nat.le_refl _) _
  have A0 : Hid (ArgK w (w.alloc (.cells #[.slice a0 W.length c0, .int .i64 half, .int .i64 base, .int .i64 next] 27)) [.slice a0 W.length c0, .int .i64 half, .int .i64 base, .int .i64 next] 27) := ArgK.new _ _ _ rfl
  have hcall := specHeapOk (W, half, base, next) _ _ (AH.out _ BA.out)
  clear h hv f0 hr hcap hmax hat f1 f2 f3
  rcases q1 : heapB (W, half, base, next) with _ | _
  · have HF : Hid (r = false) := by show _ = _; rw [HR.out]; exact right_heap q1
    rw [q1] at hcall
    clear q1
    go_enter Tryd.func12, Tryd.ntmps12
    go_wp2_with fail
    refine hcall.mono ?_
    rintro e w1 ⟨rfl, hb⟩
    have A1 := A0.out.on hb
    clear hcall hb
    go_wp2
    go_ret
    exact ⟨ret_b HF.out.symm, A1.bel⟩
  · rw [q1] at hcall
    have Q1 : Hid (heapB (W, half, base, next) = true) := q1
    clear q1
    go_enter Tryd.func12, Tryd.ntmps12
    go_wp2_with fail
    refine hcall.mono ?_
    rintro e w1 ⟨rfl, hb⟩
    have A1 : Hid (ArgK w w1 [.slice a0 W.length c0, .int .i64 half, .int .i64 base, .int .i64 next] 27) := A0.out.on hb
    have hcall2 := specPlacesOf (W, half, base, next) _ w1 (heap_head Q1.out) (AH.out _ A1.out.bel)
    rw [heap_places Q1.out] at hcall2
    have k0 : w1.cell? ⟨w.heap.size, 0, none⟩ = some (.slice a0 W.length c0) := A1.out.cell 0 rfl
    have k1 : w1.cell? ⟨w.heap.size, 1, none⟩ = some (.int .i64 half) := A1.out.cell 1 rfl
    have k2 : w1.cell? ⟨w.heap.size, 2, none⟩ = some (.int .i64 base) := A1.out.cell 2 rfl
    have k3 : w1.cell? ⟨w.heap.size, 3, none⟩ = some (.int .i64 next) := A1.out.cell 3 rfl
    clear hcall hb
    go_wp2_with fail
    refine hcall2.mono ?_
    rintro e w2 ⟨⟨v2, l, rfl, hr2, hl2⟩, hb2⟩
    have hle := hl2 (by first | rfl | trivial)
    have A2 : Hid (Below w.heap.size w w2) := (A1.out.on hb2).bel
    have REP : Hid (intsSh.rep w2 (· < w2.heap.size) [v2] l) := intsSh.mono (intsp_rep hr2.sp) fun q hq => hq.2
    have HLE : Hid (l = (plT (W, half, base, next)).1) := hle
    clear hcall2 hr2 hl2 hb2 hle k0 k1 k2 k3 A1 A0 BA AH
    go_wp2
    go_loopw [7] (fun v7 wr => ∃ i : Nat, i ≤ rs.length ∧ v7 = .int .i64 i ∧ wr = w2 ∧ Hid (∀ j (hj : j < rs.length), j < i → thereB l rs[j] = true)) (fun v7 _ => rs.length - (intOf v7).toNat)
    case atStart => exact ⟨0, Nat.zero_le _, rfl, rfl, fun j _ hj => absurd hj (Nat.not_lt_zero _)⟩
    case round =>
      obtain ⟨i, hi, rfl, hwr, HJ⟩ := hrel
      subst wr
      by_cases hlt : i < rs.length
      · obtain ⟨b', o, rfl, hS, hc, -⟩ := HA.out i hlt
        have e0 : w2.cell? ⟨b', o + i, none⟩ = some (.int .i64 rs[i]) := (A2.out.cell (p := ⟨b', o + i, none⟩) hS).trans hc
        have iI : (i : Int) < (rs.length : Int) := by omega
        clear hc
        rcases q2 : thereB l rs[i] with _ | _
        · have HF : Hid (r = false) := by show _ = _; rw [HR.out]; exact right_root hlt (by rw [← HLE.out]; exact q2)
          have hc3 := there_is v2 w2 q2 REP.out
          generalize rs[i] = y at e0 hc3
          clear q2
          go_wp2_with fail
          refine hc3.mono ?_
          rintro e w3 ⟨rfl, hx⟩
          subst w3
          clear hc3
          go_wp2
          go_ret
          exact ⟨ret_b HF.out.symm, A2.out⟩
        · have HN : Hid (∀ j (hj : j < rs.length), j < i + 1 → thereB l rs[j] = true) := fun j hj h1 => by
            by_cases e : j = i
            · subst e; exact q2
            · exact HJ.out j hj (by omega)
          have hc3 := there_is v2 w2 q2 REP.out
          generalize rs[i] = y at e0 hc3
          clear q2
          go_wp2_with fail
          refine hc3.mono ?_
          rintro e w3 ⟨rfl, hx⟩
          subst w3
          clear hc3
          go_wp2
          go_round
          case rel => exact ⟨i + 1, by omega, by go_num, by first | rfl | trivial, HN⟩
          case measure => simp [intOf]; omega
      · obtain rfl : i = rs.length := by omega
        have HF : Hid (r = true) := by show _ = _; rw [HR.out]; exact right_yes Q1.out fun j hj => by rw [← HLE.out]; exact HJ.out j hj hj
        go_wp2
        go_ret
        exact ⟨ret_b HF.out.symm, A2.out⟩

end Go.Proofs.YtibjpdchdopigaaDoor.heap

namespace Go.Proofs.YtibjpdchdopigaaDoor.heap
open Go Go.RowKit Go.Proofs.YtibjpdchdopigaaDoor.rose Go.Proofs.YtibjpdchdopigaaDoor Go.Proofs.YtibjpdchdopigaaDoor.fun Go.Proofs.YtibjpdchdopigaaDoor.words Go.Proofs.YtibjpdchdopigaaDoor.ints
set_option linter.unusedVariables false
set_option linter.unusedSimpArgs false

theorem getD_in {W : List Int} (h : ∀ x ∈ W, InR x) (p : Nat) : InR (W.getD p 0) := by
  rcases Nat.lt_or_ge p W.length with q | q
  · rw [getD_at q]; exact h _ (List.getElem_mem q)
  · rw [List.getD_eq_getElem?_getD, List.getElem?_eq_none q]; unfold InR; decide
theorem half_in {x : Int} (h : InR x) : InR (x / 2) := by unfold InR at *; omega
/-- The order has grown by one. -/
theorem HK.push {w wr w3 : World} {cs : List Value} {v : Value} {l : List Int} {x : Int} {X : Obj} {a3 : Option Addr} {c3 : Nat} (h : HK w wr cs v l) (hx : InR x) (hX : w.heap.size + 1 ≤ wr.heap.size)
    (o3 : w3.ownsRow (w.heap.size + 1) 3 1 (.slice a3 (l.length + 1) c3) (l.length + 1) (l.map (Value.int .i64) ++ [.int .i64 x])) (g3 : (wr.alloc X).grownBy w3 v.ownBlock) : HK w w3 cs (.slice a3 (l ++ [x]).length c3) (l ++ [x]) := by
  have hl := h.arg.lt
  have hz : (wr.alloc X).heap.size = wr.heap.size + 1 := by simp
  have hs := h.arg.bel.size
  refine ⟨⟨(h.arg.bel.alloc hs _).grown g3 (by omega) (fun k hk => by have := (h.row.lt k hk).1; omega), ?_⟩, irow_push o3 h.row.2 hx⟩
  rw [g3.block w.heap.size (by omega) (fun e => by have := (h.row.lt _ e.symm).1; omega), Below.heap_alloc _ _ _ hl]
  exact h.arg.blk
theorem HK.lt1 {w wr : World} {cs : List Value} {v : Value} {l : List Int} (h : HK w wr cs v l) : w.heap.size + 1 ≤ wr.heap.size := h.arg.lt

end Go.Proofs.YtibjpdchdopigaaDoor.heap
