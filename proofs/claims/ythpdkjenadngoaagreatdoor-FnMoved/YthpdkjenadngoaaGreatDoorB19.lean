/-
  The model's l18Order, of what is right; nothing that was there is turned.
-/
import Derived.Deep.QuietTactic
import Derived.BigQuiet
import Derived.Test.YthpdkjenadngoaaGreatDoorB1
import Derived.Test.YthpdkjenadngoaaGreatDoorB2
import Derived.Test.YthpdkjenadngoaaGreatDoorB3
import Derived.Test.YthpdkjenadngoaaGreatDoorB4
import Derived.Test.YthpdkjenadngoaaGreatDoorB5
import Derived.Test.YthpdkjenadngoaaGreatDoorB6
import Derived.Test.YthpdkjenadngoaaGreatDoorB7
import Derived.Test.YthpdkjenadngoaaGreatDoorB8
import Derived.Test.YthpdkjenadngoaaGreatDoorB9
import Derived.Test.YthpdkjenadngoaaGreatDoorB10
import Derived.Test.YthpdkjenadngoaaGreatDoorB11
import Derived.Test.YthpdkjenadngoaaGreatDoorB12
import Derived.Test.YthpdkjenadngoaaGreatDoorB13
import Derived.Test.YthpdkjenadngoaaGreatDoorB14
import Derived.Test.YthpdkjenadngoaaGreatDoorB15
import Derived.Test.YthpdkjenadngoaaGreatDoorB16
import Derived.Test.YthpdkjenadngoaaGreatDoorB17
import Derived.Test.YthpdkjenadngoaaGreatDoorB18
namespace Go.Proofs.YthpdkjenadngoaaGreatDoor.heap
open Go Go.RowKit Go.Proofs.YthpdkjenadngoaaGreatDoor.rose Go.Proofs.YthpdkjenadngoaaGreatDoor Go.Proofs.YthpdkjenadngoaaGreatDoor.fun Go.Proofs.YthpdkjenadngoaaGreatDoor.words Go.Proofs.YthpdkjenadngoaaGreatDoor.ints
set_option linter.unusedVariables false
set_option linter.unusedSimpArgs false

set_option maxRecDepth 100000 in
set_option maxHeartbeats 16000000 in
theorem specOrder (T : HeapD) (rs : List Int) (cs : List Value) (v : Value) (w : World) (hR : rightB T rs = true) (hrl : rs.length ≤ 1048576) (h : heapSh.rep w (· < w.heap.size) cs T) (hv : intsSh.rep w (· < w.heap.size) [v] rs) :
    Calls Tryz.prog 30 #[.agg cs.toArray, v] w fun e w' => (∃ v', e = .returned v' ∧ IRow w' w.heap.size v' (orderF T rs)) ∧ Below w.heap.size w w' := by
  obtain ⟨hb, hth⟩ := right_is hR
  obtain ⟨W, a0, c0, half, base, next, rfl, rfl, f0, f1, f2, f3⟩ := heap_open h
  obtain ⟨a, cap, e, hcap0, hmax0, hat0⟩ := ints_open f0
  cases e
  obtain ⟨ar, cr, rfl, hcap, hmax, hat⟩ := ints_open hv
  have HW : Hid _ := hat0
  have HA : Hid _ := hat
  have hmx : (rs.length : Int) ≤ 9223372036854775807 := by omega
  have HB : Hid (heapB (W, half, base, next) = true) := hb
  have HT : Hid (∀ x ∈ rs, thereB (plT (W, half, base, next)).1 x = true) := hth
  have hpl := places_len hb
  dsimp only at hpl
  have PL : Hid ((plT (W, half, base, next)).1.length ≤ W.length) := hpl.1
  have hw6 : W.length ≤ 6000 := hpl.2
  obtain ⟨cs, hcs⟩ : ∃ cs : List Value, cs = [.slice a0 W.length c0, .int .i64 half, .int .i64 base, .int .i64 next] := ⟨_, rfl⟩
  have HCS : Hid (cs[0]? = some (.slice a0 W.length c0)) := by show _ = _; rw [hcs]; rfl
  have A0 : Hid (ArgK w (w.alloc (.cells #[.slice a0 W.length c0, .int .i64 half, .int .i64 base, .int .i64 next] 26)) cs 26) := by rw [hcs]; exact ArgK.new _ _ _ rfl
  obtain ⟨ti, hti, hz0, hz1, hz2⟩ := int_info
  have TI : Hid (Tryz.prog.info? 3 = some ti ∧ ti.zero = some (.int .i64 0) ∧ ti.size = 1 ∧ ti.bytes = 8) := ⟨hti, hz0, hz1, hz2⟩
  obtain ⟨r, hr⟩ : ∃ r, r = orderF (W, half, base, next) rs := ⟨_, rfl⟩
  have HR : Hid (r = orderF (W, half, base, next) rs) := hr
  rw [← hr]
  have K0 : Hid (HK w ((w.alloc (.cells #[.slice a0 W.length c0, .int .i64 half, .int .i64 base, .int .i64 next] 26)).alloc (.cells #[] 3)) cs (.slice (some ⟨w.heap.size + 1, 0, none⟩) 0 0) []) := by
    refine ⟨A0.out.on ((Below.refl _ _).alloc (Nat.le_refl _) _), ?_⟩
    have := irow_lit0 (w.alloc (.cells #[.slice a0 W.length c0, .int .i64 half, .int .i64 base, .int .i64 next] 26)) (base := w.heap.size + 1) (by simp)
    simpa using this
  clear h hv f0 hr hcap hmax hat hcap0 hmax0 hat0 f1 f2 f3 hR hb hth hpl hcs A0 hti hz0 hz1 hz2
  go_enter Tryz.func30, Tryz.ntmps30
  go_wp2
  go_loopw [5, 6] (fun v5 v6 wr => ∃ (i : Nat) (a5 : Option Addr) (c5 : Nat) (out : List Int), i ≤ rs.length ∧ v6 = .int .i64 i ∧ v5 = .slice a5 out.length c5 ∧ Hid (HK w wr cs (.slice a5 out.length c5) out) ∧ Hid (out = addRs [] (rs.take i) ∧ OInv (W, half, base, next) out)) (fun _ v6 _ => rs.length - (intOf v6).toNat)
  case atStart => exact ⟨0, _, _, [], Nat.zero_le _, rfl, rfl, K0, ⟨by simp [addRs], OInv.nil _⟩⟩
  case round =>
    obtain ⟨i, a5, c5, out, hi, rfl, rfl, HQ, HJ⟩ := hrel
    have hol : out.length ≤ 6000 := by have := HJ.out.2.len; have := PL.out; omega
    by_cases hlt : i < rs.length
    · obtain ⟨b', o, rfl, hS, hc, r1, r2⟩ := HA.out i hlt
      have e0 : wr.cell? ⟨b', o + i, none⟩ = some (.int .i64 rs[i]) := (HQ.out.arg.bel.cell (p := ⟨b', o + i, none⟩) hS).trans hc
      have iI : (i : Int) < (rs.length : Int) := by omega
      have hthi := HT.out rs[i] (List.getElem_mem hlt)
      have HS : Hid (addRs [] (rs.take (i + 1)) = addR out rs[i]) := by show _ = _; rw [addRs_take hlt, ← HJ.out.1]
      have HO : Hid (OInv (W, half, base, next) (addR out rs[i])) := HJ.out.2.add hthi
      have REP : Hid (intsSh.rep wr (· < wr.heap.size) [.slice a5 out.length c5] out) := intsSh.mono (intsp_rep HQ.out.row.sp) fun q hq => hq.2
      have hxr : InR rs[i] := ⟨r1, r2⟩
      clear hc hthi r1 r2
      obtain ⟨x, hx⟩ : ∃ x, x = rs[i] := ⟨_, rfl⟩
      rw [← hx] at e0 HS HO hxr
      have HXR : Hid (InR (x / 2)) := half_in hxr
      clear hx hxr
      rcases q1 : decide (x % 2 = 0) with _ | _
      · have HE : Hid (addR out x = out) := addR_skip (.inl (of_decide_eq_false q1))
        go_wp2_with (go_at_call 58; refine (isref_is q1).mono ?_; rintro e w' ⟨rfl, hx⟩; subst w')
        go_round
        case rel => exact ⟨i + 1, a5, c5, out, by omega, by go_num, rfl, HQ, ⟨by rw [HS.out, HE.out], HJ.out.2⟩⟩
        case measure => simp [intOf]; omega
      · rcases q2 : decide (x / 2 ∈ out) with _ | _
        · have HE : Hid (addR out x = out ++ [x / 2]) := addR_put (of_decide_eq_true q1) (of_decide_eq_false q2)
          have hc3 := in7_is _ wr q2 REP.out
          have R1 : Hid ((wr.alloc (.cells #[.int .i64 (x / 2)] 3)).ownsRow (w.heap.size + 1) 3 1 (.slice a5 out.length c5) out.length (out.map (Value.int .i64))) := HQ.out.row.1.alloc _
          have NC : Hid (∀ j u, [Value.int .i64 (x / 2)][j]? = some u → (wr.alloc (.cells #[.int .i64 (x / 2)] 3)).cell? ((⟨wr.heap.size, 0, none⟩ : Addr).add j) = some u) := new_cell wr 3 (.int .i64 (x / 2))
          have ZW : Hid (w.heap.size + 1 ≤ wr.heap.size) := HQ.out.lt1
          clear q2
          go_wp2_with (first
            | (go_at_call 58; refine (isref_is q1).mono ?_; rintro e w' ⟨rfl, hx⟩; subst w')
            | (go_at_call 60; refine (wordref_is _ _).mono ?_; rintro e w' ⟨rfl, hx⟩; subst w')
            | (go_at_call 59; refine hc3.mono ?_; rintro e w' ⟨rfl, hx⟩; subst w')
            | (at_builtin; refine wpList_append_own_at _ rfl (.tmp 35) (.tmp 41) 24 rfl (w.heap.size + 1) 3 ti _ 1 8 Tryz.underlying24 TI.out.1 TI.out.2.1 TI.out.2.2.1 TI.out.2.2.2 rfl (by decide) (.slice a5 out.length c5) out.length (out.map (Value.int .i64)) rfl R1.out ⟨wr.heap.size, 0, none⟩ 1 1 [.int .i64 (x / 2)] rfl rfl NC.out (by simp; rfl) (by unfold maxLen; omega) (by omega) (by have := ZW.out; simp; omega) ?_; intro v3 w3 o3 g3 n3 a3
               obtain ⟨a3', c3', rfl⟩ := own_form o3
               have NX : Hid (HK w w3 cs (.slice a3' (out ++ [x / 2]).length c3') (out ++ [x / 2])) := HQ.out.push HXR.out ZW.out o3 g3
               have hln : out.length + 1 = (out ++ [x / 2]).length := by simp
               rw [hln]
               clear o3 g3 n3 a3 hln))
          go_round
          case rel => exact ⟨i + 1, a3', c3', out ++ [x / 2], by omega, by go_num, by simp, NX, ⟨by rw [HS.out, HE.out], by have := HO.out; rw [HE.out] at this; exact this⟩⟩
          case measure => simp [intOf]; omega
        · have HE : Hid (addR out x = out) := addR_skip (.inr (of_decide_eq_true q2))
          have hc3 := in7_is _ wr q2 REP.out
          clear q2
          go_wp2_with (first
            | (go_at_call 58; refine (isref_is q1).mono ?_; rintro e w' ⟨rfl, hx⟩; subst w')
            | (go_at_call 60; refine (wordref_is _ _).mono ?_; rintro e w' ⟨rfl, hx⟩; subst w')
            | (go_at_call 59; refine hc3.mono ?_; rintro e w' ⟨rfl, hx⟩; subst w'))
          go_round
          case rel => exact ⟨i + 1, a5, c5, out, by omega, by go_num, rfl, HQ, ⟨by rw [HS.out, HE.out], HJ.out.2⟩⟩
          case measure => simp [intOf]; omega
    · obtain rfl : i = rs.length := by omega
      have HJ0 : Hid (r = scanF W (W.length + 1) 0 out ∧ OInv (W, half, base, next) out) := ⟨by rw [HR.out]; unfold orderF; have := HJ.out.1; rw [List.take_length] at this; rw [this], HJ.out.2⟩
      clear HJ K0
      rename World => wo
      go_wp2
      go_loopw [5, 7] (fun v5 v7 wr => ∃ (k : Nat) (a5 : Option Addr) (c5 : Nat) (out : List Int), k ≤ out.length ∧ v7 = .int .i64 k ∧ v5 = .slice a5 out.length c5 ∧ Hid (HK w wr cs (.slice a5 out.length c5) out) ∧ Hid (r = scanF W (W.length + 1 - k) k out ∧ OInv (W, half, base, next) out)) (fun _ v7 _ => 6001 - (intOf v7).toNat)
      case atStart => exact ⟨0, a5, c5, out, Nat.zero_le _, rfl, rfl, HQ, HJ0⟩
      case round =>
        clear HJ0 HQ
        obtain ⟨k, a5, c5, out, hk, rfl, rfl, HQ, HJ⟩ := hrel
        have hol : out.length ≤ 6000 ∧ out.length ≤ W.length := by have := HJ.out.2.len; have := PL.out; omega
        by_cases hlt : k < out.length
        · obtain ⟨q, hq, hqm⟩ := place_in HB.out (HJ.out.2.sub out[k] (List.getElem_mem hlt))
          dsimp only at hqm
          have hql : q < W.length := by omega
          obtain ⟨b, o, rfl, hS, hc, r1, r2⟩ := HW.out q hql
          rcases HQ.out.row.open with ⟨-, h0⟩ | ⟨g, cp, hv, -, -, -, -, hcl, -⟩
          · rw [h0] at hlt; simp at hlt
          cases hv
          have e0 : wr.cell? ⟨g, k, none⟩ = some (.int .i64 q) := by rw [← hq]; exact hcl k hlt
          have e1 : wr.cell? ⟨b, o + q, none⟩ = some (.int .i64 W[q]) := (HQ.out.arg.bel.cell (p := ⟨b, o + q, none⟩) hS).trans hc
          have k0 : wr.cell? ⟨w.heap.size, 0, none⟩ = some (.slice (some ⟨b, o, none⟩) W.length c0) := HQ.out.arg.cell 0 HCS.out
          have hm := many_in W[q]
          have hgd := getD_at hql
          obtain ⟨x, hx⟩ : ∃ x, x = W[q] := ⟨_, rfl⟩
          rw [← hx] at e1 hm hgd r1 r2
          obtain ⟨mn, hmn⟩ : ∃ t : Nat, (t : Int) = manyF x := ⟨(manyF x).toNat, by omega⟩
          have HMN : Hid ((kidsL W q).length = mn) := by show _ = _; rw [kidsL_len, hgd]; omega
          have hqk : q + mn < W.length := by have := HMN.out; rw [kidsL_len] at this; rw [this] at hqm; exact hqm
          have hm63 : mn ≤ 63 := by omega
          have OF : Hid (∀ W' : World, Calls Tryz.prog 34 #[.int .i64 x] W' fun e w' => e = .returned (.tuple #[.bool (funF x), .int .i64 (tagF x), .int .i64 mn]) ∧ w' = W') := fun W' => by rw [hmn]; exact of_is x W' r1 r2
          have HKT : Hid (∀ y ∈ kidsL W q, thereB (plT (W, half, base, next)).1 y = true) := by
            have := kids_there HB.out (HJ.out.2.sub out[k] (List.getElem_mem hlt))
            rw [hq, Int.toNat_natCast] at this
            exact this
          have HSC : Hid (r = scanF W (W.length + 1 - (k + 1)) (k + 1) (addRs out (kidsL W q)) ∧ out[k]? = some (q : Int)) := by
            refine ⟨?_, by rw [List.getElem?_eq_getElem hlt, hq]⟩
            have h1 := HJ.out.1
            rw [show W.length + 1 - k = (W.length + 1 - (k + 1)) + 1 by omega, scan_more hlt, hq, Int.toNat_natCast] at h1
            exact h1
          have kI : (k : Int) < (out.length : Int) := by omega
          have qI : (q : Int) < (W.length : Int) := by omega
          have HO0 : Hid (OInv (W, half, base, next) out) := HJ.out.2
          clear hc hcl hx hmn hm hgd hq hqm r1 r2 HJ
          go_wp2
          go_quiet ((go_at_call 34; exact Calls.quiet_of_same (OF.out _)))
          have K2 : Hid (HK w (wr.drewN nq) cs (.slice (some ⟨g, 0, none⟩) out.length c5) out) := HQ.out.drewN nq
          have HO1 : Hid (out.length ≤ 6000) := hol.1
          clear e0 e1 k0
          go_wp2
          rename World => wi
          go_loopw [5, 11] (fun v5 v11 wr => ∃ (j : Nat) (a5 : Option Addr) (c5 : Nat) (out2 : List Int), 1 ≤ j ∧ j ≤ mn + 1 ∧ v11 = .int .i64 j ∧ v5 = .slice a5 out2.length c5 ∧ Hid (HK w wr cs (.slice a5 out2.length c5) out2) ∧ Hid (out2 = addRs out ((kidsL W q).take (j - 1)) ∧ OInv (W, half, base, next) out2 ∧ out2[k]? = some (q : Int))) (fun _ v11 _ => mn + 2 - (intOf v11).toNat)
          case atStart => exact ⟨1, _, _, out, Nat.le_refl _, by omega, rfl, rfl, K2, ⟨by simp [addRs], HO0.out, HSC.out.2⟩⟩
          case round =>
            clear K2
            obtain ⟨j, a6, c6, out2, hj1, hj2, rfl, rfl, HP, HT2⟩ := hrel
            have hol2 : out2.length ≤ 6000 ∧ out2.length ≤ W.length := by have := HT2.out.2.1.len; have := PL.out; omega
            by_cases hjm : j ≤ mn
            · obtain ⟨j', rfl⟩ : ∃ j', j = j' + 1 := ⟨j - 1, by omega⟩
              have hqk2 : q + (j' + 1) < W.length := by omega
              obtain ⟨b2, o2, hbo, hS2, hc2, r1, r2⟩ := HW.out (q + (j' + 1)) hqk2
              cases hbo
              have hk2 : k < out2.length := by
                rcases Nat.lt_or_ge k out2.length with z | z
                · exact z
                · have := HT2.out.2.2; rw [List.getElem?_eq_none z] at this; cases this
              rcases HP.out.row.open with ⟨-, h0⟩ | ⟨g2, cp2, hv2, -, -, -, -, hcl2, -⟩
              · rw [h0] at hk2; simp at hk2
              cases hv2
              have e0 : wr.cell? ⟨g2, k, none⟩ = some (.int .i64 q) := by
                have := hcl2 k hk2
                have h2 := HT2.out.2.2
                rw [List.getElem?_eq_getElem hk2] at h2
                simp only [Option.some.injEq] at h2
                rw [h2] at this
                exact this
              have e1 : wr.cell? ⟨b, o + (q + (j' + 1)), none⟩ = some (.int .i64 W[q + (j' + 1)]) := (HP.out.arg.bel.cell (p := ⟨b, o + (q + (j' + 1)), none⟩) hS2).trans hc2
              have k0 : wr.cell? ⟨w.heap.size, 0, none⟩ = some (.slice (some ⟨b, o, none⟩) W.length c0) := HP.out.arg.cell 0 HCS.out
              have hgd := getD_at hqk2
              have hlj : j' < (kidsL W q).length := by rw [HMN.out]; omega
              have hkj : (kidsL W q)[j'] = W[q + (j' + 1)] := by rw [kidsL_get hlj, ← hgd]; unfold kidAt; rw [show q + 1 + j' = q + (j' + 1) by omega]
              have HS : Hid (addRs out ((kidsL W q).take (j' + 1)) = addR out2 W[q + (j' + 1)]) := by show _ = _; rw [addRs_take hlj, hkj]; rw [show j' + 1 - 1 = j' by omega] at HT2; rw [HT2.out.1]
              have HO : Hid (OInv (W, half, base, next) (addR out2 W[q + (j' + 1)])) := HT2.out.2.1.add (by rw [← hkj]; exact HKT.out _ (List.getElem_mem hlj))
              have hxr : InR W[q + (j' + 1)] := ⟨r1, r2⟩
              obtain ⟨y, hy⟩ : ∃ y, y = W[q + (j' + 1)] := ⟨_, rfl⟩
              rw [← hy] at e1 HS HO hxr
              have HXR : Hid (InR (y / 2)) := half_in hxr
              have qkI : (q : Int) + ((j' : Int) + 1) < (W.length : Int) := by omega
              have kI2 : (k : Int) < (out2.length : Int) := by omega
              clear hc2 hcl2 hy hgd hkj hxr r1 r2
              go_wp2
              go_quiet (fail)
              have HP2 : Hid (HK w (wr.drewN nq) cs (.slice (some ⟨g2, 0, none⟩) out2.length c6) out2) := HP.out.drewN nq
              obtain ⟨wa, hwa⟩ : ∃ wa, wa = wr.drewN nq := ⟨_, rfl⟩
              rw [← hwa] at HP2 ⊢
              clear e0 e1 k0 hwa HP
              have REP : Hid (intsSh.rep wa (· < wa.heap.size) [.slice (some ⟨g2, 0, none⟩) out2.length c6] out2) := intsSh.mono (intsp_rep HP2.out.row.sp) fun q hq => hq.2
              rcases q1 : decide (y % 2 = 0) with _ | _
              · have HE : Hid (addR out2 y = out2) := addR_skip (.inl (of_decide_eq_false q1))
                go_wp2_with (go_at_call 58; refine (isref_is q1).mono ?_; rintro e w' ⟨rfl, hx⟩; subst w')
                go_round
                case rel => exact ⟨j' + 1 + 1, _, _, out2, by omega, by omega, by go_num, rfl, HP2, ⟨by show _ = addRs out ((kidsL W q).take (j' + 1)); rw [HS.out, HE.out], HT2.out.2⟩⟩
                case measure => simp [intOf]; omega
              · rcases q2 : decide (y / 2 ∈ out2) with _ | _
                · have HE : Hid (addR out2 y = out2 ++ [y / 2]) := addR_put (of_decide_eq_true q1) (of_decide_eq_false q2)
                  have hc3 := in7_is _ wa q2 REP.out
                  have R1 : Hid ((wa.alloc (.cells #[.int .i64 (y / 2)] 3)).ownsRow (w.heap.size + 1) 3 1 (.slice (some ⟨g2, 0, none⟩) out2.length c6) out2.length (out2.map (Value.int .i64))) := HP2.out.row.1.alloc _
                  have NC : Hid (∀ j u, [Value.int .i64 (y / 2)][j]? = some u → (wa.alloc (.cells #[.int .i64 (y / 2)] 3)).cell? ((⟨wa.heap.size, 0, none⟩ : Addr).add j) = some u) := new_cell wa 3 (.int .i64 (y / 2))
                  have ZW : Hid (w.heap.size + 1 ≤ wa.heap.size) := HP2.out.lt1
                  clear q2
                  go_wp2_with (first
                    | (go_at_call 58; refine (isref_is q1).mono ?_; rintro e w' ⟨rfl, hx⟩; subst w')
                    | (go_at_call 60; refine (wordref_is _ _).mono ?_; rintro e w' ⟨rfl, hx⟩; subst w')
                    | (go_at_call 59; refine hc3.mono ?_; rintro e w' ⟨rfl, hx⟩; subst w')
                    | (at_builtin; refine wpList_append_own_at _ rfl (.tmp 86) (.tmp 89) 24 rfl (w.heap.size + 1) 3 ti _ 1 8 Tryz.underlying24 TI.out.1 TI.out.2.1 TI.out.2.2.1 TI.out.2.2.2 rfl (by decide) (.slice (some ⟨g2, 0, none⟩) out2.length c6) out2.length (out2.map (Value.int .i64)) rfl R1.out ⟨wa.heap.size, 0, none⟩ 1 1 [.int .i64 (y / 2)] rfl rfl NC.out (by simp; rfl) (by unfold maxLen; omega) (by omega) (by have := ZW.out; simp; omega) ?_; intro v3 w3 o3 g3 n3 a3
                       obtain ⟨a3', c3', rfl⟩ := own_form o3
                       have NX : Hid (HK w w3 cs (.slice a3' (out2 ++ [y / 2]).length c3') (out2 ++ [y / 2])) := HP2.out.push HXR.out ZW.out o3 g3
                       clear o3 g3 n3 a3))
                  go_round
                  case rel => exact ⟨j' + 1 + 1, a3', c3', out2 ++ [y / 2], by omega, by omega, by go_num, by simp, NX, ⟨by show _ = addRs out ((kidsL W q).take (j' + 1)); rw [HS.out, HE.out], by have := HO.out; rw [HE.out] at this; exact this, by rw [List.getElem?_append_left hk2]; exact HT2.out.2.2⟩⟩
                  case measure => simp [intOf]; omega
                · have HE : Hid (addR out2 y = out2) := addR_skip (.inr (of_decide_eq_true q2))
                  have hc3 := in7_is _ wa q2 REP.out
                  clear q2
                  go_wp2_with (first
                    | (go_at_call 58; refine (isref_is q1).mono ?_; rintro e w' ⟨rfl, hx⟩; subst w')
                    | (go_at_call 60; refine (wordref_is _ _).mono ?_; rintro e w' ⟨rfl, hx⟩; subst w')
                    | (go_at_call 59; refine hc3.mono ?_; rintro e w' ⟨rfl, hx⟩; subst w'))
                  go_round
                  case rel => exact ⟨j' + 1 + 1, _, _, out2, by omega, by omega, by go_num, rfl, HP2, ⟨by show _ = addRs out ((kidsL W q).take (j' + 1)); rw [HS.out, HE.out], HT2.out.2⟩⟩
                  case measure => simp [intOf]; omega
            · obtain rfl : j = mn + 1 := by omega
              have HN : Hid (r = scanF W (W.length + 1 - (k + 1)) (k + 1) out2 ∧ OInv (W, half, base, next) out2 ∧ k + 1 ≤ out2.length) := by
                have h1 := HT2.out.1
                rw [show mn + 1 - 1 = mn by omega, List.take_of_length_le (by rw [HMN.out]; exact Nat.le_refl _)] at h1
                refine ⟨by rw [HSC.out.1, h1], HT2.out.2.1, ?_⟩
                rcases Nat.lt_or_ge k out2.length with z | z
                · exact z
                · have := HT2.out.2.2; rw [List.getElem?_eq_none z] at this; cases this
              go_wp2
              go_round
              case rel => exact ⟨k + 1, a6, c6, out2, HN.out.2.2, by go_num, rfl, HP, ⟨HN.out.1, HN.out.2.1⟩⟩
              case measure => simp [intOf]; omega
        · obtain rfl : k = out.length := by omega
          have HF : Hid (r = out) := by show _ = _; rw [HJ.out.1, scan_end (Nat.le_refl _)]
          go_wp2
          go_ret
          rw [HF.out]
          exact ⟨⟨_, rfl, irow_base0 HQ.out.row (by omega)⟩, HQ.out.arg.bel⟩

end Go.Proofs.YthpdkjenadngoaaGreatDoor.heap
