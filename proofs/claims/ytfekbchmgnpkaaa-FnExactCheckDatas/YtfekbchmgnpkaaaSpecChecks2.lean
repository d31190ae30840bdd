/-
  The model's l6All and CheckDatas, at every list of datas; nothing that was there is turned.
-/
import Derived.Test.YtfekbchmgnpkaaaSpecChecks
namespace Go.Proofs.Ytfekbchmgnpkaaa.data
open Go.RowKit Go.Proofs.Ytfekbchmgnpkaaa.rose Go.Proofs.Ytfekbchmgnpkaaa
set_option linter.unusedVariables false
set_option linter.unusedSimpArgs false

/-- All types of the cons ahead of (i, k). -/
def aheadB (ks : List DataD) (many : Bool) (i k : Nat) : Bool := (typesP (ahead ks i k)).all (okN ks many)

theorem aheadB_step {ks : List DataD} {many : Bool} {i k : Nat} (hi : i < ks.length) (hk : k < ks[i].2.2.length) : aheadB ks many i (k + 1) = (aheadB ks many i k && allB ks many ks[i].2.2[k].2) := by
  unfold aheadB allB
  rw [ahead_step hi hk, typesP_append, typesP_one, List.all_append]
theorem aheadB_next {ks : List DataD} {many : Bool} {i : Nat} (hi : i < ks.length) : aheadB ks many (i + 1) 0 = aheadB ks many i ks[i].2.2.length := by
  unfold aheadB; rw [ahead_next hi]
theorem aheadB_end {ks : List DataD} {many : Bool} : aheadB ks many ks.length 0 = (typesL ks).all (okN ks many) := by
  unfold aheadB; rw [ahead_end]; rfl
theorem aheadB_no {ks : List DataD} {many : Bool} {i k : Nat} (hi : i < ks.length) (hk : k < ks[i].2.2.length) (hn : allB ks many ks[i].2.2[k].2 = false) : (typesL ks).all (okN ks many) = false := by
  obtain ⟨r, hr⟩ := ahead_prefix hi (show k + 1 ≤ ks[i].2.2.length from hk)
  unfold typesL
  rw [← hr, typesP_append, List.all_append, ahead_step hi hk, typesP_append, typesP_one, List.all_append]
  unfold allB at hn
  rw [hn]
  simp

set_option maxRecDepth 100000 in
set_option maxHeartbeats 4000000 in
theorem all_any (ks : List DataD) (v : Value) (many : Bool) (w : World) (hw : ks.length + wts ks ≤ 1048576) (h : dataSh.slice.rep w (· < w.heap.size) [v] ks) :
    Calls Try.prog 62 #[v, .bool many] w fun e w' => e = .returned (.bool ((typesL ks).all (okN ks many))) ∧ Below w.heap.size w w' := by
  have SL : Hid (∀ w' : World, Below w.heap.size w w' → dataSh.slice.rep w' (· < w'.heap.size) [v] ks) := fun w' hb => dataSh.slice.mono (dataSh.slice.below h hb) fun b hlt => Nat.lt_of_lt_of_le hlt hb.size
  obtain ⟨a, cap, css, rfl, hcap, hmax, hrow, hk⟩ := datas_open h
  clear h hcap hmax
  have HR : Hid (RowAt w (· < w.heap.size) 3 a ks.length css ∧ ∀ i (h : i < ks.length), dataSh.rep w (· < w.heap.size) (css i) ks[i]) := ⟨hrow, hk⟩
  clear hrow hk
  obtain ⟨q, hq⟩ : ∃ q, q = (typesL ks).all (okN ks many) := ⟨_, rfl⟩
  have HQ : Hid (q = (typesL ks).all (okN ks many)) := hq
  rw [← hq]
  clear hq
  go_enter Try.func62, Try.ntmps62
  go_wp2
  go_loopw [5] (fun v5 wr => ∃ i : Nat, i ≤ ks.length ∧ v5 = .int .i64 i ∧ Hid (aheadB ks many i 0 = true) ∧ Hid (Below w.heap.size w wr)) (fun v5 _ => ks.length - (intOf v5).toNat)
  case atStart => exact ⟨0, Nat.zero_le _, rfl, by show _ = _; simp [aheadB, ahead_start, typesP], Below.refl _ _⟩
  case round =>
    obtain ⟨i, hi, rfl, HA, HB⟩ := hrel
    rename World => wo
    by_cases hlt : i < ks.length
    · obtain ⟨b, o, rfl, hS, hc⟩ := HR.out.1 i hlt
      obtain ⟨x0, x1, x2, a2, c2, hT, hcs, f0, f1, f2⟩ := data_open (HR.out.2 i hlt)
      rw [hcs] at hc
      have CE : Hid (∀ wk : World, Below w.heap.size w wk → wk.cell? ⟨b, o + i * 3 + 2, none⟩ = some (.slice a2 x2.length c2)) := fun wk hb => (hb.cell (p := ⟨b, o + i * 3 + 2, none⟩) hS).trans (hc 2 _ rfl)
      have hx2 : x2.length ≤ 1048576 := by
        have := wts_con hlt
        rw [hT] at this
        simp at this
        omega
      have hcw : con.wts x2 ≤ 1048576 := by
        have := wt_mem (List.getElem_mem hlt)
        rw [hT] at this
        simp [wt] at this
        omega
      have HT : Hid (ks[i].2.2 = x2) := by show _ = _; rw [hT]
      have F2 : Hid _ := f2
      clear f2 hcs hc hT
      go_wp2
      go_loopw [6] (fun v6 wi => ∃ k : Nat, k ≤ x2.length ∧ v6 = .int .i64 k ∧ Hid (aheadB ks many i k = true) ∧ Hid (Below w.heap.size w wi)) (fun v6 _ => x2.length - (intOf v6).toNat)
      case atStart => exact ⟨0, Nat.zero_le _, rfl, HA, HB⟩
      case round =>
        obtain ⟨k, hk, rfl, HAk, HBk⟩ := hrel
        rename World => wi
        have e2 := CE.out wi HBk.out
        by_cases hlk : k < x2.length
        · obtain ⟨a1, cap1, cs1, ea, -, -, hrow, hkk⟩ := con.cons_open F2.out
          cases ea
          obtain ⟨b2, o2, rfl, hS2, hc⟩ := hrow k hlk
          obtain ⟨y0, y1, a3, c3, hT, hcs, g0, g1⟩ := con.con_open (hkk k hlk)
          rw [hcs] at hc
          have CF : Hid (∀ wk : World, Below w.heap.size w wk → wk.cell? ⟨b2, o2 + k * 2 + 1, none⟩ = some (.slice a3 y1.length c3)) := fun wk hb => (hb.cell (p := ⟨b2, o2 + k * 2 + 1, none⟩) hS2).trans (hc 1 _ rfl)
          have hy1 : y1.length + ty.wts y1 ≤ 1048576 := by
            have := con.wt_mem (List.getElem_mem hlk)
            rw [hT] at this
            simp [con.wt] at this
            omega
          have HN : Hid (∃ hk : k < ks[i].2.2.length, ks[i].2.2[k].2 = y1) := by
            refine ⟨by rw [HT.out]; exact hlk, ?_⟩
            simp only [HT.out]
            rw [hT]
          have G1 : Hid _ := g1
          clear hcs hc hT hrow hkk g1
          go_wp2
          go_loopw [7] (fun v7 wj => ∃ j : Nat, j ≤ y1.length ∧ v7 = .int .i64 j ∧ Hid (allB ks many (y1.take j) = true) ∧ Hid (Below w.heap.size w wj)) (fun v7 _ => y1.length - (intOf v7).toNat)
          case atStart => exact ⟨0, Nat.zero_le _, rfl, by show _ = _; simp [allB, withS], HBk⟩
          case round =>
            obtain ⟨j, hj, rfl, HAj, HBj⟩ := hrel
            rename World => wj
            have e2' := CE.out wj HBj.out
            have e1' := CF.out wj HBj.out
            by_cases hlj : j < y1.length
            · obtain ⟨at1, capt, cst, et, -, -, hrowt, hkt⟩ := ty.tys_open G1.out
              cases et
              obtain ⟨b4, o4, rfl, hS4, hc4⟩ := hrowt j hlj
              have hrep := hkt j hlj
              obtain ⟨v0, v1, v2, v3, hcs, d0, d1, d2, d3⟩ := ty.ty_cells hrep hc4
              have t0 := (HBj.out.cell (p := ⟨b4, o4 + j * 4, none⟩) hS4).trans d0
              have t1 := (HBj.out.cell (p := ⟨b4, o4 + j * 4 + 1, none⟩) hS4).trans d1
              have t2 := (HBj.out.cell (p := ⟨b4, o4 + j * 4 + 2, none⟩) hS4).trans d2
              have t3 := (HBj.out.cell (p := ⟨b4, o4 + j * 4 + 3, none⟩) hS4).trans d3
              rw [hcs] at hrep
              clear d0 d1 d2 d3 hc4 hcs hrowt hkt
              have hR := ty.tySh.mono (ty.tySh.below hrep HBj.out) (S' := (· < wj.heap.size)) (fun b hb => Nat.lt_of_lt_of_le hb HBj.out.size)
              have hcall := names_any ks many y1[j] [v0, v1, v2, v3] wj _ (by have := ty.wt_mem (List.getElem_mem hlj); omega) (SL.out _ HBj.out) hR
              clear hR hrep
              by_cases hok : (withT y1[j]).all (okN ks many) = true
              · have HA2 : Hid (allB ks many (y1.take (j + 1)) = true) := by show _ = _; rw [allB_take hlj, HAj.out, hok]; rfl
                rw [hok] at hcall
                clear hok
                go_wp2_with fail
                refine hcall.mono ?_
                clear hcall
                rintro e w1 ⟨rfl, hb⟩
                have B1 : Hid (Below w.heap.size w w1) := HBj.out.trans (hb.mono HBj.out.size)
                clear hb HBj e2' e1' t0 t1 t2 t3
                go_wp2
                go_round
                case rel => exact ⟨j + 1, by omega, by go_num, HA2, B1⟩
                case measure => simp [intOf]; omega
              · have hok' : (withT y1[j]).all (okN ks many) = false := by simpa using hok
                have hq2 : Hid (q = false) := by
                  obtain ⟨hk, hy⟩ := HN.out
                  show _ = _
                  rw [HQ.out, aheadB_no hlt hk (by rw [hy]; exact allB_no hlj hok')]
                rw [hok'] at hcall
                clear hok hok'
                go_wp2_with fail
                refine hcall.mono ?_
                clear hcall
                rintro e w1 ⟨rfl, hb⟩
                have B1 : Hid (Below w.heap.size w w1) := HBj.out.trans (hb.mono HBj.out.size)
                clear hb HBj e2' e1' t0 t1 t2 t3
                go_wp2
                go_ret
                exact ⟨ret_boolD hq2.out.symm, B1.out⟩
            · obtain rfl : j = y1.length := by omega
              have HA2 : Hid (aheadB ks many i (k + 1) = true) := by
                obtain ⟨hk, hy⟩ := HN.out
                have := HAj.out
                rw [List.take_length] at this
                show _ = _
                rw [aheadB_step hlt hk, HAk.out, hy, this]; rfl
              go_wp2
              go_round
              case rel => exact ⟨k + 1, by omega, by go_num, HA2, HBj⟩
              case measure => simp [intOf]; omega
        · obtain rfl : k = x2.length := by omega
          have HA2 : Hid (aheadB ks many (i + 1) 0 = true) := by show _ = _; rw [aheadB_next hlt, HT.out]; exact HAk.out
          go_wp2
          go_round
          case rel => exact ⟨i + 1, by omega, by go_num, HA2, HBk⟩
          case measure => simp [intOf]; omega
    · obtain rfl : i = ks.length := by omega
      have hq2 : Hid (q = true) := by show _ = _; rw [HQ.out, ← aheadB_end]; exact HA.out
      go_wp2
      go_ret
      exact ⟨ret_boolD hq2.out.symm, HB.out⟩

theorem check_names {ks : List DataD} {i : Nat} (hi : i < ks.length) {j : Nat} (hj : j < i) (h : namedD ks[i].1 ks[j] = true) : checkB ks = 1 := by
  have : ¬ namesOk ks := fun hn => by
    unfold namesOk at hn
    rw [List.nodup_iff_pairwise_ne, List.pairwise_iff_getElem] at hn
    have := hn j i (by simp; omega) (by simpa using hi) hj
    simp only [List.getElem_map] at this
    exact this (by simpa [namedD] using h)
  unfold checkB
  rw [decide_eq_false this]; rfl
theorem check_cons {ks : List DataD} {i k : Nat} (hi : i < ks.length) (hk : k < ks[i].2.2.length) (h : ∃ y ∈ ahead ks i k, named ks[i].2.2[k].1 y = true) : checkB ks = 1 := by
  have : ¬ consOk (spots 0 0 ks) := fun hn => by
    have h1 := consOk_pre (ahead_prefix hi (show k + 1 ≤ ks[i].2.2.length from hk)) hn
    rw [ahead_step hi hk, consOk_snoc] at h1
    obtain ⟨y, hy, hyn⟩ := h
    have := h1.2 y hy
    rw [hyn] at this
    cases this
  unfold checkB
  rw [decide_eq_false this]; simp
theorem check_both {ks : List DataD} (h1 : namesOk ks) (h2 : consOk (spots 0 0 ks)) : checkB ks = if !(typesL ks).all (okN ks false) then 2 else if !((typesL ks).all (okN ks true) && decide (total ks ≤ 60)) then 3 else 0 := by
  unfold checkB
  rw [decide_eq_true h1, decide_eq_true h2]; rfl

theorem ret_intD {a b : Int} (h : a = b) : Ending.returned (.int .i64 a) = Ending.returned (.int .i64 b) := by rw [h]

set_option maxRecDepth 100000 in
set_option maxHeartbeats 4000000 in
theorem specCheckDatas (ks : List DataD) (v : Value) (w : World) (hw : ks.length + wts ks ≤ 1048576) (h : dataSh.slice.rep w (· < w.heap.size) [v] ks) :
    Calls Try.prog 32 #[v] w fun e w' => e = .returned (.int .i64 (checkB ks)) ∧ Below w.heap.size w w' := by
  have SL : Hid (∀ w' : World, Below w.heap.size w w' → dataSh.slice.rep w' (· < w'.heap.size) [v] ks) := fun w' hb => dataSh.slice.mono (dataSh.slice.below h hb) fun b hlt => Nat.lt_of_lt_of_le hlt hb.size
  obtain ⟨a, cap, css, rfl, hcap, hmax, hrow, hk⟩ := datas_open h
  clear h hcap hmax
  have HR : Hid (RowAt w (· < w.heap.size) 3 a ks.length css ∧ ∀ i (h : i < ks.length), dataSh.rep w (· < w.heap.size) (css i) ks[i]) := ⟨hrow, hk⟩
  have HTL : Hid (∀ i, total (ks.take i) ≤ 1048576) := fun i => by have := total_take_le ks i; have := total_le ks; omega
  have HW : Hid (ks.length + wts ks ≤ 1048576) := hw
  clear hrow hk
  obtain ⟨q, hq⟩ : ∃ q, q = checkB ks := ⟨_, rfl⟩
  have HQ : Hid (q = checkB ks) := hq
  rw [← hq]
  clear hq
  go_enter Try.func32, Try.ntmps32
  go_wp2
  go_loopw [3, 4] (fun v3 v4 wr => ∃ i n : Nat, i ≤ ks.length ∧ v4 = .int .i64 i ∧ v3 = .int .i64 (n : Nat) ∧ n ≤ 1048576 ∧ Hid (n = total (ks.take i)) ∧ Hid (namesOk (ks.take i)) ∧ Hid (consOk (ahead ks i 0)) ∧ Hid (Below w.heap.size w wr)) (fun _ v4 _ => ks.length - (intOf v4).toNat)
  case atStart => exact ⟨0, 0, Nat.zero_le _, rfl, rfl, by omega, by show _ = _; simp [total], by show namesOk _; simp [namesOk], by show consOk _; simp [consOk, ahead_start], Below.refl _ _⟩
  case round =>
    obtain ⟨i, n, hi, rfl, rfl, hn, HN, HA, HC, HB⟩ := hrel
    rename World => wo
    by_cases hlt : i < ks.length
    · obtain ⟨b, o, rfl, hS, hc⟩ := HR.out.1 i hlt
      obtain ⟨x0, x1, x2, a2, c2, hT, hcs, f0, f1, f2⟩ := data_open (HR.out.2 i hlt)
      rw [hcs] at hc
      have CE : Hid (∀ wk : World, Below w.heap.size w wk → wk.cell? ⟨b, o + i * 3 + 2, none⟩ = some (.slice a2 x2.length c2)) := fun wk hb => (hb.cell (p := ⟨b, o + i * 3 + 2, none⟩) hS).trans (hc 2 _ rfl)
      have e0 := (HB.out.cell (p := ⟨b, o + i * 3, none⟩) hS).trans (hc 0 _ rfl)
      have hx2 : x2.length ≤ 1048576 := by
        have := wts_con hlt
        rw [hT] at this
        simp at this
        omega
      have HT : Hid (ks[i].1 = x0 ∧ ks[i].2.2 = x2) := by show _ ∧ _; rw [hT]; exact ⟨rfl, rfl⟩
      have HTK : Hid (total (ks.take (i + 1)) = n + x2.length) := by show _ = _; rw [total_take hlt, HT.out.2, HN.out]
      have F2 : Hid _ := f2
      clear f2 hcs hc hT
      go_wp2_with fail
      refine (dataAt_any ks _ x0 _ (SL.out _ HB.out)).mono ?_
      rintro e w1 ⟨r, rfl, hF, hb⟩
      have B1 : Hid (Below w.heap.size w w1) := HB.out.trans (hb.mono HB.out.size)
      clear hb e0
      by_cases hri : r = (i : Nat)
      · have HA2 : Hid (namesOk (ks.take (i + 1))) := by
          show namesOk _
          rw [List.take_succ_eq_append_getElem hlt, namesOk_snoc]
          refine ⟨HA.out, fun d hd => ?_⟩
          obtain ⟨j, hj, rfl⟩ := List.getElem_of_mem hd
          rw [List.length_take] at hj
          rw [List.getElem_take, HT.out.1]
          rcases hF with ⟨k, hk, h1, h2, h3⟩ | ⟨h1, _⟩
          · exact h3 j (by omega)
          · omega
        clear hF
        subst hri
        go_wp2
        go_loopw [3, 5] (fun v3 v5 wi => ∃ k m : Nat, k ≤ x2.length ∧ v5 = .int .i64 k ∧ v3 = .int .i64 (m : Nat) ∧ m ≤ 1048576 * 2 ∧ Hid (m = n + k) ∧ Hid (consOk (ahead ks i k)) ∧ Hid (Below w.heap.size w wi)) (fun _ v5 _ => x2.length - (intOf v5).toNat)
        case atStart => exact ⟨0, n, Nat.zero_le _, rfl, rfl, by omega, rfl, HC, B1⟩
        case round =>
          obtain ⟨k, m, hk, rfl, rfl, hm, HM, HCk, HBk⟩ := hrel
          rename World => wi
          have e2 := CE.out wi HBk.out
          by_cases hlk : k < x2.length
          · obtain ⟨a1, cap1, cs1, ea, -, -, hrow, hkk⟩ := con.cons_open F2.out
            cases ea
            obtain ⟨b2, o2, rfl, hS2, hc⟩ := hrow k hlk
            obtain ⟨y0, y1, a3, c3, hT, hcs, g0, g1⟩ := con.con_open (hkk k hlk)
            rw [hcs] at hc
            have e3 := (HBk.out.cell (p := ⟨b2, o2 + k * 2, none⟩) hS2).trans (hc 0 _ rfl)
            have HY : Hid (∃ hk : k < ks[i].2.2.length, ks[i].2.2[k].1 = y0) := by
              refine ⟨by rw [HT.out.2]; exact hlk, ?_⟩
              simp only [HT.out.2]
              rw [hT]
            clear hcs hc hT hrow hkk g1
            have hcall := specConOf ks _ y0 wi HW.out (SL.out _ HBk.out)
            by_cases hex : ∃ y ∈ ahead ks i k, named y0 y = true
            · have hq2 : Hid (q = 1) := by
                obtain ⟨hk, hy⟩ := HY.out
                show _ = _
                rw [HQ.out, check_cons hlt hk (by rw [hy]; exact hex)]
              have hpf : ¬ ((placeB ks y0).2.1 = (i : Int) ∧ (placeB ks y0).2.2 = (k : Int)) := by
                obtain ⟨hk, hy⟩ := HY.out
                exact place_first hlt hk hex
              clear hex
              generalize (placeB ks y0).2.1 = p1 at hcall hpf
              generalize (placeB ks y0).2.2 = p2 at hcall hpf
              go_wp2_with fail
              refine hcall.mono ?_
              clear hcall
              rintro e w2 ⟨rfl, hb⟩
              have B2 : Hid (Below w.heap.size w w2) := HBk.out.trans (hb.mono HBk.out.size)
              clear hb e2 e3
              by_cases h1 : p1 = (i : Nat)
              · have h2 : ¬ p2 = (k : Nat) := fun e => hpf ⟨h1, e⟩
                subst h1
                have h2' : (p2 == ((k : Nat) : Int)) = false := by simpa using h2
                clear hpf
                go_wp2
                go_ret
                exact ⟨ret_intD hq2.out.symm, B2.out⟩
              · have h1' : (p1 == ((i : Nat) : Int)) = false := by simpa using h1
                clear hpf
                go_wp2
                go_ret
                exact ⟨ret_intD hq2.out.symm, B2.out⟩
            · have hno : NoneYet ks y0 i k := fun y hy => by
                cases hq : named y0 y
                · rfl
                · exact absurd ⟨y, hy, hq⟩ hex
              have hpl : placeB ks y0 = (((total (ks.take i) + k : Nat) : Int), (i : Int), (k : Int)) := by
                obtain ⟨hk, hy⟩ := HY.out
                exact yet_found hno hlt hk (by rw [hy]; simp)
              have HC2 : Hid (consOk (ahead ks i (k + 1))) := by
                obtain ⟨hk, hy⟩ := HY.out
                show consOk _
                rw [ahead_step hlt hk, consOk_snoc]
                refine ⟨HCk.out, fun y h => ?_⟩
                simp only [hy]
                exact hno y h
              rw [hpl] at hcall
              clear hex hno hpl
              simp only [] at hcall
              go_wp2_with fail
              refine hcall.mono ?_
              clear hcall
              rintro e w2 ⟨rfl, hb⟩
              have B2 : Hid (Below w.heap.size w w2) := HBk.out.trans (hb.mono HBk.out.size)
              clear hb e2 e3
              go_wp2
              go_round
              case rel => exact ⟨k + 1, m + 1, by omega, by go_num, by go_num, by have := HM.out; omega, by show _ = _; have := HM.out; omega, HC2, B2⟩
              case measure => simp [intOf]; omega
          · obtain rfl : k = x2.length := by omega
            have HC2 : Hid (consOk (ahead ks (i + 1) 0)) := by
              show consOk _
              rw [← ahead_next hlt, HT.out.2]; exact HCk.out
            go_wp2
            go_round
            case rel => exact ⟨i + 1, m, by omega, by go_num, rfl, by rw [HM.out, ← HTK.out]; exact HTL.out _, by show _ = _; rw [HM.out, HTK.out], HA2, HC2, HBk⟩
            case measure => simp [intOf]; omega
      · have hq2 : Hid (q = 1) := by
          show _ = _
          rw [HQ.out]
          rcases hF with ⟨k, hk, h1, h2, h3⟩ | ⟨_, h1⟩
          · have hki : k < i := by
              rcases Nat.lt_trichotomy k i with h | h | h
              · exact h
              · exact absurd (by rw [h1, h]) hri
              · have := h3 i h
                rw [show namedD x0 ks[i] = true by simp [namedD, HT.out.1]] at this
                cases this
            exact check_names hlt hki (by rw [HT.out.1]; exact h2)
          · have := h1 ks[i] (List.getElem_mem hlt)
            rw [show namedD x0 ks[i] = true by simp [namedD, HT.out.1]] at this
            cases this
        clear hF
        have hri' : (r == ((i : Nat) : Int)) = false := by simpa using hri
        go_wp2
        go_ret
        exact ⟨ret_intD hq2.out.symm, B1.out⟩
    · obtain rfl : i = ks.length := by omega
      have HN2 : Hid (n = total ks) := by have := HN.out; rw [List.take_length] at this; exact this
      have HQ2 : Hid (q = if !(typesL ks).all (okN ks false) then 2 else if !((typesL ks).all (okN ks true) && decide (total ks ≤ 60)) then 3 else 0) := by
        have h1 := HA.out
        have h2 := HC.out
        rw [List.take_length] at h1
        rw [ahead_end] at h2
        show _ = _
        rw [HQ.out, check_both h1 h2]
      clear HA HC HN
      have A1 : Hid (∀ w' : World, Below w.heap.size w w' → ∀ many, Calls Try.prog 62 #[.slice a ks.length cap, .bool many] w' fun e w'' => e = .returned (.bool ((typesL ks).all (okN ks many))) ∧ Below w'.heap.size w' w'') := fun w' hb many => all_any ks _ many w' HW.out (SL.out w' hb)
      have c1 := A1.out _ HB.out false
      cases h1 : (typesL ks).all (okN ks false)
      · rw [h1] at c1
        have hq2 : Hid (q = 2) := by show _ = _; rw [HQ2.out, h1]; rfl
        clear h1
        go_wp2_with fail
        refine c1.mono ?_
        rintro e w2 ⟨rfl, hb⟩
        have B2 : Hid (Below w.heap.size w w2) := HB.out.trans (hb.mono HB.out.size)
        clear hb c1
        go_wp2
        go_ret
        exact ⟨ret_intD hq2.out.symm, B2.out⟩
      · rw [h1] at c1
        have HQ3 : Hid (q = if !((typesL ks).all (okN ks true) && decide (total ks ≤ 60)) then 3 else 0) := by show _ = _; rw [HQ2.out, h1]; rfl
        clear h1
        go_wp2_with fail
        refine c1.mono ?_
        rintro e w2 ⟨rfl, hb⟩
        have B2 : Hid (Below w.heap.size w w2) := HB.out.trans (hb.mono HB.out.size)
        clear hb c1
        have c2 := A1.out _ B2.out true
        cases h2 : (typesL ks).all (okN ks true)
        · rw [h2] at c2
          have hq2 : Hid (q = 3) := by show _ = _; rw [HQ3.out, h2]; rfl
          clear h2
          go_wp2_with fail
          refine c2.mono ?_
          rintro e w3 ⟨rfl, hb⟩
          have B3 : Hid (Below w.heap.size w w3) := B2.out.trans (hb.mono B2.out.size)
          clear hb c2
          go_wp2
          go_ret
          exact ⟨ret_intD hq2.out.symm, B3.out⟩
        · rw [h2] at c2
          by_cases h60 : n ≤ 60
          · have hq2 : Hid (q = 0) := by show _ = _; rw [HQ3.out, h2, ← HN2.out, decide_eq_true h60]; rfl
            have h61 : ¬ (60 : Int) < (n : Nat) := by omega
            clear h2
            go_wp2_with fail
            refine c2.mono ?_
            rintro e w3 ⟨rfl, hb⟩
            have B3 : Hid (Below w.heap.size w w3) := B2.out.trans (hb.mono B2.out.size)
            clear hb c2
            go_wp2
            go_ret
            exact ⟨ret_intD hq2.out.symm, B3.out⟩
          · have hq2 : Hid (q = 3) := by show _ = _; rw [HQ3.out, h2, ← HN2.out, decide_eq_false h60]; rfl
            have h61 : (60 : Int) < (n : Nat) := by omega
            clear h2
            go_wp2_with fail
            refine c2.mono ?_
            rintro e w3 ⟨rfl, hb⟩
            have B3 : Hid (Below w.heap.size w w3) := B2.out.trans (hb.mono B2.out.size)
            clear hb c2
            go_wp2
            go_ret
            exact ⟨ret_intD hq2.out.symm, B3.out⟩

end Go.Proofs.Ytfekbchmgnpkaaa.data
