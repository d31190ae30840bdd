/-
  The program's test of a data (tidyData): tidy or not; nothing that was there is turned.
-/
import Derived.Test.YtkojogfljnnfhabProgTidyDefs
namespace Go.Proofs.Ytkojogfljnnfhab.prog
open Go.RowKit Go.Proofs.Ytkojogfljnnfhab.rose Go.Proofs.Ytkojogfljnnfhab words4
set_option linter.unusedVariables false
set_option linter.unusedSimpArgs false

set_option maxHeartbeats 2000000 in
theorem data_any (D : data.DataD) (cs : List Value) (w : World) (hw : data.wt D ≤ 1048576) (h : data.dataSh.rep w (· < w.heap.size) cs D) :
    Calls Try.prog 22 #[.agg cs.toArray] w fun e w' => e = .returned (.bool (dataOkB D)) ∧ Below w.heap.size w w' := by
  obtain ⟨nm, vars, cons, a, cap, rfl, rfl, f0, f1, hk⟩ := data.data_open h
  clear h
  obtain ⟨a1, cap1, css, e, hcap, hmax, hrow, hk2⟩ := con.cons_open hk
  cases e
  have hws : con.wts cons ≤ 1048576 ∧ cons.length ≤ 1048576 := by simp [data.wt] at hw; omega
  obtain ⟨hws, hkl⟩ := hws
  have HR : Hid (RowAt w (· < w.heap.size) 2 a cons.length css ∧ ∀ i (h : i < cons.length), con.conSh.rep w (· < w.heap.size) (css i) cons[i]) := ⟨hrow, hk2⟩
  obtain ⟨q, hq0⟩ : ∃ q, q = dataOkB (nm, vars, cons) := ⟨_, rfl⟩
  have HO : Hid (q = (conB nm && (decide (0 ≤ vars) && (decide (vars ≤ 26) && (!((cons.length : Int) == 0) && cons.all (conOkB vars)))))) := hq0
  rw [← hq0]
  clear hq0 hrow hk2 hk hcap hmax hw
  have FN : Hid (nm.size ≤ maxLen) := f0
  clear f0 f1
  go_enter Try.func22, Try.ntmps22
  go_wp2_with fail
  refine (implCon nm FN.out _).mono ?_
  rintro e w1 ⟨rfl, hb⟩
  have B1 : Hid (Below w.heap.size w w1) := ((Below.refl _ _).alloc (Nat.le_refl _) _).trans (hb.mono (by simp))
  have Z1 : Hid (w.heap.size < w1.heap.size) := Nat.lt_of_lt_of_le (by simp) hb.size
  have b1 : w1.cell? ⟨w.heap.size, 1, none⟩ = some (.int .i64 vars) := (hb.cell (p := ⟨w.heap.size, 1, none⟩) (by simp)).trans (by simp)
  have b2 : w1.cell? ⟨w.heap.size, 2, none⟩ = some (.slice a cons.length cap) := (hb.cell (p := ⟨w.heap.size, 2, none⟩) (by simp)).trans (by simp)
  clear hb
  by_cases hnm : conB nm = true
  · rw [hnm] at HO
    rw [hnm]
    by_cases v0 : vars < 0
    · have hq : Hid (q = false) := by show _ = _; rw [HO.out, decide_eq_false (show ¬ 0 ≤ vars by omega)]; rfl
      go_wp2
      go_ret
      exact ⟨ret_bool hq.out.symm, B1.out⟩
    · by_cases v26 : 26 < vars
      · have hq : Hid (q = false) := by show _ = _; rw [HO.out, decide_eq_false (show ¬ vars ≤ 26 by omega)]; simp
        go_wp2
        go_ret
        exact ⟨ret_bool hq.out.symm, B1.out⟩
      · by_cases hl : (cons.length : Int) = 0
        · have hl' : ((cons.length : Int) == 0) = true := by simp [hl]
          have hq : Hid (q = false) := by show _ = _; rw [HO.out, hl']; simp
          go_wp2
          go_ret
          exact ⟨ret_bool hq.out.symm, B1.out⟩
        · have hl' : ((cons.length : Int) == 0) = false := by simpa using hl
          have HO2 : Hid (q = cons.all (conOkB vars)) := by show _ = _; rw [HO.out, hl', decide_eq_true (show 0 ≤ vars by omega), decide_eq_true (show vars ≤ 26 by omega)]; simp
          clear HO hl hnm
          go_wp2
          have C1 : Hid (w1.cell? ⟨w.heap.size, 1, none⟩ = some (.int .i64 vars)) := b1
          clear b1 b2
          go_loopw [30] (fun v30 wr => ∃ i : Nat, i ≤ cons.length ∧ v30 = .int .i64 i ∧ Hid ((cons.take i).all (conOkB vars) = true) ∧ Hid (Below w.heap.size w wr) ∧ Hid (Below w1.heap.size w1 wr)) (fun v30 _ => cons.length - (intOf v30).toNat)
          case atStart => exact ⟨0, Nat.zero_le _, rfl, by show _ = _; simp, B1, Below.refl _ _⟩
          case round =>
            obtain ⟨i, hi, rfl, HA, HB, HB1⟩ := hrel
            by_cases hlt : i < cons.length
            · obtain ⟨b, o, rfl, hS, hc⟩ := HR.out.1 i hlt
              have hrep := HR.out.2 i hlt
              obtain ⟨cn, args, ak, capk, hT', hcs, g0, hka⟩ := con.con_open hrep
              rw [hcs] at hc
              have e0 := (HB.out.cell (p := ⟨b, o + i * 2, none⟩) hS).trans (hc 0 _ rfl)
              have e1 := (HB.out.cell (p := ⟨b, o + i * 2 + 1, none⟩) hS).trans (hc 1 _ rfl)
              have hwi : con.wt cons[i] ≤ 1048576 := by have := con.wt_mem (List.getElem_mem hlt); omega
              have hwa : ty.wts args ≤ 1048576 ∧ args.length ≤ 1048576 := by rw [hT'] at hwi; simp [con.wt] at hwi; omega
              obtain ⟨hwa, hla⟩ := hwa
              have HU : Hid (conOkB vars cons[i] = (conB cn && args.all (ty.tidyL vars 24))) := by show _ = _; rw [hT']; rfl
              obtain ⟨a2, cap2, cssk, ek, -, -, hrowk, hkk⟩ := ty.tys_open hka
              cases ek
              have HK : Hid (RowAt w (· < w.heap.size) 4 ak args.length cssk ∧ ∀ i (h : i < args.length), ty.tySh.rep w (· < w.heap.size) (cssk i) args[i]) := ⟨hrowk, hkk⟩
              have OUT : Hid (conOkB vars cons[i] = false → q = false) := fun h => by rw [HO2.out, all_no hlt h]
              have GN : Hid (cn.size ≤ maxLen) := g0
              have BK : Hid (Below w.heap.size w (wr.alloc (.cells #[.string cn, .slice ak args.length capk] 52))) := HB.out.alloc HB.out.size _
              have BK1 : Hid (Below w1.heap.size w1 (wr.alloc (.cells #[.string cn, .slice ak args.length capk] 52))) := HB1.out.alloc HB1.out.size _
              clear hT' hcs g0 hka hrowk hkk hc hrep hwi HB HB1
              go_wp2_with fail
              refine (implCon cn GN.out _).mono ?_
              rintro e w2 ⟨rfl, hb⟩
              have B2 : Hid (Below w.heap.size w w2) := BK.out.trans (hb.mono BK.out.size)
              have B21 : Hid (Below w1.heap.size w1 w2) := BK1.out.trans (hb.mono BK1.out.size)
              have k1 : w2.cell? ⟨wr.heap.size, 1, none⟩ = some (.slice ak args.length capk) := (hb.cell (p := ⟨wr.heap.size, 1, none⟩) (by simp)).trans (by simp)
              clear hb e0 e1 BK BK1
              by_cases hcn : conB cn = true
              · rw [hcn]
                have HU2 : Hid (conOkB vars cons[i] = args.all (ty.tidyL vars 24)) := by show _ = _; rw [HU.out, hcn]; rfl
                clear HU hcn
                go_wp2
                clear k1
                go_loopw [41] (fun v41 wi => ∃ j : Nat, j ≤ args.length ∧ v41 = .int .i64 j ∧ Hid ((args.take j).all (ty.tidyL vars 24) = true) ∧ Hid (Below w.heap.size w wi) ∧ Hid (Below w1.heap.size w1 wi)) (fun v41 _ => args.length - (intOf v41).toNat)
                case atStart => exact ⟨0, Nat.zero_le _, rfl, by show _ = _; simp, B2, B21⟩
                case round =>
                  obtain ⟨j, hj, rfl, HAj, HBj, HBj1⟩ := hrel
                  rename World => wi
                  by_cases hlj : j < args.length
                  · obtain ⟨bj, oj, rfl, hSj, hcj⟩ := HK.out.1 j hlj
                    have hrepj := HK.out.2 j hlj
                    obtain ⟨op', n', s', ks', a', cap', hTj, hcsj, -, -, -, -⟩ := ty.ty_open hrepj
                    rw [hcsj] at hcj hrepj
                    have e0 := (HBj.out.cell (p := ⟨bj, oj + j * 4, none⟩) hSj).trans (hcj 0 _ rfl)
                    have e1 := (HBj.out.cell (p := ⟨bj, oj + j * 4 + 1, none⟩) hSj).trans (hcj 1 _ rfl)
                    have e2 := (HBj.out.cell (p := ⟨bj, oj + j * 4 + 2, none⟩) hSj).trans (hcj 2 _ rfl)
                    have e3 := (HBj.out.cell (p := ⟨bj, oj + j * 4 + 3, none⟩) hSj).trans (hcj 3 _ rfl)
                    have hwj : ty.wt args[j] ≤ 1048576 := by have := ty.wt_mem (List.getElem_mem hlj); omega
                    have BT : Hid (Below w.heap.size w (wi.alloc (.cells #[.int .i64 op', .int .i64 n', .string s', .slice a' ks'.length cap'] 55))) := HBj.out.alloc HBj.out.size _
                    have BT1 : Hid (Below w1.heap.size w1 (wi.alloc (.cells #[.int .i64 op', .int .i64 n', .string s', .slice a' ks'.length cap'] 55))) := HBj1.out.alloc HBj1.out.size _
                    have c1 : (wi.alloc (.cells #[.int .i64 op', .int .i64 n', .string s', .slice a' ks'.length cap'] 55)).cell? ⟨w.heap.size, 1, none⟩ = some (.int .i64 vars) := (BT1.out.cell (p := ⟨w.heap.size, 1, none⟩) Z1.out).trans C1.out
                    have hcall := ty.tidy_any 24 (by decide) args[j] _ _ vars 24 rfl hwj (ty.tySh.mono (ty.tySh.below hrepj BT.out) fun b hb => Nat.lt_of_lt_of_le hb BT.out.size)
                    clear hTj hcsj hcj hrepj hwj HBj HBj1
                    by_cases hok : ty.tidyL vars 24 args[j] = true
                    · have hA2 : Hid ((args.take (j + 1)).all (ty.tidyL vars 24) = true) := by show _ = _; rw [all_take hlj, HAj.out, hok]; rfl
                      rw [hok] at hcall
                      clear hok HAj
                      go_wp2_with fail
                      refine hcall.mono ?_
                      clear hcall
                      rintro e w3 ⟨rfl, hb⟩
                      have B3 : Hid (Below w.heap.size w w3) := BT.out.trans (hb.mono BT.out.size)
                      have B31 : Hid (Below w1.heap.size w1 w3) := BT1.out.trans (hb.mono BT1.out.size)
                      clear hb BT BT1 e0 e1 e2 e3 c1
                      go_wp2
                      go_round
                      case rel => exact ⟨j + 1, by omega, by go_num, hA2, B3, B31⟩
                      case measure => simp [intOf]; omega
                    · have hok' : ty.tidyL vars 24 args[j] = false := by simpa using hok
                      have hq : Hid (q = false) := OUT.out (by rw [HU2.out, all_no hlj hok'])
                      rw [hok'] at hcall
                      clear hok hok' HAj
                      go_wp2_with fail
                      refine hcall.mono ?_
                      clear hcall
                      rintro e w3 ⟨rfl, hb⟩
                      have B3 : Hid (Below w.heap.size w w3) := BT.out.trans (hb.mono BT.out.size)
                      clear hb BT BT1 e0 e1 e2 e3 c1
                      go_wp2
                      go_ret
                      exact ⟨ret_bool hq.out.symm, B3.out⟩
                  · obtain rfl : j = args.length := by omega
                    have hA2 : Hid ((cons.take (i + 1)).all (conOkB vars) = true) := by
                      have := HAj.out
                      rw [List.take_length] at this
                      show _ = _; rw [all_take hlt, HA.out, HU2.out, this]; rfl
                    clear HAj HA
                    go_wp2
                    go_round
                    case rel => exact ⟨i + 1, by omega, by go_num, hA2, HBj, HBj1⟩
                    case measure => simp [intOf]; omega
              · have hcn' : conB cn = false := by simpa using hcn
                rw [hcn']
                have hq : Hid (q = false) := OUT.out (by rw [HU.out, hcn']; rfl)
                go_wp2
                go_ret
                exact ⟨ret_bool hq.out.symm, B2.out⟩
            · obtain rfl : i = cons.length := by omega
              have hq : Hid (q = true) := by
                have := HA.out
                rw [List.take_length] at this
                show _ = _; rw [HO2.out, this]
              go_wp2
              go_ret
              exact ⟨ret_bool hq.out.symm, HB.out⟩
  · have hnm' : conB nm = false := by simpa using hnm
    rw [hnm']
    have hq : Hid (q = false) := by show _ = _; rw [HO.out, hnm']; rfl
    go_wp2
    go_ret
    exact ⟨ret_bool hq.out.symm, B1.out⟩

end Go.Proofs.Ytkojogfljnnfhab.prog
