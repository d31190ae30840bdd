/-
  The model's Tidy, at every program: tidy or not; nothing that was there is turned.
  The model's Parse at any text: a program in new memory, of a bounded weight; and the datas that its laws draw with.
  The datas that the model's laws draw with (l9DrawDatas): some, in new memory, of a bounded weight; nothing that was there is turned.
-/
import Derived.Deep.RegionWith
import Derived.Test.YtlnpfnglphdaiaaGreatDoorB1
import Derived.Test.YtlnpfnglphdaiaaGreatDoorB2
import Derived.Test.YtlnpfnglphdaiaaGreatDoorB3
import Derived.Test.YtlnpfnglphdaiaaGreatDoorB4
import Derived.Test.YtlnpfnglphdaiaaGreatDoorB5
import Derived.Test.YtlnpfnglphdaiaaGreatDoorB6
import Derived.Test.YtlnpfnglphdaiaaGreatDoorB7
import Derived.Test.YtlnpfnglphdaiaaGreatDoorB8
import Derived.Test.YtlnpfnglphdaiaaGreatDoorB9
import Derived.Test.YtlnpfnglphdaiaaGreatDoorB10
import Derived.Test.YtlnpfnglphdaiaaGreatDoorB11
import Derived.Test.YtlnpfnglphdaiaaGreatDoorB12
import Derived.Test.YtlnpfnglphdaiaaGreatDoorB13
import Derived.Test.YtlnpfnglphdaiaaGreatDoorB14
import Derived.Test.YtlnpfnglphdaiaaGreatDoorB15
import Derived.Test.YtlnpfnglphdaiaaGreatDoorB16
import Derived.Test.YtlnpfnglphdaiaaGreatDoorB17
import Derived.Test.YtlnpfnglphdaiaaGreatDoorB18
import Derived.Test.YtlnpfnglphdaiaaGreatDoorB19
import Derived.Test.YtlnpfnglphdaiaaGreatDoorB20
import Derived.Test.YtlnpfnglphdaiaaGreatDoorB21
import Derived.Test.YtlnpfnglphdaiaaGreatDoorB22
import Derived.Test.YtlnpfnglphdaiaaGreatDoorB23
import Derived.Test.YtlnpfnglphdaiaaGreatDoorB24
import Derived.Test.YtlnpfnglphdaiaaGreatDoorB25
import Derived.Test.YtlnpfnglphdaiaaGreatDoorB26
import Derived.Test.YtlnpfnglphdaiaaGreatDoorB27
import Derived.Test.YtlnpfnglphdaiaaGreatDoorB28
import Derived.Test.YtlnpfnglphdaiaaGreatDoorB29
import Derived.Test.YtlnpfnglphdaiaaGreatDoorB30
import Derived.Test.YtlnpfnglphdaiaaGreatDoorB31
namespace Go.Proofs.YtlnpfnglphdaiaaGreatDoor.prog
open Go.RowKit Go.Proofs.YtlnpfnglphdaiaaGreatDoor.rose Go.Proofs.YtlnpfnglphdaiaaGreatDoor words4
set_option linter.unusedVariables false
set_option linter.unusedSimpArgs false
set_option maxRecDepth 100000

set_option maxHeartbeats 40000000 in
theorem spec_any (p : ProgD) (cs : List Value) (w : World) (hw : wt p ≤ 1048576) (h : progSh.rep w (· < w.heap.size) cs p) :
    Calls Tryz.prog 48 #[.agg cs.toArray] w fun e w' => e = .returned (.bool (progOkB p)) ∧ Below w.heap.size w w' := by
  obtain ⟨ds, a, cap, T, y0, y1, y2, y3, y4, rfl, rfl, hk, hm⟩ := prog_open h
  have o0 := node.ndSh.one hm y0 (by simp)
  have o1 := node.ndSh.one hm y1 (by simp)
  have o2 := node.ndSh.one hm y2 (by simp)
  have o3 := node.ndSh.one hm y3 (by simp)
  have o4 := node.ndSh.one hm y4 (by simp)
  clear h
  obtain ⟨a1, cap1, css, e, hcap, hmax, hrow, hk2⟩ := data.datas_open hk
  cases e
  have hws : data.wts ds ≤ 1048576 ∧ ds.length ≤ 1048576 ∧ node.wt T ≤ 1048576 := by simp [wt] at hw; omega
  obtain ⟨hws, hkl, hwT⟩ := hws
  have HR : Hid (RowAt w (· < w.heap.size) 3 a ds.length css ∧ ∀ i (h : i < ds.length), data.dataSh.rep w (· < w.heap.size) (css i) ds[i]) := ⟨hrow, hk2⟩
  obtain ⟨q, hq0⟩ : ∃ q, q = progOkB (ds, T) := ⟨_, rfl⟩
  have HO : Hid (q = (ds.all dataOkB && node.tidyN 24 1 T)) := hq0
  rw [← hq0]
  clear hq0 hrow hk2 hk hcap hmax hw
  have KM : Hid (∀ wk : World, Below w.heap.size w wk → Calls Tryz.prog 71 #[.agg #[y0, y1, y2, y3, y4]] wk fun e w' => e = .returned (.int .i64 (node.dp T : Nat)) ∧ Below wk.heap.size wk w') := fun wk hb =>
    node.spec_any T _ wk hwT (node.ndSh.mono (node.ndSh.below hm hb) fun b hlt => Nat.lt_of_lt_of_le hlt hb.size)
  have KE : Hid (∀ wk : World, Below w.heap.size w wk → Calls Tryz.prog 72 #[.agg #[y0, y1, y2, y3, y4]] wk fun e w' => e = .returned (.bool (node.okN 1 T)) ∧ Below wk.heap.size wk w') := fun wk hb =>
    node.e_any (node.dp T) T (Nat.le_refl _) _ wk hwT (node.ndSh.mono (node.ndSh.below hm hb) fun b hlt => Nat.lt_of_lt_of_le hlt hb.size)
  clear hm hwT
  go_enter Tryz.func48, Tryz.ntmps48
  go_wp2
  have TT : Hid (∀ (j : Nat) v, [Value.slice a ds.length cap, y0, y1, y2, y3, y4][j]? = some v → (w.alloc (.cells #[.slice a ds.length cap, y0, y1, y2, y3, y4] 62)).cell? ⟨w.heap.size, j, none⟩ = some v) := by
    intro j v hj
    match j, hj with
    | 0, hj | 1, hj | 2, hj | 3, hj | 4, hj | 5, hj => simp at hj; subst hj; simp
    | _ + 6, hj => simp at hj
  have B0 : Hid (Below w.heap.size w (w.alloc (.cells #[.slice a ds.length cap, y0, y1, y2, y3, y4] 62))) := (Below.refl _ _).alloc (Nat.le_refl _) _
  have Z0 : Hid ((w.alloc (.cells #[.slice a ds.length cap, y0, y1, y2, y3, y4] 62)).heap.size = w.heap.size + 1) := by show _ = _; simp
  generalize w.alloc (.cells #[.slice a ds.length cap, y0, y1, y2, y3, y4] 62) = w0 at TT B0 Z0 ⊢
  have at0 : ∀ wk : World, Below w0.heap.size w0 wk → ∀ (j : Nat) v, [Value.slice a ds.length cap, y0, y1, y2, y3, y4][j]? = some v → wk.cell? ⟨w.heap.size, j, none⟩ = some v := fun wk hb j v hj => (hb.cell (p := ⟨w.heap.size, j, none⟩) (by simp [Z0.out])).trans (TT.out j v hj)
  have AT0 : Hid (∀ wk : World, Below w0.heap.size w0 wk → ∀ (j : Nat) v, [Value.slice a ds.length cap, y0, y1, y2, y3, y4][j]? = some v → wk.cell? ⟨w.heap.size, j, none⟩ = some v) := at0
  have W0 : Hid (∀ wk : World, Below w0.heap.size w0 wk → Below w.heap.size w wk) := fun wk hb => B0.out.trans (hb.mono (by rw [Z0.out]; omega))
  clear at0 TT
  go_loopw [3] (fun v3 wr => ∃ i : Nat, i ≤ ds.length ∧ v3 = .int .i64 i ∧ Hid ((ds.take i).all dataOkB = true) ∧ Hid (Below w0.heap.size w0 wr)) (fun v3 _ => ds.length - (intOf v3).toNat)
  case atStart => exact ⟨0, Nat.zero_le _, rfl, by show _ = _; simp, Below.refl _ _⟩
  case round =>
    obtain ⟨i, hi, rfl, HA, HB⟩ := hrel
    have p0 := AT0.out wr HB.out 0 _ rfl
    by_cases hlt : i < ds.length
    · obtain ⟨b, o, rfl, hS, hc⟩ := HR.out.1 i hlt
      have hrep := HR.out.2 i hlt
      obtain ⟨nm, vars, cons, ac, capc, hT', hcs, f0, f1, hka⟩ := data.data_open hrep
      rw [hcs] at hc
      have BW := W0.out wr HB.out
      have e0 := (BW.cell (p := ⟨b, o + i * 3, none⟩) hS).trans (hc 0 _ rfl)
      have e1 := (BW.cell (p := ⟨b, o + i * 3 + 1, none⟩) hS).trans (hc 1 _ rfl)
      have e2 := (BW.cell (p := ⟨b, o + i * 3 + 2, none⟩) hS).trans (hc 2 _ rfl)
      have hwi : data.wt ds[i] ≤ 1048576 := by have := data.wt_mem (List.getElem_mem hlt); omega
      have hwc : con.wts cons ≤ 1048576 ∧ cons.length ≤ 1048576 := by rw [hT'] at hwi; simp [data.wt] at hwi; omega
      obtain ⟨hwc, hlc⟩ := hwc
      obtain ⟨a2, cap2, cssc, ec, -, -, hrowc, hkc⟩ := con.cons_open hka
      cases ec
      have HC : Hid (RowAt w (· < w.heap.size) 2 ac cons.length cssc ∧ ∀ i (h : i < cons.length), con.conSh.rep w (· < w.heap.size) (cssc i) cons[i]) := ⟨hrowc, hkc⟩
      have OUT : Hid (dataOkB ds[i] = false → q = false) := fun h => by rw [HO.out, all_no hlt h]; rfl
      have HU : Hid (dataOkB ds[i] = (conB nm && (decide (0 ≤ vars) && (decide (vars ≤ 26) && (!((cons.length : Int) == 0) && cons.all (conOkB vars)))))) := by show _ = _; rw [hT']; rfl
      have FN : Hid (nm.size ≤ maxLen) := f0
      have BK0 : Hid (Below w0.heap.size w0 (wr.alloc (.cells #[.string nm, .int .i64 vars, .slice ac cons.length capc] 97))) := HB.out.alloc HB.out.size _
      clear hT' hcs hc hrep hwi HB BW hka hrowc hkc f0 f1
      go_wp2_with fail
      refine (specCon nm _ FN.out).mono ?_
      rintro e w2 ⟨rfl, hb⟩
      have B20 : Hid (Below w0.heap.size w0 w2) := BK0.out.trans (hb.mono BK0.out.size)
      have d1 : w2.cell? ⟨wr.heap.size, 1, none⟩ = some (.int .i64 vars) := (hb.cell (p := ⟨wr.heap.size, 1, none⟩) (by simp)).trans (by simp)
      have d2 : w2.cell? ⟨wr.heap.size, 2, none⟩ = some (.slice ac cons.length capc) := (hb.cell (p := ⟨wr.heap.size, 2, none⟩) (by simp)).trans (by simp)
      have z2 : wr.heap.size < w2.heap.size := Nat.lt_of_lt_of_le (by simp) hb.size
      clear hb BK0 e0 e1 e2 p0
      by_cases hnm : conB nm = true
      · rw [hnm] at HU
        rw [hnm]
        by_cases v0 : 0 ≤ vars
        · by_cases v26 : vars ≤ 26
          · by_cases hl : (cons.length : Int) = 0
            · have hl' : ((cons.length : Int) == 0) = true := by simp [hl]
              have hq : Hid (q = false) := OUT.out (by rw [HU.out, hl']; simp)
              go_wp2
              go_ret
              exact ⟨ret_bool hq.out.symm, W0.out _ B20.out⟩
            · have hl' : ((cons.length : Int) == 0) = false := by simpa using hl
              have HU2 : Hid (dataOkB ds[i] = cons.all (conOkB vars)) := by show _ = _; rw [HU.out, hl', decide_eq_true v0, decide_eq_true v26]; simp
              clear HU hl hnm
              go_wp2
              have D1 : Hid (w2.cell? ⟨wr.heap.size, 1, none⟩ = some (.int .i64 vars)) := d1
              have D2 : Hid (w2.cell? ⟨wr.heap.size, 2, none⟩ = some (.slice ac cons.length capc)) := d2
              have ZD : Hid (wr.heap.size < w2.heap.size) := z2
              clear d1 d2 z2
              generalize wr.heap.size = gd at D1 D2 ZD
              go_loopw [5] (fun v5 wc => ∃ k : Nat, k ≤ cons.length ∧ v5 = .int .i64 k ∧ Hid ((cons.take k).all (conOkB vars) = true) ∧ Hid (Below w0.heap.size w0 wc) ∧ Hid (Below w2.heap.size w2 wc)) (fun v5 _ => cons.length - (intOf v5).toNat)
              case atStart => exact ⟨0, Nat.zero_le _, rfl, by show _ = _; simp, B20, Below.refl _ _⟩
              case round =>
                obtain ⟨k, hk, rfl, HAk, HBk, HBk2⟩ := hrel
                rename World => wc
                have d2 := (HBk2.out.cell (p := ⟨gd, 2, none⟩) ZD.out).trans D2.out
                by_cases hlk : k < cons.length
                · obtain ⟨bc, oc, rfl, hSc, hcc⟩ := HC.out.1 k hlk
                  have hrepc := HC.out.2 k hlk
                  obtain ⟨cn, args, aa, capa, hTc, hcsc, g0, hkaa⟩ := con.con_open hrepc
                  rw [hcsc] at hcc
                  have BW := W0.out wc HBk.out
                  have e0 := (BW.cell (p := ⟨bc, oc + k * 2, none⟩) hSc).trans (hcc 0 _ rfl)
                  have E1 : Hid (w.cell? ⟨bc, oc + k * 2 + 1, none⟩ = some (.slice aa args.length capa)) := hcc 1 _ rfl
                  have hwk : con.wt cons[k] ≤ 1048576 := by have := con.wt_mem (List.getElem_mem hlk); omega
                  have hwa : ty.wts args ≤ 1048576 ∧ args.length ≤ 1048576 := by rw [hTc] at hwk; simp [con.wt] at hwk; omega
                  obtain ⟨hwa, hla⟩ := hwa
                  have HUc : Hid (conOkB vars cons[k] = (conB cn && args.all (ty.tidyL vars 24))) := by show _ = _; rw [hTc]; rfl
                  obtain ⟨a3, cap3, cssa, ea, -, -, hrowa, hkk⟩ := ty.tys_open hkaa
                  cases ea
                  have HK : Hid (RowAt w (· < w.heap.size) 4 aa args.length cssa ∧ ∀ i (h : i < args.length), ty.tySh.rep w (· < w.heap.size) (cssa i) args[i]) := ⟨hrowa, hkk⟩
                  have OUTk : Hid (conOkB vars cons[k] = false → q = false) := fun h => OUT.out (by rw [HU2.out, all_no hlk h])
                  have GN : Hid (cn.size ≤ maxLen) := g0
                  clear hTc hcsc g0 hkaa hrowa hkk hcc hrepc hwk BW
                  go_wp2_with fail
                  refine (specCon cn _ GN.out).mono ?_
                  rintro e w4 ⟨rfl, hb⟩
                  have B40 : Hid (Below w0.heap.size w0 w4) := HBk.out.trans (hb.mono HBk.out.size)
                  have B42 : Hid (Below w2.heap.size w2 w4) := HBk2.out.trans (hb.mono HBk2.out.size)
                  clear hb e0 d2 HBk HBk2
                  by_cases hcn : conB cn = true
                  · rw [hcn]
                    have HUc2 : Hid (conOkB vars cons[k] = args.all (ty.tidyL vars 24)) := by show _ = _; rw [HUc.out, hcn]; rfl
                    clear HUc hcn
                    go_wp2
                    go_loopw [6] (fun v6 wi => ∃ j : Nat, j ≤ args.length ∧ v6 = .int .i64 j ∧ Hid ((args.take j).all (ty.tidyL vars 24) = true) ∧ Hid (Below w0.heap.size w0 wi) ∧ Hid (Below w2.heap.size w2 wi)) (fun v6 _ => args.length - (intOf v6).toNat)
                    case atStart => exact ⟨0, Nat.zero_le _, rfl, by show _ = _; simp, B40, B42⟩
                    case round =>
                      obtain ⟨j, hj, rfl, HAj, HBj, HBj2⟩ := hrel
                      rename World => wi
                      have d2 := (HBj2.out.cell (p := ⟨gd, 2, none⟩) ZD.out).trans D2.out
                      have d1 := (HBj2.out.cell (p := ⟨gd, 1, none⟩) ZD.out).trans D1.out
                      have BW := W0.out wi HBj.out
                      have k1 := (BW.cell (p := ⟨bc, oc + k * 2 + 1, none⟩) hSc).trans E1.out
                      by_cases hlj : j < args.length
                      · obtain ⟨bj, oj, rfl, hSj, hcj⟩ := HK.out.1 j hlj
                        have hrepj := HK.out.2 j hlj
                        obtain ⟨op', n', s', ks', a', cap', hTj, hcsj, -, -, -, -⟩ := ty.ty_open hrepj
                        rw [hcsj] at hcj hrepj
                        have e0 := (BW.cell (p := ⟨bj, oj + j * 4, none⟩) hSj).trans (hcj 0 _ rfl)
                        have e1 := (BW.cell (p := ⟨bj, oj + j * 4 + 1, none⟩) hSj).trans (hcj 1 _ rfl)
                        have e2 := (BW.cell (p := ⟨bj, oj + j * 4 + 2, none⟩) hSj).trans (hcj 2 _ rfl)
                        have e3 := (BW.cell (p := ⟨bj, oj + j * 4 + 3, none⟩) hSj).trans (hcj 3 _ rfl)
                        have hwj : ty.wt args[j] ≤ 1048576 := by have := ty.wt_mem (List.getElem_mem hlj); omega
                        have KD : Hid (∀ wk : World, Below w.heap.size w wk → Calls Tryz.prog 69 #[.agg #[.int .i64 op', .int .i64 n', .string s', .slice a' ks'.length cap']] wk fun e w' => e = .returned (.int .i64 (ty.dp args[j] : Nat)) ∧ Below wk.heap.size wk w') := fun wk hb =>
                          ty.deep_any args[j] _ wk hwj (ty.tySh.mono (ty.tySh.below hrepj hb) fun b hlt => Nat.lt_of_lt_of_le hlt hb.size)
                        have KO : Hid (∀ wk : World, Below w.heap.size w wk → Calls Tryz.prog 70 #[.agg #[.int .i64 op', .int .i64 n', .string s', .slice a' ks'.length cap'], .int .i64 vars] wk fun e w' => e = .returned (.bool (ty.okTy vars args[j])) ∧ Below wk.heap.size wk w') := fun wk hb =>
                          ty.ok_any args[j] _ wk vars v0 v26 hwj (ty.tySh.mono (ty.tySh.below hrepj hb) fun b hlt => Nat.lt_of_lt_of_le hlt hb.size)
                        have HE := ty.tidyL_eq vars 24 args[j]
                        have BWj : Hid (Below w.heap.size w wi) := BW
                        have GDj : gd < wi.heap.size := Nat.lt_of_lt_of_le ZD.out HBj2.out.size
                        clear hTj hcsj hcj hrepj hwj BW
                        by_cases hdp : ty.dp args[j] ≤ 24
                        · have hd : decide (24 < ((ty.dp args[j] : Nat) : Int)) = false := by simp; omega
                          rw [decide_eq_true hdp, Bool.true_and] at HE
                          have HE2 : Hid (ty.tidyL vars 24 args[j] = ty.okTy vars args[j]) := HE
                          clear HE hdp
                          generalize ((ty.dp args[j] : Nat) : Int) = dd at hd KD
                          obtain ⟨okb, hokb⟩ : ∃ x, x = ty.okTy vars args[j] := ⟨_, rfl⟩
                          rw [← hokb] at KO HE2
                          clear hokb
                          cases okb with
                          | true =>
                            have hA2 : Hid ((args.take (j + 1)).all (ty.tidyL vars 24) = true) := by show _ = _; rw [all_take hlj, HAj.out, HE2.out]; rfl
                            clear HAj HE2
                            go_wp2
                            go_region_with (first | (go_at_call 69; refine (KD.out _ (by first | exact BWj.out.drew | exact BWj.out)).mono ?_; rintro e w5 ⟨rfl, hb5⟩; have B5 : Hid (Below w.heap.size w w5) := BWj.out.drew.trans (hb5.mono BWj.out.size); have d2' := (hb5.cell (p := ⟨gd, 2, none⟩) GDj).trans d2; have d1' := (hb5.cell (p := ⟨gd, 1, none⟩) GDj).trans d1; have k1' := (hb5.cell (p := ⟨bc, oc + k * 2 + 1, none⟩) (Nat.lt_of_lt_of_le hSc BWj.out.size)).trans k1; have e0' := (hb5.cell (p := ⟨bj, oj + j * 4, none⟩) (Nat.lt_of_lt_of_le hSj BWj.out.size)).trans e0; have e1' := (hb5.cell (p := ⟨bj, oj + j * 4 + 1, none⟩) (Nat.lt_of_lt_of_le hSj BWj.out.size)).trans e1; have e2' := (hb5.cell (p := ⟨bj, oj + j * 4 + 2, none⟩) (Nat.lt_of_lt_of_le hSj BWj.out.size)).trans e2; have e3' := (hb5.cell (p := ⟨bj, oj + j * 4 + 3, none⟩) (Nat.lt_of_lt_of_le hSj BWj.out.size)).trans e3) | (go_at_call 70; refine (KO.out _ B5.out).mono ?_; rintro e w6 ⟨rfl, hb6⟩))
                            all_goals
                              have B60 : Hid (Below w0.heap.size w0 w6) := (HBj.out.drew.trans (hb5.mono HBj.out.size)).trans (hb6.mono (Nat.le_trans HBj.out.size hb5.size))
                              have B62 : Hid (Below w2.heap.size w2 w6) := (HBj2.out.drew.trans (hb5.mono HBj2.out.size)).trans (hb6.mono (Nat.le_trans HBj2.out.size hb5.size))
                              clear hb5 hb6 d2 d1 k1 e0 e1 e2 e3 d2' d1' k1' e0' e1' e2' e3' GDj BWj KD KO HBj HBj2
                              go_wp2
                              go_round
                              case rel => exact ⟨j + 1, by omega, by go_num, hA2, B60, B62⟩
                              case measure => simp [intOf]; omega
                          | false =>
                            have hq : Hid (q = false) := OUTk.out (by rw [HUc2.out, all_no hlj HE2.out])
                            clear HAj HE2
                            go_wp2
                            go_region_with (first | (go_at_call 69; refine (KD.out _ (by first | exact BWj.out.drew | exact BWj.out)).mono ?_; rintro e w5 ⟨rfl, hb5⟩; have B5 : Hid (Below w.heap.size w w5) := BWj.out.drew.trans (hb5.mono BWj.out.size); have d2' := (hb5.cell (p := ⟨gd, 2, none⟩) GDj).trans d2; have d1' := (hb5.cell (p := ⟨gd, 1, none⟩) GDj).trans d1; have k1' := (hb5.cell (p := ⟨bc, oc + k * 2 + 1, none⟩) (Nat.lt_of_lt_of_le hSc BWj.out.size)).trans k1; have e0' := (hb5.cell (p := ⟨bj, oj + j * 4, none⟩) (Nat.lt_of_lt_of_le hSj BWj.out.size)).trans e0; have e1' := (hb5.cell (p := ⟨bj, oj + j * 4 + 1, none⟩) (Nat.lt_of_lt_of_le hSj BWj.out.size)).trans e1; have e2' := (hb5.cell (p := ⟨bj, oj + j * 4 + 2, none⟩) (Nat.lt_of_lt_of_le hSj BWj.out.size)).trans e2; have e3' := (hb5.cell (p := ⟨bj, oj + j * 4 + 3, none⟩) (Nat.lt_of_lt_of_le hSj BWj.out.size)).trans e3) | (go_at_call 70; refine (KO.out _ B5.out).mono ?_; rintro e w6 ⟨rfl, hb6⟩))
                            all_goals
                              have B6 : Hid (Below w.heap.size w w6) := B5.out.trans (hb6.mono B5.out.size)
                              clear hb5 hb6 d2 d1 k1 e0 e1 e2 e3 d2' d1' k1' e0' e1' e2' e3' GDj BWj KD KO
                              go_wp2
                              go_ret
                              exact ⟨ret_bool hq.out.symm, B6.out⟩
                        · have hd : decide (24 < ((ty.dp args[j] : Nat) : Int)) = true := by simp; omega
                          rw [decide_eq_false hdp, Bool.false_and] at HE
                          have hq : Hid (q = false) := OUTk.out (by rw [HUc2.out, all_no hlj HE])
                          clear HE hdp KO HAj
                          generalize ((ty.dp args[j] : Nat) : Int) = dd at hd KD
                          go_wp2
                          refine wp_region_any (by kernel_rfl) ?_
                          change wpAny _ _ _ _ _ _ _ (World.drew _)
                          refine wpAny_take (i := 0) (v := .pointer (some ⟨gd, 2, none⟩)) rfl (by kernel_rfl) (by kernel_rfl) (by kernel_rfl) (fun _ _ _ h => h) (Or.inl ⟨by kernel_rfl, ?_⟩) ?_
                          · intro w; go_simp
                          refine wpAny_take (i := 2) (v := .int .i64 k) rfl (by kernel_rfl) (by kernel_rfl) (by kernel_rfl) (fun _ _ _ h => h) (Or.inl ⟨by kernel_rfl, ?_⟩) ?_
                          · intro w; go_simp
                          refine wpAny_take (i := 6) (v := .int .i64 j) rfl (by kernel_rfl) (by kernel_rfl) (by kernel_rfl) (fun _ _ _ h => h) (Or.inl ⟨by kernel_rfl, ?_⟩) ?_
                          · intro w; go_simp
                          refine wpAny_ready (rs := [1]) (by kernel_rfl) (by simp) ?_
                          refine AllReady.cons rfl (fun K hK => ?_) AllReady.nil
                          go_simp
                          refine hK _ _ ?_
                          clear hK K
                          refine wpAny_take (i := 3) (v := .pointer (some ⟨bc, oc + k * 2, none⟩)) rfl (by kernel_rfl) (by kernel_rfl) (by kernel_rfl) (fun _ _ _ h => h) (Or.inl ⟨by kernel_rfl, ?_⟩) ?_
                          · intro w; go_simp
                          refine wpAny_take (i := 4) (v := .pointer (some ⟨bc, oc + k * 2 + 1, none⟩)) rfl (by kernel_rfl) (by kernel_rfl) (by kernel_rfl) (fun _ _ _ h => h) (Or.inl ⟨by kernel_rfl, ?_⟩) ?_
                          · intro w; go_simp
                          refine wpAny_ready (rs := [5]) (by kernel_rfl) (by simp) ?_
                          refine AllReady.cons rfl (fun K hK => ?_) AllReady.nil
                          go_simp
                          refine hK _ _ ?_
                          clear hK K
                          refine wpAny_take (i := 7) (v := .pointer (some ⟨bj, oj + j * 4, none⟩)) rfl (by kernel_rfl) (by kernel_rfl) (by kernel_rfl) (fun _ _ _ h => h) (Or.inl ⟨by kernel_rfl, ?_⟩) ?_
                          · intro w; go_simp
                          refine wpAny_ready (rs := [8]) (by kernel_rfl) (by simp) ?_
                          refine AllReady.cons rfl (fun K hK => ?_) AllReady.nil
                          go_simp
                          refine hK _ _ ?_
                          clear hK K
                          refine wpAny_ready (rs := [9]) (by kernel_rfl) (by simp) ?_
                          refine AllReady.cons rfl (fun K hK => ?_) AllReady.nil
                          go_simp
                          go_at_call 69
                          refine (KD.out _ BWj.out.drew).mono ?_
                          rintro e w5 ⟨rfl, hb5⟩
                          have B5 : Hid (Below w.heap.size w w5) := BWj.out.drew.trans (hb5.mono BWj.out.size)
                          clear hb5 d2 d1 k1 e0 e1 e2 e3
                          refine hK _ _ ?_
                          clear hK K
                          refine wpAny_take (i := 10) (v := .bool true) rfl (by kernel_rfl) (by kernel_rfl) (by kernel_rfl) (fun _ _ _ h => h) (Or.inl ⟨by kernel_rfl, ?_⟩) ?_
                          · intro w; go_simp
                          refine wpAny_take (i := 11) (v := .bool true) rfl (by kernel_rfl) (by kernel_rfl) (by kernel_rfl) (fun _ _ _ h => h) (Or.inl ⟨by kernel_rfl, ?_⟩) ?_
                          · intro w; go_simp
                          refine wpAny_take (i := 12) (v := undef) rfl (by kernel_rfl) (by kernel_rfl) (by kernel_rfl) (fun _ _ _ h => h) (Or.inr ⟨by kernel_rfl, rfl⟩) ?_
                          refine wpAny_take (i := 13) (v := undef) rfl (by kernel_rfl) (by kernel_rfl) (by kernel_rfl) (fun _ _ _ h => h) (Or.inr ⟨by kernel_rfl, rfl⟩) ?_
                          refine wpAny_take (i := 14) (v := undef) rfl (by kernel_rfl) (by kernel_rfl) (by kernel_rfl) (fun _ _ _ h => h) (Or.inr ⟨by kernel_rfl, rfl⟩) ?_
                          refine wpAny_take (i := 15) (v := undef) rfl (by kernel_rfl) (by kernel_rfl) (by kernel_rfl) (fun _ _ _ h => h) (Or.inr ⟨by kernel_rfl, rfl⟩) ?_
                          refine wpAny_take (i := 16) (v := undef) rfl (by kernel_rfl) (by kernel_rfl) (by kernel_rfl) (fun _ _ _ h => h) (Or.inr ⟨by kernel_rfl, rfl⟩) ?_
                          refine wpAny_take (i := 17) (v := undef) rfl (by kernel_rfl) (by kernel_rfl) (by kernel_rfl) (fun _ _ _ h => h) (Or.inr ⟨by kernel_rfl, rfl⟩) ?_
                          refine wpAny_take (i := 18) (v := undef) rfl (by kernel_rfl) (by kernel_rfl) (by kernel_rfl) (fun _ _ _ h => h) (Or.inr ⟨by kernel_rfl, rfl⟩) ?_
                          refine wpAny_take (i := 19) (v := undef) rfl (by kernel_rfl) (by kernel_rfl) (by kernel_rfl) (fun _ _ _ h => h) (Or.inr ⟨by kernel_rfl, rfl⟩) ?_
                          refine wpAny_take (i := 20) (v := undef) rfl (by kernel_rfl) (by kernel_rfl) (by kernel_rfl) (fun _ _ _ h => h) (Or.inr ⟨by kernel_rfl, rfl⟩) ?_
                          refine wpAny_take (i := 21) (v := undef) rfl (by kernel_rfl) (by kernel_rfl) (by kernel_rfl) (fun _ _ _ h => h) (Or.inr ⟨by kernel_rfl, rfl⟩) ?_
                          refine wpAny_take (i := 22) (v := undef) rfl (by kernel_rfl) (by kernel_rfl) (by kernel_rfl) (fun _ _ _ h => h) (Or.inr ⟨by kernel_rfl, rfl⟩) ?_
                          refine wpAny_take (i := 23) (v := undef) rfl (by kernel_rfl) (by kernel_rfl) (by kernel_rfl) (fun _ _ _ h => h) (Or.inr ⟨by kernel_rfl, rfl⟩) ?_
                          refine wpAny_take (i := 24) (v := undef) rfl (by kernel_rfl) (by kernel_rfl) (by kernel_rfl) (fun _ _ _ h => h) (Or.inr ⟨by kernel_rfl, rfl⟩) ?_
                          refine wpAny_take (i := 25) (v := .bool true) rfl (by kernel_rfl) (by kernel_rfl) (by kernel_rfl) (fun _ _ _ h => h) (Or.inl ⟨by kernel_rfl, ?_⟩) ?_
                          · intro w; go_simp
                          refine wpAny_done (by kernel_rfl) ?_ _
                          simp only [Act.put, List.getElem_toArray, List.getElem?_toArray, List.getElem_cons_succ, List.getElem_cons_zero, List.getElem?_cons_succ, List.getElem?_cons_zero, List.setIfInBounds_toArray, List.set_cons_succ, List.set_cons_zero]
                          go_wp2
                          go_ret
                          exact ⟨ret_bool hq.out.symm, B5.out⟩
                      · obtain rfl : j = args.length := by omega
                        have hA2 : Hid ((cons.take (k + 1)).all (conOkB vars) = true) := by
                          have := HAj.out
                          rw [List.take_length] at this
                          show _ = _; rw [all_take hlk, HAk.out, HUc2.out, this]; rfl
                        clear HAj HAk BW
                        go_wp2
                        refine ⟨?_, ?_⟩
                        · (repeat apply Exists.intro)
                          refine ⟨?rel, rfl⟩
                          case rel => exact ⟨k + 1, by omega, by go_num, hA2, HBj, HBj2⟩
                        · simp [intOf]; omega
                  · have hcn' : conB cn = false := by simpa using hcn
                    rw [hcn']
                    have hq : Hid (q = false) := OUTk.out (by rw [HUc.out, hcn']; rfl)
                    go_wp2
                    go_ret
                    exact ⟨ret_bool hq.out.symm, W0.out _ B40.out⟩
                · obtain rfl : k = cons.length := by omega
                  have hA2 : Hid ((ds.take (i + 1)).all dataOkB = true) := by
                    have := HAk.out
                    rw [List.take_length] at this
                    show _ = _; rw [all_take hlt, HA.out, HU2.out, this]; rfl
                  clear HAk HA
                  go_wp2
                  go_round
                  case rel => exact ⟨i + 1, by omega, by go_num, hA2, HBk⟩
                  case measure => simp [intOf]; omega
          · have hq : Hid (q = false) := OUT.out (by rw [HU.out, decide_eq_false v26]; simp)
            go_wp2
            go_ret
            exact ⟨ret_bool hq.out.symm, W0.out _ B20.out⟩
        · have hq : Hid (q = false) := OUT.out (by rw [HU.out, decide_eq_false v0]; simp)
          go_wp2
          go_ret
          exact ⟨ret_bool hq.out.symm, W0.out _ B20.out⟩
      · have hnm' : conB nm = false := by simpa using hnm
        rw [hnm']
        have hq : Hid (q = false) := OUT.out (by rw [HU.out, hnm']; rfl)
        go_wp2
        go_ret
        exact ⟨ret_bool hq.out.symm, W0.out _ B20.out⟩
    · obtain rfl : i = ds.length := by omega
      have HE := node.tidyN_eq 24 1 T
      have hq : Hid (q = (decide (node.dp T ≤ 24) && node.okN 1 T)) := by
        have := HA.out
        rw [List.take_length] at this
        show _ = _; rw [HO.out, this, HE]; rfl
      clear HE HA
      have c1 := AT0.out wr HB.out 1 _ rfl
      have c2 := AT0.out wr HB.out 2 _ rfl
      have c3 := AT0.out wr HB.out 3 _ rfl
      have c4 := AT0.out wr HB.out 4 _ rfl
      have c5 := AT0.out wr HB.out 5 _ rfl
      have BW : Hid (Below w.heap.size w wr) := W0.out wr HB.out
      by_cases hdp : node.dp T ≤ 24
      · have hd : ((node.dp T : Nat) : Int) ≤ 24 := by omega
        rw [decide_eq_true hdp, Bool.true_and] at hq
        clear hdp
        generalize ((node.dp T : Nat) : Int) = dd at hd KM
        go_wp2_with fail
        refine (KM.out _ BW.out).mono ?_
        rintro e w2 ⟨rfl, hb⟩
        have B20 : Hid (Below w0.heap.size w0 w2) := HB.out.trans (hb.mono HB.out.size)
        have B2 : Hid (Below w.heap.size w w2) := BW.out.trans (hb.mono BW.out.size)
        clear hb c1 c2 c3 c4 c5
        have c1 := AT0.out w2 B20.out 1 _ rfl
        have c2 := AT0.out w2 B20.out 2 _ rfl
        have c3 := AT0.out w2 B20.out 3 _ rfl
        have c4 := AT0.out w2 B20.out 4 _ rfl
        have c5 := AT0.out w2 B20.out 5 _ rfl
        go_wp2_with fail
        refine (KE.out _ B2.out).mono ?_
        rintro e w3 ⟨rfl, hb⟩
        have B3 : Hid (Below w.heap.size w w3) := B2.out.trans (hb.mono B2.out.size)
        clear hb
        go_wp2
        go_ret
        exact ⟨ret_bool hq.out.symm, B3.out⟩
      · have hd : ¬ ((node.dp T : Nat) : Int) ≤ 24 := by omega
        rw [decide_eq_false hdp, Bool.false_and] at hq
        clear hdp
        generalize ((node.dp T : Nat) : Int) = dd at hd KM
        go_wp2_with fail
        refine (KM.out _ BW.out).mono ?_
        rintro e w2 ⟨rfl, hb⟩
        have B2 : Hid (Below w.heap.size w w2) := BW.out.trans (hb.mono BW.out.size)
        clear hb c1 c2 c3 c4 c5
        go_wp2
        go_ret
        exact ⟨ret_bool hq.out.symm, B2.out⟩

end Go.Proofs.YtlnpfnglphdaiaaGreatDoor.prog

namespace Go.Proofs.YtlnpfnglphdaiaaGreatDoor.tok
open Go Go.RowKit Go.Deep Go.Proofs.YtlnpfnglphdaiaaGreatDoor.rose Go.Proofs.YtlnpfnglphdaiaaGreatDoor
set_option linter.unusedVariables false

theorem parse_any (s : ByteArray) (w : World) (hs : s.size ≤ maxLen) : Calls Tryz.prog 27 #[.string s] w (ParseSays w) :=
  parse_of (fun E w at_ bad h => e_any E w at_ bad h trivial) prog.progOkB (fun p cs w hw h => prog.spec_any p cs w hw h) s w hs

end Go.Proofs.YtlnpfnglphdaiaaGreatDoor.tok

namespace Go.Proofs.YtlnpfnglphdaiaaGreatDoor.tok
open Go Go.RowKit Go.Deep Go.Proofs.YtlnpfnglphdaiaaGreatDoor.rose Go.Proofs.YtlnpfnglphdaiaaGreatDoor
set_option linter.unusedVariables false

set_option maxRecDepth 100000 in
set_option maxHeartbeats 1000000 in
theorem datas_any (w : World) : Calls Tryz.prog 14 #[] w fun e w' => (∃ (v : Value) (ks : List data.DataD), e = .returned v ∧ dataPs.rep w' (fun b => w.heap.size ≤ b ∧ b < w'.heap.size) [v] ks ∧ ks.length + data.wts ks ≤ 40000) ∧ Below w.heap.size w w' := by
  go_enter Tryz.func14, Tryz.ntmps14
  go_wp2_with fail
  refine (parse_any _ w (by decide)).mono ?_
  rintro e w1 ⟨⟨cs, p, n, rfl, hr, hw⟩, hb⟩
  obtain ⟨x0, x1⟩ := p
  obtain ⟨c1, c2, rfl, h0, h1⟩ := hr
  obtain ⟨a0, c0, rfl⟩ := slice_cells (Sh.bare h0)
  obtain ⟨u0, u1, u2, u3, u4, rfl⟩ := node.nd_list h1
  have o0 := node.ndSh.one h1 u0 (by simp)
  have o1 := node.ndSh.one h1 u1 (by simp)
  have o2 := node.ndSh.one h1 u2 (by simp)
  have o3 := node.ndSh.one h1 u3 (by simp)
  have o4 := node.ndSh.one h1 u4 (by simp)
  have so0 := fun (a : Addr) (m : Mode) (w : World) => run_store Tryz.prog w a u0 m o0
  have so1 := fun (a : Addr) (m : Mode) (w : World) => run_store Tryz.prog w a u1 m o1
  have so2 := fun (a : Addr) (m : Mode) (w : World) => run_store Tryz.prog w a u2 m o2
  have so3 := fun (a : Addr) (m : Mode) (w : World) => run_store Tryz.prog w a u3 m o3
  have so4 := fun (a : Addr) (m : Mode) (w : World) => run_store Tryz.prog w a u4 m o4
  have HH : Hid (dataPs.rep w1 (fun b => w.heap.size ≤ b ∧ b < w1.heap.size) [.slice a0 x0.length c0] x0 ∧ x0.length + data.wts x0 ≤ 40000 ∧ Below w.heap.size w w1) := ⟨h0, by simp only [prog.wt] at hw; omega, hb⟩
  clear hw hb h0 h1
  go_wp2
  go_ret
  have hA : Below w1.heap.size w1 (w1.alloc (.cells #[.slice a0 x0.length c0, u0, u1, u2, u3, u4] 62)) := (Below.refl _ _).alloc (Nat.le_refl _) _
  exact ⟨⟨_, x0, rfl, dataPs.mono (dataPs.on HH.out.1 fun b hS => hA.block b hS.2) fun b hS => ⟨hS.1, Nat.lt_of_lt_of_le hS.2 hA.size⟩, HH.out.2.1⟩, HH.out.2.2.trans (hA.mono HH.out.2.2.size)⟩

end Go.Proofs.YtlnpfnglphdaiaaGreatDoor.tok
