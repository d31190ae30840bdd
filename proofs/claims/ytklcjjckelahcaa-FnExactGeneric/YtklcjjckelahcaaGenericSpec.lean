/-
  The model's Generic, at every argument: the vars of a type, ascending, that are in no type of the schemes but as their own; nothing that was there is turned.
-/
import Derived.Test.YtklcjjckelahcaaSchemeSz
import Derived.Test.YtklcjjckelahcaaFreeVarsPure
import Derived.Test.YtklcjjckelahcaaHasSpec
import Derived.Test.YtklcjjckelahcaaInSpec
import Derived.Test.YtklcjjckelahcaaGrown
import Derived.Deep.RegionHeld3
import Derived.Deep.LoopGhost
namespace Go.Proofs.Ytklcjjckelahcaa.scheme
open Go.RowKit Go.Proofs.Ytklcjjckelahcaa.rose Go.Proofs.Ytklcjjckelahcaa
set_option linter.unusedVariables false
set_option linter.unusedSimpArgs false

/-- n is free in a scheme. -/
def bad (n : Int) (s : SchemeD) : Bool := bind.hasB s.2 n && !decide (n ∈ s.1)
def gen (ks : List SchemeD) (T : ty.TyD) : List Int := (ints.vrs T []).filter fun n => !ks.any (bad n)

theorem any_take {ks : List SchemeD} {i : Nat} {n : Int} (h : i < ks.length) : (ks.take (i + 1)).any (bad n) = ((ks.take i).any (bad n) || bad n ks[i]) := by
  rw [List.take_succ_eq_append_getElem h, List.any_append]; simp
theorem cell_drewG {w : World} {a : Addr} : w.drew.cell? a = w.cell? a := rfl

/-- Where the model stands: the vars and what was gathered, in rows of their own. -/
structure Gm (w w3 wr : World) (vv vo : Value) (vs out : List Int) : Prop where
  bel : Below w.heap.size w wr
  size : w3.heap.size ≤ wr.heap.size
  vars : ints.IRow wr (w.heap.size + 2) vv vs
  vlt : ∀ g, vv.ownBlock = some g → g < w3.heap.size
  out : ints.IRow wr w.heap.size vo out
  olt : ∀ g, vo.ownBlock = some g → g < w.heap.size + 2 ∨ w3.heap.size ≤ g
  nnil : vo ≠ .slice none 0 0

theorem Gm.on {w w3 wr wr' : World} {vv vo : Value} {vs out : List Int} (h : Gm w w3 wr vv vo vs out) (hb : Below wr.heap.size wr wr') : Gm w w3 wr' vv vo vs out :=
  ⟨h.bel.trans (hb.mono h.bel.size), Nat.le_trans h.size hb.size, h.vars.keep hb, h.vlt, h.out.keep hb, h.olt, h.nnil⟩

set_option maxRecDepth 100000 in
set_option maxHeartbeats 4000000 in
theorem specGeneric (ks : List SchemeD) (T : ty.TyD) (v : Value) (cs : List Value) (w : World) (hw : ty.wt T ≤ 1048576) (hk : ks.length + wts ks ≤ 1048576) (h : schemeSh.slice.rep w (· < w.heap.size) [v] ks) (h' : ty.tySh.rep w (· < w.heap.size) cs T) :
    Calls Try.prog 16 #[v, .agg cs.toArray] w fun e w' => (∃ v', e = .returned v' ∧ ints.intsSp.rep w' (fun b => w.heap.size ≤ b ∧ b < w'.heap.size) [v'] (gen ks T)) ∧ Below w.heap.size w w' := by
  obtain ⟨u0, u1, u2, u3, rfl⟩ := ty.ty_list h'
  have o0 := ty.tySh.one h' u0 (by simp)
  have o1 := ty.tySh.one h' u1 (by simp)
  have o2 := ty.tySh.one h' u2 (by simp)
  have o3 := ty.tySh.one h' u3 (by simp)
  have HT : Hid (ty.tySh.rep w (· < w.heap.size) [u0, u1, u2, u3] T) := h'
  obtain ⟨a, cap, css, rfl, hcap, hmax, hrow, hkk⟩ := schemes_open h
  have hmx : (ks.length : Int) ≤ 9223372036854775807 := by omega
  have HR : Hid (RowAt w (· < w.heap.size) 5 a ks.length css ∧ ∀ i (h : i < ks.length), schemeSh.rep w (· < w.heap.size) (css i) ks[i]) := ⟨hrow, hkk⟩
  have HW : Hid (ks.length + wts ks ≤ 1048576) := hk
  obtain ⟨ti, ti1, ti2, ti3, ti4⟩ := ints.int_info
  have TI : Hid (Try.prog.info? 3 = some ti ∧ ti.zero = some (.int .i64 0) ∧ ti.size = 1 ∧ ti.bytes = 8) := ⟨ti1, ti2, ti3, ti4⟩
  clear h h' hcap hmax hrow hkk hk ti1 ti2 ti3 ti4
  go_enter Try.func16, Try.ntmps16
  go_wp2_with fail
  obtain ⟨w2, e2⟩ : ∃ w2, w2 = (w.alloc (.cells #[u0, u1, u2, u3] 36)).alloc (.cells #[] 3) := ⟨_, rfl⟩
  have z2 : w2.heap.size = w.heap.size + 2 := by rw [e2]; simp
  have b2 : Below w.heap.size w w2 := by rw [e2]; exact ((Below.refl _ _).alloc (Nat.le_refl _) _).alloc (by simp) _
  have l2 : ints.IRow w2 w.heap.size (.slice (some ⟨w.heap.size + 1, 0, none⟩) 0 0) [] := by
    rw [e2]
    have := ints.lit_row (w.alloc (.cells #[u0, u1, u2, u3] 36)) w.heap.size (by simp)
    simpa using this
  rw [← e2]
  clear e2
  refine (ints.specFreeVars T _ _ hw (ty.tySh.mono (ty.tySh.below HT.out b2) fun b hb => Nat.lt_of_lt_of_le hb b2.size)).mono ?_
  rintro e w3 ⟨⟨vv, rfl, hI⟩, hb⟩
  rw [z2] at hI
  have G0 : Hid (Gm w w3 w3 vv (.slice (some ⟨w.heap.size + 1, 0, none⟩) 0 0) (ints.vrs T []) ([].filter fun n => !ks.any (bad n))) := ⟨b2.trans (hb.mono b2.size), Nat.le_refl _, hI, fun g hg => (hI.lt g hg).2, l2.keep hb, fun g hg => (by simp only [Value.ownBlock, Option.some.injEq] at hg; omega), by simp⟩
  have hvl : (ints.vrs T []).length ≤ 1048577 := by have := ints.vrs_length T []; simp at this; omega
  have HV : Hid (∃ a c, vv = .slice a (ints.vrs T []).length c) := by
    rcases hI.open with ⟨rfl, h0⟩ | ⟨g, c, rfl, _⟩
    · exact ⟨_, _, by rw [h0]; rfl⟩
    · exact ⟨_, _, rfl⟩
  have HG : Hid (gen ks T = (ints.vrs T []).filter fun n => !ks.any (bad n)) := rfl
  have HIN : Hid (∀ x ∈ ints.vrs T [], ints.InR x) := hI.2
  clear hb hI b2 l2 z2
  generalize ints.vrs T [] = vs at G0 hvl HV HG HIN
  obtain ⟨av, cv, rfl⟩ := HV.out
  have hvl' : (vs.length : Int) ≤ 9223372036854775807 := by omega
  go_wp2
  go_loopw [5, 7] (fun v5 v7 wr => ∃ i : Nat, i ≤ vs.length ∧ v7 = .int .i64 i ∧ Hid (Gm w w3 wr (.slice av vs.length cv) v5 vs ((vs.take i).filter fun n => !ks.any (bad n)))) (fun _ v7 _ => vs.length - (intOf v7).toNat)
  case atStart => exact ⟨0, Nat.zero_le _, rfl, by rw [List.take_zero]; exact G0⟩
  case round =>
    obtain ⟨i, hi, rfl, HM⟩ := hrel
    obtain ⟨wo, rfl⟩ : ∃ wo, wo = wr := ⟨_, rfl⟩
    clear G0
    by_cases hlt : i < vs.length
    · obtain ⟨g, hav, hgl, hgs, hcell⟩ : ∃ g, av = some ⟨g, 0, none⟩ ∧ w.heap.size + 2 ≤ g ∧ g < w3.heap.size ∧ wo.cell? ⟨g, i, none⟩ = some (.int .i64 vs[i]) := by
        rcases HM.out.vars.open with ⟨_, h0⟩ | ⟨g, c, h1, h2, h3, h4, h5, h6, _⟩
        · rw [h0] at hlt; simp at hlt
        · cases h1
          exact ⟨g, rfl, h2, HM.out.vlt g rfl, h6 i hlt⟩
      subst hav
      have hT : vs.take (i + 1) = vs.take i ++ [vs[i]] := List.take_succ_eq_append_getElem hlt
      have HT2 : Hid (vs.take (i + 1) = vs.take i ++ [vs[i]] ∧ ints.InR vs[i]) := ⟨hT, HIN.out _ (List.getElem_mem hlt)⟩
      clear hT
      generalize vs[i] = n at hcell HT2
      go_wp2
      go_loopw [8, 9] (fun v8 v9 wi => ∃ k : Nat, k ≤ ks.length ∧ v9 = .int .i64 k ∧ v8 = .bool (!(ks.take k).any (bad n)) ∧ Hid (Below wo.heap.size wo wi)) (fun _ v9 _ => ks.length - (intOf v9).toNat)
      case atStart => exact ⟨0, Nat.zero_le _, rfl, by simp, Below.refl _ _⟩
      case round =>
        obtain ⟨k, hk, rfl, rfl, HB⟩ := hrel
        by_cases hkl : k < ks.length
        · obtain ⟨b, o, rfl, hS, hc⟩ := HR.out.1 k hkl
          obtain ⟨x0, a0, c0, x1, t0, t1, t2, t3, hT, hcs, f0, f1⟩ := scheme_open (HR.out.2 k hkl)
          rw [hcs] at hc
          have BW : Below w.heap.size w wr := HM.out.bel.trans (HB.out.mono HM.out.bel.size)
          have e0 : wr.cell? ⟨b, o + k * 5, none⟩ = some (.slice a0 x0.length c0) := (BW.cell (p := ⟨b, o + k * 5, none⟩) hS).trans (hc 0 _ rfl)
          have e1 : wr.cell? ⟨b, o + k * 5 + 1, none⟩ = some (t0) := (BW.cell (p := ⟨b, o + k * 5 + 1, none⟩) hS).trans (hc 1 _ rfl)
          have e2 : wr.cell? ⟨b, o + k * 5 + 2, none⟩ = some (t1) := (BW.cell (p := ⟨b, o + k * 5 + 2, none⟩) hS).trans (hc 2 _ rfl)
          have e3 : wr.cell? ⟨b, o + k * 5 + 3, none⟩ = some (t2) := (BW.cell (p := ⟨b, o + k * 5 + 3, none⟩) hS).trans (hc 3 _ rfl)
          have e4 : wr.cell? ⟨b, o + k * 5 + 4, none⟩ = some (t3) := (BW.cell (p := ⟨b, o + k * 5 + 4, none⟩) hS).trans (hc 4 _ rfl)
          have cg : wr.cell? ⟨g, i, none⟩ = some (.int .i64 n) := (HB.out.cell (p := ⟨g, i, none⟩) (show g < _ by have := HM.out.size; omega)).trans hcell
          have ot0 := ty.tySh.one f1 t0 (by simp)
          have ot1 := ty.tySh.one f1 t1 (by simp)
          have ot2 := ty.tySh.one f1 t2 (by simp)
          have ot3 := ty.tySh.one f1 t3 (by simp)
          have hw1 : ty.wt x1 ≤ 1048576 := by have := wt_mem (List.getElem_mem hkl); rw [hT] at this; simp only [wt] at this; have := HW.out; omega
          have F0 : Hid (Sh.int.slice.rep w (· < w.heap.size) [.slice a0 x0.length c0] x0) := f0
          have hcall1 := bind.has_any x1 [t0, t1, t2, t3] wr.drew n hw1 (ty.tySh.mono (ty.tySh.below f1 BW.drew) fun q hq => Nat.lt_of_lt_of_le hq BW.size)
          have HA : Hid ((ks.take (k + 1)).any (bad n) = ((ks.take k).any (bad n) || (bind.hasB x1 n && !decide (n ∈ x0)))) := by show _ = _; rw [any_take hkl, hT]; rfl
          have HBW : Hid (Below w.heap.size w wr ∧ b < w.heap.size ∧ g < wr.heap.size) := ⟨BW, hS, by have := HM.out.size; have := HB.out.size; omega⟩
          have EE : Hid (wr.cell? ⟨b, o + k * 5, none⟩ = some (.slice a0 x0.length c0) ∧ wr.cell? ⟨b, o + k * 5 + 1, none⟩ = some (t0) ∧ wr.cell? ⟨b, o + k * 5 + 2, none⟩ = some (t1) ∧ wr.cell? ⟨b, o + k * 5 + 3, none⟩ = some (t2) ∧ wr.cell? ⟨b, o + k * 5 + 4, none⟩ = some (t3) ∧ wr.cell? ⟨g, i, none⟩ = some (.int .i64 n)) := ⟨e0, e1, e2, e3, e4, cg⟩
          clear hT hcs hc f0 f1 BW hS
          by_cases hh : bind.hasB x1 n = true
          · by_cases hin : n ∈ x0
            · have hd : decide (n ∈ x0) = true := by simp [hin]
              rw [hh] at hcall1
              have HN : Hid ((ks.take (k + 1)).any (bad n) = (ks.take k).any (bad n)) := by show _ = _; rw [HA.out, hh, hd]; simp
              go_wp2_with fail
              go_region_held3 (fun W => W.cell? ⟨b, o + k * 5, none⟩ = some (.slice a0 x0.length c0) ∧ W.cell? ⟨b, o + k * 5 + 1, none⟩ = some (t0) ∧ W.cell? ⟨b, o + k * 5 + 2, none⟩ = some (t1) ∧ W.cell? ⟨b, o + k * 5 + 3, none⟩ = some (t2) ∧ W.cell? ⟨b, o + k * 5 + 4, none⟩ = some (t3) ∧ W.cell? ⟨g, i, none⟩ = some (.int .i64 n))
                (exact ⟨(by first | with_reducible exact e0 | ((repeat rw [cell_drewG]); with_reducible exact e0)), (by first | with_reducible exact e1 | ((repeat rw [cell_drewG]); with_reducible exact e1)), (by first | with_reducible exact e2 | ((repeat rw [cell_drewG]); with_reducible exact e2)), (by first | with_reducible exact e3 | ((repeat rw [cell_drewG]); with_reducible exact e3)), (by first | with_reducible exact e4 | ((repeat rw [cell_drewG]); with_reducible exact e4)), (by first | with_reducible exact cg | ((repeat rw [cell_drewG]); with_reducible exact cg))⟩)
                (first
                  | (go_at_call 43; refine hcall1.mono ?_; rintro e w1 ⟨rfl, hb⟩
                     have hb1 : Below wr.heap.size wr w1 := (Below.refl _ wr).drew.trans hb
                     replace e0 : w1.cell? ⟨b, o + k * 5, none⟩ = some (.slice a0 x0.length c0) := (hb1.cell (p := ⟨b, o + k * 5, none⟩) (show b < _ by have := HBW.out.2.1; have := HBW.out.1.size; omega)).trans EE.out.1
                     replace e1 : w1.cell? ⟨b, o + k * 5 + 1, none⟩ = some (t0) := (hb1.cell (p := ⟨b, o + k * 5 + 1, none⟩) (show b < _ by have := HBW.out.2.1; have := HBW.out.1.size; omega)).trans EE.out.2.1
                     replace e2 : w1.cell? ⟨b, o + k * 5 + 2, none⟩ = some (t1) := (hb1.cell (p := ⟨b, o + k * 5 + 2, none⟩) (show b < _ by have := HBW.out.2.1; have := HBW.out.1.size; omega)).trans EE.out.2.2.1
                     replace e3 : w1.cell? ⟨b, o + k * 5 + 3, none⟩ = some (t2) := (hb1.cell (p := ⟨b, o + k * 5 + 3, none⟩) (show b < _ by have := HBW.out.2.1; have := HBW.out.1.size; omega)).trans EE.out.2.2.2.1
                     replace e4 : w1.cell? ⟨b, o + k * 5 + 4, none⟩ = some (t3) := (hb1.cell (p := ⟨b, o + k * 5 + 4, none⟩) (show b < _ by have := HBW.out.2.1; have := HBW.out.1.size; omega)).trans EE.out.2.2.2.2.1
                     replace cg : w1.cell? ⟨g, i, none⟩ = some (.int .i64 n) := (hb1.cell (p := ⟨g, i, none⟩) HBW.out.2.2).trans EE.out.2.2.2.2.2
                     have B1 : Hid (Below wr.heap.size wr w1) := hb1
                     clear hb hb1)
                  | (go_at_call 44; refine (ints.in_any x0 _ n _ (Sh.int.slice.mono (Sh.int.slice.below F0.out (HBW.out.1.trans (B1.out.mono HBW.out.1.size))) fun q hq => Nat.lt_of_lt_of_le hq (Nat.le_trans HBW.out.1.size B1.out.size))).mono ?_; rintro e w2 ⟨rfl, hb⟩
                     replace e0 : w2.cell? ⟨b, o + k * 5, none⟩ = some (.slice a0 x0.length c0) := (hb.cell (p := ⟨b, o + k * 5, none⟩) (show b < _ by have := HBW.out.2.1; have := HBW.out.1.size; have := B1.out.size; omega)).trans e0
                     replace e1 : w2.cell? ⟨b, o + k * 5 + 1, none⟩ = some (t0) := (hb.cell (p := ⟨b, o + k * 5 + 1, none⟩) (show b < _ by have := HBW.out.2.1; have := HBW.out.1.size; have := B1.out.size; omega)).trans e1
                     replace e2 : w2.cell? ⟨b, o + k * 5 + 2, none⟩ = some (t1) := (hb.cell (p := ⟨b, o + k * 5 + 2, none⟩) (show b < _ by have := HBW.out.2.1; have := HBW.out.1.size; have := B1.out.size; omega)).trans e2
                     replace e3 : w2.cell? ⟨b, o + k * 5 + 3, none⟩ = some (t2) := (hb.cell (p := ⟨b, o + k * 5 + 3, none⟩) (show b < _ by have := HBW.out.2.1; have := HBW.out.1.size; have := B1.out.size; omega)).trans e3
                     replace e4 : w2.cell? ⟨b, o + k * 5 + 4, none⟩ = some (t3) := (hb.cell (p := ⟨b, o + k * 5 + 4, none⟩) (show b < _ by have := HBW.out.2.1; have := HBW.out.1.size; have := B1.out.size; omega)).trans e4
                     replace cg : w2.cell? ⟨g, i, none⟩ = some (.int .i64 n) := (hb.cell (p := ⟨g, i, none⟩) (Nat.lt_of_lt_of_le HBW.out.2.2 B1.out.size)).trans cg
                     have B2 : Hid (Below wo.heap.size wo w2) := (HB.out.trans (B1.out.mono HB.out.size)).trans (hb.mono (Nat.le_trans HB.out.size B1.out.size))
                     clear hb))
              all_goals
                clear e0 e1 e2 e3 e4 cg
                go_wp2
                go_round
                case rel => exact ⟨k + 1, by omega, by go_num, by rw [HN.out], B2⟩
                case measure => simp [intOf]; omega
            · have hd : decide (n ∈ x0) = false := by simp [hin]
              rw [hh] at hcall1
              have HN : Hid ((ks.take (k + 1)).any (bad n) = true) := by show _ = _; rw [HA.out, hh, hd]; simp
              go_wp2_with fail
              go_region_held3 (fun W => W.cell? ⟨b, o + k * 5, none⟩ = some (.slice a0 x0.length c0) ∧ W.cell? ⟨b, o + k * 5 + 1, none⟩ = some (t0) ∧ W.cell? ⟨b, o + k * 5 + 2, none⟩ = some (t1) ∧ W.cell? ⟨b, o + k * 5 + 3, none⟩ = some (t2) ∧ W.cell? ⟨b, o + k * 5 + 4, none⟩ = some (t3) ∧ W.cell? ⟨g, i, none⟩ = some (.int .i64 n))
                (exact ⟨(by first | with_reducible exact e0 | ((repeat rw [cell_drewG]); with_reducible exact e0)), (by first | with_reducible exact e1 | ((repeat rw [cell_drewG]); with_reducible exact e1)), (by first | with_reducible exact e2 | ((repeat rw [cell_drewG]); with_reducible exact e2)), (by first | with_reducible exact e3 | ((repeat rw [cell_drewG]); with_reducible exact e3)), (by first | with_reducible exact e4 | ((repeat rw [cell_drewG]); with_reducible exact e4)), (by first | with_reducible exact cg | ((repeat rw [cell_drewG]); with_reducible exact cg))⟩)
                (first
                  | (go_at_call 43; refine hcall1.mono ?_; rintro e w1 ⟨rfl, hb⟩
                     have hb1 : Below wr.heap.size wr w1 := (Below.refl _ wr).drew.trans hb
                     replace e0 : w1.cell? ⟨b, o + k * 5, none⟩ = some (.slice a0 x0.length c0) := (hb1.cell (p := ⟨b, o + k * 5, none⟩) (show b < _ by have := HBW.out.2.1; have := HBW.out.1.size; omega)).trans EE.out.1
                     replace e1 : w1.cell? ⟨b, o + k * 5 + 1, none⟩ = some (t0) := (hb1.cell (p := ⟨b, o + k * 5 + 1, none⟩) (show b < _ by have := HBW.out.2.1; have := HBW.out.1.size; omega)).trans EE.out.2.1
                     replace e2 : w1.cell? ⟨b, o + k * 5 + 2, none⟩ = some (t1) := (hb1.cell (p := ⟨b, o + k * 5 + 2, none⟩) (show b < _ by have := HBW.out.2.1; have := HBW.out.1.size; omega)).trans EE.out.2.2.1
                     replace e3 : w1.cell? ⟨b, o + k * 5 + 3, none⟩ = some (t2) := (hb1.cell (p := ⟨b, o + k * 5 + 3, none⟩) (show b < _ by have := HBW.out.2.1; have := HBW.out.1.size; omega)).trans EE.out.2.2.2.1
                     replace e4 : w1.cell? ⟨b, o + k * 5 + 4, none⟩ = some (t3) := (hb1.cell (p := ⟨b, o + k * 5 + 4, none⟩) (show b < _ by have := HBW.out.2.1; have := HBW.out.1.size; omega)).trans EE.out.2.2.2.2.1
                     replace cg : w1.cell? ⟨g, i, none⟩ = some (.int .i64 n) := (hb1.cell (p := ⟨g, i, none⟩) HBW.out.2.2).trans EE.out.2.2.2.2.2
                     have B1 : Hid (Below wr.heap.size wr w1) := hb1
                     clear hb hb1)
                  | (go_at_call 44; refine (ints.in_any x0 _ n _ (Sh.int.slice.mono (Sh.int.slice.below F0.out (HBW.out.1.trans (B1.out.mono HBW.out.1.size))) fun q hq => Nat.lt_of_lt_of_le hq (Nat.le_trans HBW.out.1.size B1.out.size))).mono ?_; rintro e w2 ⟨rfl, hb⟩
                     replace e0 : w2.cell? ⟨b, o + k * 5, none⟩ = some (.slice a0 x0.length c0) := (hb.cell (p := ⟨b, o + k * 5, none⟩) (show b < _ by have := HBW.out.2.1; have := HBW.out.1.size; have := B1.out.size; omega)).trans e0
                     replace e1 : w2.cell? ⟨b, o + k * 5 + 1, none⟩ = some (t0) := (hb.cell (p := ⟨b, o + k * 5 + 1, none⟩) (show b < _ by have := HBW.out.2.1; have := HBW.out.1.size; have := B1.out.size; omega)).trans e1
                     replace e2 : w2.cell? ⟨b, o + k * 5 + 2, none⟩ = some (t1) := (hb.cell (p := ⟨b, o + k * 5 + 2, none⟩) (show b < _ by have := HBW.out.2.1; have := HBW.out.1.size; have := B1.out.size; omega)).trans e2
                     replace e3 : w2.cell? ⟨b, o + k * 5 + 3, none⟩ = some (t2) := (hb.cell (p := ⟨b, o + k * 5 + 3, none⟩) (show b < _ by have := HBW.out.2.1; have := HBW.out.1.size; have := B1.out.size; omega)).trans e3
                     replace e4 : w2.cell? ⟨b, o + k * 5 + 4, none⟩ = some (t3) := (hb.cell (p := ⟨b, o + k * 5 + 4, none⟩) (show b < _ by have := HBW.out.2.1; have := HBW.out.1.size; have := B1.out.size; omega)).trans e4
                     replace cg : w2.cell? ⟨g, i, none⟩ = some (.int .i64 n) := (hb.cell (p := ⟨g, i, none⟩) (Nat.lt_of_lt_of_le HBW.out.2.2 B1.out.size)).trans cg
                     have B2 : Hid (Below wo.heap.size wo w2) := (HB.out.trans (B1.out.mono HB.out.size)).trans (hb.mono (Nat.le_trans HB.out.size B1.out.size))
                     clear hb))
              all_goals
                clear e0 e1 e2 e3 e4 cg
                go_wp2
                go_round
                case rel => exact ⟨k + 1, by omega, by go_num, by rw [HN.out]; rfl, B2⟩
                case measure => simp [intOf]; omega
          · have hh' : bind.hasB x1 n = false := by simpa using hh
            rw [hh'] at hcall1
            have HN : Hid ((ks.take (k + 1)).any (bad n) = (ks.take k).any (bad n)) := by show _ = _; rw [HA.out, hh']; simp
            go_wp2_with fail
            refine wp_region_any (by kernel_rfl) ?_
            change wpAny _ _ _ _ _ _ _ (World.drew _)
            refine wpAny_take (i := 0) (v := .slice (some ⟨b, o, none⟩) ks.length cap) rfl (by kernel_rfl) (by kernel_rfl) (by kernel_rfl) (fun _ _ _ h => h) (Or.inl ⟨by kernel_rfl, ?_⟩) ?_
            · intro w; go_simp
            refine wpAny_take (i := 1) (v := .int .i64 k) rfl (by kernel_rfl) (by kernel_rfl) (by kernel_rfl) (fun _ _ _ h => h) (Or.inl ⟨by kernel_rfl, ?_⟩) ?_
            · intro w; go_simp
            refine wpAny_take (i := 2) (v := .pointer (some ⟨b, o + k * 5, none⟩)) rfl (by kernel_rfl) (by kernel_rfl) (by kernel_rfl) (fun _ _ _ h => h) (Or.inl ⟨by kernel_rfl, ?_⟩) ?_
            · intro w; go_simp
            refine wpAny_take (i := 3) (v := .pointer (some ⟨b, o + k * 5 + 1, none⟩)) rfl (by kernel_rfl) (by kernel_rfl) (by kernel_rfl) (fun _ _ _ h => h) (Or.inl ⟨by kernel_rfl, ?_⟩) ?_
            · intro w; go_simp
            refine wpAny_take (i := 5) (v := .slice (some ⟨g, 0, none⟩) vs.length cv) rfl (by kernel_rfl) (by kernel_rfl) (by kernel_rfl) (fun _ _ _ h => h) (Or.inl ⟨by kernel_rfl, ?_⟩) ?_
            · intro w; go_simp
            refine wpAny_take (i := 6) (v := .int .i64 i) rfl (by kernel_rfl) (by kernel_rfl) (by kernel_rfl) (fun _ _ _ h => h) (Or.inl ⟨by kernel_rfl, ?_⟩) ?_
            · intro w; go_simp
            refine wpAny_take (i := 7) (v := .pointer (some ⟨g, i, none⟩)) rfl (by kernel_rfl) (by kernel_rfl) (by kernel_rfl) (fun _ _ _ h => h) (Or.inl ⟨by kernel_rfl, ?_⟩) ?_
            · intro w; go_simp
            refine wpAny_ready (rs := [4, 8]) (by kernel_rfl) (by simp) ?_
            refine AllReady.cons rfl (fun K hK => ?_) (AllReady.cons rfl (fun K hK => ?_) AllReady.nil)
            · go_simp
              refine hK _ _ ?_
              clear hK K
              refine wpAny_ready (rs := [8]) (by kernel_rfl) (by simp) ?_
              refine AllReady.cons rfl (fun K hK => ?_) AllReady.nil
              go_simp
              refine hK _ _ ?_
              clear hK K
              refine wpAny_ready (rs := [9]) (by kernel_rfl) (by simp) ?_
              refine AllReady.cons rfl (fun K hK => ?_) AllReady.nil
              go_simp
              go_at_call 43
              refine hcall1.mono ?_
              rintro e w1 ⟨rfl, hb⟩
              have B2 : Hid (Below wo.heap.size wo w1) := HB.out.trans (((Below.refl _ wr).drew.trans hb).mono HB.out.size)
              clear hb e0 e1 e2 e3 e4 cg
              refine hK _ _ ?_
              clear hK K
              refine wpAny_take (i := 10) (v := .bool false) rfl (by kernel_rfl) (by kernel_rfl) (by kernel_rfl) (fun _ _ _ h => h) (Or.inl ⟨by kernel_rfl, ?_⟩) ?_
              · intro w; go_simp
              refine wpAny_take (i := 11) (v := undef) rfl (by kernel_rfl) (by kernel_rfl) (by kernel_rfl) (fun _ _ _ h => h) (Or.inr ⟨by kernel_rfl, rfl⟩) ?_
              refine wpAny_take (i := 12) (v := undef) rfl (by kernel_rfl) (by kernel_rfl) (by kernel_rfl) (fun _ _ _ h => h) (Or.inr ⟨by kernel_rfl, rfl⟩) ?_
              refine wpAny_take (i := 13) (v := undef) rfl (by kernel_rfl) (by kernel_rfl) (by kernel_rfl) (fun _ _ _ h => h) (Or.inr ⟨by kernel_rfl, rfl⟩) ?_
              refine wpAny_take (i := 14) (v := undef) rfl (by kernel_rfl) (by kernel_rfl) (by kernel_rfl) (fun _ _ _ h => h) (Or.inr ⟨by kernel_rfl, rfl⟩) ?_
              refine wpAny_take (i := 15) (v := undef) rfl (by kernel_rfl) (by kernel_rfl) (by kernel_rfl) (fun _ _ _ h => h) (Or.inr ⟨by kernel_rfl, rfl⟩) ?_
              refine wpAny_take (i := 16) (v := undef) rfl (by kernel_rfl) (by kernel_rfl) (by kernel_rfl) (fun _ _ _ h => h) (Or.inr ⟨by kernel_rfl, rfl⟩) ?_
              refine wpAny_take (i := 17) (v := undef) rfl (by kernel_rfl) (by kernel_rfl) (by kernel_rfl) (fun _ _ _ h => h) (Or.inr ⟨by kernel_rfl, rfl⟩) ?_
              refine wpAny_take (i := 18) (v := undef) rfl (by kernel_rfl) (by kernel_rfl) (by kernel_rfl) (fun _ _ _ h => h) (Or.inr ⟨by kernel_rfl, rfl⟩) ?_
              refine wpAny_take (i := 19) (v := undef) rfl (by kernel_rfl) (by kernel_rfl) (by kernel_rfl) (fun _ _ _ h => h) (Or.inr ⟨by kernel_rfl, rfl⟩) ?_
              refine wpAny_take (i := 20) (v := undef) rfl (by kernel_rfl) (by kernel_rfl) (by kernel_rfl) (fun _ _ _ h => h) (Or.inr ⟨by kernel_rfl, rfl⟩) ?_
              refine wpAny_take (i := 21) (v := undef) rfl (by kernel_rfl) (by kernel_rfl) (by kernel_rfl) (fun _ _ _ h => h) (Or.inr ⟨by kernel_rfl, rfl⟩) ?_
              refine wpAny_take (i := 22) (v := .bool false) rfl (by kernel_rfl) (by kernel_rfl) (by kernel_rfl) (fun _ _ _ h => h) (Or.inl ⟨by kernel_rfl, ?_⟩) ?_
              · intro w; go_simp
              refine wpAny_done (by kernel_rfl) ?_ _
              simp only [Act.put, List.getElem_toArray, List.getElem?_toArray, List.getElem_cons_succ, List.getElem_cons_zero, List.getElem?_cons_succ, List.getElem?_cons_zero, List.setIfInBounds_toArray, List.set_cons_succ, List.set_cons_zero]
              go_wp2
              go_round
              case rel => exact ⟨k + 1, by omega, by go_num, by rw [HN.out], B2⟩
              case measure => simp [intOf]; omega
            · go_simp
              refine hK _ _ ?_
              clear hK K
              refine wpAny_ready (rs := [4]) (by kernel_rfl) (by simp) ?_
              refine AllReady.cons rfl (fun K hK => ?_) AllReady.nil
              go_simp
              refine hK _ _ ?_
              clear hK K
              refine wpAny_ready (rs := [9]) (by kernel_rfl) (by simp) ?_
              refine AllReady.cons rfl (fun K hK => ?_) AllReady.nil
              go_simp
              go_at_call 43
              refine hcall1.mono ?_
              rintro e w1 ⟨rfl, hb⟩
              have B2 : Hid (Below wo.heap.size wo w1) := HB.out.trans (((Below.refl _ wr).drew.trans hb).mono HB.out.size)
              clear hb e0 e1 e2 e3 e4 cg
              refine hK _ _ ?_
              clear hK K
              refine wpAny_take (i := 10) (v := .bool false) rfl (by kernel_rfl) (by kernel_rfl) (by kernel_rfl) (fun _ _ _ h => h) (Or.inl ⟨by kernel_rfl, ?_⟩) ?_
              · intro w; go_simp
              refine wpAny_take (i := 11) (v := undef) rfl (by kernel_rfl) (by kernel_rfl) (by kernel_rfl) (fun _ _ _ h => h) (Or.inr ⟨by kernel_rfl, rfl⟩) ?_
              refine wpAny_take (i := 12) (v := undef) rfl (by kernel_rfl) (by kernel_rfl) (by kernel_rfl) (fun _ _ _ h => h) (Or.inr ⟨by kernel_rfl, rfl⟩) ?_
              refine wpAny_take (i := 13) (v := undef) rfl (by kernel_rfl) (by kernel_rfl) (by kernel_rfl) (fun _ _ _ h => h) (Or.inr ⟨by kernel_rfl, rfl⟩) ?_
              refine wpAny_take (i := 14) (v := undef) rfl (by kernel_rfl) (by kernel_rfl) (by kernel_rfl) (fun _ _ _ h => h) (Or.inr ⟨by kernel_rfl, rfl⟩) ?_
              refine wpAny_take (i := 15) (v := undef) rfl (by kernel_rfl) (by kernel_rfl) (by kernel_rfl) (fun _ _ _ h => h) (Or.inr ⟨by kernel_rfl, rfl⟩) ?_
              refine wpAny_take (i := 16) (v := undef) rfl (by kernel_rfl) (by kernel_rfl) (by kernel_rfl) (fun _ _ _ h => h) (Or.inr ⟨by kernel_rfl, rfl⟩) ?_
              refine wpAny_take (i := 17) (v := undef) rfl (by kernel_rfl) (by kernel_rfl) (by kernel_rfl) (fun _ _ _ h => h) (Or.inr ⟨by kernel_rfl, rfl⟩) ?_
              refine wpAny_take (i := 18) (v := undef) rfl (by kernel_rfl) (by kernel_rfl) (by kernel_rfl) (fun _ _ _ h => h) (Or.inr ⟨by kernel_rfl, rfl⟩) ?_
              refine wpAny_take (i := 19) (v := undef) rfl (by kernel_rfl) (by kernel_rfl) (by kernel_rfl) (fun _ _ _ h => h) (Or.inr ⟨by kernel_rfl, rfl⟩) ?_
              refine wpAny_take (i := 20) (v := undef) rfl (by kernel_rfl) (by kernel_rfl) (by kernel_rfl) (fun _ _ _ h => h) (Or.inr ⟨by kernel_rfl, rfl⟩) ?_
              refine wpAny_take (i := 21) (v := undef) rfl (by kernel_rfl) (by kernel_rfl) (by kernel_rfl) (fun _ _ _ h => h) (Or.inr ⟨by kernel_rfl, rfl⟩) ?_
              refine wpAny_take (i := 22) (v := .bool false) rfl (by kernel_rfl) (by kernel_rfl) (by kernel_rfl) (fun _ _ _ h => h) (Or.inl ⟨by kernel_rfl, ?_⟩) ?_
              · intro w; go_simp
              refine wpAny_done (by kernel_rfl) ?_ _
              simp only [Act.put, List.getElem_toArray, List.getElem?_toArray, List.getElem_cons_succ, List.getElem_cons_zero, List.getElem?_cons_succ, List.getElem?_cons_zero, List.setIfInBounds_toArray, List.set_cons_succ, List.set_cons_zero]
              go_wp2
              go_round
              case rel => exact ⟨k + 1, by omega, by go_num, by rw [HN.out], B2⟩
              case measure => simp [intOf]; omega
        · obtain rfl : k = ks.length := by omega
          rw [List.take_length]
          have G1 : Hid (Gm w w3 wr (.slice (some ⟨g, 0, none⟩) vs.length cv) u5 vs ((vs.take i).filter fun n => !ks.any (bad n))) := HM.out.on HB.out
          have cg : wr.cell? ⟨g, i, none⟩ = some (.int .i64 n) := (HB.out.cell (p := ⟨g, i, none⟩) (show g < _ by have := HM.out.size; omega)).trans hcell
          have HF : Hid ((vs.take (i + 1)).filter (fun n => !ks.any (bad n)) = (vs.take i).filter (fun n => !ks.any (bad n)) ++ if ks.any (bad n) then [] else [n]) := by
            show _ = _
            rw [HT2.out.1, List.filter_append]
            cases hb : ks.any (bad n) <;> simp [hb]
          by_cases hb : ks.any (bad n) = true
          · rw [hb]
            rw [hb] at HF
            have G2 : Hid (Gm w w3 wr (.slice (some ⟨g, 0, none⟩) vs.length cv) u5 vs ((vs.take (i + 1)).filter fun n => !ks.any (bad n))) := by rw [HF.out]; simpa using G1
            go_wp2
            go_round
            case rel => exact ⟨i + 1, by omega, by go_num, G2⟩
            case measure => simp [intOf]; omega
          · have hb' : ks.any (bad n) = false := by simpa using hb
            rw [hb']
            rw [hb'] at HF
            have hlo : ((vs.take i).filter fun n => !ks.any (bad n)).length ≤ 1048577 := by
              have h1 := List.length_filter_le (fun n => !ks.any (bad n)) (vs.take i)
              rw [List.length_take] at h1; omega
            have hr := G1.out.out.1
            have HOL : Hid (∀ q, u5.ownBlock = some q → w.heap.size ≤ q ∧ q < wr.heap.size ∧ (q < w.heap.size + 2 ∨ w3.heap.size ≤ q)) := fun q hq => ⟨(G1.out.out.lt q hq).1, (G1.out.out.lt q hq).2, G1.out.olt q hq⟩
            obtain ⟨lo, hlo2⟩ : ∃ lo, lo = (vs.take i).filter fun n => !ks.any (bad n) := ⟨_, rfl⟩
            rw [← hlo2] at hr hlo G1 HF
            clear hlo2
            go_wp2_with (at_builtin; refine wpList_append_own_at _ rfl (.tmp 49) (.tmp 54) 25 rfl w.heap.size 3 ti _ 1 8 Try.underlying25 TI.out.1 TI.out.2.1 TI.out.2.2.1 TI.out.2.2.2 rfl (by decide) u5 lo.length _ rfl (hr.alloc _) ⟨wr.heap.size, 0, none⟩ 1 1 [.int .i64 n] rfl rfl (ints.one_cell _ n) (ints.one_one n) (by unfold maxLen; omega) (by omega) (by have := G1.out.bel.size; simp; omega) ?_; intro v' w5 hown5 hgrow5 hnil5 hat5)
            have G2 : Hid (Gm w w3 w5 (.slice (some ⟨g, 0, none⟩) vs.length cv) v' vs ((vs.take (i + 1)).filter fun n => !ks.any (bad n))) := by
              have hA : Below wr.heap.size wr (wr.alloc (.cells #[.int .i64 n] 3)) := (Below.refl _ _).alloc (Nat.le_refl _) _
              have hsz := hgrow5.size
              simp only [World.size_alloc] at hsz hat5
              have h3 := G1.out.size
              refine ⟨(G1.out.bel.trans (hA.mono G1.out.bel.size)).grown hgrow5 (by have := G1.out.bel.size; simp; omega) (fun q hq => (HOL.out q hq).1), by omega, ?_, G1.out.vlt, ?_, fun q hq => ?_, ?_⟩
              · obtain ⟨⟨hl, hv⟩, hin⟩ := G1.out.vars
                refine ⟨⟨hl, ?_⟩, hin⟩
                rcases hv with h0 | ⟨q, cp, cr, h1, h2, h3', h4⟩
                · exact Or.inl h0
                · have hq := (Array.getElem?_eq_some_iff.1 h3').1
                  have hql := G1.out.vlt q (by rw [h1]; rfl)
                  refine Or.inr ⟨q, cp, cr, h1, h2, ?_, h4⟩
                  rw [hgrow5.block q (by simp; omega) (fun e => by have := HOL.out q e.symm; omega), hA.block q hq]
                  exact h3'
              · rw [HF.out]
                refine ints.IRow.more ?_ G1.out.out.2 (fun x hx => by simp at hx; subst hx; exact HT2.out.2)
                simpa using hown5
              · rcases hat5 with h | h
                · exact (HOL.out q (h.symm.trans hq)).2.2
                · rw [h] at hq; simp only [Option.some.injEq] at hq; omega
              · exact fun e => by have := (hnil5.1 e).2; omega
            clear hown5 hgrow5 hnil5 hat5 hr
            go_round
            case rel => exact ⟨i + 1, by omega, by go_num, G2⟩
            case measure => simp [intOf]; omega
    · obtain rfl : i = vs.length := by omega
      have HO := HM.out
      rw [List.take_length] at HO
      have HSP : Hid (ints.intsSp.rep wo (fun b => w.heap.size ≤ b ∧ b < wo.heap.size) [u5] (gen ks T) ∧ Below w.heap.size w wo) := ⟨by rw [HG.out]; exact HO.out.sp, HO.bel⟩
      clear HO
      go_wp2
      go_ret
      exact ⟨⟨u5, rfl, HSP.out.1⟩, HSP.out.2⟩

end Go.Proofs.Ytklcjjckelahcaa.scheme
