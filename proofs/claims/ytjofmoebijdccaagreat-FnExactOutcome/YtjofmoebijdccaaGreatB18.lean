/-
  The model's l17There and l17Places, where HeapOk calls them.
  The model's HeapOk, at every heap; nothing that was there is turned.
  What a search among the cons of datas has met so far; answers of one and two ints. No program.
  The model's TagCon, at every list of datas; nothing that was there is turned.
-/
import Derived.Maps.AppendAt
import Derived.WalkSmall
import Derived.Deep.QuietTactic
import Derived.BigQuiet
import Derived.WalkKit
import Derived.WalkLawsBesides
import Derived.Test.YtjofmoebijdccaaGreatB1
import Derived.Test.YtjofmoebijdccaaGreatB2
import Derived.Test.YtjofmoebijdccaaGreatB3
import Derived.Test.YtjofmoebijdccaaGreatB4
import Derived.Test.YtjofmoebijdccaaGreatB5
import Derived.Test.YtjofmoebijdccaaGreatB6
import Derived.Test.YtjofmoebijdccaaGreatB7
import Derived.Test.YtjofmoebijdccaaGreatB8
import Derived.Test.YtjofmoebijdccaaGreatB9
import Derived.Test.YtjofmoebijdccaaGreatB10
import Derived.Test.YtjofmoebijdccaaGreatB11
import Derived.Test.YtjofmoebijdccaaGreatB12
import Derived.Test.YtjofmoebijdccaaGreatB13
import Derived.Test.YtjofmoebijdccaaGreatB14
import Derived.Test.YtjofmoebijdccaaGreatB15
import Derived.Test.YtjofmoebijdccaaGreatB16
import Derived.Test.YtjofmoebijdccaaGreatB17
namespace Go.Proofs.YtjofmoebijdccaaGreat.heap
open Go Go.RowKit Go.Proofs.YtjofmoebijdccaaGreat.rose Go.Proofs.YtjofmoebijdccaaGreat Go.Proofs.YtjofmoebijdccaaGreat.fun Go.Proofs.YtjofmoebijdccaaGreat.words Go.Proofs.YtjofmoebijdccaaGreat.ints
set_option linter.unusedVariables false
set_option linter.unusedSimpArgs false

set_option maxHeartbeats 2000000 in
theorem there_is {l : List Int} {x : Int} {b : Bool} (v : Value) (w : World) (hb : thereB l x = b) (h : intsSh.rep w (· < w.heap.size) [v] l) : Calls Tryz.prog 64 #[v, .int .i64 x] w fun e w' => e = .returned (.bool b) ∧ w' = w := by
  unfold thereB at hb
  obtain ⟨a, cap, hv⟩ : ∃ a c, v = .slice a l.length c := by obtain ⟨a, c, e⟩ := slice_cells h; simp only [List.cons.injEq, and_true] at e; exact ⟨a, c, e⟩
  rcases q : decide (x % 2 = 0) with _ | _
  · rw [if_neg (of_decide_eq_false q)] at hb
    clear h
    subst hv
    go_enter Tryz.func64, Tryz.ntmps64
    go_wp2_with (first | (go_at_call 65; refine (isref_is q).mono ?_; rintro e w' ⟨rfl, hx⟩; subst w') | (go_at_call 66; refine (wordint_is _ _).mono ?_; rintro e w' ⟨rfl, hx⟩; subst w') | (go_at_call 86; refine (words.word_is hb).mono ?_; rintro e w' ⟨rfl, hx⟩; subst w'))
    go_ret
    exact ⟨rfl, rfl⟩
  · rw [if_pos (of_decide_eq_true q)] at hb
    have hcall : Hid (Calls Tryz.prog 68 #[v, .int .i64 (x / 2)] w fun e w' => e = .returned (.bool b) ∧ w' = w) := in7_is v w hb h
    clear h hb
    subst hv
    go_enter Tryz.func64, Tryz.ntmps64
    go_wp2_with (first | (go_at_call 65; refine (isref_is q).mono ?_; rintro e w' ⟨rfl, hx⟩; subst w') | (go_at_call 67; refine (wordref_is _ _).mono ?_; rintro e w' ⟨rfl, hx⟩; subst w') | (go_at_call 68; refine hcall.out.mono ?_; rintro e w' ⟨rfl, hx⟩; subst w'))
    go_ret
    exact ⟨rfl, rfl⟩

theorem irow_push {w : World} {base : Nat} {a : Option Addr} {c : Nat} {l : List Int} {x : Int} (h : w.ownsRow base 3 1 (.slice a (l.length + 1) c) (l.length + 1) (l.map (Value.int .i64) ++ [.int .i64 x])) (hl : ∀ y ∈ l, InR y) (hx : InR x) : IRow w base (.slice a (l ++ [x]).length c) (l ++ [x]) := by
  refine ⟨by rw [List.length_append, List.length_singleton, List.map_append]; exact h, fun y hy => ?_⟩
  rcases List.mem_append.1 hy with hy | hy
  · exact hl y hy
  · simp only [List.mem_singleton] at hy; subst hy; exact hx
theorem irow_lit0 (w : World) {base : Nat} (h : base ≤ w.heap.size) : IRow (w.alloc (.cells #[] 3)) base (.slice (some ⟨w.heap.size, 0, none⟩) 0 0) [] :=
  ⟨World.ownsRow_lit w #[] 0 h (Nat.zero_le _) rfl, fun x hx => by cases hx⟩
theorem irow_base0 {w : World} {base base' : Nat} {v : Value} {l : List Int} (h : IRow w base v l) (hb : base' ≤ base) : IRow w base' v l := ⟨own_base h.1 hb, h.2⟩

/-- Where the loop over blocks stands. -/
structure LS (w wr : World) (cs : List Value) (v : Value) (T : HeapD) (p : Nat) (l : List Int) : Prop where
  arg : ArgK w wr cs 40
  row : IRow wr (w.heap.size + 1) v l
  all : plT T = (l ++ (plF T.1 T.2.2.2.toNat p).1, (plF T.1 T.2.2.2.toNat p).2)
  len : l.length ≤ p

set_option maxRecDepth 100000 in
set_option maxHeartbeats 8000000 in
theorem specPlacesOf (T : HeapD) (cs : List Value) (w : World) (hd : headB T = true) (h : heapSh.rep w (· < w.heap.size) cs T) :
    Calls Tryz.prog 46 #[.agg cs.toArray] w fun e w' => (∃ v' l, e = .returned (.tuple #[v', .bool (plT T).2]) ∧ IRow w' w.heap.size v' l ∧ ((plT T).2 = true → l = (plT T).1)) ∧ Below w.heap.size w w' := by
  obtain ⟨W, a0, c0, half, base, next, rfl, rfl, f0, f1, f2, f3⟩ := heap_open h
  obtain ⟨a, cap, e, hcap, hmax, hat⟩ := ints_open f0
  cases e
  have HA : Hid _ := hat
  have H1 := head_in hd
  dsimp only at H1
  obtain ⟨g1, g2, g3, g4, g5, g6⟩ := H1
  obtain ⟨hn, rfl⟩ : ∃ z : Nat, half = z := ⟨half.toNat, by omega⟩
  obtain ⟨bn, rfl⟩ : ∃ z : Nat, base = z := ⟨base.toNat, by omega⟩
  obtain ⟨nx, rfl⟩ : ∃ z : Nat, next = z := ⟨next.toNat, by omega⟩
  have hnl : nx ≤ W.length ∧ W.length ≤ 6000 := by omega
  obtain ⟨r, hr⟩ : ∃ r, r = plT (W, (hn : Int), (bn : Int), (nx : Int)) := ⟨_, rfl⟩
  have HR : Hid (r = plT (W, (hn : Int), (bn : Int), (nx : Int))) := hr
  rw [← hr]
  obtain ⟨ti, hti, hz0, hz1, hz2⟩ := int_info
  have TI : Hid (Tryz.prog.info? 3 = some ti ∧ ti.zero = some (.int .i64 0) ∧ ti.size = 1 ∧ ti.bytes = 8) := ⟨hti, hz0, hz1, hz2⟩
  obtain ⟨cs, hcs⟩ : ∃ cs : List Value, cs = [.slice a0 W.length c0, .int .i64 hn, .int .i64 bn, .int .i64 nx] := ⟨_, rfl⟩
  have HCS : Hid (cs = [.slice a0 W.length c0, .int .i64 hn, .int .i64 bn, .int .i64 nx]) := hcs
  have A0 : Hid (ArgK w (w.alloc (.cells #[.slice a0 W.length c0, .int .i64 hn, .int .i64 bn, .int .i64 nx] 40)) cs 40) := ArgK.new _ _ _ (by rw [hcs])
  have HPL : Hid (plT (W, (hn : Int), (bn : Int), (nx : Int)) = plF W nx bn) := by show _ = _; simp [plT]
  have hmx : (W.length : Int) ≤ 9223372036854775807 := by omega
  clear h f0 f1 f2 f3 hcap hmax hat hd hr hti hz0 hz1 hz2 hcs
  go_enter Tryz.func46, Tryz.ntmps46
  go_wp2
  go_loopw [4, 5] (fun v4 v5 wr => ∃ (p : Nat) (l : List Int) (a4 : Option Addr) (c4 : Nat), bn ≤ p ∧ p ≤ 6100 ∧ v5 = .int .i64 p ∧ v4 = .slice a4 l.length c4 ∧ Hid (LS w wr cs (.slice a4 l.length c4) (W, (hn : Int), (bn : Int), (nx : Int)) p l)) (fun _ v5 _ => 6200 - (intOf v5).toNat)
  case atStart =>
    refine ⟨bn, [], _, _, Nat.le_refl _, by omega, rfl, rfl, ⟨A0.out.on ((Below.refl _ _).alloc (Nat.le_refl _) _), ?_, by simp [plT], Nat.zero_le _⟩⟩
    have := irow_lit0 (w.alloc (.cells #[.slice a0 W.length c0, .int .i64 hn, .int .i64 bn, .int .i64 nx] 40)) (base := w.heap.size + 1) (by simp)
    rw [World.size_alloc] at this
    exact this
  case round =>
    obtain ⟨p, l, a4, c4, hbp, hp6, rfl, rfl, HL⟩ := hrel
    have k0 : wr.cell? ⟨w.heap.size, 0, none⟩ = some (.slice a0 W.length c0) := HL.out.arg.cell 0 (by rw [HCS.out]; rfl)
    have k3 : wr.cell? ⟨w.heap.size, 3, none⟩ = some (.int .i64 nx) := HL.out.arg.cell 3 (by rw [HCS.out]; rfl)
    have BW : Hid (Below w.heap.size w wr) := HL.out.arg.bel
    by_cases hlt : p < nx
    · obtain ⟨b, o, rfl, hS, hc, hr1, hr2⟩ := HA.out p (by omega)
      have e0 : wr.cell? ⟨b, o + p, none⟩ = some (.int .i64 W[p]) := (BW.out.cell (p := ⟨b, o + p, none⟩) hS).trans hc
      have hgd : W.getD p 0 = W[p] := by rw [List.getD_eq_getElem?_getD, List.getElem?_eq_getElem (by omega)]; rfl
      have pI : (p : Int) < (W.length : Int) := by omega
      have hcall := of_is W[p] wr hr1 hr2
      have hm := many_in W[p]
      obtain ⟨x, hx⟩ : ∃ x, x = W[p] := ⟨_, rfl⟩
      rw [← hx] at e0 hgd hcall hm hr1 hr2
      have HX : Hid (W.getD p 0 = x) := hgd
      obtain ⟨tg, htg⟩ : ∃ t, t = tagF x := ⟨_, rfl⟩
      obtain ⟨mn, hmn⟩ : ∃ t : Nat, (t : Int) = manyF x := ⟨(manyF x).toNat, by omega⟩
      rw [← htg, ← hmn] at hcall
      have HB : Hid (badH (W.getD p 0) ((nx : Int) - p) = (decide (x < 0) || decide (x % 2 = 0) || decide (3000 < tg) || decide (20 < (mn : Int)) || decide ((nx : Int) - p ≤ (mn : Int)))) := by show _ = _; rw [HX.out]; unfold badH; rw [← htg, ← hmn]
      have HMN : Hid ((manyF (W.getD p 0)).toNat = mn) := by show _ = _; rw [HX.out]; omega
      have hm63 : mn ≤ 63 := by omega
      have HBAD : Hid (badH (W.getD p 0) ((nx : Int) - p) = true → r = (l, false)) := fun hbd => by
        rw [HR.out, HL.out.all]
        show (l ++ (plF W (nx : Int).toNat p).1, (plF W (nx : Int).toNat p).2) = _
        rw [Int.toNat_natCast, plF_bad hlt hbd]; simp
      clear hc hx htg hmn hgd hm
      by_cases c1 : x < 0
      · have t1 : decide (x < 0) = true := by simpa using c1
        have HF : Hid (r = (l, false)) := HBAD.out (by rw [HB.out, t1]; rfl)
        go_wp2_with (first | (go_at_call 63; refine hcall.mono ?_; rintro e w' ⟨rfl, hx'⟩; subst w') | (go_at_call 65; refine (isref_is (by assumption)).mono ?_; rintro e w' ⟨rfl, hx'⟩; subst w'))
        go_ret2
        rw [HF.out]
        exact ⟨⟨_, l, rfl, irow_base0 HL.out.row (by omega), fun e => by cases e⟩, BW.out⟩
      have t1 : decide (x < 0) = false := by simpa using c1
      rcases t2 : decide (x % 2 = 0) with _ | _
      · by_cases c3 : 3000 < tg
        · have t3 : decide ((3000 : Int) < tg) = true := by simpa using c3
          have HF : Hid (r = (l, false)) := HBAD.out (by rw [HB.out, t3]; simp)
          go_wp2_with (first | (go_at_call 63; refine hcall.mono ?_; rintro e w' ⟨rfl, hx'⟩; subst w') | (go_at_call 65; refine (isref_is (by assumption)).mono ?_; rintro e w' ⟨rfl, hx'⟩; subst w'))
          go_ret2
          rw [HF.out]
          exact ⟨⟨_, l, rfl, irow_base0 HL.out.row (by omega), fun e => by cases e⟩, BW.out⟩
        have t3 : decide ((3000 : Int) < tg) = false := by simpa using c3
        by_cases z4 : 20 < mn
        · have t4 : decide ((20 : Int) < (mn : Int)) = true := by simp; omega
          have HF : Hid (r = (l, false)) := HBAD.out (by rw [HB.out, t4]; simp)
          go_wp2_with (first | (go_at_call 63; refine hcall.mono ?_; rintro e w' ⟨rfl, hx'⟩; subst w') | (go_at_call 65; refine (isref_is (by assumption)).mono ?_; rintro e w' ⟨rfl, hx'⟩; subst w'))
          go_ret2
          rw [HF.out]
          exact ⟨⟨_, l, rfl, irow_base0 HL.out.row (by omega), fun e => by cases e⟩, BW.out⟩
        have t4 : decide ((20 : Int) < (mn : Int)) = false := by simp; omega
        by_cases c5 : (nx : Int) - p ≤ (mn : Int)
        · have t5 : decide ((nx : Int) - (p : Int) ≤ (mn : Int)) = true := by simpa using c5
          have HF : Hid (r = (l, false)) := HBAD.out (by rw [HB.out, t5]; simp)
          go_wp2_with (first | (go_at_call 63; refine hcall.mono ?_; rintro e w' ⟨rfl, hx'⟩; subst w') | (go_at_call 65; refine (isref_is (by assumption)).mono ?_; rintro e w' ⟨rfl, hx'⟩; subst w'))
          go_ret2
          rw [HF.out]
          exact ⟨⟨_, l, rfl, irow_base0 HL.out.row (by omega), fun e => by cases e⟩, BW.out⟩
        have t5 : decide ((nx : Int) - (p : Int) ≤ (mn : Int)) = false := by simpa using c5
        have HF : Hid (badH (W.getD p 0) ((nx : Int) - p) = false) := by show _ = _; rw [HB.out, t1, t2, t3, t4, t5]; rfl
        have HO : Hid (∀ g, (Value.slice a4 l.length c4).ownBlock = some g → w.heap.size + 1 ≤ g ∧ g < wr.heap.size) := fun g hg => HL.out.row.lt g hg
        have RD : Hid (∀ X, (wr.alloc X).ownsRow (w.heap.size + 1) 3 1 (.slice a4 l.length c4) l.length (l.map (Value.int .i64))) := fun X => (HL.out.row.keep ((Below.refl _ _).alloc (Nat.le_refl _) X)).1
        have hll : l.length ≤ 6100 := by have := HL.out.len; omega
        have ZW : Hid (w.heap.size < wr.heap.size) := HL.out.arg.lt
        go_wp2_with (first
          | (go_at_call 63; refine hcall.mono ?_; rintro e w' ⟨rfl, hx'⟩; subst w')
          | (go_at_call 65; refine (isref_is (by assumption)).mono ?_; rintro e w' ⟨rfl, hx'⟩; subst w')
          | (at_builtin; refine wpList_append_own_at _ rfl (.tmp 51) (.tmp 53) 24 rfl (w.heap.size + 1) 3 ti _ 1 8 Tryz.underlying24 TI.out.1 TI.out.2.1 TI.out.2.2.1 TI.out.2.2.2 rfl (by decide) (.slice a4 l.length c4) _ _ rfl (RD.out _) ⟨wr.heap.size, 0, none⟩ 1 1 [.int .i64 p] rfl rfl (new_cell _ _ _) (by simp; rfl) (by unfold maxLen; omega) (by omega) (by have := ZW.out; simp; omega) ?_; intro v6 w6 o6 g6 n6 e6; obtain ⟨a6, c6, rfl⟩ := own_form o6))
        have NX : Hid (LS w w6 cs (.slice a6 (l ++ [(p : Int)]).length c6) (W, (hn : Int), (bn : Int), (nx : Int)) (p + 1 + mn) (l ++ [(p : Int)])) := by
          have hA : Below wr.heap.size wr (wr.alloc (.cells #[.int .i64 p] 3)) := (Below.refl _ _).alloc (Nat.le_refl _) _
          have hz := ZW.out
          refine ⟨⟨(BW.out.trans (hA.mono (by omega))).grown g6 (by simp; omega) fun g hg => by have := (HO.out g hg).1; omega, ?_⟩, irow_push o6 HL.out.row.2 (by unfold InR; omega), ?_, by rw [List.length_append, List.length_singleton]; have := HL.out.len; omega⟩
          · exact (g6.block _ (by simp; omega) fun e => by have := (HO.out _ e.symm).1; omega).trans ((hA.block _ hz).trans HL.out.arg.blk)
          · rw [HL.out.all]
            show (l ++ (plF W (nx : Int).toNat p).1, (plF W (nx : Int).toNat p).2) = (_ ++ (plF W (nx : Int).toNat _).1, (plF W (nx : Int).toNat _).2)
            rw [Int.toNat_natCast, plF_more hlt HF.out, HMN.out]; simp
        clear o6 g6 n6 e6
        go_round
        case rel => exact ⟨p + 1 + mn, l ++ [(p : Int)], a6, c6, by omega, by omega, by go_num, by simp, NX⟩
        case measure => simp [intOf]; omega
      · have HF : Hid (r = (l, false)) := HBAD.out (by rw [HB.out, t2]; simp)
        go_wp2_with (first | (go_at_call 63; refine hcall.mono ?_; rintro e w' ⟨rfl, hx'⟩; subst w') | (go_at_call 65; refine (isref_is (by assumption)).mono ?_; rintro e w' ⟨rfl, hx'⟩; subst w'))
        go_ret2
        rw [HF.out]
        exact ⟨⟨_, l, rfl, irow_base0 HL.out.row (by omega), fun e => by cases e⟩, BW.out⟩
    · have HE : Hid (r = (l, true)) := by
        show _ = _; rw [HR.out, HL.out.all]
        show (l ++ (plF W (nx : Int).toNat p).1, (plF W (nx : Int).toNat p).2) = _
        rw [Int.toNat_natCast, plF_end (by omega)]; simp
      go_wp2
      go_ret2
      rw [HE.out]
      exact ⟨⟨_, l, rfl, irow_base0 HL.out.row (by omega), fun _ => rfl⟩, BW.out⟩

end Go.Proofs.YtjofmoebijdccaaGreat.heap

namespace Go.Proofs.YtjofmoebijdccaaGreat.heap
open Go Go.RowKit Go.Proofs.YtjofmoebijdccaaGreat.rose Go.Proofs.YtjofmoebijdccaaGreat Go.Proofs.YtjofmoebijdccaaGreat.fun Go.Proofs.YtjofmoebijdccaaGreat.words Go.Proofs.YtjofmoebijdccaaGreat.ints
set_option linter.unusedVariables false
set_option linter.unusedSimpArgs false

theorem drewN_below {B : Nat} {w w' : World} (h : Below B w w') (n : Nat) : Below B w (w'.drewN n) := ⟨h.os, h.tape, h.output, h.size, h.block⟩
theorem drewN_arg {w wk : World} {cs : List Value} {t : TypeId} (h : ArgK w wk cs t) (n : Nat) : ArgK w (wk.drewN n) cs t := ⟨drewN_below h.bel n, h.blk⟩
theorem drewN_row {w : World} {base : Nat} {v : Value} {l : List Int} (h : IRow w base v l) (n : Nat) : IRow (w.drewN n) base v l := h
theorem getD_at {W : List Int} {p : Nat} (h : p < W.length) : W.getD p 0 = W[p] := by rw [List.getD_eq_getElem?_getD, List.getElem?_eq_getElem h]; rfl

/-- Where the loops over blocks and their kids stand. -/
structure HK (w wr : World) (cs : List Value) (v : Value) (l : List Int) : Prop where
  arg : ArgK w wr cs 40
  row : IRow wr (w.heap.size + 1) v l
theorem HK.drewN {w wr : World} {cs : List Value} {v : Value} {l : List Int} (h : HK w wr cs v l) (n : Nat) : HK w (wr.drewN n) cs v l := ⟨drewN_arg h.arg n, drewN_row h.row n⟩

set_option maxRecDepth 100000 in
set_option maxHeartbeats 16000000 in
theorem specHeapOk (T : HeapD) (cs : List Value) (w : World) (h : heapSh.rep w (· < w.heap.size) cs T) :
    Calls Tryz.prog 45 #[.agg cs.toArray] w fun e w' => e = .returned (.bool (heapB T)) ∧ Below w.heap.size w w' := by
  have AH : Hid (∀ w' : World, Below w.heap.size w w' → heapSh.rep w' (· < w'.heap.size) cs T) := fun w' hb => heapSh.mono (heapSh.below h hb) fun b hlt => Nat.lt_of_lt_of_le hlt hb.size
  obtain ⟨W, a0, c0, half, base, next, rfl, rfl, f0, f1, f2, f3⟩ := heap_open h
  obtain ⟨a, cap, e, hcap, hmax, hat⟩ := ints_open f0
  cases e
  have HA : Hid _ := hat
  have hmx : (W.length : Int) ≤ 9223372036854775807 := by unfold maxLen at hmax; omega
  obtain ⟨r, hr⟩ : ∃ r, r = heapB (W, half, base, next) := ⟨_, rfl⟩
  have HR : Hid (r = heapB (W, half, base, next)) := hr
  rw [← hr]
  have BA : Hid (Below w.heap.size w (w.alloc (.cells #[.slice a0 W.length c0, .int .i64 half, .int .i64 base, .int .i64 next] 40))) := (Below.refl _ _).alloc (Nat.le_refl _) _
  clear h f0 hcap hmax hat hr
  rcases q1 : inB half 1 3000 with _ | _
  · have HF : Hid (r = false) := by show _ = _; rw [HR.out]; exact heapB_head (by unfold headB; rw [q1]; rfl)
    go_enter Tryz.func45, Tryz.ntmps45
    go_wp2_with (go_at_call 62; refine (in_is (by assumption)).mono ?_; rintro e w' ⟨rfl, hx⟩; subst w')
    go_ret
    exact ⟨ret_b HF.out.symm, BA.out⟩
  have g1 := inB_yes q1
  by_cases q2 : (W.length : Int) = 2 * half
  case neg =>
    have t2 : ((W.length : Int) != 2 * half) = true := by simpa using q2
    have HF : Hid (r = false) := by show _ = _; rw [HR.out]; exact heapB_head (by unfold headB; simp [q2])
    go_enter Tryz.func45, Tryz.ntmps45
    go_wp2_with (go_at_call 62; refine (in_is (by assumption)).mono ?_; rintro e w' ⟨rfl, hx⟩; subst w')
    go_ret
    exact ⟨ret_b HF.out.symm, BA.out⟩
  have t2 : ((W.length : Int) != 2 * half) = false := by simpa using q2
  by_cases q3 : base = 0 ∨ base = half
  case neg =>
    have t3 : (base != 0) = true := by simp; omega
    have t3' : (base != half) = true := by simp; omega
    have HF : Hid (r = false) := by show _ = _; rw [HR.out]; exact heapB_head (by unfold headB; simp; omega)
    go_enter Tryz.func45, Tryz.ntmps45
    go_wp2_with (go_at_call 62; refine (in_is (by assumption)).mono ?_; rintro e w' ⟨rfl, hx⟩; subst w')
    go_ret
    exact ⟨ret_b HF.out.symm, BA.out⟩
  have T3 : Hid ((base != 0) = false ∨ ((base != 0) = true ∧ (base != half) = false)) := by
    show _ ∨ _
    by_cases z : base = 0
    · exact .inl (by simpa using z)
    · exact .inr ⟨by simpa using z, by simp; omega⟩
  rcases q4 : inB next base (base + half) with _ | _
  · have HF : Hid (r = false) := by show _ = _; rw [HR.out]; exact heapB_head (by unfold headB; dsimp only; rw [q4]; simp)
    rcases T3.out with t3 | ⟨t3, t3'⟩
    all_goals
      go_enter Tryz.func45, Tryz.ntmps45
      go_wp2_with (go_at_call 62; refine (in_is (by assumption)).mono ?_; rintro e w' ⟨rfl, hx⟩; subst w')
      go_ret
      exact ⟨ret_b HF.out.symm, BA.out⟩
  have g4 := inB_yes q4
  have HD : Hid (headB (W, half, base, next) = true) := by
    show _ = _; unfold headB; dsimp only; rw [q1, q4]; simp; exact ⟨by omega, q3⟩
  have A0 : Hid (ArgK w (w.alloc (.cells #[.slice a0 W.length c0, .int .i64 half, .int .i64 base, .int .i64 next] 40)) [.slice a0 W.length c0, .int .i64 half, .int .i64 base, .int .i64 next] 40) := ArgK.new _ _ _ rfl
  have hcall := specPlacesOf (W, half, base, next) [.slice a0 W.length c0, .int .i64 half, .int .i64 base, .int .i64 next] _ HD.out (AH.out _ BA.out)
  obtain ⟨pl, hpl⟩ : ∃ pl, pl = plT (W, half, base, next) := ⟨_, rfl⟩
  have HPL : Hid (pl = plT (W, half, base, next)) := hpl
  rw [← hpl] at hcall
  clear hpl f1 f2 f3
  rcases T3.out with t3 | ⟨t3, t3'⟩
  all_goals
    go_enter Tryz.func45, Tryz.ntmps45
    go_wp2_with (go_at_call 62; refine (in_is (by assumption)).mono ?_; rintro e w' ⟨rfl, hx⟩; subst w')
    refine hcall.mono ?_
    rintro e w1 ⟨⟨v1, l, rfl, hr1, hl1⟩, hb1⟩
    have A1 : Hid (ArgK w w1 [.slice a0 W.length c0, .int .i64 half, .int .i64 base, .int .i64 next] 40) := A0.out.on hb1
    clear hcall
    rcases q5 : pl.2 with _ | _
    · have HF : Hid (r = false) := by show _ = _; rw [HR.out]; exact heapB_places (by rw [← HPL.out]; exact q5)
      clear hr1 hl1 hb1 q5
      go_wp2
      go_ret
      exact ⟨ret_b HF.out.symm, A1.out.bel⟩
    · have hle : l = pl.1 := hl1 q5
      have HLE : Hid (l = (plT (W, half, base, next)).1 ∧ (plT (W, half, base, next)).2 = true) := ⟨by rw [← HPL.out]; exact hle, by rw [← HPL.out]; exact q5⟩
      rw [World.size_alloc] at hr1
      obtain ⟨a1, c1, hv1⟩ := own_form hr1.1
      subst hv1
      have K1 : Hid (HK w w1 [.slice a0 W.length c0, .int .i64 half, .int .i64 base, .int .i64 next] (.slice a1 l.length c1) l) := ⟨A1.out, hr1⟩
      have HIN : Hid (∀ i (hi : i < l.length), ∃ q : Nat, l[i] = q ∧ q + (manyF (W.getD q 0)).toNat < W.length) := fun i hi => by
        obtain ⟨q, hq, -, h2⟩ := plF_in (W := W) (nx := next.toNat) (p := base.toNat) HLE.out.2 l[i] ((fun y (hy : y ∈ l) => by have e := HLE.out.1; rw [e] at hy; exact hy : ∀ y, y ∈ l → y ∈ (plF W next.toNat base.toNat).1) _ (List.getElem_mem hi))
        exact ⟨q, hq, by omega⟩
      have hll : l.length ≤ 6000 := by
        have := plF_len (W := W) (nx := next.toNat) (p := base.toNat)
        rw [HLE.out.1]; unfold plT; dsimp only; omega
      clear hr1 hl1 hb1 q5 hle A1
      obtain ⟨cs, hcs⟩ : ∃ cs : List Value, cs = [.slice a0 W.length c0, .int .i64 half, .int .i64 base, .int .i64 next] := ⟨_, rfl⟩
      rw [← hcs] at K1
      have HCS : Hid (cs[0]? = some (.slice a0 W.length c0)) := by show _ = _; rw [hcs]; rfl
      clear hcs AH A0 BA
      go_wp2
      go_loopw [5] (fun v5 wr => ∃ i : Nat, i ≤ l.length ∧ v5 = .int .i64 i ∧ Hid (HK w wr cs (.slice a1 l.length c1) l) ∧ Hid (∀ j (hj : j < l.length), j < i → kidsB (W, half, base, next) (l[j]).toNat = true)) (fun v5 _ => l.length - (intOf v5).toNat)
      case atStart => exact ⟨0, Nat.zero_le _, rfl, K1, fun j _ hj => absurd hj (Nat.not_lt_zero _)⟩
      case round =>
        obtain ⟨i, hi, rfl, HQ, HJ⟩ := hrel
        by_cases hlt : i < l.length
        · obtain ⟨q, hq, hqm⟩ := HIN.out i hlt
          have hql : q < W.length := by omega
          obtain ⟨b, o, rfl, hS, hc, r1, r2⟩ := HA.out q hql
          rcases HQ.out.row.open with ⟨-, h0⟩ | ⟨g, cp, hv, -, -, -, -, hcl, -⟩
          · rw [h0] at hlt; simp at hlt
          cases hv
          have e0 : wr.cell? ⟨g, i, none⟩ = some (.int .i64 q) := by rw [← hq]; exact hcl i hlt
          have e1 : wr.cell? ⟨b, o + q, none⟩ = some (.int .i64 W[q]) := (HQ.out.arg.bel.cell (p := ⟨b, o + q, none⟩) hS).trans hc
          have k0 : wr.cell? ⟨w.heap.size, 0, none⟩ = some (.slice (some ⟨b, o, none⟩) W.length c0) := HQ.out.arg.cell 0 HCS.out
          have hm := many_in W[q]
          have hgd := getD_at hql
          obtain ⟨x, hx⟩ : ∃ x, x = W[q] := ⟨_, rfl⟩
          rw [← hx] at e1 hm hgd r1 r2
          obtain ⟨mn, hmn⟩ : ∃ t : Nat, (t : Int) = manyF x := ⟨(manyF x).toNat, by omega⟩
          have HMN : Hid ((manyF (W.getD q 0)).toNat = mn) := by show _ = _; rw [hgd]; omega
          have hqk : q + mn < W.length := by rw [HMN.out] at hqm; exact hqm
          have hm63 : mn ≤ 63 := by omega
          have OF : Hid (∀ W' : World, Calls Tryz.prog 63 #[.int .i64 x] W' fun e w' => e = .returned (.tuple #[.bool (funF x), .int .i64 (tagF x), .int .i64 mn]) ∧ w' = W') := fun W' => by rw [hmn]; exact of_is x W' r1 r2
          have HLI : Hid (l[i] = (q : Int)) := hq
          have iI : (i : Int) < (l.length : Int) := by omega
          have qI : (q : Int) < (W.length : Int) := by omega
          clear hc hcl hx hmn hm hgd hq hqm r1 r2
          go_wp2
          go_quiet ((go_at_call 63; exact Calls.quiet_of_same (OF.out _)))
          have K2 : Hid (HK w (wr.drewN nq) cs (.slice (some ⟨g, 0, none⟩) l.length c1) l) := HQ.out.drewN nq
          clear e0 e1 k0
          go_wp2
          go_loopw [9] (fun v9 wi => ∃ k : Nat, 1 ≤ k ∧ k ≤ mn + 1 ∧ v9 = .int .i64 k ∧ Hid (HK w wi cs (.slice (some ⟨g, 0, none⟩) l.length c1) l) ∧ Hid (∀ j, j + 1 < k → thereB l (W.getD (q + 1 + j) 0) = true)) (fun v9 _ => mn + 2 - (intOf v9).toNat)
          case atStart => exact ⟨1, Nat.le_refl _, by omega, rfl, K2, fun j hj => by omega⟩
          case round =>
            obtain ⟨k, hk1, hk2, rfl, HP, HT⟩ := hrel
            by_cases hkm : k ≤ mn
            · have hqk2 : q + k < W.length := by omega
              obtain ⟨b', o', hbo, hS', hc', r1, r2⟩ := HA.out (q + k) hqk2
              cases hbo
              rcases HP.out.row.open with ⟨h0, -⟩ | ⟨g', cp', hv', -, -, -, -, hcl', -⟩
              · cases h0
              cases hv'
              have e0 : wr.cell? ⟨g, i, none⟩ = some (.int .i64 q) := by rw [← HLI.out]; exact hcl' i hlt
              have e1 : wr.cell? ⟨b, o + (q + k), none⟩ = some (.int .i64 W[q + k]) := (HP.out.arg.bel.cell (p := ⟨b, o + (q + k), none⟩) hS').trans hc'
              have k0 : wr.cell? ⟨w.heap.size, 0, none⟩ = some (.slice (some ⟨b, o, none⟩) W.length c0) := HP.out.arg.cell 0 HCS.out
              have hsp := HP.out.row.sp
              have REP : Hid (intsSh.rep wr (· < wr.heap.size) [.slice (some ⟨g, 0, none⟩) l.length c1] l) := intsSh.mono (intsp_rep hsp) fun q hq => hq.2
              have hgd := getD_at hqk2
              obtain ⟨y, hy⟩ : ∃ y, y = W[q + k] := ⟨_, rfl⟩
              rw [← hy] at e1 hgd r1 r2
              obtain ⟨k', rfl⟩ : ∃ k', k = k' + 1 := ⟨k - 1, by omega⟩
              have HG : Hid (W.getD (q + 1 + k') 0 = y) := by show _ = _; rw [show q + 1 + k' = q + (k' + 1) by omega]; exact hgd
              have qkI : (q : Int) + ((k' : Int) + 1) < (W.length : Int) := by omega
              clear hc' hcl' hsp hy hgd
              rcases q6 : thereB l y with _ | _
              · have HF : Hid (r = false) := by
                  have hnk : kidsB (W, half, base, next) q = false := kids_no (k := k') (by show k' < (manyF (W.getD q 0)).toNat; rw [HMN.out]; omega) (by show thereB (plT _).1 (W.getD (q + 1 + k') 0) = false; rw [HG.out, ← HLE.out.1]; exact q6)
                  show _ = _
                  rw [HR.out]
                  refine heapB_kids (i := i) (by rw [← HLE.out.1]; exact hlt) ?_
                  have : (plT (W, half, base, next)).1[i]'(by rw [← HLE.out.1]; exact hlt) = (q : Int) := by rw [← HLI.out]; simp only [HLE.out.1]
                  rw [this, Int.toNat_natCast]; exact hnk
                go_wp2
                go_quiet ((go_at_call 64; exact Calls.quiet_of_same (there_is _ _ q6 (intsSh.on REP.out fun _ _ => rfl))))
                go_wp2
                go_ret
                exact ⟨ret_b HF.out.symm, drewN_below HP.out.arg.bel _⟩
              · have HT2 : Hid (∀ j, j + 1 < k' + 1 + 1 → thereB l (W.getD (q + 1 + j) 0) = true) := fun j hj => by
                  by_cases e : j = k'
                  · subst e; rw [HG.out]; exact q6
                  · exact HT.out j (by omega)
                go_wp2
                go_quiet ((go_at_call 64; exact Calls.quiet_of_same (there_is _ _ q6 (intsSh.on REP.out fun _ _ => rfl))))
                go_wp2
                go_round
                case rel => exact ⟨k' + 1 + 1, by omega, by omega, by go_num, HP.out.drewN _, HT2⟩
                case measure => simp [intOf]; omega
            · obtain rfl : k = mn + 1 := by omega
              have HJ2 : Hid (∀ j (hj : j < l.length), j < i + 1 → kidsB (W, half, base, next) (l[j]).toNat = true) := fun j hj h1 => by
                by_cases e : j = i
                · subst e
                  rw [HLI.out, Int.toNat_natCast]
                  refine kids_yes fun z hz => ?_
                  have hz' : z < (manyF (W.getD q 0)).toNat := hz
                  rw [HMN.out] at hz'
                  have := HT.out z (by omega)
                  rw [HLE.out.1] at this
                  exact this
                · exact HJ.out j hj (by omega)
              go_wp2
              go_round
              case rel => exact ⟨i + 1, by omega, by go_num, HP, HJ2⟩
              case measure => simp [intOf]; omega
        · obtain rfl : i = l.length := by omega
          have HF : Hid (r = true) := by
            show _ = _
            rw [HR.out]
            refine heapB_yes HD.out HLE.out.2 fun j hj => ?_
            have hj' : j < l.length := by rw [HLE.out.1]; exact hj
            have := HJ.out j hj' hj'
            simpa only [HLE.out.1] using this
          go_wp2
          go_ret
          exact ⟨ret_b HF.out.symm, HQ.out.arg.bel⟩

end Go.Proofs.YtjofmoebijdccaaGreat.heap

namespace Go.Proofs.YtjofmoebijdccaaGreat.data
open Go.RowKit Go.Proofs.YtjofmoebijdccaaGreat.rose Go.Proofs.YtjofmoebijdccaaGreat
set_option linter.unusedVariables false
set_option linter.unusedSimpArgs false

theorem ret_pair {a b c d : Int} (h1 : a = c) (h2 : b = d) : Ending.returned (.tuple #[.int .i64 a, .int .i64 b]) = Ending.returned (.tuple #[.int .i64 c, .int .i64 d]) := by rw [h1, h2]
theorem ret_int {a b : Int} (h : a = b) : Ending.returned (.int .i64 a) = Ending.returned (.int .i64 b) := by rw [h]

theorem wts_con {ks : List DataD} {i : Nat} (h : i < ks.length) : ks[i].2.2.length ≤ wts ks := by
  have h1 := wt_mem (List.getElem_mem h)
  have h2 : ks[i].2.2.length ≤ wt ks[i] := by
    obtain ⟨x0, x1, x2⟩ := ks[i]
    simp [wt]; omega
  omega

/-- None ahead of (i, j) has that name. -/
def NoneYet (ks : List DataD) (name : ByteArray) (i j : Nat) : Prop := ∀ y ∈ ahead ks i j, named name y = false

theorem yet_step {ks : List DataD} {name : ByteArray} {i j : Nat} (h : NoneYet ks name i j) (hi : i < ks.length) (hj : j < ks[i].2.2.length) (hn : (ks[i].2.2[j].1.toList == name.toList) = false) : NoneYet ks name i (j + 1) := by
  intro y hy
  rw [ahead_step hi hj, List.mem_append] at hy
  rcases hy with hy | hy
  · exact h y hy
  · simp at hy
    subst hy
    exact hn
theorem yet_next {ks : List DataD} {name : ByteArray} {i : Nat} (hi : i < ks.length) (h : NoneYet ks name i ks[i].2.2.length) : NoneYet ks name (i + 1) 0 := by
  unfold NoneYet at *
  rw [← ahead_next hi]
  exact h
theorem yet_found {ks : List DataD} {name : ByteArray} {i j : Nat} (h : NoneYet ks name i j) (hi : i < ks.length) (hj : j < ks[i].2.2.length) (hn : (ks[i].2.2[j].1.toList == name.toList) = true) : placeB ks name = (((total (ks.take i) + j : Nat) : Int), (i : Int), (j : Int)) := by
  unfold placeB
  rw [find_pre (x := ⟨total (ks.take i) + j, i, j, ks[i].2.2[j]⟩) (pre := ahead ks i j) (by rw [← ahead_step hi hj]; exact ahead_prefix hi hj) h hn]
  rfl
theorem yet_end {ks : List DataD} {name : ByteArray} (h : NoneYet ks name ks.length 0) : placeB ks name = (-1, -1, -1) := by
  unfold NoneYet at h
  rw [ahead_end] at h
  unfold placeB
  rw [find_no h]
  rfl

end Go.Proofs.YtjofmoebijdccaaGreat.data

namespace Go.Proofs.YtjofmoebijdccaaGreat.data
open Go.RowKit Go.Proofs.YtjofmoebijdccaaGreat.rose Go.Proofs.YtjofmoebijdccaaGreat
set_option linter.unusedVariables false
set_option linter.unusedSimpArgs false

set_option maxRecDepth 100000 in
set_option maxHeartbeats 2000000 in
theorem specTagCon (ks : List DataD) (v : Value) (tag : Int) (w : World) (h0 : -9223372036854775808 ≤ tag) (h1 : tag ≤ 9223372036854775807) (hw : ks.length + wts ks ≤ 1048576) (h : dataSh.slice.rep w (· < w.heap.size) [v] ks) :
    Calls Tryz.prog 69 #[v, .int .i64 tag] w fun e w' => e = .returned (.tuple #[.int .i64 (tagB ks tag).2.1, .int .i64 (tagB ks tag).2.2]) ∧ Below w.heap.size w w' := by
  obtain ⟨a, cap, css, rfl, hcap, hmax, hrow, hk⟩ := datas_open h
  clear h hcap hmax
  have HR : Hid (RowAt w (· < w.heap.size) 3 a ks.length css ∧ ∀ i (h : i < ks.length), dataSh.rep w (· < w.heap.size) (css i) ks[i]) := ⟨hrow, hk⟩
  clear hrow hk
  have HTL : Hid (∀ i, total (ks.take i) ≤ 1048576) := fun i => by have := total_take_le ks i; have := total_le ks; omega
  obtain ⟨p, hp⟩ : ∃ p, p = tagB ks tag := ⟨_, rfl⟩
  have HP : Hid (p = tagB ks tag) := hp
  rw [← hp]
  clear hp
  obtain ⟨p0, p1, p2⟩ := p
  go_enter Tryz.func69, Tryz.ntmps69
  go_wp2
  go_loopw [6, 7] (fun v6 v7 wr => ∃ i q : Nat, i ≤ ks.length ∧ v7 = .int .i64 i ∧ v6 = .int .i64 (q : Nat) ∧ q ≤ 1048576 ∧ Hid (q = total (ks.take i)) ∧ (tag < 0 ∨ (q : Int) ≤ tag) ∧ wr = w) (fun _ v7 _ => ks.length - (intOf v7).toNat)
  case atStart => exact ⟨0, 0, Nat.zero_le _, rfl, rfl, by omega, by show _ = _; simp [total], by omega, rfl⟩
  case round =>
    obtain ⟨i, q, hi, rfl, rfl, hq, HQ, hA, rfl⟩ := hrel
    by_cases hlt : i < ks.length
    · obtain ⟨b, o, rfl, hS, hc⟩ := HR.out.1 i hlt
      obtain ⟨x0, x1, x2, a2, c2, hT, hcs, f0, f1, f2⟩ := data_open (HR.out.2 i hlt)
      rw [hcs] at hc
      have e2 := hc 2 _ rfl
      have hx2 : x2.length ≤ 1048576 := by
        have := wts_con hlt
        rw [hT] at this
        simp at this
        omega
      have HT : Hid (ks[i].2.2 = x2) := by show _ = _; rw [hT]
      have HTK : Hid (total (ks.take (i + 1)) = q + x2.length) := by show _ = _; rw [total_take hlt, HT.out, HQ.out]
      clear f2 hcs hc hT
      by_cases h2 : (q : Int) ≤ tag
      · by_cases h3 : tag - (q : Int) < (x2.length : Nat)
        · have HF : Hid ((p0, p1, p2) = (tag, (i : Int), tag - (q : Nat))) := by
            show _ = _
            rw [HP.out, tag_at hlt (by rw [← HQ.out]; exact h2) (by rw [← HQ.out, HT.out]; exact h3), ← HQ.out]
          go_wp2
          go_ret2
          have := HF.out
          simp only [Prod.mk.injEq] at this
          exact ⟨ret_pair this.2.1.symm this.2.2.symm, Below.refl _ _⟩
        · go_wp2
          go_round
          case rel => exact ⟨i + 1, q + x2.length, by omega, by go_num, by go_num, by rw [← HTK.out]; exact HTL.out _, by show _ = _; rw [HTK.out], by omega, trivial⟩
          case measure => simp [intOf]; omega
      · go_wp2
        go_round
        case rel => exact ⟨i + 1, q + x2.length, by omega, by go_num, by go_num, by rw [← HTK.out]; exact HTL.out _, by show _ = _; rw [HTK.out], by omega, trivial⟩
        case measure => simp [intOf]; omega
    · obtain rfl : i = ks.length := by omega
      have HF : Hid ((p0, p1, p2) = (-1, -1, -1)) := by
        show _ = _
        have := HQ.out
        rw [List.take_length] at this
        rw [HP.out, tag_none (by omega)]
      go_wp2
      go_ret2
      have := HF.out
      simp only [Prod.mk.injEq] at this
      exact ⟨ret_pair this.2.1.symm this.2.2.symm, Below.refl _ _⟩

end Go.Proofs.YtjofmoebijdccaaGreat.data
