/-
  At every argument the program's function answers as its model, writes nothing into an argument, and its answer owns its memory; the law's call returns true, and the arguments read as they read before. No condition.
-/
import Derived.Test.YtklcjjckelahcaaRows
import Derived.Test.YtklcjjckelahcaaItems
import Derived.Test.YtklcjjckelahcaaSchemeArg
import Derived.Test.YtklcjjckelahcaaSchemeToP
import Derived.Test.YtklcjjckelahcaaSchemeEq
import Derived.Test.YtklcjjckelahcaaSchemeMark
import Derived.Test.YtklcjjckelahcaaSchemePlain
import Derived.Test.YtklcjjckelahcaaTyArg
import Derived.Test.YtklcjjckelahcaaTyToP
import Derived.Test.YtklcjjckelahcaaTyEq
import Derived.Test.YtklcjjckelahcaaTyMark
import Derived.Test.YtklcjjckelahcaaGenericImpl
import Derived.ProofKit
import Derived.Deep.DeepHandedRow
import Derived.ChangeOld
import Derived.Carry
namespace Go.Proofs.Ytklcjjckelahcaa.fnExactGeneric
open Go.ChangeShapes Go.WideShapes Go.ChangeAt Go.RowKit Go.Proofs.Ytklcjjckelahcaa.rose Go.Proofs.Ytklcjjckelahcaa
set_option linter.unusedVariables false

theorem own : ownKnob Try.prog.godebug = none := by kernel_rfl
theorem laidOut : laidOutB Try.prog = true := by kernel_rfl

/-- The program's answer where both arguments lie apart. -/
theorem impl_any (ks : List scheme.SchemeD) (T : ty.TyD) (v : Value) (cs : List Value) (w : World) (Q Q' : Nat → Prop) (hQ : ∀ b, Q b → b < w.heap.size) (hQ' : ∀ b, Q' b → b < w.heap.size) (hw : ks.length + scheme.wts ks + ty.wt T ≤ 1048576) (h : scheme.schemeSp.sslice.rep w Q [v] ks) (h' : ty.tySp.rep w Q' cs T) :
    Calls Try.prog 19 #[v, .agg cs.toArray] w fun e w' => (∃ v', e = .returned v' ∧ ints.intsSp.rep w' (fun b => w.heap.size ≤ b ∧ b < w'.heap.size) [v'] (scheme.gen ks T)) ∧ Below w.heap.size w w' :=
  scheme.implGeneric ks T v cs w (fun b => (Q b ∨ Q' b) ∧ Plain w b) (fun b hb => hb.1.elim (hQ b) (hQ' b)) (fun b hb => hb.2) (by omega) (by omega)
    (scheme.schemeSh.slice.mono (scheme.schemes_plain h) fun b hb => ⟨Or.inl hb.1, hb.2⟩) (ty.tySh.mono (ty.typ_plain T h') fun b hb => ⟨Or.inr hb.1, hb.2⟩)

set_option maxRecDepth 100000 in
set_option maxHeartbeats 8000000 in
theorem walk (ks : List scheme.SchemeD) (T : ty.TyD) (va : Value) (cs : List Value) (w : World) (h : scheme.schemeSh.slice.rep w (· < w.heap.size) [va] ks) (h' : ty.tySh.rep w (· < w.heap.size) cs T) :
    Calls Try.prog 4 #[va, .agg cs.toArray] w fun e w' => e = .returned (.bool true) ∧ Below w.heap.size w w' := by
  obtain ⟨v0, v1, v2, v3, rfl⟩ := ty.ty_list h'
  have ov0 := ty.tySh.one h' v0 (by simp)
  have ov1 := ty.tySh.one h' v1 (by simp)
  have ov2 := ty.tySh.one h' v2 (by simp)
  have ov3 := ty.tySh.one h' v3 (by simp)
  have AS : Hid (∀ W : World, Below w.heap.size w W → scheme.schemeSh.slice.rep W (· < W.heap.size) [va] ks) := fun W hb => scheme.schemeSh.slice.mono (scheme.schemeSh.slice.below h hb) fun b hlt => Nat.lt_of_lt_of_le hlt hb.size
  have AT : Hid (∀ W : World, Below w.heap.size w W → ty.tySh.rep W (· < W.heap.size) [v0, v1, v2, v3] T) := fun W hb => ty.tySh.mono (ty.tySh.below h' hb) fun b hlt => Nat.lt_of_lt_of_le hlt hb.size
  clear h h'
  have K0 : Hid (ArgK w (w.alloc (.cells #[v0, v1, v2, v3] 24)) [v0, v1, v2, v3] 24) := ArgK.new _ _ _ rfl
  go_enter Try.func4, Try.ntmps4
  go_wp2_with fail
  refine (scheme.szS_any ks _ _ 1048576 (by decide) (by decide) (AS.out _ K0.out.bel)).mono ?_
  rintro e w1 ⟨rfl, hb⟩
  have K1 : Hid (ArgK w w1 [v0, v1, v2, v3] 24) := K0.out.on hb
  clear hb K0
  obtain ⟨qs, hqs⟩ : ∃ qs, qs = ks.length + scheme.wts ks := ⟨_, rfl⟩
  rw [← hqs]
  have HQ : Hid (qs = ks.length + scheme.wts ks) := hqs
  clear hqs
  by_cases hw1 : qs ≤ 1048576
  · have hl : left qs 1048576 = 1048576 - (qs : Nat) := by unfold left; rw [if_pos (by omega)]
    rw [hl]
    have t1 : decide ((1048576 : Int) - (qs : Nat) < 0) = false := by simp; omega
    have ca0 : w1.cell? ⟨w.heap.size, 0, none⟩ = some v0 := K1.out.cell 0 rfl
    have ca1 : w1.cell? ⟨w.heap.size, 1, none⟩ = some v1 := K1.out.cell 1 rfl
    have ca2 : w1.cell? ⟨w.heap.size, 2, none⟩ = some v2 := K1.out.cell 2 rfl
    have ca3 : w1.cell? ⟨w.heap.size, 3, none⟩ = some v3 := K1.out.cell 3 rfl
    go_wp2_with fail
    refine (ty.sz_any T _ _ _ (by omega) (by omega) (AT.out _ K1.out.bel)).mono ?_
    rintro e w2 ⟨rfl, hb⟩
    have K2 : Hid (ArgK w w2 [v0, v1, v2, v3] 24) := K1.out.on hb
    clear hb K1 ca0 ca1 ca2 ca3 hl
    by_cases hw2 : qs + ty.wt T ≤ 1048576
    · have hl : left (ty.wt T) (1048576 - (qs : Nat)) = 1048576 - (qs : Nat) - (ty.wt T : Nat) := by unfold left; rw [if_pos (by omega)]
      rw [hl]
      have t2 : decide ((1048576 : Int) - (qs : Nat) - (ty.wt T : Nat) < 0) = false := by simp; omega
      have hw : ks.length + scheme.wts ks + ty.wt T ≤ 1048576 := by have := HQ.out; omega
      have hwT : ty.wt T ≤ 1048576 := by omega
      have hwS : ks.length + scheme.wts ks ≤ 1048576 := by omega
      have ca0 : w2.cell? ⟨w.heap.size, 0, none⟩ = some v0 := K2.out.cell 0 rfl
      have ca1 : w2.cell? ⟨w.heap.size, 1, none⟩ = some v1 := K2.out.cell 1 rfl
      have ca2 : w2.cell? ⟨w.heap.size, 2, none⟩ = some v2 := K2.out.cell 2 rfl
      have ca3 : w2.cell? ⟨w.heap.size, 3, none⟩ = some v3 := K2.out.cell 3 rfl
      have CAh : Hid (w2.cell? ⟨w.heap.size, 0, none⟩ = some v0 ∧ w2.cell? ⟨w.heap.size, 1, none⟩ = some v1 ∧ w2.cell? ⟨w.heap.size, 2, none⟩ = some v2 ∧ w2.cell? ⟨w.heap.size, 3, none⟩ = some v3) := ⟨ca0, ca1, ca2, ca3⟩
      have hsz : w.heap.size < w2.heap.size := K2.out.lt
      have HB0 : Hid (Below w.heap.size w w2.drew) := K2.out.bel.drew
      go_wp2
      go_region_held3 (fun W => W.cell? ⟨w.heap.size, 0, none⟩ = some v0 ∧ W.cell? ⟨w.heap.size, 1, none⟩ = some v1 ∧ W.cell? ⟨w.heap.size, 2, none⟩ = some v2 ∧ W.cell? ⟨w.heap.size, 3, none⟩ = some v3)
        (exact ⟨(by first | with_reducible exact ca0 | (rw [scheme.cell_drewG]; with_reducible exact ca0)), (by first | with_reducible exact ca1 | (rw [scheme.cell_drewG]; with_reducible exact ca1)), (by first | with_reducible exact ca2 | (rw [scheme.cell_drewG]; with_reducible exact ca2)), (by first | with_reducible exact ca3 | (rw [scheme.cell_drewG]; with_reducible exact ca3))⟩)
        (first
          | (go_at_call 18; have qS := rS; refine (ty.toP_any T _ _ hwT (AT.out _ HBa.out)).mono ?_; rintro e wB1 ⟨⟨csT, rfl, rT⟩, hbB⟩; have RS : Hid (scheme.schemeSp.sslice.rep wB1 (fun b => w2.heap.size ≤ b ∧ b < wA1.heap.size) [vS] ks) := scheme.schemeSp.sslice.on rS fun b hS => hbB.block b hS.2; have RT : Hid (ty.tySp.rep wB1 (fun b => w2.heap.size ≤ b ∧ b < wB1.heap.size) csT T) := ty.tySp.mono rT fun b hS => ⟨Nat.le_trans (show w2.heap.size ≤ _ from hsA) hS.1, hS.2⟩; have hsB := hbB.size; have zA : Hid (wA1.heap.size ≤ wB1.heap.size) := hsB; have BB : Hid (Below w2.heap.size w2 wB1) := ((Below.refl _ w2).drew.trans hbA).trans (hbB.mono hsA); replace ca0 : wB1.cell? ⟨w.heap.size, 0, none⟩ = some v0 := (hbB.cell (p := ⟨w.heap.size, 0, none⟩) (Nat.lt_of_lt_of_le hsz hsA)).trans ca0; replace ca1 : wB1.cell? ⟨w.heap.size, 1, none⟩ = some v1 := (hbB.cell (p := ⟨w.heap.size, 1, none⟩) (Nat.lt_of_lt_of_le hsz hsA)).trans ca1; replace ca2 : wB1.cell? ⟨w.heap.size, 2, none⟩ = some v2 := (hbB.cell (p := ⟨w.heap.size, 2, none⟩) (Nat.lt_of_lt_of_le hsz hsA)).trans ca2; replace ca3 : wB1.cell? ⟨w.heap.size, 3, none⟩ = some v3 := (hbB.cell (p := ⟨w.heap.size, 3, none⟩) (Nat.lt_of_lt_of_le hsz hsA)).trans ca3)
          | (go_at_call 17; have qT := rT; refine (scheme.toPS_any ks _ _ hwS (AS.out _ HBa.out)).mono ?_; rintro e wB1 ⟨⟨vS, rfl, rS⟩, hbB⟩; have RS : Hid (scheme.schemeSp.sslice.rep wB1 (fun b => w2.heap.size ≤ b ∧ b < wB1.heap.size) [vS] ks) := scheme.schemeSp.sslice.mono rS fun b hS => ⟨Nat.le_trans (show w2.heap.size ≤ _ from hsA) hS.1, hS.2⟩; have RT : Hid (ty.tySp.rep wB1 (fun b => w2.heap.size ≤ b ∧ b < wA1.heap.size) csT T) := ty.tySp.on rT fun b hS => hbB.block b hS.2; have hsB := hbB.size; have zA : Hid (wA1.heap.size ≤ wB1.heap.size) := hsB; have BB : Hid (Below w2.heap.size w2 wB1) := ((Below.refl _ w2).drew.trans hbA).trans (hbB.mono hsA); replace ca0 : wB1.cell? ⟨w.heap.size, 0, none⟩ = some v0 := (hbB.cell (p := ⟨w.heap.size, 0, none⟩) (Nat.lt_of_lt_of_le hsz hsA)).trans ca0; replace ca1 : wB1.cell? ⟨w.heap.size, 1, none⟩ = some v1 := (hbB.cell (p := ⟨w.heap.size, 1, none⟩) (Nat.lt_of_lt_of_le hsz hsA)).trans ca1; replace ca2 : wB1.cell? ⟨w.heap.size, 2, none⟩ = some v2 := (hbB.cell (p := ⟨w.heap.size, 2, none⟩) (Nat.lt_of_lt_of_le hsz hsA)).trans ca2; replace ca3 : wB1.cell? ⟨w.heap.size, 3, none⟩ = some v3 := (hbB.cell (p := ⟨w.heap.size, 3, none⟩) (Nat.lt_of_lt_of_le hsz hsA)).trans ca3)
          | (go_at_call 17; refine (scheme.toPS_any ks _ _ hwS (AS.out _ HB0.out)).mono ?_; rintro e wA1 ⟨⟨vS, rfl, rS⟩, hbA⟩; have hsA : w2.heap.size ≤ wA1.heap.size := hbA.size; have HBa : Hid (Below w.heap.size w wA1) := HB0.out.trans (hbA.mono HB0.out.size); replace ca0 : wA1.cell? ⟨w.heap.size, 0, none⟩ = some v0 := (hbA.cell (p := ⟨w.heap.size, 0, none⟩) (show w.heap.size < w2.heap.size from hsz)).trans CAh.out.1; replace ca1 : wA1.cell? ⟨w.heap.size, 1, none⟩ = some v1 := (hbA.cell (p := ⟨w.heap.size, 1, none⟩) (show w.heap.size < w2.heap.size from hsz)).trans CAh.out.2.1; replace ca2 : wA1.cell? ⟨w.heap.size, 2, none⟩ = some v2 := (hbA.cell (p := ⟨w.heap.size, 2, none⟩) (show w.heap.size < w2.heap.size from hsz)).trans CAh.out.2.2.1; replace ca3 : wA1.cell? ⟨w.heap.size, 3, none⟩ = some v3 := (hbA.cell (p := ⟨w.heap.size, 3, none⟩) (show w.heap.size < w2.heap.size from hsz)).trans CAh.out.2.2.2)
          | (go_at_call 18; refine (ty.toP_any T _ _ hwT (AT.out _ HB0.out)).mono ?_; rintro e wA1 ⟨⟨csT, rfl, rT⟩, hbA⟩; have hsA : w2.heap.size ≤ wA1.heap.size := hbA.size; have HBa : Hid (Below w.heap.size w wA1) := HB0.out.trans (hbA.mono HB0.out.size); replace ca0 : wA1.cell? ⟨w.heap.size, 0, none⟩ = some v0 := (hbA.cell (p := ⟨w.heap.size, 0, none⟩) (show w.heap.size < w2.heap.size from hsz)).trans CAh.out.1; replace ca1 : wA1.cell? ⟨w.heap.size, 1, none⟩ = some v1 := (hbA.cell (p := ⟨w.heap.size, 1, none⟩) (show w.heap.size < w2.heap.size from hsz)).trans CAh.out.2.1; replace ca2 : wA1.cell? ⟨w.heap.size, 2, none⟩ = some v2 := (hbA.cell (p := ⟨w.heap.size, 2, none⟩) (show w.heap.size < w2.heap.size from hsz)).trans CAh.out.2.2.1; replace ca3 : wA1.cell? ⟨w.heap.size, 3, none⟩ = some v3 := (hbA.cell (p := ⟨w.heap.size, 3, none⟩) (show w.heap.size < w2.heap.size from hsz)).trans CAh.out.2.2.2)
          | (go_at_call 16; refine (scheme.specGeneric ks T _ _ wB1 hwT hwS (scheme.schemeSh.slice.mono (scheme.schemeps_rep RS.out) fun b hb => by have := zA.out; omega) (ty.tySh.mono (ty.typ_rep RT.out) fun b hb => by have := zA.out; omega)).mono ?_; rintro e w3 ⟨⟨vw1, rfl, rw1⟩, hbC⟩; replace ca0 : w3.cell? ⟨w.heap.size, 0, none⟩ = some v0 := (hbC.cell (p := ⟨w.heap.size, 0, none⟩) (Nat.lt_of_lt_of_le hsz (Nat.le_trans hsA hsB))).trans ca0; replace ca1 : w3.cell? ⟨w.heap.size, 1, none⟩ = some v1 := (hbC.cell (p := ⟨w.heap.size, 1, none⟩) (Nat.lt_of_lt_of_le hsz (Nat.le_trans hsA hsB))).trans ca1; replace ca2 : w3.cell? ⟨w.heap.size, 2, none⟩ = some v2 := (hbC.cell (p := ⟨w.heap.size, 2, none⟩) (Nat.lt_of_lt_of_le hsz (Nat.le_trans hsA hsB))).trans ca2; replace ca3 : w3.cell? ⟨w.heap.size, 3, none⟩ = some v3 := (hbC.cell (p := ⟨w.heap.size, 3, none⟩) (Nat.lt_of_lt_of_le hsz (Nat.le_trans hsA hsB))).trans ca3))
      all_goals
        have h23 : Below w2.heap.size w2 w3 := BB.out.trans (hbC.mono BB.out.size)
        have K3 : Hid (ArgK w w3 [v0, v1, v2, v3] 24) := K2.out.on h23
        have I3 : Hid (ItmS ints.intsSh w3 vw1 wB1.heap.size w3.heap.size (scheme.gen ks T)) := ⟨Nat.le_refl _, ints.intsp_rep rw1⟩
        have L3 : Hid (w.heap.size < w2.heap.size ∧ w2.heap.size ≤ wB1.heap.size ∧ wB1.heap.size ≤ w3.heap.size) := ⟨hsz, BB.out.size, hbC.size⟩
        clear ca0 ca1 ca2 ca3 hbC rw1 RS RT BB zA hsA hsB HBa HB0 CAh hsz h23 K2 rS rT hbA hbB
        go_wp2_with fail
        refine (scheme.toPS_any ks _ _ hwS (AS.out _ K3.out.bel)).mono ?_
        rintro e w4 ⟨⟨vx, rfl, rx⟩, hb⟩
        have K4 : Hid (ArgK w w4 [v0, v1, v2, v3] 24) := K3.out.on hb
        have I4 : Hid (ItmS ints.intsSh w4 vw1 wB1.heap.size w3.heap.size (scheme.gen ks T)) := I3.out.on hb
        have X4 : Hid (ItmS scheme.schemeSp.sslice w4 vx w3.heap.size w4.heap.size ks) := ⟨Nat.le_refl _, rx⟩
        have L4 : Hid (w3.heap.size ≤ w4.heap.size) := hb.size
        clear hb rx K3 I3
        have ca0 : w4.cell? ⟨w.heap.size, 0, none⟩ = some v0 := K4.out.cell 0 rfl
        have ca1 : w4.cell? ⟨w.heap.size, 1, none⟩ = some v1 := K4.out.cell 1 rfl
        have ca2 : w4.cell? ⟨w.heap.size, 2, none⟩ = some v2 := K4.out.cell 2 rfl
        have ca3 : w4.cell? ⟨w.heap.size, 3, none⟩ = some v3 := K4.out.cell 3 rfl
        go_wp2_with fail
        refine (ty.toP_any T _ _ hwT (AT.out _ K4.out.bel)).mono ?_
        rintro e w5 ⟨⟨cs5, rfl, r5⟩, hb⟩
        clear ca0 ca1 ca2 ca3
        obtain ⟨q0, q1, q2, q3, rfl⟩ := ty.ty_list (ty.typ_rep r5)
        have oq0 := ty.tySp.one r5 q0 (by simp)
        have oq1 := ty.tySp.one r5 q1 (by simp)
        have oq2 := ty.tySp.one r5 q2 (by simp)
        have oq3 := ty.tySp.one r5 q3 (by simp)
        have soq0 := fun (a : Addr) (m : Mode) (w : World) => run_store Try.prog w a q0 m oq0
        have soq1 := fun (a : Addr) (m : Mode) (w : World) => run_store Try.prog w a q1 m oq1
        have soq2 := fun (a : Addr) (m : Mode) (w : World) => run_store Try.prog w a q2 m oq2
        have soq3 := fun (a : Addr) (m : Mode) (w : World) => run_store Try.prog w a q3 m oq3
        obtain ⟨w5b, e5⟩ : ∃ w5b, w5b = w5.alloc (.cells #[q0, q1, q2, q3] 36) := ⟨_, rfl⟩
        have hA : Below w5.heap.size w5 w5b := by rw [e5]; exact (Below.refl _ _).alloc (Nat.le_refl _) _
        have z5 : w5b.heap.size = w5.heap.size + 1 := by rw [e5]; simp
        have K5 : Hid (ArgK w w5b [v0, v1, v2, v3] 24) := (K4.out.on hb).on hA
        have I5 : Hid (ItmS ints.intsSh w5b vw1 wB1.heap.size w3.heap.size (scheme.gen ks T)) := (I4.out.on hb).on hA
        have X5 : Hid (ItmS scheme.schemeSp.sslice w5b vx w3.heap.size w4.heap.size ks) := (X4.out.on hb).on hA
        have Y5 : Hid (Itm ty.tySp w5b w5.heap.size [q0, q1, q2, q3] 36 w4.heap.size w5.heap.size T) := by rw [e5]; exact Itm.new r5 (Nat.le_refl _) rfl
        have L5 : Hid (w4.heap.size ≤ w5.heap.size) := hb.size
        clear hb r5 hA K4 I4 X4
        have cx0 : (w5.alloc (.cells #[q0, q1, q2, q3] 36)).cell? ⟨w5.heap.size, 0, none⟩ = some q0 := by have := Y5.out.cell 0 (v := q0) rfl; rwa [e5] at this
        have cx1 : (w5.alloc (.cells #[q0, q1, q2, q3] 36)).cell? ⟨w5.heap.size, 1, none⟩ = some q1 := by have := Y5.out.cell 1 (v := q1) rfl; rwa [e5] at this
        have cx2 : (w5.alloc (.cells #[q0, q1, q2, q3] 36)).cell? ⟨w5.heap.size, 2, none⟩ = some q2 := by have := Y5.out.cell 2 (v := q2) rfl; rwa [e5] at this
        have cx3 : (w5.alloc (.cells #[q0, q1, q2, q3] 36)).cell? ⟨w5.heap.size, 3, none⟩ = some q3 := by have := Y5.out.cell 3 (v := q3) rfl; rwa [e5] at this
        go_wp2_with fail
        rw [← e5]
        refine (impl_any ks T _ _ _ _ _ (fun b hb => by have := X5.out.top; omega) (fun b hb => by have := Y5.out.top; omega) hw X5.out.rep Y5.out.rep).mono ?_
        rintro e w6 ⟨⟨vg, rfl, r6⟩, hb⟩
        clear e5 cx0 cx1 cx2 cx3
        have K6 : Hid (ArgK w w6 [v0, v1, v2, v3] 24) := K5.out.on hb
        have I6 : Hid (ItmS ints.intsSh w6 vw1 wB1.heap.size w3.heap.size (scheme.gen ks T)) := I5.out.on hb
        have X6 : Hid (ItmS scheme.schemeSp.sslice w6 vx w3.heap.size w4.heap.size ks) := X5.out.on hb
        have Y6 : Hid (Itm ty.tySp w6 w5.heap.size [q0, q1, q2, q3] 36 w4.heap.size w5.heap.size T) := Y5.out.on hb
        have G6 : Hid (ItmS ints.intsSp w6 vg (w5.heap.size + 1) w6.heap.size (scheme.gen ks T)) := ⟨Nat.le_refl _, by rw [z5] at r6; exact r6⟩
        have L6 : Hid (w5.heap.size + 1 ≤ w6.heap.size) := by have := hb.size; rw [z5] at this; exact this
        clear hb r6 K5 I5 X5 Y5 z5
        go_wp2_with fail
        refine (ints.eq_any (scheme.gen ks T) _ _ _ ((G6.out.as (fun h => ints.intsp_rep h)).in_) I6.out.in_).mono ?_
        rintro e w7 ⟨rfl, hb⟩
        have K7 : Hid (ArgK w w7 [v0, v1, v2, v3] 24) := K6.out.on hb
        have I7 : Hid (ItmS ints.intsSh w7 vw1 wB1.heap.size w3.heap.size (scheme.gen ks T)) := I6.out.on hb
        have X7 : Hid (ItmS scheme.schemeSp.sslice w7 vx w3.heap.size w4.heap.size ks) := X6.out.on hb
        have Y7 : Hid (Itm ty.tySp w7 w5.heap.size [q0, q1, q2, q3] 36 w4.heap.size w5.heap.size T) := Y6.out.on hb
        have G7 : Hid (ItmS ints.intsSp w7 vg (w5.heap.size + 1) w6.heap.size (scheme.gen ks T)) := G6.out.on hb
        clear hb K6 I6 X6 Y6 G6
        go_wp2_with fail
        refine (scheme.toPS_any ks _ _ hwS (AS.out _ K7.out.bel)).mono ?_
        rintro e w8 ⟨⟨vy, rfl, r8⟩, hb⟩
        have K8 : Hid (ArgK w w8 [v0, v1, v2, v3] 24) := K7.out.on hb
        have I8 : Hid (ItmS ints.intsSh w8 vw1 wB1.heap.size w3.heap.size (scheme.gen ks T)) := I7.out.on hb
        have X8 : Hid (ItmS scheme.schemeSp.sslice w8 vx w3.heap.size w4.heap.size ks) := X7.out.on hb
        have Y8 : Hid (Itm ty.tySp w8 w5.heap.size [q0, q1, q2, q3] 36 w4.heap.size w5.heap.size T) := Y7.out.on hb
        have G8 : Hid (ItmS ints.intsSp w8 vg (w5.heap.size + 1) w6.heap.size (scheme.gen ks T)) := G7.out.on hb
        have R8 : Hid (scheme.schemeSh.slice.rep w8 (· < w8.heap.size) [vy] ks) := scheme.schemeSh.slice.mono (scheme.schemeps_rep r8) fun b hb => hb.2
        clear hb r8 K7 I7 X7 Y7 G7
        go_wp2_with fail
        refine (scheme.eqS_any ks _ _ _ ((X8.out.as (fun h => scheme.schemeps_rep h)).in_) R8.out).mono ?_
        rintro e w9 ⟨rfl, hb⟩
        have K9 : Hid (ArgK w w9 [v0, v1, v2, v3] 24) := K8.out.on hb
        have I9 : Hid (ItmS ints.intsSh w9 vw1 wB1.heap.size w3.heap.size (scheme.gen ks T)) := I8.out.on hb
        have X9 : Hid (ItmS scheme.schemeSp.sslice w9 vx w3.heap.size w4.heap.size ks) := X8.out.on hb
        have Y9 : Hid (Itm ty.tySp w9 w5.heap.size [q0, q1, q2, q3] 36 w4.heap.size w5.heap.size T) := Y8.out.on hb
        have G9 : Hid (ItmS ints.intsSp w9 vg (w5.heap.size + 1) w6.heap.size (scheme.gen ks T)) := G8.out.on hb
        clear hb R8 K8 I8 X8 Y8 G8
        go_wp2
        have ca0 : w9.cell? ⟨w.heap.size, 0, none⟩ = some v0 := K9.out.cell 0 rfl
        have ca1 : w9.cell? ⟨w.heap.size, 1, none⟩ = some v1 := K9.out.cell 1 rfl
        have ca2 : w9.cell? ⟨w.heap.size, 2, none⟩ = some v2 := K9.out.cell 2 rfl
        have ca3 : w9.cell? ⟨w.heap.size, 3, none⟩ = some v3 := K9.out.cell 3 rfl
        have cx0 : w9.cell? ⟨w5.heap.size, 0, none⟩ = some q0 := Y9.out.cell 0 rfl
        have cx1 : w9.cell? ⟨w5.heap.size, 1, none⟩ = some q1 := Y9.out.cell 1 rfl
        have cx2 : w9.cell? ⟨w5.heap.size, 2, none⟩ = some q2 := Y9.out.cell 2 rfl
        have cx3 : w9.cell? ⟨w5.heap.size, 3, none⟩ = some q3 := Y9.out.cell 3 rfl
        have hcall := ty.toP_any T _ w9.drew hwT (AT.out _ K9.out.bel.drew)
        go_region_with (first | (go_at_call 18; refine hcall.mono ?_; rintro e w10 ⟨⟨cs10, rfl, r10⟩, hb⟩; have cy0 := (hb.cell (p := ⟨w5.heap.size, 0, none⟩) (show w5.heap.size < w9.heap.size from Y9.out.lt)).trans cx0; have cy1 := (hb.cell (p := ⟨w5.heap.size, 1, none⟩) (show w5.heap.size < w9.heap.size from Y9.out.lt)).trans cx1; have cy2 := (hb.cell (p := ⟨w5.heap.size, 2, none⟩) (show w5.heap.size < w9.heap.size from Y9.out.lt)).trans cx2; have cy3 := (hb.cell (p := ⟨w5.heap.size, 3, none⟩) (show w5.heap.size < w9.heap.size from Y9.out.lt)).trans cx3) | (go_at_call 22; refine (ty.eq_any T [q0, q1, q2, q3] cs10 _ (ty.tySh.mono (ty.typ_rep ((Y9.out.on ((Below.refl _ w9).drew.trans hb)).rep)) (fun b hlt => by have := Y9.out.top; have : w9.heap.size ≤ w10.heap.size := hb.size; omega)) (ty.tySh.mono (ty.typ_rep r10) fun b hlt => hlt.2)).mono ?_; rintro e w11 ⟨rfl, hb11⟩))
        all_goals
          have h911 : Below w9.heap.size w9 w11 := ((Below.refl _ w9).drew.trans hb).trans (hb11.mono hb.size)
          have K11 : Hid (ArgK w w11 [v0, v1, v2, v3] 24) := K9.out.on h911
          have I11 : Hid (ItmS ints.intsSh w11 vw1 wB1.heap.size w3.heap.size (scheme.gen ks T)) := I9.out.on h911
          have X11 : Hid (ItmS scheme.schemeSp.sslice w11 vx w3.heap.size w4.heap.size ks) := X9.out.on h911
          have Y11 : Hid (Itm ty.tySp w11 w5.heap.size [q0, q1, q2, q3] 36 w4.heap.size w5.heap.size T) := Y9.out.on h911
          have G11 : Hid (ItmS ints.intsSp w11 vg (w5.heap.size + 1) w6.heap.size (scheme.gen ks T)) := G9.out.on h911
          clear hb hb11 r10 hcall h911 K9 I9 X9 Y9 G9 ca0 ca1 ca2 ca3 cx0 cx1 cx2 cx3 cy0 cy1 cy2 cy3
          have hcs : scheme.cnts ks ≤ 3145728 := by have := scheme.cnts_le ks; omega
          have hct : ty.cnts T.kids ≤ 3145728 := by
            have h1 := ty.cnts_le T.kids
            have h2 : T.kids.length + ty.wts T.kids ≤ ty.wt T := by obtain ⟨⟨y0, y1, y2⟩, ys⟩ := T; simp [ty.wt, Rose.kids]
            omega
          go_wp2_with fail
          refine (scheme.markS_any ks _ _ 1 (fun b => w3.heap.size ≤ b ∧ b < w4.heap.size) (by omega) (by omega) (fun b hb => by have := X11.out.top; omega) X11.out.rep).mono ?_
          rintro e w12 ⟨rfl, -, ho⟩
          have K12 : Hid (ArgK w w12 [v0, v1, v2, v3] 24) := K11.out.only ho fun b hb => by have := L3.out; omega
          have I12 : Hid (ItmS ints.intsSh w12 vw1 wB1.heap.size w3.heap.size (scheme.gen ks T)) := I11.out.only ho (fun b h1 h2 hq => by omega)
          have Y12 : Hid (Itm ty.tySp w12 w5.heap.size [q0, q1, q2, q3] 36 w4.heap.size w5.heap.size T) := Y11.out.only ho (fun hq => by have := L5.out; omega) (fun b h1 h2 hq => by omega)
          have G12 : Hid (ItmS ints.intsSp w12 vg (w5.heap.size + 1) w6.heap.size (scheme.gen ks T)) := G11.out.only ho (fun b h1 h2 hq => by have := L5.out; omega)
          clear ho K11 I11 X11 Y11 G11
          have cx0 : w12.cell? ⟨w5.heap.size, 0, none⟩ = some q0 := Y12.out.cell 0 rfl
          have cx1 : w12.cell? ⟨w5.heap.size, 1, none⟩ = some q1 := Y12.out.cell 1 rfl
          have cx2 : w12.cell? ⟨w5.heap.size, 2, none⟩ = some q2 := Y12.out.cell 2 rfl
          have cx3 : w12.cell? ⟨w5.heap.size, 3, none⟩ = some q3 := Y12.out.cell 3 rfl
          generalize (scheme.cnts ks : Nat) = ca at hcs ⊢
          go_wp2_with fail
          refine (ty.markT_any T _ _ (1 + (ca : Nat)) (fun b => w4.heap.size ≤ b ∧ b < w5.heap.size) (by omega) (by omega) (fun b hb => by have := Y12.out.top; omega) Y12.out.rep).mono ?_
          rintro e w13 ⟨rfl, -, ho⟩
          have K13 : Hid (ArgK w w13 [v0, v1, v2, v3] 24) := K12.out.only ho fun b hb => by have := L3.out; have := L4.out; omega
          have I13 : Hid (ItmS ints.intsSh w13 vw1 wB1.heap.size w3.heap.size (scheme.gen ks T)) := I12.out.only ho (fun b h1 h2 hq => by have := L4.out; omega)
          have G13 : Hid (ItmS ints.intsSp w13 vg (w5.heap.size + 1) w6.heap.size (scheme.gen ks T)) := G12.out.only ho (fun b h1 h2 hq => by omega)
          clear ho K12 I12 Y12 G12 cx0 cx1 cx2 cx3
          generalize (ty.cnts T.kids : Nat) = cb at hct ⊢
          have t3 : decide ((1 : Int) + (ca : Nat) + (cb : Nat) < 0) = false := by simp; omega
          go_wp2_with fail
          refine (ints.eq_any (scheme.gen ks T) _ _ _ ((G13.out.as (fun h => ints.intsp_rep h)).in_) I13.out.in_).mono ?_
          rintro e w14 ⟨rfl, hb⟩
          have K14 : Hid (ArgK w w14 [v0, v1, v2, v3] 24) := K13.out.on hb
          have I14 : Hid (ItmS ints.intsSh w14 vw1 wB1.heap.size w3.heap.size (scheme.gen ks T)) := I13.out.on hb
          have G14 : Hid (ItmS ints.intsSp w14 vg (w5.heap.size + 1) w6.heap.size (scheme.gen ks T)) := G13.out.on hb
          clear hb K13 I13 G13 t3
          have hll : (scheme.gen ks T).length ≤ 1048577 := by
            have h1 : (scheme.gen ks T).length ≤ (ints.vrs T []).length := List.length_filter_le _ _
            have h2 := ints.vrs_length T []
            simp at h2; omega
          go_wp2_with fail
          refine (ints.mark_any (scheme.gen ks T) _ _ 1 (fun b => w5.heap.size + 1 ≤ b ∧ b < w6.heap.size) (by omega) (by omega) (fun b hb => by have := G14.out.top; omega) G14.out.rep).mono ?_
          rintro e w15 ⟨rfl, hr, ho⟩
          have K15 : Hid (ArgK w w15 [v0, v1, v2, v3] 24) := K14.out.only ho fun b hb => by have := L3.out; have := L4.out; have := L5.out; omega
          have I15 : Hid (ItmS ints.intsSh w15 vw1 wB1.heap.size w3.heap.size (scheme.gen ks T)) := I14.out.only ho (fun b h1 h2 hq => by have := L4.out; have := L5.out; omega)
          have G15 : Hid (ItmS ints.intsSh w15 vg (w5.heap.size + 1) w6.heap.size (ints.mks 1 (scheme.gen ks T))) := ⟨Nat.le_trans G14.out.top ho.size, ints.intsp_rep hr⟩
          clear ho hr K14 I14 G14
          obtain ⟨n0, hn0⟩ : ∃ n0 : Nat, n0 = (scheme.gen ks T).length := ⟨_, rfl⟩
          have HN : Hid (n0 = (scheme.gen ks T).length) := hn0
          rw [← hn0] at hll ⊢
          clear hn0
          go_wp2_with fail
          refine (ints.held_any (scheme.gen ks T) _ _ 1 (by omega) (by rw [← HN.out]; omega) G15.out.in_).mono ?_
          rw [← HN.out]
          rintro e w16 ⟨rfl, hb⟩
          have K16 : Hid (ArgK w w16 [v0, v1, v2, v3] 24) := K15.out.on hb
          have I16 : Hid (ItmS ints.intsSh w16 vw1 wB1.heap.size w3.heap.size (scheme.gen ks T)) := I15.out.on hb
          have G16 : Hid (ItmS ints.intsSh w16 vg (w5.heap.size + 1) w6.heap.size (ints.mks 1 (scheme.gen ks T))) := G15.out.on hb
          clear hb K15 I15 G15
          have t4 : decide ((1 : Int) + (n0 : Nat) < 0) = false := by simp; omega
          go_wp2
          have ca0 : w16.cell? ⟨w.heap.size, 0, none⟩ = some v0 := K16.out.cell 0 rfl
          have ca1 : w16.cell? ⟨w.heap.size, 1, none⟩ = some v1 := K16.out.cell 1 rfl
          have ca2 : w16.cell? ⟨w.heap.size, 2, none⟩ = some v2 := K16.out.cell 2 rfl
          have ca3 : w16.cell? ⟨w.heap.size, 3, none⟩ = some v3 := K16.out.cell 3 rfl
          have CAh : Hid (w16.cell? ⟨w.heap.size, 0, none⟩ = some v0 ∧ w16.cell? ⟨w.heap.size, 1, none⟩ = some v1 ∧ w16.cell? ⟨w.heap.size, 2, none⟩ = some v2 ∧ w16.cell? ⟨w.heap.size, 3, none⟩ = some v3) := ⟨ca0, ca1, ca2, ca3⟩
          have hsz : w.heap.size < w16.heap.size := K16.out.lt
          have HB0 : Hid (Below w.heap.size w w16.drew) := K16.out.bel.drew
          go_region_held3 (fun W => W.cell? ⟨w.heap.size, 0, none⟩ = some v0 ∧ W.cell? ⟨w.heap.size, 1, none⟩ = some v1 ∧ W.cell? ⟨w.heap.size, 2, none⟩ = some v2 ∧ W.cell? ⟨w.heap.size, 3, none⟩ = some v3)
            (exact ⟨(by first | with_reducible exact ca0 | (rw [scheme.cell_drewG]; with_reducible exact ca0)), (by first | with_reducible exact ca1 | (rw [scheme.cell_drewG]; with_reducible exact ca1)), (by first | with_reducible exact ca2 | (rw [scheme.cell_drewG]; with_reducible exact ca2)), (by first | with_reducible exact ca3 | (rw [scheme.cell_drewG]; with_reducible exact ca3))⟩)
            (first
              | (go_at_call 18; have qS := rS; refine (ty.toP_any T _ _ hwT (AT.out _ HBa.out)).mono ?_; rintro e wB2 ⟨⟨csT, rfl, rT⟩, hbB⟩; have RS : Hid (scheme.schemeSp.sslice.rep wB2 (fun b => w16.heap.size ≤ b ∧ b < wA2.heap.size) [vS] ks) := scheme.schemeSp.sslice.on rS fun b hS => hbB.block b hS.2; have RT : Hid (ty.tySp.rep wB2 (fun b => w16.heap.size ≤ b ∧ b < wB2.heap.size) csT T) := ty.tySp.mono rT fun b hS => ⟨Nat.le_trans (show w16.heap.size ≤ _ from hsA) hS.1, hS.2⟩; have hsB := hbB.size; have zA : Hid (wA2.heap.size ≤ wB2.heap.size) := hsB; have BB : Hid (Below w16.heap.size w16 wB2) := ((Below.refl _ w16).drew.trans hbA).trans (hbB.mono hsA); replace ca0 : wB2.cell? ⟨w.heap.size, 0, none⟩ = some v0 := (hbB.cell (p := ⟨w.heap.size, 0, none⟩) (Nat.lt_of_lt_of_le hsz hsA)).trans ca0; replace ca1 : wB2.cell? ⟨w.heap.size, 1, none⟩ = some v1 := (hbB.cell (p := ⟨w.heap.size, 1, none⟩) (Nat.lt_of_lt_of_le hsz hsA)).trans ca1; replace ca2 : wB2.cell? ⟨w.heap.size, 2, none⟩ = some v2 := (hbB.cell (p := ⟨w.heap.size, 2, none⟩) (Nat.lt_of_lt_of_le hsz hsA)).trans ca2; replace ca3 : wB2.cell? ⟨w.heap.size, 3, none⟩ = some v3 := (hbB.cell (p := ⟨w.heap.size, 3, none⟩) (Nat.lt_of_lt_of_le hsz hsA)).trans ca3)
              | (go_at_call 17; have qT := rT; refine (scheme.toPS_any ks _ _ hwS (AS.out _ HBa.out)).mono ?_; rintro e wB2 ⟨⟨vS, rfl, rS⟩, hbB⟩; have RS : Hid (scheme.schemeSp.sslice.rep wB2 (fun b => w16.heap.size ≤ b ∧ b < wB2.heap.size) [vS] ks) := scheme.schemeSp.sslice.mono rS fun b hS => ⟨Nat.le_trans (show w16.heap.size ≤ _ from hsA) hS.1, hS.2⟩; have RT : Hid (ty.tySp.rep wB2 (fun b => w16.heap.size ≤ b ∧ b < wA2.heap.size) csT T) := ty.tySp.on rT fun b hS => hbB.block b hS.2; have hsB := hbB.size; have zA : Hid (wA2.heap.size ≤ wB2.heap.size) := hsB; have BB : Hid (Below w16.heap.size w16 wB2) := ((Below.refl _ w16).drew.trans hbA).trans (hbB.mono hsA); replace ca0 : wB2.cell? ⟨w.heap.size, 0, none⟩ = some v0 := (hbB.cell (p := ⟨w.heap.size, 0, none⟩) (Nat.lt_of_lt_of_le hsz hsA)).trans ca0; replace ca1 : wB2.cell? ⟨w.heap.size, 1, none⟩ = some v1 := (hbB.cell (p := ⟨w.heap.size, 1, none⟩) (Nat.lt_of_lt_of_le hsz hsA)).trans ca1; replace ca2 : wB2.cell? ⟨w.heap.size, 2, none⟩ = some v2 := (hbB.cell (p := ⟨w.heap.size, 2, none⟩) (Nat.lt_of_lt_of_le hsz hsA)).trans ca2; replace ca3 : wB2.cell? ⟨w.heap.size, 3, none⟩ = some v3 := (hbB.cell (p := ⟨w.heap.size, 3, none⟩) (Nat.lt_of_lt_of_le hsz hsA)).trans ca3)
              | (go_at_call 17; refine (scheme.toPS_any ks _ _ hwS (AS.out _ HB0.out)).mono ?_; rintro e wA2 ⟨⟨vS, rfl, rS⟩, hbA⟩; have hsA : w16.heap.size ≤ wA2.heap.size := hbA.size; have HBa : Hid (Below w.heap.size w wA2) := HB0.out.trans (hbA.mono HB0.out.size); replace ca0 : wA2.cell? ⟨w.heap.size, 0, none⟩ = some v0 := (hbA.cell (p := ⟨w.heap.size, 0, none⟩) (show w.heap.size < w16.heap.size from hsz)).trans CAh.out.1; replace ca1 : wA2.cell? ⟨w.heap.size, 1, none⟩ = some v1 := (hbA.cell (p := ⟨w.heap.size, 1, none⟩) (show w.heap.size < w16.heap.size from hsz)).trans CAh.out.2.1; replace ca2 : wA2.cell? ⟨w.heap.size, 2, none⟩ = some v2 := (hbA.cell (p := ⟨w.heap.size, 2, none⟩) (show w.heap.size < w16.heap.size from hsz)).trans CAh.out.2.2.1; replace ca3 : wA2.cell? ⟨w.heap.size, 3, none⟩ = some v3 := (hbA.cell (p := ⟨w.heap.size, 3, none⟩) (show w.heap.size < w16.heap.size from hsz)).trans CAh.out.2.2.2)
              | (go_at_call 18; refine (ty.toP_any T _ _ hwT (AT.out _ HB0.out)).mono ?_; rintro e wA2 ⟨⟨csT, rfl, rT⟩, hbA⟩; have hsA : w16.heap.size ≤ wA2.heap.size := hbA.size; have HBa : Hid (Below w.heap.size w wA2) := HB0.out.trans (hbA.mono HB0.out.size); replace ca0 : wA2.cell? ⟨w.heap.size, 0, none⟩ = some v0 := (hbA.cell (p := ⟨w.heap.size, 0, none⟩) (show w.heap.size < w16.heap.size from hsz)).trans CAh.out.1; replace ca1 : wA2.cell? ⟨w.heap.size, 1, none⟩ = some v1 := (hbA.cell (p := ⟨w.heap.size, 1, none⟩) (show w.heap.size < w16.heap.size from hsz)).trans CAh.out.2.1; replace ca2 : wA2.cell? ⟨w.heap.size, 2, none⟩ = some v2 := (hbA.cell (p := ⟨w.heap.size, 2, none⟩) (show w.heap.size < w16.heap.size from hsz)).trans CAh.out.2.2.1; replace ca3 : wA2.cell? ⟨w.heap.size, 3, none⟩ = some v3 := (hbA.cell (p := ⟨w.heap.size, 3, none⟩) (show w.heap.size < w16.heap.size from hsz)).trans CAh.out.2.2.2)
              | (go_at_call 19; refine (impl_any ks T _ _ wB2 _ _ (fun b hb => by have := zA.out; omega) (fun b hb => by have := zA.out; omega) hw RS.out RT.out).mono ?_; rintro e w17 ⟨⟨vw2, rfl, rw2⟩, hbC⟩; replace ca0 : w17.cell? ⟨w.heap.size, 0, none⟩ = some v0 := (hbC.cell (p := ⟨w.heap.size, 0, none⟩) (Nat.lt_of_lt_of_le hsz (Nat.le_trans hsA hsB))).trans ca0; replace ca1 : w17.cell? ⟨w.heap.size, 1, none⟩ = some v1 := (hbC.cell (p := ⟨w.heap.size, 1, none⟩) (Nat.lt_of_lt_of_le hsz (Nat.le_trans hsA hsB))).trans ca1; replace ca2 : w17.cell? ⟨w.heap.size, 2, none⟩ = some v2 := (hbC.cell (p := ⟨w.heap.size, 2, none⟩) (Nat.lt_of_lt_of_le hsz (Nat.le_trans hsA hsB))).trans ca2; replace ca3 : w17.cell? ⟨w.heap.size, 3, none⟩ = some v3 := (hbC.cell (p := ⟨w.heap.size, 3, none⟩) (Nat.lt_of_lt_of_le hsz (Nat.le_trans hsA hsB))).trans ca3))
          all_goals
            have h1617 : Below w16.heap.size w16 w17 := BB.out.trans (hbC.mono BB.out.size)
            have K17 : Hid (ArgK w w17 [v0, v1, v2, v3] 24) := K16.out.on h1617
            have I17 : Hid (ItmS ints.intsSh w17 vw1 wB1.heap.size w3.heap.size (scheme.gen ks T)) := I16.out.on h1617
            have G17 : Hid (ItmS ints.intsSh w17 vg (w5.heap.size + 1) w6.heap.size (ints.mks 1 (scheme.gen ks T))) := G16.out.on h1617
            have H17 : Hid (ints.intsSh.rep w17 (· < w17.heap.size) [vw2] (scheme.gen ks T)) := ints.intsSh.mono (ints.intsp_rep rw2) fun b hb => hb.2
            clear ca0 ca1 ca2 ca3 hbC rw2 RS RT BB zA hsA hsB HBa HB0 CAh hsz h1617 K16 I16 G16 rS rT hbA hbB
            go_wp2_with fail
            refine (ints.eq_any (scheme.gen ks T) _ _ _ H17.out I17.out.in_).mono ?_
            rintro e w18 ⟨rfl, hb⟩
            have K18 : Hid (ArgK w w18 [v0, v1, v2, v3] 24) := K17.out.on hb
            have G18 : Hid (ItmS ints.intsSh w18 vg (w5.heap.size + 1) w6.heap.size (ints.mks 1 (scheme.gen ks T))) := G17.out.on hb
            clear hb K17 I17 G17 H17
            go_wp2_with fail
            refine (ints.held_any (scheme.gen ks T) _ _ 1 (by omega) (by rw [← HN.out]; omega) G18.out.in_).mono ?_
            rw [← HN.out]
            rintro e w19 ⟨rfl, hb⟩
            have K19 : Hid (ArgK w w19 [v0, v1, v2, v3] 24) := K18.out.on hb
            clear hb
            go_wp2
            go_ret
            exact ⟨rfl, K19.out.bel⟩
    · have hl : left (ty.wt T) (1048576 - (qs : Nat)) = -1 := by unfold left; rw [if_neg (by omega)]
      rw [hl]
      go_wp2
      go_ret
      exact ⟨rfl, K2.out.bel⟩
  · have hl : left qs 1048576 = -1 := by unfold left; rw [if_neg (by omega)]
    rw [hl]
    go_wp2
    go_ret
    exact ⟨rfl, K1.out.bel⟩

set_option maxRecDepth 100000 in
theorem lifted (os : Os) (started : os.Started) (H : Type) (enc : TypeId × Value → H) :
    ReturnsInHanded {} Try.checked os 4 .any (Rows.fnExactGenericSpec.pre6 enc Try.prog Try.f4 Rows.fnExactGenericRow.domain false) (Rows.fnExactGenericSpec.post enc Try.prog Try.f4 false true false false) := by
  refine returnsInHanded_of_change (C := Try.checked) own started (by kernel_rfl) Try.func4
    (ChangeSpec.witness6 (enc := enc) (C := Try.checked) false ⟨#[], #[.slice none 0 0, .agg #[.int .i64 0, .int .i64 0, .string ⟨#[]⟩, .slice none 0 0]], []⟩ 8 (by kernel_rfl) (by kernel_rfl) (by kernel_rfl) (by kernel_rfl)) ?_
  intro W base args ds gs before hval0 hW hcnd _
  have hval : ∀ (j : Nat) t v, Try.f4.params[j]? = some t → args[j]? = some v → Value.okWide Try.prog W .any base t v := hval0
  have hW' := hW
  obtain ⟨p, q, hA0, hV, rfl, hfz, hnd⟩ := hW
  have hA : DataW.TrodAll enc Try.prog W 0 (fun _ => true) true Try.f4.params.toList args.toList ds p := hA0
  rw [Try.params4] at hA hval
  obtain ⟨v0, vs0, d0, ds0, p0, q0, hargs, rfl, rfl, h0, r0⟩ := trodAll_cons hA
  obtain ⟨v1, vs1, d1, ds1, p1, q1, rfl, rfl, rfl, h1, r1⟩ := trodAll_cons r0
  obtain ⟨rfl, rfl, rfl⟩ := trodAll_nil r1
  obtain rfl : args = #[v0, v1] := by cases args; simp_all
  obtain ⟨rfl, rfl⟩ := trodVars_none hV
  have k0 := h0
  have lt0 : ∀ x ∈ p0, x.block < W.heap.size := by obtain ⟨m, hm⟩ := k0; exact DataW.trod_lt m _ _ _ hm
  have k1 := h1
  have lt1 : ∀ x ∈ p1, x.block < W.heap.size := by obtain ⟨m, hm⟩ := k1; exact DataW.trod_lt m _ _ _ hm
  obtain ⟨a, len, cap, rfl⟩ := okWide_slice Try.underlying46 (hval 0 46 v0 rfl rfl)
  obtain ⟨ks, hks⟩ : ∃ ks, scheme.schemeSh.slice.rep W (· < W.heap.size) [.slice a len cap] ks := by
    obtain ⟨fuel, hf⟩ := h0
    exact scheme.opens_schemes (enc := enc) (w := W) fuel fuel _ _ (Nat.le_refl _) hf
  obtain ⟨cs, T, rfl, hT⟩ := ty.arg_ty (hval 1 24 v1 rfl rfl) h1
  clear hA0 hval0
  refine (walk ks T _ cs W hks hT).mono fun e W' ⟨he, bel⟩ => ?_
  subst he
  exact ⟨_, rfl, _, _, _, [], _, [], hW', trodAll_mk1 (shut_bool Try.underlying4 _), (trodAll_cons_mk (Below.trod laidOut (by kernel_rfl) (of_decide_eq_true (by kernel_rfl)) k0 bel lt0) (trodAll_cons_mk (Below.trod laidOut (by kernel_rfl) (of_decide_eq_true (by kernel_rfl)) k1 bel lt1) trodAll_mk0)), rfl, bel.frame _, fun h => by cases h⟩

theorem over : Rows.fnExactGenericRow.holds Try.pinned (OpenSpec.ofChange Rows.fnExactGenericSpec) :=
  OpenClaim.holds_of_wide 4 Try.f4 rfl rfl rfl rfl rfl rfl rfl ⟨rfl, rfl, rfl, rfl, rfl⟩ rfl rfl rfl rfl rfl (by kernel_rfl) Try.func4 (by kernel_rfl)
    (of_decide_eq_true (by kernel_rfl)) (by unfold Func.isWrapper; first | (rw [if_pos (by decide +kernel)]; kernel_rfl) | (rw [if_neg (by decide +kernel)]; exact ⟨rfl, rfl⟩))
    (fun os started H enc _ => lifted os started H enc)

/-- THE STATEMENT. -/
theorem proved : Rows.FnExactGenericSaid :=
  over
#print axioms proved
end Go.Proofs.Ytklcjjckelahcaa.fnExactGeneric
