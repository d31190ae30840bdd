/-
  At every type the program's TyText answers as its model; the law's call returns true, and the argument reads as it read before. Conditions: the three tables of the library that the road names are as the program's text lays them (the card ties them).
-/
import Derived.Test.YtfcnadepopbdhaaDoorCards
import Derived.Test.YtfcnadepopbdhaaDoorTie
import Derived.Test.YtfcnadepopbdhaaDoorTyArg
import Derived.Test.YtfcnadepopbdhaaDoorTyTo
import Derived.Test.YtfcnadepopbdhaaDoorTyEq
import Derived.Test.YtfcnadepopbdhaaDoorTyTextSpec
import Derived.Test.YtfcnadepopbdhaaDoorTyTextImpl
import Derived.WalkKit
import Derived.ProofKit
import Derived.OpenShut
import Derived.Deep.DeepHandedRow
import Derived.Lib.LaidTab
import Derived.LaidMore
import Derived.Stop.LaidErr
import Derived.ChangeOld
import Derived.Carry
namespace Go.Proofs.YtfcnadepopbdhaaDoor.fnExactTyText
open Go.ChangeShapes Go.WideShapes Go.ChangeAt Go.RowKit Go.Proofs.YtfcnadepopbdhaaDoor.rose Go.Proofs.YtfcnadepopbdhaaDoor.ty
set_option linter.unusedVariables false
set_option maxRecDepth 100000

theorem own : ownKnob Tryd.prog.godebug = none := by kernel_rfl
theorem laidOut : laidOutB Tryd.prog = true := by kernel_rfl

/-- The cells of a block. -/
def Box (w : World) (g : Nat) (v0 v1 v2 v3 : Value) : Prop :=
  w.cell? ⟨g, 0, none⟩ = some v0 ∧ w.cell? ⟨g, 1, none⟩ = some v1 ∧ w.cell? ⟨g, 2, none⟩ = some v2 ∧ w.cell? ⟨g, 3, none⟩ = some v3
theorem Box.on {w w' : World} {g B : Nat} {v0 v1 v2 v3 : Value} (h : Box w g v0 v1 v2 v3) (hb : Below B w w') (hg : g < B) : Box w' g v0 v1 v2 v3 := by
  obtain ⟨h0, h1, h2, h3⟩ := h
  exact ⟨(hb.cell (p := ⟨g, 0, none⟩) hg).trans h0, (hb.cell (p := ⟨g, 1, none⟩) hg).trans h1, (hb.cell (p := ⟨g, 2, none⟩) hg).trans h2, (hb.cell (p := ⟨g, 3, none⟩) hg).trans h3⟩
theorem Box.new (w : World) (v0 v1 v2 v3 : Value) (t : TypeId) : Box (w.alloc (.cells #[v0, v1, v2, v3] t)) w.heap.size v0 v1 v2 v3 := by
  refine ⟨?_, ?_, ?_, ?_⟩ <;> simp

/-- What every moment of the law keeps: the argument's box. -/
structure Kept (w wk : World) (v0 v1 v2 v3 : Value) : Prop where
  bel : Below w.heap.size w wk
  box : Box wk w.heap.size v0 v1 v2 v3
  lt : w.heap.size < wk.heap.size
theorem Kept.on {w wk wl : World} {v0 v1 v2 v3 : Value} (h : Kept w wk v0 v1 v2 v3) (hb : Below wk.heap.size wk wl) : Kept w wl v0 v1 v2 v3 :=
  ⟨h.bel.trans (hb.mono h.bel.size), h.box.on hb h.lt, Nat.lt_of_lt_of_le h.lt hb.size⟩

set_option maxRecDepth 100000 in
set_option maxHeartbeats 4000000 in
theorem walk (cs : List Value) (T : TyD) (w : World) (h : tySh.rep w (· < w.heap.size) cs T) :
    Calls Tryd.prog 4 #[.agg cs.toArray] w fun e w' => e = .returned (.bool true) ∧ Below w.heap.size w w' := by
  obtain ⟨v0, v1, v2, v3, rfl⟩ := ty_list h
  have HT : Hid (tySh.rep w (· < w.heap.size) [v0, v1, v2, v3] T) := h
  have B0 : Hid (Below w.heap.size w (w.alloc (.cells #[v0, v1, v2, v3] 35))) := (Below.refl _ _).alloc (Nat.le_refl _) _
  have X0 : Hid (Box (w.alloc (.cells #[v0, v1, v2, v3] 35)) w.heap.size v0 v1 v2 v3) := Box.new _ _ _ _ _ _
  have Z0 : Hid (w.heap.size < (w.alloc (.cells #[v0, v1, v2, v3] 35)).heap.size) := by show _ < _; simp
  have at_ : ∀ w' : World, Below w.heap.size w w' → tySh.rep w' (· < w'.heap.size) [v0, v1, v2, v3] T := fun w' hb => tySh.mono (tySh.below h hb) fun b hlt => Nat.lt_of_lt_of_le hlt hb.size
  have AT : Hid (∀ w' : World, Below w.heap.size w w' → tySh.rep w' (· < w'.heap.size) [v0, v1, v2, v3] T) := at_
  clear h at_
  have o0 := tySh.one HT.out v0 (by simp)
  have o1 := tySh.one HT.out v1 (by simp)
  have o2 := tySh.one HT.out v2 (by simp)
  have o3 := tySh.one HT.out v3 (by simp)
  go_enter Tryd.func4, Tryd.ntmps4
  go_wp2_with fail
  refine (sz_any T _ _ 1048576 (by decide) (by decide) (AT.out _ B0.out)).mono ?_
  rintro e w1 ⟨rfl, hb⟩
  have K1 : Hid (Kept w w1 v0 v1 v2 v3) := (Kept.mk B0.out X0.out Z0.out).on hb
  clear hb B0 X0 Z0
  by_cases hw : wt T ≤ 1048576
  · have hl : left (wt T) 1048576 = 1048576 - (wt T : Nat) := by unfold left; rw [if_pos (by omega)]
    rw [hl]
    have t1 : decide ((1048576 : Int) - (wt T : Nat) < 0) = false := by simp; omega
    obtain ⟨x0, x1, x2, x3⟩ := K1.out.box
    go_wp2_with fail
    refine (to_any T _ _ hw (AT.out _ K1.out.bel)).mono ?_
    rintro e w2 ⟨⟨cs2, rfl, r2⟩, hb⟩
    clear x0 x1 x2 x3
    have K2 : Hid (Kept w w2 v0 v1 v2 v3) := K1.out.on hb
    have R2 : Hid (tySh.rep w2 (· < w2.heap.size) cs2 T) := tySh.mono r2 fun b hb => hb.2
    clear hb r2 K1
    go_wp2_with fail
    refine (specTyText T _ _ hw R2.out).mono ?_
    rintro e w3 ⟨rfl, hb⟩
    have K3 : Hid (Kept w w3 v0 v1 v2 v3) := K2.out.on hb
    clear hb R2 K2
    obtain ⟨x0, x1, x2, x3⟩ := K3.out.box
    go_wp2_with fail
    refine (to_any T _ _ hw (AT.out _ K3.out.bel)).mono ?_
    rintro e w4 ⟨⟨cs4, rfl, r4⟩, hb⟩
    clear x0 x1 x2 x3
    have K4 : Hid (Kept w w4 v0 v1 v2 v3) := K3.out.on hb
    have R4 : Hid (tySh.rep w4 (· < w4.heap.size) cs4 T) := tySh.mono r4 fun b hb => hb.2
    clear hb r4 K3
    obtain ⟨q0, q1, q2, qk, qa, qc, hT, rfl, -, -, -, -⟩ := ty_open R4.out
    clear hT
    have K5 : Hid (Kept w (w4.alloc (.cells #[.int .i64 q0, .int .i64 q1, .string q2, .slice qa qk.length qc] 40)) v0 v1 v2 v3) := K4.out.on ((Below.refl _ _).alloc (Nat.le_refl _) _)
    have X5 : Hid (Box (w4.alloc (.cells #[.int .i64 q0, .int .i64 q1, .string q2, .slice qa qk.length qc] 40)) w4.heap.size (.int .i64 q0) (.int .i64 q1) (.string q2) (.slice qa qk.length qc)) := Box.new _ _ _ _ _ _
    have R5 : Hid (tySh.rep (w4.alloc (.cells #[.int .i64 q0, .int .i64 q1, .string q2, .slice qa qk.length qc] 40)) (· < w4.heap.size) [.int .i64 q0, .int .i64 q1, .string q2, .slice qa qk.length qc] T) := tySh.below R4.out ((Below.refl _ _).alloc (Nat.le_refl _) _)
    have Z5 : Hid (w4.heap.size < (w4.alloc (.cells #[.int .i64 q0, .int .i64 q1, .string q2, .slice qa qk.length qc] 40)).heap.size) := by show _ < _; simp
    go_wp2_with fail
    refine (implTyText T _ _ hw (tySh.mono R5.out fun b hb => Nat.lt_trans hb Z5.out)).mono ?_
    rintro e w6 ⟨rfl, hb⟩
    have K6 : Hid (Kept w w6 v0 v1 v2 v3) := K5.out.on hb
    have X6 : Hid (Box w6 w4.heap.size (.int .i64 q0) (.int .i64 q1) (.string q2) (.slice qa qk.length qc)) := X5.out.on hb Z5.out
    have R6 : Hid (tySh.rep w6 (· < w4.heap.size) [.int .i64 q0, .int .i64 q1, .string q2, .slice qa qk.length qc] T) := tySh.below R5.out (hb.mono (Nat.le_of_lt Z5.out))
    have Z6 : Hid (w4.heap.size < w6.heap.size) := Nat.lt_of_lt_of_le Z5.out hb.size
    clear hb K5 X5 R5 Z5 K4 R4
    go_wp2
    obtain ⟨x0, x1, x2, x3⟩ := K6.out.box
    obtain ⟨b0, b1, b2, b3⟩ := X6.out
    have K6d : Hid (Kept w w6.drew v0 v1 v2 v3) := ⟨K6.out.bel.drew, K6.out.box, K6.out.lt⟩
    have hcall := to_any T _ w6.drew hw (AT.out _ K6d.out.bel)
    go_region_with (first | (go_at_call 12; refine hcall.mono ?_; rintro e w7 ⟨⟨cs7, rfl, r7⟩, hb⟩; obtain ⟨z0, z1, z2, z3⟩ := Box.on (w := w6.drew) X6.out hb Z6.out) | (go_at_call 14; refine (eq_any T [.int .i64 q0, .int .i64 q1, .string q2, .slice qa qk.length qc] cs7 _ (tySh.mono (tySh.on (tySh.on R6.out (w' := w6.drew) fun _ _ => rfl) (fun b hlt => hb.block b (Nat.lt_trans hlt Z6.out))) (fun b hlt => Nat.lt_of_lt_of_le (Nat.lt_trans hlt Z6.out) hb.size)) (tySh.mono r7 fun b hlt => hlt.2)).mono ?_; rintro e w8 ⟨rfl, hb8⟩))
    all_goals
      have K8 : Hid (Kept w w8 v0 v1 v2 v3) := (K6d.out.on hb).on hb8
      clear hb hb8 r7 hcall
      go_wp2
      go_ret
      exact ⟨rfl, K8.out.bel⟩
  · have hl : left (wt T) 1048576 = -1 := by unfold left; rw [if_neg (by omega)]
    rw [hl]
    go_wp2
    go_ret
    exact ⟨rfl, K1.out.bel⟩

/-- WHAT THE WALKS GIVE, FOR EVERY ARGUMENT AND EVERY WORLD THAT HOLDS WHAT IS LISTED. -/
theorem contract (H : Type) (enc : TypeId × Value → H) (W : World) (base : Nat) (args : Array Value) (ds gs : List (DataW H)) (before : List MemPlace)
    (hval : ∀ (j : Nat) t v, Tryd.f4.params[j]? = some t → args[j]? = some v → Value.okWide Tryd.prog W .any base t v)
    (hW : DataW.Whole enc Tryd.prog Tryd.f4.params.toList Rows.fnExactTyTextSpec.vars false W args.toList ds gs before) (hL : laidMetH Tryd.prog Rows.fnExactTyTextRow.laid W) :
    Calls Tryd.prog 4 args W fun e W' => ∃ v, e = .returned v ∧ Rows.fnExactTyTextSpec.post enc Tryd.prog Tryd.f4 false true false false W args v W' := by
  have hW' := hW
  obtain ⟨p, q, hA0, hV, rfl, hfz, hnd⟩ := hW
  have hA : DataW.TrodAll enc Tryd.prog W 0 (fun _ => true) true Tryd.f4.params.toList args.toList ds p := hA0
  rw [Tryd.params4] at hA hval
  obtain ⟨v0, vs0, d0, ds0, p0, q0, hargs, rfl, rfl, h0, r0⟩ := trodAll_cons hA
  obtain ⟨rfl, rfl, rfl⟩ := trodAll_nil r0
  obtain rfl : args = #[v0] := by cases args; simp_all
  obtain ⟨rfl, rfl⟩ := trodVars_none hV
  have k0 := h0
  have lt0 : ∀ x ∈ p0, x.block < W.heap.size := by obtain ⟨m, hm⟩ := k0; exact DataW.trod_lt m _ _ _ hm
  obtain ⟨cs, T, rfl, hT⟩ := arg_ty (hval 0 35 v0 rfl rfl) h0
  clear hA0
  refine (walk cs T W hT).mono fun e W' ⟨he, bel⟩ => ?_
  subst he
  exact ⟨_, rfl, _, _, _, [], _, [], hW', trodAll_mk1 (shut_bool Tryd.underlying4 _), (trodAll_cons_mk (Below.trod laidOut (by kernel_rfl) (of_decide_eq_true (by kernel_rfl)) k0 bel lt0) trodAll_mk0), rfl, bel.frame _, fun h => by cases h⟩

/-- A WORLD FOR THE WITNESS: the one that the program's own start leaves. -/
theorem laid_met (os : Os) : laidMet Tryd.prog Rows.fnExactTyTextRow.laid ((World.doorLaid Tryd.prog 24 os).forCall (fun _ _ => 0) ⟨#[], #[.agg #[.int .i64 0, .int .i64 0, .string ⟨#[]⟩, .slice none 0 0]], []⟩).memory :=
  laidMet_of_run' 8 (by kernel_rfl) (by kernel_rfl)
theorem reads (os : Os) {H : Type} (enc : TypeId × Value → H) : ∃ places, DataW.whole enc Tryd.prog ((World.doorLaid Tryd.prog 24 os).forCall (fun _ _ => 0) ⟨#[], #[.agg #[.int .i64 0, .int .i64 0, .string ⟨#[]⟩, .slice none 0 0]], []⟩).memory Tryd.f4.params.toList Rows.fnExactTyTextSpec.vars false #[Value.agg #[.int .i64 0, .int .i64 0, .string ⟨#[]⟩, .slice none 0 0]].toList 8 = some ([.agg [.lit (.int .i64 0), .lit (.int .i64 0), .lit (.string []), .nil]], [], places) :=
  ⟨[], by kernel_rfl⟩

set_option maxRecDepth 100000 in
theorem lifted (os : Os) (started : os.Started) (H : Type) (enc : TypeId × Value → H) (F : Stop.Interp) :
    ReturnsInHanded {} Tryd.checked os 4 .any ((OpenSpec.ofChange Rows.fnExactTyTextSpec).preRow enc Tryd.prog Tryd.f4 Rows.fnExactTyTextRow.domain false Rows.fnExactTyTextRow.laid) (((OpenSpec.ofChange Rows.fnExactTyTextSpec).at F).post enc Tryd.prog Tryd.f4 false true false false) := by
  obtain ⟨places, hx⟩ := reads os enc
  refine returnsInHanded_of_row (C := Tryd.checked) (s := OpenSpec.ofChange Rows.fnExactTyTextSpec) own started (by kernel_rfl) Tryd.func4
    (witness_row_at (enc := enc) (C := Tryd.checked) false (World.doorLaid Tryd.prog 24 os) #[.agg #[.int .i64 0, .int .i64 0, .string ⟨#[]⟩, .slice none 0 0]] rfl (by kernel_rfl) (by kernel_rfl) (by kernel_rfl)
      (OpenSpec.preRow_of_cond 8 hx (by kernel_rfl) (fun k hk => by cases hk) (by kernel_rfl) (laid_met os))) ?_
  intro W base args ds gs before hval hW _ _ _ hL _ _
  exact contract H enc W base args ds gs before hval hW hL

theorem said : Rows.FnExactTyTextSaid :=
  OpenClaim.holds_of_cond 4 Tryd.f4 rfl rfl rfl rfl rfl rfl rfl ⟨rfl, rfl, rfl, rfl, rfl⟩ rfl rfl rfl rfl rfl (by kernel_rfl) Tryd.func4 (by kernel_rfl)
    (of_decide_eq_true (by kernel_rfl)) (by unfold Func.isWrapper; first | (rw [if_pos (by decide +kernel)]; kernel_rfl) | (rw [if_neg (by decide +kernel)]; exact ⟨rfl, rfl⟩))
    (fun os started H enc _ F => by rw [OpenClaim.pre_eq_preRow]; exact lifted os started H enc F)

theorem plain (f : FuncId) (fn : Func) (hf : Tryd.pinned.checked.prog.funcNamed "loop.example/g00323/laws.FnExactTyText" = some f) (hfn : Tryd.pinned.checked.prog.funcs[f]? = some fn) :
    true = Tryd.pinned.checked.prog.looks [] ∧ ∀ (j : Nat) t, fn.params[j]? = some t → Tryd.pinned.checked.prog.wantsStandIn t = false := by
  obtain rfl : f = 4 := Option.some.inj ((show Tryd.prog.funcNamed "loop.example/g00323/laws.FnExactTyText" = some 4 by kernel_rfl).symm.trans hf) |>.symm
  obtain rfl : fn = Tryd.f4 := (Option.some.inj (Tryd.func4.symm.trans hfn)).symm
  refine ⟨by kernel_rfl, fun j t ht => ?_⟩
  rw [Tryd.params4] at ht
  obtain rfl : t = 35 := by simpa using Array.mem_of_getElem? ht
  exact (show Tryd.prog.wantsStandIn 35 = false by kernel_rfl)

/-- THE CARD. -/
theorem card : Rows.FnExactTyTextCardSaid :=
  Claim7.holds_tied_plain_at .later [] _ _ _ _ said (fun _ h => by cases h) (by kernel_rfl) (fun _ h => by cases h) fnExactTyText_row_tie rfl ⟨rfl, rfl⟩ (by kernel_rfl) rfl plain (by kernel_rfl)
#print axioms card
end Go.Proofs.YtfcnadepopbdhaaDoor.fnExactTyText
