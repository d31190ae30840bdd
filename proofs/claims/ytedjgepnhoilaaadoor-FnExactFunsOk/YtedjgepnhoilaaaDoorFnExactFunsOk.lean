/-
  At every list the program's function answers as its model, and writes nothing into the list; the law's call returns true, and the argument reads as it read before. Conditions: the program's table of names of ops is as the program's text lays it (the card ties it).
-/
import Derived.Test.YtedjgepnhoilaaaDoorCards
import Derived.Test.YtedjgepnhoilaaaDoorTie
import Derived.Test.YtedjgepnhoilaaaDoorFunArg
import Derived.Test.YtedjgepnhoilaaaDoorFunTo
import Derived.Test.YtedjgepnhoilaaaDoorFunEq
import Derived.Test.YtedjgepnhoilaaaDoorFunsSpec
import Derived.Test.YtedjgepnhoilaaaDoorFunsImpl
import Derived.Test.YtedjgepnhoilaaaDoorNamesLaid
import Derived.ProofKit
import Derived.Deep.DeepHandedRow
import Derived.WalkKit
import Derived.OpenShut
import Derived.LaidMore
import Derived.Stop.LaidErr
import Derived.ChangeOld
import Derived.Carry
import Derived.OpenVars
namespace Go.Proofs.YtedjgepnhoilaaaDoor.fnExactFunsOk
open Go.ChangeShapes Go.WideShapes Go.ChangeAt Go.RowKit Go.Proofs.YtedjgepnhoilaaaDoor.rose Go.Proofs.YtedjgepnhoilaaaDoor.fun
set_option linter.unusedVariables false
set_option maxRecDepth 100000

theorem own : ownKnob Tryd.prog.godebug = none := by kernel_rfl
theorem laidOut : laidOutB Tryd.prog = true := by kernel_rfl

set_option maxRecDepth 100000 in
set_option maxHeartbeats 4000000 in
theorem walk (a : Option Addr) (len cap : Nat) (ks : List FunD) (w : World) (hN : Names w) (h : funSh.slice.rep w (· < w.heap.size) [.slice a len cap] ks) :
    Calls Tryd.prog 3 #[.slice a len cap] w fun e w' => e = .returned (.bool true) ∧ Below w.heap.size w w' := by
  have AT : Hid (∀ w' : World, Below w.heap.size w w' → funSh.slice.rep w' (· < w'.heap.size) [.slice a len cap] ks) := fun w' hb => funSh.slice.mono (funSh.slice.below h hb) fun b hlt => Nat.lt_of_lt_of_le hlt hb.size
  have NS : Hid (Names w) := hN
  clear h hN
  go_enter Tryd.func3, Tryd.ntmps3
  go_wp2_with fail
  refine (szS_any ks _ _ 1048576 (by decide) (by decide) (AT.out _ (Below.refl _ _))).mono ?_
  rintro e w1 ⟨rfl, hb⟩
  have B1 : Hid (Below w.heap.size w w1) := hb
  clear hb
  by_cases hw : ks.length + wts ks ≤ 1048576
  · have hl : left (ks.length + wts ks) 1048576 = 1048576 - ((ks.length + wts ks : Nat) : Int) := by unfold left; rw [if_pos (by omega)]
    rw [hl]
    obtain ⟨m, hm⟩ : ∃ m : Nat, m = ks.length + wts ks := ⟨_, rfl⟩
    have HM : Hid (ks.length + wts ks ≤ 1048576) := hw
    rw [← hm] at hw ⊢
    clear hm hl
    have t1 : decide ((1048576 : Int) - (m : Nat) < 0) = false := by simp; omega
    go_wp2_with fail
    refine (toS_any ks _ _ HM.out (AT.out _ B1.out)).mono ?_
    rintro e w2 ⟨⟨v2, rfl, r2⟩, hb⟩
    have B2 : Hid (Below w.heap.size w w2) := B1.out.trans (hb.mono B1.out.size)
    have R2 : Hid (funSh.slice.rep w2 (· < w2.heap.size) [v2] ks) := funSh.slice.mono r2 fun b hb => hb.2
    clear hb r2
    go_wp2_with fail
    refine (specFunsOk ks _ _ HM.out R2.out).mono ?_
    rintro e w3 ⟨rfl, hb⟩
    have B3 : Hid (Below w.heap.size w w3) := B2.out.trans (hb.mono B2.out.size)
    clear hb R2 B2
    go_wp2_with fail
    refine (toS_any ks _ _ HM.out (AT.out _ B3.out)).mono ?_
    rintro e w4 ⟨⟨v4, rfl, r4⟩, hb⟩
    have B4 : Hid (Below w.heap.size w w4) := B3.out.trans (hb.mono B3.out.size)
    have R4 : Hid (funSh.slice.rep w4 (· < w4.heap.size) [v4] ks) := funSh.slice.mono r4 fun b hb => hb.2
    clear hb r4 B3
    go_wp2_with fail
    refine (implFunsOk ks _ _ HM.out (NS.out.on B4.out) R4.out).mono ?_
    rintro e w5 ⟨rfl, hb⟩
    have B5 : Hid (Below w.heap.size w w5) := B4.out.trans (hb.mono B4.out.size)
    have R5 : Hid (funSh.slice.rep w5 (· < w5.heap.size) [v4] ks) := funSh.slice.mono (funSh.slice.below R4.out hb) fun b hlt => Nat.lt_of_lt_of_le hlt hb.size
    clear hb R4 B4
    go_wp2_with fail
    refine (toS_any ks _ _ HM.out (AT.out _ B5.out)).mono ?_
    rintro e w6 ⟨⟨v6, rfl, r6⟩, hb⟩
    have B6 : Hid (Below w.heap.size w w6) := B5.out.trans (hb.mono B5.out.size)
    have R6 : Hid (funSh.slice.rep w6 (· < w6.heap.size) [v4] ks) := funSh.slice.mono (funSh.slice.below R5.out hb) fun b hlt => Nat.lt_of_lt_of_le hlt hb.size
    have Q6 : Hid (funSh.slice.rep w6 (· < w6.heap.size) [v6] ks) := funSh.slice.mono r6 fun b hb => hb.2
    clear hb r6 R5 B5
    go_wp2_with fail
    refine (eqS_any ks _ _ _ R6.out Q6.out).mono ?_
    rintro e w7 ⟨rfl, hb⟩
    have B7 : Hid (Below w.heap.size w w7) := B6.out.trans (hb.mono B6.out.size)
    clear hb
    go_wp2
    go_ret
    exact ⟨rfl, B7.out⟩
  · have hl : left (ks.length + wts ks) 1048576 = -1 := by unfold left; rw [if_neg (by omega)]
    rw [hl]
    go_wp2
    go_ret
    exact ⟨rfl, B1.out⟩

/-- WHAT THE WALKS GIVE, FOR EVERY ARGUMENT AND EVERY WORLD THAT HOLDS WHAT IS LISTED. -/
theorem contract (H : Type) (enc : TypeId × Value → H) (W : World) (base : Nat) (args : Array Value) (ds gs : List (DataW H)) (before : List MemPlace)
    (hval : ∀ (j : Nat) t v, Tryd.f3.params[j]? = some t → args[j]? = some v → Value.okWide Tryd.prog W .any base t v)
    (hW : DataW.Whole enc Tryd.prog Tryd.f3.params.toList Rows.fnExactFunsOkSpec.vars false W args.toList ds gs before) (hL : laidMetH Tryd.prog Rows.fnExactFunsOkRow.laid W) :
    Calls Tryd.prog 3 args W fun e W' => ∃ v, e = .returned v ∧ Rows.fnExactFunsOkSpec.post enc Tryd.prog Tryd.f3 false true false false W args v W' := by
  have hW' := hW
  obtain ⟨p, q, hA0, hV, rfl, hfz, hnd⟩ := hW
  have hA : DataW.TrodAll enc Tryd.prog W 0 (fun _ => true) true Tryd.f3.params.toList args.toList ds p := hA0
  rw [Tryd.params3] at hA hval
  obtain ⟨v0, vs0, d0, ds0, p0, q0, hargs, rfl, rfl, h0, r0⟩ := trodAll_cons hA
  obtain ⟨rfl, rfl, rfl⟩ := trodAll_nil r0
  obtain rfl : args = #[v0] := by cases args; simp_all
  have hV0 : DataW.TrodVars enc Tryd.prog W (fun _ => true) ["loop.example/g00323/impl.opNames"] gs q := hV
  obtain ⟨g1, rfl⟩ : ∃ g1, gs = [g1] := by
    obtain ⟨_, _, _, _, d, _, e, _⟩ := trodVars_one hV0
    exact ⟨d, e⟩
  have k0 := h0
  have lt0 : ∀ x ∈ p0, x.block < W.heap.size := by obtain ⟨m, hm⟩ := k0; exact DataW.trod_lt m _ _ _ hm
  obtain ⟨a, len, cap, rfl⟩ := okWide_slice Tryd.underlying22 (hval 0 22 v0 rfl rfl)
  obtain ⟨ks, hks⟩ : ∃ ks, funSh.slice.rep W (· < W.heap.size) [.slice a len cap] ks := by
    obtain ⟨fuel, hf⟩ := h0
    exact opens_funs (enc := enc) (w := W) fuel fuel _ _ (Nat.le_refl _) hf
  have hN : Names W := names_of_laid (rest := []) hL
  clear hA0
  refine (walk a len cap ks W hN hks).mono fun e W' ⟨he, bel⟩ => ?_
  subst he
  exact ⟨_, rfl, _, _, _, [], _, _, hW', trodAll_mk1 (shut_bool Tryd.underlying4 _), (trodAll_cons_mk (Below.trod laidOut (by kernel_rfl) (of_decide_eq_true (by kernel_rfl)) k0 bel lt0) trodAll_mk0), Below.trodVars laidOut bel (by kernel_rfl) hV0, bel.frame _, fun h => by cases h⟩

/-- A WORLD FOR THE WITNESS: the one that the program's own start leaves. -/
theorem laid_met (os : Os) : laidMet Tryd.prog Rows.fnExactFunsOkRow.laid ((World.doorLaid Tryd.prog 35 os).forCall (fun _ _ => 0) ⟨#[], #[.slice none 0 0], []⟩).memory :=
  laidMet_of_run' 8 (by kernel_rfl) (by kernel_rfl)
theorem reads (os : Os) {H : Type} (enc : TypeId × Value → H) : ∃ places, DataW.whole enc Tryd.prog ((World.doorLaid Tryd.prog 35 os).forCall (fun _ _ => 0) ⟨#[], #[.slice none 0 0], []⟩).memory Tryd.f3.params.toList Rows.fnExactFunsOkSpec.vars false #[Value.slice none 0 0].toList 8 = some ([.nil], [nmData], places) :=
  ⟨MemPlace.row ⟨0, 0, none⟩ 110, by kernel_rfl⟩

set_option maxRecDepth 100000 in
theorem lifted (os : Os) (started : os.Started) (H : Type) (enc : TypeId × Value → H) (F : Stop.Interp) :
    ReturnsInHanded {} Tryd.checked os 3 .any ((OpenSpec.ofChange Rows.fnExactFunsOkSpec).preRow enc Tryd.prog Tryd.f3 Rows.fnExactFunsOkRow.domain false Rows.fnExactFunsOkRow.laid) (((OpenSpec.ofChange Rows.fnExactFunsOkSpec).at F).post enc Tryd.prog Tryd.f3 false true false false) := by
  obtain ⟨places, hx⟩ := reads os enc
  refine returnsInHanded_of_row (C := Tryd.checked) (s := OpenSpec.ofChange Rows.fnExactFunsOkSpec) own started (by kernel_rfl) Tryd.func3
    (witness_row_at (enc := enc) (C := Tryd.checked) false (World.doorLaid Tryd.prog 35 os) #[.slice none 0 0] rfl (by kernel_rfl) (by kernel_rfl) (by kernel_rfl)
      (OpenSpec.preRow_of_cond 8 hx (by kernel_rfl) (fun k hk => by cases hk) (by kernel_rfl) (laid_met os))) ?_
  intro W base args ds gs before hval hW _ _ _ hL _ _
  exact contract H enc W base args ds gs before hval hW hL

theorem said : Rows.FnExactFunsOkSaid :=
  OpenClaim.holds_of_cond 3 Tryd.f3 rfl rfl rfl rfl rfl rfl rfl ⟨rfl, rfl, rfl, rfl, rfl⟩ rfl rfl rfl rfl rfl (by kernel_rfl) Tryd.func3 (by kernel_rfl)
    (of_decide_eq_true (by kernel_rfl)) (by unfold Func.isWrapper; first | (rw [if_pos (by decide +kernel)]; kernel_rfl) | (rw [if_neg (by decide +kernel)]; exact ⟨rfl, rfl⟩))
    (fun os started H enc _ F => by rw [OpenClaim.pre_eq_preRow]; exact lifted os started H enc F)

theorem plain (f : FuncId) (fn : Func) (hf : Tryd.pinned.checked.prog.funcNamed "loop.example/g00323/laws.FnExactFunsOk" = some f) (hfn : Tryd.pinned.checked.prog.funcs[f]? = some fn) :
    false = Tryd.pinned.checked.prog.looks [] ∧ ∀ (j : Nat) t, fn.params[j]? = some t → Tryd.pinned.checked.prog.wantsStandIn t = false := by
  obtain rfl : f = 3 := Option.some.inj ((show Tryd.prog.funcNamed "loop.example/g00323/laws.FnExactFunsOk" = some 3 by kernel_rfl).symm.trans hf) |>.symm
  obtain rfl : fn = Tryd.f3 := (Option.some.inj (Tryd.func3.symm.trans hfn)).symm
  refine ⟨by kernel_rfl, fun j t ht => ?_⟩
  rw [Tryd.params3] at ht
  obtain rfl : t = 22 := by simpa using Array.mem_of_getElem? ht
  exact (show Tryd.prog.wantsStandIn 22 = false by kernel_rfl)

/-- THE CARD. -/
theorem card : Rows.FnExactFunsOkCardSaid :=
  Claim7.holds_tied_plain_at .later [] _ _ _ _ said (fun _ h => by cases h) (by kernel_rfl) (fun _ h => by cases h) fnExactFunsOk_row_tie rfl ⟨rfl, rfl⟩ (by kernel_rfl) rfl plain (by kernel_rfl)
#print axioms card
end Go.Proofs.YtedjgepnhoilaaaDoor.fnExactFunsOk
