/-
  At every list the program's function answers as its model, and writes nothing into the list; the law's call returns true, and the argument reads as it read before. No condition.
-/
import Derived.Test.YtbhiibalicpdiaaRows
import Derived.Test.YtbhiibalicpdiaaFunArg
import Derived.Test.YtbhiibalicpdiaaFunTo
import Derived.Test.YtbhiibalicpdiaaFunEq
import Derived.Test.YtbhiibalicpdiaaPlacesSpec
import Derived.Test.YtbhiibalicpdiaaPlacesImpl
import Derived.ProofKit
import Derived.Deep.DeepHandedRow
import Derived.ChangeOld
import Derived.Carry
namespace Go.Proofs.Ytbhiibalicpdiaa.fnExactPlaces
open Go.ChangeShapes Go.WideShapes Go.ChangeAt Go.RowKit Go.Proofs.Ytbhiibalicpdiaa.rose Go.Proofs.Ytbhiibalicpdiaa.fun
set_option linter.unusedVariables false

theorem own : ownKnob Try.prog.godebug = none := by kernel_rfl
theorem laidOut : laidOutB Try.prog = true := by kernel_rfl

set_option maxRecDepth 100000 in
set_option maxHeartbeats 4000000 in
theorem walk (a : Option Addr) (len cap : Nat) (ks : List FunD) (w : World) (h : funSh.slice.rep w (· < w.heap.size) [.slice a len cap] ks) :
    Calls Try.prog 3 #[.slice a len cap] w fun e w' => e = .returned (.bool true) ∧ Below w.heap.size w w' := by
  have AT : Hid (∀ w' : World, Below w.heap.size w w' → funSh.slice.rep w' (· < w'.heap.size) [.slice a len cap] ks) := fun w' hb => funSh.slice.mono (funSh.slice.below h hb) fun b hlt => Nat.lt_of_lt_of_le hlt hb.size
  clear h
  go_enter Try.func3, Try.ntmps3
  go_wp2_with fail
  refine (szS_any ks _ _ 1048576 (by decide) (by decide) (AT.out _ (Below.refl _ _))).mono ?_
  rintro e w1 ⟨rfl, hb⟩
  have B1 : Hid (Below w.heap.size w w1) := hb
  clear hb
  by_cases hw : ks.length + wts ks ≤ 1048576
  · have hl : left (ks.length + wts ks) 1048576 = 1048576 - ((ks.length + wts ks : Nat) : Int) := by unfold left; rw [if_pos (by omega)]
    rw [hl]
    obtain ⟨m, hm⟩ : ∃ m : Nat, m = ks.length + wts ks := ⟨_, rfl⟩
    have HM : Hid (ks.length + wts ks ≤ 1048576) := hw
    rw [← hm] at hw ⊢
    clear hm hl
    have t1 : decide ((1048576 : Int) - (m : Nat) < 0) = false := by simp; omega
    go_wp2_with fail
    refine (toS_any ks _ _ HM.out (AT.out _ B1.out)).mono ?_
    rintro e w2 ⟨⟨v2, rfl, r2⟩, hb⟩
    have B2 : Hid (Below w.heap.size w w2) := B1.out.trans (hb.mono B1.out.size)
    have R2 : Hid (funSh.slice.rep w2 (· < w2.heap.size) [v2] ks) := funSh.slice.mono r2 fun b hb => hb.2
    clear hb r2
    go_wp2_with fail
    refine (specPlaces ks _ _ HM.out R2.out).mono ?_
    rintro e w3 ⟨rfl, hb⟩
    have B3 : Hid (Below w.heap.size w w3) := B2.out.trans (hb.mono B2.out.size)
    clear hb R2 B2
    go_wp2_with fail
    refine (toS_any ks _ _ HM.out (AT.out _ B3.out)).mono ?_
    rintro e w4 ⟨⟨v4, rfl, r4⟩, hb⟩
    have B4 : Hid (Below w.heap.size w w4) := B3.out.trans (hb.mono B3.out.size)
    have R4 : Hid (funSh.slice.rep w4 (· < w4.heap.size) [v4] ks) := funSh.slice.mono r4 fun b hb => hb.2
    clear hb r4 B3
    go_wp2_with fail
    refine (implPlaces ks _ _ HM.out R4.out).mono ?_
    rintro e w5 ⟨rfl, hb⟩
    have B5 : Hid (Below w.heap.size w w5) := B4.out.trans (hb.mono B4.out.size)
    have R5 : Hid (funSh.slice.rep w5 (· < w5.heap.size) [v4] ks) := funSh.slice.mono (funSh.slice.below R4.out hb) fun b hlt => Nat.lt_of_lt_of_le hlt hb.size
    clear hb R4 B4
    go_wp2_with fail
    refine (toS_any ks _ _ HM.out (AT.out _ B5.out)).mono ?_
    rintro e w6 ⟨⟨v6, rfl, r6⟩, hb⟩
    have B6 : Hid (Below w.heap.size w w6) := B5.out.trans (hb.mono B5.out.size)
    have R6 : Hid (funSh.slice.rep w6 (· < w6.heap.size) [v4] ks) := funSh.slice.mono (funSh.slice.below R5.out hb) fun b hlt => Nat.lt_of_lt_of_le hlt hb.size
    have Q6 : Hid (funSh.slice.rep w6 (· < w6.heap.size) [v6] ks) := funSh.slice.mono r6 fun b hb => hb.2
    clear hb r6 R5 B5
    go_wp2_with fail
    refine (eqS_any ks _ _ _ R6.out Q6.out).mono ?_
    rintro e w7 ⟨rfl, hb⟩
    have B7 : Hid (Below w.heap.size w w7) := B6.out.trans (hb.mono B6.out.size)
    clear hb
    go_wp2
    go_ret
    exact ⟨rfl, B7.out⟩
  · have hl : left (ks.length + wts ks) 1048576 = -1 := by unfold left; rw [if_neg (by omega)]
    rw [hl]
    go_wp2
    go_ret
    exact ⟨rfl, B1.out⟩

set_option maxRecDepth 100000 in
theorem lifted (os : Os) (started : os.Started) (H : Type) (enc : TypeId × Value → H) :
    ReturnsInHanded {} Try.checked os 3 .any (Rows.fnExactPlacesSpec.pre6 enc Try.prog Try.f3 Rows.fnExactPlacesRow.domain false) (Rows.fnExactPlacesSpec.post enc Try.prog Try.f3 false true false false) := by
  refine returnsInHanded_of_change (C := Try.checked) own started (by kernel_rfl) Try.func3
    (ChangeSpec.witness6 (enc := enc) (C := Try.checked) false ⟨#[], #[.slice none 0 0], []⟩ 8 (by kernel_rfl) (by kernel_rfl) (by kernel_rfl) (by kernel_rfl)) ?_
  intro W base args ds gs before hval0 hW hcnd _
  have hval : ∀ (j : Nat) t v, Try.f3.params[j]? = some t → args[j]? = some v → Value.okWide Try.prog W .any base t v := hval0
  have hW' := hW
  obtain ⟨p, q, hA0, hV, rfl, hfz, hnd⟩ := hW
  have hA : DataW.TrodAll enc Try.prog W 0 (fun _ => true) true Try.f3.params.toList args.toList ds p := hA0
  rw [Try.params3] at hA hval
  obtain ⟨v0, vs0, d0, ds0, p0, q0, hargs, rfl, rfl, h0, r0⟩ := trodAll_cons hA
  obtain ⟨rfl, rfl, rfl⟩ := trodAll_nil r0
  obtain rfl : args = #[v0] := by cases args; simp_all
  obtain ⟨rfl, rfl⟩ := trodVars_none hV
  have k0 := h0
  have lt0 : ∀ x ∈ p0, x.block < W.heap.size := by obtain ⟨m, hm⟩ := k0; exact DataW.trod_lt m _ _ _ hm
  obtain ⟨a, len, cap, rfl⟩ := okWide_slice Try.underlying22 (hval 0 22 v0 rfl rfl)
  obtain ⟨ks, hks⟩ : ∃ ks, funSh.slice.rep W (· < W.heap.size) [.slice a len cap] ks := by
    obtain ⟨fuel, hf⟩ := h0
    exact opens_funs (enc := enc) (w := W) fuel fuel _ _ (Nat.le_refl _) hf
  clear hA0 hval0
  refine (walk a len cap ks W hks).mono fun e W' ⟨he, bel⟩ => ?_
  subst he
  exact ⟨_, rfl, _, _, _, [], _, [], hW', trodAll_mk1 (shut_bool Try.underlying4 _), (trodAll_cons_mk (Below.trod laidOut (by kernel_rfl) (of_decide_eq_true (by kernel_rfl)) k0 bel lt0) trodAll_mk0), rfl, bel.frame _, fun h => by cases h⟩

theorem over : Rows.fnExactPlacesRow.holds Try.pinned (OpenSpec.ofChange Rows.fnExactPlacesSpec) :=
  OpenClaim.holds_of_wide 3 Try.f3 rfl rfl rfl rfl rfl rfl rfl ⟨rfl, rfl, rfl, rfl, rfl⟩ rfl rfl rfl rfl rfl (by kernel_rfl) Try.func3 (by kernel_rfl)
    (of_decide_eq_true (by kernel_rfl)) (by unfold Func.isWrapper; first | (rw [if_pos (by decide +kernel)]; kernel_rfl) | (rw [if_neg (by decide +kernel)]; exact ⟨rfl, rfl⟩))
    (fun os started H enc _ => lifted os started H enc)

/-- THE STATEMENT. -/
theorem proved : Rows.FnExactPlacesSaid :=
  over
#print axioms proved
end Go.Proofs.Ytbhiibalicpdiaa.fnExactPlaces
