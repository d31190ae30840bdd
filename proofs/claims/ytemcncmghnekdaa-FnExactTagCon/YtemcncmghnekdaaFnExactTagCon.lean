/-
  At every list and every second argument the program's function answers as its model, and writes nothing into the list; the law's call returns true, and the arguments read as they read before. No condition.
-/
import Derived.Test.YtemcncmghnekdaaRows
import Derived.Test.YtemcncmghnekdaaDataArg
import Derived.Test.YtemcncmghnekdaaDataTo
import Derived.Test.YtemcncmghnekdaaDataEq
import Derived.Test.YtemcncmghnekdaaSpecCons
import Derived.Test.YtemcncmghnekdaaPlaceOf
import Derived.ProofKit
import Derived.Deep.DeepHandedRow
import Derived.ChangeOld
import Derived.Carry
namespace Go.Proofs.Ytemcncmghnekdaa.fnExactTagCon
open Go.ChangeShapes Go.WideShapes Go.ChangeAt Go.RowKit Go.Proofs.Ytemcncmghnekdaa.rose Go.Proofs.Ytemcncmghnekdaa.data
open Go.ChangeMaps (open_string shut_string)
set_option linter.unusedVariables false
set_option linter.unusedSimpArgs false

theorem own : ownKnob Try.prog.godebug = none := by kernel_rfl
theorem laidOut : laidOutB Try.prog = true := by kernel_rfl

set_option maxRecDepth 100000 in
set_option maxHeartbeats 4000000 in
theorem walk (a : Option Addr) (len cap : Nat) (ks : List DataD) (x : Int) (hx0 : -9223372036854775808 ≤ x) (hx1 : x ≤ 9223372036854775807) (w : World) (h : dataSh.slice.rep w (· < w.heap.size) [.slice a len cap] ks) :
    Calls Try.prog 6 #[.slice a len cap, .int .i64 x] w fun e w' => e = .returned (.bool true) ∧ Below w.heap.size w w' := by
  have AT : Hid (∀ w' : World, Below w.heap.size w w' → dataSh.slice.rep w' (· < w'.heap.size) [.slice a len cap] ks) := fun w' hb => dataSh.slice.mono (dataSh.slice.below h hb) fun b hlt => Nat.lt_of_lt_of_le hlt hb.size
  clear h
  go_enter Try.func6, Try.ntmps6
  go_wp2_with fail
  refine (szS_any ks _ _ 1048576 (by decide) (by decide) (AT.out _ (Below.refl _ _))).mono ?_
  rintro e w1 ⟨rfl, hb⟩
  have B1 : Hid (Below w.heap.size w w1) := hb
  clear hb
  by_cases hw : ks.length + wts ks ≤ 1048576
  · have hl : left (ks.length + wts ks) 1048576 = 1048576 - ((ks.length + wts ks : Nat) : Int) := by unfold left; rw [if_pos (by omega)]
    rw [hl]
    obtain ⟨m, hm⟩ : ∃ m : Nat, m = ks.length + wts ks := ⟨_, rfl⟩
    have HM : Hid (ks.length + wts ks ≤ 1048576) := hw
    rw [← hm] at hw ⊢
    clear hm hl
    have S0 : Hid (∀ w' v, dataSh.slice.rep w' (· < w'.heap.size) [v] ks → Calls Try.prog 13 #[v, .int .i64 x] w' fun e w'' => e = .returned (.tuple #[.int .i64 ((tagB ks x).2.1), .int .i64 ((tagB ks x).2.2)]) ∧ Below w'.heap.size w' w'') := fun w' v h => specTagCon ks v x w' hx0 hx1 HM.out h
    have I0 : Hid (∀ w' v, dataSh.slice.rep w' (· < w'.heap.size) [v] ks → Calls Try.prog 12 #[v, .int .i64 x] w' fun e w'' => e = .returned (.tuple #[.int .i64 ((tagB ks x).2.1), .int .i64 ((tagB ks x).2.2)]) ∧ Below w'.heap.size w' w'') := fun w' v h => implTagCon ks v x w' HM.out h
    generalize ((tagB ks x).2.1) = r0 at S0 I0
    generalize ((tagB ks x).2.2) = r1 at S0 I0
    have t1 : decide ((1048576 : Int) - (m : Nat) < 0) = false := by simp; omega
    go_wp2_with fail
    refine (toS_any ks _ _ HM.out (AT.out _ B1.out)).mono ?_
    rintro e w2 ⟨⟨v2, rfl, r2⟩, hb⟩
    have B2 : Hid (Below w.heap.size w w2) := B1.out.trans (hb.mono B1.out.size)
    have R2 : Hid (dataSh.slice.rep w2 (· < w2.heap.size) [v2] ks) := dataSh.slice.mono r2 fun b hb => hb.2
    clear hb r2
    go_wp2_with fail
    refine (S0.out _ _ R2.out).mono ?_
    rintro e w3 ⟨rfl, hb⟩
    have B3 : Hid (Below w.heap.size w w3) := B2.out.trans (hb.mono B2.out.size)
    clear hb R2 B2
    go_wp2_with fail
    refine (toS_any ks _ _ HM.out (AT.out _ B3.out)).mono ?_
    rintro e w4 ⟨⟨v4, rfl, r4⟩, hb⟩
    have B4 : Hid (Below w.heap.size w w4) := B3.out.trans (hb.mono B3.out.size)
    have R4 : Hid (dataSh.slice.rep w4 (· < w4.heap.size) [v4] ks) := dataSh.slice.mono r4 fun b hb => hb.2
    clear hb r4 B3
    go_wp2_with fail
    refine (I0.out _ _ R4.out).mono ?_
    rintro e w5 ⟨rfl, hb⟩
    have B5 : Hid (Below w.heap.size w w5) := B4.out.trans (hb.mono B4.out.size)
    have R5 : Hid (dataSh.slice.rep w5 (· < w5.heap.size) [v4] ks) := dataSh.slice.mono (dataSh.slice.below R4.out hb) fun b hlt => Nat.lt_of_lt_of_le hlt hb.size
    clear hb R4 B4
    go_wp2_with fail
    refine (toS_any ks _ _ HM.out (AT.out _ B5.out)).mono ?_
    rintro e w6 ⟨⟨v6, rfl, r6⟩, hb⟩
    have B6 : Hid (Below w.heap.size w w6) := B5.out.trans (hb.mono B5.out.size)
    have R6 : Hid (dataSh.slice.rep w6 (· < w6.heap.size) [v4] ks) := dataSh.slice.mono (dataSh.slice.below R5.out hb) fun b hlt => Nat.lt_of_lt_of_le hlt hb.size
    have Q6 : Hid (dataSh.slice.rep w6 (· < w6.heap.size) [v6] ks) := dataSh.slice.mono r6 fun b hb => hb.2
    clear hb r6 R5 B5
    go_wp2_with fail
    refine (eqS_any ks _ _ _ R6.out Q6.out).mono ?_
    rintro e w7 ⟨rfl, hb⟩
    have B7 : Hid (Below w.heap.size w w7) := B6.out.trans (hb.mono B6.out.size)
    clear hb
    go_wp2
    go_ret
    exact ⟨rfl, B7.out⟩
  · have hl : left (ks.length + wts ks) 1048576 = -1 := by unfold left; rw [if_neg (by omega)]
    rw [hl]
    go_wp2
    go_ret
    exact ⟨rfl, B1.out⟩

set_option maxRecDepth 100000 in
theorem lifted (os : Os) (started : os.Started) (H : Type) (enc : TypeId × Value → H) :
    ReturnsInHanded {} Try.checked os 6 .any (Rows.fnExactTagConSpec.pre6 enc Try.prog Try.f6 Rows.fnExactTagConRow.domain false) (Rows.fnExactTagConSpec.post enc Try.prog Try.f6 false true false false) := by
  refine returnsInHanded_of_change (C := Try.checked) own started (by kernel_rfl) Try.func6
    (ChangeSpec.witness6 (enc := enc) (C := Try.checked) false ⟨#[], #[.slice none 0 0, .int .i64 0], []⟩ 8 (by kernel_rfl) (by kernel_rfl) (by kernel_rfl) (by kernel_rfl)) ?_
  intro W base args ds gs before hval0 hW hcnd _
  have hval : ∀ (j : Nat) t v, Try.f6.params[j]? = some t → args[j]? = some v → Value.okWide Try.prog W .any base t v := hval0
  have hW' := hW
  obtain ⟨p, q, hA0, hV, rfl, hfz, hnd⟩ := hW
  have hA : DataW.TrodAll enc Try.prog W 0 (fun _ => true) true Try.f6.params.toList args.toList ds p := hA0
  rw [Try.params6] at hA hval
  obtain ⟨v0, vs0, d0, ds0, p0, q0, hargs, rfl, rfl, h0, r0⟩ := trodAll_cons hA
  obtain ⟨v1, vs1, d1, ds1, p1, q1, rfl, rfl, rfl, h1, r1⟩ := trodAll_cons r0
  obtain ⟨rfl, rfl, rfl⟩ := trodAll_nil r1
  obtain rfl : args = #[v0, v1] := by cases args; simp_all
  obtain ⟨rfl, rfl⟩ := trodVars_none hV
  have k0 := h0
  have lt0 : ∀ x ∈ p0, x.block < W.heap.size := by obtain ⟨m, hm⟩ := k0; exact DataW.trod_lt m _ _ _ hm
  obtain ⟨a, len, cap, rfl⟩ := okWide_slice Try.underlying41 (hval 0 41 v0 rfl rfl)
  obtain ⟨x, rfl, rfl, rfl, hx⟩ := open_int Try.underlying3 (hval 1 3 v1 rfl rfl) h1
  obtain ⟨ks, hks⟩ : ∃ ks, dataSh.slice.rep W (· < W.heap.size) [.slice a len cap] ks := by
    obtain ⟨fuel, hf⟩ := h0
    exact opens_datas (enc := enc) (w := W) fuel fuel _ _ (Nat.le_refl _) hf
  clear hA0 hval0
  refine (walk a len cap ks x (by have := bounds_i64 hx; omega) (by have := bounds_i64 hx; omega) W hks).mono fun e W' ⟨he, bel⟩ => ?_
  subst he
  exact ⟨_, rfl, _, _, _, [], _, [], hW', trodAll_mk1 (shut_bool Try.underlying4 _), (trodAll_cons_mk (Below.trod laidOut (by kernel_rfl) (of_decide_eq_true (by kernel_rfl)) k0 bel lt0) (trodAll_cons_mk (shut_int Try.underlying3 hx) trodAll_mk0)), rfl, bel.frame _, fun h => by cases h⟩

theorem over : Rows.fnExactTagConRow.holds Try.pinned (OpenSpec.ofChange Rows.fnExactTagConSpec) :=
  OpenClaim.holds_of_wide 6 Try.f6 rfl rfl rfl rfl rfl rfl rfl ⟨rfl, rfl, rfl, rfl, rfl⟩ rfl rfl rfl rfl rfl (by kernel_rfl) Try.func6 (by kernel_rfl)
    (of_decide_eq_true (by kernel_rfl)) (by unfold Func.isWrapper; first | (rw [if_pos (by decide +kernel)]; kernel_rfl) | (rw [if_neg (by decide +kernel)]; exact ⟨rfl, rfl⟩))
    (fun os started H enc _ => lifted os started H enc)

/-- THE STATEMENT. -/
theorem proved : Rows.FnExactTagConSaid :=
  over
#print axioms proved
end Go.Proofs.Ytemcncmghnekdaa.fnExactTagCon
