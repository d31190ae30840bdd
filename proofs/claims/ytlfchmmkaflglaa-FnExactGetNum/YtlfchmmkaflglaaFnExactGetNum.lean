/-
  At every argument the program's function answers as its model, writes nothing into an argument, and its answer owns its memory; the law's call returns true, and the arguments read as they read before. No condition.
-/
import Derived.Test.YtlfchmmkaflglaaRows
import Derived.Test.YtlfchmmkaflglaaItems2
import Derived.Test.YtlfchmmkaflglaaBytesMk
import Derived.Test.YtlfchmmkaflglaaBytesTo
import Derived.Test.YtlfchmmkaflglaaBytesArg
import Derived.Test.YtlfchmmkaflglaaGetNumSpec
import Derived.Test.YtlfchmmkaflglaaGetNumImpl
import Derived.ProofKit
import Derived.Deep.DeepHandedRow
import Derived.ChangeOld
import Derived.Carry
namespace Go.Proofs.Ytlfchmmkaflglaa.fnExactGetNum
open Go.ChangeShapes Go.WideShapes Go.ChangeAt Go.RowKit Go.Proofs.Ytlfchmmkaflglaa.rose Go.Proofs.Ytlfchmmkaflglaa
open Go.ChangeMaps (open_string shut_string)
set_option linter.unusedVariables false

theorem own : ownKnob Try.prog.godebug = none := by kernel_rfl
theorem laidOut : laidOutB Try.prog = true := by kernel_rfl

set_option maxRecDepth 100000 in
set_option maxHeartbeats 8000000 in
theorem walk (b : List Int) (at_ : Int) (va0 : Value) (w : World) (hi1 : -9223372036854775808 ≤ at_) (hj1 : at_ ≤ 9223372036854775807) (h0 : byts.bytesSh.rep w (· < w.heap.size) [va0] b) :
    Calls Try.prog 4 #[va0, .int .i64 at_] w fun e w' => e = .returned (.bool true) ∧ Below w.heap.size w w' := by
  have AR0 : Hid (∀ W : World, Below w.heap.size w W → byts.bytesSh.rep W (· < W.heap.size) [va0] b) := fun W hb => byts.bytesSh.mono (byts.bytesSh.below h0 hb) fun b hlt => Nat.lt_of_lt_of_le hlt hb.size
  obtain ⟨ad0, cp0, hva0⟩ : ∃ a c, va0 = .slice a b.length c := by obtain ⟨a, c, e⟩ := slice_cells h0; simp only [List.cons.injEq, and_true] at e; exact ⟨a, c, e⟩
  subst hva0
  clear h0
  have BB0 : Hid (Below w.heap.size w w) := Below.refl _ w
  by_cases hl0 : (1048576 : Int) < (b.length : Int)
  · go_enter Try.func4, Try.ntmps4
    go_wp2
    go_ret
    exact ⟨rfl, Below.refl _ _⟩
  have hs0 : (b.length : Int) ≤ 1048576 := by omega
  have HL0 : Hid (b.length ≤ 1048576) := by show _ ≤ _; omega
  go_enter Try.func4, Try.ntmps4
  go_wp2_with fail
  refine (byts.toPS_any b _ _ HL0.out (AR0.out _ BB0.out)).mono ?_
  rintro e w1 ⟨⟨k1, rfl, r1⟩, hb⟩
  have BB1 : Hid (Below w.heap.size w w1) := BB0.out.trans (hb.mono BB0.out.size)
  have L0 : Hid (w.heap.size + 0 ≤ w1.heap.size) := by have := hb.size; (try simp at this); show _ ≤ _; omega
  have WC0_1 : Hid (ItmR byts.bytesSp w1 [k1] w.heap.size w1.heap.size b) := ⟨Nat.le_refl _, r1⟩
  have L1 : Hid (w.heap.size ≤ w1.heap.size) := hb.size
  clear hb r1 BB0
  go_wp2_with fail
  refine (byts.specGetNum b at_ _ _ HL0.out hi1 hj1 (byts.bytesSh.mono (byts.bytesp_rep WC0_1.out.rep) fun b hb => by have := WC0_1.out.top; have := L0.out; have := L1.out; omega)).mono ?_
  rintro e w2 ⟨rfl, hb⟩
  have BB2 : Hid (Below w.heap.size w w2) := BB1.out.trans (hb.mono BB1.out.size)
  have L2 : Hid (w1.heap.size ≤ w2.heap.size) := hb.size
  clear hb BB1
  go_wp2_with fail
  refine (byts.toPS_any b _ _ HL0.out (AR0.out _ BB2.out)).mono ?_
  rintro e w3 ⟨⟨k3, rfl, r3⟩, hb⟩
  have BB3 : Hid (Below w.heap.size w w3) := BB2.out.trans (hb.mono BB2.out.size)
  have L3 : Hid (w2.heap.size ≤ w3.heap.size) := hb.size
  have X0_3 : Hid (ItmR byts.bytesSp w3 [k3] w2.heap.size w3.heap.size b) := ⟨Nat.le_refl _, r3⟩
  clear hb r3 BB2
  go_wp2_with fail
  refine (byts.implGetNum b at_ _ _ HL0.out hi1 hj1 (byts.bytesSh.mono (byts.bytesp_rep X0_3.out.rep) fun b hb => by have := X0_3.out.top; have := L0.out; have := L1.out; have := L2.out; have := L3.out; omega)).mono ?_
  rintro e w4 ⟨rfl, hb⟩
  have X0_4 : Hid (ItmR byts.bytesSp w4 [k3] w2.heap.size w3.heap.size b) := X0_3.out.on hb
  have BB4 : Hid (Below w.heap.size w w4) := BB3.out.trans (hb.mono BB3.out.size)
  have L4 : Hid (w3.heap.size ≤ w4.heap.size) := hb.size
  clear hb X0_3 BB3
  go_wp2_with fail
  refine (byts.toPS_any b _ _ HL0.out (AR0.out _ BB4.out)).mono ?_
  rintro e w5 ⟨⟨k5, rfl, r5⟩, hb⟩
  have X0_5 : Hid (ItmR byts.bytesSp w5 [k3] w2.heap.size w3.heap.size b) := X0_4.out.on hb
  have BB5 : Hid (Below w.heap.size w w5) := BB4.out.trans (hb.mono BB4.out.size)
  have L5 : Hid (w4.heap.size ≤ w5.heap.size) := hb.size
  have RT : Hid (byts.bytesSh.rep w5 (· < w5.heap.size) [k5] b) := byts.bytesSh.mono (byts.bytesp_rep r5) fun b hb => hb.2
  clear hb r5 X0_4 BB4
  go_wp2_with fail
  refine (byts.eq_any b _ _ _ (byts.bytesSh.mono (byts.bytesp_rep X0_5.out.rep) fun b hb => by have := X0_5.out.top; have := L0.out; have := L1.out; have := L2.out; have := L3.out; have := L4.out; have := L5.out; omega) RT.out).mono ?_
  rintro e w6 ⟨rfl, hb⟩
  have X0_6 : Hid (ItmR byts.bytesSp w6 [k3] w2.heap.size w3.heap.size b) := X0_5.out.on hb
  have BB6 : Hid (Below w.heap.size w w6) := BB5.out.trans (hb.mono BB5.out.size)
  have L6 : Hid (w5.heap.size ≤ w6.heap.size) := hb.size
  clear hb RT X0_5 BB5
  go_wp2
  go_ret
  exact ⟨rfl, BB6.out⟩

set_option maxRecDepth 100000 in
theorem lifted (os : Os) (started : os.Started) (H : Type) (enc : TypeId × Value → H) :
    ReturnsInHanded {} Try.checked os 4 .any (Rows.fnExactGetNumSpec.pre6 enc Try.prog Try.f4 Rows.fnExactGetNumRow.domain false) (Rows.fnExactGetNumSpec.post enc Try.prog Try.f4 false true false false) := by
  refine returnsInHanded_of_change (C := Try.checked) own started (by kernel_rfl) Try.func4
    (ChangeSpec.witness6 (enc := enc) (C := Try.checked) false ⟨#[], #[.slice none 0 0, .int .i64 0], []⟩ 8 (by kernel_rfl) (by kernel_rfl) (by kernel_rfl) (by kernel_rfl)) ?_
  intro W base args ds gs before hval0 hW hcnd _
  have hval : ∀ (j : Nat) t v, Try.f4.params[j]? = some t → args[j]? = some v → Value.okWide Try.prog W .any base t v := hval0
  have hW' := hW
  obtain ⟨p, q, hA0, hV, rfl, hfz, hnd⟩ := hW
  have hA : DataW.TrodAll enc Try.prog W 0 (fun _ => true) true Try.f4.params.toList args.toList ds p := hA0
  rw [Try.params4] at hA hval
  obtain ⟨v0, vs0, d0, ds0, p0, q0, hargs, rfl, rfl, h0, r0⟩ := trodAll_cons hA
  obtain ⟨v1, vs1, d1, ds1, p1, q1, rfl, rfl, rfl, h1, r1⟩ := trodAll_cons r0
  obtain ⟨rfl, rfl, rfl⟩ := trodAll_nil r1
  obtain rfl : args = #[v0, v1] := by cases args; simp_all
  obtain ⟨rfl, rfl⟩ := trodVars_none hV
  have k0 := h0
  have lt0 : ∀ x ∈ p0, x.block < W.heap.size := by obtain ⟨m, hm⟩ := k0; exact DataW.trod_lt m _ _ _ hm
  obtain ⟨a0, len0, cap0, rfl⟩ := okWide_slice Try.underlying22 (hval 0 22 v0 rfl rfl)
  obtain ⟨b, hT0⟩ : ∃ ks, byts.bytesSh.rep W (· < W.heap.size) [.slice a0 len0 cap0] ks := by
    obtain ⟨fuel, hf⟩ := h0
    exact opens_bytes (enc := enc) (w := W) fuel fuel _ _ (Nat.le_refl _) hf
  obtain ⟨at_, rfl, rfl, rfl, hx1⟩ := open_int Try.underlying3 (hval 1 3 v1 rfl rfl) h1
  clear hA0 hval0
  refine (walk b at_ _ W (by have := bounds_i64 hx1; omega) (by have := bounds_i64 hx1; omega) hT0).mono fun e W' ⟨he, bel⟩ => ?_
  subst he
  exact ⟨_, rfl, _, _, _, [], _, [], hW', trodAll_mk1 (shut_bool Try.underlying4 _), (trodAll_cons_mk (Below.trod laidOut (by kernel_rfl) (of_decide_eq_true (by kernel_rfl)) k0 bel lt0) (trodAll_cons_mk (shut_int Try.underlying3 hx1) trodAll_mk0)), rfl, bel.frame _, fun h => by cases h⟩

theorem over : Rows.fnExactGetNumRow.holds Try.pinned (OpenSpec.ofChange Rows.fnExactGetNumSpec) :=
  OpenClaim.holds_of_wide 4 Try.f4 rfl rfl rfl rfl rfl rfl rfl ⟨rfl, rfl, rfl, rfl, rfl⟩ rfl rfl rfl rfl rfl (by kernel_rfl) Try.func4 (by kernel_rfl)
    (of_decide_eq_true (by kernel_rfl)) (by unfold Func.isWrapper; first | (rw [if_pos (by decide +kernel)]; kernel_rfl) | (rw [if_neg (by decide +kernel)]; exact ⟨rfl, rfl⟩))
    (fun os started H enc _ => lifted os started H enc)

/-- THE STATEMENT. -/
theorem proved : Rows.FnExactGetNumSaid :=
  over
#print axioms proved
end Go.Proofs.Ytlfchmmkaflglaa.fnExactGetNum
