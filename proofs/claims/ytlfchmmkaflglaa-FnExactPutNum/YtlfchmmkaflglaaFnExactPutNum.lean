/-
  At every argument the program's function answers as its model, writes nothing into an argument, and its answer owns its memory; the law's call returns true, and the arguments read as they read before. No condition.
-/
import Derived.Test.YtlfchmmkaflglaaRows
import Derived.Test.YtlfchmmkaflglaaItems2
import Derived.Test.YtlfchmmkaflglaaBytesMk
import Derived.Test.YtlfchmmkaflglaaBytes
import Derived.Test.YtlfchmmkaflglaaPutNumStd
import Derived.ProofKit
import Derived.Deep.DeepHandedRow
import Derived.ChangeOld
import Derived.Carry
namespace Go.Proofs.Ytlfchmmkaflglaa.fnExactPutNum
open Go.ChangeShapes Go.WideShapes Go.ChangeAt Go.RowKit Go.Proofs.Ytlfchmmkaflglaa.rose Go.Proofs.Ytlfchmmkaflglaa
open Go.ChangeMaps (open_string shut_string)
set_option linter.unusedVariables false

theorem own : ownKnob Try.prog.godebug = none := by kernel_rfl
theorem laidOut : laidOutB Try.prog = true := by kernel_rfl

set_option maxRecDepth 100000 in
set_option maxHeartbeats 8000000 in
theorem walk (n : Int) (w : World) (hi0 : -9223372036854775808 ≤ n) (hj0 : n ≤ 9223372036854775807) :
    Calls Try.prog 3 #[.int .i64 n] w fun e w' => e = .returned (.bool true) ∧ Below w.heap.size w w' := by
  have BB0 : Hid (Below w.heap.size w w) := Below.refl _ w
  go_enter Try.func3, Try.ntmps3
  go_wp2_with fail
  refine (byts.specPutNum_std n  _ hi0 hj0).mono ?_
  rintro e w1 ⟨⟨u1_0, rfl, r1_0⟩, hb⟩
  have BB1 : Hid (Below w.heap.size w w1) := BB0.out.trans (hb.mono BB0.out.size)
  have L0 : Hid (w.heap.size + 0 ≤ w1.heap.size) := by have := hb.size; (try simp at this); show _ ≤ _; omega
  have L1 : Hid (w.heap.size ≤ w1.heap.size) := hb.size
  have WR0_1 : Hid (ItmR byts.bytesSp w1 [u1_0] w.heap.size w1.heap.size (byts.putB n)) := ⟨Nat.le_refl _, r1_0⟩
  clear hb r1_0 BB0
  go_wp2_with fail
  refine (byts.implPutNum_std n  _ hi0 hj0).mono ?_
  rintro e w2 ⟨⟨u2_0, rfl, r2_0⟩, hb⟩
  have WR0_2 : Hid (ItmR byts.bytesSp w2 [u1_0] w.heap.size w1.heap.size (byts.putB n)) := WR0_1.out.on hb
  have BB2 : Hid (Below w.heap.size w w2) := BB1.out.trans (hb.mono BB1.out.size)
  have L2 : Hid (w1.heap.size ≤ w2.heap.size) := hb.size
  have GR0_2 : Hid (ItmR byts.bytesSp w2 [u2_0] w1.heap.size w2.heap.size (byts.putB n)) := ⟨Nat.le_refl _, r2_0⟩
  clear hb r2_0 WR0_1 BB1
  go_wp2_with fail
  refine (byts.eq_any (byts.putB n) _ _ _ (byts.bytesSh.mono (byts.bytesp_rep GR0_2.out.rep) fun b hb => by have := GR0_2.out.top; have := L0.out; have := L1.out; have := L2.out; omega) (byts.bytesSh.mono (byts.bytesp_rep WR0_2.out.rep) fun b hb => by have := WR0_2.out.top; have := L0.out; have := L1.out; have := L2.out; omega)).mono ?_
  rintro e w3 ⟨rfl, hb⟩
  have WR0_3 : Hid (ItmR byts.bytesSp w3 [u1_0] w.heap.size w1.heap.size (byts.putB n)) := WR0_2.out.on hb
  have GR0_3 : Hid (ItmR byts.bytesSp w3 [u2_0] w1.heap.size w2.heap.size (byts.putB n)) := GR0_2.out.on hb
  have BB3 : Hid (Below w.heap.size w w3) := BB2.out.trans (hb.mono BB2.out.size)
  have L3 : Hid (w2.heap.size ≤ w3.heap.size) := hb.size
  clear hb WR0_2 GR0_2 BB2
  have hcg0 : (byts.putB n).length ≤ 1073741824 := byts.putB_bound n
  go_wp2_with fail
  refine (byts.mark_any (byts.putB n) _ _ (1) (fun b => w1.heap.size ≤ b ∧ b < w2.heap.size) (by omega) (by omega) (fun b hb => by have := GR0_3.out.top; have := L0.out; have := L1.out; have := L2.out; have := L3.out; omega) GR0_3.out.rep).mono ?_
  rintro e w4 ⟨rfl, hr, ho⟩
  have WR0_4 : Hid (ItmR byts.bytesSp w4 [u1_0] w.heap.size w1.heap.size (byts.putB n)) := WR0_3.out.only ho (fun b h1 h2 hq => by have := L0.out; have := L1.out; have := L2.out; have := L3.out; omega)
  have BB4 : Hid (Below w.heap.size w w4) := BB3.out.trans (ho.below BB3.out.size fun b hb => by have := L0.out; have := L1.out; have := L2.out; have := L3.out; omega)
  have L4 : Hid (w3.heap.size ≤ w4.heap.size) := ho.size
  have GR0_4 : Hid (ItmR byts.bytesSh w4 [u2_0] w1.heap.size w2.heap.size (byts.mks 1 (byts.putB n))) := ⟨Nat.le_trans GR0_3.out.top ho.size, byts.bytesp_rep hr⟩
  clear ho hr GR0_3 WR0_3 BB3
  obtain ⟨m0, hm0⟩ : ∃ nz : Nat, nz = (byts.putB n).length := ⟨_, rfl⟩
  have HM0 : Hid (m0 = (byts.putB n).length) := hm0
  rw [← hm0] at hcg0 ⊢
  clear hm0
  go_wp2_with fail
  refine (byts.held_any (byts.putB n) _ _ (1) (by omega) (by rw [← HM0.out]; omega) (byts.bytesSh.mono GR0_4.out.rep fun b hb => by have := GR0_4.out.top; have := L0.out; have := L1.out; have := L2.out; have := L3.out; have := L4.out; omega)).mono ?_
  rw [← HM0.out]
  rintro e w5 ⟨rfl, hb⟩
  have WR0_5 : Hid (ItmR byts.bytesSp w5 [u1_0] w.heap.size w1.heap.size (byts.putB n)) := WR0_4.out.on hb
  have GR0_5 : Hid (ItmR byts.bytesSh w5 [u2_0] w1.heap.size w2.heap.size (byts.mks 1 (byts.putB n))) := GR0_4.out.on hb
  have BB5 : Hid (Below w.heap.size w w5) := BB4.out.trans (hb.mono BB4.out.size)
  have L5 : Hid (w4.heap.size ≤ w5.heap.size) := hb.size
  clear hb WR0_4 GR0_4 BB4
  have t15 : decide (((1 : Int) + (m0 : Nat) : Int) < 0) = false := by simp; omega
  go_wp2_with fail
  refine (byts.implPutNum_std n  _ hi0 hj0).mono ?_
  rintro e w6 ⟨⟨u6_0, rfl, r6_0⟩, hb⟩
  have WR0_6 : Hid (ItmR byts.bytesSp w6 [u1_0] w.heap.size w1.heap.size (byts.putB n)) := WR0_5.out.on hb
  have GR0_6 : Hid (ItmR byts.bytesSh w6 [u2_0] w1.heap.size w2.heap.size (byts.mks 1 (byts.putB n))) := GR0_5.out.on hb
  have BB6 : Hid (Below w.heap.size w w6) := BB5.out.trans (hb.mono BB5.out.size)
  have L6 : Hid (w5.heap.size ≤ w6.heap.size) := hb.size
  have HR0_6 : Hid (ItmR byts.bytesSp w6 [u6_0] w5.heap.size w6.heap.size (byts.putB n)) := ⟨Nat.le_refl _, r6_0⟩
  clear hb r6_0 WR0_5 GR0_5 BB5
  go_wp2_with fail
  refine (byts.eq_any (byts.putB n) _ _ _ (byts.bytesSh.mono (byts.bytesp_rep HR0_6.out.rep) fun b hb => by have := HR0_6.out.top; have := L0.out; have := L1.out; have := L2.out; have := L3.out; have := L4.out; have := L5.out; have := L6.out; omega) (byts.bytesSh.mono (byts.bytesp_rep WR0_6.out.rep) fun b hb => by have := WR0_6.out.top; have := L0.out; have := L1.out; have := L2.out; have := L3.out; have := L4.out; have := L5.out; have := L6.out; omega)).mono ?_
  rintro e w7 ⟨rfl, hb⟩
  have WR0_7 : Hid (ItmR byts.bytesSp w7 [u1_0] w.heap.size w1.heap.size (byts.putB n)) := WR0_6.out.on hb
  have GR0_7 : Hid (ItmR byts.bytesSh w7 [u2_0] w1.heap.size w2.heap.size (byts.mks 1 (byts.putB n))) := GR0_6.out.on hb
  have HR0_7 : Hid (ItmR byts.bytesSp w7 [u6_0] w5.heap.size w6.heap.size (byts.putB n)) := HR0_6.out.on hb
  have BB7 : Hid (Below w.heap.size w w7) := BB6.out.trans (hb.mono BB6.out.size)
  have L7 : Hid (w6.heap.size ≤ w7.heap.size) := hb.size
  clear hb WR0_6 GR0_6 HR0_6 BB6
  go_wp2_with fail
  refine (byts.held_any (byts.putB n) _ _ (1) (by omega) (by rw [← HM0.out]; omega) (byts.bytesSh.mono GR0_7.out.rep fun b hb => by have := GR0_7.out.top; have := L0.out; have := L1.out; have := L2.out; have := L3.out; have := L4.out; have := L5.out; have := L6.out; have := L7.out; omega)).mono ?_
  rw [← HM0.out]
  rintro e w8 ⟨rfl, hb⟩
  have WR0_8 : Hid (ItmR byts.bytesSp w8 [u1_0] w.heap.size w1.heap.size (byts.putB n)) := WR0_7.out.on hb
  have GR0_8 : Hid (ItmR byts.bytesSh w8 [u2_0] w1.heap.size w2.heap.size (byts.mks 1 (byts.putB n))) := GR0_7.out.on hb
  have BB8 : Hid (Below w.heap.size w w8) := BB7.out.trans (hb.mono BB7.out.size)
  have L8 : Hid (w7.heap.size ≤ w8.heap.size) := hb.size
  clear hb WR0_7 GR0_7 BB7
  have t18 : decide (((1 : Int) + (m0 : Nat) : Int) < 0) = false := by simp; omega
  go_wp2
  go_ret
  exact ⟨rfl, BB8.out⟩

set_option maxRecDepth 100000 in
theorem lifted (os : Os) (started : os.Started) (H : Type) (enc : TypeId × Value → H) :
    ReturnsInHanded {} Try.checked os 3 .any (Rows.fnExactPutNumSpec.pre6 enc Try.prog Try.f3 Rows.fnExactPutNumRow.domain false) (Rows.fnExactPutNumSpec.post enc Try.prog Try.f3 false true false false) := by
  refine returnsInHanded_of_change (C := Try.checked) own started (by kernel_rfl) Try.func3
    (ChangeSpec.witness6 (enc := enc) (C := Try.checked) false ⟨#[], #[.int .i64 0], []⟩ 8 (by kernel_rfl) (by kernel_rfl) (by kernel_rfl) (by kernel_rfl)) ?_
  intro W base args ds gs before hval0 hW hcnd _
  have hval : ∀ (j : Nat) t v, Try.f3.params[j]? = some t → args[j]? = some v → Value.okWide Try.prog W .any base t v := hval0
  have hW' := hW
  obtain ⟨p, q, hA0, hV, rfl, hfz, hnd⟩ := hW
  have hA : DataW.TrodAll enc Try.prog W 0 (fun _ => true) true Try.f3.params.toList args.toList ds p := hA0
  rw [Try.params3] at hA hval
  obtain ⟨v0, vs0, d0, ds0, p0, q0, hargs, rfl, rfl, h0, r0⟩ := trodAll_cons hA
  obtain ⟨rfl, rfl, rfl⟩ := trodAll_nil r0
  obtain rfl : args = #[v0] := by cases args; simp_all
  obtain ⟨rfl, rfl⟩ := trodVars_none hV
  obtain ⟨n, rfl, rfl, rfl, hx0⟩ := open_int Try.underlying3 (hval 0 3 v0 rfl rfl) h0
  clear hA0 hval0
  refine (walk n  W (by have := bounds_i64 hx0; omega) (by have := bounds_i64 hx0; omega) ).mono fun e W' ⟨he, bel⟩ => ?_
  subst he
  exact ⟨_, rfl, _, _, _, [], _, [], hW', trodAll_mk1 (shut_bool Try.underlying4 _), (trodAll_cons_mk (shut_int Try.underlying3 hx0) trodAll_mk0), rfl, bel.frame _, fun h => by cases h⟩

theorem over : Rows.fnExactPutNumRow.holds Try.pinned (OpenSpec.ofChange Rows.fnExactPutNumSpec) :=
  OpenClaim.holds_of_wide 3 Try.f3 rfl rfl rfl rfl rfl rfl rfl ⟨rfl, rfl, rfl, rfl, rfl⟩ rfl rfl rfl rfl rfl (by kernel_rfl) Try.func3 (by kernel_rfl)
    (of_decide_eq_true (by kernel_rfl)) (by unfold Func.isWrapper; first | (rw [if_pos (by decide +kernel)]; kernel_rfl) | (rw [if_neg (by decide +kernel)]; exact ⟨rfl, rfl⟩))
    (fun os started H enc _ => lifted os started H enc)

/-- THE STATEMENT. -/
theorem proved : Rows.FnExactPutNumSaid :=
  over
#print axioms proved
end Go.Proofs.Ytlfchmmkaflglaa.fnExactPutNum
