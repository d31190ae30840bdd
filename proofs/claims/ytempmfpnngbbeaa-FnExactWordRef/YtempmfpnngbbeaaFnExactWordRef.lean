/-
  At every argument the program's function answers as its model, writes nothing into an argument, and its answer owns its memory; the law's call returns true, and the arguments read as they read before. No condition.
-/
import Derived.Test.YtempmfpnngbbeaaRows
import Derived.Test.YtempmfpnngbbeaaItems2
import Derived.Test.YtempmfpnngbbeaaIntWordSpec
import Derived.Test.YtempmfpnngbbeaaIntWordImpl
import Derived.ProofKit
import Derived.Deep.DeepHandedRow
import Derived.ChangeOld
import Derived.Carry
namespace Go.Proofs.Ytempmfpnngbbeaa.fnExactWordRef
open Go.ChangeShapes Go.WideShapes Go.ChangeAt Go.RowKit Go.Proofs.Ytempmfpnngbbeaa.rose Go.Proofs.Ytempmfpnngbbeaa
open Go.ChangeMaps (open_string shut_string)
set_option linter.unusedVariables false

theorem own : ownKnob Try.prog.godebug = none := by kernel_rfl
theorem laidOut : laidOutB Try.prog = true := by kernel_rfl

set_option maxRecDepth 100000 in
set_option maxHeartbeats 8000000 in
theorem walk (n : Int) (w : World) (hi0 : -9223372036854775808 ≤ n) (hj0 : n ≤ 9223372036854775807) :
    Calls Try.prog 7 #[.int .i64 n] w fun e w' => e = .returned (.bool true) ∧ Below w.heap.size w w' := by
  have BB0 : Hid (Below w.heap.size w w) := Below.refl _ w
  go_enter Try.func7, Try.ntmps7
  go_wp2_with fail
  refine (words.specWordRef n  _ hi0 hj0).mono ?_
  rintro e w1 ⟨rfl, hb⟩
  have BB1 : Hid (Below w.heap.size w w1) := BB0.out.trans (hb.mono BB0.out.size)
  have L0 : Hid (w.heap.size + 0 ≤ w1.heap.size) := by have := hb.size; (try simp at this); show _ ≤ _; omega
  have L1 : Hid (w.heap.size ≤ w1.heap.size) := hb.size
  clear hb BB0
  go_wp2_with fail
  refine (words.implWordRef n  _ hi0 hj0).mono ?_
  rintro e w2 ⟨rfl, hb⟩
  have BB2 : Hid (Below w.heap.size w w2) := BB1.out.trans (hb.mono BB1.out.size)
  have L2 : Hid (w1.heap.size ≤ w2.heap.size) := hb.size
  clear hb BB1
  go_wp2
  go_ret
  exact ⟨rfl, BB2.out⟩

set_option maxRecDepth 100000 in
theorem lifted (os : Os) (started : os.Started) (H : Type) (enc : TypeId × Value → H) :
    ReturnsInHanded {} Try.checked os 7 .any (Rows.fnExactWordRefSpec.pre6 enc Try.prog Try.f7 Rows.fnExactWordRefRow.domain false) (Rows.fnExactWordRefSpec.post enc Try.prog Try.f7 false true false false) := by
  refine returnsInHanded_of_change (C := Try.checked) own started (by kernel_rfl) Try.func7
    (ChangeSpec.witness6 (enc := enc) (C := Try.checked) false ⟨#[], #[.int .i64 0], []⟩ 8 (by kernel_rfl) (by kernel_rfl) (by kernel_rfl) (by kernel_rfl)) ?_
  intro W base args ds gs before hval0 hW hcnd _
  have hval : ∀ (j : Nat) t v, Try.f7.params[j]? = some t → args[j]? = some v → Value.okWide Try.prog W .any base t v := hval0
  have hW' := hW
  obtain ⟨p, q, hA0, hV, rfl, hfz, hnd⟩ := hW
  have hA : DataW.TrodAll enc Try.prog W 0 (fun _ => true) true Try.f7.params.toList args.toList ds p := hA0
  rw [Try.params7] at hA hval
  obtain ⟨v0, vs0, d0, ds0, p0, q0, hargs, rfl, rfl, h0, r0⟩ := trodAll_cons hA
  obtain ⟨rfl, rfl, rfl⟩ := trodAll_nil r0
  obtain rfl : args = #[v0] := by cases args; simp_all
  obtain ⟨rfl, rfl⟩ := trodVars_none hV
  obtain ⟨n, rfl, rfl, rfl, hx0⟩ := open_int Try.underlying3 (hval 0 3 v0 rfl rfl) h0
  clear hA0 hval0
  refine (walk n  W (by have := bounds_i64 hx0; omega) (by have := bounds_i64 hx0; omega) ).mono fun e W' ⟨he, bel⟩ => ?_
  subst he
  exact ⟨_, rfl, _, _, _, [], _, [], hW', trodAll_mk1 (shut_bool Try.underlying4 _), (trodAll_cons_mk (shut_int Try.underlying3 hx0) trodAll_mk0), rfl, bel.frame _, fun h => by cases h⟩

theorem over : Rows.fnExactWordRefRow.holds Try.pinned (OpenSpec.ofChange Rows.fnExactWordRefSpec) :=
  OpenClaim.holds_of_wide 7 Try.f7 rfl rfl rfl rfl rfl rfl rfl ⟨rfl, rfl, rfl, rfl, rfl⟩ rfl rfl rfl rfl rfl (by kernel_rfl) Try.func7 (by kernel_rfl)
    (of_decide_eq_true (by kernel_rfl)) (by unfold Func.isWrapper; first | (rw [if_pos (by decide +kernel)]; kernel_rfl) | (rw [if_neg (by decide +kernel)]; exact ⟨rfl, rfl⟩))
    (fun os started H enc _ => lifted os started H enc)

/-- THE STATEMENT. -/
theorem proved : Rows.FnExactWordRefSaid :=
  over
#print axioms proved
end Go.Proofs.Ytempmfpnngbbeaa.fnExactWordRef
