/-
  At every place the program's Effect answers as its model; the law's call returns true, and the argument reads as it read before. No condition.
-/
import Derived.Test.YtkabfphgifkepaaRows
import Derived.Test.YtkabfphgifkepaaOpArgS
import Derived.Test.YtkabfphgifkepaaItems
import Derived.Test.YtkabfphgifkepaaEffectSpec
import Derived.Test.YtkabfphgifkepaaEffectImpl
import Derived.ProofKit
import Derived.Deep.DeepHandedRow
import Derived.ChangeOld
import Derived.Carry
namespace Go.Proofs.Ytkabfphgifkepaa.fnExactEffect
open Go.ChangeShapes Go.WideShapes Go.ChangeAt Go.RowKit Go.Proofs.Ytkabfphgifkepaa.rose Go.Proofs.Ytkabfphgifkepaa.fun Go.Proofs.Ytkabfphgifkepaa
set_option linter.unusedVariables false
set_option maxRecDepth 100000

theorem own : ownKnob Try.prog.godebug = none := by kernel_rfl
theorem laidOut : laidOutB Try.prog = true := by kernel_rfl

set_option maxHeartbeats 1000000 in
theorem toOp_any (c n m : Int) (w : World) : Calls Try.prog 5 #[.agg #[.int .i64 c, .int .i64 n, .int .i64 m]] w fun e w' => e = .returned (.agg #[.int .i64 c, .int .i64 n, .int .i64 m]) ∧ Below w.heap.size w w' := by
  go_enter Try.func5, Try.ntmps5
  go_wp2
  refine bodyPost_ret (v := .agg #[.int .i64 c, .int .i64 n, .int .i64 m]) (by simp [results, Try.f5, go_sem]) rfl ?_
  exact ⟨rfl, (((Below.refl _ _).alloc (Nat.le_refl _) _).alloc (by simp) _).alloc (by simp; omega) _⟩

set_option maxHeartbeats 4000000 in
theorem walk (c n m : Int) (w : World) :
    Calls Try.prog 3 #[.agg #[.int .i64 c, .int .i64 n, .int .i64 m]] w fun e w' => e = .returned (.bool true) ∧ Below w.heap.size w w' := by
  have D0 : Hid (ArgK w (w.alloc (.cells #[.int .i64 c, .int .i64 n, .int .i64 m] 23)) [.int .i64 c, .int .i64 n, .int .i64 m] 23) := ArgK.new _ _ _ rfl
  have KS : Hid (∀ W, Calls Try.prog 4 #[.agg #[.int .i64 c, .int .i64 n, .int .i64 m]] W fun e w' => e = .returned (.tuple #[.int .i64 (takesB c m), .int .i64 (putsB c)]) ∧ Below W.heap.size W w') := fun W => effect_any c n m W
  have KI : Hid (∀ W, Calls Try.prog 6 #[.agg #[.int .i64 c, .int .i64 n, .int .i64 m]] W fun e w' => e = .returned (.tuple #[.int .i64 (takesB c m), .int .i64 (putsB c)]) ∧ Below W.heap.size W w') := fun W => implEffect c n m W
  generalize takesB c m = y at KS KI
  generalize putsB c = z at KS KI
  go_enter Try.func3, Try.ntmps3
  go_wp2_with fail
  refine (toOp_any c n m _).mono ?_
  rintro e w1 ⟨rfl, hb⟩
  have D1 : Hid (ArgK w w1 [.int .i64 c, .int .i64 n, .int .i64 m] 23) := D0.out.on hb
  clear hb D0
  go_wp2_with fail
  refine (KS.out _).mono ?_
  rintro e w2 ⟨rfl, hb⟩
  have D2 : Hid (ArgK w w2 [.int .i64 c, .int .i64 n, .int .i64 m] 23) := D1.out.on hb
  clear hb D1
  have b0 : w2.cell? ⟨w.heap.size, 0, none⟩ = some (.int .i64 c) := D2.out.cell 0 rfl
  have b1 : w2.cell? ⟨w.heap.size, 1, none⟩ = some (.int .i64 n) := D2.out.cell 1 rfl
  have b2 : w2.cell? ⟨w.heap.size, 2, none⟩ = some (.int .i64 m) := D2.out.cell 2 rfl
  go_wp2_with fail
  refine (toOp_any c n m _).mono ?_
  rintro e w3 ⟨rfl, hb⟩
  have D3 : Hid (ArgK w w3 [.int .i64 c, .int .i64 n, .int .i64 m] 23) := D2.out.on hb
  clear hb D2 b0 b1 b2
  go_wp2_with fail
  refine (KI.out _).mono ?_
  rintro e w4 ⟨rfl, hb⟩
  have D4 : Hid (ArgK w w4 [.int .i64 c, .int .i64 n, .int .i64 m] 23) := D3.out.on hb
  clear hb D3
  go_wp2
  go_ret
  exact ⟨rfl, D4.out.bel⟩

theorem lifted (os : Os) (started : os.Started) (H : Type) (enc : TypeId × Value → H) :
    ReturnsInHanded {} Try.checked os 3 .any (Rows.fnExactEffectSpec.pre6 enc Try.prog Try.f3 Rows.fnExactEffectRow.domain false) (Rows.fnExactEffectSpec.post enc Try.prog Try.f3 false true false false) := by
  refine returnsInHanded_of_change (C := Try.checked) own started (by kernel_rfl) Try.func3
    (ChangeSpec.witness6 (enc := enc) (C := Try.checked) false ⟨#[], #[.agg #[.int .i64 0, .int .i64 0, .int .i64 0]], []⟩ 8 (by kernel_rfl) (by kernel_rfl) (by kernel_rfl) (by kernel_rfl)) ?_
  intro W base args ds gs before hval0 hW hcnd _
  have hval : ∀ (j : Nat) t v, Try.f3.params[j]? = some t → args[j]? = some v → Value.okWide Try.prog W .any base t v := hval0
  have hW' := hW
  obtain ⟨p, q, hA0, hV, rfl, hfz, hnd⟩ := hW
  have hA : DataW.TrodAll enc Try.prog W 0 (fun _ => true) true Try.f3.params.toList args.toList ds p := hA0
  rw [Try.params3] at hA hval
  obtain ⟨v0, vs0, d0, ds0, p0, q0, hargs, rfl, rfl, h0, r0⟩ := trodAll_cons hA
  obtain ⟨rfl, rfl, rfl⟩ := trodAll_nil r0
  obtain rfl : args = #[v0] := by cases args; simp_all
  obtain ⟨rfl, rfl⟩ := trodVars_none hV
  have k0 := h0
  have lt0 : ∀ x ∈ p0, x.block < W.heap.size := by obtain ⟨m, hm⟩ := k0; exact DataW.trod_lt m _ _ _ hm
  obtain ⟨cs, T, rfl, hT⟩ := op.arg_op (hval 0 23 v0 rfl rfl) h0
  obtain ⟨c, n, m, rfl, rfl, -, -, -⟩ := op.op_open hT
  clear hA0 hval0
  refine (walk c n m W).mono fun e W' ⟨he, bel⟩ => ?_
  subst he
  exact ⟨_, rfl, _, _, _, [], _, [], hW', trodAll_mk1 (shut_bool Try.underlying4 _), (trodAll_cons_mk (Below.trod laidOut (by kernel_rfl) (of_decide_eq_true (by kernel_rfl)) k0 bel lt0) trodAll_mk0), rfl, bel.frame _, fun h => by cases h⟩

theorem over : Rows.fnExactEffectRow.holds Try.pinned (OpenSpec.ofChange Rows.fnExactEffectSpec) :=
  OpenClaim.holds_of_wide 3 Try.f3 rfl rfl rfl rfl rfl rfl rfl ⟨rfl, rfl, rfl, rfl, rfl⟩ rfl rfl rfl rfl rfl (by kernel_rfl) Try.func3 (by kernel_rfl)
    (of_decide_eq_true (by kernel_rfl)) (by unfold Func.isWrapper; first | (rw [if_pos (by decide +kernel)]; kernel_rfl) | (rw [if_neg (by decide +kernel)]; exact ⟨rfl, rfl⟩))
    (fun os started H enc _ => lifted os started H enc)

/-- THE STATEMENT. -/
theorem proved : Rows.FnExactEffectSaid :=
  over
#print axioms proved
end Go.Proofs.Ytkabfphgifkepaa.fnExactEffect
