/-
  At every argument the program's function answers as its model, and writes nothing into the argument; the law's call returns true, and the argument reads as it read before. No condition.
-/
import Derived.Test.YtndlhmpglpehcaaRows
import Derived.Test.YtndlhmpglpehcaaIrArg
import Derived.Test.YtndlhmpglpehcaaIrToQ
import Derived.Test.YtndlhmpglpehcaaIrEq
import Derived.Test.YtndlhmpglpehcaaIrSizeSpec
import Derived.Test.YtndlhmpglpehcaaIrSizeImpl
import Derived.ProofKit
import Derived.Deep.DeepHandedRow
import Derived.ChangeOld
import Derived.Carry
namespace Go.Proofs.Ytndlhmpglpehcaa.fnExactIrSize
open Go.ChangeShapes Go.WideShapes Go.ChangeAt Go.RowKit Go.Proofs.Ytndlhmpglpehcaa.rose Go.Proofs.Ytndlhmpglpehcaa.ir
set_option linter.unusedVariables false

theorem own : ownKnob Try.prog.godebug = none := by kernel_rfl
theorem laidOut : laidOutB Try.prog = true := by kernel_rfl

/-- The cells of a block. -/
def Box (w : World) (g : Nat) (v0 v1 v2 : Value) : Prop :=
  w.cell? ⟨g, 0, none⟩ = some v0 ∧ w.cell? ⟨g, 1, none⟩ = some v1 ∧ w.cell? ⟨g, 2, none⟩ = some v2
theorem Box.on {w w' : World} {g B : Nat} {v0 v1 v2 : Value} (h : Box w g v0 v1 v2) (hb : Below B w w') (hg : g < B) : Box w' g v0 v1 v2 := by
  obtain ⟨h0, h1, h2⟩ := h
  exact ⟨(hb.cell (p := ⟨g, 0, none⟩) hg).trans h0, (hb.cell (p := ⟨g, 1, none⟩) hg).trans h1, (hb.cell (p := ⟨g, 2, none⟩) hg).trans h2⟩
theorem Box.new (w : World) (v0 v1 v2 : Value) (t : TypeId) : Box (w.alloc (.cells #[v0, v1, v2] t)) w.heap.size v0 v1 v2 := by
  refine ⟨?_, ?_, ?_⟩ <;> simp

/-- What every moment of the law keeps: the argument's box. -/
structure Kept (w wk : World) (v0 v1 v2 : Value) : Prop where
  bel : Below w.heap.size w wk
  box : Box wk w.heap.size v0 v1 v2
  lt : w.heap.size < wk.heap.size
theorem Kept.on {w wk wl : World} {v0 v1 v2 : Value} (h : Kept w wk v0 v1 v2) (hb : Below wk.heap.size wk wl) : Kept w wl v0 v1 v2 :=
  ⟨h.bel.trans (hb.mono h.bel.size), h.box.on hb h.lt, Nat.lt_of_lt_of_le h.lt hb.size⟩

set_option maxRecDepth 100000 in
set_option maxHeartbeats 4000000 in
theorem walk (cs : List Value) (T : IrD) (w : World) (h : irSh.rep w (· < w.heap.size) cs T) :
    Calls Try.prog 3 #[.agg cs.toArray] w fun e w' => e = .returned (.bool true) ∧ Below w.heap.size w w' := by
  obtain ⟨v0, v1, v2, rfl⟩ := ir_list h
  have HT : Hid (irSh.rep w (· < w.heap.size) [v0, v1, v2] T) := h
  have B0 : Hid (Below w.heap.size w (w.alloc (.cells #[v0, v1, v2] 24))) := (Below.refl _ _).alloc (Nat.le_refl _) _
  have X0 : Hid (Box (w.alloc (.cells #[v0, v1, v2] 24)) w.heap.size v0 v1 v2) := Box.new _ _ _ _ _
  have Z0 : Hid (w.heap.size < (w.alloc (.cells #[v0, v1, v2] 24)).heap.size) := by show _ < _; simp
  have at_ : ∀ w' : World, Below w.heap.size w w' → irSh.rep w' (· < w'.heap.size) [v0, v1, v2] T := fun w' hb => irSh.mono (irSh.below h hb) fun b hlt => Nat.lt_of_lt_of_le hlt hb.size
  have AT : Hid (∀ w' : World, Below w.heap.size w w' → irSh.rep w' (· < w'.heap.size) [v0, v1, v2] T) := at_
  clear h at_
  have o0 := irSh.one HT.out v0 (by simp)
  have o1 := irSh.one HT.out v1 (by simp)
  have o2 := irSh.one HT.out v2 (by simp)
  go_enter Try.func3, Try.ntmps3
  go_wp2_with fail
  refine (sz_any T _ _ 1048576 (by decide) (by decide) (AT.out _ B0.out)).mono ?_
  rintro e w1 ⟨rfl, hb⟩
  have K1 : Hid (Kept w w1 v0 v1 v2) := (Kept.mk B0.out X0.out Z0.out).on hb
  clear hb B0 X0 Z0
  by_cases hw : wt T ≤ 1048576
  · have hl : left (wt T) 1048576 = 1048576 - (wt T : Nat) := by unfold left; rw [if_pos (by omega)]
    rw [hl]
    have t1 : decide ((1048576 : Int) - (wt T : Nat) < 0) = false := by simp; omega
    obtain ⟨x0, x1, x2⟩ := K1.out.box
    go_wp2_with fail
    refine (to_anyQ T _ _ hw (AT.out _ K1.out.bel)).mono ?_
    rintro e w2 ⟨⟨cs2, rfl, r2⟩, hb⟩
    clear x0 x1 x2
    have K2 : Hid (Kept w w2 v0 v1 v2) := K1.out.on hb
    have R2 : Hid (irSh.rep w2 (· < w2.heap.size) cs2 T) := irSh.mono r2 fun b hb => hb.2.1
    clear hb r2 K1
    go_wp2_with fail
    refine (specIrSize T _ _ hw R2.out).mono ?_
    rintro e w3 ⟨rfl, hb⟩
    have K3 : Hid (Kept w w3 v0 v1 v2) := K2.out.on hb
    clear hb R2 K2
    obtain ⟨x0, x1, x2⟩ := K3.out.box
    go_wp2_with fail
    refine (to_anyQ T _ _ hw (AT.out _ K3.out.bel)).mono ?_
    rintro e w4 ⟨⟨cs4, rfl, r4⟩, hb⟩
    clear x0 x1 x2
    have K4 : Hid (Kept w w4 v0 v1 v2) := K3.out.on hb
    have R4 : Hid (irSh.rep w4 (fun b => b < w4.heap.size ∧ Plain w4 b) cs4 T) := irSh.mono r4 fun b hb => hb.2
    clear hb r4 K3
    obtain ⟨q0, q1, qk, qa, qc, hT, rfl, -, -, -⟩ := ir_open R4.out
    clear hT
    have K5 : Hid (Kept w (w4.alloc (.cells #[.int .i64 q0, .int .i64 q1, .slice qa qk.length qc] 29)) v0 v1 v2) := K4.out.on ((Below.refl _ _).alloc (Nat.le_refl _) _)
    have X5 : Hid (Box (w4.alloc (.cells #[.int .i64 q0, .int .i64 q1, .slice qa qk.length qc] 29)) w4.heap.size (.int .i64 q0) (.int .i64 q1) (.slice qa qk.length qc)) := Box.new _ _ _ _ _
    have R5 : Hid (irSh.rep (w4.alloc (.cells #[.int .i64 q0, .int .i64 q1, .slice qa qk.length qc] 29)) (fun b => b < w4.heap.size ∧ Plain (w4.alloc (.cells #[.int .i64 q0, .int .i64 q1, .slice qa qk.length qc] 29)) b) [.int .i64 q0, .int .i64 q1, .slice qa qk.length qc] T) := irSh.mono (irSh.on R4.out fun b hb => Below.heap_alloc _ _ _ hb.1) fun b hb => ⟨hb.1, hb.2.on (Below.heap_alloc _ _ _ hb.1)⟩
    have Z5 : Hid (w4.heap.size < (w4.alloc (.cells #[.int .i64 q0, .int .i64 q1, .slice qa qk.length qc] 29)).heap.size) := by show _ < _; simp
    go_wp2_with fail
    refine (implIrSize T _ _ hw (irSh.mono R5.out fun b hb => ⟨Nat.lt_trans hb.1 Z5.out, hb.2⟩)).mono ?_
    rintro e w6 ⟨rfl, hb⟩
    have K6 : Hid (Kept w w6 v0 v1 v2) := K5.out.on hb
    have X6 : Hid (Box w6 w4.heap.size (.int .i64 q0) (.int .i64 q1) (.slice qa qk.length qc)) := X5.out.on hb Z5.out
    have R6 : Hid (irSh.rep w6 (· < w4.heap.size) [.int .i64 q0, .int .i64 q1, .slice qa qk.length qc] T) := irSh.below (irSh.mono R5.out fun b hb => hb.1) (hb.mono (Nat.le_of_lt Z5.out))
    have Z6 : Hid (w4.heap.size < w6.heap.size) := Nat.lt_of_lt_of_le Z5.out hb.size
    clear hb K5 X5 R5 Z5 K4 R4
    go_wp2
    obtain ⟨x0, x1, x2⟩ := K6.out.box
    obtain ⟨b0, b1, b2⟩ := X6.out
    have K6d : Hid (Kept w w6.drew v0 v1 v2) := ⟨K6.out.bel.drew, K6.out.box, K6.out.lt⟩
    have hcall := to_anyQ T _ w6.drew hw (AT.out _ K6d.out.bel)
    go_region_with (first | (go_at_call 6; refine hcall.mono ?_; rintro e w7 ⟨⟨cs7, rfl, r7⟩, hb⟩; obtain ⟨z0, z1, z2⟩ := Box.on (w := w6.drew) X6.out hb Z6.out) | (go_at_call 8; refine (eq_any T [.int .i64 q0, .int .i64 q1, .slice qa qk.length qc] cs7 _ (irSh.mono (irSh.on (irSh.on R6.out (w' := w6.drew) fun _ _ => rfl) (fun b hlt => hb.block b (Nat.lt_trans hlt Z6.out))) (fun b hlt => Nat.lt_of_lt_of_le (Nat.lt_trans hlt Z6.out) hb.size)) (irSh.mono r7 fun b hlt => hlt.2.1)).mono ?_; rintro e w8 ⟨rfl, hb8⟩))
    all_goals
      have K8 : Hid (Kept w w8 v0 v1 v2) := (K6d.out.on hb).on hb8
      clear hb hb8 r7 hcall
      go_wp2
      go_ret
      exact ⟨rfl, K8.out.bel⟩
  · have hl : left (wt T) 1048576 = -1 := by unfold left; rw [if_neg (by omega)]
    rw [hl]
    go_wp2
    go_ret
    exact ⟨rfl, K1.out.bel⟩

set_option maxRecDepth 100000 in
theorem lifted (os : Os) (started : os.Started) (H : Type) (enc : TypeId × Value → H) :
    ReturnsInHanded {} Try.checked os 3 .any (Rows.fnExactIrSizeSpec.pre6 enc Try.prog Try.f3 Rows.fnExactIrSizeRow.domain false) (Rows.fnExactIrSizeSpec.post enc Try.prog Try.f3 false true false false) := by
  refine returnsInHanded_of_change (C := Try.checked) own started (by kernel_rfl) Try.func3
    (ChangeSpec.witness6 (enc := enc) (C := Try.checked) false ⟨#[], #[.agg #[.int .i64 0, .int .i64 0, .slice none 0 0]], []⟩ 8 (by kernel_rfl) (by kernel_rfl) (by kernel_rfl) (by kernel_rfl)) ?_
  intro W base args ds gs before hval0 hW hcnd _
  have hval : ∀ (j : Nat) t v, Try.f3.params[j]? = some t → args[j]? = some v → Value.okWide Try.prog W .any base t v := hval0
  have hW' := hW
  obtain ⟨p, q, hA0, hV, rfl, hfz, hnd⟩ := hW
  have hA : DataW.TrodAll enc Try.prog W 0 (fun _ => true) true Try.f3.params.toList args.toList ds p := hA0
  rw [Try.params3] at hA hval
  obtain ⟨v0, vs0, d0, ds0, p0, q0, hargs, rfl, rfl, h0, r0⟩ := trodAll_cons hA
  obtain ⟨rfl, rfl, rfl⟩ := trodAll_nil r0
  obtain rfl : args = #[v0] := by cases args; simp_all
  obtain ⟨rfl, rfl⟩ := trodVars_none hV
  have k0 := h0
  have lt0 : ∀ x ∈ p0, x.block < W.heap.size := by obtain ⟨m, hm⟩ := k0; exact DataW.trod_lt m _ _ _ hm
  obtain ⟨cs, T, rfl, hT⟩ := arg_ir (hval 0 24 v0 rfl rfl) h0
  clear hA0 hval0
  refine (walk cs T W hT).mono fun e W' ⟨he, bel⟩ => ?_
  subst he
  exact ⟨_, rfl, _, _, _, [], _, [], hW', trodAll_mk1 (shut_bool Try.underlying4 _), (trodAll_cons_mk (Below.trod laidOut (by kernel_rfl) (of_decide_eq_true (by kernel_rfl)) k0 bel lt0) trodAll_mk0), rfl, bel.frame _, fun h => by cases h⟩

theorem over : Rows.fnExactIrSizeRow.holds Try.pinned (OpenSpec.ofChange Rows.fnExactIrSizeSpec) :=
  OpenClaim.holds_of_wide 3 Try.f3 rfl rfl rfl rfl rfl rfl rfl ⟨rfl, rfl, rfl, rfl, rfl⟩ rfl rfl rfl rfl rfl (by kernel_rfl) Try.func3 (by kernel_rfl)
    (of_decide_eq_true (by kernel_rfl)) (by unfold Func.isWrapper; first | (rw [if_pos (by decide +kernel)]; kernel_rfl) | (rw [if_neg (by decide +kernel)]; exact ⟨rfl, rfl⟩))
    (fun os started H enc _ => lifted os started H enc)

/-- THE STATEMENT. -/
theorem proved : Rows.FnExactIrSizeSaid :=
  over
#print axioms proved
end Go.Proofs.Ytndlhmpglpehcaa.fnExactIrSize
