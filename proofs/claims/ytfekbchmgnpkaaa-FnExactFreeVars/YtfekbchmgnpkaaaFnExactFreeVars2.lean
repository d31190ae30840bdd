/-
  At every argument the program's function answers as its model, writes nothing into the argument, and its answer owns its memory; the law's call returns true, and the argument reads as it read before. No condition.
-/
import Derived.Test.YtfekbchmgnpkaaaRows
import Derived.Test.YtfekbchmgnpkaaaTyArg
import Derived.Test.YtfekbchmgnpkaaaTyToP
import Derived.Test.YtfekbchmgnpkaaaTyMark
import Derived.Test.YtfekbchmgnpkaaaTyEq
import Derived.Test.YtfekbchmgnpkaaaFreeVarsImpl2
import Derived.Test.YtfekbchmgnpkaaaTyPlain
import Derived.ProofKit
import Derived.Deep.DeepHandedRow
import Derived.ChangeOld
import Derived.Carry
namespace Go.Proofs.Ytfekbchmgnpkaaa.fnExactFreeVars
open Go.ChangeShapes Go.WideShapes Go.ChangeAt Go.RowKit Go.Proofs.Ytfekbchmgnpkaaa.rose Go.Proofs.Ytfekbchmgnpkaaa.ty
set_option linter.unusedVariables false

theorem own : ownKnob Try.prog.godebug = none := by kernel_rfl
theorem laidOut : laidOutB Try.prog = true := by kernel_rfl

/-- The cells of a block. -/
def Box (w : World) (g : Nat) (v0 v1 v2 v3 : Value) : Prop :=
  w.cell? ⟨g, 0, none⟩ = some v0 ∧ w.cell? ⟨g, 1, none⟩ = some v1 ∧ w.cell? ⟨g, 2, none⟩ = some v2 ∧ w.cell? ⟨g, 3, none⟩ = some v3
theorem Box.on {w w' : World} {g B : Nat} {v0 v1 v2 v3 : Value} (h : Box w g v0 v1 v2 v3) (hb : Below B w w') (hg : g < B) : Box w' g v0 v1 v2 v3 := by
  obtain ⟨h0, h1, h2, h3⟩ := h
  exact ⟨(hb.cell (p := ⟨g, 0, none⟩) hg).trans h0, (hb.cell (p := ⟨g, 1, none⟩) hg).trans h1, (hb.cell (p := ⟨g, 2, none⟩) hg).trans h2, (hb.cell (p := ⟨g, 3, none⟩) hg).trans h3⟩
theorem Box.new (w : World) (v0 v1 v2 v3 : Value) (t : TypeId) : Box (w.alloc (.cells #[v0, v1, v2, v3] t)) w.heap.size v0 v1 v2 v3 := by
  refine ⟨?_, ?_, ?_, ?_⟩ <;> simp

/-- What every moment of the law keeps: the argument's box. -/
structure Kept (w wk : World) (v0 v1 v2 v3 : Value) : Prop where
  bel : Below w.heap.size w wk
  box : Box wk w.heap.size v0 v1 v2 v3
  lt : w.heap.size < wk.heap.size
theorem Kept.on {w wk wl : World} {v0 v1 v2 v3 : Value} (h : Kept w wk v0 v1 v2 v3) (hb : Below wk.heap.size wk wl) : Kept w wl v0 v1 v2 v3 :=
  ⟨h.bel.trans (hb.mono h.bel.size), h.box.on hb h.lt, Nat.lt_of_lt_of_le h.lt hb.size⟩

theorem Kept.only {w wk wl : World} {S : Nat → Prop} {v0 v1 v2 v3 : Value} (h : Kept w wk v0 v1 v2 v3) (ho : Only S wk wl) (hS : ∀ b, S b → w.heap.size < b) : Kept w wl v0 v1 v2 v3 := by
  have hb : Below (w.heap.size + 1) wk wl := ho.below h.lt fun b hb => hS b hb
  exact ⟨h.bel.trans (hb.mono (Nat.le_succ _)), h.box.on hb (Nat.lt_succ_self _), Nat.lt_of_lt_of_le h.lt hb.size⟩

/-- From one world's end to another's; from behind the box on. -/
def SW (a b : World) (k : Nat) : Prop := a.heap.size ≤ k ∧ k < b.heap.size
def SG (a b : World) (k : Nat) : Prop := a.heap.size + 1 ≤ k ∧ k < b.heap.size

set_option maxRecDepth 100000 in
set_option maxHeartbeats 8000000 in
theorem walk (cs : List Value) (T : TyD) (w : World) (h : tySh.rep w (· < w.heap.size) cs T) :
    Calls Try.prog 6 #[.agg cs.toArray] w fun e w' => e = .returned (.bool true) ∧ Below w.heap.size w w' := by
  obtain ⟨v0, v1, v2, v3, rfl⟩ := ty_list h
  have HT : Hid (tySh.rep w (· < w.heap.size) [v0, v1, v2, v3] T) := h
  have B0 : Hid (Below w.heap.size w (w.alloc (.cells #[v0, v1, v2, v3] 24))) := (Below.refl _ _).alloc (Nat.le_refl _) _
  have X0 : Hid (Box (w.alloc (.cells #[v0, v1, v2, v3] 24)) w.heap.size v0 v1 v2 v3) := Box.new _ _ _ _ _ _
  have Z0 : Hid (w.heap.size < (w.alloc (.cells #[v0, v1, v2, v3] 24)).heap.size) := by show _ < _; simp
  have at_ : ∀ w' : World, Below w.heap.size w w' → tySh.rep w' (· < w'.heap.size) [v0, v1, v2, v3] T := fun w' hb => tySh.mono (tySh.below h hb) fun b hlt => Nat.lt_of_lt_of_le hlt hb.size
  have AT : Hid (∀ w' : World, Below w.heap.size w w' → tySh.rep w' (· < w'.heap.size) [v0, v1, v2, v3] T) := at_
  clear h at_
  have o0 := tySh.one HT.out v0 (by simp)
  have o1 := tySh.one HT.out v1 (by simp)
  have o2 := tySh.one HT.out v2 (by simp)
  have o3 := tySh.one HT.out v3 (by simp)
  go_enter Try.func6, Try.ntmps6
  go_wp2_with fail
  refine (sz_any T _ _ 1048576 (by decide) (by decide) (AT.out _ B0.out)).mono ?_
  rintro e w1 ⟨rfl, hb⟩
  have K1 : Hid (Kept w w1 v0 v1 v2 v3) := (Kept.mk B0.out X0.out Z0.out).on hb
  clear hb B0 X0 Z0
  by_cases hw : wt T ≤ 1048576
  · have hl : left (wt T) 1048576 = 1048576 - (wt T : Nat) := by unfold left; rw [if_pos (by omega)]
    rw [hl]
    have t1 : decide ((1048576 : Int) - (wt T : Nat) < 0) = false := by simp; omega
    obtain ⟨x0, x1, x2, x3⟩ := K1.out.box
    go_wp2_with fail
    refine (toP_any T _ _ hw (AT.out _ K1.out.bel)).mono ?_
    rintro e w2 ⟨⟨cs2, rfl, r2⟩, hb⟩
    clear x0 x1 x2 x3
    have K2 : Hid (Kept w w2 v0 v1 v2 v3) := K1.out.on hb
    have R2 : Hid (tySh.rep w2 (· < w2.heap.size) cs2 T) := tySh.mono (typ_rep r2) fun b hb => hb.2
    clear hb r2 K1
    go_wp2_with fail
    refine (ints.specFreeVars T _ _ hw R2.out).mono ?_
    rintro e w3 ⟨⟨vw, rfl, rw3⟩, hb⟩
    have K3 : Hid (Kept w w3 v0 v1 v2 v3) := K2.out.on hb
    have O3 : Hid (w.heap.size < w2.heap.size ∧ w2.heap.size ≤ w3.heap.size) := ⟨K2.out.lt, hb.size⟩
    have S3 : Hid (ints.intsSh.rep w3 (SW w2 w3) [vw] (ints.vrs T [])) := ints.intsp_rep rw3.sp
    clear hb R2 K2 rw3
    obtain ⟨x0, x1, x2, x3⟩ := K3.out.box
    go_wp2_with fail
    refine (toP_any T _ _ hw (AT.out _ K3.out.bel)).mono ?_
    rintro e w4 ⟨⟨cs4, rfl, r4⟩, hb⟩
    clear x0 x1 x2 x3
    have K4 : Hid (Kept w w4 v0 v1 v2 v3) := K3.out.on hb
    have O4 : Hid (w3.heap.size ≤ w4.heap.size) := hb.size
    have P4 : Hid (tySp.rep w4 (SW w3 w4) cs4 T) := r4
    have S4 : Hid (ints.intsSh.rep w4 (SW w2 w3) [vw] (ints.vrs T [])) := ints.intsSh.stay S3.out hb fun b hb => hb.2
    clear hb r4 K3 S3
    obtain ⟨q0, q1, q2, qk, qa, qc, hT, rfl, -, -, -, -⟩ := typ_open P4.out
    clear hT
    have HA : Below w4.heap.size w4 (w4.alloc (.cells #[.int .i64 q0, .int .i64 q1, .string q2, .slice qa qk.length qc] 29)) := (Below.refl _ _).alloc (Nat.le_refl _) _
    have K5 : Hid (Kept w (w4.alloc (.cells #[.int .i64 q0, .int .i64 q1, .string q2, .slice qa qk.length qc] 29)) v0 v1 v2 v3) := K4.out.on HA
    have X5 : Hid (Box (w4.alloc (.cells #[.int .i64 q0, .int .i64 q1, .string q2, .slice qa qk.length qc] 29)) w4.heap.size (.int .i64 q0) (.int .i64 q1) (.string q2) (.slice qa qk.length qc)) := Box.new _ _ _ _ _ _
    have P5 : Hid (tySp.rep (w4.alloc (.cells #[.int .i64 q0, .int .i64 q1, .string q2, .slice qa qk.length qc] 29)) (SW w3 w4) [.int .i64 q0, .int .i64 q1, .string q2, .slice qa qk.length qc] T) := tySp.stay P4.out HA fun b hb => hb.2
    have S5 : Hid (ints.intsSh.rep (w4.alloc (.cells #[.int .i64 q0, .int .i64 q1, .string q2, .slice qa qk.length qc] 29)) (SW w2 w3) [vw] (ints.vrs T [])) := ints.intsSh.stay S4.out HA fun b hb => Nat.lt_of_lt_of_le hb.2 O4.out
    have Z5 : Hid ((w4.alloc (.cells #[.int .i64 q0, .int .i64 q1, .string q2, .slice qa qk.length qc] 29)).heap.size = w4.heap.size + 1) := by show _ = _; simp
    clear HA S4 P4 K4
    go_wp2_with fail
    refine (ints.implFreeVars T _ _ _ (fun b hb => by rw [Z5.out]; have := hb.1.2; omega) (fun b hb => hb.2) hw (typ_plain T P5.out)).mono ?_
    rintro e w6 ⟨⟨vg, rfl, rg6⟩, hb⟩
    rw [Z5.out] at rg6
    have O6 : Hid (w4.heap.size + 1 ≤ w6.heap.size) := by have := hb.size; rw [Z5.out] at this; exact this
    have K6 : Hid (Kept w w6 v0 v1 v2 v3) := K5.out.on hb
    have X6 : Hid (Box w6 w4.heap.size (.int .i64 q0) (.int .i64 q1) (.string q2) (.slice qa qk.length qc)) := X5.out.on hb (by rw [Z5.out]; omega)
    have P6 : Hid (tySp.rep w6 (SW w3 w4) [.int .i64 q0, .int .i64 q1, .string q2, .slice qa qk.length qc] T) := tySp.stay P5.out hb fun b hb => by rw [Z5.out]; have := hb.2; omega
    have S6 : Hid (ints.intsSh.rep w6 (SW w2 w3) [vw] (ints.vrs T [])) := ints.intsSh.stay S5.out hb fun b hb => by rw [Z5.out]; have := hb.2; have := O4.out; omega
    have G6 : Hid (ints.intsSp.rep w6 (SG w4 w6) [vg] (ints.vrs T [])) := rg6.sp
    clear hb rg6 Z5 S5 P5 X5 K5
    go_wp2_with fail
    refine (ints.eq_any _ _ _ _ (ints.intsSh.in_ (ints.intsp_rep G6.out) fun b hb => hb.2) (ints.intsSh.in_ S6.out fun b hb => by have := hb.2; have := O4.out; have := O6.out; omega)).mono ?_
    rintro e w7 ⟨rfl, hb⟩
    have O7 : Hid (w6.heap.size ≤ w7.heap.size) := hb.size
    have K7 : Hid (Kept w w7 v0 v1 v2 v3) := K6.out.on hb
    have X7 : Hid (Box w7 w4.heap.size (.int .i64 q0) (.int .i64 q1) (.string q2) (.slice qa qk.length qc)) := X6.out.on hb (by have := O6.out; omega)
    have P7 : Hid (tySp.rep w7 (SW w3 w4) [.int .i64 q0, .int .i64 q1, .string q2, .slice qa qk.length qc] T) := tySp.stay P6.out hb fun b hb => by have := hb.2; have := O6.out; omega
    have S7 : Hid (ints.intsSh.rep w7 (SW w2 w3) [vw] (ints.vrs T [])) := ints.intsSh.stay S6.out hb fun b hb => by have := hb.2; have := O4.out; have := O6.out; omega
    have G7 : Hid (ints.intsSp.rep w7 (SG w4 w6) [vg] (ints.vrs T [])) := ints.intsSp.stay G6.out hb fun b hb => hb.2
    clear hb S6 P6 X6 K6 G6
    go_wp2
    obtain ⟨x0, x1, x2, x3⟩ := K7.out.box
    obtain ⟨b0, b1, b2, b3⟩ := X7.out
    have K7d : Hid (Kept w w7.drew v0 v1 v2 v3) := ⟨K7.out.bel.drew, K7.out.box, K7.out.lt⟩
    have hcall := toP_any T _ w7.drew hw (AT.out _ K7d.out.bel)
    go_region_with (first | (go_at_call 11; refine hcall.mono ?_; rintro e w8 ⟨⟨cs8, rfl, r8⟩, hb⟩; obtain ⟨z0, z1, z2, z3⟩ := Box.on (w := w7.drew) X7.out hb (by have := O6.out; have := O7.out; show _ < w7.heap.size; omega)) | (go_at_call 13; refine (eq_any T [.int .i64 q0, .int .i64 q1, .string q2, .slice qa qk.length qc] cs8 _ (tySh.in_ (tySh.stay (tySh.on (typ_rep P7.out) (w' := w7.drew) fun _ _ => rfl) hb (fun b hlt => by have := hlt.2; have := O6.out; have := O7.out; show _ < w7.heap.size; omega)) (fun b hlt => by have := hlt.2; have := O6.out; have := O7.out; have : w7.heap.size ≤ w8.heap.size := hb.size; omega)) (tySh.in_ (typ_rep r8) fun b hlt => hlt.2)).mono ?_; rintro e w9 ⟨rfl, hb9⟩))
    all_goals
      have h89 : Below w7.heap.size w7 w9 := ((Below.refl _ w7).drew.trans hb).trans (hb9.mono hb.size)
      have O9 : Hid (w7.heap.size ≤ w9.heap.size) := h89.size
      have K9 : Hid (Kept w w9 v0 v1 v2 v3) := K7.out.on h89
      have X9 : Hid (Box w9 w4.heap.size (.int .i64 q0) (.int .i64 q1) (.string q2) (.slice qa qk.length qc)) := X7.out.on h89 (by have := O6.out; have := O7.out; omega)
      have P9 : Hid (tySp.rep w9 (SW w3 w4) [.int .i64 q0, .int .i64 q1, .string q2, .slice qa qk.length qc] T) := tySp.stay P7.out h89 fun b hb => by have := hb.2; have := O6.out; have := O7.out; omega
      have S9 : Hid (ints.intsSh.rep w9 (SW w2 w3) [vw] (ints.vrs T [])) := ints.intsSh.stay S7.out h89 fun b hb => by have := hb.2; have := O4.out; have := O6.out; have := O7.out; omega
      have G9 : Hid (ints.intsSp.rep w9 (SG w4 w6) [vg] (ints.vrs T [])) := ints.intsSp.stay G7.out h89 fun b hb => by have := hb.2; have := O7.out; omega
      clear hb hb9 r8 hcall h89 S7 P7 X7 K7 G7 K7d b0 b1 b2 b3 x0 x1 x2 x3 z0 z1 z2 z3
      obtain ⟨b0, b1, b2, b3⟩ := X9.out
      go_wp2_with fail
      have hcn : cnts T.kids ≤ 3145728 := by
        have h1 := cnts_le T.kids
        have h2 : T.kids.length + wts T.kids ≤ wt T := by obtain ⟨⟨y0, y1, y2⟩, ys⟩ := T; simp [wt, Rose.kids]
        omega
      refine (markT_any T _ _ 1 (SW w3 w4) (by omega) (by omega) (fun b hb => by have := hb.2; have := O6.out; have := O7.out; have := O9.out; omega) P9.out).mono ?_
      rintro e w10 ⟨rfl, -, ho⟩
      have O10 : Hid (w9.heap.size ≤ w10.heap.size) := ho.size
      have K10 : Hid (Kept w w10 v0 v1 v2 v3) := K9.out.only ho fun b hb => by have := hb.1; have := O3.out; omega
      have S10 : Hid (ints.intsSh.rep w10 (SW w2 w3) [vw] (ints.vrs T [])) := ints.intsSh.stayOnly S9.out ho fun b hb => ⟨by have := hb.2; have := O4.out; have := O6.out; have := O7.out; have := O9.out; omega, fun hq => by have := hb.2; have := hq.1; omega⟩
      have G10 : Hid (ints.intsSp.rep w10 (SG w4 w6) [vg] (ints.vrs T [])) := ints.intsSp.stayOnly G9.out ho fun b hb => ⟨by have := hb.2; have := O7.out; have := O9.out; omega, fun hq => by have := hb.1; have := hq.2; omega⟩
      clear ho S9 G9 P9 X9 K9 b0 b1 b2 b3
      have t2 : decide ((1 : Int) + (cnts T.kids : Nat) < 0) = false := by simp; omega
      generalize (cnts T.kids : Nat) = cn at t2 hcn ⊢
      go_wp2_with fail
      refine (ints.eq_any _ _ _ _ (ints.intsSh.in_ (ints.intsp_rep G10.out) fun b hb => by have := hb.2; have := O7.out; have := O9.out; have := O10.out; omega) (ints.intsSh.in_ S10.out fun b hb => by have := hb.2; have := O4.out; have := O6.out; have := O7.out; have := O9.out; have := O10.out; omega)).mono ?_
      rintro e w11 ⟨rfl, hb⟩
      have O11 : Hid (w10.heap.size ≤ w11.heap.size) := hb.size
      have K11 : Hid (Kept w w11 v0 v1 v2 v3) := K10.out.on hb
      have S11 : Hid (ints.intsSh.rep w11 (SW w2 w3) [vw] (ints.vrs T [])) := ints.intsSh.stay S10.out hb fun b hb => by have := hb.2; have := O4.out; have := O6.out; have := O7.out; have := O9.out; have := O10.out; omega
      have G11 : Hid (ints.intsSp.rep w11 (SG w4 w6) [vg] (ints.vrs T [])) := ints.intsSp.stay G10.out hb fun b hb => by have := hb.2; have := O7.out; have := O9.out; have := O10.out; omega
      clear hb S10 G10 K10 t2
      have hll : (ints.vrs T []).length ≤ 1048577 := by have := ints.vrs_length T []; simp at this; omega
      go_wp2_with fail
      refine (ints.mark_any _ _ _ 1 (SG w4 w6) (by omega) (by omega) (fun b hb => by have := hb.2; have := O7.out; have := O9.out; have := O10.out; have := O11.out; omega) G11.out).mono ?_
      rintro e w12 ⟨rfl, hr, ho⟩
      have O12 : Hid (w11.heap.size ≤ w12.heap.size) := ho.size
      have K12 : Hid (Kept w w12 v0 v1 v2 v3) := K11.out.only ho fun b hb => by have := hb.1; have := O3.out; have := O4.out; omega
      have S12 : Hid (ints.intsSh.rep w12 (SW w2 w3) [vw] (ints.vrs T [])) := ints.intsSh.stayOnly S11.out ho fun b hb => ⟨by have := hb.2; have := O4.out; have := O6.out; have := O7.out; have := O9.out; have := O10.out; have := O11.out; omega, fun hq => by have := hb.2; have := hq.1; have := O4.out; omega⟩
      have G12 : Hid (ints.intsSh.rep w12 (SG w4 w6) [vg] (ints.mks 1 (ints.vrs T []))) := ints.intsp_rep hr
      have Q12 : Hid (w6.heap.size ≤ w12.heap.size ∧ w3.heap.size ≤ w12.heap.size) := by have := O4.out; have := O6.out; have := O7.out; have := O9.out; have := O10.out; have := O11.out; have := O12.out; exact ⟨by omega, by omega⟩
      clear ho hr S11 G11 K11
      obtain ⟨n0, hn0⟩ : ∃ n0 : Nat, n0 = (ints.vrs T []).length := ⟨_, rfl⟩
      have HN : Hid (n0 = (ints.vrs T []).length) := hn0
      rw [← hn0] at hll ⊢
      clear hn0
      go_wp2_with fail
      refine (ints.held_any (ints.vrs T []) _ _ 1 (by omega) (by rw [← HN.out]; omega) (ints.intsSh.in_ G12.out fun b hb => by have := hb.2; have := Q12.out; omega)).mono ?_
      rw [← HN.out]
      rintro e w13 ⟨rfl, hb⟩
      have K13 : Hid (Kept w w13 v0 v1 v2 v3) := K12.out.on hb
      have Q13 : Hid (w6.heap.size ≤ w13.heap.size ∧ w3.heap.size ≤ w13.heap.size) := by have := hb.size; have := Q12.out; exact ⟨by omega, by omega⟩
      have S13 : Hid (ints.intsSh.rep w13 (SW w2 w3) [vw] (ints.vrs T [])) := ints.intsSh.stay S12.out hb fun b hb => by have := hb.2; have := Q12.out; omega
      have G13 : Hid (ints.intsSh.rep w13 (SG w4 w6) [vg] (ints.mks 1 (ints.vrs T []))) := ints.intsSh.stay G12.out hb fun b hb => by have := hb.2; have := Q12.out; omega
      clear hb S12 G12 K12
      have t3 : decide ((1 : Int) + (n0 : Nat) < 0) = false := by simp; omega
      obtain ⟨x0, x1, x2, x3⟩ := K13.out.box
      go_wp2_with fail
      refine (toP_any T _ _ hw (AT.out _ K13.out.bel)).mono ?_
      rintro e w14 ⟨⟨cs14, rfl, r14⟩, hb⟩
      clear x0 x1 x2 x3
      have K14 : Hid (Kept w w14 v0 v1 v2 v3) := K13.out.on hb
      have R14 : Hid (tySh.rep w14 (fun b => (w13.heap.size ≤ b ∧ b < w14.heap.size) ∧ Plain w14 b) cs14 T) := typ_plain T r14
      have Q14 : Hid (w6.heap.size ≤ w14.heap.size ∧ w3.heap.size ≤ w14.heap.size) := by have := hb.size; have := Q13.out; exact ⟨by omega, by omega⟩
      have S14 : Hid (ints.intsSh.rep w14 (SW w2 w3) [vw] (ints.vrs T [])) := ints.intsSh.stay S13.out hb fun b hb => by have := hb.2; have := Q13.out; omega
      have G14 : Hid (ints.intsSh.rep w14 (SG w4 w6) [vg] (ints.mks 1 (ints.vrs T []))) := ints.intsSh.stay G13.out hb fun b hb => by have := hb.2; have := Q13.out; omega
      clear hb r14 K13 S13 G13
      go_wp2_with fail
      refine (ints.implFreeVars T _ _ _ (fun b hb => hb.1.2) (fun b hb => hb.2) hw R14.out).mono ?_
      rintro e w15 ⟨⟨vh, rfl, rh⟩, hb⟩
      have K15 : Hid (Kept w w15 v0 v1 v2 v3) := K14.out.on hb
      have H15 : Hid (ints.intsSh.rep w15 (· < w15.heap.size) [vh] (ints.vrs T [])) := ints.intsSh.mono (ints.intsp_rep rh.sp) fun b hb => hb.2
      have Q15 : Hid (w6.heap.size ≤ w15.heap.size ∧ w3.heap.size ≤ w15.heap.size) := by have := hb.size; have := Q14.out; exact ⟨by omega, by omega⟩
      have S15 : Hid (ints.intsSh.rep w15 (SW w2 w3) [vw] (ints.vrs T [])) := ints.intsSh.stay S14.out hb fun b hb => by have := hb.2; have := Q14.out; omega
      have G15 : Hid (ints.intsSh.rep w15 (SG w4 w6) [vg] (ints.mks 1 (ints.vrs T []))) := ints.intsSh.stay G14.out hb fun b hb => by have := hb.2; have := Q14.out; omega
      clear hb rh K14 S14 G14 R14
      go_wp2_with fail
      refine (ints.eq_any _ _ _ _ H15.out (ints.intsSh.in_ S15.out fun b hb => by have := hb.2; have := Q15.out; omega)).mono ?_
      rintro e w16 ⟨rfl, hb⟩
      have K16 : Hid (Kept w w16 v0 v1 v2 v3) := K15.out.on hb
      have Q16 : Hid (w6.heap.size ≤ w16.heap.size) := by have := hb.size; have := Q15.out; show _ ≤ _; omega
      have G16 : Hid (ints.intsSh.rep w16 (SG w4 w6) [vg] (ints.mks 1 (ints.vrs T []))) := ints.intsSh.stay G15.out hb fun b hb => by have := hb.2; have := Q15.out; omega
      clear hb K15 S15 G15 H15
      go_wp2_with fail
      refine (ints.held_any (ints.vrs T []) _ _ 1 (by omega) (by rw [← HN.out]; omega) (ints.intsSh.in_ G16.out fun b hb => by have := hb.2; have := Q16.out; omega)).mono ?_
      rw [← HN.out]
      rintro e w17 ⟨rfl, hb⟩
      have K17 : Hid (Kept w w17 v0 v1 v2 v3) := K16.out.on hb
      clear hb
      go_wp2
      go_ret
      exact ⟨rfl, K17.out.bel⟩
  · have hl : left (wt T) 1048576 = -1 := by unfold left; rw [if_neg (by omega)]
    rw [hl]
    go_wp2
    go_ret
    exact ⟨rfl, K1.out.bel⟩

set_option maxRecDepth 100000 in
theorem lifted (os : Os) (started : os.Started) (H : Type) (enc : TypeId × Value → H) :
    ReturnsInHanded {} Try.checked os 6 .any (Rows.fnExactFreeVarsSpec.pre6 enc Try.prog Try.f6 Rows.fnExactFreeVarsRow.domain false) (Rows.fnExactFreeVarsSpec.post enc Try.prog Try.f6 false true false false) := by
  refine returnsInHanded_of_change (C := Try.checked) own started (by kernel_rfl) Try.func6
    (ChangeSpec.witness6 (enc := enc) (C := Try.checked) false ⟨#[], #[.agg #[.int .i64 0, .int .i64 0, .string ⟨#[]⟩, .slice none 0 0]], []⟩ 8 (by kernel_rfl) (by kernel_rfl) (by kernel_rfl) (by kernel_rfl)) ?_
  intro W base args ds gs before hval0 hW hcnd _
  have hval : ∀ (j : Nat) t v, Try.f6.params[j]? = some t → args[j]? = some v → Value.okWide Try.prog W .any base t v := hval0
  have hW' := hW
  obtain ⟨p, q, hA0, hV, rfl, hfz, hnd⟩ := hW
  have hA : DataW.TrodAll enc Try.prog W 0 (fun _ => true) true Try.f6.params.toList args.toList ds p := hA0
  rw [Try.params6] at hA hval
  obtain ⟨v0, vs0, d0, ds0, p0, q0, hargs, rfl, rfl, h0, r0⟩ := trodAll_cons hA
  obtain ⟨rfl, rfl, rfl⟩ := trodAll_nil r0
  obtain rfl : args = #[v0] := by cases args; simp_all
  obtain ⟨rfl, rfl⟩ := trodVars_none hV
  have k0 := h0
  have lt0 : ∀ x ∈ p0, x.block < W.heap.size := by obtain ⟨m, hm⟩ := k0; exact DataW.trod_lt m _ _ _ hm
  obtain ⟨cs, T, rfl, hT⟩ := arg_ty (hval 0 24 v0 rfl rfl) h0
  clear hA0 hval0
  refine (walk cs T W hT).mono fun e W' ⟨he, bel⟩ => ?_
  subst he
  exact ⟨_, rfl, _, _, _, [], _, [], hW', trodAll_mk1 (shut_bool Try.underlying4 _), (trodAll_cons_mk (Below.trod laidOut (by kernel_rfl) (of_decide_eq_true (by kernel_rfl)) k0 bel lt0) trodAll_mk0), rfl, bel.frame _, fun h => by cases h⟩

theorem over : Rows.fnExactFreeVarsRow.holds Try.pinned (OpenSpec.ofChange Rows.fnExactFreeVarsSpec) :=
  OpenClaim.holds_of_wide 6 Try.f6 rfl rfl rfl rfl rfl rfl rfl ⟨rfl, rfl, rfl, rfl, rfl⟩ rfl rfl rfl rfl rfl (by kernel_rfl) Try.func6 (by kernel_rfl)
    (of_decide_eq_true (by kernel_rfl)) (by unfold Func.isWrapper; first | (rw [if_pos (by decide +kernel)]; kernel_rfl) | (rw [if_neg (by decide +kernel)]; exact ⟨rfl, rfl⟩))
    (fun os started H enc _ => lifted os started H enc)

/-- THE STATEMENT. -/
theorem proved : Rows.FnExactFreeVarsSaid :=
  over
#print axioms proved
end Go.Proofs.Ytfekbchmgnpkaaa.fnExactFreeVars
