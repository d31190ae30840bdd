/-
  At every value the program's ValueText answers as its model; the law's call returns true, and the argument reads as it read before. Conditions: the three tables of the library that the road names are as the program's text lays them (the card ties them).
-/
import Derived.Test.YtfcnadepopbdhaaDoorCards
import Derived.Test.YtfcnadepopbdhaaDoorTie
import Derived.Test.YtfcnadepopbdhaaDoorValueArg
import Derived.Test.YtfcnadepopbdhaaDoorValueTo
import Derived.Test.YtfcnadepopbdhaaDoorValueEq
import Derived.Test.YtfcnadepopbdhaaDoorValTextSpec
import Derived.Test.YtfcnadepopbdhaaDoorValTextImpl
import Derived.WalkKit
import Derived.ProofKit
import Derived.OpenShut
import Derived.Deep.DeepHandedRow
import Derived.Lib.LaidTab
import Derived.Lib.AppendIntMem
import Derived.LaidMore
import Derived.Stop.LaidErr
import Derived.ChangeOld
import Derived.Carry
namespace Go.Proofs.YtfcnadepopbdhaaDoor.fnExactValueText
open Go.ChangeShapes Go.WideShapes Go.ChangeAt Go.RowKit Go.Proofs.YtfcnadepopbdhaaDoor.rose Go.Proofs.YtfcnadepopbdhaaDoor.value Go.Proofs.YtfcnadepopbdhaaDoor.vt
set_option linter.unusedVariables false
set_option maxRecDepth 100000

theorem own : ownKnob Tryd.prog.godebug = none := by kernel_rfl
theorem laidOut : laidOutB Tryd.prog = true := by kernel_rfl
theorem gPow : Tryd.prog.globalNamed "internal/strconv.uint64pow10" = some 0 := by kernel_rfl
theorem gPowType : (Tryd.prog.globals[0]?).map (·.type) = some 116 := by kernel_rfl
theorem cellsPow : Tryd.prog.cellsOf 116 = 20 := by kernel_rfl
theorem cellsU64 : Tryd.prog.cellsOf 109 = 1 := by kernel_rfl

/-- WHAT THE ROW's LIST GIVES: the table of powers of ten. -/
theorem table {W : World} (h : laidMetH Tryd.prog Rows.fnExactValueTextRow.laid W) : Tab W :=
  Lib.tabIs_of_head (rest := []) gPow gPowType Tryd.underlying116 Tryd.underlying109 cellsU64 cellsPow (laidMet.tail (laidMet.tail h))

/-- The cells of a block. -/
def Box (w : World) (g : Nat) (v0 v1 v2 v3 : Value) : Prop :=
  w.cell? ⟨g, 0, none⟩ = some v0 ∧ w.cell? ⟨g, 1, none⟩ = some v1 ∧ w.cell? ⟨g, 2, none⟩ = some v2 ∧ w.cell? ⟨g, 3, none⟩ = some v3
theorem Box.on {w w' : World} {g B : Nat} {v0 v1 v2 v3 : Value} (h : Box w g v0 v1 v2 v3) (hb : Below B w w') (hg : g < B) : Box w' g v0 v1 v2 v3 := by
  obtain ⟨h0, h1, h2, h3⟩ := h
  exact ⟨(hb.cell (p := ⟨g, 0, none⟩) hg).trans h0, (hb.cell (p := ⟨g, 1, none⟩) hg).trans h1, (hb.cell (p := ⟨g, 2, none⟩) hg).trans h2, (hb.cell (p := ⟨g, 3, none⟩) hg).trans h3⟩
theorem Box.new (w : World) (v0 v1 v2 v3 : Value) (t : TypeId) : Box (w.alloc (.cells #[v0, v1, v2, v3] t)) w.heap.size v0 v1 v2 v3 := by
  refine ⟨?_, ?_, ?_, ?_⟩ <;> simp

/-- What every moment of the law keeps: the argument's box. -/
structure Kept (w wk : World) (v0 v1 v2 v3 : Value) : Prop where
  bel : Below w.heap.size w wk
  box : Box wk w.heap.size v0 v1 v2 v3
  lt : w.heap.size < wk.heap.size
theorem Kept.on {w wk wl : World} {v0 v1 v2 v3 : Value} (h : Kept w wk v0 v1 v2 v3) (hb : Below wk.heap.size wk wl) : Kept w wl v0 v1 v2 v3 :=
  ⟨h.bel.trans (hb.mono h.bel.size), h.box.on hb h.lt, Nat.lt_of_lt_of_le h.lt hb.size⟩

set_option maxRecDepth 100000 in
set_option maxHeartbeats 4000000 in
theorem walk (cs : List Value) (T : ValueD) (w : World) (ht : Tab w) (h : valueSh.rep w (· < w.heap.size) cs T) :
    Calls Tryd.prog 3 #[.agg cs.toArray] w fun e w' => e = .returned (.bool true) ∧ Below w.heap.size w w' := by
  have HTB : Hid (Tab w) := ht
  clear ht
  obtain ⟨v0, v1, v2, v3, rfl⟩ := value_list h
  have HT : Hid (valueSh.rep w (· < w.heap.size) [v0, v1, v2, v3] T) := h
  have B0 : Hid (Below w.heap.size w (w.alloc (.cells #[v0, v1, v2, v3] 24))) := (Below.refl _ _).alloc (Nat.le_refl _) _
  have X0 : Hid (Box (w.alloc (.cells #[v0, v1, v2, v3] 24)) w.heap.size v0 v1 v2 v3) := Box.new _ _ _ _ _ _
  have Z0 : Hid (w.heap.size < (w.alloc (.cells #[v0, v1, v2, v3] 24)).heap.size) := by show _ < _; simp
  have at_ : ∀ w' : World, Below w.heap.size w w' → valueSh.rep w' (· < w'.heap.size) [v0, v1, v2, v3] T := fun w' hb => valueSh.mono (valueSh.below h hb) fun b hlt => Nat.lt_of_lt_of_le hlt hb.size
  have AT : Hid (∀ w' : World, Below w.heap.size w w' → valueSh.rep w' (· < w'.heap.size) [v0, v1, v2, v3] T) := at_
  clear h at_
  have o0 := valueSh.one HT.out v0 (by simp)
  have o1 := valueSh.one HT.out v1 (by simp)
  have o2 := valueSh.one HT.out v2 (by simp)
  have o3 := valueSh.one HT.out v3 (by simp)
  go_enter Tryd.func3, Tryd.ntmps3
  go_wp2_with fail
  refine (sz_any T _ _ 1048576 (by decide) (by decide) (AT.out _ B0.out)).mono ?_
  rintro e w1 ⟨rfl, hb⟩
  have K1 : Hid (Kept w w1 v0 v1 v2 v3) := (Kept.mk B0.out X0.out Z0.out).on hb
  clear hb B0 X0 Z0
  by_cases hw : wt T ≤ 1048576
  · have hl : left (wt T) 1048576 = 1048576 - (wt T : Nat) := by unfold left; rw [if_pos (by omega)]
    rw [hl]
    have t1 : decide ((1048576 : Int) - (wt T : Nat) < 0) = false := by simp; omega
    obtain ⟨x0, x1, x2, x3⟩ := K1.out.box
    go_wp2_with fail
    refine (to_any T _ _ hw (AT.out _ K1.out.bel)).mono ?_
    rintro e w2 ⟨⟨cs2, rfl, r2⟩, hb⟩
    clear x0 x1 x2 x3
    have K2 : Hid (Kept w w2 v0 v1 v2 v3) := K1.out.on hb
    have R2 : Hid (valueSh.rep w2 (· < w2.heap.size) cs2 T) := valueSh.mono r2 fun b hb => hb.2
    clear hb r2 K1
    go_wp2_with fail
    refine (specValueText T _ _ hw R2.out).mono ?_
    rintro e w3 ⟨rfl, hb⟩
    have K3 : Hid (Kept w w3 v0 v1 v2 v3) := K2.out.on hb
    clear hb R2 K2
    obtain ⟨x0, x1, x2, x3⟩ := K3.out.box
    go_wp2_with fail
    refine (to_any T _ _ hw (AT.out _ K3.out.bel)).mono ?_
    rintro e w4 ⟨⟨cs4, rfl, r4⟩, hb⟩
    clear x0 x1 x2 x3
    have K4 : Hid (Kept w w4 v0 v1 v2 v3) := K3.out.on hb
    have R4 : Hid (valueSh.rep w4 (· < w4.heap.size) cs4 T) := valueSh.mono r4 fun b hb => hb.2
    clear hb r4 K3
    obtain ⟨q0, q1, q2, qk, qa, qc, hT, rfl, -, -, -, -⟩ := value_open R4.out
    clear hT
    have K5 : Hid (Kept w (w4.alloc (.cells #[.int .i64 q0, .int .i64 q1, .string q2, .slice qa qk.length qc] 29)) v0 v1 v2 v3) := K4.out.on ((Below.refl _ _).alloc (Nat.le_refl _) _)
    have X5 : Hid (Box (w4.alloc (.cells #[.int .i64 q0, .int .i64 q1, .string q2, .slice qa qk.length qc] 29)) w4.heap.size (.int .i64 q0) (.int .i64 q1) (.string q2) (.slice qa qk.length qc)) := Box.new _ _ _ _ _ _
    have R5 : Hid (valueSh.rep (w4.alloc (.cells #[.int .i64 q0, .int .i64 q1, .string q2, .slice qa qk.length qc] 29)) (· < w4.heap.size) [.int .i64 q0, .int .i64 q1, .string q2, .slice qa qk.length qc] T) := valueSh.below R4.out ((Below.refl _ _).alloc (Nat.le_refl _) _)
    have Z5 : Hid (w4.heap.size < (w4.alloc (.cells #[.int .i64 q0, .int .i64 q1, .string q2, .slice qa qk.length qc] 29)).heap.size) := by show _ < _; simp
    go_wp2_with fail
    refine (implValueText T _ _ hw (HTB.out.on K5.out.bel) (valueSh.mono R5.out fun b hb => Nat.lt_trans hb Z5.out)).mono ?_
    rintro e w6 ⟨rfl, hb⟩
    have K6 : Hid (Kept w w6 v0 v1 v2 v3) := K5.out.on hb
    have X6 : Hid (Box w6 w4.heap.size (.int .i64 q0) (.int .i64 q1) (.string q2) (.slice qa qk.length qc)) := X5.out.on hb Z5.out
    have R6 : Hid (valueSh.rep w6 (· < w4.heap.size) [.int .i64 q0, .int .i64 q1, .string q2, .slice qa qk.length qc] T) := valueSh.below R5.out (hb.mono (Nat.le_of_lt Z5.out))
    have Z6 : Hid (w4.heap.size < w6.heap.size) := Nat.lt_of_lt_of_le Z5.out hb.size
    clear hb K5 X5 R5 Z5 K4 R4
    go_wp2
    obtain ⟨x0, x1, x2, x3⟩ := K6.out.box
    obtain ⟨b0, b1, b2, b3⟩ := X6.out
    have K6d : Hid (Kept w w6.drew v0 v1 v2 v3) := ⟨K6.out.bel.drew, K6.out.box, K6.out.lt⟩
    have hcall := to_any T _ w6.drew hw (AT.out _ K6d.out.bel)
    go_region_with (first | (go_at_call 7; refine hcall.mono ?_; rintro e w7 ⟨⟨cs7, rfl, r7⟩, hb⟩; obtain ⟨z0, z1, z2, z3⟩ := Box.on (w := w6.drew) X6.out hb Z6.out) | (go_at_call 9; refine (eq_any T [.int .i64 q0, .int .i64 q1, .string q2, .slice qa qk.length qc] cs7 _ (valueSh.mono (valueSh.on (valueSh.on R6.out (w' := w6.drew) fun _ _ => rfl) (fun b hlt => hb.block b (Nat.lt_trans hlt Z6.out))) (fun b hlt => Nat.lt_of_lt_of_le (Nat.lt_trans hlt Z6.out) hb.size)) (valueSh.mono r7 fun b hlt => hlt.2)).mono ?_; rintro e w8 ⟨rfl, hb8⟩))
    all_goals
      have K8 : Hid (Kept w w8 v0 v1 v2 v3) := (K6d.out.on hb).on hb8
      clear hb hb8 r7 hcall
      go_wp2
      go_ret
      exact ⟨rfl, K8.out.bel⟩
  · have hl : left (wt T) 1048576 = -1 := by unfold left; rw [if_neg (by omega)]
    rw [hl]
    go_wp2
    go_ret
    exact ⟨rfl, K1.out.bel⟩

/-- WHAT THE WALKS GIVE, FOR EVERY ARGUMENT AND EVERY WORLD THAT HOLDS WHAT IS LISTED. -/
theorem contract (H : Type) (enc : TypeId × Value → H) (W : World) (base : Nat) (args : Array Value) (ds gs : List (DataW H)) (before : List MemPlace)
    (hval : ∀ (j : Nat) t v, Tryd.f3.params[j]? = some t → args[j]? = some v → Value.okWide Tryd.prog W .any base t v)
    (hW : DataW.Whole enc Tryd.prog Tryd.f3.params.toList Rows.fnExactValueTextSpec.vars false W args.toList ds gs before) (hL : laidMetH Tryd.prog Rows.fnExactValueTextRow.laid W) :
    Calls Tryd.prog 3 args W fun e W' => ∃ v, e = .returned v ∧ Rows.fnExactValueTextSpec.post enc Tryd.prog Tryd.f3 false true false false W args v W' := by
  have hW' := hW
  obtain ⟨p, q, hA0, hV, rfl, hfz, hnd⟩ := hW
  have hA : DataW.TrodAll enc Tryd.prog W 0 (fun _ => true) true Tryd.f3.params.toList args.toList ds p := hA0
  rw [Tryd.params3] at hA hval
  obtain ⟨v0, vs0, d0, ds0, p0, q0, hargs, rfl, rfl, h0, r0⟩ := trodAll_cons hA
  obtain ⟨rfl, rfl, rfl⟩ := trodAll_nil r0
  obtain rfl : args = #[v0] := by cases args; simp_all
  obtain ⟨rfl, rfl⟩ := trodVars_none hV
  have k0 := h0
  have lt0 : ∀ x ∈ p0, x.block < W.heap.size := by obtain ⟨m, hm⟩ := k0; exact DataW.trod_lt m _ _ _ hm
  obtain ⟨cs, T, rfl, hT⟩ := arg_value (hval 0 24 v0 rfl rfl) h0
  clear hA0
  refine (walk cs T W (table hL) hT).mono fun e W' ⟨he, bel⟩ => ?_
  subst he
  exact ⟨_, rfl, _, _, _, [], _, [], hW', trodAll_mk1 (shut_bool Tryd.underlying4 _), (trodAll_cons_mk (Below.trod laidOut (by kernel_rfl) (of_decide_eq_true (by kernel_rfl)) k0 bel lt0) trodAll_mk0), rfl, bel.frame _, fun h => by cases h⟩

/-- A WORLD FOR THE WITNESS: the one that the program's own start leaves. -/
theorem laid_met (os : Os) : laidMet Tryd.prog Rows.fnExactValueTextRow.laid ((World.doorLaid Tryd.prog 24 os).forCall (fun _ _ => 0) ⟨#[], #[.agg #[.int .i64 0, .int .i64 0, .string ⟨#[]⟩, .slice none 0 0]], []⟩).memory :=
  laidMet_of_run' 8 (by kernel_rfl) (by kernel_rfl)
theorem reads (os : Os) {H : Type} (enc : TypeId × Value → H) : ∃ places, DataW.whole enc Tryd.prog ((World.doorLaid Tryd.prog 24 os).forCall (fun _ _ => 0) ⟨#[], #[.agg #[.int .i64 0, .int .i64 0, .string ⟨#[]⟩, .slice none 0 0]], []⟩).memory Tryd.f3.params.toList Rows.fnExactValueTextSpec.vars false #[Value.agg #[.int .i64 0, .int .i64 0, .string ⟨#[]⟩, .slice none 0 0]].toList 8 = some ([.agg [.lit (.int .i64 0), .lit (.int .i64 0), .lit (.string []), .nil]], [], places) :=
  ⟨[], by kernel_rfl⟩

set_option maxRecDepth 100000 in
theorem lifted (os : Os) (started : os.Started) (H : Type) (enc : TypeId × Value → H) (F : Stop.Interp) :
    ReturnsInHanded {} Tryd.checked os 3 .any ((OpenSpec.ofChange Rows.fnExactValueTextSpec).preRow enc Tryd.prog Tryd.f3 Rows.fnExactValueTextRow.domain false Rows.fnExactValueTextRow.laid) (((OpenSpec.ofChange Rows.fnExactValueTextSpec).at F).post enc Tryd.prog Tryd.f3 false true false false) := by
  obtain ⟨places, hx⟩ := reads os enc
  refine returnsInHanded_of_row (C := Tryd.checked) (s := OpenSpec.ofChange Rows.fnExactValueTextSpec) own started (by kernel_rfl) Tryd.func3
    (witness_row_at (enc := enc) (C := Tryd.checked) false (World.doorLaid Tryd.prog 24 os) #[.agg #[.int .i64 0, .int .i64 0, .string ⟨#[]⟩, .slice none 0 0]] rfl (by kernel_rfl) (by kernel_rfl) (by kernel_rfl)
      (OpenSpec.preRow_of_cond 8 hx (by kernel_rfl) (fun k hk => by cases hk) (by kernel_rfl) (laid_met os))) ?_
  intro W base args ds gs before hval hW _ _ _ hL _ _
  exact contract H enc W base args ds gs before hval hW hL

theorem said : Rows.FnExactValueTextSaid :=
  OpenClaim.holds_of_cond 3 Tryd.f3 rfl rfl rfl rfl rfl rfl rfl ⟨rfl, rfl, rfl, rfl, rfl⟩ rfl rfl rfl rfl rfl (by kernel_rfl) Tryd.func3 (by kernel_rfl)
    (of_decide_eq_true (by kernel_rfl)) (by unfold Func.isWrapper; first | (rw [if_pos (by decide +kernel)]; kernel_rfl) | (rw [if_neg (by decide +kernel)]; exact ⟨rfl, rfl⟩))
    (fun os started H enc _ F => by rw [OpenClaim.pre_eq_preRow]; exact lifted os started H enc F)

theorem plain (f : FuncId) (fn : Func) (hf : Tryd.pinned.checked.prog.funcNamed "loop.example/g00323/laws.FnExactValueText" = some f) (hfn : Tryd.pinned.checked.prog.funcs[f]? = some fn) :
    true = Tryd.pinned.checked.prog.looks [] ∧ ∀ (j : Nat) t, fn.params[j]? = some t → Tryd.pinned.checked.prog.wantsStandIn t = false := by
  obtain rfl : f = 3 := Option.some.inj ((show Tryd.prog.funcNamed "loop.example/g00323/laws.FnExactValueText" = some 3 by kernel_rfl).symm.trans hf) |>.symm
  obtain rfl : fn = Tryd.f3 := (Option.some.inj (Tryd.func3.symm.trans hfn)).symm
  refine ⟨by kernel_rfl, fun j t ht => ?_⟩
  rw [Tryd.params3] at ht
  obtain rfl : t = 24 := by simpa using Array.mem_of_getElem? ht
  exact (show Tryd.prog.wantsStandIn 24 = false by kernel_rfl)

/-- THE CARD. -/
theorem card : Rows.FnExactValueTextCardSaid :=
  Claim7.holds_tied_plain_at .later [] _ _ _ _ said (fun _ h => by cases h) (by kernel_rfl) (fun _ h => by cases h) fnExactValueText_row_tie rfl ⟨rfl, rfl⟩ (by kernel_rfl) rfl plain (by kernel_rfl)
#print axioms card
end Go.Proofs.YtfcnadepopbdhaaDoor.fnExactValueText
