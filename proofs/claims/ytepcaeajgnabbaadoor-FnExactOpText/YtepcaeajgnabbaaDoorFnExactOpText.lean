/-
  At every Op the program's OpText answers as its model; the law's call returns true, and the argument reads as it read before. Conditions: the program's table of names of ops, and the five tables of the library that the road names, are as the program's text lays them (the card ties them; one, unicode/utf8.first, by its name alone).
-/
import Derived.Test.YtepcaeajgnabbaaDoorCards
import Derived.Test.YtepcaeajgnabbaaDoorTie
import Derived.Test.YtepcaeajgnabbaaDoorOpArgS
import Derived.Test.YtepcaeajgnabbaaDoorOpTextSpec
import Derived.Test.YtepcaeajgnabbaaDoorOpTextImpl
import Derived.Test.YtepcaeajgnabbaaDoorNamesLaid
import Derived.WalkKit
import Derived.ProofKit
import Derived.OpenShut
import Derived.Lay
import Derived.LaidOnce
import Derived.SevenTiedAt
import Derived.LaidMore
import Derived.Stop.LaidErr
import Derived.Lib.LaidTab
import Derived.ChangeOld
import Derived.Carry
import Derived.OpenVars
namespace Go.Proofs.YtepcaeajgnabbaaDoor.fnExactOpText
open Go.ChangeShapes Go.WideShapes Go.ChangeAt Go.RowKit Go.Proofs.YtepcaeajgnabbaaDoor.rose Go.Proofs.YtepcaeajgnabbaaDoor.fun
set_option linter.unusedVariables false
set_option maxRecDepth 100000

theorem own : ownKnob Tryd.prog.godebug = none := by kernel_rfl
theorem laidOut : laidOutB Tryd.prog = true := by kernel_rfl
theorem gPow : Tryd.prog.globalNamed "internal/strconv.uint64pow10" = some 4 := by kernel_rfl
theorem gPowType : (Tryd.prog.globals[4]?).map (·.type) = some 71 := by kernel_rfl
theorem cellsPow : Tryd.prog.cellsOf 71 = 20 := by kernel_rfl
theorem cellsU64 : Tryd.prog.cellsOf 61 = 1 := by kernel_rfl

set_option maxHeartbeats 1000000 in
theorem toOp_any (c n m : Int) (w : World) : Calls Tryd.prog 5 #[.agg #[.int .i64 c, .int .i64 n, .int .i64 m]] w fun e w' => e = .returned (.agg #[.int .i64 c, .int .i64 n, .int .i64 m]) ∧ Below w.heap.size w w' := by
  go_enter Tryd.func5, Tryd.ntmps5
  go_wp2
  refine bodyPost_ret (v := .agg #[.int .i64 c, .int .i64 n, .int .i64 m]) (by simp [results, Tryd.f5, go_sem]) rfl ?_
  exact ⟨rfl, (((Below.refl _ _).alloc (Nat.le_refl _) _).alloc (by simp) _).alloc (by simp; omega) _⟩

set_option maxHeartbeats 4000000 in
theorem walk (c n m : Int) (hn : -9223372036854775808 ≤ n ∧ n ≤ 9223372036854775807) (hm : -9223372036854775808 ≤ m ∧ m ≤ 9223372036854775807) (w : World) (hN : Names w) (hT : Lib.TabIs Tryd.prog w "internal/strconv.uint64pow10" .u64 Lib.pow10Tab) :
    Calls Tryd.prog 3 #[.agg #[.int .i64 c, .int .i64 n, .int .i64 m]] w fun e w' => e = .returned (.bool true) ∧ Below w.heap.size w w' := by
  have NS : Hid (Names w) := hN
  have TS : Hid (Lib.TabIs Tryd.prog w "internal/strconv.uint64pow10" .u64 Lib.pow10Tab) := hT
  have D0 : Hid (Opn w (w.alloc (.cells #[.int .i64 c, .int .i64 n, .int .i64 m] 23)) c n m) := Opn.new _ _ _ _ _
  have KS : Hid (∀ W, Calls Tryd.prog 4 #[.agg #[.int .i64 c, .int .i64 n, .int .i64 m]] W fun e w' => e = .returned (.string (opTx c n m)) ∧ Below W.heap.size W w') := fun W => specOpText c n m hn hm W
  have KI : Hid (∀ W, Below w.heap.size w W → Calls Tryd.prog 6 #[.agg #[.int .i64 c, .int .i64 n, .int .i64 m]] W fun e w' => e = .returned (.string (opTx c n m)) ∧ Below W.heap.size W w') := fun W hb => implOpText c n m hn hm W (NS.out.on hb) (((Lib.tabBelow_of_tabIs TS.out).on hb).here)
  clear hN hT NS TS hn hm
  generalize opTx c n m = y at KS KI
  go_enter Tryd.func3, Tryd.ntmps3
  go_wp2_with fail
  refine (toOp_any c n m _).mono ?_
  rintro e w1 ⟨rfl, hb⟩
  have D1 : Hid (Opn w w1 c n m) := D0.out.on hb
  clear hb D0
  go_wp2_with fail
  refine (KS.out _).mono ?_
  rintro e w2 ⟨rfl, hb⟩
  have D2 : Hid (Opn w w2 c n m) := D1.out.on hb
  clear hb D1
  have b0 := D2.out.b0
  have b1 := D2.out.b1
  have b2 := D2.out.b2
  go_wp2_with fail
  refine (toOp_any c n m _).mono ?_
  rintro e w3 ⟨rfl, hb⟩
  have D3 : Hid (Opn w w3 c n m) := D2.out.on hb
  clear hb D2 b0 b1 b2
  go_wp2_with fail
  refine (KI.out _ D3.out.bel).mono ?_
  rintro e w4 ⟨rfl, hb⟩
  have D4 : Hid (Opn w w4 c n m) := D3.out.on hb
  clear hb D3
  go_wp2
  go_ret
  exact ⟨rfl, D4.out.bel⟩

set_option maxRecDepth 100000 in
theorem lifted (os : Os) (started : os.Started) (H : Type) (enc : TypeId × Value → H) :
    ReturnsInHanded {} Tryd.checked os 3 .any (fun w args => (Rows.fnExactOpTextSpec.pre enc Tryd.prog Tryd.f3 [] false w args ∧ laidMetH Tryd.prog Rows.fnExactOpTextRow.laid w) ∧ sizedMet enc Tryd.prog Tryd.f3 (OpenSpec.ofChange Rows.fnExactOpTextSpec) false w args)
      (Rows.fnExactOpTextSpec.post enc Tryd.prog Tryd.f3 false true false false) := by
  refine returnsInHanded_of_change_and (C := Tryd.checked) (X := fun w _ => laidMetH Tryd.prog Rows.fnExactOpTextRow.laid w) (fun _ _ _ hh h => h.of_heap hh) own started (by kernel_rfl) Tryd.func3
    (ChangeSpec.witness_shaped (enc := enc) (C := Tryd.checked) (os := os) (X := fun w _ => laidMetH Tryd.prog Rows.fnExactOpTextRow.laid w) false (World.laidAll Tryd.prog os Rows.fnExactOpTextRow.laid) #[.agg #[.int .i64 0, .int .i64 0, .int .i64 0]] 8 (World.laidAll_os _ _ _)
      (World.shaped_of_ZipB (by kernel_rfl) (by kernel_rfl)) (by kernel_rfl) (by kernel_rfl) (by kernel_rfl)
      (by rw [MakeChecks.laidMetH_plain _ _ _ (by kernel_rfl)]; exact laidMet_laidAll _ (by kernel_rfl) (by kernel_rfl))) ?_
  intro W base args ds gs before hval0 hW _ _ hL _
  have hval : ∀ (j : Nat) t v, Tryd.f3.params[j]? = some t → args[j]? = some v → Value.okWide Tryd.prog W .any base t v := hval0
  have hW' := hW
  obtain ⟨p, q, hA0, hV, rfl, hfz, hnd⟩ := hW
  have hA : DataW.TrodAll enc Tryd.prog W 0 (fun _ => true) true Tryd.f3.params.toList args.toList ds p := hA0
  rw [Tryd.params3] at hA hval
  obtain ⟨v0, vs0, d0, ds0, p0, q0, hargs, rfl, rfl, h0, r0⟩ := trodAll_cons hA
  obtain ⟨rfl, rfl, rfl⟩ := trodAll_nil r0
  obtain rfl : args = #[v0] := by cases args; simp_all
  have hV0 : DataW.TrodVars enc Tryd.prog W (fun _ => true) ["loop.example/g00323/impl.opNames"] gs q := hV
  obtain ⟨g1, rfl⟩ : ∃ g1, gs = [g1] := by
    obtain ⟨_, _, _, _, d, _, e, _⟩ := trodVars_one hV0
    exact ⟨d, e⟩
  have k0 := h0
  have lt0 : ∀ x ∈ p0, x.block < W.heap.size := by obtain ⟨m, hm⟩ := k0; exact DataW.trod_lt m _ _ _ hm
  obtain ⟨cs, T, rfl, hT⟩ := op.arg_op (hval 0 23 v0 rfl rfl) h0
  obtain ⟨x0, x1, x2, rfl, rfl, -, f1, f2⟩ := op.op_open hT
  rw [MakeChecks.laidMetH_plain _ _ _ (by kernel_rfl)] at hL
  have hTab : Lib.TabIs Tryd.prog W "internal/strconv.uint64pow10" .u64 Lib.pow10Tab := Lib.tabIs_of_head gPow gPowType Tryd.underlying71 Tryd.underlying61 cellsU64 cellsPow (laidMet.tail (laidMet.tail hL))
  have hN : Names W := names_of_laid (laidMet.tail (laidMet.tail (laidMet.tail (laidMet.tail hL))))
  clear hA0
  refine (walk x0 x1 x2 f1 f2 W hN hTab).mono fun e W' ⟨he, bel⟩ => ?_
  subst he
  exact ⟨_, rfl, _, _, _, [], _, _, hW', trodAll_mk1 (shut_bool Tryd.underlying4 _), (trodAll_cons_mk (Below.trod laidOut (by kernel_rfl) (of_decide_eq_true (by kernel_rfl)) k0 bel lt0) trodAll_mk0), Below.trodVars laidOut bel (by kernel_rfl) hV0, bel.frame _, fun h => by cases h⟩

theorem said : Rows.FnExactOpTextSaid :=
  OpenClaim.holds_of_wide 3 Tryd.f3 rfl rfl rfl rfl rfl rfl rfl ⟨rfl, rfl, rfl, rfl, rfl⟩ rfl rfl rfl rfl rfl (by kernel_rfl) Tryd.func3 (by kernel_rfl)
    (of_decide_eq_true (by kernel_rfl)) (by unfold Func.isWrapper; first | (rw [if_pos (by decide +kernel)]; kernel_rfl) | (rw [if_neg (by decide +kernel)]; exact ⟨rfl, rfl⟩))
    (fun os started H enc _ => lifted os started H enc)

theorem plain (f : FuncId) (fn : Func) (hf : Tryd.pinned.checked.prog.funcNamed "loop.example/g00323/laws.FnExactOpText" = some f) (hfn : Tryd.pinned.checked.prog.funcs[f]? = some fn) :
    false = Tryd.pinned.checked.prog.looks [] ∧ ∀ (j : Nat) t, fn.params[j]? = some t → Tryd.pinned.checked.prog.wantsStandIn t = false := by
  obtain rfl : f = 3 := Option.some.inj ((show Tryd.prog.funcNamed "loop.example/g00323/laws.FnExactOpText" = some 3 by kernel_rfl).symm.trans hf) |>.symm
  obtain rfl : fn = Tryd.f3 := (Option.some.inj (Tryd.func3.symm.trans hfn)).symm
  refine ⟨by kernel_rfl, fun j t ht => ?_⟩
  rw [Tryd.params3] at ht
  obtain rfl : t = 23 := by simpa using Array.mem_of_getElem? ht
  exact (show Tryd.prog.wantsStandIn 23 = false by kernel_rfl)

/-- THE CARD. -/
theorem card : Rows.FnExactOpTextCardSaid :=
  Claim7.holds_tied_plain_at .later [] _ _ _ _ said (fun _ h => by cases h) (by kernel_rfl) (fun _ h => by cases h) fnExactOpText_row_tie rfl ⟨rfl, rfl⟩ (by kernel_rfl) rfl plain (by kernel_rfl)
#print axioms card
end Go.Proofs.YtepcaeajgnabbaaDoor.fnExactOpText
