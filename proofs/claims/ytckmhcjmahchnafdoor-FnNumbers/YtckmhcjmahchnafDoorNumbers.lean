/-
  For every bytes of a draw the law FnNumbers returns true: a drawn int's digits are read back just where it is a word from 0 on, a drawn text is read as the model reads it, and what goes round is a word; the argument reads as it read before. Conditions: the library's tables and errors that the road reads are as the program's text lays them (the card ties them).
-/
import Derived.Test.YtckmhcjmahchnafDoorCards
import Derived.Test.YtckmhcjmahchnafDoorTie
import Derived.Test.YtckmhcjmahchnafDoorWords1
import Derived.Test.YtckmhcjmahchnafDoorDraws1
import Derived.WalkKit
import Derived.ProofKit
import Derived.OpenShut
import Derived.Deep.DeepHandedRow
import Derived.Lib.LaidTab
import Derived.LaidMore
import Derived.Lib.ItoaMem
import Derived.ShutString
import Derived.ChangeOld
import Derived.Below
import Derived.Stop.LaidErr
namespace Go.Proofs.YtckmhcjmahchnafDoor.fnNumbers
open Go.ChangeShapes Go.WideShapes Go.ChangeAt Go.RowKit
set_option linter.unusedVariables false

theorem own : ownKnob Tryd.prog.godebug = none := by kernel_rfl
theorem gPow : Tryd.prog.globalNamed "internal/strconv.uint64pow10" = some 2 := by kernel_rfl
theorem gPowType : (Tryd.prog.globals[2]?).map (·.type) = some 78 := by kernel_rfl
theorem cellsPow : Tryd.prog.cellsOf 78 = 20 := by kernel_rfl
theorem cellsU64 : Tryd.prog.cellsOf 59 = 1 := by kernel_rfl
theorem gES : Tryd.prog.globalNamed "strconv.ErrSyntax" = some 0 := by kernel_rfl
theorem gESType : (Tryd.prog.globals[0]?).map (·.type) = some 37 := by kernel_rfl
theorem cells61 : Tryd.prog.cellsOf 76 = 1 := by kernel_rfl
theorem cells9 : Tryd.prog.cellsOf 9 = 1 := by kernel_rfl
theorem star : "*" ++ "errors.errorString" = "*errors.errorString" := by decide
theorem row59 (u : TypeId) (h : Tryd.prog.typeName? 3 u = some "*errors.errorString") : u = 74 :=
  typeName_ptr_named (nm := "errors.errorString") (by rw [star]; kernel_rfl) (by kernel_rfl) (by decide) u (by rw [star]; exact h)

/-- WHAT THE ROW's LIST GIVES: the table of powers of ten, the error. -/
theorem laid {W : World} (h : laidMetH Tryd.prog Rows.fnNumbersRow.laid W) : numWalks.Laid W := by
  have h3 := laidMet.tail (laidMet.tail h)
  have ht : Lib.TabIs Tryd.prog W "internal/strconv.uint64pow10" .u64 Lib.pow10Tab := Lib.tabIs_of_head gPow gPowType Tryd.underlying78 Tryd.underlying59 cellsU64 cellsPow h3
  obtain ⟨a0, s0, hv0, -, -, -⟩ := laid_sentinel (laidMet.tail (laidMet.tail h3)) gES gESType Tryd.underlying37 row59 Tryd.underlying74 Tryd.underlying76 rfl rfl Tryd.underlying9 cells61 cells9
  exact ⟨ht, _, _, hv0⟩

theorem laidOut : laidOutB Tryd.prog = true := by kernel_rfl

theorem code_on {w w' : World} {a : Option Addr} {len : Nat} (h : cur.Code w.heap.size w a len) (hb : Below w.heap.size w w') : cur.Code w'.heap.size w' a len := by
  refine ⟨h.1, fun hl => ?_⟩
  obtain ⟨b, off, e, hlt, hz⟩ := h.2 hl
  refine ⟨b, off, e, Nat.lt_of_lt_of_le hlt hb.size, fun j hj => ?_⟩
  obtain ⟨z, hc1, h0, h1⟩ := hz j hj
  exact ⟨z, by rw [hb.cell (p := ⟨b, off + j, none⟩) hlt]; exact hc1, h0, h1⟩

theorem walk_big (a : Option Addr) (len cap : Nat) (hl : 1048576 < len) (hm : (len : Int) ≤ 9223372036854775807) (w : World) :
    Calls Tryd.prog 3 #[.slice a len cap] w fun e w' => e = .returned (.bool true) ∧ Below w.heap.size w w' := by
  have t1 : decide (1048576 < (len : Int)) = true := by simp; omega
  go_enter Tryd.func3, Tryd.ntmps3
  go_wp2
  go_ret
  exact ⟨rfl, Below.refl _ _⟩

set_option maxHeartbeats 2000000 in
theorem walk_small (a : Option Addr) (len cap : Nat) (w : World) (hC : cur.Code w.heap.size w a len) (hL : numWalks.Laid w) :
    Calls Tryd.prog 3 #[.slice a len cap] w fun e w' => e = .returned (.bool true) ∧ Below w.heap.size w w' := by
  have hl := hC.1
  have t1 : decide (1048576 < (len : Int)) = false := by simp; omega
  have HC : Hid (cur.Code w.heap.size w a len) := hC
  have HL : Hid (numWalks.Laid w) := hL
  clear hC hL
  go_enter Tryd.func3, Tryd.ntmps3
  go_wp2_with (go_at_call 4; go_in)
  refine (cur.drawDigits_any a len cap _ HC.out).mono ?_
  rintro e w1 ⟨n, rfl, hn0, hn1, hb⟩
  have B1 : Hid (Below w.heap.size w w1) := hb
  clear hb
  go_wp2_with fail
  refine (words.implDigits n hn0 hn1 _ (HL.out.on B1.out).1).mono ?_
  rintro e w2 ⟨rfl, hb⟩
  have B2 : Hid (Below w.heap.size w w2) := B1.out.trans (hb.mono B1.out.size)
  clear hb B1
  have hil := Lib.itoa_length_le n hn0 hn1
  go_wp2_with fail
  refine (numWalks.impl_any ⟨(Lib.itoa n).toArray⟩ _ (by show (Lib.itoa n).toArray.size ≤ maxLen; unfold maxLen; simp; omega) (HL.out.on B2.out)).mono ?_
  rintro e w3 ⟨rfl, hb⟩
  have B3 : Hid (Below w.heap.size w w3) := B2.out.trans (hb.mono B2.out.size)
  clear hb B2
  have hd : ((⟨(Lib.itoa n).toArray⟩ : ByteArray).data.toList) = Lib.itoa n := rfl
  rw [hd]
  clear hd
  have hcase : ∃ ok x, plain.numRes (Lib.itoa n) = (x, ok) ∧ ((ok = true ∧ x = n ∧ words.wordB n = true ∧ 0 ≤ n) ∨ (ok = false ∧ words.wordB n = true ∧ n < 0) ∨ (ok = false ∧ words.wordB n = false)) := by
    by_cases h1 : n < 0
    · refine ⟨_, _, words.num_neg h1, ?_⟩
      cases h : words.wordB n
      · exact Or.inr (Or.inr ⟨rfl, rfl⟩)
      · exact Or.inr (Or.inl ⟨rfl, rfl, h1⟩)
    · by_cases h2 : n ≤ 1073741823
      · exact ⟨_, _, words.num_word (by omega) h2, Or.inl ⟨rfl, rfl, words.wordB_yes (by omega) h2, by omega⟩⟩
      · exact ⟨_, _, words.num_great (by omega), Or.inr (Or.inr ⟨rfl, words.wordB_no (by omega)⟩)⟩
  obtain ⟨ok, x, hnr, hcs⟩ := hcase
  rw [hnr]
  clear hnr
  go_wp2_with fail
  refine (walks.digits_any n hn0 hn1 _).mono ?_
  rintro e w4 ⟨rfl, hb⟩
  have B4 : Hid (Below w.heap.size w w4) := B3.out.trans (hb.mono B3.out.size)
  clear hb B3
  rcases hcs with ⟨rfl, rfl, hw, hn⟩ | ⟨rfl, hw, hn⟩ | ⟨rfl, hw⟩
  all_goals
    have HW : Hid (_ = _) := hw
    clear hw
    go_wp2_with (go_at_call 9; refine (words.implWordOk _ _).mono ?_; rintro e w' ⟨rfl, rfl⟩; rw [HW.out])
    refine (cur.drawNumber_any a len cap _ (code_on HC.out B4.out)).mono ?_
    rintro e w5 ⟨s, rfl, hs, hb⟩
    have B5 : Hid (Below w.heap.size w w5) := B4.out.trans (hb.mono B4.out.size)
    clear hb
    have hsm : s.size ≤ maxLen := by unfold maxLen; omega
    go_wp2_with fail
    refine (numWalks.impl_any s _ hsm (HL.out.on B5.out)).mono ?_
    rintro e w6 ⟨rfl, hb⟩
    have B6 : Hid (Below w.heap.size w w6) := B5.out.trans (hb.mono B5.out.size)
    clear hb
    generalize hnr : plain.numRes s.data.toList = nr
    go_wp2_with fail
    refine (numWalks.spec_any s _ hsm).mono ?_
    rintro e w7 ⟨rfl, hb⟩
    rw [hnr]
    have B7 : Hid (Below w.heap.size w w7) := B6.out.trans (hb.mono B6.out.size)
    clear hb
    go_wp2_with fail
    refine (cur.drawRound_any a len cap _ (code_on HC.out B7.out)).mono ?_
    rintro e w8 ⟨r, rfl, hr0, hr1, hb⟩
    have B8 : Hid (Below w.heap.size w w8) := B7.out.trans (hb.mono B7.out.size)
    clear hb
    go_wp2_with fail
    refine (cur.drawWordOk_any a len cap _ (code_on HC.out B8.out)).mono ?_
    rintro e w9 ⟨v, rfl, hv0, hv1, hb⟩
    have B9 : Hid (Below w.heap.size w w9) := B8.out.trans (hb.mono B8.out.size)
    clear hb
    have hcs2 := words.num_cases s.data.toList
    rw [hnr] at hcs2
    clear hnr B4 B5 B6 B7 B8
    have hrw := words.round_word r
    have hrs := words.round_same r
    rcases hcs2 with rfl | ⟨y, rfl, hy0, hy1, hy2⟩
    · go_wp2_with (first | (go_at_call 14; refine (words.implRound _ _).mono ?_; rintro e w' ⟨rfl, rfl⟩) | (go_at_call 15; refine (words.specRound _ _).mono ?_; rintro e w' ⟨rfl, rfl⟩) | (go_at_call 9; refine (words.implWordOk _ _).mono ?_; rintro e w' ⟨rfl, rfl⟩) | (go_at_call 16; refine (words.specWordOk _ _).mono ?_; rintro e w' ⟨rfl, rfl⟩))
      go_ret
      exact ⟨by simp, B9.out⟩
    · have hst : (Lib.itoa y == s.toList) = true := by simp [ByteArray.toList_eq, hy2]
      clear hy2
      go_wp2_with fail
      refine (words.implDigits y (by omega) (by omega) _ (HL.out.on B9.out).1).mono ?_
      rintro e w10 ⟨rfl, hb⟩
      have B10 : Hid (Below w.heap.size w w10) := B9.out.trans (hb.mono B9.out.size)
      clear hb
      go_wp2_with (first | (go_at_call 14; refine (words.implRound _ _).mono ?_; rintro e w' ⟨rfl, rfl⟩) | (go_at_call 15; refine (words.specRound _ _).mono ?_; rintro e w' ⟨rfl, rfl⟩) | (go_at_call 9; refine (words.implWordOk _ _).mono ?_; rintro e w' ⟨rfl, rfl⟩) | (go_at_call 16; refine (words.specWordOk _ _).mono ?_; rintro e w' ⟨rfl, rfl⟩))
      go_ret
      exact ⟨by simp, B10.out⟩

theorem cell_lt {w : World} {b o : Nat} {v : Value} (h : w.cell? ⟨b, o, none⟩ = some v) : b < w.heap.size := by
  rcases Nat.lt_or_ge b w.heap.size with h' | h'
  · exact h'
  · simp [World.cell?, Array.getElem?_eq_none h'] at h

theorem walk (a : Option Addr) (len cap : Nat) (zs : List Int) (w : World) (hL : numWalks.Laid w)
    (hr : (a = none ∧ len = 0 ∧ cap = 0 ∧ zs = []) ∨ ∃ x, a = some x ∧ len ≤ cap ∧ cap ≤ maxLen ∧ zs.length = cap ∧ (∀ i, i < zs.length → w.cell? (x.add i) = some (.int .u8 (zs.getD i 0))) ∧ ∀ n ∈ zs, (Lit.int .u8 n).wf = true) :
    Calls Tryd.prog 3 #[.slice a len cap] w fun e w' => e = .returned (.bool true) ∧ Below w.heap.size w w' := by
  by_cases hl : len ≤ 1048576
  · refine walk_small a len cap w ⟨hl, fun h0 => ?_⟩ hL
    rcases hr with ⟨_, h, _, _⟩ | ⟨x, rfl, hlc, hm, hz, hcell, hwz⟩
    · omega
    · obtain ⟨b, off, spot⟩ := x
      have hc := hcell 0 (by omega)
      have hspot : spot = none := by simpa [Addr.add] using World.cell?_spot hc
      subst hspot
      have hc' : ∀ j, j < len → w.cell? ⟨b, off + j, none⟩ = some (.int .u8 (zs.getD j 0)) := fun j hj => by
        have := hcell j (by omega)
        rwa [Lib.add_plain] at this
      refine ⟨b, off, rfl, cell_lt (hc' 0 h0), fun j hj => ⟨zs.getD j 0, hc' j hj, ?_⟩⟩
      have hmem : zs.getD j 0 ∈ zs := by
        rw [List.getD_eq_getElem?_getD, List.getElem?_eq_getElem (by omega)]
        exact List.getElem_mem _
      exact bounds_u8 (hwz _ hmem)
  · refine walk_big a len cap (by omega) ?_ w
    rcases hr with ⟨_, h, _, _⟩ | ⟨x, rfl, hlc, hm, hz, hcell, hwz⟩
    · omega
    · unfold maxLen at hm; omega

/-- WHAT THE WALKS GIVE, FOR EVERY ARGUMENT AND EVERY WORLD THAT HOLDS WHAT IS LISTED. -/
theorem contract (H : Type) (enc : TypeId × Value → H) (W : World) (base : Nat) (args : Array Value) (ds gs : List (DataW H)) (before : List MemPlace)
    (hval : ∀ (j : Nat) t v, Tryd.f3.params[j]? = some t → args[j]? = some v → Value.okWide Tryd.prog W .any base t v)
    (hW : DataW.Whole enc Tryd.prog Tryd.f3.params.toList Rows.fnNumbersSpec.vars false W args.toList ds gs before) (hL : laidMetH Tryd.prog Rows.fnNumbersRow.laid W) :
    Calls Tryd.prog 3 args W fun e W' => ∃ v, e = .returned v ∧ Rows.fnNumbersSpec.post enc Tryd.prog Tryd.f3 false true false false W args v W' := by
  have hW' := hW
  obtain ⟨p, q, hA0, hV, rfl, hfz, hnd⟩ := hW
  have hA : DataW.TrodAll enc Tryd.prog W 0 (fun _ => true) true Tryd.f3.params.toList args.toList ds p := hA0
  rw [Tryd.params3] at hA hval
  obtain ⟨v0, vs0, d0, ds0, p0, q0, hargs, rfl, rfl, h0, r0⟩ := trodAll_cons hA
  obtain ⟨rfl, rfl, rfl⟩ := trodAll_nil r0
  obtain rfl : args = #[v0] := by cases args; simp_all
  obtain ⟨rfl, rfl⟩ := trodVars_none hV
  obtain ⟨a0, len0, cap0, rfl⟩ := okWide_slice Tryd.underlying22 (hval 0 22 v0 rfl rfl)
  have k0 := h0
  have lt0 : ∀ x ∈ p0, x.block < W.heap.size := by obtain ⟨m, hm⟩ := k0; exact DataW.trod_lt m _ _ _ hm
  obtain ⟨z0, w0⟩ : ∃ zs : List Int, (a0 = none ∧ len0 = 0 ∧ cap0 = 0 ∧ zs = []) ∨ ∃ x, a0 = some x ∧ len0 ≤ cap0 ∧ cap0 ≤ maxLen ∧ zs.length = cap0 ∧ (∀ i, i < zs.length → W.cell? (x.add i) = some (.int .u8 (zs.getD i 0))) ∧ ∀ n ∈ zs, (Lit.int .u8 n).wf = true := by
    obtain ⟨fuel, hf⟩ := h0
    rcases open_ints Tryd.underlying22 Tryd.underlying5 (by kernel_rfl) hf with ⟨hcs, _⟩ | ⟨x, l, c, zs, hcs, _, hl, hm, hz, _, hcell, hwz⟩
    · simp [Value.cells] at hcs
      obtain ⟨rfl, rfl, rfl⟩ := hcs
      exact ⟨[], .inl ⟨rfl, rfl, rfl, rfl⟩⟩
    · simp [Value.cells] at hcs
      obtain ⟨rfl, rfl, rfl⟩ := hcs
      exact ⟨zs, .inr ⟨_, rfl, hl, hm, by simpa using hz, hcell, hwz⟩⟩
  clear hA0
  refine (walk a0 len0 cap0 z0 W (laid hL) w0).mono fun e W' ⟨he, bel⟩ => ?_
  subst he
  exact ⟨_, rfl, _, _, _, [], _, [], hW', trodAll_mk1 (shut_bool Tryd.underlying4 _), (trodAll_cons_mk (Below.trod laidOut (by kernel_rfl) (of_decide_eq_true (by kernel_rfl)) k0 bel lt0) trodAll_mk0), rfl, bel.frame _, fun h => by cases h⟩

/-- A WORLD FOR THE WITNESS: the one that the program's own start leaves. -/
theorem laid_met (os : Os) : laidMet Tryd.prog Rows.fnNumbersRow.laid ((World.doorLaid Tryd.prog 62 os).forCall (fun _ _ => 0) ⟨#[], #[.slice none 0 0], []⟩).memory :=
  laidMet_of_run' 8 (by kernel_rfl) (by kernel_rfl)
theorem reads (os : Os) {H : Type} (enc : TypeId × Value → H) : ∃ places, DataW.whole enc Tryd.prog ((World.doorLaid Tryd.prog 62 os).forCall (fun _ _ => 0) ⟨#[], #[.slice none 0 0], []⟩).memory Tryd.f3.params.toList Rows.fnNumbersSpec.vars false #[Value.slice none 0 0].toList 8 = some ([.nil], [], places) :=
  ⟨[], by kernel_rfl⟩

set_option maxRecDepth 100000 in
theorem lifted (os : Os) (started : os.Started) (H : Type) (enc : TypeId × Value → H) (F : Stop.Interp) :
    ReturnsInHanded {} Tryd.checked os 3 .any ((OpenSpec.ofChange Rows.fnNumbersSpec).preRow enc Tryd.prog Tryd.f3 Rows.fnNumbersRow.domain false Rows.fnNumbersRow.laid) (((OpenSpec.ofChange Rows.fnNumbersSpec).at F).post enc Tryd.prog Tryd.f3 false true false false) := by
  obtain ⟨places, hx⟩ := reads os enc
  refine returnsInHanded_of_row (C := Tryd.checked) (s := OpenSpec.ofChange Rows.fnNumbersSpec) own started (by kernel_rfl) Tryd.func3
    (witness_row_at (enc := enc) (C := Tryd.checked) false (World.doorLaid Tryd.prog 62 os) #[.slice none 0 0] rfl (by kernel_rfl) (by kernel_rfl) (by kernel_rfl)
      (OpenSpec.preRow_of_cond 8 hx (by kernel_rfl) (fun k hk => by cases hk) (by kernel_rfl) (laid_met os))) ?_
  intro W base args ds gs before hval hW _ _ _ hL _ _
  exact contract H enc W base args ds gs before hval hW hL

theorem said : Rows.FnNumbersSaid :=
  OpenClaim.holds_of_cond 3 Tryd.f3 rfl rfl rfl rfl rfl rfl rfl ⟨rfl, rfl, rfl, rfl, rfl⟩ rfl rfl rfl rfl rfl (by kernel_rfl) Tryd.func3 (by kernel_rfl)
    (of_decide_eq_true (by kernel_rfl)) (by unfold Func.isWrapper; first | (rw [if_pos (by decide +kernel)]; kernel_rfl) | (rw [if_neg (by decide +kernel)]; exact ⟨rfl, rfl⟩))
    (fun os started H enc _ F => by rw [OpenClaim.pre_eq_preRow]; exact lifted os started H enc F)

theorem plain (f : FuncId) (fn : Func) (hf : Tryd.pinned.checked.prog.funcNamed "loop.example/g00323/laws.FnNumbers" = some f) (hfn : Tryd.pinned.checked.prog.funcs[f]? = some fn) :
    true = Tryd.pinned.checked.prog.looks [] ∧ ∀ (j : Nat) t, fn.params[j]? = some t → Tryd.pinned.checked.prog.wantsStandIn t = false := by
  obtain rfl : f = 3 := Option.some.inj ((show Tryd.prog.funcNamed "loop.example/g00323/laws.FnNumbers" = some 3 by kernel_rfl).symm.trans hf) |>.symm
  obtain rfl : fn = Tryd.f3 := (Option.some.inj (Tryd.func3.symm.trans hfn)).symm
  refine ⟨by kernel_rfl, fun j t ht => ?_⟩
  rw [Tryd.params3] at ht
  obtain rfl : t = 22 := by simpa using Array.mem_of_getElem? ht
  exact (show Tryd.prog.wantsStandIn 22 = false by kernel_rfl)

/-- THE CARD. -/
theorem card : Rows.FnNumbersCardSaid :=
  Claim7.holds_tied_plain_at .later [] _ _ _ _ said (fun _ h => by cases h) (by kernel_rfl) (fun _ h => by cases h) fnNumbers_row_tie rfl ⟨rfl, rfl⟩ (by kernel_rfl) rfl plain (by kernel_rfl)
#print axioms card
end Go.Proofs.YtckmhcjmahchnafDoor.fnNumbers
