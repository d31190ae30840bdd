/-
  The program's allWords: slices.ContainsFunc over a function of one number; nothing is turned.
  The program's okFun and FunsOk, at every list of functions; nothing that was there is turned.
  The program's WordOk; nothing is turned.
  The program's header: headerOf, ok, size, word; nothing that was there is turned.
  The numbers under which this program holds sync.Mutex, and that it holds it; the atomic number's Load and Add.
-/
import Derived.Sort.AtCall
import Derived.WalkSmall
import Derived.Test.YtjibmpebebephaaGreatDoorChecked
import Derived.WalkKit
import Derived.WalkLawsBesides
import Derived.OwnWalk
import Derived.Conc.MuLone
import Derived.Test.YtjibmpebebephaaGreatDoorC1
import Derived.Test.YtjibmpebebephaaGreatDoorC2
import Derived.Test.YtjibmpebebephaaGreatDoorC3
import Derived.Test.YtjibmpebebephaaGreatDoorC4
import Derived.Test.YtjibmpebebephaaGreatDoorC5
import Derived.Test.YtjibmpebebephaaGreatDoorC6
import Derived.Test.YtjibmpebebephaaGreatDoorC7
import Derived.Test.YtjibmpebebephaaGreatDoorC8
import Derived.Test.YtjibmpebebephaaGreatDoorC9
import Derived.Test.YtjibmpebebephaaGreatDoorC10
import Derived.Test.YtjibmpebebephaaGreatDoorC11
import Derived.Test.YtjibmpebebephaaGreatDoorC12
import Derived.Test.YtjibmpebebephaaGreatDoorC13
import Derived.Test.YtjibmpebebephaaGreatDoorC14
import Derived.Test.YtjibmpebebephaaGreatDoorC15
import Derived.Test.YtjibmpebebephaaGreatDoorC16
import Derived.Test.YtjibmpebebephaaGreatDoorC17
import Derived.Test.YtjibmpebebephaaGreatDoorC18
import Derived.Test.YtjibmpebebephaaGreatDoorC19
import Derived.Test.YtjibmpebebephaaGreatDoorC20
import Derived.Test.YtjibmpebebephaaGreatDoorC21
import Derived.Test.YtjibmpebebephaaGreatDoorC22
namespace Go.Proofs.YtjibmpebebephaaGreatDoor.vm
open Go Go.RowKit Go.Proofs.YtjibmpebebephaaGreatDoor.rose Go.Proofs.YtjibmpebebephaaGreatDoor Go.Proofs.YtjibmpebebephaaGreatDoor.fun Go.Proofs.YtjibmpebebephaaGreatDoor.heap Go.Proofs.YtjibmpebebephaaGreatDoor.ints
set_option linter.unusedVariables false
set_option linter.unusedSimpArgs false

theorem noword_is {n : Int} {b : Bool} {w : World} (h : inB n (-1073741824) 1073741823 = b) :
    Calls Tryz.prog 65 #[.int .i64 n] w fun e w' => e = .returned (.bool (!b)) ∧ w' = w := by
  go_enter Tryz.func65, Tryz.ntmps65
  go_wp2_with (go_at_call 66; refine (fun.wordI_is h).mono ?_; rintro e w' ⟨rfl, rfl⟩)
  go_ret
  exact ⟨rfl, rfl⟩

set_option maxHeartbeats 4000000 in
theorem index_is (l : List Int) (v : Value) (w : World) (h : intsSh.rep w (· < w.heap.size) [v] l) :
    Calls Tryz.prog 85 #[v, .func (.func 65) #[] #[]] w fun e w' => (∃ z : Int, e = .returned (.int .i64 z) ∧ decide (0 ≤ z) = !(wordsB l)) ∧ w' = w := by
  obtain ⟨a, c, rfl, hcap, hm, hat⟩ := ints_open h
  have hmx : (l.length : Int) ≤ 9223372036854775807 := by unfold maxLen at hm; omega
  have HA : Hid _ := hat
  clear h hm hat hcap
  go_enter Tryz.func85, Tryz.ntmps85
  go_wp2
  go_loopw [5, 8] (fun v5 v8 wr => ∃ i : Nat, i ≤ l.length ∧ v8 = .int .i64 i ∧ wr = w ∧ Hid (∀ j (hj : j < l.length), j < i → inB l[j] (-1073741824) 1073741823 = true)) (fun _ v8 _ => l.length - (intOf v8).toNat)
  case atStart => exact ⟨0, Nat.zero_le _, rfl, rfl, fun j _ hj => absurd hj (Nat.not_lt_zero _)⟩
  case round =>
    obtain ⟨i, hi, rfl, hwr, HJ⟩ := hrel
    subst wr
    by_cases hlt : i < l.length
    · obtain ⟨b', o, rfl, hS, e0, -⟩ := HA.out i hlt
      have iI : (i : Int) < (l.length : Int) := by omega
      rcases p2 : inB l[i] (-1073741824) 1073741823 with _ | _
      · have HF : Hid (wordsB l = false) := words_no hlt p2
        have hc3 := noword_is (w := w) p2
        generalize l[i] = y at e0 hc3
        clear p2
        go_wp2_with (go_at_call 65; refine hc3.mono ?_; rintro e w' ⟨rfl, rfl⟩)
        go_ret
        exact ⟨⟨(i : Int), rfl, by rw [HF.out]; simp⟩, rfl⟩
      · have HN : Hid (∀ j (hj : j < l.length), j < i + 1 → inB l[j] (-1073741824) 1073741823 = true) := fun j hj h1 => by
          by_cases e : j = i
          · subst e; exact p2
          · exact HJ.out j hj (by omega)
        have hc3 := noword_is (w := w) p2
        generalize l[i] = y at e0 hc3
        clear p2
        go_wp2_with (go_at_call 65; refine hc3.mono ?_; rintro e w' ⟨rfl, rfl⟩)
        go_round
        case rel => exact ⟨i + 1, by omega, by go_num, by first | rfl | trivial, HN⟩
        case measure => simp [intOf]; omega
    · obtain rfl : i = l.length := by omega
      have HF : Hid (wordsB l = true) := words_yes fun j hj => HJ.out j hj hj
      go_wp2
      go_ret
      exact ⟨⟨-1, rfl, by rw [HF.out]; rfl⟩, rfl⟩

set_option maxHeartbeats 1000000 in
theorem allWords_is (l : List Int) (v : Value) (w : World) (h : intsSh.rep w (· < w.heap.size) [v] l) :
    Calls Tryz.prog 32 #[v] w fun e w' => e = .returned (.bool (wordsB l)) ∧ w' = w := by
  have hc : Calls Tryz.prog 64 #[v, .func (.func 65) #[] #[]] w fun e w' => e = .returned (.bool (!(wordsB l))) ∧ w' = w := by
    have h1 := index_is l v w h
    clear h
    go_enter Tryz.func64, Tryz.ntmps64
    go_wp2_with fail
    refine h1.mono ?_
    rintro e w' ⟨⟨z, rfl, hz⟩, rfl⟩
    clear h1
    go_wp2
    go_ret
    exact ⟨rfl, rfl⟩
  clear h
  go_enter Tryz.func32, Tryz.ntmps32
  go_wp2_with fail
  refine hc.mono ?_
  rintro e w' ⟨rfl, rfl⟩
  clear hc
  go_wp2
  go_ret
  exact ⟨ret_bV (by simp), rfl⟩

end Go.Proofs.YtjibmpebebephaaGreatDoor.vm

namespace Go.Proofs.YtjibmpebebephaaGreatDoor.fun
open Go.RowKit Go.Proofs.YtjibmpebebephaaGreatDoor.rose Go.Proofs.YtjibmpebebephaaGreatDoor
set_option linter.unusedVariables false
set_option linter.unusedSimpArgs false

/-- An Op in a block of its own. -/
def Box3 (W : World) (g : Nat) (c n m : Int) : Prop := W.cell? ⟨g, 0, none⟩ = some (.int .i64 c) ∧ W.cell? ⟨g, 1, none⟩ = some (.int .i64 n) ∧ W.cell? ⟨g, 2, none⟩ = some (.int .i64 m) ∧ g < W.heap.size
theorem Box3.new (W : World) (c n m : Int) (t : TypeId) : Box3 (W.alloc (.cells #[.int .i64 c, .int .i64 n, .int .i64 m] t)) W.heap.size c n m := by
  refine ⟨?_, ?_, ?_, ?_⟩ <;> simp
theorem Box3.on {W W' : World} {g : Nat} {c n m : Int} (h : Box3 W g c n m) (hb : Below W.heap.size W W') : Box3 W' g c n m := by
  obtain ⟨h0, h1, h2, h3⟩ := h
  exact ⟨(hb.cell (p := ⟨g, 0, none⟩) h3).trans h0, (hb.cell (p := ⟨g, 1, none⟩) h3).trans h1, (hb.cell (p := ⟨g, 2, none⟩) h3).trans h2, Nat.lt_of_lt_of_le h3 hb.size⟩

set_option maxRecDepth 100000 in
set_option maxHeartbeats 4000000 in
theorem okFun_any (ks : List FunD) (i : Nat) (hi : i < ks.length) (v : Value) (w : World) (hN : Names w) (h : funSh.slice.rep w (· < w.heap.size) [v] ks) :
    Calls Tryz.prog 63 #[v, .int .i64 i] w fun e w' => e = .returned (.bool (funB ks i ks[i])) ∧ Below w.heap.size w w' := by
  have SL : Hid (∀ w' : World, Below w.heap.size w w' → funSh.slice.rep w' (· < w'.heap.size) [v] ks) := fun w' hb => funSh.slice.mono (funSh.slice.below h hb) fun b hlt => Nat.lt_of_lt_of_le hlt hb.size
  have NS : Hid (Names w) := hN
  obtain ⟨a, cap, css, rfl, hcap, hmax, hrow, hk⟩ := funs_open h
  obtain ⟨b, o, rfl, hS, hc⟩ := hrow i hi
  obtain ⟨y0, y1, a2, c2, hT, hcs, g0, hrep⟩ := fun_open (hk i hi)
  rw [hcs] at hc
  have d0 : w.cell? ⟨b, o + i * 2, none⟩ = some (.int .i64 y0) := hc 0 _ rfl
  have d1 : w.cell? ⟨b, o + i * 2 + 1, none⟩ = some (.slice a2 y1.length c2) := hc 1 _ rfl
  have hmx : (ks.length : Int) ≤ 9223372036854775807 := by unfold maxLen at hmax; omega
  obtain ⟨a3, c3, css3, e3, hcap3, hmax3, hrow3, hk3⟩ := op.ops_open hrep
  cases e3
  have hmy : (y1.length : Int) ≤ 9223372036854775807 := by unfold maxLen at hmax3; omega
  have HO : Hid (RowAt w (· < w.heap.size) 3 a2 y1.length css3 ∧ ∀ i (h : i < y1.length), op.opSh.rep w (· < w.heap.size) (css3 i) y1[i]) := ⟨hrow3, hk3⟩
  have HF : Hid (funB ks i ks[i] = (inB y0 0 20 && inB y1.length 1 3000 && opsB ks i ks[i] y1 && lastB y1)) := by show _ = _; rw [hT]; rfl
  have HT : Hid (ks[i] = (y0, y1)) := hT
  have hiI : (i : Int) < (ks.length : Int) := by omega
  clear hc hcs hT hrep hmax3 hrow3 hk3 hcap3 h hcap hmax hrow hk hN
  obtain ⟨q, hq⟩ : ∃ q, q = funB ks i ks[i] := ⟨_, rfl⟩
  rw [← hq]
  have HQ : Hid (q = funB ks i ks[i]) := hq
  clear hq
  have B0 : Hid (Below w.heap.size w (w.alloc (.cells #[.int .i64 y0, .slice a2 y1.length c2] 60))) := (Below.refl _ _).alloc (Nat.le_refl _) _
  by_cases hy0 : 0 ≤ y0
  · have n0 : decide (y0 < 0) = false := decide_eq_false (by omega)
    by_cases hy20 : y0 ≤ 20
    · have n20 : decide (20 < y0) = false := decide_eq_false (by omega)
      have q2 : inB y0 0 20 = true := by simp [inB, hy0, hy20]
      by_cases hl1 : 1 ≤ y1.length
      · have nl0 : ((y1.length : Int) == 0) = false := by simp; intro e; rw [e] at hl1; simp at hl1
        by_cases hl2 : y1.length ≤ 3000
        · have nl3 : decide ((3000 : Int) < (y1.length : Int)) = false := decide_eq_false (by omega)
          have q3 : inB y1.length 1 3000 = true := by simp [inB]; omega
          have HF2 : Hid (q = (opsB ks i ks[i] y1 && lastB y1)) := by show _ = _; rw [HQ.out]; simp only [HF.out, q2, q3, Bool.true_and]
          have HI : Hid (0 ≤ ks[i].1 ∧ ks[i].1 ≤ 20) := by show _ ∧ _; rw [HT.out]; exact ⟨hy0, hy20⟩
          have HL : Hid (1 ≤ ks[i].2.length ∧ ks[i].2.length ≤ 3000) := by show _ ∧ _; rw [HT.out]; exact ⟨hl1, hl2⟩
          go_enter Tryz.func63, Tryz.ntmps63
          go_wp2
          have F1 : Hid ((w.alloc (.cells #[.int .i64 y0, .slice a2 y1.length c2] 60)).cell? ⟨w.heap.size, 1, none⟩ = some (.slice a2 y1.length c2)) := by show _ = _; simp
          have Z0 : Hid ((w.alloc (.cells #[.int .i64 y0, .slice a2 y1.length c2] 60)).heap.size = w.heap.size + 1) := by show _ = _; simp
          generalize w.alloc (.cells #[.int .i64 y0, .slice a2 y1.length c2] 60) = w0 at F1 B0 Z0 ⊢
          go_loopw [35] (fun v35 wr => ∃ k : Nat, k ≤ y1.length ∧ v35 = .int .i64 k ∧ Hid (∀ j (hj : j < y1.length), j < k → opB ks i ks[i] y1[j].1 y1[j].2.1 y1[j].2.2 = true) ∧ Hid (Below w0.heap.size w0 wr)) (fun v35 _ => y1.length - (intOf v35).toNat)
          case atStart => exact ⟨0, Nat.zero_le _, rfl, fun j _ hj => absurd hj (Nat.not_lt_zero _), Below.refl _ _⟩
          case round =>
            obtain ⟨k, hk, rfl, HA, HB⟩ := hrel
            have BW : Hid (Below w.heap.size w wr) := B0.out.trans (HB.out.mono (by rw [Z0.out]; omega))
            by_cases hlt : k < y1.length
            · obtain ⟨b3, o3, rfl, hS3, hc3⟩ := HO.out.1 k hlt
              obtain ⟨c, n, m, hT3, hcs3, -, -, -⟩ := op.op_open (HO.out.2 k hlt)
              rw [hcs3] at hc3
              have u0 := (BW.out.cell (p := ⟨b3, o3 + k * 3, none⟩) hS3).trans (hc3 0 _ rfl)
              have u1 := (BW.out.cell (p := ⟨b3, o3 + k * 3 + 1, none⟩) hS3).trans (hc3 1 _ rfl)
              have u2 := (BW.out.cell (p := ⟨b3, o3 + k * 3 + 2, none⟩) hS3).trans (hc3 2 _ rfl)
              have HP : Hid (opB ks i ks[i] y1[k].1 y1[k].2.1 y1[k].2.2 = opB ks i ks[i] c n m) := by show _ = _; rw [hT3]
              clear hc3 hcs3 hT3
              have BA : Hid (Below w.heap.size w (wr.alloc (.cells #[.int .i64 c, .int .i64 n, .int .i64 m] 90))) := BW.out.alloc BW.out.size _
              have BX : Hid (Below w0.heap.size w0 (wr.alloc (.cells #[.int .i64 c, .int .i64 n, .int .i64 m] 90))) := HB.out.alloc HB.out.size _
              have OA : Hid (Box3 (wr.alloc (.cells #[.int .i64 c, .int .i64 n, .int .i64 m] 90)) wr.heap.size c n m) := Box3.new _ _ _ _ _
              have hc1 := nameOf_any c (wr.alloc (.cells #[.int .i64 c, .int .i64 n, .int .i64 m] 90)) (NS.out.on BA.out)
              unfold nameV at hc1
              go_wp2_with fail
              refine hc1.mono ?_
              clear hc1
              rintro e w1 ⟨rfl, hb1⟩
              have BA1 : Hid (Below w.heap.size w w1) := BA.out.trans (hb1.mono BA.out.size)
              have BX1 : Hid (Below w0.heap.size w0 w1) := BX.out.trans (hb1.mono BX.out.size)
              have OA1 : Hid (Box3 w1 wr.heap.size c n m) := OA.out.on hb1
              clear BA BX OA hb1 u0 u1 u2
              go_wp2_with fail
              refine (isNone_any (rowOf c) (row_lt c) w1).mono ?_
              rintro e w2 ⟨rfl, hb2⟩
              have BA2 : Hid (Below w.heap.size w w2) := BA1.out.trans (hb2.mono BA1.out.size)
              have BX2 : Hid (Below w0.heap.size w0 w2) := BX1.out.trans (hb2.mono BX1.out.size)
              have OA2 : Hid (Box3 w2 wr.heap.size c n m) := OA1.out.on hb2
              clear BA1 BX1 OA1 hb2
              obtain ⟨p0, p1, p2, -⟩ := OA2.out
              rcases q4 : inB c 1 21 with _ | _
              · have hr : decide (rowOf c = 0) = true := decide_eq_true ((named_row c).2 q4)
                have HE : Hid (q = false) := by show _ = _; rw [HF2.out, opsB_no hlt (HP.out.trans (by rw [opB_both, q4]; simp only [Bool.false_and]))]; simp only [Bool.false_and]
                rw [hr]
                clear hr q4
                go_wp2
                go_ret
                exact ⟨ret_boolI HE.out.symm, BA2.out⟩
              · have hr : decide (rowOf c = 0) = false := decide_eq_false fun e => by have := (named_row c).1 e; rw [q4] at this; cases this
                rw [hr]
                clear hr
                have hc2 := okFirst_any ks i hi _ c n m w2 (SL.out _ BA2.out) HI.out HL.out
                rcases q5 : firstB ks i ks[i] c n with _ | _
                · have HE : Hid (q = false) := by show _ = _; rw [HF2.out, opsB_no hlt (HP.out.trans (by rw [opB_both, q4, q5]; simp only [Bool.false_and, Bool.and_false]))]; simp only [Bool.false_and]
                  rw [q5] at hc2
                  clear q4 q5
                  go_wp2_with fail
                  refine hc2.mono ?_
                  rintro e w3 ⟨rfl, hb3⟩
                  have BA3 : Hid (Below w.heap.size w w3) := BA2.out.trans (hb3.mono BA2.out.size)
                  clear hb3 hc2 p0 p1 p2
                  go_wp2
                  go_ret
                  exact ⟨ret_boolI HE.out.symm, BA3.out⟩
                · have h5 : c = 5 → 1 ≤ n ∧ n < (ks.length : Int) := by
                    intro e
                    subst e
                    have : inB n 1 ((ks.length : Int) - 1) = true := by simpa [firstB] using q5
                    have := inB_yes this
                    omega
                  have H5 : Hid (c = 5 → 1 ≤ n ∧ n < (ks.length : Int)) := h5
                  rw [q5] at hc2
                  clear h5
                  go_wp2_with fail
                  refine hc2.mono ?_
                  rintro e w3 ⟨rfl, hb3⟩
                  have BA3 : Hid (Below w.heap.size w w3) := BA2.out.trans (hb3.mono BA2.out.size)
                  have BX3 : Hid (Below w0.heap.size w0 w3) := BX2.out.trans (hb3.mono BX2.out.size)
                  have OA3 : Hid (Box3 w3 wr.heap.size c n m) := OA2.out.on hb3
                  clear hb3 hc2 p0 p1 p2 BA2 BX2 OA2
                  obtain ⟨p0, p1, p2, -⟩ := OA3.out
                  have hc3 := okSecond_any ks i hi _ c n m w3 (SL.out _ BA3.out) HI.out HL.out H5.out
                  rcases q6 : secondB ks ks[i] c n m with _ | _
                  · have HE : Hid (q = false) := by show _ = _; rw [HF2.out, opsB_no hlt (HP.out.trans (by rw [opB_both, q4, q5, q6]; simp only [Bool.and_false]))]; simp only [Bool.false_and]
                    rw [q6] at hc3
                    clear q4 q5 q6
                    go_wp2_with fail
                    refine hc3.mono ?_
                    rintro e w4 ⟨rfl, hb4⟩
                    have BA4 : Hid (Below w.heap.size w w4) := BA3.out.trans (hb4.mono BA3.out.size)
                    clear hb4 hc3 p0 p1 p2
                    go_wp2
                    go_ret
                    exact ⟨ret_boolI HE.out.symm, BA4.out⟩
                  · have HA3 : Hid (∀ j (hj : j < y1.length), j < k + 1 → opB ks i ks[i] y1[j].1 y1[j].2.1 y1[j].2.2 = true) := fun j hj h1 => by
                      by_cases e : j = k
                      · subst e; exact HP.out.trans (by rw [opB_both, q4, q5, q6]; rfl)
                      · exact HA.out j hj (by omega)
                    rw [q6] at hc3
                    clear q4 q5 q6
                    go_wp2_with fail
                    refine hc3.mono ?_
                    rintro e w4 ⟨rfl, hb4⟩
                    have BX4 : Hid (Below w0.heap.size w0 w4) := BX3.out.trans (hb4.mono BX3.out.size)
                    clear hb4 hc3 p0 p1 p2
                    go_wp2
                    go_round
                    case rel => exact ⟨k + 1, by omega, by go_num, HA3, BX4⟩
                    case measure => simp [intOf]; omega
            · obtain rfl : k = y1.length := by omega
              have hz : y1.length - 1 < y1.length := by omega
              obtain ⟨b3, o3, rfl, hS3, hc3⟩ := HO.out.1 (y1.length - 1) hz
              obtain ⟨z0, z1, z2, hT3, hcs3, -, -, -⟩ := op.op_open (HO.out.2 (y1.length - 1) hz)
              rw [hcs3] at hc3
              have u0 := (BW.out.cell (p := ⟨b3, o3 + (y1.length - 1) * 3, none⟩) hS3).trans (hc3 0 _ rfl)
              have f1 : wr.cell? ⟨w.heap.size, 1, none⟩ = some (.slice (some ⟨b3, o3, none⟩) y1.length c2) := (HB.out.cell (p := ⟨w.heap.size, 1, none⟩) (by rw [Z0.out]; exact Nat.lt_succ_self _)).trans F1.out
              have HE : Hid (q = endB z0) := by
                show _ = _
                rw [HF2.out, opsB_yes fun j hj => HA.out j hj hj, lastB_get (by omega), hT3]; simp only [Bool.true_and]
              have hc4 := end_any z0 wr
              clear hc3 hcs3 hT3 HA
              go_wp2_with fail
              refine hc4.mono ?_
              rintro e w5 ⟨rfl, hx⟩
              subst w5
              clear hc4
              go_wp2
              go_ret
              exact ⟨ret_boolI HE.out.symm, BW.out⟩
        · have nl3 : decide ((3000 : Int) < (y1.length : Int)) = true := decide_eq_true (by omega)
          have q3 : inB y1.length 1 3000 = false := by have : decide ((y1.length : Int) ≤ 3000) = false := decide_eq_false (by omega); simp only [inB, this, Bool.and_false]
          have HE : Hid (q = false) := by show _ = _; rw [HQ.out]; simp only [HF.out, q3, Bool.and_false, Bool.false_and]
          go_enter Tryz.func63, Tryz.ntmps63
          go_wp2
          go_ret
          exact ⟨ret_boolI HE.out.symm, B0.out⟩
      · obtain hl0 : y1.length = 0 := by omega
        have nl0 : ((y1.length : Int) == 0) = true := by simp [hl0]
        have q3 : inB y1.length 1 3000 = false := by have : decide ((1 : Int) ≤ (y1.length : Int)) = false := decide_eq_false (by omega); simp only [inB, this, Bool.false_and]
        have HE : Hid (q = false) := by show _ = _; rw [HQ.out]; simp only [HF.out, q3, Bool.and_false, Bool.false_and]
        go_enter Tryz.func63, Tryz.ntmps63
        go_wp2
        go_ret
        exact ⟨ret_boolI HE.out.symm, (Below.refl _ _).alloc (Nat.le_refl _) _⟩
    · have n20 : decide (20 < y0) = true := decide_eq_true (by omega)
      have q2 : inB y0 0 20 = false := by have : decide (y0 ≤ 20) = false := decide_eq_false hy20; simp only [inB, this, Bool.and_false]
      have HE : Hid (q = false) := by show _ = _; rw [HQ.out]; simp only [HF.out, q2, Bool.false_and]
      go_enter Tryz.func63, Tryz.ntmps63
      go_wp2
      go_ret
      exact ⟨ret_boolI HE.out.symm, B0.out⟩
  · have n0 : decide (y0 < 0) = true := decide_eq_true (by omega)
    have q2 : inB y0 0 20 = false := by have : decide (0 ≤ y0) = false := decide_eq_false hy0; simp only [inB, this, Bool.false_and]
    have HE : Hid (q = false) := by show _ = _; rw [HQ.out]; simp only [HF.out, q2, Bool.false_and]
    go_enter Tryz.func63, Tryz.ntmps63
    go_wp2
    go_ret
    exact ⟨ret_boolI HE.out.symm, B0.out⟩

set_option maxRecDepth 100000 in
set_option maxHeartbeats 4000000 in
theorem implFunsOk (ks : List FunD) (v : Value) (w : World) (hw : ks.length + wts ks ≤ 1048576) (hN : Names w) (h : funSh.slice.rep w (· < w.heap.size) [v] ks) :
    Calls Tryz.prog 30 #[v] w fun e w' => e = .returned (.bool (funsB ks)) ∧ Below w.heap.size w w' := by
  have SL : Hid (∀ w' : World, Below w.heap.size w w' → funSh.slice.rep w' (· < w'.heap.size) [v] ks) := fun w' hb => funSh.slice.mono (funSh.slice.below h hb) fun b hlt => Nat.lt_of_lt_of_le hlt hb.size
  have NS : Hid (Names w) := hN
  obtain ⟨a, cap, css, rfl, hcap, hmax, hrow, hk⟩ := funs_open h
  have HR : Hid (RowAt w (· < w.heap.size) 2 a ks.length css ∧ ∀ i (h : i < ks.length), funSh.rep w (· < w.heap.size) (css i) ks[i]) := ⟨hrow, hk⟩
  have hmx : (ks.length : Int) ≤ 9223372036854775807 := by omega
  clear h hcap hmax hrow hk hw hN
  obtain ⟨q, hq⟩ : ∃ q, q = funsB ks := ⟨_, rfl⟩
  rw [← hq]
  by_cases h1 : 0 < ks.length
  · have n1 : ((ks.length : Int) == 0) = false := by simp; intro e; rw [e] at h1; simp at h1
    by_cases h60 : ks.length ≤ 60
    · have n60 : decide ((60 : Int) < (ks.length : Int)) = false := decide_eq_false (by omega)
      have q0 : inB ks.length 1 60 = true := by simp [inB]; omega
      obtain ⟨b, o, rfl, hS, hc⟩ := HR.out.1 0 h1
      obtain ⟨x0, x1, a1, c1, hT, hcs, g0, -⟩ := fun_open (HR.out.2 0 h1)
      rw [hcs] at hc
      have d0 : w.cell? ⟨b, o, none⟩ = some (.int .i64 x0) := by have := hc 0 _ rfl; simpa using this
      have hf0 : freeAt ks 0 = x0 := by have := freeAt_get h1; rw [hT] at this; exact this
      clear hc hcs hT
      have h1I : (0 : Int) < (ks.length : Int) := by omega
      rcases q1 : decide (x0 = 0) with _ | _
      · have HQ : Hid (q = false) := by show _ = _; rw [hq]; exact funsB_free (by rw [hf0]; exact q1)
        have q1b : (x0 != 0) = true := by have := of_decide_eq_false q1; simp [this]
        clear hq
        go_enter Tryz.func30, Tryz.ntmps30
        go_wp2
        go_ret
        exact ⟨ret_boolI HQ.out.symm, Below.refl _ _⟩
      · obtain rfl : x0 = 0 := of_decide_eq_true q1
        have HQ : Hid (q = funsB ks ∧ freeAt ks 0 = 0) := ⟨hq, hf0⟩
        clear hq q1 hf0
        go_enter Tryz.func30, Tryz.ntmps30
        go_wp2
        clear d0
        go_loopw [21] (fun v21 wr => ∃ i : Nat, i ≤ ks.length ∧ v21 = .int .i64 i ∧ Hid (∀ j (hj : j < ks.length), j < i → funB ks j ks[j] = true) ∧ Hid (Below w.heap.size w wr)) (fun v21 _ => ks.length - (intOf v21).toNat)
        case atStart => exact ⟨0, Nat.zero_le _, rfl, fun j _ hj => absurd hj (Nat.not_lt_zero _), Below.refl _ _⟩
        case round =>
          obtain ⟨i, hi, rfl, HA, HB⟩ := hrel
          by_cases hlt : i < ks.length
          · have hcall := okFun_any ks i hlt _ wr (NS.out.on HB.out) (SL.out _ HB.out)
            rcases q4 : funB ks i ks[i] with _ | _
            · have HQ2 : Hid (q = false) := by show _ = _; rw [HQ.out.1]; exact funsB_no hlt q4
              rw [q4] at hcall
              clear q4
              go_wp2_with fail
              refine hcall.mono ?_
              rintro e w4 ⟨rfl, hb4⟩
              have B4 : Hid (Below w.heap.size w w4) := HB.out.trans (hb4.mono HB.out.size)
              clear hb4 hcall
              go_wp2
              go_ret
              exact ⟨ret_boolI HQ2.out.symm, B4.out⟩
            · have HA3 : Hid (∀ j (hj : j < ks.length), j < i + 1 → funB ks j ks[j] = true) := fun j hj h1 => by
                by_cases e : j = i
                · subst e; exact q4
                · exact HA.out j hj (by omega)
              rw [q4] at hcall
              clear q4
              go_wp2_with fail
              refine hcall.mono ?_
              rintro e w4 ⟨rfl, hb4⟩
              have B4 : Hid (Below w.heap.size w w4) := HB.out.trans (hb4.mono HB.out.size)
              clear hb4 hcall
              go_wp2
              go_round
              case rel => exact ⟨i + 1, by omega, by go_num, HA3, B4⟩
              case measure => simp [intOf]; omega
          · obtain rfl : i = ks.length := by omega
            have HQ2 : Hid (q = true) := by show _ = _; rw [HQ.out.1]; exact funsB_yes q0 HQ.out.2 fun j hj => HA.out j hj hj
            go_wp2
            go_ret
            exact ⟨ret_boolI HQ2.out.symm, HB.out⟩
    · have n60 : decide ((60 : Int) < (ks.length : Int)) = true := decide_eq_true (by omega)
      have q0 : inB ks.length 1 60 = false := by have : decide ((ks.length : Int) ≤ 60) = false := decide_eq_false (by omega); simp only [inB, this, Bool.and_false]
      have HQ : Hid (q = false) := by show _ = _; rw [hq]; exact funsB_len q0
      clear hq
      go_enter Tryz.func30, Tryz.ntmps30
      go_wp2
      go_ret
      exact ⟨ret_boolI HQ.out.symm, Below.refl _ _⟩
  · obtain rfl : ks = [] := List.eq_nil_of_length_eq_zero (by omega)
    have HQ : Hid (q = false) := by show _ = _; rw [hq]; rfl
    clear hq HR
    go_enter Tryz.func30, Tryz.ntmps30
    go_wp2
    go_ret
    exact ⟨ret_boolI HQ.out.symm, Below.refl _ _⟩

end Go.Proofs.YtjibmpebebephaaGreatDoor.fun

namespace Go.Proofs.YtjibmpebebephaaGreatDoor.words
open Go Go.RowKit Go.Proofs.YtjibmpebebephaaGreatDoor Go.Proofs.YtjibmpebebephaaGreatDoor.fun
set_option linter.unusedVariables false
set_option linter.unusedSimpArgs false

theorem ret_bW {a b : Bool} (h : a = b) : Ending.returned (.bool a) = Ending.returned (.bool b) := by rw [h]
set_option maxHeartbeats 1000000 in
theorem wordI_is {n : Int} {b : Bool} {w : World} (h : inB n (-1073741824) 1073741823 = b) :
    Calls Tryz.prog 66 #[.int .i64 n] w fun e w' => e = .returned (.bool b) ∧ w' = w := by
  by_cases h1 : -1073741824 ≤ n
  · have h6 : decide (-1073741824 ≤ n) = true := decide_eq_true h1
    go_enter Tryz.func66, Tryz.ntmps66
    go_wp2
    go_ret
    exact ⟨ret_bW (by rw [← h]; simp only [inB, h6, Bool.true_and]), rfl⟩
  · have h2 : decide (-1073741824 ≤ n) = false := decide_eq_false h1
    go_enter Tryz.func66, Tryz.ntmps66
    go_wp2
    go_ret
    exact ⟨ret_bW (by rw [← h]; simp only [inB, h2, Bool.false_and]), rfl⟩

end Go.Proofs.YtjibmpebebephaaGreatDoor.words

namespace Go.Proofs.YtjibmpebebephaaGreatDoor.heap
open Go Go.RowKit Go.Proofs.YtjibmpebebephaaGreatDoor Go.Proofs.YtjibmpebebephaaGreatDoor.fun Go.Proofs.YtjibmpebebephaaGreatDoor.words
set_option linter.unusedVariables false
set_option linter.unusedSimpArgs false

/-- The tag as a shift tells it, which is cut downwards. -/
def tagS (x : Int) : Int := x / 2 / 2 / 64
def okHdr (tag many : Int) : Bool := decide (0 ≤ tag) && decide (tag ≤ 3000) && decide (many ≤ 20)

set_option maxHeartbeats 2000000 in
theorem headerOf_is (x : Int) (w : World) (h1 : -9223372036854775808 ≤ x) (h2 : x ≤ 9223372036854775807) :
    Calls Tryz.prog 104 #[.int .i64 x] w fun e w' => e = .returned (.agg #[.bool (funF x), .int .i64 (tagS x), .int .i64 (manyF x)]) ∧ Below w.heap.size w w' := by
  have ha := and_one (x / 2)
  have hb := and_63 (x / 2 / 2)
  have hf : (x / 2 % 2 == 1) = funF x := by unfold funF; rw [Bool.eq_iff_iff]; simp
  go_enter Tryz.func104, Tryz.ntmps104
  go_wp2
  refine bodyPost_ret (v := .agg #[.bool (funF x), .int .i64 (tagS x), .int .i64 (manyF x)]) (by simp [results, Tryz.f104, go_sem, tagS, manyF, hf]) rfl ?_
  refine ⟨rfl, ?_⟩
  exact (Below.refl _ _).alloc (Nat.le_refl _) _

set_option maxHeartbeats 2000000 in
theorem hdrOk_is (f : Bool) (tag many : Int) (w : World) :
    Calls Tryz.prog 106 #[.agg #[.bool f, .int .i64 tag, .int .i64 many]] w fun e w' => e = .returned (.bool (okHdr tag many)) ∧ Below w.heap.size w w' := by
  have BA : Hid (Below w.heap.size w (w.alloc (.cells #[.bool f, .int .i64 tag, .int .i64 many] 152))) := (Below.refl _ _).alloc (Nat.le_refl _) _
  rcases q1 : decide (0 ≤ tag) with _ | _
  · have HQ : Hid (okHdr tag many = false) := by show _ = _; unfold okHdr; rw [q1]; rfl
    go_enter Tryz.func106, Tryz.ntmps106
    go_wp2
    go_ret
    exact ⟨ret_b HQ.out.symm, BA.out⟩
  rcases q2 : decide (tag ≤ 3000) with _ | _
  · have HQ : Hid (okHdr tag many = false) := by show _ = _; unfold okHdr; rw [q1, q2]; rfl
    go_enter Tryz.func106, Tryz.ntmps106
    go_wp2
    go_ret
    exact ⟨ret_b HQ.out.symm, BA.out⟩
  rcases q3 : decide (many ≤ 20) with _ | _
  · have HQ : Hid (okHdr tag many = false) := by show _ = _; unfold okHdr; rw [q1, q2, q3]; rfl
    go_enter Tryz.func106, Tryz.ntmps106
    go_wp2
    go_ret
    exact ⟨ret_b HQ.out.symm, BA.out⟩
  · have HQ : Hid (okHdr tag many = true) := by show _ = _; unfold okHdr; rw [q1, q2, q3]; rfl
    go_enter Tryz.func106, Tryz.ntmps106
    go_wp2
    go_ret
    exact ⟨ret_b HQ.out.symm, BA.out⟩

set_option maxHeartbeats 2000000 in
theorem hdrSize_is (f : Bool) (tag many : Int) (w : World) (h1 : 0 ≤ many) (h2 : many ≤ 1048576) :
    Calls Tryz.prog 107 #[.agg #[.bool f, .int .i64 tag, .int .i64 many]] w fun e w' => e = .returned (.int .i64 (1 + many)) ∧ Below w.heap.size w w' := by
  go_enter Tryz.func107, Tryz.ntmps107
  go_wp2
  go_ret
  exact ⟨rfl, (Below.refl _ _).alloc (Nat.le_refl _) _⟩

end Go.Proofs.YtjibmpebebephaaGreatDoor.heap

namespace Go.Proofs.YtjibmpebebephaaGreatDoor.lock
open Go Go.RowKit Go.Proofs.YtjibmpebebephaaGreatDoor
set_option linter.unusedVariables false
set_option linter.unusedSimpArgs false

abbrev muLink : Go.Conc.Locks.MuLink := { lock := 91, unlock := 92, ilock := 108, iunlock := 109, lockSlow := 122, unlockSlow := 125, disable := 118, enable := 120, acquire := 121, relMerge := 123, cas32 := 119, add32 := 124, tMutex := 122, tIMutex := 120, tPMutex := 154, tPIMutex := 161, tPI32 := 163, tUP := 165, tNoCopy := 117, tU32 := 118 }
theorem muLib : Go.Conc.Locks.MuLib Tryz.prog muLink :=
  ⟨Tryz.func91, Tryz.func92, Tryz.func108, Tryz.func109, Tryz.func118, Tryz.func120, Tryz.func121, Tryz.func123, Tryz.func119, Tryz.func124,
    Tryz.underlying120, Tryz.runUnderlying120, Tryz.sizeOf120, Tryz.isAgg120, Tryz.zeroValue120,
    Tryz.underlying122, Tryz.runUnderlying122, Tryz.sizeOf122, Tryz.isAgg122, Tryz.zeroValue122,
    Tryz.underlying154, Tryz.runUnderlying154, Tryz.sizeOf154, Tryz.isAgg154, Tryz.zeroValue154,
    Tryz.underlying161, Tryz.runUnderlying161, Tryz.sizeOf161, Tryz.isAgg161, Tryz.zeroValue161,
    Tryz.underlying163, Tryz.runUnderlying163, Tryz.sizeOf163, Tryz.isAgg163, Tryz.zeroValue163,
    Tryz.underlying165, Tryz.runUnderlying165, Tryz.sizeOf165, Tryz.isAgg165, Tryz.zeroValue165,
    Tryz.underlying117, Tryz.runUnderlying117, Tryz.sizeOf117, Tryz.isAgg117, Tryz.zeroValue117,
    Tryz.underlying21, Tryz.runUnderlying21, Tryz.sizeOf21, Tryz.isAgg21, Tryz.zeroValue21, (by kernel_rfl)⟩

theorem load_is {a : Addr} {x : Int} {w : World} (hc : w.cell? a = some (.int .i64 x)) :
    Calls Tryz.prog 113 #[.pointer (some a)] w fun e w' => e = .returned (.int .i64 x) ∧ w' = w := by
  have hl := run_call_load (P := Tryz.prog) Tryz.func126 (by kernel_rfl) (by kernel_rfl) (by kernel_rfl) .i64 (by kernel_rfl) hc
  go_enter Tryz.func113, Tryz.ntmps113
  go_wp2
  go_ret
  exact ⟨rfl, rfl⟩
theorem add_is {a : Addr} {x y : Int} {w : World} (hc : w.cell? a = some (.int .i64 x)) (hz : w.frozen? a = false) (h1 : -9223372036854775808 ≤ x + y) (h2 : x + y ≤ 9223372036854775807) :
    Calls Tryz.prog 88 #[.pointer (some a), .int .i64 y] w fun e w' => e = .returned (.int .i64 (x + y)) ∧ w' = w.setCell a (.int .i64 (x + y)) := by
  have hl := run_call_add (P := Tryz.prog) Tryz.func103 (by kernel_rfl) (by kernel_rfl) (by kernel_rfl) .i64 (by kernel_rfl) (y := y) (s := x + y) hc hz (by simp [go_sem, IntKind.wrap_i64]; omega)
  go_enter Tryz.func88, Tryz.ntmps88
  go_wp2
  go_ret
  exact ⟨rfl, rfl⟩

end Go.Proofs.YtjibmpebebephaaGreatDoor.lock
