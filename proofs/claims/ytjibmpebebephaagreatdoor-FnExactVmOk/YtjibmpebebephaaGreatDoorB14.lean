/-
  The model's FunsOk, at every list of functions; nothing that was there is turned.
  The model's words of a heap (chapter 17): what they answer; nothing is turned.
  The model's IsRef, WordInt, WordRef, l17Of and l7In, at every argument; nothing is turned.
  A slice of ints that a call has built itself, from a block number on.
  A cell of a row of the call's own is turned; a row that is kept elsewhere.
-/
import Derived.WalkSmall
import Derived.OwnWalk
import Derived.Laws.AppendOwn
import Derived.Test.YtjibmpebebephaaGreatDoorB1
import Derived.Test.YtjibmpebebephaaGreatDoorB2
import Derived.Test.YtjibmpebebephaaGreatDoorB3
import Derived.Test.YtjibmpebebephaaGreatDoorB4
import Derived.Test.YtjibmpebebephaaGreatDoorB5
import Derived.Test.YtjibmpebebephaaGreatDoorB6
import Derived.Test.YtjibmpebebephaaGreatDoorB7
import Derived.Test.YtjibmpebebephaaGreatDoorB8
import Derived.Test.YtjibmpebebephaaGreatDoorB9
import Derived.Test.YtjibmpebebephaaGreatDoorB10
import Derived.Test.YtjibmpebebephaaGreatDoorB11
import Derived.Test.YtjibmpebebephaaGreatDoorB12
import Derived.Test.YtjibmpebebephaaGreatDoorB13
namespace Go.Proofs.YtjibmpebebephaaGreatDoor.fun
open Go.RowKit Go.Proofs.YtjibmpebebephaaGreatDoor.rose Go.Proofs.YtjibmpebebephaaGreatDoor
set_option linter.unusedVariables false
set_option linter.unusedSimpArgs false

set_option maxRecDepth 100000 in
set_option maxHeartbeats 4000000 in
theorem specFunsOk (ks : List FunD) (v : Value) (w : World) (hw : ks.length + wts ks ≤ 1048576) (h : funSh.slice.rep w (· < w.heap.size) [v] ks) :
    Calls Tryz.prog 21 #[v] w fun e w' => e = .returned (.bool (funsB ks)) ∧ Below w.heap.size w w' := by
  have SL : Hid (∀ w' : World, Below w.heap.size w w' → funSh.slice.rep w' (· < w'.heap.size) [v] ks) := fun w' hb => funSh.slice.mono (funSh.slice.below h hb) fun b hlt => Nat.lt_of_lt_of_le hlt hb.size
  obtain ⟨a, cap, css, rfl, hcap, hmax, hrow, hk⟩ := funs_open h
  have HR : Hid (RowAt w (· < w.heap.size) 2 a ks.length css ∧ ∀ i (h : i < ks.length), funSh.rep w (· < w.heap.size) (css i) ks[i]) := ⟨hrow, hk⟩
  have hmx : (ks.length : Int) ≤ 9223372036854775807 := by omega
  clear h hcap hmax hrow hk hw
  obtain ⟨q, hq⟩ : ∃ q, q = funsB ks := ⟨_, rfl⟩
  rw [← hq]
  rcases q0 : inB ks.length 1 60 with _ | _
  · have HQ : Hid (q = false) := by show _ = _; rw [hq]; exact funsB_len q0
    clear hq
    go_enter Tryz.func21, Tryz.ntmps21
    go_wp2_with (go_at_call 23; refine (in_is q0).mono ?_; rintro e w' ⟨rfl, hx⟩; subst w')
    go_ret
    exact ⟨ret_boolF HQ.out.symm, Below.refl _ _⟩
  · have h1 : 0 < ks.length := by have := inB_yes q0; omega
    have h60 : ks.length ≤ 60 := by have := inB_yes q0; omega
    obtain ⟨b, o, rfl, hS, hc⟩ := HR.out.1 0 h1
    obtain ⟨x0, x1, a1, c1, hT, hcs, g0, -⟩ := fun_open (HR.out.2 0 h1)
    rw [hcs] at hc
    have d0 : w.cell? ⟨b, o, none⟩ = some (.int .i64 x0) := by have := hc 0 _ rfl; simpa using this
    have hf0 : freeAt ks 0 = x0 := by have := freeAt_get h1; rw [hT] at this; exact this
    clear hc hcs hT
    have h1I : (0 : Int) < (ks.length : Int) := by omega
    rcases q1 : decide (x0 = 0) with _ | _
    · have HQ : Hid (q = false) := by show _ = _; rw [hq]; exact funsB_free (by rw [hf0]; exact q1)
      have q1b : (x0 != 0) = true := by have := of_decide_eq_false q1; simp [this]
      clear hq
      go_enter Tryz.func21, Tryz.ntmps21
      go_wp2_with (go_at_call 23; refine (in_is q0).mono ?_; rintro e w' ⟨rfl, hx⟩; subst w')
      go_ret
      exact ⟨ret_boolF HQ.out.symm, Below.refl _ _⟩
    · obtain rfl : x0 = 0 := of_decide_eq_true q1
      have HQ : Hid (q = funsB ks ∧ freeAt ks 0 = 0) := ⟨hq, hf0⟩
      clear hq q1 hf0
      go_enter Tryz.func21, Tryz.ntmps21
      go_wp2_with (go_at_call 23; refine (in_is q0).mono ?_; rintro e w' ⟨rfl, hx⟩; subst w')
      clear d0
      go_loopw [3] (fun v3 wr => ∃ i : Nat, i ≤ ks.length ∧ v3 = .int .i64 i ∧ Hid (∀ j (hj : j < ks.length), j < i → funB ks j ks[j] = true) ∧ Hid (Below w.heap.size w wr)) (fun v3 _ => ks.length - (intOf v3).toNat)
      case atStart => exact ⟨0, Nat.zero_le _, rfl, fun j _ hj => absurd hj (Nat.not_lt_zero _), Below.refl _ _⟩
      case round =>
        obtain ⟨i, hi, rfl, HA, HB⟩ := hrel
        by_cases hlt : i < ks.length
        · obtain ⟨b', o', hbo, hS', hc⟩ := HR.out.1 i hlt
          cases hbo
          obtain ⟨y0, y1, a2, c2, hT, hcs, g2, hrep⟩ := fun_open (HR.out.2 i hlt)
          rw [hcs] at hc
          have e0 := (HB.out.cell (p := ⟨b, o + i * 2, none⟩) hS).trans (hc 0 _ rfl)
          have e1 : wr.cell? ⟨b, o + i * 2 + 1, none⟩ = some (.slice a2 y1.length c2) := (HB.out.cell (p := ⟨b, o + i * 2 + 1, none⟩) hS).trans (hc 1 _ rfl)
          obtain ⟨a3, c3, css3, e3, hcap3, hmax3, hrow3, hk3⟩ := op.ops_open hrep
          cases e3
          have hmy : (y1.length : Int) ≤ 9223372036854775807 := by unfold maxLen at hmax3; omega
          have HO : Hid (RowAt w (· < w.heap.size) 3 a2 y1.length css3 ∧ ∀ i (h : i < y1.length), op.opSh.rep w (· < w.heap.size) (css3 i) y1[i]) := ⟨hrow3, hk3⟩
          have HF : Hid (funB ks i ks[i] = (inB y0 0 20 && inB y1.length 1 3000 && opsB ks i ks[i] y1 && lastB y1)) := by show _ = _; rw [hT]; rfl
          have HT : Hid (ks[i] = (y0, y1)) := hT
          have hc1 : w.cell? ⟨b, o + i * 2 + 1, none⟩ = some (.slice a2 y1.length c2) := hc 1 _ rfl
          clear hc hcs hT hrep hmax3 hrow3 hk3 hcap3
          rcases q2 : inB y0 0 20 with _ | _
          · have HQ2 : Hid (q = false) := by show _ = _; rw [HQ.out.1]; exact funsB_no hlt (by simp only [HF.out, q2, Bool.false_and])
            go_wp2_with (go_at_call 23; refine (in_is q2).mono ?_; rintro e w' ⟨rfl, hx⟩; subst w')
            go_ret
            exact ⟨ret_boolF HQ2.out.symm, HB.out⟩
          · rcases q3 : inB y1.length 1 3000 with _ | _
            · have HQ2 : Hid (q = false) := by show _ = _; rw [HQ.out.1]; exact funsB_no hlt (by simp only [HF.out, q2, q3, Bool.false_and, Bool.and_false])
              go_wp2_with (go_at_call 23; refine (in_is (by assumption)).mono ?_; rintro e w' ⟨rfl, hx⟩; subst w')
              go_ret
              exact ⟨ret_boolF HQ2.out.symm, HB.out⟩
            · have hl1 : 1 ≤ y1.length := by have := inB_yes q3; omega
              have hl2 : y1.length ≤ 3000 := by have := inB_yes q3; omega
              have HF2 : Hid (funB ks i ks[i] = (opsB ks i ks[i] y1 && lastB y1)) := by show _ = _; simp only [HF.out, q2, q3, Bool.true_and]
              have HI : Hid (0 ≤ ks[i].1 ∧ ks[i].1 ≤ 20) := by show _ ∧ _; rw [HT.out]; exact inB_yes q2
              have HL : Hid (1 ≤ ks[i].2.length ∧ ks[i].2.length ≤ 3000) := by show _ ∧ _; rw [HT.out]; exact ⟨hl1, hl2⟩
              have C1 : Hid (w.cell? ⟨b, o + i * 2 + 1, none⟩ = some (.slice a2 y1.length c2)) := hc1
              clear HF HT hc1
              go_wp2_with (go_at_call 23; refine (in_is (by assumption)).mono ?_; rintro e w' ⟨rfl, hx⟩; subst w')
              go_loopw [5] (fun v5 wi => ∃ k : Nat, k ≤ y1.length ∧ v5 = .int .i64 k ∧ Hid (∀ j (hj : j < y1.length), j < k → opB ks i ks[i] y1[j].1 y1[j].2.1 y1[j].2.2 = true) ∧ Hid (Below w.heap.size w wi)) (fun v5 _ => y1.length - (intOf v5).toNat)
              case atStart => exact ⟨0, Nat.zero_le _, rfl, fun j _ hj => absurd hj (Nat.not_lt_zero _), HB⟩
              case round =>
                clear e0 e1
                obtain ⟨k, hk, rfl, HA2, HB2⟩ := hrel
                have e1 : wr.cell? ⟨b, o + i * 2 + 1, none⟩ = some (.slice a2 y1.length c2) := (HB2.out.cell (p := ⟨b, o + i * 2 + 1, none⟩) hS).trans C1.out
                by_cases hlt2 : k < y1.length
                · obtain ⟨b3, o3, rfl, hS3, hc3⟩ := HO.out.1 k hlt2
                  obtain ⟨z0, z1, z2, hT3, hcs3, -, -, -⟩ := op.op_open (HO.out.2 k hlt2)
                  rw [hcs3] at hc3
                  have u0 := (HB2.out.cell (p := ⟨b3, o3 + k * 3, none⟩) hS3).trans (hc3 0 _ rfl)
                  have u1 := (HB2.out.cell (p := ⟨b3, o3 + k * 3 + 1, none⟩) hS3).trans (hc3 1 _ rfl)
                  have u2 := (HB2.out.cell (p := ⟨b3, o3 + k * 3 + 2, none⟩) hS3).trans (hc3 2 _ rfl)
                  have HP : Hid (opB ks i ks[i] y1[k].1 y1[k].2.1 y1[k].2.2 = opB ks i ks[i] z0 z1 z2) := by show _ = _; rw [hT3]
                  have hcall := l13Op_any ks i hlt _ z0 z1 z2 wr (SL.out _ HB2.out) HI.out HL.out
                  clear hc3 hcs3 hT3
                  rcases q4 : opB ks i ks[i] z0 z1 z2 with _ | _
                  · have HQ2 : Hid (q = false) := by show _ = _; rw [HQ.out.1]; exact funsB_no hlt (by rw [HF2.out, opsB_no hlt2 (HP.out.trans q4)]; simp only [Bool.false_and])
                    rw [q4] at hcall
                    clear q4
                    go_wp2_with (go_at_call 56; refine hcall.mono ?_; rintro e w4 ⟨rfl, hb4⟩)
                    go_ret
                    exact ⟨ret_boolF HQ2.out.symm, HB2.out.trans (hb4.mono HB2.out.size)⟩
                  · have HA3 : Hid (∀ j (hj : j < y1.length), j < k + 1 → opB ks i ks[i] y1[j].1 y1[j].2.1 y1[j].2.2 = true) := fun j hj h1 => by
                      by_cases e : j = k
                      · subst e; exact HP.out.trans q4
                      · exact HA2.out j hj (by omega)
                    rw [q4] at hcall
                    clear q4
                    go_wp2_with (go_at_call 56; refine hcall.mono ?_; rintro e w4 ⟨rfl, hb4⟩)
                    go_round
                    case rel => exact ⟨k + 1, by omega, by go_num, HA3, HB2.out.trans (hb4.mono HB2.out.size)⟩
                    case measure => simp [intOf]; omega
                · obtain rfl : k = y1.length := by omega
                  have hz : y1.length - 1 < y1.length := by omega
                  obtain ⟨b3, o3, rfl, hS3, hc3⟩ := HO.out.1 (y1.length - 1) hz
                  obtain ⟨z0, z1, z2, hT3, hcs3, -, -, -⟩ := op.op_open (HO.out.2 (y1.length - 1) hz)
                  rw [hcs3] at hc3
                  have u0 := (HB2.out.cell (p := ⟨b3, o3 + (y1.length - 1) * 3, none⟩) hS3).trans (hc3 0 _ rfl)
                  have HE : Hid (funB ks i ks[i] = endB z0) := by
                    show _ = _
                    rw [HF2.out, opsB_yes fun j hj => HA2.out j hj hj, lastB_get (by omega), hT3]; simp only [Bool.true_and]
                  clear hc3 hcs3 hT3 HA2
                  by_cases h7 : z0 = 7
                  · subst h7
                    have hen : endB 7 = true := rfl
                    have HA3 : Hid (∀ j (hj : j < ks.length), j < i + 1 → funB ks j ks[j] = true) := fun j hj h1 => by
                      by_cases e : j = i
                      · subst e; exact HE.out.trans hen
                      · exact HA.out j hj (by omega)
                    go_wp2
                    go_round
                    case rel => exact ⟨i + 1, by omega, by go_num, HA3, HB2⟩
                    case measure => simp [intOf]; omega
                  · have n7 : (z0 != 7) = true := by simp [h7]
                    by_cases h19 : z0 = 19
                    · subst h19
                      have hen : endB 19 = true := rfl
                      have HA3 : Hid (∀ j (hj : j < ks.length), j < i + 1 → funB ks j ks[j] = true) := fun j hj h1 => by
                        by_cases e : j = i
                        · subst e; exact HE.out.trans hen
                        · exact HA.out j hj (by omega)
                      go_wp2
                      go_round
                      case rel => exact ⟨i + 1, by omega, by go_num, HA3, HB2⟩
                      case measure => simp [intOf]; omega
                    · have n19 : (z0 != 19) = true := by simp [h19]
                      by_cases h21 : z0 = 21
                      · subst h21
                        have hen : endB 21 = true := rfl
                        have HA3 : Hid (∀ j (hj : j < ks.length), j < i + 1 → funB ks j ks[j] = true) := fun j hj h1 => by
                          by_cases e : j = i
                          · subst e; exact HE.out.trans hen
                          · exact HA.out j hj (by omega)
                        go_wp2
                        go_round
                        case rel => exact ⟨i + 1, by omega, by go_num, HA3, HB2⟩
                        case measure => simp [intOf]; omega
                      · have n21 : (z0 != 21) = true := by simp [h21]
                        have hen : endB z0 = false := by simp [endB, h7, h19, h21]
                        have HQ2 : Hid (q = false) := by show _ = _; rw [HQ.out.1]; exact funsB_no hlt (HE.out.trans hen)
                        go_wp2
                        go_ret
                        exact ⟨ret_boolF HQ2.out.symm, HB2.out⟩
        · obtain rfl : i = ks.length := by omega
          have HQ2 : Hid (q = true) := by show _ = _; rw [HQ.out.1]; exact funsB_yes q0 HQ.out.2 fun j hj => HA.out j hj hj
          go_wp2
          go_ret
          exact ⟨ret_boolF HQ2.out.symm, HB.out⟩

end Go.Proofs.YtjibmpebebephaaGreatDoor.fun

namespace Go.Proofs.YtjibmpebebephaaGreatDoor.words
open Go Go.RowKit Go.Proofs.YtjibmpebebephaaGreatDoor Go.Proofs.YtjibmpebebephaaGreatDoor.fun
set_option linter.unusedVariables false
set_option linter.unusedSimpArgs false

def intWordF (n : Int) : Int := if inB n (-1073741824) 1073741823 then 2 * n + 1 else 1
def refWordF (p : Int) : Int := if inB p 0 6000 then 2 * p else 0
def isRefF (x : Int) : Bool := decide (x % 2 = 0)
def halfF (x : Int) : Int := x / 2

theorem ret_i {a b : Int} (h : a = b) : Ending.returned (.int .i64 a) = Ending.returned (.int .i64 b) := by rw [h]
theorem ret_b {a b : Bool} (h : a = b) : Ending.returned (.bool a) = Ending.returned (.bool b) := by rw [h]
theorem and_one (n : Int) : bits .and .i64 n 1 = n % 2 := by
  have h1 : (BitVec.ofInt 64 1).toNat = 2 ^ 1 - 1 := by decide
  have key : (BitVec.ofInt 64 n &&& BitVec.ofInt 64 1).toNat = (n % ((2 ^ 64 : Nat) : Int)).toNat % 2 ^ 1 := by
    rw [BitVec.toNat_and, BitVec.toNat_ofInt, h1, Nat.and_two_pow_sub_one_eq_mod]
  have e : bits .and .i64 n 1 = IntKind.i64.wrap ((BitVec.ofInt 64 n &&& BitVec.ofInt 64 1).toNat : Nat) := rfl
  rw [e, key, IntKind.wrap_i64]
  omega
theorem and_63 (n : Int) : bits .and .i64 n 63 = n % 64 := by
  have h1 : (BitVec.ofInt 64 63).toNat = 2 ^ 6 - 1 := by decide
  have key : (BitVec.ofInt 64 n &&& BitVec.ofInt 64 63).toNat = (n % ((2 ^ 64 : Nat) : Int)).toNat % 2 ^ 6 := by
    rw [BitVec.toNat_and, BitVec.toNat_ofInt, h1, Nat.and_two_pow_sub_one_eq_mod]
  have e : bits .and .i64 n 63 = IntKind.i64.wrap ((BitVec.ofInt 64 n &&& BitVec.ofInt 64 63).toNat : Nat) := rfl
  rw [e, key, IntKind.wrap_i64]
  omega

set_option maxHeartbeats 1000000 in
theorem word_is {n : Int} {b : Bool} {w : World} (h : inB n (-1073741824) 1073741823 = b) :
    Calls Tryz.prog 26 #[.int .i64 n] w fun e w' => e = .returned (.bool b) ∧ w' = w := by
  go_enter Tryz.func26, Tryz.ntmps26
  go_wp2_with (go_at_call 23; refine (in_is h).mono ?_; rintro e w' ⟨rfl, hx⟩; subst w')
  go_ret
  exact ⟨rfl, rfl⟩

end Go.Proofs.YtjibmpebebephaaGreatDoor.words

namespace Go.Proofs.YtjibmpebebephaaGreatDoor.heap
open Go Go.RowKit Go.Proofs.YtjibmpebebephaaGreatDoor.rose Go.Proofs.YtjibmpebebephaaGreatDoor Go.Proofs.YtjibmpebebephaaGreatDoor.fun Go.Proofs.YtjibmpebebephaaGreatDoor.words
set_option linter.unusedVariables false
set_option linter.unusedSimpArgs false

set_option maxHeartbeats 1000000 in
theorem isref_is {n : Int} {b : Bool} {w : World} (h : decide (n % 2 = 0) = b) : Calls Tryz.prog 58 #[.int .i64 n] w fun e w' => e = .returned (.bool b) ∧ w' = w := by
  have ha := and_one n
  go_enter Tryz.func58, Tryz.ntmps58
  go_wp2
  go_ret
  exact ⟨ret_b (by rw [← h, Bool.eq_iff_iff]; simp), rfl⟩
set_option maxHeartbeats 1000000 in
theorem wordint_is (n : Int) (w : World) : Calls Tryz.prog 61 #[.int .i64 n] w fun e w' => e = .returned (.int .i64 (n / 2)) ∧ w' = w := by
  go_enter Tryz.func61, Tryz.ntmps61
  go_wp2
  go_ret
  exact ⟨ret_i (by first | rfl | omega), rfl⟩
set_option maxHeartbeats 1000000 in
theorem wordref_is (n : Int) (w : World) : Calls Tryz.prog 60 #[.int .i64 n] w fun e w' => e = .returned (.int .i64 (n / 2)) ∧ w' = w := by
  go_enter Tryz.func60, Tryz.ntmps60
  go_wp2
  go_ret
  exact ⟨ret_i (by first | rfl | omega), rfl⟩
set_option maxHeartbeats 2000000 in
theorem of_is (n : Int) (w : World) (h1 : -9223372036854775808 ≤ n) (h2 : n ≤ 9223372036854775807) : Calls Tryz.prog 57 #[.int .i64 n] w fun e w' => e = .returned (.tuple #[.bool (funF n), .int .i64 (tagF n), .int .i64 (manyF n)]) ∧ w' = w := by
  have ha := and_one (n / 2)
  have hb := and_63 (n / 2 / 2)
  have hq : IntKind.i64.wrap (Int.tdiv (n / 2 / 2) 64) = Int.tdiv (n / 2 / 2) 64 := IntWalk.i64_quo' _ _ (by omega)
  go_enter Tryz.func57, Tryz.ntmps57
  go_wp2
  refine bodyPost_ret (v := .tuple #[.bool (funF n), .int .i64 (tagF n), .int .i64 (manyF n)]) (by simp [results, Tryz.f57, go_sem, funF, tagF, manyF]; try (rw [Bool.eq_iff_iff]; simp)) rfl ?_
  exact ⟨rfl, rfl⟩
set_option maxHeartbeats 1000000 in
theorem in7_is {l : List Int} {x : Int} {b : Bool} (v : Value) (w : World) (hb : decide (x ∈ l) = b) (h : ints.intsSh.rep w (· < w.heap.size) [v] l) : Calls Tryz.prog 59 #[v, .int .i64 x] w fun e w' => e = .returned (.bool b) ∧ w' = w := by
  obtain ⟨a, cap, rfl, hcap, hmax, hat⟩ := ints.ints_open h
  have hmx : (l.length : Int) ≤ 9223372036854775807 := by unfold maxLen at hmax; omega
  have HA : Hid _ := hat
  have HB : Hid (decide (x ∈ l) = b) := hb
  clear h hcap hmax hat hb
  go_enter Tryz.func59, Tryz.ntmps59
  go_wp2
  go_loopw [5] (fun v5 wr => ∃ i : Nat, i ≤ l.length ∧ v5 = .int .i64 i ∧ wr = w ∧ Hid (∀ j (hj : j < l.length), j < i → l[j] ≠ x)) (fun v5 _ => l.length - (intOf v5).toNat)
  case atStart => exact ⟨0, Nat.zero_le _, rfl, rfl, fun j _ hj => absurd hj (Nat.not_lt_zero _)⟩
  case round =>
    obtain ⟨i, hi, rfl, hwr, HJ⟩ := hrel
    subst wr
    by_cases hlt : i < l.length
    · obtain ⟨b', o, rfl, hS, hc, -⟩ := HA.out i hlt
      have e0 : w.cell? ⟨b', o + i, none⟩ = some (.int .i64 l[i]) := hc
      clear hc
      by_cases he : l[i] = x
      · have HE : Hid (b = true) := by show _ = _; rw [← HB.out]; simp only [decide_eq_true_eq]; rw [← he]; exact List.getElem_mem hlt
        rw [he] at e0
        go_wp2
        go_ret
        exact ⟨ret_b HE.out.symm, rfl⟩
      · have hne : (l[i] == x) = false := by simpa using he
        have HN : Hid (∀ j (hj : j < l.length), j < i + 1 → l[j] ≠ x) := fun j hj h1 => by
          by_cases q : j = i
          · subst q; exact he
          · exact HJ.out j hj (by omega)
        generalize l[i] = y at e0 hne
        clear he
        go_wp2
        go_round
        case rel => exact ⟨i + 1, by omega, by go_num, by first | rfl | trivial, HN⟩
        case measure => simp [intOf]; omega
    · obtain rfl : i = l.length := by omega
      have HE : Hid (b = false) := by
        show _ = _; rw [← HB.out]; simp only [decide_eq_false_iff_not]
        intro hm
        obtain ⟨j, hj, e⟩ := List.getElem_of_mem hm
        exact HJ.out j hj hj e
      go_wp2
      go_ret
      exact ⟨ret_b HE.out.symm, rfl⟩

end Go.Proofs.YtjibmpebebephaaGreatDoor.heap

namespace Go.Proofs.YtjibmpebebephaaGreatDoor.ints
open Go.RowKit Go.Proofs.YtjibmpebebephaaGreatDoor.rose Go.Proofs.YtjibmpebebephaaGreatDoor
set_option linter.unusedVariables false

def InR (x : Int) : Prop := -9223372036854775808 ≤ x ∧ x ≤ 9223372036854775807

def IRow (w : World) (base : Nat) (v : Value) (l : List Int) : Prop := w.ownsRow base 3 1 v l.length (l.map (Value.int .i64)) ∧ ∀ x ∈ l, InR x

theorem IRow.nil (w : World) (base : Nat) : IRow w base (.slice none 0 0) [] := ⟨World.ownsRow_nil w base 3 1, fun x hx => by cases hx⟩
theorem IRow.lt {w : World} {base : Nat} {v : Value} {l : List Int} (h : IRow w base v l) : ∀ k, v.ownBlock = some k → base ≤ k ∧ k < w.heap.size := h.1.lt
theorem IRow.keep {w w' : World} {base : Nat} {v : Value} {l : List Int} (h : IRow w base v l) (hb : Below w.heap.size w w') : IRow w' base v l := by
  refine ⟨⟨h.1.1, ?_⟩, h.2⟩
  rcases h.1.2 with h0 | ⟨g, cap, cur, h1, h2, h3, h4⟩
  · exact Or.inl h0
  · have hg : g < w.heap.size := (Array.getElem?_eq_some_iff.1 h3).1
    exact Or.inr ⟨g, cap, cur, h1, h2, (hb.block g hg).trans h3, h4⟩
theorem IRow.open {w : World} {base : Nat} {v : Value} {l : List Int} (h : IRow w base v l) : (v = .slice none 0 0 ∧ l = []) ∨ ∃ g cap, v = .slice (some ⟨g, 0, none⟩) l.length cap ∧ base ≤ g ∧ g < w.heap.size ∧ l.length ≤ cap ∧ cap ≤ maxLen ∧ (∀ i (hi : i < l.length), w.cell? ⟨g, i, none⟩ = some (.int .i64 l[i])) ∧ ∃ cur t, w.heap[g]? = some (.cells cur t) := by
  rcases h.1.2 with ⟨h0, h1⟩ | ⟨g, cap, cur, h1, h2, h3, h4, h5, h6⟩
  · exact Or.inl ⟨h0, List.eq_nil_of_length_eq_zero h1⟩
  · refine Or.inr ⟨g, cap, h1, h2, (Array.getElem?_eq_some_iff.1 h3).1, h4, h5, fun i hi => ?_, cur, _, h3⟩
    have ho := h.1
    rw [h1] at ho
    have := ho.cellAt i (by omega)
    rw [this]
    simp [hi]
theorem IRow.sp {w : World} {base : Nat} {v : Value} {l : List Int} (h : IRow w base v l) : intsSp.rep w (fun b => base ≤ b ∧ b < w.heap.size) [v] l := by
  rcases h.open with ⟨rfl, rfl⟩ | ⟨g, cap, rfl, h2, h3, h4, h5, h6, cur, t, h7⟩
  · exact ⟨none, 0, fun _ => [], fun _ _ => False, rfl, Nat.le_refl _, Nat.zero_le _, fun _ => rfl, fun h0 => absurd h0 (Nat.not_lt_zero _), fun i hi => absurd hi (Nat.not_lt_zero _), fun i j hi => absurd hi (Nat.not_lt_zero _), fun i hi => absurd hi (Nat.not_lt_zero _)⟩
  · refine ⟨some ⟨g, 0, none⟩, cap, fun i => [.int .i64 (l.getD i 0)], fun _ _ => False, rfl, h4, h5, (fun h => by cases h), fun h0 => ⟨g, 0, cur, t, rfl, ⟨h2, h3⟩, h7, fun _ _ h => h, fun i hi q u hq => ?_⟩, fun i hi b h => h.elim, fun i j hi hj hne b h => h.elim, fun i hi => ⟨by simp [List.getD, hi], h.2 _ (List.getElem_mem hi)⟩⟩
    match q, hq with
    | 0, hq =>
      simp at hq; subst hq
      have := h6 i hi
      simpa [Sh.int, List.getD, hi] using this
    | _ + 1, hq => simp at hq

theorem info_int : (Tryz.prog.info? 3).map (fun i => (i.zero, i.size, i.bytes)) = some (some (.int .i64 0), 1, 8) := by kernel_rfl
theorem int_info : ∃ ti, Tryz.prog.info? 3 = some ti ∧ ti.zero = some (.int .i64 0) ∧ ti.size = 1 ∧ ti.bytes = 8 := by
  obtain ⟨i, hi, hzz⟩ := Option.map_eq_some_iff.1 info_int
  simp only [Prod.mk.injEq] at hzz
  exact ⟨i, hi, hzz⟩

theorem IRow.more {w : World} {base : Nat} {v : Value} {xs ys : List Int} (h : w.ownsRow base 3 1 v (xs.length + ys.length) (xs.map (Value.int .i64) ++ ys.map (Value.int .i64))) (hx : ∀ x ∈ xs, InR x) (hy : ∀ x ∈ ys, InR x) : IRow w base v (xs ++ ys) := by
  refine ⟨by rw [List.length_append, List.map_append]; exact h, fun x hm => ?_⟩
  rcases List.mem_append.1 hm with q | q
  · exact hx x q
  · exact hy x q

end Go.Proofs.YtjibmpebebephaaGreatDoor.ints

namespace Go.Proofs.YtjibmpebebephaaGreatDoor.rose
open Go Go.RowKit
set_option linter.unusedVariables false

theorem own_set {w : World} {base : Nat} {t : TypeId} {k g n c j : Nat} {xs : List Value} {u : Value} (h : w.ownsRow base t k (.slice (some ⟨g, 0, none⟩) n c) n xs) (hj : j < n * k) : (w.setCell ⟨g, j, none⟩ u).ownsRow base t k (.slice (some ⟨g, 0, none⟩) n c) n (xs.set j u) := by
  obtain ⟨hl, hv⟩ := h
  refine ⟨by simpa using hl, Or.inr ?_⟩
  rcases hv with ⟨h, _⟩ | ⟨g', c', cur, h1, h2, h3, h4, h5, h6, h7⟩
  · cases h
  · cases h1
    refine ⟨g, c, cur.setIfInBounds j u, rfl, h2, by simp [World.setCell, Array.getElem?_modify, h3], h4, h5, by simpa using h6, ?_⟩
    rw [← h7]
    simp [List.take_set]
theorem own_same {w w' : World} {base : Nat} {t : TypeId} {k n : Nat} {v : Value} {xs : List Value} (h : w.ownsRow base t k v n xs) (hb : ∀ q, v.ownBlock = some q → w'.heap[q]? = w.heap[q]?) : w'.ownsRow base t k v n xs := by
  refine ⟨h.1, ?_⟩
  rcases h.2 with h0 | ⟨g, cap, cur, h1, h2, h3, h4⟩
  · exact Or.inl h0
  · exact Or.inr ⟨g, cap, cur, h1, h2, (hb g (by rw [h1]; rfl)).trans h3, h4⟩
theorem own_form {w : World} {base : Nat} {t : TypeId} {k n : Nat} {v : Value} {xs : List Value} (h : w.ownsRow base t k v n xs) : ∃ a c, v = .slice a n c := by
  rcases h.2 with ⟨rfl, h0⟩ | ⟨_, _, _, rfl, _⟩
  · exact ⟨_, _, by rw [h0]⟩
  · exact ⟨_, _, rfl⟩
theorem new_cell (w : World) (t : TypeId) (u : Value) : ∀ j x, [u][j]? = some x → (w.alloc (.cells #[u] t)).cell? ((⟨w.heap.size, 0, none⟩ : Addr).add j) = some x := by
  intro j x hj
  match j, hj with
  | 0, hj =>
    simp at hj; subst hj
    rw [add_plain]
    simp
  | _ + 1, hj => simp at hj
theorem own_base {w : World} {base base' : Nat} {t : TypeId} {k n : Nat} {v : Value} {xs : List Value} (h : w.ownsRow base t k v n xs) (hb : base' ≤ base) : w.ownsRow base' t k v n xs := by
  refine ⟨h.1, ?_⟩
  rcases h.2 with h0 | ⟨g, cap, cur, h1, h2, h3, h4⟩
  · exact Or.inl h0
  · exact Or.inr ⟨g, cap, cur, h1, by omega, h3, h4⟩
theorem below_block {B : Nat} {w w' : World} (h : Below B w w') {b : Nat} (hb : b < B) : w'.heap[b]? = w.heap[b]? := h.block b hb

end Go.Proofs.YtjibmpebebephaaGreatDoor.rose
