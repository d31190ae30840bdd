/-
  The law's comparison and marks of slices of ints: of the same list true; where it lies apart, what is read back is what was written; nothing else is turned.
-/
import Derived.Test.YtempmfpnngbbeabChecked
import Derived.Test.YtempmfpnngbbeabIntsSp
import Derived.WalkKit
import Derived.WalkLawsBesides
import Derived.Deep.QuietTactic
import Derived.BigQuiet
namespace Go.Proofs.Ytempmfpnngbbeab.ints
open Go.RowKit Go.Proofs.Ytempmfpnngbbeab.rose Go.Proofs.Ytempmfpnngbbeab
set_option linter.unusedVariables false

set_option maxHeartbeats 1000000 in
theorem eq_any (ks : List Int) (v1 v2 : Value) (w : World) (h : intsSh.rep w (· < w.heap.size) [v1] ks) (h' : intsSh.rep w (· < w.heap.size) [v2] ks) :
    Calls Try.prog 14 #[v1, v2] w fun e w' => e = .returned (.bool true) ∧ Below w.heap.size w w' := by
  obtain ⟨a, cap, rfl, hcap, hmax, hat⟩ := ints_open h
  obtain ⟨a', cap', rfl, hcap', hmax', hat'⟩ := ints_open h'
  have hmx : (ks.length : Int) ≤ 9223372036854775807 := by unfold maxLen at hmax; omega
  have HA : Hid _ := hat
  have HA' : Hid _ := hat'
  clear h h' hcap hmax hcap' hmax' hat hat'
  go_enter Try.func14, Try.ntmps14
  go_wp2
  go_loopw [5] (fun v5 wr => ∃ i : Nat, i ≤ ks.length ∧ v5 = .int .i64 i ∧ Hid (Below w.heap.size w wr)) (fun v5 _ => ks.length - (intOf v5).toNat)
  case atStart => exact ⟨0, Nat.zero_le _, rfl, Below.refl _ _⟩
  case round =>
    obtain ⟨i, hi, rfl, HB⟩ := hrel
    by_cases hlt : i < ks.length
    · obtain ⟨b, o, rfl, hS, hc, -⟩ := HA.out i hlt
      obtain ⟨b', o', rfl, hS', hc', -⟩ := HA'.out i hlt
      have e0 := (HB.out.cell (p := ⟨b, o + i, none⟩) hS).trans hc
      have e1 := (HB.out.cell (p := ⟨b', o' + i, none⟩) hS').trans hc'
      clear hc hc'
      go_wp2
      go_region
      all_goals
        go_wp2
        go_round
        case rel => exact ⟨i + 1, by omega, by go_num, HB.out.drew⟩
        case measure => simp [intOf]; omega
    · obtain rfl : i = ks.length := by omega
      go_wp2
      go_ret
      exact ⟨rfl, HB.out⟩

/-- Marks: the numbers from k on. -/
def mks (k : Int) : List Int → List Int
  | [] => []
  | _ :: xs => k :: mks (k + 1) xs
theorem mks_length (k : Int) (ks : List Int) : (mks k ks).length = ks.length := by
  induction ks generalizing k with
  | nil => rfl
  | cons x xs ih => simp [mks, ih]
theorem mks_get {k : Int} {ks : List Int} {i : Nat} (h : i < (mks k ks).length) : (mks k ks)[i] = k + (i : Nat) := by
  induction ks generalizing k i with
  | nil => simp [mks] at h
  | cons x xs ih =>
    cases i with
    | zero => simp [mks]
    | succ i =>
      simp only [mks, List.getElem_cons_succ]
      rw [ih]
      omega

def mid (k : Int) (ks : List Int) (i : Nat) : List Int := (mks k ks).take i ++ ks.drop i
theorem mid_length (k : Int) (ks : List Int) {i : Nat} (h : i ≤ ks.length) : (mid k ks i).length = ks.length := by
  simp [mid, mks_length]; omega
theorem mid_zero (k : Int) (ks : List Int) : mid k ks 0 = ks := by simp [mid]
theorem mid_full (k : Int) (ks : List Int) : mid k ks ks.length = mks k ks := by
  unfold mid; rw [List.take_of_length_le (by rw [mks_length]; exact Nat.le_refl _)]; simp
theorem mid_set (k : Int) (ks : List Int) {i : Nat} (h : i < ks.length) : (mid k ks i).set i (k + (i : Nat)) = mid k ks (i + 1) := by
  unfold mid
  have hl : ((mks k ks).take i).length = i := by simp [mks_length]; omega
  rw [List.set_append, if_neg (by omega), hl, Nat.sub_self, List.drop_eq_getElem_cons h, List.set_cons_zero]
  rw [List.take_succ_eq_append_getElem (show i < (mks k ks).length by rw [mks_length]; exact h), List.append_assoc, mks_get]
  rfl

set_option maxHeartbeats 1000000 in
theorem mark_any (ks : List Int) (v : Value) (w : World) (k : Int) (S : Nat → Prop) (hk1 : 1 ≤ k) (hk2 : k + (ks.length : Nat) ≤ 1152921504606846976) (hS : ∀ b, S b → b < w.heap.size) (h : intsSp.rep w S [v] ks) :
    Calls Try.prog 16 #[v, .int .i64 k] w fun e w' => e = .returned (.int .i64 (k + (ks.length : Nat))) ∧ intsSp.rep w' S [v] (mks k ks) ∧ Only S w w' := by
  obtain ⟨a, cap, css, F, e, hcap, hmax, hnone, hrow⟩ := h
  obtain rfl : v = .slice a ks.length cap := by simpa using e
  have hmx : (ks.length : Int) ≤ 9223372036854775807 := by unfold maxLen at hmax; omega
  have HC : Hid (ks.length ≤ cap ∧ cap ≤ maxLen ∧ (a = none → cap = 0)) := ⟨hcap, hmax, hnone⟩
  have HS : Hid (∀ b, S b → b < w.heap.size) := hS
  have HR : Hid (SRow Sh.int w S a css F (mid k ks 0)) := by show SRow _ _ _ _ _ _ _; rw [mid_zero]; exact hrow
  clear e hcap hmax hnone hS hrow
  go_enter Try.func16, Try.ntmps16
  go_wp2
  go_loopw [1, 5] (fun v1 v5 wr => ∃ (i : Nat) (css' : Nat → List Value), i ≤ ks.length ∧ v5 = .int .i64 i ∧ v1 = .int .i64 (k + (i : Nat)) ∧ Hid (SRow Sh.int wr S a css' F (mid k ks i) ∧ Only S w wr)) (fun _ v5 _ => ks.length - (intOf v5).toNat)
  case atStart => exact ⟨0, css, Nat.zero_le _, rfl, by simp, HR.out, Only.refl _ _⟩
  case round =>
    obtain ⟨i, css', hi, rfl, rfl, HJ⟩ := hrel
    by_cases hlt : i < ks.length
    · have hlm : i < (mid k ks i).length := by rw [mid_length k ks hi]; exact hlt
      obtain ⟨b, o, rfl, hSb, hFb, hc, hfz, cur, t, hbk⟩ := HJ.out.1.at hlm
      have hrep := HJ.out.1.rep i hlm
      have hcs := hrep.1
      rw [hcs] at hc
      have e0 : wr.cell? ⟨b, o + i, none⟩ = some (.int .i64 (mid k ks i)[i]) := by have := hc 0 _ rfl; simpa [Sh.int] using this
      have NX : Hid (∃ css2, SRow Sh.int (wr.setCell ⟨b, o + i, none⟩ (.int .i64 (k + (i : Nat)))) S (some ⟨b, o, none⟩) css2 F (mid k ks (i + 1)) ∧ Only S w (wr.setCell ⟨b, o + i, none⟩ (.int .i64 (k + (i : Nat))))) := by
        have hT : Turned b (o + i * Sh.int.k) (o + i * Sh.int.k + Sh.int.k) wr (wr.setCell ⟨b, o + i, none⟩ (.int .i64 (k + (i : Nat)))) := Turned.set _ _ _ (by simp [Sh.int]) (by simp [Sh.int])
        have hn := HJ.out.1.turn (fun q hq => Nat.lt_of_lt_of_le (HS.out q hq) HJ.out.2.size) hlm rfl hT (Only.refl _ _) (cs := [.int .i64 (k + (i : Nat))]) (x := k + (i : Nat)) (by
          intro q v hq
          match q, hq with
          | 0, hq =>
            simp at hq; subst hq
            have := cell_set_eq (v := .int .i64 (k + (i : Nat))) e0
            simpa [Sh.int] using this
          | _ + 1, hq => simp at hq) ⟨rfl, by omega, by omega⟩
        rw [mid_set k ks hlt] at hn
        exact ⟨_, hn.1, HJ.out.2.trans hn.2⟩
      clear hrep hcs hc hbk hFb hSb
      generalize (mid k ks i)[i] = x0 at e0
      go_wp2
      go_round
      case rel => obtain ⟨css2, n1, n2⟩ := NX.out; exact ⟨i + 1, css2, by omega, by go_num, by go_num, n1, n2⟩
      case measure => simp [intOf]; omega
    · obtain rfl : i = ks.length := by omega
      have hq := HJ.out
      rw [mid_full] at hq
      go_wp2
      go_ret
      refine ⟨rfl, ?_, hq.2⟩
      have hl := mks_length k ks
      refine ⟨a, cap, css', F, by rw [hl], by rw [hl]; exact HC.out.1, HC.out.2.1, HC.out.2.2, hq.1⟩

end Go.Proofs.Ytempmfpnngbbeab.ints
