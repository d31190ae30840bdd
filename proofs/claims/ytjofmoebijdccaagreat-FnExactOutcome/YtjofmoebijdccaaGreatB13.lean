/-
  The law's marks in a Op: where it lies apart, each cell gets a number, or a text, of its own, and what is read back is what was written; nothing else is turned.
  The law's marks in a Fun: where it lies apart, each cell gets a number, or a text, of its own, and what is read back is what was written; nothing else is turned.
  The law's comparison and marks of slices of ints: of the same list true; where it lies apart, what is read back is what was written; nothing else is turned.
  The law's marks in one Heap: its slices are marked, nothing else is turned.
-/
import Derived.Deep.RegionWith
import Derived.Test.YtjofmoebijdccaaGreatChecked
import Derived.WalkKit
import Derived.WalkLawsBesides
import Derived.Deep.QuietTactic
import Derived.BigQuiet
import Derived.Test.YtjofmoebijdccaaGreatB1
import Derived.Test.YtjofmoebijdccaaGreatB2
import Derived.Test.YtjofmoebijdccaaGreatB3
import Derived.Test.YtjofmoebijdccaaGreatB4
import Derived.Test.YtjofmoebijdccaaGreatB5
import Derived.Test.YtjofmoebijdccaaGreatB6
import Derived.Test.YtjofmoebijdccaaGreatB7
import Derived.Test.YtjofmoebijdccaaGreatB8
import Derived.Test.YtjofmoebijdccaaGreatB9
import Derived.Test.YtjofmoebijdccaaGreatB10
import Derived.Test.YtjofmoebijdccaaGreatB11
import Derived.Test.YtjofmoebijdccaaGreatB12
namespace Go.Proofs.YtjofmoebijdccaaGreat.op
open Go.RowKit Go.Proofs.YtjofmoebijdccaaGreat.rose Go.Proofs.YtjofmoebijdccaaGreat
set_option linter.unusedVariables false

/-- How many marks it takes as an element. -/
def cnt : OpD → Nat
  | (x0, x1, x2) => 3
def cnts : List OpD → Nat
  | [] => 0
  | k :: ks => cnt k + cnts ks
def mk (k : Int) : OpD → OpD
  | (x0, x1, x2) => (k, k + 1, k + 1 + 1)
def mks (k : Int) : List OpD → List OpD
  | [] => []
  | t :: ts => mk k t :: mks (k + (cnt t : Nat)) ts

theorem mks_length (k : Int) (ks : List OpD) : (mks k ks).length = ks.length := by
  induction ks generalizing k with
  | nil => simp [mks]
  | cons t ts ih => simp [mks, ih]
theorem cnts_take {ks : List OpD} {i : Nat} (h : i < ks.length) : cnts (ks.take (i + 1)) = cnts (ks.take i) + cnt ks[i] := by
  induction ks generalizing i with
  | nil => simp at h
  | cons k ks ih =>
    cases i with
    | zero => simp [cnts]
    | succ i => simp [cnts, ih (by simpa using h)]; omega
theorem cnts_take_le (ks : List OpD) (i : Nat) : cnts (ks.take i) ≤ cnts ks := by
  induction ks generalizing i with
  | nil => simp [cnts]
  | cons k ks ih =>
    cases i with
    | zero => simp [cnts]
    | succ i => simp [cnts]; exact ih i
theorem mks_get {k : Int} {ks : List OpD} {i : Nat} (h : i < ks.length) (h' : i < (mks k ks).length) : (mks k ks)[i] = mk (k + (cnts (ks.take i) : Nat)) ks[i] := by
  induction ks generalizing k i with
  | nil => simp at h
  | cons t ts ih =>
    cases i with
    | zero => simp [mks, cnts]
    | succ i =>
      simp only [mks, List.getElem_cons_succ, List.take_succ_cons, cnts]
      rw [ih (by simpa using h)]
      congr 1
      omega
theorem cnts_le (ks : List OpD) : cnts ks ≤ 3 * ks.length := by
  induction ks with
  | nil => simp [cnts]
  | cons a l ih =>
    have : cnt a = 3 := rfl
    simp only [cnts, List.length_cons]
    omega

/-- The first i are marked. -/
def mid (k : Int) (ks : List OpD) (i : Nat) : List OpD := (mks k ks).take i ++ ks.drop i
theorem mid_length (k : Int) (ks : List OpD) {i : Nat} (h : i ≤ ks.length) : (mid k ks i).length = ks.length := by
  simp [mid, mks_length]; omega
theorem mid_zero (k : Int) (ks : List OpD) : mid k ks 0 = ks := by simp [mid]
theorem mid_full (k : Int) (ks : List OpD) : mid k ks ks.length = mks k ks := by
  unfold mid; rw [List.take_of_length_le (by rw [mks_length]; exact Nat.le_refl _)]; simp
theorem mid_get (k : Int) (ks : List OpD) {i : Nat} (h : i < ks.length) (h' : i < (mid k ks i).length) : (mid k ks i)[i] = ks[i] := by
  have e : (mid k ks i)[i]? = ks[i]? := by
    unfold mid
    rw [List.getElem?_append_right (by simp; omega)]
    simp [mks_length, Nat.min_eq_left (Nat.le_of_lt h)]
  rw [List.getElem?_eq_getElem h, List.getElem?_eq_getElem h'] at e
  exact Option.some.inj e
theorem mid_set (k : Int) (ks : List OpD) {i : Nat} (h : i < ks.length) : (mid k ks i).set i (mk (k + (cnts (ks.take i) : Nat)) ks[i]) = mid k ks (i + 1) := by
  unfold mid
  have hl : ((mks k ks).take i).length = i := by simp [mks_length]; omega
  rw [List.set_append, if_neg (by omega), hl, Nat.sub_self, List.drop_eq_getElem_cons h, List.set_cons_zero]
  rw [List.take_succ_eq_append_getElem (show i < (mks k ks).length by rw [mks_length]; exact h), List.append_assoc, mks_get h]
  rfl

def MarkSays (ks : List OpD) : Prop := ∀ (v : Value) (w : World) (k : Int) (S : Nat → Prop), 1 ≤ k → k + (cnts ks : Nat) ≤ 1152921504606846976 → (∀ b, S b → b < w.heap.size) → opSp.sslice.rep w S [v] ks →
  Calls Tryz.prog 59 #[v, .int .i64 k] w fun e w' => e = .returned (.int .i64 (k + (cnts ks : Nat))) ∧ opSp.sslice.rep w' S [v] (mks k ks) ∧ Only S w w'

theorem mk_eq (k : Int) (x0 : Int) (x1 : Int) (x2 : Int) : mk k ((x0, x1, x2)) = (k, k + 1, k + 1 + 1) := by simp [mk]

set_option maxRecDepth 100000 in
set_option maxHeartbeats 4000000 in
theorem mark_of (ks : List OpD) : MarkSays ks := by
  intro v w k S hk1 hk2 hS h
  obtain ⟨a, cap, css, F, rfl, hcap, hmax, hnone, hrow⟩ := opps_open h
  have hmx : (ks.length : Int) ≤ 9223372036854775807 := by unfold maxLen at hmax; omega
  have HC : Hid (ks.length ≤ cap ∧ cap ≤ maxLen ∧ (a = none → cap = 0)) := ⟨hcap, hmax, hnone⟩
  have HS : Hid (∀ b, S b → b < w.heap.size) := hS
  have HR : Hid (SRow opSp w S a css F (mid k ks 0)) := by show SRow _ _ _ _ _ _ _; rw [mid_zero]; exact hrow
  clear h hcap hmax hnone hS hrow
  have HK : Hid (k + (cnts ks : Nat) ≤ 1152921504606846976) := hk2
  clear hk2
  go_enter Tryz.func59, Tryz.ntmps59
  go_wp2
  go_loopw [1, 5] (fun v1 v5 wr => ∃ (i : Nat) (css' : Nat → List Value), i ≤ ks.length ∧ v5 = .int .i64 i ∧ v1 = .int .i64 (k + (cnts (ks.take i) : Nat)) ∧ Hid (SRow opSp wr S a css' F (mid k ks i) ∧ Only S w wr)) (fun _ v5 _ => ks.length - (intOf v5).toNat)
  case atStart => exact ⟨0, css, Nat.zero_le _, rfl, by simp [cnts], HR.out, Only.refl _ _⟩
  case round =>
    obtain ⟨i, css', hi, rfl, rfl, HJ⟩ := hrel
    by_cases hlt : i < ks.length
    · have hlm : i < (mid k ks i).length := by rw [mid_length k ks hi]; exact hlt
      obtain ⟨b, o, rfl, hSb, hFb, hc, hfz, cur, t, hbk⟩ := HJ.out.1.at hlm
      have hrep := HJ.out.1.rep i hlm
      rw [mid_get k ks hlt] at hrep
      obtain ⟨x0, x1, x2, hT, hcs, f0, f1, f2⟩ := opp_open hrep
      rw [hcs] at hc
      have ce0_0 : wr.cell? ⟨b, o + i * 3, none⟩ = some (.int .i64 x0) := hc 0 _ rfl
      have ce0_1 : wr.cell? ⟨b, o + i * 3 + 1, none⟩ = some (.int .i64 x1) := hc 1 _ rfl
      have ce0_2 : wr.cell? ⟨b, o + i * 3 + 2, none⟩ = some (.int .i64 x2) := hc 2 _ rfl
      have W1 : Hid (cnts (ks.take (i + 1)) = cnts (ks.take i) + cnt ks[i]) := cnts_take hlt
      have W2 : Hid (cnts (ks.take (i + 1)) ≤ cnts ks) := cnts_take_le ks (i + 1)
      have W3 : Hid (cnt ks[i] = 3) := by show _ = _; rw [hT]; simp [cnt]
      obtain ⟨k1, hk⟩ : ∃ k1 : Int, k1 = k + (cnts (ks.take i) : Nat) := ⟨_, rfl⟩
      have HK1 : Hid (k1 = k + (cnts (ks.take i) : Nat)) := hk
      rw [← hk]
      have hb1 : 1 ≤ k1 := by omega
      have hb2 : k1 + 3 ≤ 1152921504606846976 := by have := W1.out; have := W2.out; have := W3.out; have := HK.out; omega
      have BK : Hid (wr.heap[b]? = some (.cells cur t)) := hbk
      have NB : Hid ((∀ q, F i q → q ≠ b) ∧ ¬ F i b ∧ S b) := ⟨fun q hq e => hFb (e ▸ hq), hFb, hSb⟩
      have HT : Hid (ks[i] = (x0, x1, x2)) := hT
      have z0 : b < wr.heap.size := Nat.lt_of_lt_of_le (HS.out b hSb) HJ.out.2.size
      have FZ0 : Hid (∀ q, F i q → q < wr.heap.size) := fun q hq => Nat.lt_of_lt_of_le (HS.out q (HJ.out.1.sub i hlm q hq)) HJ.out.2.size
      have TT0 : Hid (Turn2 b (o + i * 3) (o + i * 3 + 3) (F i) wr wr) := Turn2.refl _ _ _ _ _
      clear hk hrep hcs hc hbk hFb hSb hT f0 f1 f2
      have hx : k1 + 1 + 1 + 1 = k + (cnts (ks.take (i + 1)) : Nat) := by have := W1.out; have := W3.out; have := HK1.out; omega
      have HX : Hid (k1 + 1 + 1 + 1 = k + (cnts (ks.take (i + 1)) : Nat)) := hx
      clear hx
      have NX : Hid (∃ css2, SRow opSp (((wr.setCell ⟨b, o + i * 3, none⟩ (.int .i64 k1)).setCell ⟨b, o + i * 3 + 1, none⟩ (.int .i64 (k1 + 1))).setCell ⟨b, o + i * 3 + 2, none⟩ (.int .i64 (k1 + 1 + 1))) S (some ⟨b, o, none⟩) css2 F (mid k ks (i + 1)) ∧ Only S w (((wr.setCell ⟨b, o + i * 3, none⟩ (.int .i64 k1)).setCell ⟨b, o + i * 3 + 1, none⟩ (.int .i64 (k1 + 1))).setCell ⟨b, o + i * 3 + 2, none⟩ (.int .i64 (k1 + 1 + 1)))) := by
        have CD : CellsAt (((wr.setCell ⟨b, o + i * 3, none⟩ (.int .i64 k1)).setCell ⟨b, o + i * 3 + 1, none⟩ (.int .i64 (k1 + 1))).setCell ⟨b, o + i * 3 + 2, none⟩ (.int .i64 (k1 + 1 + 1))) b (o + i * 3) [.int .i64 k1, .int .i64 (k1 + 1), .int .i64 (k1 + 1 + 1)] := by
          intro q v hq
          match q, hq with
          | 0, hq => simp at hq; subst hq; exact ((cell_set_ne (by omega)).trans ((cell_set_ne (by omega)).trans (cell_set_eq ce0_0)))
          | 1, hq => simp at hq; subst hq; exact ((cell_set_ne (by omega)).trans (cell_set_eq ((cell_set_ne (by omega)).trans ce0_1)))
          | 2, hq => simp at hq; subst hq; exact (cell_set_eq ((cell_set_ne (by omega)).trans ((cell_set_ne (by omega)).trans ce0_2)))
          | _ + 3, hq => simp at hq
        have hsh : opSp.rep (((wr.setCell ⟨b, o + i * 3, none⟩ (.int .i64 k1)).setCell ⟨b, o + i * 3 + 1, none⟩ (.int .i64 (k1 + 1))).setCell ⟨b, o + i * 3 + 2, none⟩ (.int .i64 (k1 + 1 + 1))) (F i) [.int .i64 k1, .int .i64 (k1 + 1), .int .i64 (k1 + 1 + 1)] (mk k1 ((x0, x1, x2))) := by rw [mk_eq]; exact opp_shutv (by omega) (by omega) (by omega)
        rw [← HT.out] at hsh
        have hn := HJ.out.1.turn2 (fun q hq => Nat.lt_of_lt_of_le (HS.out q hq) HJ.out.2.size) hlm rfl ((((Turn2.refl b (o + i * 3) (o + i * 3 + 3) (F i) wr).set (o + i * 3) _ (by omega) (by omega)).set (o + i * 3 + 1) _ (by omega) (by omega)).set (o + i * 3 + 2) _ (by omega) (by omega)) CD hsh
        rw [HK1.out, mid_set k ks hlt] at hn
        rw [HK1.out]
        exact ⟨_, hn.1, HJ.out.2.trans hn.2⟩
      go_wp2
      go_round
      case rel => obtain ⟨css2, n1, n2⟩ := NX.out; exact ⟨i + 1, css2, by omega, by go_num, by have := HX.out; simp only [Value.int.injEq, true_and]; omega, n1, n2⟩
      case measure => simp [intOf]; omega
    · obtain rfl : i = ks.length := by omega
      have hq := HJ.out
      rw [mid_full] at hq
      go_wp2
      go_ret
      refine ⟨by rw [List.take_length]; rfl, ?_, hq.2⟩
      have hl := mks_length k ks
      exact ⟨a, cap, css', F, by rw [hl], by rw [hl]; exact HC.out.1, HC.out.2.1, HC.out.2.2, hq.1⟩

theorem markS_any (ks : List OpD) : MarkSays ks := mark_of ks


end Go.Proofs.YtjofmoebijdccaaGreat.op

namespace Go.Proofs.YtjofmoebijdccaaGreat.fun
open Go.RowKit Go.Proofs.YtjofmoebijdccaaGreat.rose Go.Proofs.YtjofmoebijdccaaGreat
set_option linter.unusedVariables false

/-- How many marks it takes as an element. -/
def cnt : FunD → Nat
  | (x0, x1) => 1 + (op.cnts x1)
def cnts : List FunD → Nat
  | [] => 0
  | k :: ks => cnt k + cnts ks
def mk (k : Int) : FunD → FunD
  | (x0, x1) => (k, op.mks (k + 1) x1)
def mks (k : Int) : List FunD → List FunD
  | [] => []
  | t :: ts => mk k t :: mks (k + (cnt t : Nat)) ts

theorem mks_length (k : Int) (ks : List FunD) : (mks k ks).length = ks.length := by
  induction ks generalizing k with
  | nil => simp [mks]
  | cons t ts ih => simp [mks, ih]
theorem cnts_take {ks : List FunD} {i : Nat} (h : i < ks.length) : cnts (ks.take (i + 1)) = cnts (ks.take i) + cnt ks[i] := by
  induction ks generalizing i with
  | nil => simp at h
  | cons k ks ih =>
    cases i with
    | zero => simp [cnts]
    | succ i => simp [cnts, ih (by simpa using h)]; omega
theorem cnts_take_le (ks : List FunD) (i : Nat) : cnts (ks.take i) ≤ cnts ks := by
  induction ks generalizing i with
  | nil => simp [cnts]
  | cons k ks ih =>
    cases i with
    | zero => simp [cnts]
    | succ i => simp [cnts]; exact ih i
theorem mks_get {k : Int} {ks : List FunD} {i : Nat} (h : i < ks.length) (h' : i < (mks k ks).length) : (mks k ks)[i] = mk (k + (cnts (ks.take i) : Nat)) ks[i] := by
  induction ks generalizing k i with
  | nil => simp at h
  | cons t ts ih =>
    cases i with
    | zero => simp [mks, cnts]
    | succ i =>
      simp only [mks, List.getElem_cons_succ, List.take_succ_cons, cnts]
      rw [ih (by simpa using h)]
      congr 1
      omega
theorem cnt_le (T : FunD) : cnt T ≤ 3 + 3 * wt T := by
  obtain ⟨x0, x1⟩ := T
  have := op.cnts_le x1
  simp only [cnt, wt]
  omega
theorem cnts_le (ks : List FunD) : cnts ks ≤ 3 * (ks.length + wts ks) := by
  induction ks with
  | nil => simp [cnts]
  | cons a l ih =>
    have := cnt_le a
    simp only [cnts, wts, List.length_cons]
    omega

/-- The first i are marked. -/
def mid (k : Int) (ks : List FunD) (i : Nat) : List FunD := (mks k ks).take i ++ ks.drop i
theorem mid_length (k : Int) (ks : List FunD) {i : Nat} (h : i ≤ ks.length) : (mid k ks i).length = ks.length := by
  simp [mid, mks_length]; omega
theorem mid_zero (k : Int) (ks : List FunD) : mid k ks 0 = ks := by simp [mid]
theorem mid_full (k : Int) (ks : List FunD) : mid k ks ks.length = mks k ks := by
  unfold mid; rw [List.take_of_length_le (by rw [mks_length]; exact Nat.le_refl _)]; simp
theorem mid_get (k : Int) (ks : List FunD) {i : Nat} (h : i < ks.length) (h' : i < (mid k ks i).length) : (mid k ks i)[i] = ks[i] := by
  have e : (mid k ks i)[i]? = ks[i]? := by
    unfold mid
    rw [List.getElem?_append_right (by simp; omega)]
    simp [mks_length, Nat.min_eq_left (Nat.le_of_lt h)]
  rw [List.getElem?_eq_getElem h, List.getElem?_eq_getElem h'] at e
  exact Option.some.inj e
theorem mid_set (k : Int) (ks : List FunD) {i : Nat} (h : i < ks.length) : (mid k ks i).set i (mk (k + (cnts (ks.take i) : Nat)) ks[i]) = mid k ks (i + 1) := by
  unfold mid
  have hl : ((mks k ks).take i).length = i := by simp [mks_length]; omega
  rw [List.set_append, if_neg (by omega), hl, Nat.sub_self, List.drop_eq_getElem_cons h, List.set_cons_zero]
  rw [List.take_succ_eq_append_getElem (show i < (mks k ks).length by rw [mks_length]; exact h), List.append_assoc, mks_get h]
  rfl

def MarkSays (ks : List FunD) : Prop := ∀ (v : Value) (w : World) (k : Int) (S : Nat → Prop), 1 ≤ k → k + (cnts ks : Nat) ≤ 1152921504606846976 → (∀ b, S b → b < w.heap.size) → funSp.sslice.rep w S [v] ks →
  Calls Tryz.prog 37 #[v, .int .i64 k] w fun e w' => e = .returned (.int .i64 (k + (cnts ks : Nat))) ∧ funSp.sslice.rep w' S [v] (mks k ks) ∧ Only S w w'

theorem mk_eq (k : Int) (x0 : Int) (x1 : List op.OpD) : mk k ((x0, x1)) = (k, op.mks (k + 1) x1) := by simp [mk]

set_option maxRecDepth 100000 in
set_option maxHeartbeats 4000000 in
theorem mark_of (ks : List FunD) : MarkSays ks := by
  intro v w k S hk1 hk2 hS h
  obtain ⟨a, cap, css, F, rfl, hcap, hmax, hnone, hrow⟩ := funps_open h
  have hmx : (ks.length : Int) ≤ 9223372036854775807 := by unfold maxLen at hmax; omega
  have HC : Hid (ks.length ≤ cap ∧ cap ≤ maxLen ∧ (a = none → cap = 0)) := ⟨hcap, hmax, hnone⟩
  have HS : Hid (∀ b, S b → b < w.heap.size) := hS
  have HR : Hid (SRow funSp w S a css F (mid k ks 0)) := by show SRow _ _ _ _ _ _ _; rw [mid_zero]; exact hrow
  clear h hcap hmax hnone hS hrow
  have HK : Hid (k + (cnts ks : Nat) ≤ 1152921504606846976) := hk2
  clear hk2
  go_enter Tryz.func37, Tryz.ntmps37
  go_wp2
  go_loopw [1, 5] (fun v1 v5 wr => ∃ (i : Nat) (css' : Nat → List Value), i ≤ ks.length ∧ v5 = .int .i64 i ∧ v1 = .int .i64 (k + (cnts (ks.take i) : Nat)) ∧ Hid (SRow funSp wr S a css' F (mid k ks i) ∧ Only S w wr)) (fun _ v5 _ => ks.length - (intOf v5).toNat)
  case atStart => exact ⟨0, css, Nat.zero_le _, rfl, by simp [cnts], HR.out, Only.refl _ _⟩
  case round =>
    obtain ⟨i, css', hi, rfl, rfl, HJ⟩ := hrel
    by_cases hlt : i < ks.length
    · have hlm : i < (mid k ks i).length := by rw [mid_length k ks hi]; exact hlt
      obtain ⟨b, o, rfl, hSb, hFb, hc, hfz, cur, t, hbk⟩ := HJ.out.1.at hlm
      have hrep := HJ.out.1.rep i hlm
      rw [mid_get k ks hlt] at hrep
      obtain ⟨x0, x1, a1, c1, hT, hcs, f0, f1⟩ := funp_open hrep
      rw [hcs] at hc
      have ce0_0 : wr.cell? ⟨b, o + i * 2, none⟩ = some (.int .i64 x0) := hc 0 _ rfl
      have ce0_1 : wr.cell? ⟨b, o + i * 2 + 1, none⟩ = some (.slice a1 x1.length c1) := hc 1 _ rfl
      have W1 : Hid (cnts (ks.take (i + 1)) = cnts (ks.take i) + cnt ks[i]) := cnts_take hlt
      have W2 : Hid (cnts (ks.take (i + 1)) ≤ cnts ks) := cnts_take_le ks (i + 1)
      have W3 : Hid (cnt ks[i] = 1 + (op.cnts x1)) := by show _ = _; rw [hT]; simp [cnt]
      obtain ⟨k1, hk⟩ : ∃ k1 : Int, k1 = k + (cnts (ks.take i) : Nat) := ⟨_, rfl⟩
      have HK1 : Hid (k1 = k + (cnts (ks.take i) : Nat)) := hk
      rw [← hk]
      have hb1 : 1 ≤ k1 := by omega
      have hb2 : k1 + 1 + (op.cnts x1 : Nat) ≤ 1152921504606846976 := by have := W1.out; have := W2.out; have := W3.out; have := HK.out; omega
      have BK : Hid (wr.heap[b]? = some (.cells cur t)) := hbk
      have NB : Hid ((∀ q, F i q → q ≠ b) ∧ ¬ F i b ∧ S b) := ⟨fun q hq e => hFb (e ▸ hq), hFb, hSb⟩
      have HT : Hid (ks[i] = (x0, x1)) := hT
      have z0 : b < wr.heap.size := Nat.lt_of_lt_of_le (HS.out b hSb) HJ.out.2.size
      have FZ0 : Hid (∀ q, F i q → q < wr.heap.size) := fun q hq => Nat.lt_of_lt_of_le (HS.out q (HJ.out.1.sub i hlm q hq)) HJ.out.2.size
      have TT0 : Hid (Turn2 b (o + i * 2) (o + i * 2 + 2) (F i) wr wr) := Turn2.refl _ _ _ _ _
      have R0_1 : Hid (op.opSp.sslice.rep wr (F i) [.slice a1 x1.length c1] x1) := f1
      clear hk hrep hcs hc hbk hFb hSb hT f0 f1
      have dd : (wr.setCell ⟨b, o + i * 2, none⟩ (.int .i64 k1)).cell? ⟨b, o + i * 2 + 1, none⟩ = some (.slice a1 x1.length c1) := ((cell_set_ne (by omega)).trans ce0_1)
      have hcall := op.markS_any x1 (.slice a1 x1.length c1) (wr.setCell ⟨b, o + i * 2, none⟩ (.int .i64 k1)) (k1 + 1) (F i) (by omega) (by omega) (fun q hq => by first | exact FZ0.out q hq | (simp only [size_set]; exact FZ0.out q hq)) (op.opSp.sslice.on R0_1.out fun q hq => by repeat rw [block_set (NB.out.1 q hq)])
      go_wp2_with fail
      refine hcall.mono ?_
      clear hcall dd
      rintro e w1 ⟨rfl, hr, ho⟩
      have hzc : b < (wr.setCell ⟨b, o + i * 2, none⟩ (.int .i64 k1)).heap.size := by first | exact z0 | (simp only [size_set]; exact z0)
      have SG : Turn2 b (o + i * 2) (o + i * 2 + 2) (F i) wr w1 := ((Turn2.refl b (o + i * 2) (o + i * 2 + 2) (F i) wr).set (o + i * 2) _ (by omega) (by omega)).calls ho hzc (fun _ h => h) (fun h => NB.out.2.1 (h))
      have ce1_0 : w1.cell? ⟨b, o + i * 2, none⟩ = some (.int .i64 k1) := (cell_only ho hzc (fun h => NB.out.2.1 (h))).trans (cell_set_eq ce0_0)
      have ce1_1 : w1.cell? ⟨b, o + i * 2 + 1, none⟩ = some (.slice a1 x1.length c1) := (cell_only ho hzc (fun h => NB.out.2.1 (h))).trans ((cell_set_ne (by omega)).trans ce0_1)
      have z1 : b < w1.heap.size := Nat.lt_of_lt_of_le z0 SG.only.size
      have TT1 : Hid (Turn2 b (o + i * 2) (o + i * 2 + 2) (F i) wr w1) := TT0.out.trans (SG.mono (fun q h => h))
      have FZ1 : Hid (∀ q, F i q → q < w1.heap.size) := fun q hq => Nat.lt_of_lt_of_le (FZ0.out q hq) SG.only.size
      have R1_1 : Hid (op.opSp.sslice.rep w1 (F i) [.slice a1 x1.length c1] (op.mks (k1 + 1) x1)) := hr
      have fz1 := TT1.out.fz BK.out
      clear SG hzc ho hr ce0_0 ce0_1 FZ0 TT0 z0 hfz R0_1
      have hx : k1 + 1 + (op.cnts x1 : Nat) = k + (cnts (ks.take (i + 1)) : Nat) := by have := W1.out; have := W3.out; have := HK1.out; omega
      rw [hx]
      clear hx
      have NX : Hid (∃ css2, SRow funSp w1 S (some ⟨b, o, none⟩) css2 F (mid k ks (i + 1)) ∧ Only S w w1) := by
        have CD : CellsAt w1 b (o + i * 2) [.int .i64 k1, .slice a1 x1.length c1] := by
          intro q v hq
          match q, hq with
          | 0, hq => simp at hq; subst hq; exact ce1_0
          | 1, hq => simp at hq; subst hq; exact ce1_1
          | _ + 2, hq => simp at hq
        have hsh : funSp.rep w1 (F i) [.int .i64 k1, .slice a1 x1.length c1] (mk k1 ((x0, x1))) := by rw [mk_eq]; exact funp_shutv (by omega) R1_1.out
        rw [← HT.out] at hsh
        have hn := HJ.out.1.turn2 (fun q hq => Nat.lt_of_lt_of_le (HS.out q hq) HJ.out.2.size) hlm rfl TT1.out CD hsh
        rw [HK1.out, mid_set k ks hlt] at hn
        exact ⟨_, hn.1, HJ.out.2.trans hn.2⟩
      clear fz1 ce1_0 ce1_1 R1_1
      go_wp2
      go_round
      case rel => obtain ⟨css2, n1, n2⟩ := NX.out; exact ⟨i + 1, css2, by omega, by go_num, rfl, n1, n2⟩
      case measure => simp [intOf]; omega
    · obtain rfl : i = ks.length := by omega
      have hq := HJ.out
      rw [mid_full] at hq
      go_wp2
      go_ret
      refine ⟨by rw [List.take_length]; rfl, ?_, hq.2⟩
      have hl := mks_length k ks
      exact ⟨a, cap, css', F, by rw [hl], by rw [hl]; exact HC.out.1, HC.out.2.1, HC.out.2.2, hq.1⟩

theorem markS_any (ks : List FunD) : MarkSays ks := mark_of ks


end Go.Proofs.YtjofmoebijdccaaGreat.fun

namespace Go.Proofs.YtjofmoebijdccaaGreat.ints
open Go.RowKit Go.Proofs.YtjofmoebijdccaaGreat.rose Go.Proofs.YtjofmoebijdccaaGreat
set_option linter.unusedVariables false

/-- Marks: the numbers from k on. -/
def mks (k : Int) : List Int → List Int
  | [] => []
  | _ :: xs => k :: mks (k + 1) xs
theorem mks_length (k : Int) (ks : List Int) : (mks k ks).length = ks.length := by
  induction ks generalizing k with
  | nil => rfl
  | cons x xs ih => simp [mks, ih]
theorem mks_get {k : Int} {ks : List Int} {i : Nat} (h : i < (mks k ks).length) : (mks k ks)[i] = k + (i : Nat) := by
  induction ks generalizing k i with
  | nil => simp [mks] at h
  | cons x xs ih =>
    cases i with
    | zero => simp [mks]
    | succ i =>
      simp only [mks, List.getElem_cons_succ]
      rw [ih]
      omega

def mid (k : Int) (ks : List Int) (i : Nat) : List Int := (mks k ks).take i ++ ks.drop i
theorem mid_length (k : Int) (ks : List Int) {i : Nat} (h : i ≤ ks.length) : (mid k ks i).length = ks.length := by
  simp [mid, mks_length]; omega
theorem mid_zero (k : Int) (ks : List Int) : mid k ks 0 = ks := by simp [mid]
theorem mid_full (k : Int) (ks : List Int) : mid k ks ks.length = mks k ks := by
  unfold mid; rw [List.take_of_length_le (by rw [mks_length]; exact Nat.le_refl _)]; simp
theorem mid_set (k : Int) (ks : List Int) {i : Nat} (h : i < ks.length) : (mid k ks i).set i (k + (i : Nat)) = mid k ks (i + 1) := by
  unfold mid
  have hl : ((mks k ks).take i).length = i := by simp [mks_length]; omega
  rw [List.set_append, if_neg (by omega), hl, Nat.sub_self, List.drop_eq_getElem_cons h, List.set_cons_zero]
  rw [List.take_succ_eq_append_getElem (show i < (mks k ks).length by rw [mks_length]; exact h), List.append_assoc, mks_get]
  rfl

set_option maxHeartbeats 1000000 in
theorem mark_any (ks : List Int) (v : Value) (w : World) (k : Int) (S : Nat → Prop) (hk1 : 1 ≤ k) (hk2 : k + (ks.length : Nat) ≤ 1152921504606846976) (hS : ∀ b, S b → b < w.heap.size) (h : intsSp.rep w S [v] ks) :
    Calls Tryz.prog 39 #[v, .int .i64 k] w fun e w' => e = .returned (.int .i64 (k + (ks.length : Nat))) ∧ intsSp.rep w' S [v] (mks k ks) ∧ Only S w w' := by
  obtain ⟨a, cap, css, F, e, hcap, hmax, hnone, hrow⟩ := h
  obtain rfl : v = .slice a ks.length cap := by simpa using e
  have hmx : (ks.length : Int) ≤ 9223372036854775807 := by unfold maxLen at hmax; omega
  have HC : Hid (ks.length ≤ cap ∧ cap ≤ maxLen ∧ (a = none → cap = 0)) := ⟨hcap, hmax, hnone⟩
  have HS : Hid (∀ b, S b → b < w.heap.size) := hS
  have HR : Hid (SRow Sh.int w S a css F (mid k ks 0)) := by show SRow _ _ _ _ _ _ _; rw [mid_zero]; exact hrow
  clear e hcap hmax hnone hS hrow
  go_enter Tryz.func39, Tryz.ntmps39
  go_wp2
  go_loopw [1, 5] (fun v1 v5 wr => ∃ (i : Nat) (css' : Nat → List Value), i ≤ ks.length ∧ v5 = .int .i64 i ∧ v1 = .int .i64 (k + (i : Nat)) ∧ Hid (SRow Sh.int wr S a css' F (mid k ks i) ∧ Only S w wr)) (fun _ v5 _ => ks.length - (intOf v5).toNat)
  case atStart => exact ⟨0, css, Nat.zero_le _, rfl, by simp, HR.out, Only.refl _ _⟩
  case round =>
    obtain ⟨i, css', hi, rfl, rfl, HJ⟩ := hrel
    by_cases hlt : i < ks.length
    · have hlm : i < (mid k ks i).length := by rw [mid_length k ks hi]; exact hlt
      obtain ⟨b, o, rfl, hSb, hFb, hc, hfz, cur, t, hbk⟩ := HJ.out.1.at hlm
      have hrep := HJ.out.1.rep i hlm
      have hcs := hrep.1
      rw [hcs] at hc
      have e0 : wr.cell? ⟨b, o + i, none⟩ = some (.int .i64 (mid k ks i)[i]) := by have := hc 0 _ rfl; simpa [Sh.int] using this
      have NX : Hid (∃ css2, SRow Sh.int (wr.setCell ⟨b, o + i, none⟩ (.int .i64 (k + (i : Nat)))) S (some ⟨b, o, none⟩) css2 F (mid k ks (i + 1)) ∧ Only S w (wr.setCell ⟨b, o + i, none⟩ (.int .i64 (k + (i : Nat))))) := by
        have hT : Turned b (o + i * Sh.int.k) (o + i * Sh.int.k + Sh.int.k) wr (wr.setCell ⟨b, o + i, none⟩ (.int .i64 (k + (i : Nat)))) := Turned.set _ _ _ (by simp [Sh.int]) (by simp [Sh.int])
        have hn := HJ.out.1.turn (fun q hq => Nat.lt_of_lt_of_le (HS.out q hq) HJ.out.2.size) hlm rfl hT (Only.refl _ _) (cs := [.int .i64 (k + (i : Nat))]) (x := k + (i : Nat)) (by
          intro q v hq
          match q, hq with
          | 0, hq =>
            simp at hq; subst hq
            have := cell_set_eq (v := .int .i64 (k + (i : Nat))) e0
            simpa [Sh.int] using this
          | _ + 1, hq => simp at hq) ⟨rfl, by omega, by omega⟩
        rw [mid_set k ks hlt] at hn
        exact ⟨_, hn.1, HJ.out.2.trans hn.2⟩
      clear hrep hcs hc hbk hFb hSb
      generalize (mid k ks i)[i] = x0 at e0
      go_wp2
      go_round
      case rel => obtain ⟨css2, n1, n2⟩ := NX.out; exact ⟨i + 1, css2, by omega, by go_num, by go_num, n1, n2⟩
      case measure => simp [intOf]; omega
    · obtain rfl : i = ks.length := by omega
      have hq := HJ.out
      rw [mid_full] at hq
      go_wp2
      go_ret
      refine ⟨rfl, ?_, hq.2⟩
      have hl := mks_length k ks
      refine ⟨a, cap, css', F, by rw [hl], by rw [hl]; exact HC.out.1, HC.out.2.1, HC.out.2.2, hq.1⟩

end Go.Proofs.YtjofmoebijdccaaGreat.ints

namespace Go.Proofs.YtjofmoebijdccaaGreat.heap
open Go.RowKit Go.Proofs.YtjofmoebijdccaaGreat.rose Go.Proofs.YtjofmoebijdccaaGreat
set_option linter.unusedVariables false

/-- How many marks the slices of one take. -/
def cntT : HeapD → Nat
  | (x0, x1, x2, x3) => x0.length

def mkT (k : Int) : HeapD → HeapD
  | (x0, x1, x2, x3) => (ints.mks k x0, x1, x2, x3)

set_option maxHeartbeats 2000000 in
theorem markT_any (T : HeapD) (cs : List Value) (w : World) (k : Int) (S : Nat → Prop) (hk1 : 1 ≤ k) (hk2 : k + (cntT T : Nat) ≤ 1152921504606846976) (hS : ∀ b, S b → b < w.heap.size) (h : heapSp.rep w S cs T) :
    Calls Tryz.prog 38 #[.agg cs.toArray, .int .i64 k] w fun e w' => e = .returned (.int .i64 (k + (cntT T : Nat))) ∧ Only S w w' ∧ heapSp.rep w' S cs (mkT k T) := by
  obtain ⟨x0, a0, c0, x1, x2, x3, rfl, rfl, f0, f1, f2, f3⟩ := heapp_open h
  have HSB := heapSp.one h
  clear h HSB
  have HS : Hid (∀ b, S b → b < w.heap.size) := hS
  clear hS
  have hct : cntT ((x0, x1, x2, x3)) = x0.length := rfl
  rw [hct] at hk2 ⊢
  clear hct
  have BA : Hid (Below w.heap.size w (w.alloc (.cells #[.slice a0 x0.length c0, .int .i64 x1, .int .i64 x2, .int .i64 x3] 40))) := (Below.refl _ _).alloc (Nat.le_refl _) _
  have R0_0 : Hid (Sh.int.sslice.rep w S [.slice a0 x0.length c0] x0) := f0
  have FR : Hid ((-9223372036854775808 ≤ x1 ∧ x1 ≤ 9223372036854775807) ∧ (-9223372036854775808 ≤ x2 ∧ x2 ≤ 9223372036854775807) ∧ (-9223372036854775808 ≤ x3 ∧ x3 ≤ 9223372036854775807)) := ⟨f1, f2, f3⟩
  clear f0 f1 f2 f3
  go_enter Tryz.func38, Tryz.ntmps38
  go_wp2_with fail
  refine (ints.mark_any x0 _ _ (k) S (by omega) (by omega) (fun b hb => Nat.lt_of_lt_of_le (HS.out b ((fun b h => h) b hb)) BA.out.size) (Sh.int.sslice.on R0_0.out fun b hb => BA.out.block b (HS.out b ((fun b h => h) b hb)))).mono ?_
  rintro e w1 ⟨rfl, hr, ho⟩
  have O1 : Hid (Only S (w.alloc (.cells #[.slice a0 x0.length c0, .int .i64 x1, .int .i64 x2, .int .i64 x3] 40)) w1) := ho.mono fun b _ hb => (fun b h => h) b hb
  have R1 : Hid (Sh.int.sslice.rep w1 S [.slice a0 x0.length c0] (ints.mks k x0)) := hr
  clear ho hr
  have hx : k + (x0.length : Nat) = k + ((x0.length : Nat) : Int) := by omega
  clear hx
  go_wp2
  go_ret
  exact ⟨rfl, (Only.ofBelow BA.out).trans O1.out, heapp_shutv R1.out FR.out.1 FR.out.2.1 FR.out.2.2⟩

end Go.Proofs.YtjofmoebijdccaaGreat.heap
