/-
  The law's marks in a Con: where it lies apart, each cell gets a number, or a text, of its own, and what is read back is what was written; nothing else is turned.
  The law's marks in a Data: where it lies apart, each cell gets a number, or a text, of its own, and what is read back is what was written; nothing else is turned.
  A Op that came in as an argument lies in memory as its cells.
  A Fun that came in as an argument lies in memory as its cells.
  A slice of ints that came in lies in memory as its cells.
  A Heap that came in as an argument lies in memory as its cells.
  A Call that came in as an argument lies in memory as its cells.
-/
import Derived.Deep.RegionWith
import Derived.ProofKit
import Derived.OpenShut
import Derived.Test.YtjofmoebijdccaaGreatChecked
import Derived.Test.YtjofmoebijdccaaGreatB1
import Derived.Test.YtjofmoebijdccaaGreatB2
import Derived.Test.YtjofmoebijdccaaGreatB3
import Derived.Test.YtjofmoebijdccaaGreatB4
import Derived.Test.YtjofmoebijdccaaGreatB5
import Derived.Test.YtjofmoebijdccaaGreatB6
import Derived.Test.YtjofmoebijdccaaGreatB7
namespace Go.Proofs.YtjofmoebijdccaaGreat.con
open Go.RowKit Go.Proofs.YtjofmoebijdccaaGreat.rose Go.Proofs.YtjofmoebijdccaaGreat
set_option linter.unusedVariables false

/-- How many marks it takes as an element. -/
def cnt : ConD → Nat
  | (x0, x1) => 1 + (ty.cnts x1)
def cnts : List ConD → Nat
  | [] => 0
  | k :: ks => cnt k + cnts ks
def mk (k : Int) : ConD → ConD
  | (x0, x1) => (mark.txt (k), ty.mks (k + 1) x1)
def mks (k : Int) : List ConD → List ConD
  | [] => []
  | t :: ts => mk k t :: mks (k + (cnt t : Nat)) ts

theorem mks_length (k : Int) (ks : List ConD) : (mks k ks).length = ks.length := by
  induction ks generalizing k with
  | nil => simp [mks]
  | cons t ts ih => simp [mks, ih]
theorem cnts_take {ks : List ConD} {i : Nat} (h : i < ks.length) : cnts (ks.take (i + 1)) = cnts (ks.take i) + cnt ks[i] := by
  induction ks generalizing i with
  | nil => simp at h
  | cons k ks ih =>
    cases i with
    | zero => simp [cnts]
    | succ i => simp [cnts, ih (by simpa using h)]; omega
theorem cnts_take_le (ks : List ConD) (i : Nat) : cnts (ks.take i) ≤ cnts ks := by
  induction ks generalizing i with
  | nil => simp [cnts]
  | cons k ks ih =>
    cases i with
    | zero => simp [cnts]
    | succ i => simp [cnts]; exact ih i
theorem mks_get {k : Int} {ks : List ConD} {i : Nat} (h : i < ks.length) (h' : i < (mks k ks).length) : (mks k ks)[i] = mk (k + (cnts (ks.take i) : Nat)) ks[i] := by
  induction ks generalizing k i with
  | nil => simp at h
  | cons t ts ih =>
    cases i with
    | zero => simp [mks, cnts]
    | succ i =>
      simp only [mks, List.getElem_cons_succ, List.take_succ_cons, cnts]
      rw [ih (by simpa using h)]
      congr 1
      omega
theorem cnt_le (T : ConD) : cnt T ≤ 3 + 3 * wt T := by
  obtain ⟨x0, x1⟩ := T
  have := ty.cnts_le x1
  simp only [cnt, wt]
  omega
theorem cnts_le (ks : List ConD) : cnts ks ≤ 3 * (ks.length + wts ks) := by
  induction ks with
  | nil => simp [cnts]
  | cons a l ih =>
    have := cnt_le a
    simp only [cnts, wts, List.length_cons]
    omega

/-- The first i are marked. -/
def mid (k : Int) (ks : List ConD) (i : Nat) : List ConD := (mks k ks).take i ++ ks.drop i
theorem mid_length (k : Int) (ks : List ConD) {i : Nat} (h : i ≤ ks.length) : (mid k ks i).length = ks.length := by
  simp [mid, mks_length]; omega
theorem mid_zero (k : Int) (ks : List ConD) : mid k ks 0 = ks := by simp [mid]
theorem mid_full (k : Int) (ks : List ConD) : mid k ks ks.length = mks k ks := by
  unfold mid; rw [List.take_of_length_le (by rw [mks_length]; exact Nat.le_refl _)]; simp
theorem mid_get (k : Int) (ks : List ConD) {i : Nat} (h : i < ks.length) (h' : i < (mid k ks i).length) : (mid k ks i)[i] = ks[i] := by
  have e : (mid k ks i)[i]? = ks[i]? := by
    unfold mid
    rw [List.getElem?_append_right (by simp; omega)]
    simp [mks_length, Nat.min_eq_left (Nat.le_of_lt h)]
  rw [List.getElem?_eq_getElem h, List.getElem?_eq_getElem h'] at e
  exact Option.some.inj e
theorem mid_set (k : Int) (ks : List ConD) {i : Nat} (h : i < ks.length) : (mid k ks i).set i (mk (k + (cnts (ks.take i) : Nat)) ks[i]) = mid k ks (i + 1) := by
  unfold mid
  have hl : ((mks k ks).take i).length = i := by simp [mks_length]; omega
  rw [List.set_append, if_neg (by omega), hl, Nat.sub_self, List.drop_eq_getElem_cons h, List.set_cons_zero]
  rw [List.take_succ_eq_append_getElem (show i < (mks k ks).length by rw [mks_length]; exact h), List.append_assoc, mks_get h]
  rfl

def MarkSays (ks : List ConD) : Prop := ∀ (v : Value) (w : World) (k : Int) (S : Nat → Prop), 1 ≤ k → k + (cnts ks : Nat) ≤ 1152921504606846976 → (∀ b, S b → b < w.heap.size) → conSp.sslice.rep w S [v] ks →
  Calls Tryz.prog 36 #[v, .int .i64 k] w fun e w' => e = .returned (.int .i64 (k + (cnts ks : Nat))) ∧ conSp.sslice.rep w' S [v] (mks k ks) ∧ Only S w w'

theorem mk_eq (k : Int) (x0 : ByteArray) (x1 : List ty.TyD) : mk k ((x0, x1)) = (mark.txt (k), ty.mks (k + 1) x1) := by simp [mk]

set_option maxRecDepth 100000 in
set_option maxHeartbeats 4000000 in
theorem mark_of (ks : List ConD) : MarkSays ks := by
  intro v w k S hk1 hk2 hS h
  obtain ⟨a, cap, css, F, rfl, hcap, hmax, hnone, hrow⟩ := conps_open h
  have hmx : (ks.length : Int) ≤ 9223372036854775807 := by unfold maxLen at hmax; omega
  have HC : Hid (ks.length ≤ cap ∧ cap ≤ maxLen ∧ (a = none → cap = 0)) := ⟨hcap, hmax, hnone⟩
  have HS : Hid (∀ b, S b → b < w.heap.size) := hS
  have HR : Hid (SRow conSp w S a css F (mid k ks 0)) := by show SRow _ _ _ _ _ _ _; rw [mid_zero]; exact hrow
  clear h hcap hmax hnone hS hrow
  have HK : Hid (k + (cnts ks : Nat) ≤ 1152921504606846976) := hk2
  clear hk2
  go_enter Tryz.func36, Tryz.ntmps36
  go_wp2
  go_loopw [1, 5] (fun v1 v5 wr => ∃ (i : Nat) (css' : Nat → List Value), i ≤ ks.length ∧ v5 = .int .i64 i ∧ v1 = .int .i64 (k + (cnts (ks.take i) : Nat)) ∧ Hid (SRow conSp wr S a css' F (mid k ks i) ∧ Only S w wr)) (fun _ v5 _ => ks.length - (intOf v5).toNat)
  case atStart => exact ⟨0, css, Nat.zero_le _, rfl, by simp [cnts], HR.out, Only.refl _ _⟩
  case round =>
    obtain ⟨i, css', hi, rfl, rfl, HJ⟩ := hrel
    by_cases hlt : i < ks.length
    · have hlm : i < (mid k ks i).length := by rw [mid_length k ks hi]; exact hlt
      obtain ⟨b, o, rfl, hSb, hFb, hc, hfz, cur, t, hbk⟩ := HJ.out.1.at hlm
      have hrep := HJ.out.1.rep i hlm
      rw [mid_get k ks hlt] at hrep
      obtain ⟨x0, x1, a1, c1, hT, hcs, f0, f1⟩ := conp_open hrep
      rw [hcs] at hc
      have ce0_0 : wr.cell? ⟨b, o + i * 2, none⟩ = some (.string x0) := hc 0 _ rfl
      have ce0_1 : wr.cell? ⟨b, o + i * 2 + 1, none⟩ = some (.slice a1 x1.length c1) := hc 1 _ rfl
      have W1 : Hid (cnts (ks.take (i + 1)) = cnts (ks.take i) + cnt ks[i]) := cnts_take hlt
      have W2 : Hid (cnts (ks.take (i + 1)) ≤ cnts ks) := cnts_take_le ks (i + 1)
      have W3 : Hid (cnt ks[i] = 1 + (ty.cnts x1)) := by show _ = _; rw [hT]; simp [cnt]
      obtain ⟨k1, hk⟩ : ∃ k1 : Int, k1 = k + (cnts (ks.take i) : Nat) := ⟨_, rfl⟩
      have HK1 : Hid (k1 = k + (cnts (ks.take i) : Nat)) := hk
      rw [← hk]
      have hb1 : 1 ≤ k1 := by omega
      have hb2 : k1 + 1 + (ty.cnts x1 : Nat) ≤ 1152921504606846976 := by have := W1.out; have := W2.out; have := W3.out; have := HK.out; omega
      have BK : Hid (wr.heap[b]? = some (.cells cur t)) := hbk
      have NB : Hid ((∀ q, F i q → q ≠ b) ∧ ¬ F i b ∧ S b) := ⟨fun q hq e => hFb (e ▸ hq), hFb, hSb⟩
      have HT : Hid (ks[i] = (x0, x1)) := hT
      have z0 : b < wr.heap.size := Nat.lt_of_lt_of_le (HS.out b hSb) HJ.out.2.size
      have FZ0 : Hid (∀ q, F i q → q < wr.heap.size) := fun q hq => Nat.lt_of_lt_of_le (HS.out q (HJ.out.1.sub i hlm q hq)) HJ.out.2.size
      have TT0 : Hid (Turn2 b (o + i * 2) (o + i * 2 + 2) (F i) wr wr) := Turn2.refl _ _ _ _ _
      have R0_1 : Hid (ty.tySp.sslice.rep wr (F i) [.slice a1 x1.length c1] x1) := f1
      clear hk hrep hcs hc hbk hFb hSb hT f0 f1
      go_wp2_with fail
      refine (mark.text_any _ (by omega) (by omega) _).mono ?_
      rintro e w1 ⟨rfl, hb⟩
      have hzc : b < (wr).heap.size := by first | exact z0 | (simp only [size_set]; exact z0)
      have SG : Turn2 b (o + i * 2) (o + i * 2 + 2) (fun _ => False) wr w1 := (Turn2.refl b (o + i * 2) (o + i * 2 + 2) (fun _ => False) wr).below hb hzc
      have ce1_0 : w1.cell? ⟨b, o + i * 2, none⟩ = some (.string x0) := (hb.cell (p := ⟨b, o + i * 2, none⟩) hzc).trans ce0_0
      have ce1_1 : w1.cell? ⟨b, o + i * 2 + 1, none⟩ = some (.slice a1 x1.length c1) := (hb.cell (p := ⟨b, o + i * 2 + 1, none⟩) hzc).trans ce0_1
      have z1 : b < w1.heap.size := Nat.lt_of_lt_of_le z0 SG.only.size
      have TT1 : Hid (Turn2 b (o + i * 2) (o + i * 2 + 2) (F i) wr w1) := TT0.out.trans (SG.mono (fun _ h => h.elim))
      have FZ1 : Hid (∀ q, F i q → q < w1.heap.size) := fun q hq => Nat.lt_of_lt_of_le (FZ0.out q hq) SG.only.size
      have R1_1 : Hid (ty.tySp.sslice.rep w1 (F i) [.slice a1 x1.length c1] (x1)) := ty.tySp.sslice.on R0_1.out fun q hq => SG.only.block q (FZ0.out q hq) (fun e => e.elim (fun e => NB.out.1 q hq e) (fun h => h.elim))
      have fz1 := TT1.out.fz BK.out
      clear SG hzc hb ce0_0 ce0_1 FZ0 TT0 z0 hfz R0_1
      have dd : (w1.setCell ⟨b, o + i * 2, none⟩ (.string (mark.txt (k1)))).cell? ⟨b, o + i * 2 + 1, none⟩ = some (.slice a1 x1.length c1) := ((cell_set_ne (by omega)).trans ce1_1)
      have hcall := ty.markS_any x1 (.slice a1 x1.length c1) (w1.setCell ⟨b, o + i * 2, none⟩ (.string (mark.txt (k1)))) (k1 + 1) (F i) (by omega) (by omega) (fun q hq => by first | exact FZ1.out q hq | (simp only [size_set]; exact FZ1.out q hq)) (ty.tySp.sslice.on R1_1.out fun q hq => by repeat rw [block_set (NB.out.1 q hq)])
      go_wp2_with fail
      refine hcall.mono ?_
      clear hcall dd
      rintro e w2 ⟨rfl, hr, ho⟩
      have hzc : b < (w1.setCell ⟨b, o + i * 2, none⟩ (.string (mark.txt (k1)))).heap.size := by first | exact z1 | (simp only [size_set]; exact z1)
      have SG : Turn2 b (o + i * 2) (o + i * 2 + 2) (F i) w1 w2 := ((Turn2.refl b (o + i * 2) (o + i * 2 + 2) (F i) w1).set (o + i * 2) _ (by omega) (by omega)).calls ho hzc (fun _ h => h) (fun h => NB.out.2.1 (h))
      have ce2_0 : w2.cell? ⟨b, o + i * 2, none⟩ = some (.string (mark.txt (k1))) := (cell_only ho hzc (fun h => NB.out.2.1 (h))).trans (cell_set_eq ce1_0)
      have ce2_1 : w2.cell? ⟨b, o + i * 2 + 1, none⟩ = some (.slice a1 x1.length c1) := (cell_only ho hzc (fun h => NB.out.2.1 (h))).trans ((cell_set_ne (by omega)).trans ce1_1)
      have z2 : b < w2.heap.size := Nat.lt_of_lt_of_le z1 SG.only.size
      have TT2 : Hid (Turn2 b (o + i * 2) (o + i * 2 + 2) (F i) wr w2) := TT1.out.trans (SG.mono (fun q h => h))
      have FZ2 : Hid (∀ q, F i q → q < w2.heap.size) := fun q hq => Nat.lt_of_lt_of_le (FZ1.out q hq) SG.only.size
      have R2_1 : Hid (ty.tySp.sslice.rep w2 (F i) [.slice a1 x1.length c1] (ty.mks (k1 + 1) x1)) := hr
      have fz2 := TT2.out.fz BK.out
      clear SG hzc ho hr ce1_0 ce1_1 FZ1 TT1 z1 fz1 R1_1
      have hx : k1 + 1 + (ty.cnts x1 : Nat) = k + (cnts (ks.take (i + 1)) : Nat) := by have := W1.out; have := W3.out; have := HK1.out; omega
      rw [hx]
      clear hx
      have NX : Hid (∃ css2, SRow conSp w2 S (some ⟨b, o, none⟩) css2 F (mid k ks (i + 1)) ∧ Only S w w2) := by
        have CD : CellsAt w2 b (o + i * 2) [.string (mark.txt (k1)), .slice a1 x1.length c1] := by
          intro q v hq
          match q, hq with
          | 0, hq => simp at hq; subst hq; exact ce2_0
          | 1, hq => simp at hq; subst hq; exact ce2_1
          | _ + 2, hq => simp at hq
        have hsh : conSp.rep w2 (F i) [.string (mark.txt (k1)), .slice a1 x1.length c1] (mk k1 ((x0, x1))) := by rw [mk_eq]; exact conp_shutv (mark.txt_size (by omega)) R2_1.out
        rw [← HT.out] at hsh
        have hn := HJ.out.1.turn2 (fun q hq => Nat.lt_of_lt_of_le (HS.out q hq) HJ.out.2.size) hlm rfl TT2.out CD hsh
        rw [HK1.out, mid_set k ks hlt] at hn
        exact ⟨_, hn.1, HJ.out.2.trans hn.2⟩
      clear fz2 ce2_0 ce2_1 R2_1
      go_wp2
      go_round
      case rel => obtain ⟨css2, n1, n2⟩ := NX.out; exact ⟨i + 1, css2, by omega, by go_num, rfl, n1, n2⟩
      case measure => simp [intOf]; omega
    · obtain rfl : i = ks.length := by omega
      have hq := HJ.out
      rw [mid_full] at hq
      go_wp2
      go_ret
      refine ⟨by rw [List.take_length]; rfl, ?_, hq.2⟩
      have hl := mks_length k ks
      exact ⟨a, cap, css', F, by rw [hl], by rw [hl]; exact HC.out.1, HC.out.2.1, HC.out.2.2, hq.1⟩

theorem markS_any (ks : List ConD) : MarkSays ks := mark_of ks


end Go.Proofs.YtjofmoebijdccaaGreat.con

namespace Go.Proofs.YtjofmoebijdccaaGreat.data
open Go.RowKit Go.Proofs.YtjofmoebijdccaaGreat.rose Go.Proofs.YtjofmoebijdccaaGreat
set_option linter.unusedVariables false

/-- How many marks it takes as an element. -/
def cnt : DataD → Nat
  | (x0, x1, x2) => 2 + (con.cnts x2)
def cnts : List DataD → Nat
  | [] => 0
  | k :: ks => cnt k + cnts ks
def mk (k : Int) : DataD → DataD
  | (x0, x1, x2) => (mark.txt (k), k + 1, con.mks (k + 1 + 1) x2)
def mks (k : Int) : List DataD → List DataD
  | [] => []
  | t :: ts => mk k t :: mks (k + (cnt t : Nat)) ts

theorem mks_length (k : Int) (ks : List DataD) : (mks k ks).length = ks.length := by
  induction ks generalizing k with
  | nil => simp [mks]
  | cons t ts ih => simp [mks, ih]
theorem cnts_take {ks : List DataD} {i : Nat} (h : i < ks.length) : cnts (ks.take (i + 1)) = cnts (ks.take i) + cnt ks[i] := by
  induction ks generalizing i with
  | nil => simp at h
  | cons k ks ih =>
    cases i with
    | zero => simp [cnts]
    | succ i => simp [cnts, ih (by simpa using h)]; omega
theorem cnts_take_le (ks : List DataD) (i : Nat) : cnts (ks.take i) ≤ cnts ks := by
  induction ks generalizing i with
  | nil => simp [cnts]
  | cons k ks ih =>
    cases i with
    | zero => simp [cnts]
    | succ i => simp [cnts]; exact ih i
theorem mks_get {k : Int} {ks : List DataD} {i : Nat} (h : i < ks.length) (h' : i < (mks k ks).length) : (mks k ks)[i] = mk (k + (cnts (ks.take i) : Nat)) ks[i] := by
  induction ks generalizing k i with
  | nil => simp at h
  | cons t ts ih =>
    cases i with
    | zero => simp [mks, cnts]
    | succ i =>
      simp only [mks, List.getElem_cons_succ, List.take_succ_cons, cnts]
      rw [ih (by simpa using h)]
      congr 1
      omega
theorem cnt_le (T : DataD) : cnt T ≤ 3 + 3 * wt T := by
  obtain ⟨x0, x1, x2⟩ := T
  have := con.cnts_le x2
  simp only [cnt, wt]
  omega
theorem cnts_le (ks : List DataD) : cnts ks ≤ 3 * (ks.length + wts ks) := by
  induction ks with
  | nil => simp [cnts]
  | cons a l ih =>
    have := cnt_le a
    simp only [cnts, wts, List.length_cons]
    omega

/-- The first i are marked. -/
def mid (k : Int) (ks : List DataD) (i : Nat) : List DataD := (mks k ks).take i ++ ks.drop i
theorem mid_length (k : Int) (ks : List DataD) {i : Nat} (h : i ≤ ks.length) : (mid k ks i).length = ks.length := by
  simp [mid, mks_length]; omega
theorem mid_zero (k : Int) (ks : List DataD) : mid k ks 0 = ks := by simp [mid]
theorem mid_full (k : Int) (ks : List DataD) : mid k ks ks.length = mks k ks := by
  unfold mid; rw [List.take_of_length_le (by rw [mks_length]; exact Nat.le_refl _)]; simp
theorem mid_get (k : Int) (ks : List DataD) {i : Nat} (h : i < ks.length) (h' : i < (mid k ks i).length) : (mid k ks i)[i] = ks[i] := by
  have e : (mid k ks i)[i]? = ks[i]? := by
    unfold mid
    rw [List.getElem?_append_right (by simp; omega)]
    simp [mks_length, Nat.min_eq_left (Nat.le_of_lt h)]
  rw [List.getElem?_eq_getElem h, List.getElem?_eq_getElem h'] at e
  exact Option.some.inj e
theorem mid_set (k : Int) (ks : List DataD) {i : Nat} (h : i < ks.length) : (mid k ks i).set i (mk (k + (cnts (ks.take i) : Nat)) ks[i]) = mid k ks (i + 1) := by
  unfold mid
  have hl : ((mks k ks).take i).length = i := by simp [mks_length]; omega
  rw [List.set_append, if_neg (by omega), hl, Nat.sub_self, List.drop_eq_getElem_cons h, List.set_cons_zero]
  rw [List.take_succ_eq_append_getElem (show i < (mks k ks).length by rw [mks_length]; exact h), List.append_assoc, mks_get h]
  rfl

def MarkSays (ks : List DataD) : Prop := ∀ (v : Value) (w : World) (k : Int) (S : Nat → Prop), 1 ≤ k → k + (cnts ks : Nat) ≤ 1152921504606846976 → (∀ b, S b → b < w.heap.size) → dataSp.sslice.rep w S [v] ks →
  Calls Tryz.prog 13 #[v, .int .i64 k] w fun e w' => e = .returned (.int .i64 (k + (cnts ks : Nat))) ∧ dataSp.sslice.rep w' S [v] (mks k ks) ∧ Only S w w'

theorem mk_eq (k : Int) (x0 : ByteArray) (x1 : Int) (x2 : List con.ConD) : mk k ((x0, x1, x2)) = (mark.txt (k), k + 1, con.mks (k + 1 + 1) x2) := by simp [mk]

set_option maxRecDepth 100000 in
set_option maxHeartbeats 4000000 in
theorem mark_of (ks : List DataD) : MarkSays ks := by
  intro v w k S hk1 hk2 hS h
  obtain ⟨a, cap, css, F, rfl, hcap, hmax, hnone, hrow⟩ := dataps_open h
  have hmx : (ks.length : Int) ≤ 9223372036854775807 := by unfold maxLen at hmax; omega
  have HC : Hid (ks.length ≤ cap ∧ cap ≤ maxLen ∧ (a = none → cap = 0)) := ⟨hcap, hmax, hnone⟩
  have HS : Hid (∀ b, S b → b < w.heap.size) := hS
  have HR : Hid (SRow dataSp w S a css F (mid k ks 0)) := by show SRow _ _ _ _ _ _ _; rw [mid_zero]; exact hrow
  clear h hcap hmax hnone hS hrow
  have HK : Hid (k + (cnts ks : Nat) ≤ 1152921504606846976) := hk2
  clear hk2
  go_enter Tryz.func13, Tryz.ntmps13
  go_wp2
  go_loopw [1, 5] (fun v1 v5 wr => ∃ (i : Nat) (css' : Nat → List Value), i ≤ ks.length ∧ v5 = .int .i64 i ∧ v1 = .int .i64 (k + (cnts (ks.take i) : Nat)) ∧ Hid (SRow dataSp wr S a css' F (mid k ks i) ∧ Only S w wr)) (fun _ v5 _ => ks.length - (intOf v5).toNat)
  case atStart => exact ⟨0, css, Nat.zero_le _, rfl, by simp [cnts], HR.out, Only.refl _ _⟩
  case round =>
    obtain ⟨i, css', hi, rfl, rfl, HJ⟩ := hrel
    by_cases hlt : i < ks.length
    · have hlm : i < (mid k ks i).length := by rw [mid_length k ks hi]; exact hlt
      obtain ⟨b, o, rfl, hSb, hFb, hc, hfz, cur, t, hbk⟩ := HJ.out.1.at hlm
      have hrep := HJ.out.1.rep i hlm
      rw [mid_get k ks hlt] at hrep
      obtain ⟨x0, x1, x2, a2, c2, hT, hcs, f0, f1, f2⟩ := datap_open hrep
      rw [hcs] at hc
      have ce0_0 : wr.cell? ⟨b, o + i * 3, none⟩ = some (.string x0) := hc 0 _ rfl
      have ce0_1 : wr.cell? ⟨b, o + i * 3 + 1, none⟩ = some (.int .i64 x1) := hc 1 _ rfl
      have ce0_2 : wr.cell? ⟨b, o + i * 3 + 2, none⟩ = some (.slice a2 x2.length c2) := hc 2 _ rfl
      have W1 : Hid (cnts (ks.take (i + 1)) = cnts (ks.take i) + cnt ks[i]) := cnts_take hlt
      have W2 : Hid (cnts (ks.take (i + 1)) ≤ cnts ks) := cnts_take_le ks (i + 1)
      have W3 : Hid (cnt ks[i] = 2 + (con.cnts x2)) := by show _ = _; rw [hT]; simp [cnt]
      obtain ⟨k1, hk⟩ : ∃ k1 : Int, k1 = k + (cnts (ks.take i) : Nat) := ⟨_, rfl⟩
      have HK1 : Hid (k1 = k + (cnts (ks.take i) : Nat)) := hk
      rw [← hk]
      have hb1 : 1 ≤ k1 := by omega
      have hb2 : k1 + 2 + (con.cnts x2 : Nat) ≤ 1152921504606846976 := by have := W1.out; have := W2.out; have := W3.out; have := HK.out; omega
      have BK : Hid (wr.heap[b]? = some (.cells cur t)) := hbk
      have NB : Hid ((∀ q, F i q → q ≠ b) ∧ ¬ F i b ∧ S b) := ⟨fun q hq e => hFb (e ▸ hq), hFb, hSb⟩
      have HT : Hid (ks[i] = (x0, x1, x2)) := hT
      have z0 : b < wr.heap.size := Nat.lt_of_lt_of_le (HS.out b hSb) HJ.out.2.size
      have FZ0 : Hid (∀ q, F i q → q < wr.heap.size) := fun q hq => Nat.lt_of_lt_of_le (HS.out q (HJ.out.1.sub i hlm q hq)) HJ.out.2.size
      have TT0 : Hid (Turn2 b (o + i * 3) (o + i * 3 + 3) (F i) wr wr) := Turn2.refl _ _ _ _ _
      have R0_2 : Hid (con.conSp.sslice.rep wr (F i) [.slice a2 x2.length c2] x2) := f2
      clear hk hrep hcs hc hbk hFb hSb hT f0 f1 f2
      go_wp2_with fail
      refine (mark.text_any _ (by omega) (by omega) _).mono ?_
      rintro e w1 ⟨rfl, hb⟩
      have hzc : b < (wr).heap.size := by first | exact z0 | (simp only [size_set]; exact z0)
      have SG : Turn2 b (o + i * 3) (o + i * 3 + 3) (fun _ => False) wr w1 := (Turn2.refl b (o + i * 3) (o + i * 3 + 3) (fun _ => False) wr).below hb hzc
      have ce1_0 : w1.cell? ⟨b, o + i * 3, none⟩ = some (.string x0) := (hb.cell (p := ⟨b, o + i * 3, none⟩) hzc).trans ce0_0
      have ce1_1 : w1.cell? ⟨b, o + i * 3 + 1, none⟩ = some (.int .i64 x1) := (hb.cell (p := ⟨b, o + i * 3 + 1, none⟩) hzc).trans ce0_1
      have ce1_2 : w1.cell? ⟨b, o + i * 3 + 2, none⟩ = some (.slice a2 x2.length c2) := (hb.cell (p := ⟨b, o + i * 3 + 2, none⟩) hzc).trans ce0_2
      have z1 : b < w1.heap.size := Nat.lt_of_lt_of_le z0 SG.only.size
      have TT1 : Hid (Turn2 b (o + i * 3) (o + i * 3 + 3) (F i) wr w1) := TT0.out.trans (SG.mono (fun _ h => h.elim))
      have FZ1 : Hid (∀ q, F i q → q < w1.heap.size) := fun q hq => Nat.lt_of_lt_of_le (FZ0.out q hq) SG.only.size
      have R1_2 : Hid (con.conSp.sslice.rep w1 (F i) [.slice a2 x2.length c2] (x2)) := con.conSp.sslice.on R0_2.out fun q hq => SG.only.block q (FZ0.out q hq) (fun e => e.elim (fun e => NB.out.1 q hq e) (fun h => h.elim))
      have fz1 := TT1.out.fz BK.out
      clear SG hzc hb ce0_0 ce0_1 ce0_2 FZ0 TT0 z0 hfz R0_2
      have dd : ((w1.setCell ⟨b, o + i * 3, none⟩ (.string (mark.txt (k1)))).setCell ⟨b, o + i * 3 + 1, none⟩ (.int .i64 (k1 + 1))).cell? ⟨b, o + i * 3 + 2, none⟩ = some (.slice a2 x2.length c2) := ((cell_set_ne (by omega)).trans ((cell_set_ne (by omega)).trans ce1_2))
      have hcall := con.markS_any x2 (.slice a2 x2.length c2) ((w1.setCell ⟨b, o + i * 3, none⟩ (.string (mark.txt (k1)))).setCell ⟨b, o + i * 3 + 1, none⟩ (.int .i64 (k1 + 1))) (k1 + 1 + 1) (F i) (by omega) (by omega) (fun q hq => by first | exact FZ1.out q hq | (simp only [size_set]; exact FZ1.out q hq)) (con.conSp.sslice.on R1_2.out fun q hq => by repeat rw [block_set (NB.out.1 q hq)])
      go_wp2_with fail
      refine hcall.mono ?_
      clear hcall dd
      rintro e w2 ⟨rfl, hr, ho⟩
      have hzc : b < ((w1.setCell ⟨b, o + i * 3, none⟩ (.string (mark.txt (k1)))).setCell ⟨b, o + i * 3 + 1, none⟩ (.int .i64 (k1 + 1))).heap.size := by first | exact z1 | (simp only [size_set]; exact z1)
      have SG : Turn2 b (o + i * 3) (o + i * 3 + 3) (F i) w1 w2 := (((Turn2.refl b (o + i * 3) (o + i * 3 + 3) (F i) w1).set (o + i * 3) _ (by omega) (by omega)).set (o + i * 3 + 1) _ (by omega) (by omega)).calls ho hzc (fun _ h => h) (fun h => NB.out.2.1 (h))
      have ce2_0 : w2.cell? ⟨b, o + i * 3, none⟩ = some (.string (mark.txt (k1))) := (cell_only ho hzc (fun h => NB.out.2.1 (h))).trans ((cell_set_ne (by omega)).trans (cell_set_eq ce1_0))
      have ce2_1 : w2.cell? ⟨b, o + i * 3 + 1, none⟩ = some (.int .i64 (k1 + 1)) := (cell_only ho hzc (fun h => NB.out.2.1 (h))).trans (cell_set_eq ((cell_set_ne (by omega)).trans ce1_1))
      have ce2_2 : w2.cell? ⟨b, o + i * 3 + 2, none⟩ = some (.slice a2 x2.length c2) := (cell_only ho hzc (fun h => NB.out.2.1 (h))).trans ((cell_set_ne (by omega)).trans ((cell_set_ne (by omega)).trans ce1_2))
      have z2 : b < w2.heap.size := Nat.lt_of_lt_of_le z1 SG.only.size
      have TT2 : Hid (Turn2 b (o + i * 3) (o + i * 3 + 3) (F i) wr w2) := TT1.out.trans (SG.mono (fun q h => h))
      have FZ2 : Hid (∀ q, F i q → q < w2.heap.size) := fun q hq => Nat.lt_of_lt_of_le (FZ1.out q hq) SG.only.size
      have R2_2 : Hid (con.conSp.sslice.rep w2 (F i) [.slice a2 x2.length c2] (con.mks (k1 + 1 + 1) x2)) := hr
      have fz2 := TT2.out.fz BK.out
      clear SG hzc ho hr ce1_0 ce1_1 ce1_2 FZ1 TT1 z1 fz1 R1_2
      have hx : k1 + 1 + 1 + (con.cnts x2 : Nat) = k + (cnts (ks.take (i + 1)) : Nat) := by have := W1.out; have := W3.out; have := HK1.out; omega
      rw [hx]
      clear hx
      have NX : Hid (∃ css2, SRow dataSp w2 S (some ⟨b, o, none⟩) css2 F (mid k ks (i + 1)) ∧ Only S w w2) := by
        have CD : CellsAt w2 b (o + i * 3) [.string (mark.txt (k1)), .int .i64 (k1 + 1), .slice a2 x2.length c2] := by
          intro q v hq
          match q, hq with
          | 0, hq => simp at hq; subst hq; exact ce2_0
          | 1, hq => simp at hq; subst hq; exact ce2_1
          | 2, hq => simp at hq; subst hq; exact ce2_2
          | _ + 3, hq => simp at hq
        have hsh : dataSp.rep w2 (F i) [.string (mark.txt (k1)), .int .i64 (k1 + 1), .slice a2 x2.length c2] (mk k1 ((x0, x1, x2))) := by rw [mk_eq]; exact datap_shutv (mark.txt_size (by omega)) (by omega) R2_2.out
        rw [← HT.out] at hsh
        have hn := HJ.out.1.turn2 (fun q hq => Nat.lt_of_lt_of_le (HS.out q hq) HJ.out.2.size) hlm rfl TT2.out CD hsh
        rw [HK1.out, mid_set k ks hlt] at hn
        exact ⟨_, hn.1, HJ.out.2.trans hn.2⟩
      clear fz2 ce2_0 ce2_1 ce2_2 R2_2
      go_wp2
      go_round
      case rel => obtain ⟨css2, n1, n2⟩ := NX.out; exact ⟨i + 1, css2, by omega, by go_num, rfl, n1, n2⟩
      case measure => simp [intOf]; omega
    · obtain rfl : i = ks.length := by omega
      have hq := HJ.out
      rw [mid_full] at hq
      go_wp2
      go_ret
      refine ⟨by rw [List.take_length]; rfl, ?_, hq.2⟩
      have hl := mks_length k ks
      exact ⟨a, cap, css', F, by rw [hl], by rw [hl]; exact HC.out.1, HC.out.2.1, HC.out.2.2, hq.1⟩

theorem markS_any (ks : List DataD) : MarkSays ks := mark_of ks


end Go.Proofs.YtjofmoebijdccaaGreat.data

namespace Go.Proofs.YtjofmoebijdccaaGreat.op
open Go.RowKit Go.ChangeShapes Go.WideShapes Go.Proofs.YtjofmoebijdccaaGreat.rose Go.Proofs.YtjofmoebijdccaaGreat
set_option linter.unusedVariables false
set_option maxRecDepth 100000

section
variable {H : Type} {enc : TypeId × Value → H} {w : World} {spare : Nat → Bool} {held : Bool}

theorem cells_op : Tryz.prog.cellsOf 173 = 3 := by kernel_rfl

theorem opens_op (n : Nat) : OpensAt enc Tryz.prog w spare held n opSh 173 := by
  intro fuel cs x hf h
  obtain ⟨xs, m, rfl, -, hl, hlen, hfl⟩ := DataW.trod_struct Tryz.underlying173 h
  rw [cells_op] at hl
  have hlen5 : xs.length = 3 := hlen
  match cs, hl with
  | [c0, c1, c2], _ =>
    match xs, hlen5 with
    | [y0, y1, y2], _ =>
      have f0 := hfl 0 _ rfl
      have f1 := hfl 1 _ rfl
      have f2 := hfl 2 _ rfl
      simp only [List.getElem?_cons_zero, List.getElem?_cons_succ] at f0 f1 f2
      obtain ⟨p0, h0⟩ := opens_int (w := w) Tryz.underlying3 n m _ _ (by omega) f0
      obtain ⟨p1, h1⟩ := opens_int (w := w) Tryz.underlying3 n m _ _ (by omega) f1
      obtain ⟨p2, h2⟩ := opens_int (w := w) Tryz.underlying3 n m _ _ (by omega) f2
      exact ⟨(p0, p1, p2), [c0], _, rfl, h0, [c1], _, rfl, h1, h2⟩
theorem opens_ops (n : Nat) : OpensAt enc Tryz.prog w spare held n opSh.slice 83 := fun fuel cs x hf h => opens_slice (n := n) Tryz.underlying83 cells_op (by decide) (opens_op n) fuel cs x (by omega) h

/-- THE ARGUMENT. -/
theorem arg_op {v : Value} {d : DataW H} {ps : List MemPlace} {r : Reach} {b : Nat} (hval : Value.okWide Tryz.prog w r b 173 v) (h : DataW.Trod enc Tryz.prog w 0 spare held 173 v d ps) : ∃ cs T, v = .agg cs.toArray ∧ opSh.rep w (· < w.heap.size) cs T := by
  obtain ⟨cs, rfl, _⟩ := okWide_struct Tryz.underlying173 hval
  obtain ⟨fuel, hf⟩ := h
  obtain ⟨T, hT⟩ := opens_op (enc := enc) (w := w) (spare := spare) (held := held) fuel fuel _ _ (Nat.le_refl _) hf
  exact ⟨cs.toList, T, by simp, hT⟩
end

end Go.Proofs.YtjofmoebijdccaaGreat.op

namespace Go.Proofs.YtjofmoebijdccaaGreat.fun
open Go.RowKit Go.ChangeShapes Go.WideShapes Go.Proofs.YtjofmoebijdccaaGreat.rose Go.Proofs.YtjofmoebijdccaaGreat
set_option linter.unusedVariables false
set_option maxRecDepth 100000

section
variable {H : Type} {enc : TypeId × Value → H} {w : World} {spare : Nat → Bool} {held : Bool}

theorem cells_fun : Tryz.prog.cellsOf 85 = 2 := by kernel_rfl

theorem opens_fun (n : Nat) : OpensAt enc Tryz.prog w spare held n funSh 85 := by
  intro fuel cs x hf h
  obtain ⟨xs, m, rfl, -, hl, hlen, hfl⟩ := DataW.trod_struct Tryz.underlying85 h
  rw [cells_fun] at hl
  have hlen5 : xs.length = 2 := hlen
  match cs, hl with
  | [c0, c1], _ =>
    match xs, hlen5 with
    | [y0, y1], _ =>
      have f0 := hfl 0 _ rfl
      have f1 := hfl 1 _ rfl
      simp only [List.getElem?_cons_zero, List.getElem?_cons_succ] at f0 f1
      obtain ⟨p0, h0⟩ := opens_int (w := w) Tryz.underlying3 n m _ _ (by omega) f0
      obtain ⟨p1, h1⟩ := op.opens_ops (w := w) n m _ _ (by omega) f1
      exact ⟨(p0, p1), [c0], _, rfl, h0, h1⟩
theorem opens_funs (n : Nat) : OpensAt enc Tryz.prog w spare held n funSh.slice 23 := fun fuel cs x hf h => opens_slice (n := n) Tryz.underlying23 cells_fun (by decide) (opens_fun n) fuel cs x (by omega) h

/-- THE ARGUMENT. -/
theorem arg_fun {v : Value} {d : DataW H} {ps : List MemPlace} {r : Reach} {b : Nat} (hval : Value.okWide Tryz.prog w r b 85 v) (h : DataW.Trod enc Tryz.prog w 0 spare held 85 v d ps) : ∃ cs T, v = .agg cs.toArray ∧ funSh.rep w (· < w.heap.size) cs T := by
  obtain ⟨cs, rfl, _⟩ := okWide_struct Tryz.underlying85 hval
  obtain ⟨fuel, hf⟩ := h
  obtain ⟨T, hT⟩ := opens_fun (enc := enc) (w := w) (spare := spare) (held := held) fuel fuel _ _ (Nat.le_refl _) hf
  exact ⟨cs.toList, T, by simp, hT⟩
end

end Go.Proofs.YtjofmoebijdccaaGreat.fun

namespace Go.Proofs.YtjofmoebijdccaaGreat
open Go.RowKit Go.ChangeShapes Go.WideShapes Go.Proofs.YtjofmoebijdccaaGreat.rose
set_option maxRecDepth 100000

theorem cells_int : Tryz.prog.cellsOf 3 = 1 := by kernel_rfl
theorem opens_ints {H : Type} {enc : TypeId × Value → H} {w : World} {spare : Nat → Bool} {held : Bool} (n : Nat) : OpensAt enc Tryz.prog w spare held n Sh.int.slice 24 := fun fuel cs x hf h => opens_slice (A := Sh.int) (n := n) Tryz.underlying24 cells_int (by decide) (opens_int Tryz.underlying3 n) fuel cs x (by omega) h

end Go.Proofs.YtjofmoebijdccaaGreat

namespace Go.Proofs.YtjofmoebijdccaaGreat.heap
open Go.RowKit Go.ChangeShapes Go.WideShapes Go.Proofs.YtjofmoebijdccaaGreat.rose Go.Proofs.YtjofmoebijdccaaGreat
set_option linter.unusedVariables false
set_option maxRecDepth 100000

section
variable {H : Type} {enc : TypeId × Value → H} {w : World} {spare : Nat → Bool} {held : Bool}

theorem cells_heap : Tryz.prog.cellsOf 26 = 4 := by kernel_rfl

theorem opens_heap (n : Nat) : OpensAt enc Tryz.prog w spare held n heapSh 26 := by
  intro fuel cs x hf h
  obtain ⟨xs, m, rfl, -, hl, hlen, hfl⟩ := DataW.trod_struct Tryz.underlying26 h
  rw [cells_heap] at hl
  have hlen5 : xs.length = 4 := hlen
  match cs, hl with
  | [c0, c1, c2, c3], _ =>
    match xs, hlen5 with
    | [y0, y1, y2, y3], _ =>
      have f0 := hfl 0 _ rfl
      have f1 := hfl 1 _ rfl
      have f2 := hfl 2 _ rfl
      have f3 := hfl 3 _ rfl
      simp only [List.getElem?_cons_zero, List.getElem?_cons_succ] at f0 f1 f2 f3
      obtain ⟨p0, h0⟩ := opens_ints (w := w) n m _ _ (by omega) f0
      obtain ⟨p1, h1⟩ := opens_int (w := w) Tryz.underlying3 n m _ _ (by omega) f1
      obtain ⟨p2, h2⟩ := opens_int (w := w) Tryz.underlying3 n m _ _ (by omega) f2
      obtain ⟨p3, h3⟩ := opens_int (w := w) Tryz.underlying3 n m _ _ (by omega) f3
      exact ⟨(p0, p1, p2, p3), [c0], _, rfl, h0, [c1], _, rfl, h1, [c2], _, rfl, h2, h3⟩

/-- THE ARGUMENT. -/
theorem arg_heap {v : Value} {d : DataW H} {ps : List MemPlace} {r : Reach} {b : Nat} (hval : Value.okWide Tryz.prog w r b 26 v) (h : DataW.Trod enc Tryz.prog w 0 spare held 26 v d ps) : ∃ cs T, v = .agg cs.toArray ∧ heapSh.rep w (· < w.heap.size) cs T := by
  obtain ⟨cs, rfl, _⟩ := okWide_struct Tryz.underlying26 hval
  obtain ⟨fuel, hf⟩ := h
  obtain ⟨T, hT⟩ := opens_heap (enc := enc) (w := w) (spare := spare) (held := held) fuel fuel _ _ (Nat.le_refl _) hf
  exact ⟨cs.toList, T, by simp, hT⟩
end

end Go.Proofs.YtjofmoebijdccaaGreat.heap

namespace Go.Proofs.YtjofmoebijdccaaGreat.call
open Go.RowKit Go.ChangeShapes Go.WideShapes Go.Proofs.YtjofmoebijdccaaGreat.rose Go.Proofs.YtjofmoebijdccaaGreat
set_option linter.unusedVariables false
set_option maxRecDepth 100000

section
variable {H : Type} {enc : TypeId × Value → H} {w : World} {spare : Nat → Bool} {held : Bool}

theorem cells_call : Tryz.prog.cellsOf 101 = 3 := by kernel_rfl

theorem opens_call (n : Nat) : OpensAt enc Tryz.prog w spare held n callSh 101 := by
  intro fuel cs x hf h
  obtain ⟨xs, m, rfl, -, hl, hlen, hfl⟩ := DataW.trod_struct Tryz.underlying101 h
  rw [cells_call] at hl
  have hlen5 : xs.length = 3 := hlen
  match cs, hl with
  | [c0, c1, c2], _ =>
    match xs, hlen5 with
    | [y0, y1, y2], _ =>
      have f0 := hfl 0 _ rfl
      have f1 := hfl 1 _ rfl
      have f2 := hfl 2 _ rfl
      simp only [List.getElem?_cons_zero, List.getElem?_cons_succ] at f0 f1 f2
      obtain ⟨p0, h0⟩ := opens_int (w := w) Tryz.underlying3 n m _ _ (by omega) f0
      obtain ⟨p1, h1⟩ := opens_int (w := w) Tryz.underlying3 n m _ _ (by omega) f1
      obtain ⟨p2, h2⟩ := opens_int (w := w) Tryz.underlying3 n m _ _ (by omega) f2
      exact ⟨(p0, p1, p2), [c0], _, rfl, h0, [c1], _, rfl, h1, h2⟩
theorem opens_calls (n : Nat) : OpensAt enc Tryz.prog w spare held n callSh.slice 27 := fun fuel cs x hf h => opens_slice (n := n) Tryz.underlying27 cells_call (by decide) (opens_call n) fuel cs x (by omega) h

/-- THE ARGUMENT. -/
theorem arg_call {v : Value} {d : DataW H} {ps : List MemPlace} {r : Reach} {b : Nat} (hval : Value.okWide Tryz.prog w r b 101 v) (h : DataW.Trod enc Tryz.prog w 0 spare held 101 v d ps) : ∃ cs T, v = .agg cs.toArray ∧ callSh.rep w (· < w.heap.size) cs T := by
  obtain ⟨cs, rfl, _⟩ := okWide_struct Tryz.underlying101 hval
  obtain ⟨fuel, hf⟩ := h
  obtain ⟨T, hT⟩ := opens_call (enc := enc) (w := w) (spare := spare) (held := held) fuel fuel _ _ (Nat.le_refl _) hf
  exact ⟨cs.toList, T, by simp, hT⟩
end

end Go.Proofs.YtjofmoebijdccaaGreat.call
