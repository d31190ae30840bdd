/-
  The law's marks in a Fun: where it lies apart, each cell gets a number, or a text, of its own, and what is read back is what was written; nothing else is turned.
-/
import Derived.Test.YtjoaiaeohlhbkaaDoorFunSp
import Derived.Test.YtjoaiaeohlhbkaaDoorSep2
import Derived.Test.YtjoaiaeohlhbkaaDoorOpMark
import Derived.Deep.RegionWith
namespace Go.Proofs.YtjoaiaeohlhbkaaDoor.fun
open Go.RowKit Go.Proofs.YtjoaiaeohlhbkaaDoor.rose Go.Proofs.YtjoaiaeohlhbkaaDoor
set_option linter.unusedVariables false

/-- How many marks it takes as an element. -/
def cnt : FunD → Nat
  | (x0, x1) => 1 + (op.cnts x1)
def cnts : List FunD → Nat
  | [] => 0
  | k :: ks => cnt k + cnts ks
def mk (k : Int) : FunD → FunD
  | (x0, x1) => (k, op.mks (k + 1) x1)
def mks (k : Int) : List FunD → List FunD
  | [] => []
  | t :: ts => mk k t :: mks (k + (cnt t : Nat)) ts

theorem mks_length (k : Int) (ks : List FunD) : (mks k ks).length = ks.length := by
  induction ks generalizing k with
  | nil => simp [mks]
  | cons t ts ih => simp [mks, ih]
theorem cnts_take {ks : List FunD} {i : Nat} (h : i < ks.length) : cnts (ks.take (i + 1)) = cnts (ks.take i) + cnt ks[i] := by
  induction ks generalizing i with
  | nil => simp at h
  | cons k ks ih =>
    cases i with
    | zero => simp [cnts]
    | succ i => simp [cnts, ih (by simpa using h)]; omega
theorem cnts_take_le (ks : List FunD) (i : Nat) : cnts (ks.take i) ≤ cnts ks := by
  induction ks generalizing i with
  | nil => simp [cnts]
  | cons k ks ih =>
    cases i with
    | zero => simp [cnts]
    | succ i => simp [cnts]; exact ih i
theorem mks_get {k : Int} {ks : List FunD} {i : Nat} (h : i < ks.length) (h' : i < (mks k ks).length) : (mks k ks)[i] = mk (k + (cnts (ks.take i) : Nat)) ks[i] := by
  induction ks generalizing k i with
  | nil => simp at h
  | cons t ts ih =>
    cases i with
    | zero => simp [mks, cnts]
    | succ i =>
      simp only [mks, List.getElem_cons_succ, List.take_succ_cons, cnts]
      rw [ih (by simpa using h)]
      congr 1
      omega
theorem cnt_le (T : FunD) : cnt T ≤ 3 + 3 * wt T := by
  obtain ⟨x0, x1⟩ := T
  have := op.cnts_le x1
  simp only [cnt, wt]
  omega
theorem cnts_le (ks : List FunD) : cnts ks ≤ 3 * (ks.length + wts ks) := by
  induction ks with
  | nil => simp [cnts]
  | cons a l ih =>
    have := cnt_le a
    simp only [cnts, wts, List.length_cons]
    omega

/-- The first i are marked. -/
def mid (k : Int) (ks : List FunD) (i : Nat) : List FunD := (mks k ks).take i ++ ks.drop i
theorem mid_length (k : Int) (ks : List FunD) {i : Nat} (h : i ≤ ks.length) : (mid k ks i).length = ks.length := by
  simp [mid, mks_length]; omega
theorem mid_zero (k : Int) (ks : List FunD) : mid k ks 0 = ks := by simp [mid]
theorem mid_full (k : Int) (ks : List FunD) : mid k ks ks.length = mks k ks := by
  unfold mid; rw [List.take_of_length_le (by rw [mks_length]; exact Nat.le_refl _)]; simp
theorem mid_get (k : Int) (ks : List FunD) {i : Nat} (h : i < ks.length) (h' : i < (mid k ks i).length) : (mid k ks i)[i] = ks[i] := by
  have e : (mid k ks i)[i]? = ks[i]? := by
    unfold mid
    rw [List.getElem?_append_right (by simp; omega)]
    simp [mks_length, Nat.min_eq_left (Nat.le_of_lt h)]
  rw [List.getElem?_eq_getElem h, List.getElem?_eq_getElem h'] at e
  exact Option.some.inj e
theorem mid_set (k : Int) (ks : List FunD) {i : Nat} (h : i < ks.length) : (mid k ks i).set i (mk (k + (cnts (ks.take i) : Nat)) ks[i]) = mid k ks (i + 1) := by
  unfold mid
  have hl : ((mks k ks).take i).length = i := by simp [mks_length]; omega
  rw [List.set_append, if_neg (by omega), hl, Nat.sub_self, List.drop_eq_getElem_cons h, List.set_cons_zero]
  rw [List.take_succ_eq_append_getElem (show i < (mks k ks).length by rw [mks_length]; exact h), List.append_assoc, mks_get h]
  rfl

def MarkSays (ks : List FunD) : Prop := ∀ (v : Value) (w : World) (k : Int) (S : Nat → Prop), 1 ≤ k → k + (cnts ks : Nat) ≤ 1152921504606846976 → (∀ b, S b → b < w.heap.size) → funSp.sslice.rep w S [v] ks →
  Calls Tryd.prog 10 #[v, .int .i64 k] w fun e w' => e = .returned (.int .i64 (k + (cnts ks : Nat))) ∧ funSp.sslice.rep w' S [v] (mks k ks) ∧ Only S w w'

theorem mk_eq (k : Int) (x0 : Int) (x1 : List op.OpD) : mk k ((x0, x1)) = (k, op.mks (k + 1) x1) := by simp [mk]

set_option maxRecDepth 100000 in
set_option maxHeartbeats 4000000 in
theorem mark_of (ks : List FunD) : MarkSays ks := by
  intro v w k S hk1 hk2 hS h
  obtain ⟨a, cap, css, F, rfl, hcap, hmax, hnone, hrow⟩ := funps_open h
  have hmx : (ks.length : Int) ≤ 9223372036854775807 := by unfold maxLen at hmax; omega
  have HC : Hid (ks.length ≤ cap ∧ cap ≤ maxLen ∧ (a = none → cap = 0)) := ⟨hcap, hmax, hnone⟩
  have HS : Hid (∀ b, S b → b < w.heap.size) := hS
  have HR : Hid (SRow funSp w S a css F (mid k ks 0)) := by show SRow _ _ _ _ _ _ _; rw [mid_zero]; exact hrow
  clear h hcap hmax hnone hS hrow
  have HK : Hid (k + (cnts ks : Nat) ≤ 1152921504606846976) := hk2
  clear hk2
  go_enter Tryd.func10, Tryd.ntmps10
  go_wp2
  go_loopw [1, 5] (fun v1 v5 wr => ∃ (i : Nat) (css' : Nat → List Value), i ≤ ks.length ∧ v5 = .int .i64 i ∧ v1 = .int .i64 (k + (cnts (ks.take i) : Nat)) ∧ Hid (SRow funSp wr S a css' F (mid k ks i) ∧ Only S w wr)) (fun _ v5 _ => ks.length - (intOf v5).toNat)
  case atStart => exact ⟨0, css, Nat.zero_le _, rfl, by simp [cnts], HR.out, Only.refl _ _⟩
  case round =>
    obtain ⟨i, css', hi, rfl, rfl, HJ⟩ := hrel
    by_cases hlt : i < ks.length
    · have hlm : i < (mid k ks i).length := by rw [mid_length k ks hi]; exact hlt
      obtain ⟨b, o, rfl, hSb, hFb, hc, hfz, cur, t, hbk⟩ := HJ.out.1.at hlm
      have hrep := HJ.out.1.rep i hlm
      rw [mid_get k ks hlt] at hrep
      obtain ⟨x0, x1, a1, c1, hT, hcs, f0, f1⟩ := funp_open hrep
      rw [hcs] at hc
      have ce0_0 : wr.cell? ⟨b, o + i * 2, none⟩ = some (.int .i64 x0) := hc 0 _ rfl
      have ce0_1 : wr.cell? ⟨b, o + i * 2 + 1, none⟩ = some (.slice a1 x1.length c1) := hc 1 _ rfl
      have W1 : Hid (cnts (ks.take (i + 1)) = cnts (ks.take i) + cnt ks[i]) := cnts_take hlt
      have W2 : Hid (cnts (ks.take (i + 1)) ≤ cnts ks) := cnts_take_le ks (i + 1)
      have W3 : Hid (cnt ks[i] = 1 + (op.cnts x1)) := by show _ = _; rw [hT]; simp [cnt]
      obtain ⟨k1, hk⟩ : ∃ k1 : Int, k1 = k + (cnts (ks.take i) : Nat) := ⟨_, rfl⟩
      have HK1 : Hid (k1 = k + (cnts (ks.take i) : Nat)) := hk
      rw [← hk]
      have hb1 : 1 ≤ k1 := by omega
      have hb2 : k1 + 1 + (op.cnts x1 : Nat) ≤ 1152921504606846976 := by have := W1.out; have := W2.out; have := W3.out; have := HK.out; omega
      have BK : Hid (wr.heap[b]? = some (.cells cur t)) := hbk
      have NB : Hid ((∀ q, F i q → q ≠ b) ∧ ¬ F i b ∧ S b) := ⟨fun q hq e => hFb (e ▸ hq), hFb, hSb⟩
      have HT : Hid (ks[i] = (x0, x1)) := hT
      have z0 : b < wr.heap.size := Nat.lt_of_lt_of_le (HS.out b hSb) HJ.out.2.size
      have FZ0 : Hid (∀ q, F i q → q < wr.heap.size) := fun q hq => Nat.lt_of_lt_of_le (HS.out q (HJ.out.1.sub i hlm q hq)) HJ.out.2.size
      have TT0 : Hid (Turn2 b (o + i * 2) (o + i * 2 + 2) (F i) wr wr) := Turn2.refl _ _ _ _ _
      have R0_1 : Hid (op.opSp.sslice.rep wr (F i) [.slice a1 x1.length c1] x1) := f1
      clear hk hrep hcs hc hbk hFb hSb hT f0 f1
      have dd : (wr.setCell ⟨b, o + i * 2, none⟩ (.int .i64 k1)).cell? ⟨b, o + i * 2 + 1, none⟩ = some (.slice a1 x1.length c1) := ((cell_set_ne (by omega)).trans ce0_1)
      have hcall := op.markS_any x1 (.slice a1 x1.length c1) (wr.setCell ⟨b, o + i * 2, none⟩ (.int .i64 k1)) (k1 + 1) (F i) (by omega) (by omega) (fun q hq => by first | exact FZ0.out q hq | (simp only [size_set]; exact FZ0.out q hq)) (op.opSp.sslice.on R0_1.out fun q hq => by repeat rw [block_set (NB.out.1 q hq)])
      go_wp2_with fail
      refine hcall.mono ?_
      clear hcall dd
      rintro e w1 ⟨rfl, hr, ho⟩
      have hzc : b < (wr.setCell ⟨b, o + i * 2, none⟩ (.int .i64 k1)).heap.size := by first | exact z0 | (simp only [size_set]; exact z0)
      have SG : Turn2 b (o + i * 2) (o + i * 2 + 2) (F i) wr w1 := ((Turn2.refl b (o + i * 2) (o + i * 2 + 2) (F i) wr).set (o + i * 2) _ (by omega) (by omega)).calls ho hzc (fun _ h => h) (fun h => NB.out.2.1 (h))
      have ce1_0 : w1.cell? ⟨b, o + i * 2, none⟩ = some (.int .i64 k1) := (cell_only ho hzc (fun h => NB.out.2.1 (h))).trans (cell_set_eq ce0_0)
      have ce1_1 : w1.cell? ⟨b, o + i * 2 + 1, none⟩ = some (.slice a1 x1.length c1) := (cell_only ho hzc (fun h => NB.out.2.1 (h))).trans ((cell_set_ne (by omega)).trans ce0_1)
      have z1 : b < w1.heap.size := Nat.lt_of_lt_of_le z0 SG.only.size
      have TT1 : Hid (Turn2 b (o + i * 2) (o + i * 2 + 2) (F i) wr w1) := TT0.out.trans (SG.mono (fun q h => h))
      have FZ1 : Hid (∀ q, F i q → q < w1.heap.size) := fun q hq => Nat.lt_of_lt_of_le (FZ0.out q hq) SG.only.size
      have R1_1 : Hid (op.opSp.sslice.rep w1 (F i) [.slice a1 x1.length c1] (op.mks (k1 + 1) x1)) := hr
      have fz1 := TT1.out.fz BK.out
      clear SG hzc ho hr ce0_0 ce0_1 FZ0 TT0 z0 hfz R0_1
      have hx : k1 + 1 + (op.cnts x1 : Nat) = k + (cnts (ks.take (i + 1)) : Nat) := by have := W1.out; have := W3.out; have := HK1.out; omega
      rw [hx]
      clear hx
      have NX : Hid (∃ css2, SRow funSp w1 S (some ⟨b, o, none⟩) css2 F (mid k ks (i + 1)) ∧ Only S w w1) := by
        have CD : CellsAt w1 b (o + i * 2) [.int .i64 k1, .slice a1 x1.length c1] := by
          intro q v hq
          match q, hq with
          | 0, hq => simp at hq; subst hq; exact ce1_0
          | 1, hq => simp at hq; subst hq; exact ce1_1
          | _ + 2, hq => simp at hq
        have hsh : funSp.rep w1 (F i) [.int .i64 k1, .slice a1 x1.length c1] (mk k1 ((x0, x1))) := by rw [mk_eq]; exact funp_shutv (by omega) R1_1.out
        rw [← HT.out] at hsh
        have hn := HJ.out.1.turn2 (fun q hq => Nat.lt_of_lt_of_le (HS.out q hq) HJ.out.2.size) hlm rfl TT1.out CD hsh
        rw [HK1.out, mid_set k ks hlt] at hn
        exact ⟨_, hn.1, HJ.out.2.trans hn.2⟩
      clear fz1 ce1_0 ce1_1 R1_1
      go_wp2
      go_round
      case rel => obtain ⟨css2, n1, n2⟩ := NX.out; exact ⟨i + 1, css2, by omega, by go_num, rfl, n1, n2⟩
      case measure => simp [intOf]; omega
    · obtain rfl : i = ks.length := by omega
      have hq := HJ.out
      rw [mid_full] at hq
      go_wp2
      go_ret
      refine ⟨by rw [List.take_length]; rfl, ?_, hq.2⟩
      have hl := mks_length k ks
      exact ⟨a, cap, css', F, by rw [hl], by rw [hl]; exact HC.out.1, HC.out.2.1, HC.out.2.2, hq.1⟩

theorem markS_any (ks : List FunD) : MarkSays ks := mark_of ks


end Go.Proofs.YtjoaiaeohlhbkaaDoor.fun
