/-
  The law's marks in a Call: where it lies apart, each cell gets a number, or a text, of its own, and what is read back is what was written; nothing else is turned.
  The law's marks in one Vm: its slices are marked, nothing else is turned.
  The type Value as it lies in memory.
-/
import Derived.Deep.RegionWith
import Derived.Test.YtjofmoebijdccaaGreatChecked
import Derived.WalkKit
import Derived.WalkLawsBesides
import Derived.Deep.QuietTactic
import Derived.BigQuiet
import Derived.Test.YtjofmoebijdccaaGreatB1
import Derived.Test.YtjofmoebijdccaaGreatB2
import Derived.Test.YtjofmoebijdccaaGreatB3
import Derived.Test.YtjofmoebijdccaaGreatB4
import Derived.Test.YtjofmoebijdccaaGreatB5
import Derived.Test.YtjofmoebijdccaaGreatB6
import Derived.Test.YtjofmoebijdccaaGreatB7
import Derived.Test.YtjofmoebijdccaaGreatB8
import Derived.Test.YtjofmoebijdccaaGreatB9
import Derived.Test.YtjofmoebijdccaaGreatB10
import Derived.Test.YtjofmoebijdccaaGreatB11
import Derived.Test.YtjofmoebijdccaaGreatB12
import Derived.Test.YtjofmoebijdccaaGreatB13
namespace Go.Proofs.YtjofmoebijdccaaGreat.call
open Go.RowKit Go.Proofs.YtjofmoebijdccaaGreat.rose Go.Proofs.YtjofmoebijdccaaGreat
set_option linter.unusedVariables false

/-- How many marks it takes as an element. -/
def cnt : CallD → Nat
  | (x0, x1, x2) => 3
def cnts : List CallD → Nat
  | [] => 0
  | k :: ks => cnt k + cnts ks
def mk (k : Int) : CallD → CallD
  | (x0, x1, x2) => (k, k + 1, k + 1 + 1)
def mks (k : Int) : List CallD → List CallD
  | [] => []
  | t :: ts => mk k t :: mks (k + (cnt t : Nat)) ts

theorem mks_length (k : Int) (ks : List CallD) : (mks k ks).length = ks.length := by
  induction ks generalizing k with
  | nil => simp [mks]
  | cons t ts ih => simp [mks, ih]
theorem cnts_take {ks : List CallD} {i : Nat} (h : i < ks.length) : cnts (ks.take (i + 1)) = cnts (ks.take i) + cnt ks[i] := by
  induction ks generalizing i with
  | nil => simp at h
  | cons k ks ih =>
    cases i with
    | zero => simp [cnts]
    | succ i => simp [cnts, ih (by simpa using h)]; omega
theorem cnts_take_le (ks : List CallD) (i : Nat) : cnts (ks.take i) ≤ cnts ks := by
  induction ks generalizing i with
  | nil => simp [cnts]
  | cons k ks ih =>
    cases i with
    | zero => simp [cnts]
    | succ i => simp [cnts]; exact ih i
theorem mks_get {k : Int} {ks : List CallD} {i : Nat} (h : i < ks.length) (h' : i < (mks k ks).length) : (mks k ks)[i] = mk (k + (cnts (ks.take i) : Nat)) ks[i] := by
  induction ks generalizing k i with
  | nil => simp at h
  | cons t ts ih =>
    cases i with
    | zero => simp [mks, cnts]
    | succ i =>
      simp only [mks, List.getElem_cons_succ, List.take_succ_cons, cnts]
      rw [ih (by simpa using h)]
      congr 1
      omega
theorem cnts_le (ks : List CallD) : cnts ks ≤ 3 * ks.length := by
  induction ks with
  | nil => simp [cnts]
  | cons a l ih =>
    have : cnt a = 3 := rfl
    simp only [cnts, List.length_cons]
    omega

/-- The first i are marked. -/
def mid (k : Int) (ks : List CallD) (i : Nat) : List CallD := (mks k ks).take i ++ ks.drop i
theorem mid_length (k : Int) (ks : List CallD) {i : Nat} (h : i ≤ ks.length) : (mid k ks i).length = ks.length := by
  simp [mid, mks_length]; omega
theorem mid_zero (k : Int) (ks : List CallD) : mid k ks 0 = ks := by simp [mid]
theorem mid_full (k : Int) (ks : List CallD) : mid k ks ks.length = mks k ks := by
  unfold mid; rw [List.take_of_length_le (by rw [mks_length]; exact Nat.le_refl _)]; simp
theorem mid_get (k : Int) (ks : List CallD) {i : Nat} (h : i < ks.length) (h' : i < (mid k ks i).length) : (mid k ks i)[i] = ks[i] := by
  have e : (mid k ks i)[i]? = ks[i]? := by
    unfold mid
    rw [List.getElem?_append_right (by simp; omega)]
    simp [mks_length, Nat.min_eq_left (Nat.le_of_lt h)]
  rw [List.getElem?_eq_getElem h, List.getElem?_eq_getElem h'] at e
  exact Option.some.inj e
theorem mid_set (k : Int) (ks : List CallD) {i : Nat} (h : i < ks.length) : (mid k ks i).set i (mk (k + (cnts (ks.take i) : Nat)) ks[i]) = mid k ks (i + 1) := by
  unfold mid
  have hl : ((mks k ks).take i).length = i := by simp [mks_length]; omega
  rw [List.set_append, if_neg (by omega), hl, Nat.sub_self, List.drop_eq_getElem_cons h, List.set_cons_zero]
  rw [List.take_succ_eq_append_getElem (show i < (mks k ks).length by rw [mks_length]; exact h), List.append_assoc, mks_get h]
  rfl

def MarkSays (ks : List CallD) : Prop := ∀ (v : Value) (w : World) (k : Int) (S : Nat → Prop), 1 ≤ k → k + (cnts ks : Nat) ≤ 1152921504606846976 → (∀ b, S b → b < w.heap.size) → callSp.sslice.rep w S [v] ks →
  Calls Tryz.prog 40 #[v, .int .i64 k] w fun e w' => e = .returned (.int .i64 (k + (cnts ks : Nat))) ∧ callSp.sslice.rep w' S [v] (mks k ks) ∧ Only S w w'

theorem mk_eq (k : Int) (x0 : Int) (x1 : Int) (x2 : Int) : mk k ((x0, x1, x2)) = (k, k + 1, k + 1 + 1) := by simp [mk]

set_option maxRecDepth 100000 in
set_option maxHeartbeats 4000000 in
theorem mark_of (ks : List CallD) : MarkSays ks := by
  intro v w k S hk1 hk2 hS h
  obtain ⟨a, cap, css, F, rfl, hcap, hmax, hnone, hrow⟩ := callps_open h
  have hmx : (ks.length : Int) ≤ 9223372036854775807 := by unfold maxLen at hmax; omega
  have HC : Hid (ks.length ≤ cap ∧ cap ≤ maxLen ∧ (a = none → cap = 0)) := ⟨hcap, hmax, hnone⟩
  have HS : Hid (∀ b, S b → b < w.heap.size) := hS
  have HR : Hid (SRow callSp w S a css F (mid k ks 0)) := by show SRow _ _ _ _ _ _ _; rw [mid_zero]; exact hrow
  clear h hcap hmax hnone hS hrow
  have HK : Hid (k + (cnts ks : Nat) ≤ 1152921504606846976) := hk2
  clear hk2
  go_enter Tryz.func40, Tryz.ntmps40
  go_wp2
  go_loopw [1, 5] (fun v1 v5 wr => ∃ (i : Nat) (css' : Nat → List Value), i ≤ ks.length ∧ v5 = .int .i64 i ∧ v1 = .int .i64 (k + (cnts (ks.take i) : Nat)) ∧ Hid (SRow callSp wr S a css' F (mid k ks i) ∧ Only S w wr)) (fun _ v5 _ => ks.length - (intOf v5).toNat)
  case atStart => exact ⟨0, css, Nat.zero_le _, rfl, by simp [cnts], HR.out, Only.refl _ _⟩
  case round =>
    obtain ⟨i, css', hi, rfl, rfl, HJ⟩ := hrel
    by_cases hlt : i < ks.length
    · have hlm : i < (mid k ks i).length := by rw [mid_length k ks hi]; exact hlt
      obtain ⟨b, o, rfl, hSb, hFb, hc, hfz, cur, t, hbk⟩ := HJ.out.1.at hlm
      have hrep := HJ.out.1.rep i hlm
      rw [mid_get k ks hlt] at hrep
      obtain ⟨x0, x1, x2, hT, hcs, f0, f1, f2⟩ := callp_open hrep
      rw [hcs] at hc
      have ce0_0 : wr.cell? ⟨b, o + i * 3, none⟩ = some (.int .i64 x0) := hc 0 _ rfl
      have ce0_1 : wr.cell? ⟨b, o + i * 3 + 1, none⟩ = some (.int .i64 x1) := hc 1 _ rfl
      have ce0_2 : wr.cell? ⟨b, o + i * 3 + 2, none⟩ = some (.int .i64 x2) := hc 2 _ rfl
      have W1 : Hid (cnts (ks.take (i + 1)) = cnts (ks.take i) + cnt ks[i]) := cnts_take hlt
      have W2 : Hid (cnts (ks.take (i + 1)) ≤ cnts ks) := cnts_take_le ks (i + 1)
      have W3 : Hid (cnt ks[i] = 3) := by show _ = _; rw [hT]; simp [cnt]
      obtain ⟨k1, hk⟩ : ∃ k1 : Int, k1 = k + (cnts (ks.take i) : Nat) := ⟨_, rfl⟩
      have HK1 : Hid (k1 = k + (cnts (ks.take i) : Nat)) := hk
      rw [← hk]
      have hb1 : 1 ≤ k1 := by omega
      have hb2 : k1 + 3 ≤ 1152921504606846976 := by have := W1.out; have := W2.out; have := W3.out; have := HK.out; omega
      have BK : Hid (wr.heap[b]? = some (.cells cur t)) := hbk
      have NB : Hid ((∀ q, F i q → q ≠ b) ∧ ¬ F i b ∧ S b) := ⟨fun q hq e => hFb (e ▸ hq), hFb, hSb⟩
      have HT : Hid (ks[i] = (x0, x1, x2)) := hT
      have z0 : b < wr.heap.size := Nat.lt_of_lt_of_le (HS.out b hSb) HJ.out.2.size
      have FZ0 : Hid (∀ q, F i q → q < wr.heap.size) := fun q hq => Nat.lt_of_lt_of_le (HS.out q (HJ.out.1.sub i hlm q hq)) HJ.out.2.size
      have TT0 : Hid (Turn2 b (o + i * 3) (o + i * 3 + 3) (F i) wr wr) := Turn2.refl _ _ _ _ _
      clear hk hrep hcs hc hbk hFb hSb hT f0 f1 f2
      have hx : k1 + 1 + 1 + 1 = k + (cnts (ks.take (i + 1)) : Nat) := by have := W1.out; have := W3.out; have := HK1.out; omega
      have HX : Hid (k1 + 1 + 1 + 1 = k + (cnts (ks.take (i + 1)) : Nat)) := hx
      clear hx
      have NX : Hid (∃ css2, SRow callSp (((wr.setCell ⟨b, o + i * 3, none⟩ (.int .i64 k1)).setCell ⟨b, o + i * 3 + 1, none⟩ (.int .i64 (k1 + 1))).setCell ⟨b, o + i * 3 + 2, none⟩ (.int .i64 (k1 + 1 + 1))) S (some ⟨b, o, none⟩) css2 F (mid k ks (i + 1)) ∧ Only S w (((wr.setCell ⟨b, o + i * 3, none⟩ (.int .i64 k1)).setCell ⟨b, o + i * 3 + 1, none⟩ (.int .i64 (k1 + 1))).setCell ⟨b, o + i * 3 + 2, none⟩ (.int .i64 (k1 + 1 + 1)))) := by
        have CD : CellsAt (((wr.setCell ⟨b, o + i * 3, none⟩ (.int .i64 k1)).setCell ⟨b, o + i * 3 + 1, none⟩ (.int .i64 (k1 + 1))).setCell ⟨b, o + i * 3 + 2, none⟩ (.int .i64 (k1 + 1 + 1))) b (o + i * 3) [.int .i64 k1, .int .i64 (k1 + 1), .int .i64 (k1 + 1 + 1)] := by
          intro q v hq
          match q, hq with
          | 0, hq => simp at hq; subst hq; exact ((cell_set_ne (by omega)).trans ((cell_set_ne (by omega)).trans (cell_set_eq ce0_0)))
          | 1, hq => simp at hq; subst hq; exact ((cell_set_ne (by omega)).trans (cell_set_eq ((cell_set_ne (by omega)).trans ce0_1)))
          | 2, hq => simp at hq; subst hq; exact (cell_set_eq ((cell_set_ne (by omega)).trans ((cell_set_ne (by omega)).trans ce0_2)))
          | _ + 3, hq => simp at hq
        have hsh : callSp.rep (((wr.setCell ⟨b, o + i * 3, none⟩ (.int .i64 k1)).setCell ⟨b, o + i * 3 + 1, none⟩ (.int .i64 (k1 + 1))).setCell ⟨b, o + i * 3 + 2, none⟩ (.int .i64 (k1 + 1 + 1))) (F i) [.int .i64 k1, .int .i64 (k1 + 1), .int .i64 (k1 + 1 + 1)] (mk k1 ((x0, x1, x2))) := by rw [mk_eq]; exact callp_shutv (by omega) (by omega) (by omega)
        rw [← HT.out] at hsh
        have hn := HJ.out.1.turn2 (fun q hq => Nat.lt_of_lt_of_le (HS.out q hq) HJ.out.2.size) hlm rfl ((((Turn2.refl b (o + i * 3) (o + i * 3 + 3) (F i) wr).set (o + i * 3) _ (by omega) (by omega)).set (o + i * 3 + 1) _ (by omega) (by omega)).set (o + i * 3 + 2) _ (by omega) (by omega)) CD hsh
        rw [HK1.out, mid_set k ks hlt] at hn
        rw [HK1.out]
        exact ⟨_, hn.1, HJ.out.2.trans hn.2⟩
      go_wp2
      go_round
      case rel => obtain ⟨css2, n1, n2⟩ := NX.out; exact ⟨i + 1, css2, by omega, by go_num, by have := HX.out; simp only [Value.int.injEq, true_and]; omega, n1, n2⟩
      case measure => simp [intOf]; omega
    · obtain rfl : i = ks.length := by omega
      have hq := HJ.out
      rw [mid_full] at hq
      go_wp2
      go_ret
      refine ⟨by rw [List.take_length]; rfl, ?_, hq.2⟩
      have hl := mks_length k ks
      exact ⟨a, cap, css', F, by rw [hl], by rw [hl]; exact HC.out.1, HC.out.2.1, HC.out.2.2, hq.1⟩

theorem markS_any (ks : List CallD) : MarkSays ks := mark_of ks


end Go.Proofs.YtjofmoebijdccaaGreat.call

namespace Go.Proofs.YtjofmoebijdccaaGreat.vm
open Go.RowKit Go.Proofs.YtjofmoebijdccaaGreat.rose Go.Proofs.YtjofmoebijdccaaGreat
set_option linter.unusedVariables false

/-- How many marks the slices of one take. -/
def cntT : VmD → Nat
  | (x0, x1, x2, x3, x4, x5, x6) => fun.cnts x0 + (heap.cntT x1 + (x2.length + (call.cnts x3 + (x4.length))))

def mkT (k : Int) : VmD → VmD
  | (x0, x1, x2, x3, x4, x5, x6) => (fun.mks (k) x0, heap.mkT (k + (fun.cnts x0 : Nat)) x1, ints.mks (k + (fun.cnts x0 : Nat) + (heap.cntT x1 : Nat)) x2, call.mks (k + (fun.cnts x0 : Nat) + (heap.cntT x1 : Nat) + (x2.length : Nat)) x3, ints.mks (k + (fun.cnts x0 : Nat) + (heap.cntT x1 : Nat) + (x2.length : Nat) + (call.cnts x3 : Nat)) x4, x5, x6)

set_option maxHeartbeats 2000000 in
theorem markT_any (T : VmD) (cs : List Value) (w : World) (k : Int) (S : Nat → Prop) (hk1 : 1 ≤ k) (hk2 : k + (cntT T : Nat) ≤ 1152921504606846976) (hS : ∀ b, S b → b < w.heap.size) (h : vmSp.rep w S cs T) :
    Calls Tryz.prog 14 #[.agg cs.toArray, .int .i64 k] w fun e w' => e = .returned (.int .i64 (k + (cntT T : Nat))) ∧ Only S w w' ∧ vmSp.rep w' S cs (mkT k T) := by
  obtain ⟨x0, a0, c0, x1, u1_0, u1_1, u1_2, u1_3, x2, a2, c2, x3, a3, c3, x4, a4, c4, x5, x6, S0, S1, S2, S3, S4, rfl, rfl, f0, f1, f2, f3, f4, f5, s0, s1, s2, s3, s4, d0_1, d0_2, d0_3, d0_4, d1_2, d1_3, d1_4, d2_3, d2_4, d3_4⟩ := vmp_open h
  have HSB := vmSp.one h
  have ou1_0 : (u1_0).oneCell' = true := HSB _ (by simp)
  have ou1_1 : (u1_1).oneCell' = true := HSB _ (by simp)
  have ou1_2 : (u1_2).oneCell' = true := HSB _ (by simp)
  have ou1_3 : (u1_3).oneCell' = true := HSB _ (by simp)
  clear h HSB
  have HS : Hid (∀ b, S b → b < w.heap.size) := hS
  clear hS
  have hct : cntT ((x0, x1, x2, x3, x4, x5, x6)) = fun.cnts x0 + (heap.cntT x1 + (x2.length + (call.cnts x3 + (x4.length)))) := rfl
  rw [hct] at hk2 ⊢
  clear hct
  have BA : Hid (Below w.heap.size w (w.alloc (.cells #[.slice a0 x0.length c0, u1_0, u1_1, u1_2, u1_3, .slice a2 x2.length c2, .slice a3 x3.length c3, .slice a4 x4.length c4, .int .i64 x5, .bool x6] 43))) := (Below.refl _ _).alloc (Nat.le_refl _) _
  have QS : Hid ((∀ b, S0 b → S b) ∧ (∀ b, S1 b → S b) ∧ (∀ b, S2 b → S b) ∧ (∀ b, S3 b → S b) ∧ (∀ b, S4 b → S b) ∧ (∀ b, S0 b → ¬ S1 b) ∧ (∀ b, S0 b → ¬ S2 b) ∧ (∀ b, S0 b → ¬ S3 b) ∧ (∀ b, S0 b → ¬ S4 b) ∧ (∀ b, S1 b → ¬ S2 b) ∧ (∀ b, S1 b → ¬ S3 b) ∧ (∀ b, S1 b → ¬ S4 b) ∧ (∀ b, S2 b → ¬ S3 b) ∧ (∀ b, S2 b → ¬ S4 b) ∧ (∀ b, S3 b → ¬ S4 b)) := ⟨s0, s1, s2, s3, s4, d0_1, d0_2, d0_3, d0_4, d1_2, d1_3, d1_4, d2_3, d2_4, d3_4⟩
  have R0_0 : Hid (fun.funSp.sslice.rep w S0 [.slice a0 x0.length c0] x0) := f0
  have R0_1 : Hid (heap.heapSp.rep w S1 [u1_0, u1_1, u1_2, u1_3] x1) := f1
  have R0_2 : Hid (Sh.int.sslice.rep w S2 [.slice a2 x2.length c2] x2) := f2
  have R0_3 : Hid (call.callSp.sslice.rep w S3 [.slice a3 x3.length c3] x3) := f3
  have R0_4 : Hid (Sh.int.sslice.rep w S4 [.slice a4 x4.length c4] x4) := f4
  have F5 : Hid (-9223372036854775808 ≤ x5 ∧ x5 ≤ 9223372036854775807) := f5
  clear f0 f1 f2 f3 f4 f5 s0 s1 s2 s3 s4 d0_1 d0_2 d0_3 d0_4 d1_2 d1_3 d1_4 d2_3 d2_4 d3_4
  go_enter Tryz.func14, Tryz.ntmps14
  go_wp2_with fail
  refine (fun.markS_any x0 _ _ (k) S0 (by omega) (by omega) (fun b hb => Nat.lt_of_lt_of_le (HS.out b (QS.out.1 b hb)) BA.out.size) (fun.funSp.sslice.on R0_0.out fun b hb => BA.out.block b (HS.out b (QS.out.1 b hb)))).mono ?_
  rintro e w1 ⟨rfl, hr, ho⟩
  have O1 : Hid (Only S (w.alloc (.cells #[.slice a0 x0.length c0, u1_0, u1_1, u1_2, u1_3, .slice a2 x2.length c2, .slice a3 x3.length c3, .slice a4 x4.length c4, .int .i64 x5, .bool x6] 43)) w1) := ho.mono fun b _ hb => QS.out.1 b hb
  have N1_0 : Hid (fun.funSp.sslice.rep w1 S0 [.slice a0 x0.length c0] (fun.mks (k) x0)) := hr
  have R1_1 : Hid (heap.heapSp.rep w1 S1 [u1_0, u1_1, u1_2, u1_3] x1) := heap.heapSp.on R0_1.out fun b hb => (ho.block b (Nat.lt_of_lt_of_le (HS.out b (QS.out.2.1 b hb)) BA.out.size) ((fun q h1 h2 => QS.out.2.2.2.2.2.1 q h2 h1) b hb)).trans (BA.out.block b (HS.out b (QS.out.2.1 b hb)))
  have R1_2 : Hid (Sh.int.sslice.rep w1 S2 [.slice a2 x2.length c2] x2) := Sh.int.sslice.on R0_2.out fun b hb => (ho.block b (Nat.lt_of_lt_of_le (HS.out b (QS.out.2.2.1 b hb)) BA.out.size) ((fun q h1 h2 => QS.out.2.2.2.2.2.2.1 q h2 h1) b hb)).trans (BA.out.block b (HS.out b (QS.out.2.2.1 b hb)))
  have R1_3 : Hid (call.callSp.sslice.rep w1 S3 [.slice a3 x3.length c3] x3) := call.callSp.sslice.on R0_3.out fun b hb => (ho.block b (Nat.lt_of_lt_of_le (HS.out b (QS.out.2.2.2.1 b hb)) BA.out.size) ((fun q h1 h2 => QS.out.2.2.2.2.2.2.2.1 q h2 h1) b hb)).trans (BA.out.block b (HS.out b (QS.out.2.2.2.1 b hb)))
  have R1_4 : Hid (Sh.int.sslice.rep w1 S4 [.slice a4 x4.length c4] x4) := Sh.int.sslice.on R0_4.out fun b hb => (ho.block b (Nat.lt_of_lt_of_le (HS.out b (QS.out.2.2.2.2.1 b hb)) BA.out.size) ((fun q h1 h2 => QS.out.2.2.2.2.2.2.2.2.1 q h2 h1) b hb)).trans (BA.out.block b (HS.out b (QS.out.2.2.2.2.1 b hb)))
  have b1_1 : w1.cell? ⟨w.heap.size, 1, none⟩ = some (u1_0) := (cell_only ho (by simp) (fun hb => Nat.lt_irrefl _ (HS.out _ (QS.out.1 _ hb)))).trans (by simp)
  have b1_2 : w1.cell? ⟨w.heap.size, 2, none⟩ = some (u1_1) := (cell_only ho (by simp) (fun hb => Nat.lt_irrefl _ (HS.out _ (QS.out.1 _ hb)))).trans (by simp)
  have b1_3 : w1.cell? ⟨w.heap.size, 3, none⟩ = some (u1_2) := (cell_only ho (by simp) (fun hb => Nat.lt_irrefl _ (HS.out _ (QS.out.1 _ hb)))).trans (by simp)
  have b1_4 : w1.cell? ⟨w.heap.size, 4, none⟩ = some (u1_3) := (cell_only ho (by simp) (fun hb => Nat.lt_irrefl _ (HS.out _ (QS.out.1 _ hb)))).trans (by simp)
  have b1_5 : w1.cell? ⟨w.heap.size, 5, none⟩ = some (.slice a2 x2.length c2) := (cell_only ho (by simp) (fun hb => Nat.lt_irrefl _ (HS.out _ (QS.out.1 _ hb)))).trans (by simp)
  have b1_6 : w1.cell? ⟨w.heap.size, 6, none⟩ = some (.slice a3 x3.length c3) := (cell_only ho (by simp) (fun hb => Nat.lt_irrefl _ (HS.out _ (QS.out.1 _ hb)))).trans (by simp)
  have b1_7 : w1.cell? ⟨w.heap.size, 7, none⟩ = some (.slice a4 x4.length c4) := (cell_only ho (by simp) (fun hb => Nat.lt_irrefl _ (HS.out _ (QS.out.1 _ hb)))).trans (by simp)
  clear ho hr
  go_wp2_with fail
  refine (heap.markT_any x1 _ _ (k + (fun.cnts x0 : Nat)) S1 (by omega) (by omega) (fun b hb => Nat.lt_of_lt_of_le (HS.out b (QS.out.2.1 b hb)) (Nat.le_trans BA.out.size O1.out.size)) R1_1.out).mono ?_
  rintro e w2 ⟨rfl, ho, hr⟩
  have O2 : Hid (Only S (w.alloc (.cells #[.slice a0 x0.length c0, u1_0, u1_1, u1_2, u1_3, .slice a2 x2.length c2, .slice a3 x3.length c3, .slice a4 x4.length c4, .int .i64 x5, .bool x6] 43)) w2) := O1.out.trans (ho.mono fun b _ hb => QS.out.2.1 b hb)
  have N2_1 : Hid (heap.heapSp.rep w2 S1 [u1_0, u1_1, u1_2, u1_3] (heap.mkT (k + (fun.cnts x0 : Nat)) x1)) := hr
  have N2_0 : Hid (fun.funSp.sslice.rep w2 S0 [.slice a0 x0.length c0] (fun.mks (k) x0)) := fun.funSp.sslice.on N1_0.out fun b hb => ho.block b (Nat.lt_of_lt_of_le (HS.out b (QS.out.1 b hb)) (Nat.le_trans BA.out.size O1.out.size)) (QS.out.2.2.2.2.2.1 b hb)
  have R2_2 : Hid (Sh.int.sslice.rep w2 S2 [.slice a2 x2.length c2] x2) := Sh.int.sslice.on R1_2.out fun b hb => ho.block b (Nat.lt_of_lt_of_le (HS.out b (QS.out.2.2.1 b hb)) (Nat.le_trans BA.out.size O1.out.size)) ((fun q h1 h2 => QS.out.2.2.2.2.2.2.2.2.2.1 q h2 h1) b hb)
  have R2_3 : Hid (call.callSp.sslice.rep w2 S3 [.slice a3 x3.length c3] x3) := call.callSp.sslice.on R1_3.out fun b hb => ho.block b (Nat.lt_of_lt_of_le (HS.out b (QS.out.2.2.2.1 b hb)) (Nat.le_trans BA.out.size O1.out.size)) ((fun q h1 h2 => QS.out.2.2.2.2.2.2.2.2.2.2.1 q h2 h1) b hb)
  have R2_4 : Hid (Sh.int.sslice.rep w2 S4 [.slice a4 x4.length c4] x4) := Sh.int.sslice.on R1_4.out fun b hb => ho.block b (Nat.lt_of_lt_of_le (HS.out b (QS.out.2.2.2.2.1 b hb)) (Nat.le_trans BA.out.size O1.out.size)) ((fun q h1 h2 => QS.out.2.2.2.2.2.2.2.2.2.2.2.1 q h2 h1) b hb)
  have b2_5 : w2.cell? ⟨w.heap.size, 5, none⟩ = some (.slice a2 x2.length c2) := (cell_only ho (Nat.lt_of_lt_of_le (by simp) O1.out.size) (fun hb => Nat.lt_irrefl _ (HS.out _ (QS.out.2.1 _ hb)))).trans b1_5
  have b2_6 : w2.cell? ⟨w.heap.size, 6, none⟩ = some (.slice a3 x3.length c3) := (cell_only ho (Nat.lt_of_lt_of_le (by simp) O1.out.size) (fun hb => Nat.lt_irrefl _ (HS.out _ (QS.out.2.1 _ hb)))).trans b1_6
  have b2_7 : w2.cell? ⟨w.heap.size, 7, none⟩ = some (.slice a4 x4.length c4) := (cell_only ho (Nat.lt_of_lt_of_le (by simp) O1.out.size) (fun hb => Nat.lt_irrefl _ (HS.out _ (QS.out.2.1 _ hb)))).trans b1_7
  clear b1_1 b1_2 b1_3 b1_4 b1_5 b1_6 b1_7
  clear ho hr
  go_wp2_with fail
  refine (ints.mark_any x2 _ _ (k + (fun.cnts x0 : Nat) + (heap.cntT x1 : Nat)) S2 (by omega) (by omega) (fun b hb => Nat.lt_of_lt_of_le (HS.out b (QS.out.2.2.1 b hb)) (Nat.le_trans BA.out.size O2.out.size)) R2_2.out).mono ?_
  rintro e w3 ⟨rfl, hr, ho⟩
  have O3 : Hid (Only S (w.alloc (.cells #[.slice a0 x0.length c0, u1_0, u1_1, u1_2, u1_3, .slice a2 x2.length c2, .slice a3 x3.length c3, .slice a4 x4.length c4, .int .i64 x5, .bool x6] 43)) w3) := O2.out.trans (ho.mono fun b _ hb => QS.out.2.2.1 b hb)
  have N3_2 : Hid (Sh.int.sslice.rep w3 S2 [.slice a2 x2.length c2] (ints.mks (k + (fun.cnts x0 : Nat) + (heap.cntT x1 : Nat)) x2)) := hr
  have N3_0 : Hid (fun.funSp.sslice.rep w3 S0 [.slice a0 x0.length c0] (fun.mks (k) x0)) := fun.funSp.sslice.on N2_0.out fun b hb => ho.block b (Nat.lt_of_lt_of_le (HS.out b (QS.out.1 b hb)) (Nat.le_trans BA.out.size O2.out.size)) (QS.out.2.2.2.2.2.2.1 b hb)
  have N3_1 : Hid (heap.heapSp.rep w3 S1 [u1_0, u1_1, u1_2, u1_3] (heap.mkT (k + (fun.cnts x0 : Nat)) x1)) := heap.heapSp.on N2_1.out fun b hb => ho.block b (Nat.lt_of_lt_of_le (HS.out b (QS.out.2.1 b hb)) (Nat.le_trans BA.out.size O2.out.size)) (QS.out.2.2.2.2.2.2.2.2.2.1 b hb)
  have R3_3 : Hid (call.callSp.sslice.rep w3 S3 [.slice a3 x3.length c3] x3) := call.callSp.sslice.on R2_3.out fun b hb => ho.block b (Nat.lt_of_lt_of_le (HS.out b (QS.out.2.2.2.1 b hb)) (Nat.le_trans BA.out.size O2.out.size)) ((fun q h1 h2 => QS.out.2.2.2.2.2.2.2.2.2.2.2.2.1 q h2 h1) b hb)
  have R3_4 : Hid (Sh.int.sslice.rep w3 S4 [.slice a4 x4.length c4] x4) := Sh.int.sslice.on R2_4.out fun b hb => ho.block b (Nat.lt_of_lt_of_le (HS.out b (QS.out.2.2.2.2.1 b hb)) (Nat.le_trans BA.out.size O2.out.size)) ((fun q h1 h2 => QS.out.2.2.2.2.2.2.2.2.2.2.2.2.2.1 q h2 h1) b hb)
  have b3_6 : w3.cell? ⟨w.heap.size, 6, none⟩ = some (.slice a3 x3.length c3) := (cell_only ho (Nat.lt_of_lt_of_le (by simp) O2.out.size) (fun hb => Nat.lt_irrefl _ (HS.out _ (QS.out.2.2.1 _ hb)))).trans b2_6
  have b3_7 : w3.cell? ⟨w.heap.size, 7, none⟩ = some (.slice a4 x4.length c4) := (cell_only ho (Nat.lt_of_lt_of_le (by simp) O2.out.size) (fun hb => Nat.lt_irrefl _ (HS.out _ (QS.out.2.2.1 _ hb)))).trans b2_7
  clear b2_5 b2_6 b2_7
  clear ho hr
  go_wp2_with fail
  refine (call.markS_any x3 _ _ (k + (fun.cnts x0 : Nat) + (heap.cntT x1 : Nat) + (x2.length : Nat)) S3 (by omega) (by omega) (fun b hb => Nat.lt_of_lt_of_le (HS.out b (QS.out.2.2.2.1 b hb)) (Nat.le_trans BA.out.size O3.out.size)) R3_3.out).mono ?_
  rintro e w4 ⟨rfl, hr, ho⟩
  have O4 : Hid (Only S (w.alloc (.cells #[.slice a0 x0.length c0, u1_0, u1_1, u1_2, u1_3, .slice a2 x2.length c2, .slice a3 x3.length c3, .slice a4 x4.length c4, .int .i64 x5, .bool x6] 43)) w4) := O3.out.trans (ho.mono fun b _ hb => QS.out.2.2.2.1 b hb)
  have N4_3 : Hid (call.callSp.sslice.rep w4 S3 [.slice a3 x3.length c3] (call.mks (k + (fun.cnts x0 : Nat) + (heap.cntT x1 : Nat) + (x2.length : Nat)) x3)) := hr
  have N4_0 : Hid (fun.funSp.sslice.rep w4 S0 [.slice a0 x0.length c0] (fun.mks (k) x0)) := fun.funSp.sslice.on N3_0.out fun b hb => ho.block b (Nat.lt_of_lt_of_le (HS.out b (QS.out.1 b hb)) (Nat.le_trans BA.out.size O3.out.size)) (QS.out.2.2.2.2.2.2.2.1 b hb)
  have N4_1 : Hid (heap.heapSp.rep w4 S1 [u1_0, u1_1, u1_2, u1_3] (heap.mkT (k + (fun.cnts x0 : Nat)) x1)) := heap.heapSp.on N3_1.out fun b hb => ho.block b (Nat.lt_of_lt_of_le (HS.out b (QS.out.2.1 b hb)) (Nat.le_trans BA.out.size O3.out.size)) (QS.out.2.2.2.2.2.2.2.2.2.2.1 b hb)
  have N4_2 : Hid (Sh.int.sslice.rep w4 S2 [.slice a2 x2.length c2] (ints.mks (k + (fun.cnts x0 : Nat) + (heap.cntT x1 : Nat)) x2)) := Sh.int.sslice.on N3_2.out fun b hb => ho.block b (Nat.lt_of_lt_of_le (HS.out b (QS.out.2.2.1 b hb)) (Nat.le_trans BA.out.size O3.out.size)) (QS.out.2.2.2.2.2.2.2.2.2.2.2.2.1 b hb)
  have R4_4 : Hid (Sh.int.sslice.rep w4 S4 [.slice a4 x4.length c4] x4) := Sh.int.sslice.on R3_4.out fun b hb => ho.block b (Nat.lt_of_lt_of_le (HS.out b (QS.out.2.2.2.2.1 b hb)) (Nat.le_trans BA.out.size O3.out.size)) ((fun q h1 h2 => QS.out.2.2.2.2.2.2.2.2.2.2.2.2.2.2 q h2 h1) b hb)
  have b4_7 : w4.cell? ⟨w.heap.size, 7, none⟩ = some (.slice a4 x4.length c4) := (cell_only ho (Nat.lt_of_lt_of_le (by simp) O3.out.size) (fun hb => Nat.lt_irrefl _ (HS.out _ (QS.out.2.2.2.1 _ hb)))).trans b3_7
  clear b3_6 b3_7
  clear ho hr
  go_wp2_with fail
  refine (ints.mark_any x4 _ _ (k + (fun.cnts x0 : Nat) + (heap.cntT x1 : Nat) + (x2.length : Nat) + (call.cnts x3 : Nat)) S4 (by omega) (by omega) (fun b hb => Nat.lt_of_lt_of_le (HS.out b (QS.out.2.2.2.2.1 b hb)) (Nat.le_trans BA.out.size O4.out.size)) R4_4.out).mono ?_
  rintro e w5 ⟨rfl, hr, ho⟩
  have O5 : Hid (Only S (w.alloc (.cells #[.slice a0 x0.length c0, u1_0, u1_1, u1_2, u1_3, .slice a2 x2.length c2, .slice a3 x3.length c3, .slice a4 x4.length c4, .int .i64 x5, .bool x6] 43)) w5) := O4.out.trans (ho.mono fun b _ hb => QS.out.2.2.2.2.1 b hb)
  have N5_4 : Hid (Sh.int.sslice.rep w5 S4 [.slice a4 x4.length c4] (ints.mks (k + (fun.cnts x0 : Nat) + (heap.cntT x1 : Nat) + (x2.length : Nat) + (call.cnts x3 : Nat)) x4)) := hr
  have N5_0 : Hid (fun.funSp.sslice.rep w5 S0 [.slice a0 x0.length c0] (fun.mks (k) x0)) := fun.funSp.sslice.on N4_0.out fun b hb => ho.block b (Nat.lt_of_lt_of_le (HS.out b (QS.out.1 b hb)) (Nat.le_trans BA.out.size O4.out.size)) (QS.out.2.2.2.2.2.2.2.2.1 b hb)
  have N5_1 : Hid (heap.heapSp.rep w5 S1 [u1_0, u1_1, u1_2, u1_3] (heap.mkT (k + (fun.cnts x0 : Nat)) x1)) := heap.heapSp.on N4_1.out fun b hb => ho.block b (Nat.lt_of_lt_of_le (HS.out b (QS.out.2.1 b hb)) (Nat.le_trans BA.out.size O4.out.size)) (QS.out.2.2.2.2.2.2.2.2.2.2.2.1 b hb)
  have N5_2 : Hid (Sh.int.sslice.rep w5 S2 [.slice a2 x2.length c2] (ints.mks (k + (fun.cnts x0 : Nat) + (heap.cntT x1 : Nat)) x2)) := Sh.int.sslice.on N4_2.out fun b hb => ho.block b (Nat.lt_of_lt_of_le (HS.out b (QS.out.2.2.1 b hb)) (Nat.le_trans BA.out.size O4.out.size)) (QS.out.2.2.2.2.2.2.2.2.2.2.2.2.2.1 b hb)
  have N5_3 : Hid (call.callSp.sslice.rep w5 S3 [.slice a3 x3.length c3] (call.mks (k + (fun.cnts x0 : Nat) + (heap.cntT x1 : Nat) + (x2.length : Nat)) x3)) := call.callSp.sslice.on N4_3.out fun b hb => ho.block b (Nat.lt_of_lt_of_le (HS.out b (QS.out.2.2.2.1 b hb)) (Nat.le_trans BA.out.size O4.out.size)) (QS.out.2.2.2.2.2.2.2.2.2.2.2.2.2.2 b hb)
  clear b4_7
  clear ho hr
  have hx : k + (fun.cnts x0 : Nat) + (heap.cntT x1 : Nat) + (x2.length : Nat) + (call.cnts x3 : Nat) + (x4.length : Nat) = k + ((fun.cnts x0 + (heap.cntT x1 + (x2.length + (call.cnts x3 + (x4.length)))) : Nat) : Int) := by omega
  rw [hx]
  clear hx
  go_wp2
  go_ret
  exact ⟨rfl, (Only.ofBelow BA.out).trans O5.out, vmp_shutv N5_0.out N5_1.out N5_2.out N5_3.out N5_4.out F5.out QS.out.1 QS.out.2.1 QS.out.2.2.1 QS.out.2.2.2.1 QS.out.2.2.2.2.1 QS.out.2.2.2.2.2.1 QS.out.2.2.2.2.2.2.1 QS.out.2.2.2.2.2.2.2.1 QS.out.2.2.2.2.2.2.2.2.1 QS.out.2.2.2.2.2.2.2.2.2.1 QS.out.2.2.2.2.2.2.2.2.2.2.1 QS.out.2.2.2.2.2.2.2.2.2.2.2.1 QS.out.2.2.2.2.2.2.2.2.2.2.2.2.1 QS.out.2.2.2.2.2.2.2.2.2.2.2.2.2.1 QS.out.2.2.2.2.2.2.2.2.2.2.2.2.2.2⟩

end Go.Proofs.YtjofmoebijdccaaGreat.vm

namespace Go.Proofs.YtjofmoebijdccaaGreat.value
open Go.RowKit Go.Proofs.YtjofmoebijdccaaGreat.rose Go.Proofs.YtjofmoebijdccaaGreat
set_option linter.unusedVariables false

abbrev Pay := Int × Int × ByteArray
abbrev ValueD := Rose Pay
abbrev paySh : Sh Pay := Sh.int.pair (Sh.int.pair Sh.str)
abbrev valueSh : Sh ValueD := paySh.rose

theorem value_open {w : World} {S : Nat → Prop} {cs : List Value} {T : ValueD} (h : valueSh.rep w S cs T) : ∃ x0 x1 x2 x3 a3 c3, T = .mk (x0, x1, x2) x3 ∧ cs = [.int .i64 x0, .int .i64 x1, .string x2, .slice a3 x3.length c3] ∧ (-9223372036854775808 ≤ x0 ∧ x0 ≤ 9223372036854775807) ∧ (-9223372036854775808 ≤ x1 ∧ x1 ≤ 9223372036854775807) ∧ x2.size ≤ maxLen ∧ valueSh.slice.rep w S [.slice a3 x3.length c3] x3 := by
  obtain ⟨⟨x0, x1, x2⟩, x3⟩ := T
  obtain ⟨ps, kc, rfl, ⟨_, _, rfl, ⟨rfl, h0⟩, _, _, rfl, ⟨rfl, h1⟩, ⟨rfl, h2⟩⟩, h3⟩ := rose_iff.1 h
  obtain ⟨a3, c3, rfl⟩ := slice_cells h3
  exact ⟨_, _, _, _, _, _, rfl, rfl, h0, h1, h2, h3⟩
theorem value_list {w : World} {S : Nat → Prop} {cs : List Value} {T : ValueD} (h : valueSh.rep w S cs T) : ∃ v0 v1 v2 v3, cs = [v0, v1, v2, v3] := by
  obtain ⟨x0, x1, x2, x3, a3, c3, -, rfl, -⟩ := value_open h
  exact ⟨_, _, _, _, rfl⟩
theorem value_shut {w : World} {S : Nat → Prop} {x0 : Int} {x1 : Int} {x2 : ByteArray} {x3 : List ValueD} {a3 : Option Addr} {c3 : Nat} (h0 : -9223372036854775808 ≤ x0 ∧ x0 ≤ 9223372036854775807) (h1 : -9223372036854775808 ≤ x1 ∧ x1 ≤ 9223372036854775807) (h2 : x2.size ≤ maxLen) (h3 : valueSh.slice.rep w S [.slice a3 x3.length c3] x3) : valueSh.rep w S [.int .i64 x0, .int .i64 x1, .string x2, .slice a3 x3.length c3] (.mk (x0, x1, x2) x3) :=
  rose_iff.2 ⟨[.int .i64 x0, .int .i64 x1, .string x2], [_], rfl, ⟨[_], _, rfl, ⟨rfl, h0⟩, [_], _, rfl, ⟨rfl, h1⟩, ⟨rfl, h2⟩⟩, h3⟩

theorem values_open {w : World} {S : Nat → Prop} {v : Value} {ks : List ValueD} (h : valueSh.slice.rep w S [v] ks) : ∃ a cap css, v = .slice a ks.length cap ∧ ks.length ≤ cap ∧ cap ≤ maxLen ∧ RowAt w S 4 a ks.length css ∧ ∀ i (h : i < ks.length), valueSh.rep w S (css i) ks[i] := by
  obtain ⟨a, cap, css, e, h1, h2, -, h3, h4⟩ := h
  exact ⟨a, cap, css, by simpa using e, h1, h2, h3, h4⟩

theorem value_cells {w : World} {S : Nat → Prop} {b o i : Nat} {cs : List Value} {T : ValueD} (h : valueSh.rep w S cs T) (hc : CellsAt w b (o + i * 4) cs) :
    ∃ v0 v1 v2 v3, cs = [v0, v1, v2, v3] ∧ w.cell? ⟨b, o + i * 4, none⟩ = some v0 ∧ w.cell? ⟨b, o + i * 4 + 1, none⟩ = some v1 ∧ w.cell? ⟨b, o + i * 4 + 2, none⟩ = some v2 ∧ w.cell? ⟨b, o + i * 4 + 3, none⟩ = some v3 := by
  obtain ⟨v0, v1, v2, v3, rfl⟩ := value_list h
  exact ⟨_, _, _, _, rfl, hc 0 _ rfl, hc 1 _ rfl, hc 2 _ rfl, hc 3 _ rfl⟩

mutual
/-- What it weighs. -/
def wt : ValueD → Nat
  | .mk (x0, x1, x2) x3 => x2.size + ((x3.length + wts x3))
def wts : List ValueD → Nat
  | [] => 0
  | k :: ks => wt k + wts ks
end

theorem wts_take {ks : List ValueD} {i : Nat} (h : i < ks.length) : wts (ks.take (i + 1)) = wts (ks.take i) + wt ks[i] := by
  induction ks generalizing i with
  | nil => simp at h
  | cons k ks ih =>
    cases i with
    | zero => simp [wts]
    | succ i => simp [wts, ih (by simpa using h)]; omega
theorem wts_take_le (ks : List ValueD) (i : Nat) : wts (ks.take i) ≤ wts ks := by
  induction ks generalizing i with
  | nil => simp [wts]
  | cons k ks ih =>
    cases i with
    | zero => simp [wts]
    | succ i => simp [wts]; exact ih i
theorem wt_mem {ks : List ValueD} {k : ValueD} (h : k ∈ ks) : wt k ≤ wts ks := by
  induction ks with
  | nil => cases h
  | cons a ks ih =>
    simp only [wts]
    rcases List.mem_cons.1 h with rfl | h
    · omega
    · have := ih h; omega

end Go.Proofs.YtjofmoebijdccaaGreat.value
