/-
  The law's marks in a Scheme: where it lies apart, each cell gets a number, or a text, of its own, and what is read back is what was written; nothing else is turned.
-/
import Derived.Test.YtklcjjckelahcaaSchemeSp
import Derived.Test.YtklcjjckelahcaaSep2
import Derived.Test.YtklcjjckelahcaaMarkText
import Derived.Test.YtklcjjckelahcaaTyMark
import Derived.Deep.RegionWith
namespace Go.Proofs.Ytklcjjckelahcaa.scheme
open Go.RowKit Go.Proofs.Ytklcjjckelahcaa.rose Go.Proofs.Ytklcjjckelahcaa
set_option linter.unusedVariables false

/-- How many marks it takes as an element. -/
def cnt : SchemeD → Nat
  | (x0, (.mk (x1_0, x1_1, x1_2) x1_3)) => 3 + (x0.length + (ty.cnts x1_3))
def cnts : List SchemeD → Nat
  | [] => 0
  | k :: ks => cnt k + cnts ks
def mk (k : Int) : SchemeD → SchemeD
  | (x0, (.mk (x1_0, x1_1, x1_2) x1_3)) => (ints.mks (k) x0, (.mk (k + (x0.length : Nat), k + (x0.length : Nat) + 1, mark.txt (k + (x0.length : Nat) + 1 + 1)) (ty.mks (k + (x0.length : Nat) + 1 + 1 + 1) x1_3)))
def mks (k : Int) : List SchemeD → List SchemeD
  | [] => []
  | t :: ts => mk k t :: mks (k + (cnt t : Nat)) ts

theorem mks_length (k : Int) (ks : List SchemeD) : (mks k ks).length = ks.length := by
  induction ks generalizing k with
  | nil => simp [mks]
  | cons t ts ih => simp [mks, ih]
theorem cnts_take {ks : List SchemeD} {i : Nat} (h : i < ks.length) : cnts (ks.take (i + 1)) = cnts (ks.take i) + cnt ks[i] := by
  induction ks generalizing i with
  | nil => simp at h
  | cons k ks ih =>
    cases i with
    | zero => simp [cnts]
    | succ i => simp [cnts, ih (by simpa using h)]; omega
theorem cnts_take_le (ks : List SchemeD) (i : Nat) : cnts (ks.take i) ≤ cnts ks := by
  induction ks generalizing i with
  | nil => simp [cnts]
  | cons k ks ih =>
    cases i with
    | zero => simp [cnts]
    | succ i => simp [cnts]; exact ih i
theorem mks_get {k : Int} {ks : List SchemeD} {i : Nat} (h : i < ks.length) (h' : i < (mks k ks).length) : (mks k ks)[i] = mk (k + (cnts (ks.take i) : Nat)) ks[i] := by
  induction ks generalizing k i with
  | nil => simp at h
  | cons t ts ih =>
    cases i with
    | zero => simp [mks, cnts]
    | succ i =>
      simp only [mks, List.getElem_cons_succ, List.take_succ_cons, cnts]
      rw [ih (by simpa using h)]
      congr 1
      omega
theorem cnt_le (T : SchemeD) : cnt T ≤ 3 + 3 * wt T := by
  obtain ⟨x0, ⟨⟨x1_0, x1_1, x1_2⟩, x1_3⟩⟩ := T
  have := ty.cnts_le x1_3
  simp only [cnt, wt, ty.wt]
  omega
theorem cnts_le (ks : List SchemeD) : cnts ks ≤ 3 * (ks.length + wts ks) := by
  induction ks with
  | nil => simp [cnts]
  | cons a l ih =>
    have := cnt_le a
    simp only [cnts, wts, List.length_cons]
    omega

/-- The first i are marked. -/
def mid (k : Int) (ks : List SchemeD) (i : Nat) : List SchemeD := (mks k ks).take i ++ ks.drop i
theorem mid_length (k : Int) (ks : List SchemeD) {i : Nat} (h : i ≤ ks.length) : (mid k ks i).length = ks.length := by
  simp [mid, mks_length]; omega
theorem mid_zero (k : Int) (ks : List SchemeD) : mid k ks 0 = ks := by simp [mid]
theorem mid_full (k : Int) (ks : List SchemeD) : mid k ks ks.length = mks k ks := by
  unfold mid; rw [List.take_of_length_le (by rw [mks_length]; exact Nat.le_refl _)]; simp
theorem mid_get (k : Int) (ks : List SchemeD) {i : Nat} (h : i < ks.length) (h' : i < (mid k ks i).length) : (mid k ks i)[i] = ks[i] := by
  have e : (mid k ks i)[i]? = ks[i]? := by
    unfold mid
    rw [List.getElem?_append_right (by simp; omega)]
    simp [mks_length, Nat.min_eq_left (Nat.le_of_lt h)]
  rw [List.getElem?_eq_getElem h, List.getElem?_eq_getElem h'] at e
  exact Option.some.inj e
theorem mid_set (k : Int) (ks : List SchemeD) {i : Nat} (h : i < ks.length) : (mid k ks i).set i (mk (k + (cnts (ks.take i) : Nat)) ks[i]) = mid k ks (i + 1) := by
  unfold mid
  have hl : ((mks k ks).take i).length = i := by simp [mks_length]; omega
  rw [List.set_append, if_neg (by omega), hl, Nat.sub_self, List.drop_eq_getElem_cons h, List.set_cons_zero]
  rw [List.take_succ_eq_append_getElem (show i < (mks k ks).length by rw [mks_length]; exact h), List.append_assoc, mks_get h]
  rfl

def MarkSays (ks : List SchemeD) : Prop := ∀ (v : Value) (w : World) (k : Int) (S : Nat → Prop), 1 ≤ k → k + (cnts ks : Nat) ≤ 1152921504606846976 → (∀ b, S b → b < w.heap.size) → schemeSp.sslice.rep w S [v] ks →
  Calls Try.prog 23 #[v, .int .i64 k] w fun e w' => e = .returned (.int .i64 (k + (cnts ks : Nat))) ∧ schemeSp.sslice.rep w' S [v] (mks k ks) ∧ Only S w w'

theorem mk_eq (k : Int) (x0 : List Int) (x1_0 : Int) (x1_1 : Int) (x1_2 : ByteArray) (x1_3 : List ty.TyD) : mk k ((x0, (.mk (x1_0, x1_1, x1_2) x1_3))) = (ints.mks (k) x0, (.mk (k + (x0.length : Nat), k + (x0.length : Nat) + 1, mark.txt (k + (x0.length : Nat) + 1 + 1)) (ty.mks (k + (x0.length : Nat) + 1 + 1 + 1) x1_3))) := by simp [mk]

set_option maxRecDepth 100000 in
set_option maxHeartbeats 4000000 in
theorem mark_of (ks : List SchemeD) : MarkSays ks := by
  intro v w k S hk1 hk2 hS h
  obtain ⟨a, cap, css, F, rfl, hcap, hmax, hnone, hrow⟩ := schemeps_open h
  have hmx : (ks.length : Int) ≤ 9223372036854775807 := by unfold maxLen at hmax; omega
  have HC : Hid (ks.length ≤ cap ∧ cap ≤ maxLen ∧ (a = none → cap = 0)) := ⟨hcap, hmax, hnone⟩
  have HS : Hid (∀ b, S b → b < w.heap.size) := hS
  have HR : Hid (SRow schemeSp w S a css F (mid k ks 0)) := by show SRow _ _ _ _ _ _ _; rw [mid_zero]; exact hrow
  clear h hcap hmax hnone hS hrow
  have HK : Hid (k + (cnts ks : Nat) ≤ 1152921504606846976) := hk2
  clear hk2
  go_enter Try.func23, Try.ntmps23
  go_wp2
  go_loopw [1, 5] (fun v1 v5 wr => ∃ (i : Nat) (css' : Nat → List Value), i ≤ ks.length ∧ v5 = .int .i64 i ∧ v1 = .int .i64 (k + (cnts (ks.take i) : Nat)) ∧ Hid (SRow schemeSp wr S a css' F (mid k ks i) ∧ Only S w wr)) (fun _ v5 _ => ks.length - (intOf v5).toNat)
  case atStart => exact ⟨0, css, Nat.zero_le _, rfl, by simp [cnts], HR.out, Only.refl _ _⟩
  case round =>
    obtain ⟨i, css', hi, rfl, rfl, HJ⟩ := hrel
    by_cases hlt : i < ks.length
    · have hlm : i < (mid k ks i).length := by rw [mid_length k ks hi]; exact hlt
      obtain ⟨b, o, rfl, hSb, hFb, hc, hfz, cur, t, hbk⟩ := HJ.out.1.at hlm
      have hrep := HJ.out.1.rep i hlm
      rw [mid_get k ks hlt] at hrep
      obtain ⟨x0, a0, c0, x1, u1_0, u1_1, u1_2, u1_3, Q0, Q1, hT, hcs, f0, f1, s0, s1, d0_1⟩ := schemep_open hrep
      obtain ⟨x1_0, x1_1, x1_2, x1_3, a1_3, c1_3, hT1, hcs1, g1_0, g1_1, g1_2, g1_3⟩ := ty.typ_open f1
      simp only [List.cons.injEq, and_true] at hcs1
      obtain ⟨rfl, rfl, rfl, rfl⟩ := hcs1
      subst hT1
      rw [hcs] at hc
      have ce0_0 : wr.cell? ⟨b, o + i * 5, none⟩ = some (.slice a0 x0.length c0) := hc 0 _ rfl
      have ce0_1 : wr.cell? ⟨b, o + i * 5 + 1, none⟩ = some (.int .i64 x1_0) := hc 1 _ rfl
      have ce0_2 : wr.cell? ⟨b, o + i * 5 + 2, none⟩ = some (.int .i64 x1_1) := hc 2 _ rfl
      have ce0_3 : wr.cell? ⟨b, o + i * 5 + 3, none⟩ = some (.string x1_2) := hc 3 _ rfl
      have ce0_4 : wr.cell? ⟨b, o + i * 5 + 4, none⟩ = some (.slice a1_3 x1_3.length c1_3) := hc 4 _ rfl
      have W1 : Hid (cnts (ks.take (i + 1)) = cnts (ks.take i) + cnt ks[i]) := cnts_take hlt
      have W2 : Hid (cnts (ks.take (i + 1)) ≤ cnts ks) := cnts_take_le ks (i + 1)
      have W3 : Hid (cnt ks[i] = 3 + (x0.length + (ty.cnts x1_3))) := by show _ = _; rw [hT]; simp [cnt]
      obtain ⟨k1, hk⟩ : ∃ k1 : Int, k1 = k + (cnts (ks.take i) : Nat) := ⟨_, rfl⟩
      have HK1 : Hid (k1 = k + (cnts (ks.take i) : Nat)) := hk
      rw [← hk]
      have hb1 : 1 ≤ k1 := by omega
      have hb2 : k1 + 3 + (x0.length : Nat) + (ty.cnts x1_3 : Nat) ≤ 1152921504606846976 := by have := W1.out; have := W2.out; have := W3.out; have := HK.out; omega
      have BK : Hid (wr.heap[b]? = some (.cells cur t)) := hbk
      have NB : Hid ((∀ q, F i q → q ≠ b) ∧ ¬ F i b ∧ S b) := ⟨fun q hq e => hFb (e ▸ hq), hFb, hSb⟩
      have HT : Hid (ks[i] = (x0, (.mk (x1_0, x1_1, x1_2) x1_3))) := hT
      have z0 : b < wr.heap.size := Nat.lt_of_lt_of_le (HS.out b hSb) HJ.out.2.size
      have FZ0 : Hid (∀ q, F i q → q < wr.heap.size) := fun q hq => Nat.lt_of_lt_of_le (HS.out q (HJ.out.1.sub i hlm q hq)) HJ.out.2.size
      have TT0 : Hid (Turn2 b (o + i * 5) (o + i * 5 + 5) (F i) wr wr) := Turn2.refl _ _ _ _ _
      have QS : Hid ((∀ q, Q0 q → F i q) ∧ (∀ q, Q1 q → F i q) ∧ (∀ q, Q0 q → ¬ Q1 q)) := ⟨s0, s1, d0_1⟩
      have R0_0 : Hid (Sh.int.sslice.rep wr (Q0) [.slice a0 x0.length c0] x0) := f0
      have R0_1_3 : Hid (ty.tySp.sslice.rep wr (Q1) [.slice a1_3 x1_3.length c1_3] x1_3) := g1_3
      clear hk hrep hcs hc hbk hFb hSb hT f0 f1 s0 s1 d0_1 g1_0 g1_1 g1_2 g1_3
      have hcall := ints.mark_any x0 (.slice a0 x0.length c0) (wr) (k1) (Q0) (by omega) (by omega) (fun q hq => by first | exact FZ0.out q (QS.out.1 q hq) | (simp only [size_set]; exact FZ0.out q (QS.out.1 q hq))) (Sh.int.sslice.on R0_0.out fun q hq => by rfl)
      go_wp2_with fail
      refine hcall.mono ?_
      clear hcall
      rintro e w1 ⟨rfl, hr, ho⟩
      have hzc : b < (wr).heap.size := by first | exact z0 | (simp only [size_set]; exact z0)
      have SG : Turn2 b (o + i * 5) (o + i * 5 + 5) (Q0) wr w1 := (Turn2.refl b (o + i * 5) (o + i * 5 + 5) (Q0) wr).calls ho hzc (fun _ h => h) (fun h => NB.out.2.1 (QS.out.1 _ h))
      have ce1_0 : w1.cell? ⟨b, o + i * 5, none⟩ = some (.slice a0 x0.length c0) := (cell_only ho hzc (fun h => NB.out.2.1 (QS.out.1 _ h))).trans ce0_0
      have ce1_1 : w1.cell? ⟨b, o + i * 5 + 1, none⟩ = some (.int .i64 x1_0) := (cell_only ho hzc (fun h => NB.out.2.1 (QS.out.1 _ h))).trans ce0_1
      have ce1_2 : w1.cell? ⟨b, o + i * 5 + 2, none⟩ = some (.int .i64 x1_1) := (cell_only ho hzc (fun h => NB.out.2.1 (QS.out.1 _ h))).trans ce0_2
      have ce1_3 : w1.cell? ⟨b, o + i * 5 + 3, none⟩ = some (.string x1_2) := (cell_only ho hzc (fun h => NB.out.2.1 (QS.out.1 _ h))).trans ce0_3
      have ce1_4 : w1.cell? ⟨b, o + i * 5 + 4, none⟩ = some (.slice a1_3 x1_3.length c1_3) := (cell_only ho hzc (fun h => NB.out.2.1 (QS.out.1 _ h))).trans ce0_4
      have z1 : b < w1.heap.size := Nat.lt_of_lt_of_le z0 SG.only.size
      have TT1 : Hid (Turn2 b (o + i * 5) (o + i * 5 + 5) (F i) wr w1) := TT0.out.trans (SG.mono (QS.out.1))
      have FZ1 : Hid (∀ q, F i q → q < w1.heap.size) := fun q hq => Nat.lt_of_lt_of_le (FZ0.out q hq) SG.only.size
      have R1_0 : Hid (Sh.int.sslice.rep w1 (Q0) [.slice a0 x0.length c0] (ints.mks (k1) x0)) := hr
      have R1_1_3 : Hid (ty.tySp.sslice.rep w1 (Q1) [.slice a1_3 x1_3.length c1_3] (x1_3)) := ty.tySp.sslice.on R0_1_3.out fun q hq => SG.only.block q (FZ0.out q (QS.out.2.1 q hq)) (fun e => e.elim (fun e => NB.out.1 q (QS.out.2.1 q hq) e) (fun h => (fun q h1 h2 => QS.out.2.2 q h2 h1) q hq h))
      have fz1 := TT1.out.fz BK.out
      clear SG hzc ho hr ce0_0 ce0_1 ce0_2 ce0_3 ce0_4 FZ0 TT0 z0 hfz R0_0 R0_1_3
      go_wp2_with fail
      refine (mark.text_any _ (by omega) (by omega) _).mono ?_
      rintro e w2 ⟨rfl, hb⟩
      have hzc : b < ((w1.setCell ⟨b, o + i * 5 + 1, none⟩ (.int .i64 (k1 + (x0.length : Nat)))).setCell ⟨b, o + i * 5 + 2, none⟩ (.int .i64 (k1 + (x0.length : Nat) + 1))).heap.size := by first | exact z1 | (simp only [size_set]; exact z1)
      have SG : Turn2 b (o + i * 5) (o + i * 5 + 5) (fun _ => False) w1 w2 := (((Turn2.refl b (o + i * 5) (o + i * 5 + 5) (fun _ => False) w1).set (o + i * 5 + 1) _ (by omega) (by omega)).set (o + i * 5 + 2) _ (by omega) (by omega)).below hb hzc
      have ce2_0 : w2.cell? ⟨b, o + i * 5, none⟩ = some (.slice a0 x0.length c0) := (hb.cell (p := ⟨b, o + i * 5, none⟩) hzc).trans ((cell_set_ne (by omega)).trans ((cell_set_ne (by omega)).trans ce1_0))
      have ce2_1 : w2.cell? ⟨b, o + i * 5 + 1, none⟩ = some (.int .i64 (k1 + (x0.length : Nat))) := (hb.cell (p := ⟨b, o + i * 5 + 1, none⟩) hzc).trans ((cell_set_ne (by omega)).trans (cell_set_eq ce1_1))
      have ce2_2 : w2.cell? ⟨b, o + i * 5 + 2, none⟩ = some (.int .i64 (k1 + (x0.length : Nat) + 1)) := (hb.cell (p := ⟨b, o + i * 5 + 2, none⟩) hzc).trans (cell_set_eq ((cell_set_ne (by omega)).trans ce1_2))
      have ce2_3 : w2.cell? ⟨b, o + i * 5 + 3, none⟩ = some (.string x1_2) := (hb.cell (p := ⟨b, o + i * 5 + 3, none⟩) hzc).trans ((cell_set_ne (by omega)).trans ((cell_set_ne (by omega)).trans ce1_3))
      have ce2_4 : w2.cell? ⟨b, o + i * 5 + 4, none⟩ = some (.slice a1_3 x1_3.length c1_3) := (hb.cell (p := ⟨b, o + i * 5 + 4, none⟩) hzc).trans ((cell_set_ne (by omega)).trans ((cell_set_ne (by omega)).trans ce1_4))
      have z2 : b < w2.heap.size := Nat.lt_of_lt_of_le z1 SG.only.size
      have TT2 : Hid (Turn2 b (o + i * 5) (o + i * 5 + 5) (F i) wr w2) := TT1.out.trans (SG.mono (fun _ h => h.elim))
      have FZ2 : Hid (∀ q, F i q → q < w2.heap.size) := fun q hq => Nat.lt_of_lt_of_le (FZ1.out q hq) SG.only.size
      have R2_0 : Hid (Sh.int.sslice.rep w2 (Q0) [.slice a0 x0.length c0] (ints.mks (k1) x0)) := Sh.int.sslice.on R1_0.out fun q hq => SG.only.block q (FZ1.out q (QS.out.1 q hq)) (fun e => e.elim (fun e => NB.out.1 q (QS.out.1 q hq) e) (fun h => h.elim))
      have R2_1_3 : Hid (ty.tySp.sslice.rep w2 (Q1) [.slice a1_3 x1_3.length c1_3] (x1_3)) := ty.tySp.sslice.on R1_1_3.out fun q hq => SG.only.block q (FZ1.out q (QS.out.2.1 q hq)) (fun e => e.elim (fun e => NB.out.1 q (QS.out.2.1 q hq) e) (fun h => h.elim))
      have fz2 := TT2.out.fz BK.out
      clear SG hzc hb ce1_0 ce1_1 ce1_2 ce1_3 ce1_4 FZ1 TT1 z1 fz1 R1_0 R1_1_3
      have dd : (w2.setCell ⟨b, o + i * 5 + 3, none⟩ (.string (mark.txt (k1 + (x0.length : Nat) + 1 + 1)))).cell? ⟨b, o + i * 5 + 4, none⟩ = some (.slice a1_3 x1_3.length c1_3) := ((cell_set_ne (by omega)).trans ce2_4)
      have hcall := ty.markS_any x1_3 (.slice a1_3 x1_3.length c1_3) (w2.setCell ⟨b, o + i * 5 + 3, none⟩ (.string (mark.txt (k1 + (x0.length : Nat) + 1 + 1)))) (k1 + (x0.length : Nat) + 1 + 1 + 1) (Q1) (by omega) (by omega) (fun q hq => by first | exact FZ2.out q (QS.out.2.1 q hq) | (simp only [size_set]; exact FZ2.out q (QS.out.2.1 q hq))) (ty.tySp.sslice.on R2_1_3.out fun q hq => by repeat rw [block_set (NB.out.1 q (QS.out.2.1 q hq))])
      go_wp2_with fail
      refine hcall.mono ?_
      clear hcall dd
      rintro e w3 ⟨rfl, hr, ho⟩
      have hzc : b < (w2.setCell ⟨b, o + i * 5 + 3, none⟩ (.string (mark.txt (k1 + (x0.length : Nat) + 1 + 1)))).heap.size := by first | exact z2 | (simp only [size_set]; exact z2)
      have SG : Turn2 b (o + i * 5) (o + i * 5 + 5) (Q1) w2 w3 := ((Turn2.refl b (o + i * 5) (o + i * 5 + 5) (Q1) w2).set (o + i * 5 + 3) _ (by omega) (by omega)).calls ho hzc (fun _ h => h) (fun h => NB.out.2.1 (QS.out.2.1 _ h))
      have ce3_0 : w3.cell? ⟨b, o + i * 5, none⟩ = some (.slice a0 x0.length c0) := (cell_only ho hzc (fun h => NB.out.2.1 (QS.out.2.1 _ h))).trans ((cell_set_ne (by omega)).trans ce2_0)
      have ce3_1 : w3.cell? ⟨b, o + i * 5 + 1, none⟩ = some (.int .i64 (k1 + (x0.length : Nat))) := (cell_only ho hzc (fun h => NB.out.2.1 (QS.out.2.1 _ h))).trans ((cell_set_ne (by omega)).trans ce2_1)
      have ce3_2 : w3.cell? ⟨b, o + i * 5 + 2, none⟩ = some (.int .i64 (k1 + (x0.length : Nat) + 1)) := (cell_only ho hzc (fun h => NB.out.2.1 (QS.out.2.1 _ h))).trans ((cell_set_ne (by omega)).trans ce2_2)
      have ce3_3 : w3.cell? ⟨b, o + i * 5 + 3, none⟩ = some (.string (mark.txt (k1 + (x0.length : Nat) + 1 + 1))) := (cell_only ho hzc (fun h => NB.out.2.1 (QS.out.2.1 _ h))).trans (cell_set_eq ce2_3)
      have ce3_4 : w3.cell? ⟨b, o + i * 5 + 4, none⟩ = some (.slice a1_3 x1_3.length c1_3) := (cell_only ho hzc (fun h => NB.out.2.1 (QS.out.2.1 _ h))).trans ((cell_set_ne (by omega)).trans ce2_4)
      have z3 : b < w3.heap.size := Nat.lt_of_lt_of_le z2 SG.only.size
      have TT3 : Hid (Turn2 b (o + i * 5) (o + i * 5 + 5) (F i) wr w3) := TT2.out.trans (SG.mono (QS.out.2.1))
      have FZ3 : Hid (∀ q, F i q → q < w3.heap.size) := fun q hq => Nat.lt_of_lt_of_le (FZ2.out q hq) SG.only.size
      have R3_0 : Hid (Sh.int.sslice.rep w3 (Q0) [.slice a0 x0.length c0] (ints.mks (k1) x0)) := Sh.int.sslice.on R2_0.out fun q hq => SG.only.block q (FZ2.out q (QS.out.1 q hq)) (fun e => e.elim (fun e => NB.out.1 q (QS.out.1 q hq) e) (fun h => QS.out.2.2 q hq h))
      have R3_1_3 : Hid (ty.tySp.sslice.rep w3 (Q1) [.slice a1_3 x1_3.length c1_3] (ty.mks (k1 + (x0.length : Nat) + 1 + 1 + 1) x1_3)) := hr
      have fz3 := TT3.out.fz BK.out
      clear SG hzc ho hr ce2_0 ce2_1 ce2_2 ce2_3 ce2_4 FZ2 TT2 z2 fz2 R2_0 R2_1_3
      have hx : k1 + (x0.length : Nat) + 1 + 1 + 1 + (ty.cnts x1_3 : Nat) = k + (cnts (ks.take (i + 1)) : Nat) := by have := W1.out; have := W3.out; have := HK1.out; omega
      rw [hx]
      clear hx
      have NX : Hid (∃ css2, SRow schemeSp w3 S (some ⟨b, o, none⟩) css2 F (mid k ks (i + 1)) ∧ Only S w w3) := by
        have CD : CellsAt w3 b (o + i * 5) [.slice a0 x0.length c0, .int .i64 (k1 + (x0.length : Nat)), .int .i64 (k1 + (x0.length : Nat) + 1), .string (mark.txt (k1 + (x0.length : Nat) + 1 + 1)), .slice a1_3 x1_3.length c1_3] := by
          intro q v hq
          match q, hq with
          | 0, hq => simp at hq; subst hq; exact ce3_0
          | 1, hq => simp at hq; subst hq; exact ce3_1
          | 2, hq => simp at hq; subst hq; exact ce3_2
          | 3, hq => simp at hq; subst hq; exact ce3_3
          | 4, hq => simp at hq; subst hq; exact ce3_4
          | _ + 5, hq => simp at hq
        have hsh : schemeSp.rep w3 (F i) [.slice a0 x0.length c0, .int .i64 (k1 + (x0.length : Nat)), .int .i64 (k1 + (x0.length : Nat) + 1), .string (mark.txt (k1 + (x0.length : Nat) + 1 + 1)), .slice a1_3 x1_3.length c1_3] (mk k1 ((x0, (.mk (x1_0, x1_1, x1_2) x1_3)))) := by rw [mk_eq]; exact schemep_shutv R3_0.out (ty.typ_shutv (by omega) (by omega) (mark.txt_size (by omega)) R3_1_3.out) QS.out.1 QS.out.2.1 QS.out.2.2
        rw [← HT.out] at hsh
        have hn := HJ.out.1.turn2 (fun q hq => Nat.lt_of_lt_of_le (HS.out q hq) HJ.out.2.size) hlm rfl TT3.out CD hsh
        rw [HK1.out, mid_set k ks hlt] at hn
        exact ⟨_, hn.1, HJ.out.2.trans hn.2⟩
      clear fz3 ce3_0 ce3_1 ce3_2 ce3_3 ce3_4 R3_0 R3_1_3
      go_wp2
      go_round
      case rel => obtain ⟨css2, n1, n2⟩ := NX.out; exact ⟨i + 1, css2, by omega, by go_num, rfl, n1, n2⟩
      case measure => simp [intOf]; omega
    · obtain rfl : i = ks.length := by omega
      have hq := HJ.out
      rw [mid_full] at hq
      go_wp2
      go_ret
      refine ⟨by rw [List.take_length]; rfl, ?_, hq.2⟩
      have hl := mks_length k ks
      exact ⟨a, cap, css', F, by rw [hl], by rw [hl]; exact HC.out.1, HC.out.2.1, HC.out.2.2, hq.1⟩

theorem markS_any (ks : List SchemeD) : MarkSays ks := mark_of ks


end Go.Proofs.Ytklcjjckelahcaa.scheme
