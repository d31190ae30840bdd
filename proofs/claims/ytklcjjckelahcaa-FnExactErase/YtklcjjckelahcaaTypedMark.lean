/-
  The law's marks in a Typed: where it lies apart, each cell gets a number, or a text, of its own, and what is read back is what was written; nothing else is turned.
-/
import Derived.Test.YtklcjjckelahcaaTypedSp
import Derived.Test.YtklcjjckelahcaaSep2
import Derived.Test.YtklcjjckelahcaaMarkText
import Derived.Test.YtklcjjckelahcaaTyMark
import Derived.Deep.RegionWith
namespace Go.Proofs.Ytklcjjckelahcaa.typed
open Go.RowKit Go.Proofs.Ytklcjjckelahcaa.rose Go.Proofs.Ytklcjjckelahcaa
set_option linter.unusedVariables false

mutual
/-- How many marks it takes as an element. -/
def cnt : TypedD → Nat
  | .mk (x0, x1, x2, x3, (.mk (x4_0, x4_1, x4_2) x4_3), x5, x6) x7 => 7 + (ty.cnts x4_3 + (ty.cnts x5 + (x6.length + (cnts x7))))
def cnts : List TypedD → Nat
  | [] => 0
  | k :: ks => cnt k + cnts ks
end
mutual
def mk (k : Int) : TypedD → TypedD
  | .mk (x0, x1, x2, x3, (.mk (x4_0, x4_1, x4_2) x4_3), x5, x6) x7 => .mk (k, k + 1, mark.txt (k + 1 + 1), mark.txt (k + 1 + 1 + 1), (.mk (k + 1 + 1 + 1 + 1, k + 1 + 1 + 1 + 1 + 1, mark.txt (k + 1 + 1 + 1 + 1 + 1 + 1)) (ty.mks (k + 1 + 1 + 1 + 1 + 1 + 1 + 1) x4_3)), ty.mks (k + 1 + 1 + 1 + 1 + 1 + 1 + 1 + (ty.cnts x4_3 : Nat)) x5, ints.mks (k + 1 + 1 + 1 + 1 + 1 + 1 + 1 + (ty.cnts x4_3 : Nat) + (ty.cnts x5 : Nat)) x6) (mks (k + 1 + 1 + 1 + 1 + 1 + 1 + 1 + (ty.cnts x4_3 : Nat) + (ty.cnts x5 : Nat) + (x6.length : Nat)) x7)
def mks (k : Int) : List TypedD → List TypedD
  | [] => []
  | t :: ts => mk k t :: mks (k + (cnt t : Nat)) ts
end

theorem mks_length (k : Int) (ks : List TypedD) : (mks k ks).length = ks.length := by
  induction ks generalizing k with
  | nil => simp [mks]
  | cons t ts ih => simp [mks, ih]
theorem cnts_take {ks : List TypedD} {i : Nat} (h : i < ks.length) : cnts (ks.take (i + 1)) = cnts (ks.take i) + cnt ks[i] := by
  induction ks generalizing i with
  | nil => simp at h
  | cons k ks ih =>
    cases i with
    | zero => simp [cnts]
    | succ i => simp [cnts, ih (by simpa using h)]; omega
theorem cnts_take_le (ks : List TypedD) (i : Nat) : cnts (ks.take i) ≤ cnts ks := by
  induction ks generalizing i with
  | nil => simp [cnts]
  | cons k ks ih =>
    cases i with
    | zero => simp [cnts]
    | succ i => simp [cnts]; exact ih i
theorem mks_get {k : Int} {ks : List TypedD} {i : Nat} (h : i < ks.length) (h' : i < (mks k ks).length) : (mks k ks)[i] = mk (k + (cnts (ks.take i) : Nat)) ks[i] := by
  induction ks generalizing k i with
  | nil => simp at h
  | cons t ts ih =>
    cases i with
    | zero => simp [mks, cnts]
    | succ i =>
      simp only [mks, List.getElem_cons_succ, List.take_succ_cons, cnts]
      rw [ih (by simpa using h)]
      congr 1
      omega
theorem cnt_le (T : TypedD) : cnt T ≤ 7 + 7 * wt T := by
  induction T using ind with
  | h x x7 ih =>
    have key : ∀ l : List TypedD, (∀ k ∈ l, cnt k ≤ 7 + 7 * wt k) → cnts l ≤ 7 * (l.length + wts l) := by
      intro l
      induction l with
      | nil => intro _; simp [cnts]
      | cons a l ih2 =>
        intro h
        have h1 := h a (by simp)
        have h2 := ih2 fun k hk => h k (by simp [hk])
        simp only [cnts, wts, List.length_cons]
        omega
    have := key x7 ih
    obtain ⟨x0, x1, x2, x3, ⟨⟨x4_0, x4_1, x4_2⟩, x4_3⟩, x5, x6⟩ := x
    have := ty.cnts_le x4_3
    have := ty.cnts_le x5
    simp only [cnt, wt, ty.wt]
    omega
theorem cnts_le (ks : List TypedD) : cnts ks ≤ 7 * (ks.length + wts ks) := by
  induction ks with
  | nil => simp [cnts]
  | cons a l ih =>
    have := cnt_le a
    simp only [cnts, wts, List.length_cons]
    omega

/-- The first i are marked. -/
def mid (k : Int) (ks : List TypedD) (i : Nat) : List TypedD := (mks k ks).take i ++ ks.drop i
theorem mid_length (k : Int) (ks : List TypedD) {i : Nat} (h : i ≤ ks.length) : (mid k ks i).length = ks.length := by
  simp [mid, mks_length]; omega
theorem mid_zero (k : Int) (ks : List TypedD) : mid k ks 0 = ks := by simp [mid]
theorem mid_full (k : Int) (ks : List TypedD) : mid k ks ks.length = mks k ks := by
  unfold mid; rw [List.take_of_length_le (by rw [mks_length]; exact Nat.le_refl _)]; simp
theorem mid_get (k : Int) (ks : List TypedD) {i : Nat} (h : i < ks.length) (h' : i < (mid k ks i).length) : (mid k ks i)[i] = ks[i] := by
  have e : (mid k ks i)[i]? = ks[i]? := by
    unfold mid
    rw [List.getElem?_append_right (by simp; omega)]
    simp [mks_length, Nat.min_eq_left (Nat.le_of_lt h)]
  rw [List.getElem?_eq_getElem h, List.getElem?_eq_getElem h'] at e
  exact Option.some.inj e
theorem mid_set (k : Int) (ks : List TypedD) {i : Nat} (h : i < ks.length) : (mid k ks i).set i (mk (k + (cnts (ks.take i) : Nat)) ks[i]) = mid k ks (i + 1) := by
  unfold mid
  have hl : ((mks k ks).take i).length = i := by simp [mks_length]; omega
  rw [List.set_append, if_neg (by omega), hl, Nat.sub_self, List.drop_eq_getElem_cons h, List.set_cons_zero]
  rw [List.take_succ_eq_append_getElem (show i < (mks k ks).length by rw [mks_length]; exact h), List.append_assoc, mks_get h]
  rfl

def MarkSays (ks : List TypedD) : Prop := ∀ (v : Value) (w : World) (k : Int) (S : Nat → Prop), 1 ≤ k → k + (cnts ks : Nat) ≤ 1152921504606846976 → (∀ b, S b → b < w.heap.size) → typedSp.sslice.rep w S [v] ks →
  Calls Try.prog 38 #[v, .int .i64 k] w fun e w' => e = .returned (.int .i64 (k + (cnts ks : Nat))) ∧ typedSp.sslice.rep w' S [v] (mks k ks) ∧ Only S w w'

theorem mk_eq (k : Int) (x0 : Int) (x1 : Int) (x2 : ByteArray) (x3 : ByteArray) (x4_0 : Int) (x4_1 : Int) (x4_2 : ByteArray) (x4_3 : List ty.TyD) (x5 : List ty.TyD) (x6 : List Int) (x7 : List TypedD) : mk k (.mk (x0, x1, x2, x3, (.mk (x4_0, x4_1, x4_2) x4_3), x5, x6) x7) = .mk (k, k + 1, mark.txt (k + 1 + 1), mark.txt (k + 1 + 1 + 1), (.mk (k + 1 + 1 + 1 + 1, k + 1 + 1 + 1 + 1 + 1, mark.txt (k + 1 + 1 + 1 + 1 + 1 + 1)) (ty.mks (k + 1 + 1 + 1 + 1 + 1 + 1 + 1) x4_3)), ty.mks (k + 1 + 1 + 1 + 1 + 1 + 1 + 1 + (ty.cnts x4_3 : Nat)) x5, ints.mks (k + 1 + 1 + 1 + 1 + 1 + 1 + 1 + (ty.cnts x4_3 : Nat) + (ty.cnts x5 : Nat)) x6) (mks (k + 1 + 1 + 1 + 1 + 1 + 1 + 1 + (ty.cnts x4_3 : Nat) + (ty.cnts x5 : Nat) + (x6.length : Nat)) x7) := by simp [mk]

set_option maxRecDepth 100000 in
set_option maxHeartbeats 4000000 in
theorem mark_of (ks : List TypedD) (ih : ∀ t ∈ ks, MarkSays t.kids) : MarkSays ks := by
  intro v w k S hk1 hk2 hS h
  obtain ⟨a, cap, css, F, rfl, hcap, hmax, hnone, hrow⟩ := typedps_open h
  have hmx : (ks.length : Int) ≤ 9223372036854775807 := by unfold maxLen at hmax; omega
  have IH : Hid (∀ t ∈ ks, MarkSays t.kids) := ih
  have HC : Hid (ks.length ≤ cap ∧ cap ≤ maxLen ∧ (a = none → cap = 0)) := ⟨hcap, hmax, hnone⟩
  have HS : Hid (∀ b, S b → b < w.heap.size) := hS
  have HR : Hid (SRow typedSp w S a css F (mid k ks 0)) := by show SRow _ _ _ _ _ _ _; rw [mid_zero]; exact hrow
  clear h hcap hmax hnone hS ih hrow
  have HK : Hid (k + (cnts ks : Nat) ≤ 1152921504606846976) := hk2
  clear hk2
  go_enter Try.func38, Try.ntmps38
  go_wp2
  go_loopw [1, 5] (fun v1 v5 wr => ∃ (i : Nat) (css' : Nat → List Value), i ≤ ks.length ∧ v5 = .int .i64 i ∧ v1 = .int .i64 (k + (cnts (ks.take i) : Nat)) ∧ Hid (SRow typedSp wr S a css' F (mid k ks i) ∧ Only S w wr)) (fun _ v5 _ => ks.length - (intOf v5).toNat)
  case atStart => exact ⟨0, css, Nat.zero_le _, rfl, by simp [cnts], HR.out, Only.refl _ _⟩
  case round =>
    obtain ⟨i, css', hi, rfl, rfl, HJ⟩ := hrel
    by_cases hlt : i < ks.length
    · have hlm : i < (mid k ks i).length := by rw [mid_length k ks hi]; exact hlt
      obtain ⟨b, o, rfl, hSb, hFb, hc, hfz, cur, t, hbk⟩ := HJ.out.1.at hlm
      have hrep := HJ.out.1.rep i hlm
      rw [mid_get k ks hlt] at hrep
      obtain ⟨x0, x1, x2, x3, x4, u4_0, u4_1, u4_2, u4_3, x5, a5, c5, x6, a6, c6, x7, a7, c7, Q4, Q5, Q6, Q7, hT, hcs, f0, f1, f2, f3, f4, f5, f6, f7, s4, s5, s6, s7, d4_5, d4_6, d4_7, d5_6, d5_7, d6_7⟩ := typedp_open hrep
      obtain ⟨x4_0, x4_1, x4_2, x4_3, a4_3, c4_3, hT4, hcs4, g4_0, g4_1, g4_2, g4_3⟩ := ty.typ_open f4
      simp only [List.cons.injEq, and_true] at hcs4
      obtain ⟨rfl, rfl, rfl, rfl⟩ := hcs4
      subst hT4
      rw [hcs] at hc
      have ce0_0 : wr.cell? ⟨b, o + i * 11, none⟩ = some (.int .i64 x0) := hc 0 _ rfl
      have ce0_1 : wr.cell? ⟨b, o + i * 11 + 1, none⟩ = some (.int .i64 x1) := hc 1 _ rfl
      have ce0_2 : wr.cell? ⟨b, o + i * 11 + 2, none⟩ = some (.string x2) := hc 2 _ rfl
      have ce0_3 : wr.cell? ⟨b, o + i * 11 + 3, none⟩ = some (.string x3) := hc 3 _ rfl
      have ce0_4 : wr.cell? ⟨b, o + i * 11 + 4, none⟩ = some (.int .i64 x4_0) := hc 4 _ rfl
      have ce0_5 : wr.cell? ⟨b, o + i * 11 + 5, none⟩ = some (.int .i64 x4_1) := hc 5 _ rfl
      have ce0_6 : wr.cell? ⟨b, o + i * 11 + 6, none⟩ = some (.string x4_2) := hc 6 _ rfl
      have ce0_7 : wr.cell? ⟨b, o + i * 11 + 7, none⟩ = some (.slice a4_3 x4_3.length c4_3) := hc 7 _ rfl
      have ce0_8 : wr.cell? ⟨b, o + i * 11 + 8, none⟩ = some (.slice a5 x5.length c5) := hc 8 _ rfl
      have ce0_9 : wr.cell? ⟨b, o + i * 11 + 9, none⟩ = some (.slice a6 x6.length c6) := hc 9 _ rfl
      have ce0_10 : wr.cell? ⟨b, o + i * 11 + 10, none⟩ = some (.slice a7 x7.length c7) := hc 10 _ rfl
      have W1 : Hid (cnts (ks.take (i + 1)) = cnts (ks.take i) + cnt ks[i]) := cnts_take hlt
      have W2 : Hid (cnts (ks.take (i + 1)) ≤ cnts ks) := cnts_take_le ks (i + 1)
      have W3 : Hid (cnt ks[i] = 7 + (ty.cnts x4_3 + (ty.cnts x5 + (x6.length + (cnts x7))))) := by show _ = _; rw [hT]; simp [cnt]
      obtain ⟨k1, hk⟩ : ∃ k1 : Int, k1 = k + (cnts (ks.take i) : Nat) := ⟨_, rfl⟩
      have HK1 : Hid (k1 = k + (cnts (ks.take i) : Nat)) := hk
      rw [← hk]
      have hb1 : 1 ≤ k1 := by omega
      have hb2 : k1 + 7 + (ty.cnts x4_3 : Nat) + (ty.cnts x5 : Nat) + (x6.length : Nat) + (cnts x7 : Nat) ≤ 1152921504606846976 := by have := W1.out; have := W2.out; have := W3.out; have := HK.out; omega
      have BK : Hid (wr.heap[b]? = some (.cells cur t)) := hbk
      have IHk := IH.out ks[i] (List.getElem_mem hlt)
      rw [hT] at IHk
      have IHK : Hid (MarkSays x7) := IHk
      have NB : Hid ((∀ q, F i q → q ≠ b) ∧ ¬ F i b ∧ S b) := ⟨fun q hq e => hFb (e ▸ hq), hFb, hSb⟩
      have HT : Hid (ks[i] = .mk (x0, x1, x2, x3, (.mk (x4_0, x4_1, x4_2) x4_3), x5, x6) x7) := hT
      have z0 : b < wr.heap.size := Nat.lt_of_lt_of_le (HS.out b hSb) HJ.out.2.size
      have FZ0 : Hid (∀ q, F i q → q < wr.heap.size) := fun q hq => Nat.lt_of_lt_of_le (HS.out q (HJ.out.1.sub i hlm q hq)) HJ.out.2.size
      have TT0 : Hid (Turn2 b (o + i * 11) (o + i * 11 + 11) (F i) wr wr) := Turn2.refl _ _ _ _ _
      have QS : Hid ((∀ q, Q4 q → F i q) ∧ (∀ q, Q5 q → F i q) ∧ (∀ q, Q6 q → F i q) ∧ (∀ q, Q7 q → F i q) ∧ (∀ q, Q4 q → ¬ Q5 q) ∧ (∀ q, Q4 q → ¬ Q6 q) ∧ (∀ q, Q4 q → ¬ Q7 q) ∧ (∀ q, Q5 q → ¬ Q6 q) ∧ (∀ q, Q5 q → ¬ Q7 q) ∧ (∀ q, Q6 q → ¬ Q7 q)) := ⟨s4, s5, s6, s7, d4_5, d4_6, d4_7, d5_6, d5_7, d6_7⟩
      have R0_4_3 : Hid (ty.tySp.sslice.rep wr (Q4) [.slice a4_3 x4_3.length c4_3] x4_3) := g4_3
      have R0_5 : Hid (ty.tySp.sslice.rep wr (Q5) [.slice a5 x5.length c5] x5) := f5
      have R0_6 : Hid (Sh.int.sslice.rep wr (Q6) [.slice a6 x6.length c6] x6) := f6
      have R0_7 : Hid (typedSp.sslice.rep wr (Q7) [.slice a7 x7.length c7] x7) := f7
      clear hk hrep hcs hc hbk hFb hSb hT IHk f0 f1 f2 f3 f4 f5 f6 f7 s4 s5 s6 s7 d4_5 d4_6 d4_7 d5_6 d5_7 d6_7 g4_0 g4_1 g4_2 g4_3
      go_wp2_with fail
      refine (mark.text_any _ (by omega) (by omega) _).mono ?_
      rintro e w1 ⟨rfl, hb⟩
      have hzc : b < ((wr.setCell ⟨b, o + i * 11, none⟩ (.int .i64 k1)).setCell ⟨b, o + i * 11 + 1, none⟩ (.int .i64 (k1 + 1))).heap.size := by first | exact z0 | (simp only [size_set]; exact z0)
      have SG : Turn2 b (o + i * 11) (o + i * 11 + 11) (fun _ => False) wr w1 := (((Turn2.refl b (o + i * 11) (o + i * 11 + 11) (fun _ => False) wr).set (o + i * 11) _ (by omega) (by omega)).set (o + i * 11 + 1) _ (by omega) (by omega)).below hb hzc
      have ce1_0 : w1.cell? ⟨b, o + i * 11, none⟩ = some (.int .i64 k1) := (hb.cell (p := ⟨b, o + i * 11, none⟩) hzc).trans ((cell_set_ne (by omega)).trans (cell_set_eq ce0_0))
      have ce1_1 : w1.cell? ⟨b, o + i * 11 + 1, none⟩ = some (.int .i64 (k1 + 1)) := (hb.cell (p := ⟨b, o + i * 11 + 1, none⟩) hzc).trans (cell_set_eq ((cell_set_ne (by omega)).trans ce0_1))
      have ce1_2 : w1.cell? ⟨b, o + i * 11 + 2, none⟩ = some (.string x2) := (hb.cell (p := ⟨b, o + i * 11 + 2, none⟩) hzc).trans ((cell_set_ne (by omega)).trans ((cell_set_ne (by omega)).trans ce0_2))
      have ce1_3 : w1.cell? ⟨b, o + i * 11 + 3, none⟩ = some (.string x3) := (hb.cell (p := ⟨b, o + i * 11 + 3, none⟩) hzc).trans ((cell_set_ne (by omega)).trans ((cell_set_ne (by omega)).trans ce0_3))
      have ce1_4 : w1.cell? ⟨b, o + i * 11 + 4, none⟩ = some (.int .i64 x4_0) := (hb.cell (p := ⟨b, o + i * 11 + 4, none⟩) hzc).trans ((cell_set_ne (by omega)).trans ((cell_set_ne (by omega)).trans ce0_4))
      have ce1_5 : w1.cell? ⟨b, o + i * 11 + 5, none⟩ = some (.int .i64 x4_1) := (hb.cell (p := ⟨b, o + i * 11 + 5, none⟩) hzc).trans ((cell_set_ne (by omega)).trans ((cell_set_ne (by omega)).trans ce0_5))
      have ce1_6 : w1.cell? ⟨b, o + i * 11 + 6, none⟩ = some (.string x4_2) := (hb.cell (p := ⟨b, o + i * 11 + 6, none⟩) hzc).trans ((cell_set_ne (by omega)).trans ((cell_set_ne (by omega)).trans ce0_6))
      have ce1_7 : w1.cell? ⟨b, o + i * 11 + 7, none⟩ = some (.slice a4_3 x4_3.length c4_3) := (hb.cell (p := ⟨b, o + i * 11 + 7, none⟩) hzc).trans ((cell_set_ne (by omega)).trans ((cell_set_ne (by omega)).trans ce0_7))
      have ce1_8 : w1.cell? ⟨b, o + i * 11 + 8, none⟩ = some (.slice a5 x5.length c5) := (hb.cell (p := ⟨b, o + i * 11 + 8, none⟩) hzc).trans ((cell_set_ne (by omega)).trans ((cell_set_ne (by omega)).trans ce0_8))
      have ce1_9 : w1.cell? ⟨b, o + i * 11 + 9, none⟩ = some (.slice a6 x6.length c6) := (hb.cell (p := ⟨b, o + i * 11 + 9, none⟩) hzc).trans ((cell_set_ne (by omega)).trans ((cell_set_ne (by omega)).trans ce0_9))
      have ce1_10 : w1.cell? ⟨b, o + i * 11 + 10, none⟩ = some (.slice a7 x7.length c7) := (hb.cell (p := ⟨b, o + i * 11 + 10, none⟩) hzc).trans ((cell_set_ne (by omega)).trans ((cell_set_ne (by omega)).trans ce0_10))
      have z1 : b < w1.heap.size := Nat.lt_of_lt_of_le z0 SG.only.size
      have TT1 : Hid (Turn2 b (o + i * 11) (o + i * 11 + 11) (F i) wr w1) := TT0.out.trans (SG.mono (fun _ h => h.elim))
      have FZ1 : Hid (∀ q, F i q → q < w1.heap.size) := fun q hq => Nat.lt_of_lt_of_le (FZ0.out q hq) SG.only.size
      have R1_4_3 : Hid (ty.tySp.sslice.rep w1 (Q4) [.slice a4_3 x4_3.length c4_3] (x4_3)) := ty.tySp.sslice.on R0_4_3.out fun q hq => SG.only.block q (FZ0.out q (QS.out.1 q hq)) (fun e => e.elim (fun e => NB.out.1 q (QS.out.1 q hq) e) (fun h => h.elim))
      have R1_5 : Hid (ty.tySp.sslice.rep w1 (Q5) [.slice a5 x5.length c5] (x5)) := ty.tySp.sslice.on R0_5.out fun q hq => SG.only.block q (FZ0.out q (QS.out.2.1 q hq)) (fun e => e.elim (fun e => NB.out.1 q (QS.out.2.1 q hq) e) (fun h => h.elim))
      have R1_6 : Hid (Sh.int.sslice.rep w1 (Q6) [.slice a6 x6.length c6] (x6)) := Sh.int.sslice.on R0_6.out fun q hq => SG.only.block q (FZ0.out q (QS.out.2.2.1 q hq)) (fun e => e.elim (fun e => NB.out.1 q (QS.out.2.2.1 q hq) e) (fun h => h.elim))
      have R1_7 : Hid (typedSp.sslice.rep w1 (Q7) [.slice a7 x7.length c7] (x7)) := typedSp.sslice.on R0_7.out fun q hq => SG.only.block q (FZ0.out q (QS.out.2.2.2.1 q hq)) (fun e => e.elim (fun e => NB.out.1 q (QS.out.2.2.2.1 q hq) e) (fun h => h.elim))
      have fz1 := TT1.out.fz BK.out
      clear SG hzc hb ce0_0 ce0_1 ce0_2 ce0_3 ce0_4 ce0_5 ce0_6 ce0_7 ce0_8 ce0_9 ce0_10 FZ0 TT0 z0 hfz R0_4_3 R0_5 R0_6 R0_7
      go_wp2_with fail
      refine (mark.text_any _ (by omega) (by omega) _).mono ?_
      rintro e w2 ⟨rfl, hb⟩
      have hzc : b < (w1.setCell ⟨b, o + i * 11 + 2, none⟩ (.string (mark.txt (k1 + 1 + 1)))).heap.size := by first | exact z1 | (simp only [size_set]; exact z1)
      have SG : Turn2 b (o + i * 11) (o + i * 11 + 11) (fun _ => False) w1 w2 := ((Turn2.refl b (o + i * 11) (o + i * 11 + 11) (fun _ => False) w1).set (o + i * 11 + 2) _ (by omega) (by omega)).below hb hzc
      have ce2_0 : w2.cell? ⟨b, o + i * 11, none⟩ = some (.int .i64 k1) := (hb.cell (p := ⟨b, o + i * 11, none⟩) hzc).trans ((cell_set_ne (by omega)).trans ce1_0)
      have ce2_1 : w2.cell? ⟨b, o + i * 11 + 1, none⟩ = some (.int .i64 (k1 + 1)) := (hb.cell (p := ⟨b, o + i * 11 + 1, none⟩) hzc).trans ((cell_set_ne (by omega)).trans ce1_1)
      have ce2_2 : w2.cell? ⟨b, o + i * 11 + 2, none⟩ = some (.string (mark.txt (k1 + 1 + 1))) := (hb.cell (p := ⟨b, o + i * 11 + 2, none⟩) hzc).trans (cell_set_eq ce1_2)
      have ce2_3 : w2.cell? ⟨b, o + i * 11 + 3, none⟩ = some (.string x3) := (hb.cell (p := ⟨b, o + i * 11 + 3, none⟩) hzc).trans ((cell_set_ne (by omega)).trans ce1_3)
      have ce2_4 : w2.cell? ⟨b, o + i * 11 + 4, none⟩ = some (.int .i64 x4_0) := (hb.cell (p := ⟨b, o + i * 11 + 4, none⟩) hzc).trans ((cell_set_ne (by omega)).trans ce1_4)
      have ce2_5 : w2.cell? ⟨b, o + i * 11 + 5, none⟩ = some (.int .i64 x4_1) := (hb.cell (p := ⟨b, o + i * 11 + 5, none⟩) hzc).trans ((cell_set_ne (by omega)).trans ce1_5)
      have ce2_6 : w2.cell? ⟨b, o + i * 11 + 6, none⟩ = some (.string x4_2) := (hb.cell (p := ⟨b, o + i * 11 + 6, none⟩) hzc).trans ((cell_set_ne (by omega)).trans ce1_6)
      have ce2_7 : w2.cell? ⟨b, o + i * 11 + 7, none⟩ = some (.slice a4_3 x4_3.length c4_3) := (hb.cell (p := ⟨b, o + i * 11 + 7, none⟩) hzc).trans ((cell_set_ne (by omega)).trans ce1_7)
      have ce2_8 : w2.cell? ⟨b, o + i * 11 + 8, none⟩ = some (.slice a5 x5.length c5) := (hb.cell (p := ⟨b, o + i * 11 + 8, none⟩) hzc).trans ((cell_set_ne (by omega)).trans ce1_8)
      have ce2_9 : w2.cell? ⟨b, o + i * 11 + 9, none⟩ = some (.slice a6 x6.length c6) := (hb.cell (p := ⟨b, o + i * 11 + 9, none⟩) hzc).trans ((cell_set_ne (by omega)).trans ce1_9)
      have ce2_10 : w2.cell? ⟨b, o + i * 11 + 10, none⟩ = some (.slice a7 x7.length c7) := (hb.cell (p := ⟨b, o + i * 11 + 10, none⟩) hzc).trans ((cell_set_ne (by omega)).trans ce1_10)
      have z2 : b < w2.heap.size := Nat.lt_of_lt_of_le z1 SG.only.size
      have TT2 : Hid (Turn2 b (o + i * 11) (o + i * 11 + 11) (F i) wr w2) := TT1.out.trans (SG.mono (fun _ h => h.elim))
      have FZ2 : Hid (∀ q, F i q → q < w2.heap.size) := fun q hq => Nat.lt_of_lt_of_le (FZ1.out q hq) SG.only.size
      have R2_4_3 : Hid (ty.tySp.sslice.rep w2 (Q4) [.slice a4_3 x4_3.length c4_3] (x4_3)) := ty.tySp.sslice.on R1_4_3.out fun q hq => SG.only.block q (FZ1.out q (QS.out.1 q hq)) (fun e => e.elim (fun e => NB.out.1 q (QS.out.1 q hq) e) (fun h => h.elim))
      have R2_5 : Hid (ty.tySp.sslice.rep w2 (Q5) [.slice a5 x5.length c5] (x5)) := ty.tySp.sslice.on R1_5.out fun q hq => SG.only.block q (FZ1.out q (QS.out.2.1 q hq)) (fun e => e.elim (fun e => NB.out.1 q (QS.out.2.1 q hq) e) (fun h => h.elim))
      have R2_6 : Hid (Sh.int.sslice.rep w2 (Q6) [.slice a6 x6.length c6] (x6)) := Sh.int.sslice.on R1_6.out fun q hq => SG.only.block q (FZ1.out q (QS.out.2.2.1 q hq)) (fun e => e.elim (fun e => NB.out.1 q (QS.out.2.2.1 q hq) e) (fun h => h.elim))
      have R2_7 : Hid (typedSp.sslice.rep w2 (Q7) [.slice a7 x7.length c7] (x7)) := typedSp.sslice.on R1_7.out fun q hq => SG.only.block q (FZ1.out q (QS.out.2.2.2.1 q hq)) (fun e => e.elim (fun e => NB.out.1 q (QS.out.2.2.2.1 q hq) e) (fun h => h.elim))
      have fz2 := TT2.out.fz BK.out
      clear SG hzc hb ce1_0 ce1_1 ce1_2 ce1_3 ce1_4 ce1_5 ce1_6 ce1_7 ce1_8 ce1_9 ce1_10 FZ1 TT1 z1 fz1 R1_4_3 R1_5 R1_6 R1_7
      go_wp2_with fail
      refine (mark.text_any _ (by omega) (by omega) _).mono ?_
      rintro e w3 ⟨rfl, hb⟩
      have hzc : b < (((w2.setCell ⟨b, o + i * 11 + 3, none⟩ (.string (mark.txt (k1 + 1 + 1 + 1)))).setCell ⟨b, o + i * 11 + 4, none⟩ (.int .i64 (k1 + 1 + 1 + 1 + 1))).setCell ⟨b, o + i * 11 + 5, none⟩ (.int .i64 (k1 + 1 + 1 + 1 + 1 + 1))).heap.size := by first | exact z2 | (simp only [size_set]; exact z2)
      have SG : Turn2 b (o + i * 11) (o + i * 11 + 11) (fun _ => False) w2 w3 := ((((Turn2.refl b (o + i * 11) (o + i * 11 + 11) (fun _ => False) w2).set (o + i * 11 + 3) _ (by omega) (by omega)).set (o + i * 11 + 4) _ (by omega) (by omega)).set (o + i * 11 + 5) _ (by omega) (by omega)).below hb hzc
      have ce3_0 : w3.cell? ⟨b, o + i * 11, none⟩ = some (.int .i64 k1) := (hb.cell (p := ⟨b, o + i * 11, none⟩) hzc).trans ((cell_set_ne (by omega)).trans ((cell_set_ne (by omega)).trans ((cell_set_ne (by omega)).trans ce2_0)))
      have ce3_1 : w3.cell? ⟨b, o + i * 11 + 1, none⟩ = some (.int .i64 (k1 + 1)) := (hb.cell (p := ⟨b, o + i * 11 + 1, none⟩) hzc).trans ((cell_set_ne (by omega)).trans ((cell_set_ne (by omega)).trans ((cell_set_ne (by omega)).trans ce2_1)))
      have ce3_2 : w3.cell? ⟨b, o + i * 11 + 2, none⟩ = some (.string (mark.txt (k1 + 1 + 1))) := (hb.cell (p := ⟨b, o + i * 11 + 2, none⟩) hzc).trans ((cell_set_ne (by omega)).trans ((cell_set_ne (by omega)).trans ((cell_set_ne (by omega)).trans ce2_2)))
      have ce3_3 : w3.cell? ⟨b, o + i * 11 + 3, none⟩ = some (.string (mark.txt (k1 + 1 + 1 + 1))) := (hb.cell (p := ⟨b, o + i * 11 + 3, none⟩) hzc).trans ((cell_set_ne (by omega)).trans ((cell_set_ne (by omega)).trans (cell_set_eq ce2_3)))
      have ce3_4 : w3.cell? ⟨b, o + i * 11 + 4, none⟩ = some (.int .i64 (k1 + 1 + 1 + 1 + 1)) := (hb.cell (p := ⟨b, o + i * 11 + 4, none⟩) hzc).trans ((cell_set_ne (by omega)).trans (cell_set_eq ((cell_set_ne (by omega)).trans ce2_4)))
      have ce3_5 : w3.cell? ⟨b, o + i * 11 + 5, none⟩ = some (.int .i64 (k1 + 1 + 1 + 1 + 1 + 1)) := (hb.cell (p := ⟨b, o + i * 11 + 5, none⟩) hzc).trans (cell_set_eq ((cell_set_ne (by omega)).trans ((cell_set_ne (by omega)).trans ce2_5)))
      have ce3_6 : w3.cell? ⟨b, o + i * 11 + 6, none⟩ = some (.string x4_2) := (hb.cell (p := ⟨b, o + i * 11 + 6, none⟩) hzc).trans ((cell_set_ne (by omega)).trans ((cell_set_ne (by omega)).trans ((cell_set_ne (by omega)).trans ce2_6)))
      have ce3_7 : w3.cell? ⟨b, o + i * 11 + 7, none⟩ = some (.slice a4_3 x4_3.length c4_3) := (hb.cell (p := ⟨b, o + i * 11 + 7, none⟩) hzc).trans ((cell_set_ne (by omega)).trans ((cell_set_ne (by omega)).trans ((cell_set_ne (by omega)).trans ce2_7)))
      have ce3_8 : w3.cell? ⟨b, o + i * 11 + 8, none⟩ = some (.slice a5 x5.length c5) := (hb.cell (p := ⟨b, o + i * 11 + 8, none⟩) hzc).trans ((cell_set_ne (by omega)).trans ((cell_set_ne (by omega)).trans ((cell_set_ne (by omega)).trans ce2_8)))
      have ce3_9 : w3.cell? ⟨b, o + i * 11 + 9, none⟩ = some (.slice a6 x6.length c6) := (hb.cell (p := ⟨b, o + i * 11 + 9, none⟩) hzc).trans ((cell_set_ne (by omega)).trans ((cell_set_ne (by omega)).trans ((cell_set_ne (by omega)).trans ce2_9)))
      have ce3_10 : w3.cell? ⟨b, o + i * 11 + 10, none⟩ = some (.slice a7 x7.length c7) := (hb.cell (p := ⟨b, o + i * 11 + 10, none⟩) hzc).trans ((cell_set_ne (by omega)).trans ((cell_set_ne (by omega)).trans ((cell_set_ne (by omega)).trans ce2_10)))
      have z3 : b < w3.heap.size := Nat.lt_of_lt_of_le z2 SG.only.size
      have TT3 : Hid (Turn2 b (o + i * 11) (o + i * 11 + 11) (F i) wr w3) := TT2.out.trans (SG.mono (fun _ h => h.elim))
      have FZ3 : Hid (∀ q, F i q → q < w3.heap.size) := fun q hq => Nat.lt_of_lt_of_le (FZ2.out q hq) SG.only.size
      have R3_4_3 : Hid (ty.tySp.sslice.rep w3 (Q4) [.slice a4_3 x4_3.length c4_3] (x4_3)) := ty.tySp.sslice.on R2_4_3.out fun q hq => SG.only.block q (FZ2.out q (QS.out.1 q hq)) (fun e => e.elim (fun e => NB.out.1 q (QS.out.1 q hq) e) (fun h => h.elim))
      have R3_5 : Hid (ty.tySp.sslice.rep w3 (Q5) [.slice a5 x5.length c5] (x5)) := ty.tySp.sslice.on R2_5.out fun q hq => SG.only.block q (FZ2.out q (QS.out.2.1 q hq)) (fun e => e.elim (fun e => NB.out.1 q (QS.out.2.1 q hq) e) (fun h => h.elim))
      have R3_6 : Hid (Sh.int.sslice.rep w3 (Q6) [.slice a6 x6.length c6] (x6)) := Sh.int.sslice.on R2_6.out fun q hq => SG.only.block q (FZ2.out q (QS.out.2.2.1 q hq)) (fun e => e.elim (fun e => NB.out.1 q (QS.out.2.2.1 q hq) e) (fun h => h.elim))
      have R3_7 : Hid (typedSp.sslice.rep w3 (Q7) [.slice a7 x7.length c7] (x7)) := typedSp.sslice.on R2_7.out fun q hq => SG.only.block q (FZ2.out q (QS.out.2.2.2.1 q hq)) (fun e => e.elim (fun e => NB.out.1 q (QS.out.2.2.2.1 q hq) e) (fun h => h.elim))
      have fz3 := TT3.out.fz BK.out
      clear SG hzc hb ce2_0 ce2_1 ce2_2 ce2_3 ce2_4 ce2_5 ce2_6 ce2_7 ce2_8 ce2_9 ce2_10 FZ2 TT2 z2 fz2 R2_4_3 R2_5 R2_6 R2_7
      have dd : (w3.setCell ⟨b, o + i * 11 + 6, none⟩ (.string (mark.txt (k1 + 1 + 1 + 1 + 1 + 1 + 1)))).cell? ⟨b, o + i * 11 + 7, none⟩ = some (.slice a4_3 x4_3.length c4_3) := ((cell_set_ne (by omega)).trans ce3_7)
      have hcall := ty.markS_any x4_3 (.slice a4_3 x4_3.length c4_3) (w3.setCell ⟨b, o + i * 11 + 6, none⟩ (.string (mark.txt (k1 + 1 + 1 + 1 + 1 + 1 + 1)))) (k1 + 1 + 1 + 1 + 1 + 1 + 1 + 1) (Q4) (by omega) (by omega) (fun q hq => by first | exact FZ3.out q (QS.out.1 q hq) | (simp only [size_set]; exact FZ3.out q (QS.out.1 q hq))) (ty.tySp.sslice.on R3_4_3.out fun q hq => by repeat rw [block_set (NB.out.1 q (QS.out.1 q hq))])
      go_wp2_with fail
      refine hcall.mono ?_
      clear hcall dd
      rintro e w4 ⟨rfl, hr, ho⟩
      have hzc : b < (w3.setCell ⟨b, o + i * 11 + 6, none⟩ (.string (mark.txt (k1 + 1 + 1 + 1 + 1 + 1 + 1)))).heap.size := by first | exact z3 | (simp only [size_set]; exact z3)
      have SG : Turn2 b (o + i * 11) (o + i * 11 + 11) (Q4) w3 w4 := ((Turn2.refl b (o + i * 11) (o + i * 11 + 11) (Q4) w3).set (o + i * 11 + 6) _ (by omega) (by omega)).calls ho hzc (fun _ h => h) (fun h => NB.out.2.1 (QS.out.1 _ h))
      have ce4_0 : w4.cell? ⟨b, o + i * 11, none⟩ = some (.int .i64 k1) := (cell_only ho hzc (fun h => NB.out.2.1 (QS.out.1 _ h))).trans ((cell_set_ne (by omega)).trans ce3_0)
      have ce4_1 : w4.cell? ⟨b, o + i * 11 + 1, none⟩ = some (.int .i64 (k1 + 1)) := (cell_only ho hzc (fun h => NB.out.2.1 (QS.out.1 _ h))).trans ((cell_set_ne (by omega)).trans ce3_1)
      have ce4_2 : w4.cell? ⟨b, o + i * 11 + 2, none⟩ = some (.string (mark.txt (k1 + 1 + 1))) := (cell_only ho hzc (fun h => NB.out.2.1 (QS.out.1 _ h))).trans ((cell_set_ne (by omega)).trans ce3_2)
      have ce4_3 : w4.cell? ⟨b, o + i * 11 + 3, none⟩ = some (.string (mark.txt (k1 + 1 + 1 + 1))) := (cell_only ho hzc (fun h => NB.out.2.1 (QS.out.1 _ h))).trans ((cell_set_ne (by omega)).trans ce3_3)
      have ce4_4 : w4.cell? ⟨b, o + i * 11 + 4, none⟩ = some (.int .i64 (k1 + 1 + 1 + 1 + 1)) := (cell_only ho hzc (fun h => NB.out.2.1 (QS.out.1 _ h))).trans ((cell_set_ne (by omega)).trans ce3_4)
      have ce4_5 : w4.cell? ⟨b, o + i * 11 + 5, none⟩ = some (.int .i64 (k1 + 1 + 1 + 1 + 1 + 1)) := (cell_only ho hzc (fun h => NB.out.2.1 (QS.out.1 _ h))).trans ((cell_set_ne (by omega)).trans ce3_5)
      have ce4_6 : w4.cell? ⟨b, o + i * 11 + 6, none⟩ = some (.string (mark.txt (k1 + 1 + 1 + 1 + 1 + 1 + 1))) := (cell_only ho hzc (fun h => NB.out.2.1 (QS.out.1 _ h))).trans (cell_set_eq ce3_6)
      have ce4_7 : w4.cell? ⟨b, o + i * 11 + 7, none⟩ = some (.slice a4_3 x4_3.length c4_3) := (cell_only ho hzc (fun h => NB.out.2.1 (QS.out.1 _ h))).trans ((cell_set_ne (by omega)).trans ce3_7)
      have ce4_8 : w4.cell? ⟨b, o + i * 11 + 8, none⟩ = some (.slice a5 x5.length c5) := (cell_only ho hzc (fun h => NB.out.2.1 (QS.out.1 _ h))).trans ((cell_set_ne (by omega)).trans ce3_8)
      have ce4_9 : w4.cell? ⟨b, o + i * 11 + 9, none⟩ = some (.slice a6 x6.length c6) := (cell_only ho hzc (fun h => NB.out.2.1 (QS.out.1 _ h))).trans ((cell_set_ne (by omega)).trans ce3_9)
      have ce4_10 : w4.cell? ⟨b, o + i * 11 + 10, none⟩ = some (.slice a7 x7.length c7) := (cell_only ho hzc (fun h => NB.out.2.1 (QS.out.1 _ h))).trans ((cell_set_ne (by omega)).trans ce3_10)
      have z4 : b < w4.heap.size := Nat.lt_of_lt_of_le z3 SG.only.size
      have TT4 : Hid (Turn2 b (o + i * 11) (o + i * 11 + 11) (F i) wr w4) := TT3.out.trans (SG.mono (QS.out.1))
      have FZ4 : Hid (∀ q, F i q → q < w4.heap.size) := fun q hq => Nat.lt_of_lt_of_le (FZ3.out q hq) SG.only.size
      have R4_4_3 : Hid (ty.tySp.sslice.rep w4 (Q4) [.slice a4_3 x4_3.length c4_3] (ty.mks (k1 + 1 + 1 + 1 + 1 + 1 + 1 + 1) x4_3)) := hr
      have R4_5 : Hid (ty.tySp.sslice.rep w4 (Q5) [.slice a5 x5.length c5] (x5)) := ty.tySp.sslice.on R3_5.out fun q hq => SG.only.block q (FZ3.out q (QS.out.2.1 q hq)) (fun e => e.elim (fun e => NB.out.1 q (QS.out.2.1 q hq) e) (fun h => (fun q h1 h2 => QS.out.2.2.2.2.1 q h2 h1) q hq h))
      have R4_6 : Hid (Sh.int.sslice.rep w4 (Q6) [.slice a6 x6.length c6] (x6)) := Sh.int.sslice.on R3_6.out fun q hq => SG.only.block q (FZ3.out q (QS.out.2.2.1 q hq)) (fun e => e.elim (fun e => NB.out.1 q (QS.out.2.2.1 q hq) e) (fun h => (fun q h1 h2 => QS.out.2.2.2.2.2.1 q h2 h1) q hq h))
      have R4_7 : Hid (typedSp.sslice.rep w4 (Q7) [.slice a7 x7.length c7] (x7)) := typedSp.sslice.on R3_7.out fun q hq => SG.only.block q (FZ3.out q (QS.out.2.2.2.1 q hq)) (fun e => e.elim (fun e => NB.out.1 q (QS.out.2.2.2.1 q hq) e) (fun h => (fun q h1 h2 => QS.out.2.2.2.2.2.2.1 q h2 h1) q hq h))
      have fz4 := TT4.out.fz BK.out
      clear SG hzc ho hr ce3_0 ce3_1 ce3_2 ce3_3 ce3_4 ce3_5 ce3_6 ce3_7 ce3_8 ce3_9 ce3_10 FZ3 TT3 z3 fz3 R3_4_3 R3_5 R3_6 R3_7
      have hcall := ty.markS_any x5 (.slice a5 x5.length c5) (w4) (k1 + 1 + 1 + 1 + 1 + 1 + 1 + 1 + (ty.cnts x4_3 : Nat)) (Q5) (by omega) (by omega) (fun q hq => by first | exact FZ4.out q (QS.out.2.1 q hq) | (simp only [size_set]; exact FZ4.out q (QS.out.2.1 q hq))) (ty.tySp.sslice.on R4_5.out fun q hq => by rfl)
      go_wp2_with fail
      refine hcall.mono ?_
      clear hcall
      rintro e w5 ⟨rfl, hr, ho⟩
      have hzc : b < (w4).heap.size := by first | exact z4 | (simp only [size_set]; exact z4)
      have SG : Turn2 b (o + i * 11) (o + i * 11 + 11) (Q5) w4 w5 := (Turn2.refl b (o + i * 11) (o + i * 11 + 11) (Q5) w4).calls ho hzc (fun _ h => h) (fun h => NB.out.2.1 (QS.out.2.1 _ h))
      have ce5_0 : w5.cell? ⟨b, o + i * 11, none⟩ = some (.int .i64 k1) := (cell_only ho hzc (fun h => NB.out.2.1 (QS.out.2.1 _ h))).trans ce4_0
      have ce5_1 : w5.cell? ⟨b, o + i * 11 + 1, none⟩ = some (.int .i64 (k1 + 1)) := (cell_only ho hzc (fun h => NB.out.2.1 (QS.out.2.1 _ h))).trans ce4_1
      have ce5_2 : w5.cell? ⟨b, o + i * 11 + 2, none⟩ = some (.string (mark.txt (k1 + 1 + 1))) := (cell_only ho hzc (fun h => NB.out.2.1 (QS.out.2.1 _ h))).trans ce4_2
      have ce5_3 : w5.cell? ⟨b, o + i * 11 + 3, none⟩ = some (.string (mark.txt (k1 + 1 + 1 + 1))) := (cell_only ho hzc (fun h => NB.out.2.1 (QS.out.2.1 _ h))).trans ce4_3
      have ce5_4 : w5.cell? ⟨b, o + i * 11 + 4, none⟩ = some (.int .i64 (k1 + 1 + 1 + 1 + 1)) := (cell_only ho hzc (fun h => NB.out.2.1 (QS.out.2.1 _ h))).trans ce4_4
      have ce5_5 : w5.cell? ⟨b, o + i * 11 + 5, none⟩ = some (.int .i64 (k1 + 1 + 1 + 1 + 1 + 1)) := (cell_only ho hzc (fun h => NB.out.2.1 (QS.out.2.1 _ h))).trans ce4_5
      have ce5_6 : w5.cell? ⟨b, o + i * 11 + 6, none⟩ = some (.string (mark.txt (k1 + 1 + 1 + 1 + 1 + 1 + 1))) := (cell_only ho hzc (fun h => NB.out.2.1 (QS.out.2.1 _ h))).trans ce4_6
      have ce5_7 : w5.cell? ⟨b, o + i * 11 + 7, none⟩ = some (.slice a4_3 x4_3.length c4_3) := (cell_only ho hzc (fun h => NB.out.2.1 (QS.out.2.1 _ h))).trans ce4_7
      have ce5_8 : w5.cell? ⟨b, o + i * 11 + 8, none⟩ = some (.slice a5 x5.length c5) := (cell_only ho hzc (fun h => NB.out.2.1 (QS.out.2.1 _ h))).trans ce4_8
      have ce5_9 : w5.cell? ⟨b, o + i * 11 + 9, none⟩ = some (.slice a6 x6.length c6) := (cell_only ho hzc (fun h => NB.out.2.1 (QS.out.2.1 _ h))).trans ce4_9
      have ce5_10 : w5.cell? ⟨b, o + i * 11 + 10, none⟩ = some (.slice a7 x7.length c7) := (cell_only ho hzc (fun h => NB.out.2.1 (QS.out.2.1 _ h))).trans ce4_10
      have z5 : b < w5.heap.size := Nat.lt_of_lt_of_le z4 SG.only.size
      have TT5 : Hid (Turn2 b (o + i * 11) (o + i * 11 + 11) (F i) wr w5) := TT4.out.trans (SG.mono (QS.out.2.1))
      have FZ5 : Hid (∀ q, F i q → q < w5.heap.size) := fun q hq => Nat.lt_of_lt_of_le (FZ4.out q hq) SG.only.size
      have R5_4_3 : Hid (ty.tySp.sslice.rep w5 (Q4) [.slice a4_3 x4_3.length c4_3] (ty.mks (k1 + 1 + 1 + 1 + 1 + 1 + 1 + 1) x4_3)) := ty.tySp.sslice.on R4_4_3.out fun q hq => SG.only.block q (FZ4.out q (QS.out.1 q hq)) (fun e => e.elim (fun e => NB.out.1 q (QS.out.1 q hq) e) (fun h => QS.out.2.2.2.2.1 q hq h))
      have R5_5 : Hid (ty.tySp.sslice.rep w5 (Q5) [.slice a5 x5.length c5] (ty.mks (k1 + 1 + 1 + 1 + 1 + 1 + 1 + 1 + (ty.cnts x4_3 : Nat)) x5)) := hr
      have R5_6 : Hid (Sh.int.sslice.rep w5 (Q6) [.slice a6 x6.length c6] (x6)) := Sh.int.sslice.on R4_6.out fun q hq => SG.only.block q (FZ4.out q (QS.out.2.2.1 q hq)) (fun e => e.elim (fun e => NB.out.1 q (QS.out.2.2.1 q hq) e) (fun h => (fun q h1 h2 => QS.out.2.2.2.2.2.2.2.1 q h2 h1) q hq h))
      have R5_7 : Hid (typedSp.sslice.rep w5 (Q7) [.slice a7 x7.length c7] (x7)) := typedSp.sslice.on R4_7.out fun q hq => SG.only.block q (FZ4.out q (QS.out.2.2.2.1 q hq)) (fun e => e.elim (fun e => NB.out.1 q (QS.out.2.2.2.1 q hq) e) (fun h => (fun q h1 h2 => QS.out.2.2.2.2.2.2.2.2.1 q h2 h1) q hq h))
      have fz5 := TT5.out.fz BK.out
      clear SG hzc ho hr ce4_0 ce4_1 ce4_2 ce4_3 ce4_4 ce4_5 ce4_6 ce4_7 ce4_8 ce4_9 ce4_10 FZ4 TT4 z4 fz4 R4_4_3 R4_5 R4_6 R4_7
      have hcall := ints.mark_any x6 (.slice a6 x6.length c6) (w5) (k1 + 1 + 1 + 1 + 1 + 1 + 1 + 1 + (ty.cnts x4_3 : Nat) + (ty.cnts x5 : Nat)) (Q6) (by omega) (by omega) (fun q hq => by first | exact FZ5.out q (QS.out.2.2.1 q hq) | (simp only [size_set]; exact FZ5.out q (QS.out.2.2.1 q hq))) (Sh.int.sslice.on R5_6.out fun q hq => by rfl)
      go_wp2_with fail
      refine hcall.mono ?_
      clear hcall
      rintro e w6 ⟨rfl, hr, ho⟩
      have hzc : b < (w5).heap.size := by first | exact z5 | (simp only [size_set]; exact z5)
      have SG : Turn2 b (o + i * 11) (o + i * 11 + 11) (Q6) w5 w6 := (Turn2.refl b (o + i * 11) (o + i * 11 + 11) (Q6) w5).calls ho hzc (fun _ h => h) (fun h => NB.out.2.1 (QS.out.2.2.1 _ h))
      have ce6_0 : w6.cell? ⟨b, o + i * 11, none⟩ = some (.int .i64 k1) := (cell_only ho hzc (fun h => NB.out.2.1 (QS.out.2.2.1 _ h))).trans ce5_0
      have ce6_1 : w6.cell? ⟨b, o + i * 11 + 1, none⟩ = some (.int .i64 (k1 + 1)) := (cell_only ho hzc (fun h => NB.out.2.1 (QS.out.2.2.1 _ h))).trans ce5_1
      have ce6_2 : w6.cell? ⟨b, o + i * 11 + 2, none⟩ = some (.string (mark.txt (k1 + 1 + 1))) := (cell_only ho hzc (fun h => NB.out.2.1 (QS.out.2.2.1 _ h))).trans ce5_2
      have ce6_3 : w6.cell? ⟨b, o + i * 11 + 3, none⟩ = some (.string (mark.txt (k1 + 1 + 1 + 1))) := (cell_only ho hzc (fun h => NB.out.2.1 (QS.out.2.2.1 _ h))).trans ce5_3
      have ce6_4 : w6.cell? ⟨b, o + i * 11 + 4, none⟩ = some (.int .i64 (k1 + 1 + 1 + 1 + 1)) := (cell_only ho hzc (fun h => NB.out.2.1 (QS.out.2.2.1 _ h))).trans ce5_4
      have ce6_5 : w6.cell? ⟨b, o + i * 11 + 5, none⟩ = some (.int .i64 (k1 + 1 + 1 + 1 + 1 + 1)) := (cell_only ho hzc (fun h => NB.out.2.1 (QS.out.2.2.1 _ h))).trans ce5_5
      have ce6_6 : w6.cell? ⟨b, o + i * 11 + 6, none⟩ = some (.string (mark.txt (k1 + 1 + 1 + 1 + 1 + 1 + 1))) := (cell_only ho hzc (fun h => NB.out.2.1 (QS.out.2.2.1 _ h))).trans ce5_6
      have ce6_7 : w6.cell? ⟨b, o + i * 11 + 7, none⟩ = some (.slice a4_3 x4_3.length c4_3) := (cell_only ho hzc (fun h => NB.out.2.1 (QS.out.2.2.1 _ h))).trans ce5_7
      have ce6_8 : w6.cell? ⟨b, o + i * 11 + 8, none⟩ = some (.slice a5 x5.length c5) := (cell_only ho hzc (fun h => NB.out.2.1 (QS.out.2.2.1 _ h))).trans ce5_8
      have ce6_9 : w6.cell? ⟨b, o + i * 11 + 9, none⟩ = some (.slice a6 x6.length c6) := (cell_only ho hzc (fun h => NB.out.2.1 (QS.out.2.2.1 _ h))).trans ce5_9
      have ce6_10 : w6.cell? ⟨b, o + i * 11 + 10, none⟩ = some (.slice a7 x7.length c7) := (cell_only ho hzc (fun h => NB.out.2.1 (QS.out.2.2.1 _ h))).trans ce5_10
      have z6 : b < w6.heap.size := Nat.lt_of_lt_of_le z5 SG.only.size
      have TT6 : Hid (Turn2 b (o + i * 11) (o + i * 11 + 11) (F i) wr w6) := TT5.out.trans (SG.mono (QS.out.2.2.1))
      have FZ6 : Hid (∀ q, F i q → q < w6.heap.size) := fun q hq => Nat.lt_of_lt_of_le (FZ5.out q hq) SG.only.size
      have R6_4_3 : Hid (ty.tySp.sslice.rep w6 (Q4) [.slice a4_3 x4_3.length c4_3] (ty.mks (k1 + 1 + 1 + 1 + 1 + 1 + 1 + 1) x4_3)) := ty.tySp.sslice.on R5_4_3.out fun q hq => SG.only.block q (FZ5.out q (QS.out.1 q hq)) (fun e => e.elim (fun e => NB.out.1 q (QS.out.1 q hq) e) (fun h => QS.out.2.2.2.2.2.1 q hq h))
      have R6_5 : Hid (ty.tySp.sslice.rep w6 (Q5) [.slice a5 x5.length c5] (ty.mks (k1 + 1 + 1 + 1 + 1 + 1 + 1 + 1 + (ty.cnts x4_3 : Nat)) x5)) := ty.tySp.sslice.on R5_5.out fun q hq => SG.only.block q (FZ5.out q (QS.out.2.1 q hq)) (fun e => e.elim (fun e => NB.out.1 q (QS.out.2.1 q hq) e) (fun h => QS.out.2.2.2.2.2.2.2.1 q hq h))
      have R6_6 : Hid (Sh.int.sslice.rep w6 (Q6) [.slice a6 x6.length c6] (ints.mks (k1 + 1 + 1 + 1 + 1 + 1 + 1 + 1 + (ty.cnts x4_3 : Nat) + (ty.cnts x5 : Nat)) x6)) := hr
      have R6_7 : Hid (typedSp.sslice.rep w6 (Q7) [.slice a7 x7.length c7] (x7)) := typedSp.sslice.on R5_7.out fun q hq => SG.only.block q (FZ5.out q (QS.out.2.2.2.1 q hq)) (fun e => e.elim (fun e => NB.out.1 q (QS.out.2.2.2.1 q hq) e) (fun h => (fun q h1 h2 => QS.out.2.2.2.2.2.2.2.2.2 q h2 h1) q hq h))
      have fz6 := TT6.out.fz BK.out
      clear SG hzc ho hr ce5_0 ce5_1 ce5_2 ce5_3 ce5_4 ce5_5 ce5_6 ce5_7 ce5_8 ce5_9 ce5_10 FZ5 TT5 z5 fz5 R5_4_3 R5_5 R5_6 R5_7
      have hcall := IHK.out (.slice a7 x7.length c7) (w6) (k1 + 1 + 1 + 1 + 1 + 1 + 1 + 1 + (ty.cnts x4_3 : Nat) + (ty.cnts x5 : Nat) + (x6.length : Nat)) (Q7) (by omega) (by omega) (fun q hq => by first | exact FZ6.out q (QS.out.2.2.2.1 q hq) | (simp only [size_set]; exact FZ6.out q (QS.out.2.2.2.1 q hq))) (typedSp.sslice.on R6_7.out fun q hq => by rfl)
      go_wp2_with fail
      refine hcall.mono ?_
      clear hcall
      rintro e w7 ⟨rfl, hr, ho⟩
      have hzc : b < (w6).heap.size := by first | exact z6 | (simp only [size_set]; exact z6)
      have SG : Turn2 b (o + i * 11) (o + i * 11 + 11) (Q7) w6 w7 := (Turn2.refl b (o + i * 11) (o + i * 11 + 11) (Q7) w6).calls ho hzc (fun _ h => h) (fun h => NB.out.2.1 (QS.out.2.2.2.1 _ h))
      have ce7_0 : w7.cell? ⟨b, o + i * 11, none⟩ = some (.int .i64 k1) := (cell_only ho hzc (fun h => NB.out.2.1 (QS.out.2.2.2.1 _ h))).trans ce6_0
      have ce7_1 : w7.cell? ⟨b, o + i * 11 + 1, none⟩ = some (.int .i64 (k1 + 1)) := (cell_only ho hzc (fun h => NB.out.2.1 (QS.out.2.2.2.1 _ h))).trans ce6_1
      have ce7_2 : w7.cell? ⟨b, o + i * 11 + 2, none⟩ = some (.string (mark.txt (k1 + 1 + 1))) := (cell_only ho hzc (fun h => NB.out.2.1 (QS.out.2.2.2.1 _ h))).trans ce6_2
      have ce7_3 : w7.cell? ⟨b, o + i * 11 + 3, none⟩ = some (.string (mark.txt (k1 + 1 + 1 + 1))) := (cell_only ho hzc (fun h => NB.out.2.1 (QS.out.2.2.2.1 _ h))).trans ce6_3
      have ce7_4 : w7.cell? ⟨b, o + i * 11 + 4, none⟩ = some (.int .i64 (k1 + 1 + 1 + 1 + 1)) := (cell_only ho hzc (fun h => NB.out.2.1 (QS.out.2.2.2.1 _ h))).trans ce6_4
      have ce7_5 : w7.cell? ⟨b, o + i * 11 + 5, none⟩ = some (.int .i64 (k1 + 1 + 1 + 1 + 1 + 1)) := (cell_only ho hzc (fun h => NB.out.2.1 (QS.out.2.2.2.1 _ h))).trans ce6_5
      have ce7_6 : w7.cell? ⟨b, o + i * 11 + 6, none⟩ = some (.string (mark.txt (k1 + 1 + 1 + 1 + 1 + 1 + 1))) := (cell_only ho hzc (fun h => NB.out.2.1 (QS.out.2.2.2.1 _ h))).trans ce6_6
      have ce7_7 : w7.cell? ⟨b, o + i * 11 + 7, none⟩ = some (.slice a4_3 x4_3.length c4_3) := (cell_only ho hzc (fun h => NB.out.2.1 (QS.out.2.2.2.1 _ h))).trans ce6_7
      have ce7_8 : w7.cell? ⟨b, o + i * 11 + 8, none⟩ = some (.slice a5 x5.length c5) := (cell_only ho hzc (fun h => NB.out.2.1 (QS.out.2.2.2.1 _ h))).trans ce6_8
      have ce7_9 : w7.cell? ⟨b, o + i * 11 + 9, none⟩ = some (.slice a6 x6.length c6) := (cell_only ho hzc (fun h => NB.out.2.1 (QS.out.2.2.2.1 _ h))).trans ce6_9
      have ce7_10 : w7.cell? ⟨b, o + i * 11 + 10, none⟩ = some (.slice a7 x7.length c7) := (cell_only ho hzc (fun h => NB.out.2.1 (QS.out.2.2.2.1 _ h))).trans ce6_10
      have z7 : b < w7.heap.size := Nat.lt_of_lt_of_le z6 SG.only.size
      have TT7 : Hid (Turn2 b (o + i * 11) (o + i * 11 + 11) (F i) wr w7) := TT6.out.trans (SG.mono (QS.out.2.2.2.1))
      have FZ7 : Hid (∀ q, F i q → q < w7.heap.size) := fun q hq => Nat.lt_of_lt_of_le (FZ6.out q hq) SG.only.size
      have R7_4_3 : Hid (ty.tySp.sslice.rep w7 (Q4) [.slice a4_3 x4_3.length c4_3] (ty.mks (k1 + 1 + 1 + 1 + 1 + 1 + 1 + 1) x4_3)) := ty.tySp.sslice.on R6_4_3.out fun q hq => SG.only.block q (FZ6.out q (QS.out.1 q hq)) (fun e => e.elim (fun e => NB.out.1 q (QS.out.1 q hq) e) (fun h => QS.out.2.2.2.2.2.2.1 q hq h))
      have R7_5 : Hid (ty.tySp.sslice.rep w7 (Q5) [.slice a5 x5.length c5] (ty.mks (k1 + 1 + 1 + 1 + 1 + 1 + 1 + 1 + (ty.cnts x4_3 : Nat)) x5)) := ty.tySp.sslice.on R6_5.out fun q hq => SG.only.block q (FZ6.out q (QS.out.2.1 q hq)) (fun e => e.elim (fun e => NB.out.1 q (QS.out.2.1 q hq) e) (fun h => QS.out.2.2.2.2.2.2.2.2.1 q hq h))
      have R7_6 : Hid (Sh.int.sslice.rep w7 (Q6) [.slice a6 x6.length c6] (ints.mks (k1 + 1 + 1 + 1 + 1 + 1 + 1 + 1 + (ty.cnts x4_3 : Nat) + (ty.cnts x5 : Nat)) x6)) := Sh.int.sslice.on R6_6.out fun q hq => SG.only.block q (FZ6.out q (QS.out.2.2.1 q hq)) (fun e => e.elim (fun e => NB.out.1 q (QS.out.2.2.1 q hq) e) (fun h => QS.out.2.2.2.2.2.2.2.2.2 q hq h))
      have R7_7 : Hid (typedSp.sslice.rep w7 (Q7) [.slice a7 x7.length c7] (mks (k1 + 1 + 1 + 1 + 1 + 1 + 1 + 1 + (ty.cnts x4_3 : Nat) + (ty.cnts x5 : Nat) + (x6.length : Nat)) x7)) := hr
      have fz7 := TT7.out.fz BK.out
      clear SG hzc ho hr ce6_0 ce6_1 ce6_2 ce6_3 ce6_4 ce6_5 ce6_6 ce6_7 ce6_8 ce6_9 ce6_10 FZ6 TT6 z6 fz6 R6_4_3 R6_5 R6_6 R6_7
      have hx : k1 + 1 + 1 + 1 + 1 + 1 + 1 + 1 + (ty.cnts x4_3 : Nat) + (ty.cnts x5 : Nat) + (x6.length : Nat) + (cnts x7 : Nat) = k + (cnts (ks.take (i + 1)) : Nat) := by have := W1.out; have := W3.out; have := HK1.out; omega
      rw [hx]
      clear hx
      have NX : Hid (∃ css2, SRow typedSp w7 S (some ⟨b, o, none⟩) css2 F (mid k ks (i + 1)) ∧ Only S w w7) := by
        have CD : CellsAt w7 b (o + i * 11) [.int .i64 k1, .int .i64 (k1 + 1), .string (mark.txt (k1 + 1 + 1)), .string (mark.txt (k1 + 1 + 1 + 1)), .int .i64 (k1 + 1 + 1 + 1 + 1), .int .i64 (k1 + 1 + 1 + 1 + 1 + 1), .string (mark.txt (k1 + 1 + 1 + 1 + 1 + 1 + 1)), .slice a4_3 x4_3.length c4_3, .slice a5 x5.length c5, .slice a6 x6.length c6, .slice a7 x7.length c7] := by
          intro q v hq
          match q, hq with
          | 0, hq => simp at hq; subst hq; exact ce7_0
          | 1, hq => simp at hq; subst hq; exact ce7_1
          | 2, hq => simp at hq; subst hq; exact ce7_2
          | 3, hq => simp at hq; subst hq; exact ce7_3
          | 4, hq => simp at hq; subst hq; exact ce7_4
          | 5, hq => simp at hq; subst hq; exact ce7_5
          | 6, hq => simp at hq; subst hq; exact ce7_6
          | 7, hq => simp at hq; subst hq; exact ce7_7
          | 8, hq => simp at hq; subst hq; exact ce7_8
          | 9, hq => simp at hq; subst hq; exact ce7_9
          | 10, hq => simp at hq; subst hq; exact ce7_10
          | _ + 11, hq => simp at hq
        have hsh : typedSp.rep w7 (F i) [.int .i64 k1, .int .i64 (k1 + 1), .string (mark.txt (k1 + 1 + 1)), .string (mark.txt (k1 + 1 + 1 + 1)), .int .i64 (k1 + 1 + 1 + 1 + 1), .int .i64 (k1 + 1 + 1 + 1 + 1 + 1), .string (mark.txt (k1 + 1 + 1 + 1 + 1 + 1 + 1)), .slice a4_3 x4_3.length c4_3, .slice a5 x5.length c5, .slice a6 x6.length c6, .slice a7 x7.length c7] (mk k1 (.mk (x0, x1, x2, x3, (.mk (x4_0, x4_1, x4_2) x4_3), x5, x6) x7)) := by rw [mk_eq]; exact typedp_shutv (by omega) (by omega) (mark.txt_size (by omega)) (mark.txt_size (by omega)) (ty.typ_shutv (by omega) (by omega) (mark.txt_size (by omega)) R7_4_3.out) R7_5.out R7_6.out R7_7.out QS.out.1 QS.out.2.1 QS.out.2.2.1 QS.out.2.2.2.1 QS.out.2.2.2.2.1 QS.out.2.2.2.2.2.1 QS.out.2.2.2.2.2.2.1 QS.out.2.2.2.2.2.2.2.1 QS.out.2.2.2.2.2.2.2.2.1 QS.out.2.2.2.2.2.2.2.2.2
        rw [← HT.out] at hsh
        have hn := HJ.out.1.turn2 (fun q hq => Nat.lt_of_lt_of_le (HS.out q hq) HJ.out.2.size) hlm rfl TT7.out CD hsh
        rw [HK1.out, mid_set k ks hlt] at hn
        exact ⟨_, hn.1, HJ.out.2.trans hn.2⟩
      clear fz7 ce7_0 ce7_1 ce7_2 ce7_3 ce7_4 ce7_5 ce7_6 ce7_7 ce7_8 ce7_9 ce7_10 R7_4_3 R7_5 R7_6 R7_7
      go_wp2
      go_round
      case rel => obtain ⟨css2, n1, n2⟩ := NX.out; exact ⟨i + 1, css2, by omega, by go_num, rfl, n1, n2⟩
      case measure => simp [intOf]; omega
    · obtain rfl : i = ks.length := by omega
      have hq := HJ.out
      rw [mid_full] at hq
      go_wp2
      go_ret
      refine ⟨by rw [List.take_length]; rfl, ?_, hq.2⟩
      have hl := mks_length k ks
      exact ⟨a, cap, css', F, by rw [hl], by rw [hl]; exact HC.out.1, HC.out.2.1, HC.out.2.2, hq.1⟩

theorem mark_any (T : TypedD) : MarkSays T.kids := by
  induction T using ind with
  | h x ks ih => exact mark_of ks fun t ht => ih t ht
theorem markS_any (ks : List TypedD) : MarkSays ks := mark_of ks fun t _ => mark_any t


end Go.Proofs.Ytklcjjckelahcaa.typed
