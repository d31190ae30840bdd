/-
  The law's comparison of two Values and of slices of them: of two that are the same it says true; nothing that was there is turned.
  A Value that lies in memory apart: its slices are all different blocks.
  The law's marks in a Value: where it lies apart, each cell gets a number, or a text, of its own, and what is read back is what was written; nothing else is turned.
  The law's marks in one Value: its slices are marked, nothing else is turned.
  The law's look at the marks in slices of Value: where they are what was marked, it tells how far it came; nothing that was there is turned.
  The law's look at the marks in one Value: where its kids are what was marked, it tells how far it came; nothing that was there is turned.
  Whether a number lies between two; no program named.
-/
import Derived.Deep.RegionWith
import Derived.RowKit
import Derived.Test.YtjofmoebijdccaaGreatB1
import Derived.Test.YtjofmoebijdccaaGreatB2
import Derived.Test.YtjofmoebijdccaaGreatB3
import Derived.Test.YtjofmoebijdccaaGreatB4
import Derived.Test.YtjofmoebijdccaaGreatB5
import Derived.Test.YtjofmoebijdccaaGreatB6
import Derived.Test.YtjofmoebijdccaaGreatB7
import Derived.Test.YtjofmoebijdccaaGreatB8
import Derived.Test.YtjofmoebijdccaaGreatB9
import Derived.Test.YtjofmoebijdccaaGreatB10
import Derived.Test.YtjofmoebijdccaaGreatB11
import Derived.Test.YtjofmoebijdccaaGreatB12
import Derived.Test.YtjofmoebijdccaaGreatB13
import Derived.Test.YtjofmoebijdccaaGreatB14
namespace Go.Proofs.YtjofmoebijdccaaGreat.value
open Go.RowKit Go.Proofs.YtjofmoebijdccaaGreat.rose Go.Proofs.YtjofmoebijdccaaGreat
set_option linter.unusedVariables false

def EqSays (T : ValueD) : Prop := ∀ cs1 cs2 w, valueSh.rep w (· < w.heap.size) cs1 T → valueSh.rep w (· < w.heap.size) cs2 T →
  Calls Tryz.prog 10 #[.agg cs1.toArray, .agg cs2.toArray] w fun e w' => e = .returned (.bool true) ∧ Below w.heap.size w w'

set_option maxHeartbeats 2000000 in
theorem eqS_of (ks : List ValueD) (ih : ∀ k ∈ ks, EqSays k) (v1 v2 : Value) (w : World) (h : valueSh.slice.rep w (· < w.heap.size) [v1] ks) (h' : valueSh.slice.rep w (· < w.heap.size) [v2] ks) :
    Calls Tryz.prog 29 #[v1, v2] w fun e w' => e = .returned (.bool true) ∧ Below w.heap.size w w' := by
  obtain ⟨a, cap, css, rfl, hcap, hmax, hrow, hk⟩ := values_open h
  obtain ⟨a', cap', css', rfl, hcap', hmax', hrow', hk'⟩ := values_open h'
  have hmx : (ks.length : Int) ≤ 9223372036854775807 := by unfold maxLen at hmax; omega
  clear h hcap hmax h' hcap' hmax'
  have IH : Hid (∀ k ∈ ks, EqSays k) := ih
  have HR : Hid (RowAt w (· < w.heap.size) 4 a ks.length css ∧ ∀ i (h : i < ks.length), valueSh.rep w (· < w.heap.size) (css i) ks[i]) := ⟨hrow, hk⟩
  have HR' : Hid (RowAt w (· < w.heap.size) 4 a' ks.length css' ∧ ∀ i (h : i < ks.length), valueSh.rep w (· < w.heap.size) (css' i) ks[i]) := ⟨hrow', hk'⟩
  clear ih hrow hk hrow' hk'
  go_enter Tryz.func29, Tryz.ntmps29
  go_wp2
  go_loopw [5] (fun v5 wr => ∃ i : Nat, i ≤ ks.length ∧ v5 = .int .i64 i ∧ Hid (Below w.heap.size w wr)) (fun v5 _ => ks.length - (intOf v5).toNat)
  case atStart => exact ⟨0, Nat.zero_le _, rfl, Below.refl _ _⟩
  case round =>
    obtain ⟨i, hi, rfl, HB⟩ := hrel
    by_cases hlt : i < ks.length
    · obtain ⟨b, o, rfl, hS, hc⟩ := HR.out.1 i hlt
      have hrep := HR.out.2 i hlt
      obtain ⟨v0, v1, v2, v3, hcs, c0, c1, c2, c3⟩ := value_cells hrep hc
      have e0 := (HB.out.cell (p := ⟨b, o + i * 4, none⟩) hS).trans c0
      have e1 := (HB.out.cell (p := ⟨b, o + i * 4 + 1, none⟩) hS).trans c1
      have e2 := (HB.out.cell (p := ⟨b, o + i * 4 + 2, none⟩) hS).trans c2
      have e3 := (HB.out.cell (p := ⟨b, o + i * 4 + 3, none⟩) hS).trans c3
      rw [hcs] at hrep
      clear c0 c1 c2 c3 hc hcs
      obtain ⟨b', o', rfl, hS', hc⟩ := HR'.out.1 i hlt
      have hrep' := HR'.out.2 i hlt
      obtain ⟨v0', v1', v2', v3', hcs, c0, c1, c2, c3⟩ := value_cells hrep' hc
      have e0' := (HB.out.cell (p := ⟨b', o' + i * 4, none⟩) hS').trans c0
      have e1' := (HB.out.cell (p := ⟨b', o' + i * 4 + 1, none⟩) hS').trans c1
      have e2' := (HB.out.cell (p := ⟨b', o' + i * 4 + 2, none⟩) hS').trans c2
      have e3' := (HB.out.cell (p := ⟨b', o' + i * 4 + 3, none⟩) hS').trans c3
      rw [hcs] at hrep'
      clear c0 c1 c2 c3 hc hcs
      have hR := valueSh.mono (valueSh.below hrep HB.out) (S' := (· < wr.heap.size)) (fun b hb => Nat.lt_of_lt_of_le hb HB.out.size)
      have hR' := valueSh.mono (valueSh.below hrep' HB.out) (S' := (· < wr.heap.size)) (fun b hb => Nat.lt_of_lt_of_le hb HB.out.size)
      clear hrep hrep'
      have hcall := IH.out ks[i] (List.getElem_mem hlt) [v0, v1, v2, v3] [v0', v1', v2', v3'] wr.drew (valueSh.on hR fun _ _ => rfl) (valueSh.on hR' fun _ _ => rfl)
      clear hR hR'
      go_wp2
      go_region_with (go_at_call 10; refine hcall.mono ?_; rintro e w1 ⟨rfl, hb⟩)
      all_goals
        have B1 : Hid (Below w.heap.size w w1) := (HB.out.drew).trans (hb.mono HB.out.size)
        clear hb hcall HB
        go_wp2
        go_round
        case rel => exact ⟨i + 1, by omega, by go_num, B1⟩
        case measure => simp [intOf]; omega
    · obtain rfl : i = ks.length := by omega
      go_wp2
      go_ret
      exact ⟨rfl, HB.out⟩

set_option maxHeartbeats 1000000 in
theorem eq_any (T : ValueD) : EqSays T := by
  induction T using ind with
  | h x x3 ih =>
    intro cs1 cs2 w h h'
    obtain ⟨x0, x1, x2, x3k, a3, c3, hT, rfl, f0, f1, f2, f3⟩ := value_open h
    cases hT
    obtain ⟨x0', x1', x2', x3', a3', c3', hT, rfl, g0, g1, g2, g3⟩ := value_open h'
    cases hT
    clear h h'
    have K3 : ∀ (w' : World), Below w.heap.size w w' → Calls Tryz.prog 29 #[.slice a3 x3.length c3, .slice a3' x3.length c3'] w' fun e w'' => e = .returned (.bool true) ∧ Below w'.heap.size w' w'' :=
      fun w' hb => eqS_of x3 ih _ _ w' (valueSh.slice.mono (valueSh.slice.below f3 hb) fun b hlt => Nat.lt_of_lt_of_le hlt hb.size) (valueSh.slice.mono (valueSh.slice.below g3 hb) fun b hlt => Nat.lt_of_lt_of_le hlt hb.size)
    clear ih f3 g3
    go_enter Tryz.func10, Tryz.ntmps10
    go_wp2_with fail
    refine (K3 _ (((Below.refl _ _).alloc (Nat.le_refl _) _).alloc (by simp) _)).mono ?_
    rintro e w1 ⟨rfl, hb⟩
    have B1 : Hid (Below w.heap.size w w1) := (((Below.refl _ _).alloc (Nat.le_refl _) _).alloc (by simp) _).trans (hb.mono (by simp; omega))
    have z1 : w.heap.size + 2 ≤ w1.heap.size := Nat.le_trans (by simp) hb.size
    clear hb K3
    go_wp2
    go_ret
    exact ⟨rfl, B1.out⟩

theorem eqS_any (ks : List ValueD) (v1 v2 : Value) (w : World) (h : valueSh.slice.rep w (· < w.heap.size) [v1] ks) (h' : valueSh.slice.rep w (· < w.heap.size) [v2] ks) :
    Calls Tryz.prog 29 #[v1, v2] w fun e w' => e = .returned (.bool true) ∧ Below w.heap.size w w' := eqS_of ks (fun k _ => eq_any k) v1 v2 w h h'

end Go.Proofs.YtjofmoebijdccaaGreat.value

namespace Go.Proofs.YtjofmoebijdccaaGreat.value
open Go.RowKit Go.Proofs.YtjofmoebijdccaaGreat.rose Go.Proofs.YtjofmoebijdccaaGreat
set_option linter.unusedVariables false

abbrev valueSp : Sh ValueD := paySh.srose

theorem valuep_rep {w : World} {S : Nat → Prop} {cs : List Value} {T : ValueD} (h : valueSp.rep w S cs T) : valueSh.rep w S cs T := srose_rep (fun h => h) rfl h
theorem valueps_rep {w : World} {S : Nat → Prop} {cs : List Value} {ks : List ValueD} (h : valueSp.sslice.rep w S cs ks) : valueSh.slice.rep w S cs ks := sslice_rep (A := valueSp) (B := valueSh) rfl (fun h => valuep_rep h) h

theorem valuep_shut {w : World} {S : Nat → Prop} {x0 : Int} {x1 : Int} {x2 : ByteArray} {x3 : List ValueD} {a3 : Option Addr} {c3 : Nat} (h0 : -9223372036854775808 ≤ x0 ∧ x0 ≤ 9223372036854775807) (h1 : -9223372036854775808 ≤ x1 ∧ x1 ≤ 9223372036854775807) (h2 : x2.size ≤ maxLen) (h3 : valueSp.sslice.rep w S [.slice a3 x3.length c3] x3) : valueSp.rep w S [.int .i64 x0, .int .i64 x1, .string x2, .slice a3 x3.length c3] (.mk (x0, x1, x2) x3) :=
  srose_iff.2 ⟨[.int .i64 x0, .int .i64 x1, .string x2], [_], fun _ => False, S, rfl, fun _ h => h.elim, fun _ h => h, fun _ h => h.elim, ⟨[_], _, rfl, ⟨rfl, h0⟩, [_], _, rfl, ⟨rfl, h1⟩, ⟨rfl, h2⟩⟩, h3⟩
theorem valuep_shutv {w : World} {S : Nat → Prop} {x0 : Int} {x1 : Int} {x2 : ByteArray} {x3 : List ValueD} {v3 : Value} (h0 : -9223372036854775808 ≤ x0 ∧ x0 ≤ 9223372036854775807) (h1 : -9223372036854775808 ≤ x1 ∧ x1 ≤ 9223372036854775807) (h2 : x2.size ≤ maxLen) (h3 : valueSp.sslice.rep w S [v3] x3) : valueSp.rep w S [.int .i64 x0, .int .i64 x1, .string x2, v3] (.mk (x0, x1, x2) x3) :=
  srose_iff.2 ⟨[.int .i64 x0, .int .i64 x1, .string x2], [_], fun _ => False, S, rfl, fun _ h => h.elim, fun _ h => h, fun _ h => h.elim, ⟨[_], _, rfl, ⟨rfl, h0⟩, [_], _, rfl, ⟨rfl, h1⟩, ⟨rfl, h2⟩⟩, h3⟩
theorem valuep_open {w : World} {S : Nat → Prop} {cs : List Value} {T : ValueD} (h : valueSp.rep w S cs T) : ∃ x0 x1 x2 x3 a3 c3, T = .mk (x0, x1, x2) x3 ∧ cs = [.int .i64 x0, .int .i64 x1, .string x2, .slice a3 x3.length c3] ∧ (-9223372036854775808 ≤ x0 ∧ x0 ≤ 9223372036854775807) ∧ (-9223372036854775808 ≤ x1 ∧ x1 ≤ 9223372036854775807) ∧ x2.size ≤ maxLen ∧ valueSp.sslice.rep w S [.slice a3 x3.length c3] x3 := by
  obtain ⟨⟨x0, x1, x2⟩, x3⟩ := T
  obtain ⟨ps, kc, S1, S2, rfl, s1, s2, s3, ⟨_, _, rfl, ⟨rfl, h0⟩, _, _, rfl, ⟨rfl, h1⟩, ⟨rfl, h2⟩⟩, h3⟩ := srose_iff.1 h
  obtain ⟨a3, c3, rfl⟩ := sslice_cells h3
  exact ⟨_, _, _, _, _, _, rfl, rfl, h0, h1, h2, valueSp.sslice.mono h3 s2⟩
theorem valueps_open {w : World} {S : Nat → Prop} {v : Value} {ks : List ValueD} (h : valueSp.sslice.rep w S [v] ks) : ∃ a cap css F, v = .slice a ks.length cap ∧ ks.length ≤ cap ∧ cap ≤ maxLen ∧ (a = none → cap = 0) ∧ SRow valueSp w S a css F ks := by
  obtain ⟨a, cap, css, F, e, h1, h2, h3, h4⟩ := h
  exact ⟨a, cap, css, F, by simpa using e, h1, h2, h3, h4⟩

end Go.Proofs.YtjofmoebijdccaaGreat.value

namespace Go.Proofs.YtjofmoebijdccaaGreat.value
open Go.RowKit Go.Proofs.YtjofmoebijdccaaGreat.rose Go.Proofs.YtjofmoebijdccaaGreat
set_option linter.unusedVariables false

mutual
/-- How many marks it takes as an element. -/
def cnt : ValueD → Nat
  | .mk (x0, x1, x2) x3 => 3 + (cnts x3)
def cnts : List ValueD → Nat
  | [] => 0
  | k :: ks => cnt k + cnts ks
end
mutual
def mk (k : Int) : ValueD → ValueD
  | .mk (x0, x1, x2) x3 => .mk (k, k + 1, mark.txt (k + 1 + 1)) (mks (k + 1 + 1 + 1) x3)
def mks (k : Int) : List ValueD → List ValueD
  | [] => []
  | t :: ts => mk k t :: mks (k + (cnt t : Nat)) ts
end

theorem mks_length (k : Int) (ks : List ValueD) : (mks k ks).length = ks.length := by
  induction ks generalizing k with
  | nil => simp [mks]
  | cons t ts ih => simp [mks, ih]
theorem cnts_take {ks : List ValueD} {i : Nat} (h : i < ks.length) : cnts (ks.take (i + 1)) = cnts (ks.take i) + cnt ks[i] := by
  induction ks generalizing i with
  | nil => simp at h
  | cons k ks ih =>
    cases i with
    | zero => simp [cnts]
    | succ i => simp [cnts, ih (by simpa using h)]; omega
theorem cnts_take_le (ks : List ValueD) (i : Nat) : cnts (ks.take i) ≤ cnts ks := by
  induction ks generalizing i with
  | nil => simp [cnts]
  | cons k ks ih =>
    cases i with
    | zero => simp [cnts]
    | succ i => simp [cnts]; exact ih i
theorem mks_get {k : Int} {ks : List ValueD} {i : Nat} (h : i < ks.length) (h' : i < (mks k ks).length) : (mks k ks)[i] = mk (k + (cnts (ks.take i) : Nat)) ks[i] := by
  induction ks generalizing k i with
  | nil => simp at h
  | cons t ts ih =>
    cases i with
    | zero => simp [mks, cnts]
    | succ i =>
      simp only [mks, List.getElem_cons_succ, List.take_succ_cons, cnts]
      rw [ih (by simpa using h)]
      congr 1
      omega
theorem cnt_le (T : ValueD) : cnt T ≤ 3 + 3 * wt T := by
  induction T using ind with
  | h x x3 ih =>
    have key : ∀ l : List ValueD, (∀ k ∈ l, cnt k ≤ 3 + 3 * wt k) → cnts l ≤ 3 * (l.length + wts l) := by
      intro l
      induction l with
      | nil => intro _; simp [cnts]
      | cons a l ih2 =>
        intro h
        have h1 := h a (by simp)
        have h2 := ih2 fun k hk => h k (by simp [hk])
        simp only [cnts, wts, List.length_cons]
        omega
    have := key x3 ih
    obtain ⟨x0, x1, x2⟩ := x
    simp only [cnt, wt]
    omega
theorem cnts_le (ks : List ValueD) : cnts ks ≤ 3 * (ks.length + wts ks) := by
  induction ks with
  | nil => simp [cnts]
  | cons a l ih =>
    have := cnt_le a
    simp only [cnts, wts, List.length_cons]
    omega

/-- The first i are marked. -/
def mid (k : Int) (ks : List ValueD) (i : Nat) : List ValueD := (mks k ks).take i ++ ks.drop i
theorem mid_length (k : Int) (ks : List ValueD) {i : Nat} (h : i ≤ ks.length) : (mid k ks i).length = ks.length := by
  simp [mid, mks_length]; omega
theorem mid_zero (k : Int) (ks : List ValueD) : mid k ks 0 = ks := by simp [mid]
theorem mid_full (k : Int) (ks : List ValueD) : mid k ks ks.length = mks k ks := by
  unfold mid; rw [List.take_of_length_le (by rw [mks_length]; exact Nat.le_refl _)]; simp
theorem mid_get (k : Int) (ks : List ValueD) {i : Nat} (h : i < ks.length) (h' : i < (mid k ks i).length) : (mid k ks i)[i] = ks[i] := by
  have e : (mid k ks i)[i]? = ks[i]? := by
    unfold mid
    rw [List.getElem?_append_right (by simp; omega)]
    simp [mks_length, Nat.min_eq_left (Nat.le_of_lt h)]
  rw [List.getElem?_eq_getElem h, List.getElem?_eq_getElem h'] at e
  exact Option.some.inj e
theorem mid_set (k : Int) (ks : List ValueD) {i : Nat} (h : i < ks.length) : (mid k ks i).set i (mk (k + (cnts (ks.take i) : Nat)) ks[i]) = mid k ks (i + 1) := by
  unfold mid
  have hl : ((mks k ks).take i).length = i := by simp [mks_length]; omega
  rw [List.set_append, if_neg (by omega), hl, Nat.sub_self, List.drop_eq_getElem_cons h, List.set_cons_zero]
  rw [List.take_succ_eq_append_getElem (show i < (mks k ks).length by rw [mks_length]; exact h), List.append_assoc, mks_get h]
  rfl

def MarkSays (ks : List ValueD) : Prop := ∀ (v : Value) (w : World) (k : Int) (S : Nat → Prop), 1 ≤ k → k + (cnts ks : Nat) ≤ 1152921504606846976 → (∀ b, S b → b < w.heap.size) → valueSp.sslice.rep w S [v] ks →
  Calls Tryz.prog 41 #[v, .int .i64 k] w fun e w' => e = .returned (.int .i64 (k + (cnts ks : Nat))) ∧ valueSp.sslice.rep w' S [v] (mks k ks) ∧ Only S w w'

theorem mk_eq (k : Int) (x0 : Int) (x1 : Int) (x2 : ByteArray) (x3 : List ValueD) : mk k (.mk (x0, x1, x2) x3) = .mk (k, k + 1, mark.txt (k + 1 + 1)) (mks (k + 1 + 1 + 1) x3) := by simp [mk]

set_option maxRecDepth 100000 in
set_option maxHeartbeats 4000000 in
theorem mark_of (ks : List ValueD) (ih : ∀ t ∈ ks, MarkSays t.kids) : MarkSays ks := by
  intro v w k S hk1 hk2 hS h
  obtain ⟨a, cap, css, F, rfl, hcap, hmax, hnone, hrow⟩ := valueps_open h
  have hmx : (ks.length : Int) ≤ 9223372036854775807 := by unfold maxLen at hmax; omega
  have IH : Hid (∀ t ∈ ks, MarkSays t.kids) := ih
  have HC : Hid (ks.length ≤ cap ∧ cap ≤ maxLen ∧ (a = none → cap = 0)) := ⟨hcap, hmax, hnone⟩
  have HS : Hid (∀ b, S b → b < w.heap.size) := hS
  have HR : Hid (SRow valueSp w S a css F (mid k ks 0)) := by show SRow _ _ _ _ _ _ _; rw [mid_zero]; exact hrow
  clear h hcap hmax hnone hS ih hrow
  have HK : Hid (k + (cnts ks : Nat) ≤ 1152921504606846976) := hk2
  clear hk2
  go_enter Tryz.func41, Tryz.ntmps41
  go_wp2
  go_loopw [1, 5] (fun v1 v5 wr => ∃ (i : Nat) (css' : Nat → List Value), i ≤ ks.length ∧ v5 = .int .i64 i ∧ v1 = .int .i64 (k + (cnts (ks.take i) : Nat)) ∧ Hid (SRow valueSp wr S a css' F (mid k ks i) ∧ Only S w wr)) (fun _ v5 _ => ks.length - (intOf v5).toNat)
  case atStart => exact ⟨0, css, Nat.zero_le _, rfl, by simp [cnts], HR.out, Only.refl _ _⟩
  case round =>
    obtain ⟨i, css', hi, rfl, rfl, HJ⟩ := hrel
    by_cases hlt : i < ks.length
    · have hlm : i < (mid k ks i).length := by rw [mid_length k ks hi]; exact hlt
      obtain ⟨b, o, rfl, hSb, hFb, hc, hfz, cur, t, hbk⟩ := HJ.out.1.at hlm
      have hrep := HJ.out.1.rep i hlm
      rw [mid_get k ks hlt] at hrep
      obtain ⟨x0, x1, x2, x3, a3, c3, hT, hcs, f0, f1, f2, f3⟩ := valuep_open hrep
      rw [hcs] at hc
      have ce0_0 : wr.cell? ⟨b, o + i * 4, none⟩ = some (.int .i64 x0) := hc 0 _ rfl
      have ce0_1 : wr.cell? ⟨b, o + i * 4 + 1, none⟩ = some (.int .i64 x1) := hc 1 _ rfl
      have ce0_2 : wr.cell? ⟨b, o + i * 4 + 2, none⟩ = some (.string x2) := hc 2 _ rfl
      have ce0_3 : wr.cell? ⟨b, o + i * 4 + 3, none⟩ = some (.slice a3 x3.length c3) := hc 3 _ rfl
      have W1 : Hid (cnts (ks.take (i + 1)) = cnts (ks.take i) + cnt ks[i]) := cnts_take hlt
      have W2 : Hid (cnts (ks.take (i + 1)) ≤ cnts ks) := cnts_take_le ks (i + 1)
      have W3 : Hid (cnt ks[i] = 3 + (cnts x3)) := by show _ = _; rw [hT]; simp [cnt]
      obtain ⟨k1, hk⟩ : ∃ k1 : Int, k1 = k + (cnts (ks.take i) : Nat) := ⟨_, rfl⟩
      have HK1 : Hid (k1 = k + (cnts (ks.take i) : Nat)) := hk
      rw [← hk]
      have hb1 : 1 ≤ k1 := by omega
      have hb2 : k1 + 3 + (cnts x3 : Nat) ≤ 1152921504606846976 := by have := W1.out; have := W2.out; have := W3.out; have := HK.out; omega
      have BK : Hid (wr.heap[b]? = some (.cells cur t)) := hbk
      have IHk := IH.out ks[i] (List.getElem_mem hlt)
      rw [hT] at IHk
      have IHK : Hid (MarkSays x3) := IHk
      have NB : Hid ((∀ q, F i q → q ≠ b) ∧ ¬ F i b ∧ S b) := ⟨fun q hq e => hFb (e ▸ hq), hFb, hSb⟩
      have HT : Hid (ks[i] = .mk (x0, x1, x2) x3) := hT
      have z0 : b < wr.heap.size := Nat.lt_of_lt_of_le (HS.out b hSb) HJ.out.2.size
      have FZ0 : Hid (∀ q, F i q → q < wr.heap.size) := fun q hq => Nat.lt_of_lt_of_le (HS.out q (HJ.out.1.sub i hlm q hq)) HJ.out.2.size
      have TT0 : Hid (Turn2 b (o + i * 4) (o + i * 4 + 4) (F i) wr wr) := Turn2.refl _ _ _ _ _
      have R0_3 : Hid (valueSp.sslice.rep wr (F i) [.slice a3 x3.length c3] x3) := f3
      clear hk hrep hcs hc hbk hFb hSb hT IHk f0 f1 f2 f3
      go_wp2_with fail
      refine (mark.text_any _ (by omega) (by omega) _).mono ?_
      rintro e w1 ⟨rfl, hb⟩
      have hzc : b < ((wr.setCell ⟨b, o + i * 4, none⟩ (.int .i64 k1)).setCell ⟨b, o + i * 4 + 1, none⟩ (.int .i64 (k1 + 1))).heap.size := by first | exact z0 | (simp only [size_set]; exact z0)
      have SG : Turn2 b (o + i * 4) (o + i * 4 + 4) (fun _ => False) wr w1 := (((Turn2.refl b (o + i * 4) (o + i * 4 + 4) (fun _ => False) wr).set (o + i * 4) _ (by omega) (by omega)).set (o + i * 4 + 1) _ (by omega) (by omega)).below hb hzc
      have ce1_0 : w1.cell? ⟨b, o + i * 4, none⟩ = some (.int .i64 k1) := (hb.cell (p := ⟨b, o + i * 4, none⟩) hzc).trans ((cell_set_ne (by omega)).trans (cell_set_eq ce0_0))
      have ce1_1 : w1.cell? ⟨b, o + i * 4 + 1, none⟩ = some (.int .i64 (k1 + 1)) := (hb.cell (p := ⟨b, o + i * 4 + 1, none⟩) hzc).trans (cell_set_eq ((cell_set_ne (by omega)).trans ce0_1))
      have ce1_2 : w1.cell? ⟨b, o + i * 4 + 2, none⟩ = some (.string x2) := (hb.cell (p := ⟨b, o + i * 4 + 2, none⟩) hzc).trans ((cell_set_ne (by omega)).trans ((cell_set_ne (by omega)).trans ce0_2))
      have ce1_3 : w1.cell? ⟨b, o + i * 4 + 3, none⟩ = some (.slice a3 x3.length c3) := (hb.cell (p := ⟨b, o + i * 4 + 3, none⟩) hzc).trans ((cell_set_ne (by omega)).trans ((cell_set_ne (by omega)).trans ce0_3))
      have z1 : b < w1.heap.size := Nat.lt_of_lt_of_le z0 SG.only.size
      have TT1 : Hid (Turn2 b (o + i * 4) (o + i * 4 + 4) (F i) wr w1) := TT0.out.trans (SG.mono (fun _ h => h.elim))
      have FZ1 : Hid (∀ q, F i q → q < w1.heap.size) := fun q hq => Nat.lt_of_lt_of_le (FZ0.out q hq) SG.only.size
      have R1_3 : Hid (valueSp.sslice.rep w1 (F i) [.slice a3 x3.length c3] (x3)) := valueSp.sslice.on R0_3.out fun q hq => SG.only.block q (FZ0.out q hq) (fun e => e.elim (fun e => NB.out.1 q hq e) (fun h => h.elim))
      have fz1 := TT1.out.fz BK.out
      clear SG hzc hb ce0_0 ce0_1 ce0_2 ce0_3 FZ0 TT0 z0 hfz R0_3
      have dd : (w1.setCell ⟨b, o + i * 4 + 2, none⟩ (.string (mark.txt (k1 + 1 + 1)))).cell? ⟨b, o + i * 4 + 3, none⟩ = some (.slice a3 x3.length c3) := ((cell_set_ne (by omega)).trans ce1_3)
      have hcall := IHK.out (.slice a3 x3.length c3) (w1.setCell ⟨b, o + i * 4 + 2, none⟩ (.string (mark.txt (k1 + 1 + 1)))) (k1 + 1 + 1 + 1) (F i) (by omega) (by omega) (fun q hq => by first | exact FZ1.out q hq | (simp only [size_set]; exact FZ1.out q hq)) (valueSp.sslice.on R1_3.out fun q hq => by repeat rw [block_set (NB.out.1 q hq)])
      go_wp2_with fail
      refine hcall.mono ?_
      clear hcall dd
      rintro e w2 ⟨rfl, hr, ho⟩
      have hzc : b < (w1.setCell ⟨b, o + i * 4 + 2, none⟩ (.string (mark.txt (k1 + 1 + 1)))).heap.size := by first | exact z1 | (simp only [size_set]; exact z1)
      have SG : Turn2 b (o + i * 4) (o + i * 4 + 4) (F i) w1 w2 := ((Turn2.refl b (o + i * 4) (o + i * 4 + 4) (F i) w1).set (o + i * 4 + 2) _ (by omega) (by omega)).calls ho hzc (fun _ h => h) (fun h => NB.out.2.1 (h))
      have ce2_0 : w2.cell? ⟨b, o + i * 4, none⟩ = some (.int .i64 k1) := (cell_only ho hzc (fun h => NB.out.2.1 (h))).trans ((cell_set_ne (by omega)).trans ce1_0)
      have ce2_1 : w2.cell? ⟨b, o + i * 4 + 1, none⟩ = some (.int .i64 (k1 + 1)) := (cell_only ho hzc (fun h => NB.out.2.1 (h))).trans ((cell_set_ne (by omega)).trans ce1_1)
      have ce2_2 : w2.cell? ⟨b, o + i * 4 + 2, none⟩ = some (.string (mark.txt (k1 + 1 + 1))) := (cell_only ho hzc (fun h => NB.out.2.1 (h))).trans (cell_set_eq ce1_2)
      have ce2_3 : w2.cell? ⟨b, o + i * 4 + 3, none⟩ = some (.slice a3 x3.length c3) := (cell_only ho hzc (fun h => NB.out.2.1 (h))).trans ((cell_set_ne (by omega)).trans ce1_3)
      have z2 : b < w2.heap.size := Nat.lt_of_lt_of_le z1 SG.only.size
      have TT2 : Hid (Turn2 b (o + i * 4) (o + i * 4 + 4) (F i) wr w2) := TT1.out.trans (SG.mono (fun q h => h))
      have FZ2 : Hid (∀ q, F i q → q < w2.heap.size) := fun q hq => Nat.lt_of_lt_of_le (FZ1.out q hq) SG.only.size
      have R2_3 : Hid (valueSp.sslice.rep w2 (F i) [.slice a3 x3.length c3] (mks (k1 + 1 + 1 + 1) x3)) := hr
      have fz2 := TT2.out.fz BK.out
      clear SG hzc ho hr ce1_0 ce1_1 ce1_2 ce1_3 FZ1 TT1 z1 fz1 R1_3
      have hx : k1 + 1 + 1 + 1 + (cnts x3 : Nat) = k + (cnts (ks.take (i + 1)) : Nat) := by have := W1.out; have := W3.out; have := HK1.out; omega
      rw [hx]
      clear hx
      have NX : Hid (∃ css2, SRow valueSp w2 S (some ⟨b, o, none⟩) css2 F (mid k ks (i + 1)) ∧ Only S w w2) := by
        have CD : CellsAt w2 b (o + i * 4) [.int .i64 k1, .int .i64 (k1 + 1), .string (mark.txt (k1 + 1 + 1)), .slice a3 x3.length c3] := by
          intro q v hq
          match q, hq with
          | 0, hq => simp at hq; subst hq; exact ce2_0
          | 1, hq => simp at hq; subst hq; exact ce2_1
          | 2, hq => simp at hq; subst hq; exact ce2_2
          | 3, hq => simp at hq; subst hq; exact ce2_3
          | _ + 4, hq => simp at hq
        have hsh : valueSp.rep w2 (F i) [.int .i64 k1, .int .i64 (k1 + 1), .string (mark.txt (k1 + 1 + 1)), .slice a3 x3.length c3] (mk k1 (.mk (x0, x1, x2) x3)) := by rw [mk_eq]; exact valuep_shutv (by omega) (by omega) (mark.txt_size (by omega)) R2_3.out
        rw [← HT.out] at hsh
        have hn := HJ.out.1.turn2 (fun q hq => Nat.lt_of_lt_of_le (HS.out q hq) HJ.out.2.size) hlm rfl TT2.out CD hsh
        rw [HK1.out, mid_set k ks hlt] at hn
        exact ⟨_, hn.1, HJ.out.2.trans hn.2⟩
      clear fz2 ce2_0 ce2_1 ce2_2 ce2_3 R2_3
      go_wp2
      go_round
      case rel => obtain ⟨css2, n1, n2⟩ := NX.out; exact ⟨i + 1, css2, by omega, by go_num, rfl, n1, n2⟩
      case measure => simp [intOf]; omega
    · obtain rfl : i = ks.length := by omega
      have hq := HJ.out
      rw [mid_full] at hq
      go_wp2
      go_ret
      refine ⟨by rw [List.take_length]; rfl, ?_, hq.2⟩
      have hl := mks_length k ks
      exact ⟨a, cap, css', F, by rw [hl], by rw [hl]; exact HC.out.1, HC.out.2.1, HC.out.2.2, hq.1⟩

theorem mark_any (T : ValueD) : MarkSays T.kids := by
  induction T using ind with
  | h x ks ih => exact mark_of ks fun t ht => ih t ht
theorem markS_any (ks : List ValueD) : MarkSays ks := mark_of ks fun t _ => mark_any t


end Go.Proofs.YtjofmoebijdccaaGreat.value

namespace Go.Proofs.YtjofmoebijdccaaGreat.value
open Go.RowKit Go.Proofs.YtjofmoebijdccaaGreat.rose Go.Proofs.YtjofmoebijdccaaGreat
set_option linter.unusedVariables false

/-- How many marks the slices of one take. -/
def cntT : ValueD → Nat
  | .mk (x0, x1, x2) x3 => cnts x3

def mkT (k : Int) : ValueD → ValueD
  | .mk (x0, x1, x2) x3 => .mk (x0, x1, x2) (mks k x3)

set_option maxHeartbeats 2000000 in
theorem markT_any (T : ValueD) (cs : List Value) (w : World) (k : Int) (S : Nat → Prop) (hk1 : 1 ≤ k) (hk2 : k + (cntT T : Nat) ≤ 1152921504606846976) (hS : ∀ b, S b → b < w.heap.size) (h : valueSp.rep w S cs T) :
    Calls Tryz.prog 15 #[.agg cs.toArray, .int .i64 k] w fun e w' => e = .returned (.int .i64 (k + (cntT T : Nat))) ∧ Only S w w' ∧ valueSp.rep w' S cs (mkT k T) := by
  obtain ⟨x0, x1, x2, x3, a3, c3, rfl, rfl, f0, f1, f2, f3⟩ := valuep_open h
  have HSB := valueSp.one h
  clear h HSB
  have HS : Hid (∀ b, S b → b < w.heap.size) := hS
  clear hS
  have hct : cntT (.mk (x0, x1, x2) x3) = cnts x3 := rfl
  rw [hct] at hk2 ⊢
  clear hct
  have BA : Hid (Below w.heap.size w (w.alloc (.cells #[.int .i64 x0, .int .i64 x1, .string x2, .slice a3 x3.length c3] 34))) := (Below.refl _ _).alloc (Nat.le_refl _) _
  have R0_3 : Hid (valueSp.sslice.rep w S [.slice a3 x3.length c3] x3) := f3
  have HF : Hid ((-9223372036854775808 ≤ x0 ∧ x0 ≤ 9223372036854775807) ∧ (-9223372036854775808 ≤ x1 ∧ x1 ≤ 9223372036854775807) ∧ (x2.size ≤ maxLen)) := ⟨f0, f1, f2⟩
  clear f0 f1 f2 f3
  go_enter Tryz.func15, Tryz.ntmps15
  go_wp2_with fail
  refine (markS_any x3 _ _ (k) S (by omega) (by omega) (fun b hb => Nat.lt_of_lt_of_le (HS.out b ((fun b h => h) b hb)) BA.out.size) (valueSp.sslice.on R0_3.out fun b hb => BA.out.block b (HS.out b ((fun b h => h) b hb)))).mono ?_
  rintro e w1 ⟨rfl, hr, ho⟩
  have O1 : Hid (Only S (w.alloc (.cells #[.int .i64 x0, .int .i64 x1, .string x2, .slice a3 x3.length c3] 34)) w1) := ho.mono fun b _ hb => (fun b h => h) b hb
  have RF : Hid _ := hr
  clear ho hr
  have hx : k + (cnts x3 : Nat) = k + ((cnts x3 : Nat) : Int) := by omega
  clear hx
  go_wp2
  go_ret
  exact ⟨rfl, (Only.ofBelow BA.out).trans O1.out, valuep_shutv HF.out.1 HF.out.2.1 HF.out.2.2 RF.out⟩

end Go.Proofs.YtjofmoebijdccaaGreat.value

namespace Go.Proofs.YtjofmoebijdccaaGreat.value
open Go.RowKit Go.Proofs.YtjofmoebijdccaaGreat.rose Go.Proofs.YtjofmoebijdccaaGreat
set_option linter.unusedVariables false

def HeldSays (ks : List ValueD) : Prop := ∀ (v : Value) (w : World) (k : Int), 1 ≤ k → k + (cnts ks : Nat) ≤ 1152921504606846976 → valueSh.slice.rep w (· < w.heap.size) [v] (mks k ks) →
  Calls Tryz.prog 42 #[v, .int .i64 k] w fun e w' => e = .returned (.int .i64 (k + (cnts ks : Nat))) ∧ Below w.heap.size w w'

set_option maxRecDepth 100000 in
set_option maxHeartbeats 4000000 in
theorem held_of (ks : List ValueD) (ih : ∀ t ∈ ks, HeldSays t.kids) : HeldSays ks := by
  intro v w k hk1 hk2 h
  obtain ⟨a, cap, css, rfl, hcap, hmax, hrow, hk⟩ := values_open h
  rw [mks_length] at hcap hrow ⊢
  have hmx : (ks.length : Int) ≤ 9223372036854775807 := by unfold maxLen at hmax; omega
  have IH : Hid (∀ t ∈ ks, HeldSays t.kids) := ih
  have HR : Hid (RowAt w (· < w.heap.size) 4 a ks.length css ∧ ∀ i (h : i < ks.length), valueSh.rep w (· < w.heap.size) (css i) (mk (k + (cnts (ks.take i) : Nat)) ks[i])) := ⟨hrow, fun i h => by have := hk i (by rw [mks_length]; exact h); rwa [mks_get h] at this⟩
  have HK : Hid (k + (cnts ks : Nat) ≤ 1152921504606846976) := hk2
  clear h hcap hmax hrow hk hk2 ih
  go_enter Tryz.func42, Tryz.ntmps42
  go_wp2
  go_loopw [1, 5] (fun v1 v5 wr => ∃ (i : Nat), i ≤ ks.length ∧ v5 = .int .i64 i ∧ v1 = .int .i64 (k + (cnts (ks.take i) : Nat)) ∧ Hid (Below w.heap.size w wr)) (fun _ v5 _ => ks.length - (intOf v5).toNat)
  case atStart => exact ⟨0, Nat.zero_le _, rfl, by simp [cnts], Below.refl _ _⟩
  case round =>
    obtain ⟨i, hi, rfl, rfl, HB0⟩ := hrel
    by_cases hlt : i < ks.length
    · obtain ⟨b, o, rfl, hS, hc⟩ := HR.out.1 i hlt
      have hrep := HR.out.2 i hlt
      have W1 : Hid (cnts (ks.take (i + 1)) = cnts (ks.take i) + cnt ks[i]) := cnts_take hlt
      have W2 : Hid (cnts (ks.take (i + 1)) ≤ cnts ks) := cnts_take_le ks (i + 1)
      obtain ⟨k1, hk⟩ : ∃ k1 : Int, k1 = k + (cnts (ks.take i) : Nat) := ⟨_, rfl⟩
      have HK1 : Hid (k1 = k + (cnts (ks.take i) : Nat)) := hk
      rw [← hk] at hrep ⊢
      have IHk := IH.out ks[i] (List.getElem_mem hlt)
      generalize ks[i] = T at W1 hrep IHk
      obtain ⟨⟨x0, x1, x2⟩, x3⟩ := T
      rw [mk_eq] at hrep
      obtain ⟨y0, y1, y2, y3, ba3, bc3, hT, hcs, f0, f1, f2, f3⟩ := value_open hrep
      cases hT
      rw [hcs] at hc
      have ce0_0 : wr.cell? ⟨b, o + i * 4, none⟩ = some (.int .i64 k1) := (HB0.out.cell (p := ⟨b, o + i * 4, none⟩) hS).trans (hc 0 _ rfl)
      have ce0_1 : wr.cell? ⟨b, o + i * 4 + 1, none⟩ = some (.int .i64 (k1 + 1)) := (HB0.out.cell (p := ⟨b, o + i * 4 + 1, none⟩) hS).trans (hc 1 _ rfl)
      have ce0_2 : wr.cell? ⟨b, o + i * 4 + 2, none⟩ = some (.string (mark.txt (k1 + 1 + 1))) := (HB0.out.cell (p := ⟨b, o + i * 4 + 2, none⟩) hS).trans (hc 2 _ rfl)
      have ce0_3 : wr.cell? ⟨b, o + i * 4 + 3, none⟩ = some (.slice ba3 (mks (k1 + 1 + 1 + 1) x3).length bc3) := (HB0.out.cell (p := ⟨b, o + i * 4 + 3, none⟩) hS).trans (hc 3 _ rfl)
      have W3 : Hid (cnt (.mk (x0, x1, x2) x3) = 3 + (cnts x3)) := by show _ = _; simp [cnt]
      have hb1 : 1 ≤ k1 := by omega
      have hb2 : k1 + 3 + (cnts x3 : Nat) ≤ 1152921504606846976 := by have := W1.out; have := W2.out; have := W3.out; have := HK.out; omega
      have IHK : Hid (HeldSays x3) := IHk
      have R_3 : Hid (valueSh.slice.rep w (· < w.heap.size) [.slice ba3 (mks (k1 + 1 + 1 + 1) x3).length bc3] (mks (k1 + 1 + 1 + 1) x3)) := f3
      have z0 : b < wr.heap.size := Nat.lt_of_lt_of_le hS HB0.out.size
      clear hk hrep hcs hc hS IHk f0 f1 f2 f3
      go_wp2
      have hcall := mark.text_any (k1 + 1 + 1) (by omega) (by omega) wr.drew
      go_region_with (go_at_call 35; refine hcall.mono ?_; rintro e w1 ⟨rfl, hb⟩; have ce1_2 := (hb.cell (p := ⟨b, o + i * 4 + 2, none⟩) z0).trans ce0_2; have ce1_3 := (hb.cell (p := ⟨b, o + i * 4 + 3, none⟩) z0).trans ce0_3; have z1 := Nat.lt_of_lt_of_le z0 hb.size; have HB1 : Hid (Below w.heap.size w w1) := HB0.out.drew.trans (hb.mono HB0.out.size))
      all_goals
        clear hb hcall HB0 z0 ce0_0 ce0_1 ce0_2 ce0_3
        have hcall := IHK.out _ w1 (k1 + 1 + 1 + 1) (by omega) (by omega) (valueSh.slice.mono (valueSh.slice.below R_3.out HB1.out) fun q hq => Nat.lt_of_lt_of_le hq HB1.out.size)
        have tt3 : decide (k1 + 1 + 1 + 1 + (cnts x3 : Nat) < 0) = false := by simp; omega
        go_wp2_with fail
        refine hcall.mono ?_
        rintro e w2 ⟨rfl, hb⟩
        have HB2 : Hid (Below w.heap.size w w2) := HB1.out.trans (hb.mono HB1.out.size)
        have z2 := Nat.lt_of_lt_of_le z1 hb.size
        clear hb hcall HB1 z1 ce1_2 ce1_3
        have hx : k1 + 1 + 1 + 1 + (cnts x3 : Nat) = k + (cnts (ks.take (i + 1)) : Nat) := by have := W1.out; have := W3.out; have := HK1.out; omega
        go_wp2
        go_round
        case rel => exact ⟨i + 1, by omega, by go_num, by first | rfl | rw [hx], HB2⟩
        case measure => simp [intOf]; omega
    · obtain rfl : i = ks.length := by omega
      go_wp2
      go_ret
      exact ⟨by rw [List.take_length]; rfl, HB0.out⟩

theorem held_any (T : ValueD) : HeldSays T.kids := by
  induction T using ind with
  | h x ks ih => exact held_of ks fun t ht => ih t ht
theorem heldS_any (ks : List ValueD) : HeldSays ks := held_of ks fun t _ => held_any t


end Go.Proofs.YtjofmoebijdccaaGreat.value

namespace Go.Proofs.YtjofmoebijdccaaGreat.value
open Go.RowKit Go.Proofs.YtjofmoebijdccaaGreat.rose Go.Proofs.YtjofmoebijdccaaGreat
set_option linter.unusedVariables false

set_option maxHeartbeats 1000000 in
theorem heldT_any (T : ValueD) (cs : List Value) (w : World) (k : Int) (hk1 : 1 ≤ k) (hk2 : k + (cntT T : Nat) ≤ 1152921504606846976) (h : valueSh.rep w (· < w.heap.size) cs (mkT k T)) :
    Calls Tryz.prog 16 #[.agg cs.toArray, .int .i64 k] w fun e w' => e = .returned (.int .i64 (k + (cntT T : Nat))) ∧ Below w.heap.size w w' := by
  obtain ⟨⟨x0, x1, x2⟩, x4⟩ := T
  obtain ⟨op, n, s, ks, a, cap, hT, rfl, hs, ht, hu, hk⟩ := value_open h
  simp only [mkT, Rose.mk.injEq] at hT
  obtain ⟨-, hks⟩ := hT
  subst hks
  have hct : cntT (.mk (x0, x1, x2) x4) = cnts x4 := rfl
  rw [hct] at hk2 ⊢
  clear h hct hs ht hu
  have BA : Hid (Below w.heap.size w (w.alloc (.cells #[.int .i64 op, .int .i64 n, .string s, .slice a (mks k x4).length cap] 34))) := (Below.refl _ _).alloc (Nat.le_refl _) _
  have HK : Hid (valueSh.slice.rep w (· < w.heap.size) [.slice a (mks k x4).length cap] (mks k x4)) := hk
  have t0 : decide (k + (cnts x4 : Nat) < 0) = false := by simp; omega
  clear hk
  go_enter Tryz.func16, Tryz.ntmps16
  go_wp2_with fail
  refine (heldS_any x4 _ _ k hk1 hk2 (valueSh.slice.mono (valueSh.slice.below HK.out BA.out) fun q hq => Nat.lt_of_lt_of_le hq BA.out.size)).mono ?_
  rintro e w1 ⟨rfl, hb⟩
  have B1 : Hid (Below w.heap.size w w1) := BA.out.trans (hb.mono BA.out.size)
  clear hb
  go_wp2
  go_ret
  exact ⟨rfl, B1.out⟩

end Go.Proofs.YtjofmoebijdccaaGreat.value

namespace Go.Proofs.YtjofmoebijdccaaGreat.fun
open Go.RowKit
set_option linter.unusedVariables false

/-- Whether a number lies between two. -/
def inB (n lo hi : Int) : Bool := decide (lo ≤ n) && decide (n ≤ hi)
theorem inB_yes {n lo hi : Int} (h : inB n lo hi = true) : lo ≤ n ∧ n ≤ hi := by
  unfold inB at h; simpa using h
theorem inB_no {n lo hi : Int} (h : inB n lo hi = false) : n < lo ∨ hi < n := by
  unfold inB at h
  by_cases h1 : lo ≤ n
  · right; simp [h1] at h; exact h
  · left; omega

end Go.Proofs.YtjofmoebijdccaaGreat.fun
