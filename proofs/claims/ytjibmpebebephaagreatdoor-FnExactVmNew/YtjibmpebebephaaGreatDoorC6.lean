/-
  The law's marks in a Fun: where it lies apart, each cell gets a number, or a text, of its own, and what is read back is what was written; nothing else is turned.
  The law's type Heap as it lies in memory.
  The law's type Call as it lies in memory.
  The law's type Vm as it lies in memory.
  Slices of ints as they lie in memory.
  The law's comparison of slices of ints: of the same list true; nothing is turned.
  The law's comparison of two Heaps and of slices of them: of two that are the same it says true; nothing that was there is turned.
  The law's measure of slices of Calls: what is left of a number when their length is taken off it, or -1.
  The law's comparison of two Calls and of slices of them: of two that are the same it says true; nothing that was there is turned.
-/
import Derived.Deep.RegionWith
import Derived.Test.YtjibmpebebephaaGreatDoorChecked
import Derived.WalkKit
import Derived.WalkLawsBesides
import Derived.Deep.QuietTactic
import Derived.BigQuiet
import Derived.Test.YtjibmpebebephaaGreatDoorC1
import Derived.Test.YtjibmpebebephaaGreatDoorC2
import Derived.Test.YtjibmpebebephaaGreatDoorC3
import Derived.Test.YtjibmpebebephaaGreatDoorC4
import Derived.Test.YtjibmpebebephaaGreatDoorC5
namespace Go.Proofs.YtjibmpebebephaaGreatDoor.fun
open Go.RowKit Go.Proofs.YtjibmpebebephaaGreatDoor.rose Go.Proofs.YtjibmpebebephaaGreatDoor
set_option linter.unusedVariables false

/-- How many marks it takes as an element. -/
def cnt : FunD → Nat
  | (x0, x1) => 1 + (op.cnts x1)
def cnts : List FunD → Nat
  | [] => 0
  | k :: ks => cnt k + cnts ks
def mk (k : Int) : FunD → FunD
  | (x0, x1) => (k, op.mks (k + 1) x1)
def mks (k : Int) : List FunD → List FunD
  | [] => []
  | t :: ts => mk k t :: mks (k + (cnt t : Nat)) ts

theorem mks_length (k : Int) (ks : List FunD) : (mks k ks).length = ks.length := by
  induction ks generalizing k with
  | nil => simp [mks]
  | cons t ts ih => simp [mks, ih]
theorem cnts_take {ks : List FunD} {i : Nat} (h : i < ks.length) : cnts (ks.take (i + 1)) = cnts (ks.take i) + cnt ks[i] := by
  induction ks generalizing i with
  | nil => simp at h
  | cons k ks ih =>
    cases i with
    | zero => simp [cnts]
    | succ i => simp [cnts, ih (by simpa using h)]; omega
theorem cnts_take_le (ks : List FunD) (i : Nat) : cnts (ks.take i) ≤ cnts ks := by
  induction ks generalizing i with
  | nil => simp [cnts]
  | cons k ks ih =>
    cases i with
    | zero => simp [cnts]
    | succ i => simp [cnts]; exact ih i
theorem mks_get {k : Int} {ks : List FunD} {i : Nat} (h : i < ks.length) (h' : i < (mks k ks).length) : (mks k ks)[i] = mk (k + (cnts (ks.take i) : Nat)) ks[i] := by
  induction ks generalizing k i with
  | nil => simp at h
  | cons t ts ih =>
    cases i with
    | zero => simp [mks, cnts]
    | succ i =>
      simp only [mks, List.getElem_cons_succ, List.take_succ_cons, cnts]
      rw [ih (by simpa using h)]
      congr 1
      omega
theorem cnt_le (T : FunD) : cnt T ≤ 3 + 3 * wt T := by
  obtain ⟨x0, x1⟩ := T
  have := op.cnts_le x1
  simp only [cnt, wt]
  omega
theorem cnts_le (ks : List FunD) : cnts ks ≤ 3 * (ks.length + wts ks) := by
  induction ks with
  | nil => simp [cnts]
  | cons a l ih =>
    have := cnt_le a
    simp only [cnts, wts, List.length_cons]
    omega

/-- The first i are marked. -/
def mid (k : Int) (ks : List FunD) (i : Nat) : List FunD := (mks k ks).take i ++ ks.drop i
theorem mid_length (k : Int) (ks : List FunD) {i : Nat} (h : i ≤ ks.length) : (mid k ks i).length = ks.length := by
  simp [mid, mks_length]; omega
theorem mid_zero (k : Int) (ks : List FunD) : mid k ks 0 = ks := by simp [mid]
theorem mid_full (k : Int) (ks : List FunD) : mid k ks ks.length = mks k ks := by
  unfold mid; rw [List.take_of_length_le (by rw [mks_length]; exact Nat.le_refl _)]; simp
theorem mid_get (k : Int) (ks : List FunD) {i : Nat} (h : i < ks.length) (h' : i < (mid k ks i).length) : (mid k ks i)[i] = ks[i] := by
  have e : (mid k ks i)[i]? = ks[i]? := by
    unfold mid
    rw [List.getElem?_append_right (by simp; omega)]
    simp [mks_length, Nat.min_eq_left (Nat.le_of_lt h)]
  rw [List.getElem?_eq_getElem h, List.getElem?_eq_getElem h'] at e
  exact Option.some.inj e
theorem mid_set (k : Int) (ks : List FunD) {i : Nat} (h : i < ks.length) : (mid k ks i).set i (mk (k + (cnts (ks.take i) : Nat)) ks[i]) = mid k ks (i + 1) := by
  unfold mid
  have hl : ((mks k ks).take i).length = i := by simp [mks_length]; omega
  rw [List.set_append, if_neg (by omega), hl, Nat.sub_self, List.drop_eq_getElem_cons h, List.set_cons_zero]
  rw [List.take_succ_eq_append_getElem (show i < (mks k ks).length by rw [mks_length]; exact h), List.append_assoc, mks_get h]
  rfl

def MarkSays (ks : List FunD) : Prop := ∀ (v : Value) (w : World) (k : Int) (S : Nat → Prop), 1 ≤ k → k + (cnts ks : Nat) ≤ 1152921504606846976 → (∀ b, S b → b < w.heap.size) → funSp.sslice.rep w S [v] ks →
  Calls Tryz.prog 15 #[v, .int .i64 k] w fun e w' => e = .returned (.int .i64 (k + (cnts ks : Nat))) ∧ funSp.sslice.rep w' S [v] (mks k ks) ∧ Only S w w'

theorem mk_eq (k : Int) (x0 : Int) (x1 : List op.OpD) : mk k ((x0, x1)) = (k, op.mks (k + 1) x1) := by simp [mk]

set_option maxRecDepth 100000 in
set_option maxHeartbeats 4000000 in
theorem mark_of (ks : List FunD) : MarkSays ks := by
  intro v w k S hk1 hk2 hS h
  obtain ⟨a, cap, css, F, rfl, hcap, hmax, hnone, hrow⟩ := funps_open h
  have hmx : (ks.length : Int) ≤ 9223372036854775807 := by unfold maxLen at hmax; omega
  have HC : Hid (ks.length ≤ cap ∧ cap ≤ maxLen ∧ (a = none → cap = 0)) := ⟨hcap, hmax, hnone⟩
  have HS : Hid (∀ b, S b → b < w.heap.size) := hS
  have HR : Hid (SRow funSp w S a css F (mid k ks 0)) := by show SRow _ _ _ _ _ _ _; rw [mid_zero]; exact hrow
  clear h hcap hmax hnone hS hrow
  have HK : Hid (k + (cnts ks : Nat) ≤ 1152921504606846976) := hk2
  clear hk2
  go_enter Tryz.func15, Tryz.ntmps15
  go_wp2
  go_loopw [1, 5] (fun v1 v5 wr => ∃ (i : Nat) (css' : Nat → List Value), i ≤ ks.length ∧ v5 = .int .i64 i ∧ v1 = .int .i64 (k + (cnts (ks.take i) : Nat)) ∧ Hid (SRow funSp wr S a css' F (mid k ks i) ∧ Only S w wr)) (fun _ v5 _ => ks.length - (intOf v5).toNat)
  case atStart => exact ⟨0, css, Nat.zero_le _, rfl, by simp [cnts], HR.out, Only.refl _ _⟩
  case round =>
    obtain ⟨i, css', hi, rfl, rfl, HJ⟩ := hrel
    by_cases hlt : i < ks.length
    · have hlm : i < (mid k ks i).length := by rw [mid_length k ks hi]; exact hlt
      obtain ⟨b, o, rfl, hSb, hFb, hc, hfz, cur, t, hbk⟩ := HJ.out.1.at hlm
      have hrep := HJ.out.1.rep i hlm
      rw [mid_get k ks hlt] at hrep
      obtain ⟨x0, x1, a1, c1, hT, hcs, f0, f1⟩ := funp_open hrep
      rw [hcs] at hc
      have ce0_0 : wr.cell? ⟨b, o + i * 2, none⟩ = some (.int .i64 x0) := hc 0 _ rfl
      have ce0_1 : wr.cell? ⟨b, o + i * 2 + 1, none⟩ = some (.slice a1 x1.length c1) := hc 1 _ rfl
      have W1 : Hid (cnts (ks.take (i + 1)) = cnts (ks.take i) + cnt ks[i]) := cnts_take hlt
      have W2 : Hid (cnts (ks.take (i + 1)) ≤ cnts ks) := cnts_take_le ks (i + 1)
      have W3 : Hid (cnt ks[i] = 1 + (op.cnts x1)) := by show _ = _; rw [hT]; simp [cnt]
      obtain ⟨k1, hk⟩ : ∃ k1 : Int, k1 = k + (cnts (ks.take i) : Nat) := ⟨_, rfl⟩
      have HK1 : Hid (k1 = k + (cnts (ks.take i) : Nat)) := hk
      rw [← hk]
      have hb1 : 1 ≤ k1 := by omega
      have hb2 : k1 + 1 + (op.cnts x1 : Nat) ≤ 1152921504606846976 := by have := W1.out; have := W2.out; have := W3.out; have := HK.out; omega
      have BK : Hid (wr.heap[b]? = some (.cells cur t)) := hbk
      have NB : Hid ((∀ q, F i q → q ≠ b) ∧ ¬ F i b ∧ S b) := ⟨fun q hq e => hFb (e ▸ hq), hFb, hSb⟩
      have HT : Hid (ks[i] = (x0, x1)) := hT
      have z0 : b < wr.heap.size := Nat.lt_of_lt_of_le (HS.out b hSb) HJ.out.2.size
      have FZ0 : Hid (∀ q, F i q → q < wr.heap.size) := fun q hq => Nat.lt_of_lt_of_le (HS.out q (HJ.out.1.sub i hlm q hq)) HJ.out.2.size
      have TT0 : Hid (Turn2 b (o + i * 2) (o + i * 2 + 2) (F i) wr wr) := Turn2.refl _ _ _ _ _
      have R0_1 : Hid (op.opSp.sslice.rep wr (F i) [.slice a1 x1.length c1] x1) := f1
      clear hk hrep hcs hc hbk hFb hSb hT f0 f1
      have dd : (wr.setCell ⟨b, o + i * 2, none⟩ (.int .i64 k1)).cell? ⟨b, o + i * 2 + 1, none⟩ = some (.slice a1 x1.length c1) := ((cell_set_ne (by omega)).trans ce0_1)
      have hcall := op.markS_any x1 (.slice a1 x1.length c1) (wr.setCell ⟨b, o + i * 2, none⟩ (.int .i64 k1)) (k1 + 1) (F i) (by omega) (by omega) (fun q hq => by first | exact FZ0.out q hq | (simp only [size_set]; exact FZ0.out q hq)) (op.opSp.sslice.on R0_1.out fun q hq => by repeat rw [block_set (NB.out.1 q hq)])
      go_wp2_with fail
      refine hcall.mono ?_
      clear hcall dd
      rintro e w1 ⟨rfl, hr, ho⟩
      have hzc : b < (wr.setCell ⟨b, o + i * 2, none⟩ (.int .i64 k1)).heap.size := by first | exact z0 | (simp only [size_set]; exact z0)
      have SG : Turn2 b (o + i * 2) (o + i * 2 + 2) (F i) wr w1 := ((Turn2.refl b (o + i * 2) (o + i * 2 + 2) (F i) wr).set (o + i * 2) _ (by omega) (by omega)).calls ho hzc (fun _ h => h) (fun h => NB.out.2.1 (h))
      have ce1_0 : w1.cell? ⟨b, o + i * 2, none⟩ = some (.int .i64 k1) := (cell_only ho hzc (fun h => NB.out.2.1 (h))).trans (cell_set_eq ce0_0)
      have ce1_1 : w1.cell? ⟨b, o + i * 2 + 1, none⟩ = some (.slice a1 x1.length c1) := (cell_only ho hzc (fun h => NB.out.2.1 (h))).trans ((cell_set_ne (by omega)).trans ce0_1)
      have z1 : b < w1.heap.size := Nat.lt_of_lt_of_le z0 SG.only.size
      have TT1 : Hid (Turn2 b (o + i * 2) (o + i * 2 + 2) (F i) wr w1) := TT0.out.trans (SG.mono (fun q h => h))
      have FZ1 : Hid (∀ q, F i q → q < w1.heap.size) := fun q hq => Nat.lt_of_lt_of_le (FZ0.out q hq) SG.only.size
      have R1_1 : Hid (op.opSp.sslice.rep w1 (F i) [.slice a1 x1.length c1] (op.mks (k1 + 1) x1)) := hr
      have fz1 := TT1.out.fz BK.out
      clear SG hzc ho hr ce0_0 ce0_1 FZ0 TT0 z0 hfz R0_1
      have hx : k1 + 1 + (op.cnts x1 : Nat) = k + (cnts (ks.take (i + 1)) : Nat) := by have := W1.out; have := W3.out; have := HK1.out; omega
      rw [hx]
      clear hx
      have NX : Hid (∃ css2, SRow funSp w1 S (some ⟨b, o, none⟩) css2 F (mid k ks (i + 1)) ∧ Only S w w1) := by
        have CD : CellsAt w1 b (o + i * 2) [.int .i64 k1, .slice a1 x1.length c1] := by
          intro q v hq
          match q, hq with
          | 0, hq => simp at hq; subst hq; exact ce1_0
          | 1, hq => simp at hq; subst hq; exact ce1_1
          | _ + 2, hq => simp at hq
        have hsh : funSp.rep w1 (F i) [.int .i64 k1, .slice a1 x1.length c1] (mk k1 ((x0, x1))) := by rw [mk_eq]; exact funp_shutv (by omega) R1_1.out
        rw [← HT.out] at hsh
        have hn := HJ.out.1.turn2 (fun q hq => Nat.lt_of_lt_of_le (HS.out q hq) HJ.out.2.size) hlm rfl TT1.out CD hsh
        rw [HK1.out, mid_set k ks hlt] at hn
        exact ⟨_, hn.1, HJ.out.2.trans hn.2⟩
      clear fz1 ce1_0 ce1_1 R1_1
      go_wp2
      go_round
      case rel => obtain ⟨css2, n1, n2⟩ := NX.out; exact ⟨i + 1, css2, by omega, by go_num, rfl, n1, n2⟩
      case measure => simp [intOf]; omega
    · obtain rfl : i = ks.length := by omega
      have hq := HJ.out
      rw [mid_full] at hq
      go_wp2
      go_ret
      refine ⟨by rw [List.take_length]; rfl, ?_, hq.2⟩
      have hl := mks_length k ks
      exact ⟨a, cap, css', F, by rw [hl], by rw [hl]; exact HC.out.1, HC.out.2.1, HC.out.2.2, hq.1⟩

theorem markS_any (ks : List FunD) : MarkSays ks := mark_of ks


end Go.Proofs.YtjibmpebebephaaGreatDoor.fun

namespace Go.Proofs.YtjibmpebebephaaGreatDoor.heap
open Go.RowKit Go.Proofs.YtjibmpebebephaaGreatDoor.rose Go.Proofs.YtjibmpebebephaaGreatDoor
set_option linter.unusedVariables false

abbrev HeapD := List Int × Int × Int × Int
abbrev heapSh : Sh HeapD := Sh.int.slice.pair (Sh.int.pair (Sh.int.pair Sh.int))

theorem heap_open {w : World} {S : Nat → Prop} {cs : List Value} {T : HeapD} (h : heapSh.rep w S cs T) : ∃ x0 a0 c0 x1 x2 x3, T = (x0, x1, x2, x3) ∧ cs = [.slice a0 x0.length c0, .int .i64 x1, .int .i64 x2, .int .i64 x3] ∧ Sh.int.slice.rep w S [.slice a0 x0.length c0] x0 ∧ (-9223372036854775808 ≤ x1 ∧ x1 ≤ 9223372036854775807) ∧ (-9223372036854775808 ≤ x2 ∧ x2 ≤ 9223372036854775807) ∧ (-9223372036854775808 ≤ x3 ∧ x3 ≤ 9223372036854775807) := by
  obtain ⟨x0, x1, x2, x3⟩ := T
  obtain ⟨_, _, rfl, h0, _, _, rfl, ⟨rfl, h1⟩, _, _, rfl, ⟨rfl, h2⟩, ⟨rfl, h3⟩⟩ := h
  obtain ⟨a0, c0, rfl⟩ := slice_cells h0
  exact ⟨_, _, _, _, _, _, rfl, rfl, h0, h1, h2, h3⟩
theorem heap_list {w : World} {S : Nat → Prop} {cs : List Value} {T : HeapD} (h : heapSh.rep w S cs T) : ∃ v0 v1 v2 v3, cs = [v0, v1, v2, v3] := by
  obtain ⟨x0, a0, c0, x1, x2, x3, -, rfl, -⟩ := heap_open h
  exact ⟨_, _, _, _, rfl⟩
theorem heap_shut {w : World} {S : Nat → Prop} {x0 : List Int} {x1 : Int} {x2 : Int} {x3 : Int} {a0 : Option Addr} {c0 : Nat} (h0 : Sh.int.slice.rep w S [.slice a0 x0.length c0] x0) (h1 : -9223372036854775808 ≤ x1 ∧ x1 ≤ 9223372036854775807) (h2 : -9223372036854775808 ≤ x2 ∧ x2 ≤ 9223372036854775807) (h3 : -9223372036854775808 ≤ x3 ∧ x3 ≤ 9223372036854775807) : heapSh.rep w S [.slice a0 x0.length c0, .int .i64 x1, .int .i64 x2, .int .i64 x3] ((x0, x1, x2, x3)) :=
  ⟨[_], _, rfl, h0, [_], _, rfl, ⟨rfl, h1⟩, [_], _, rfl, ⟨rfl, h2⟩, ⟨rfl, h3⟩⟩

theorem heaps_open {w : World} {S : Nat → Prop} {v : Value} {ks : List HeapD} (h : heapSh.slice.rep w S [v] ks) : ∃ a cap css, v = .slice a ks.length cap ∧ ks.length ≤ cap ∧ cap ≤ maxLen ∧ RowAt w S 4 a ks.length css ∧ ∀ i (h : i < ks.length), heapSh.rep w S (css i) ks[i] := by
  obtain ⟨a, cap, css, e, h1, h2, -, h3, h4⟩ := h
  exact ⟨a, cap, css, by simpa using e, h1, h2, h3, h4⟩

theorem heap_cells {w : World} {S : Nat → Prop} {b o i : Nat} {cs : List Value} {T : HeapD} (h : heapSh.rep w S cs T) (hc : CellsAt w b (o + i * 4) cs) :
    ∃ v0 v1 v2 v3, cs = [v0, v1, v2, v3] ∧ w.cell? ⟨b, o + i * 4, none⟩ = some v0 ∧ w.cell? ⟨b, o + i * 4 + 1, none⟩ = some v1 ∧ w.cell? ⟨b, o + i * 4 + 2, none⟩ = some v2 ∧ w.cell? ⟨b, o + i * 4 + 3, none⟩ = some v3 := by
  obtain ⟨v0, v1, v2, v3, rfl⟩ := heap_list h
  exact ⟨_, _, _, _, rfl, hc 0 _ rfl, hc 1 _ rfl, hc 2 _ rfl, hc 3 _ rfl⟩

end Go.Proofs.YtjibmpebebephaaGreatDoor.heap

namespace Go.Proofs.YtjibmpebebephaaGreatDoor.call
open Go.RowKit Go.Proofs.YtjibmpebebephaaGreatDoor.rose Go.Proofs.YtjibmpebebephaaGreatDoor
set_option linter.unusedVariables false

abbrev CallD := Int × Int × Int
abbrev callSh : Sh CallD := Sh.int.pair (Sh.int.pair Sh.int)

theorem call_open {w : World} {S : Nat → Prop} {cs : List Value} {T : CallD} (h : callSh.rep w S cs T) : ∃ x0 x1 x2, T = (x0, x1, x2) ∧ cs = [.int .i64 x0, .int .i64 x1, .int .i64 x2] ∧ (-9223372036854775808 ≤ x0 ∧ x0 ≤ 9223372036854775807) ∧ (-9223372036854775808 ≤ x1 ∧ x1 ≤ 9223372036854775807) ∧ (-9223372036854775808 ≤ x2 ∧ x2 ≤ 9223372036854775807) := by
  obtain ⟨x0, x1, x2⟩ := T
  obtain ⟨_, _, rfl, ⟨rfl, h0⟩, _, _, rfl, ⟨rfl, h1⟩, ⟨rfl, h2⟩⟩ := h
  exact ⟨_, _, _, rfl, rfl, h0, h1, h2⟩
theorem call_list {w : World} {S : Nat → Prop} {cs : List Value} {T : CallD} (h : callSh.rep w S cs T) : ∃ v0 v1 v2, cs = [v0, v1, v2] := by
  obtain ⟨x0, x1, x2, -, rfl, -⟩ := call_open h
  exact ⟨_, _, _, rfl⟩
theorem call_shut {w : World} {S : Nat → Prop} {x0 : Int} {x1 : Int} {x2 : Int} (h0 : -9223372036854775808 ≤ x0 ∧ x0 ≤ 9223372036854775807) (h1 : -9223372036854775808 ≤ x1 ∧ x1 ≤ 9223372036854775807) (h2 : -9223372036854775808 ≤ x2 ∧ x2 ≤ 9223372036854775807) : callSh.rep w S [.int .i64 x0, .int .i64 x1, .int .i64 x2] ((x0, x1, x2)) :=
  ⟨[_], _, rfl, ⟨rfl, h0⟩, [_], _, rfl, ⟨rfl, h1⟩, ⟨rfl, h2⟩⟩

theorem calls_open {w : World} {S : Nat → Prop} {v : Value} {ks : List CallD} (h : callSh.slice.rep w S [v] ks) : ∃ a cap css, v = .slice a ks.length cap ∧ ks.length ≤ cap ∧ cap ≤ maxLen ∧ RowAt w S 3 a ks.length css ∧ ∀ i (h : i < ks.length), callSh.rep w S (css i) ks[i] := by
  obtain ⟨a, cap, css, e, h1, h2, -, h3, h4⟩ := h
  exact ⟨a, cap, css, by simpa using e, h1, h2, h3, h4⟩

theorem call_cells {w : World} {S : Nat → Prop} {b o i : Nat} {cs : List Value} {T : CallD} (h : callSh.rep w S cs T) (hc : CellsAt w b (o + i * 3) cs) :
    ∃ v0 v1 v2, cs = [v0, v1, v2] ∧ w.cell? ⟨b, o + i * 3, none⟩ = some v0 ∧ w.cell? ⟨b, o + i * 3 + 1, none⟩ = some v1 ∧ w.cell? ⟨b, o + i * 3 + 2, none⟩ = some v2 := by
  obtain ⟨v0, v1, v2, rfl⟩ := call_list h
  exact ⟨_, _, _, rfl, hc 0 _ rfl, hc 1 _ rfl, hc 2 _ rfl⟩


end Go.Proofs.YtjibmpebebephaaGreatDoor.call

namespace Go.Proofs.YtjibmpebebephaaGreatDoor.vm
open Go.RowKit Go.Proofs.YtjibmpebebephaaGreatDoor.rose Go.Proofs.YtjibmpebebephaaGreatDoor
set_option linter.unusedVariables false

abbrev VmD := List fun.FunD × heap.HeapD × List Int × List call.CallD × List Int × Int × Bool
abbrev vmSh : Sh VmD := fun.funSh.slice.pair (heap.heapSh.pair (Sh.int.slice.pair (call.callSh.slice.pair (Sh.int.slice.pair (Sh.int.pair Sh.bool)))))

theorem vm_open {w : World} {S : Nat → Prop} {cs : List Value} {T : VmD} (h : vmSh.rep w S cs T) : ∃ x0 a0 c0 x1 u1_0 u1_1 u1_2 u1_3 x2 a2 c2 x3 a3 c3 x4 a4 c4 x5 x6, T = (x0, x1, x2, x3, x4, x5, x6) ∧ cs = [.slice a0 x0.length c0, u1_0, u1_1, u1_2, u1_3, .slice a2 x2.length c2, .slice a3 x3.length c3, .slice a4 x4.length c4, .int .i64 x5, .bool x6] ∧ fun.funSh.slice.rep w S [.slice a0 x0.length c0] x0 ∧ heap.heapSh.rep w S [u1_0, u1_1, u1_2, u1_3] x1 ∧ Sh.int.slice.rep w S [.slice a2 x2.length c2] x2 ∧ call.callSh.slice.rep w S [.slice a3 x3.length c3] x3 ∧ Sh.int.slice.rep w S [.slice a4 x4.length c4] x4 ∧ (-9223372036854775808 ≤ x5 ∧ x5 ≤ 9223372036854775807) := by
  obtain ⟨x0, x1, x2, x3, x4, x5, x6⟩ := T
  obtain ⟨_, _, rfl, h0, _, _, rfl, h1, _, _, rfl, h2, _, _, rfl, h3, _, _, rfl, h4, _, _, rfl, ⟨rfl, h5⟩, rfl⟩ := h
  obtain ⟨a0, c0, rfl⟩ := slice_cells h0
  obtain ⟨u1_0, u1_1, u1_2, u1_3, rfl⟩ := heap.heap_list h1
  obtain ⟨a2, c2, rfl⟩ := slice_cells h2
  obtain ⟨a3, c3, rfl⟩ := slice_cells h3
  obtain ⟨a4, c4, rfl⟩ := slice_cells h4
  exact ⟨_, _, _, _, _, _, _, _, _, _, _, _, _, _, _, _, _, _, _, rfl, rfl, h0, h1, h2, h3, h4, h5⟩
theorem vm_list {w : World} {S : Nat → Prop} {cs : List Value} {T : VmD} (h : vmSh.rep w S cs T) : ∃ v0 v1 v2 v3 v4 v5 v6 v7 v8 v9, cs = [v0, v1, v2, v3, v4, v5, v6, v7, v8, v9] := by
  obtain ⟨x0, a0, c0, x1, u1_0, u1_1, u1_2, u1_3, x2, a2, c2, x3, a3, c3, x4, a4, c4, x5, x6, -, rfl, -⟩ := vm_open h
  exact ⟨_, _, _, _, _, _, _, _, _, _, rfl⟩
theorem vm_shut {w : World} {S : Nat → Prop} {x0 : List fun.FunD} {x1 : heap.HeapD} {x2 : List Int} {x3 : List call.CallD} {x4 : List Int} {x5 : Int} {x6 : Bool} {u1_0 : Value} {u1_1 : Value} {u1_2 : Value} {u1_3 : Value} {a0 : Option Addr} {c0 : Nat} {a2 : Option Addr} {c2 : Nat} {a3 : Option Addr} {c3 : Nat} {a4 : Option Addr} {c4 : Nat} (h0 : fun.funSh.slice.rep w S [.slice a0 x0.length c0] x0) (h1 : heap.heapSh.rep w S [u1_0, u1_1, u1_2, u1_3] x1) (h2 : Sh.int.slice.rep w S [.slice a2 x2.length c2] x2) (h3 : call.callSh.slice.rep w S [.slice a3 x3.length c3] x3) (h4 : Sh.int.slice.rep w S [.slice a4 x4.length c4] x4) (h5 : -9223372036854775808 ≤ x5 ∧ x5 ≤ 9223372036854775807) : vmSh.rep w S [.slice a0 x0.length c0, u1_0, u1_1, u1_2, u1_3, .slice a2 x2.length c2, .slice a3 x3.length c3, .slice a4 x4.length c4, .int .i64 x5, .bool x6] ((x0, x1, x2, x3, x4, x5, x6)) :=
  ⟨[_], _, rfl, h0, [_, _, _, _], _, rfl, h1, [_], _, rfl, h2, [_], _, rfl, h3, [_], _, rfl, h4, [_], _, rfl, ⟨rfl, h5⟩, rfl⟩

theorem vms_open {w : World} {S : Nat → Prop} {v : Value} {ks : List VmD} (h : vmSh.slice.rep w S [v] ks) : ∃ a cap css, v = .slice a ks.length cap ∧ ks.length ≤ cap ∧ cap ≤ maxLen ∧ RowAt w S 10 a ks.length css ∧ ∀ i (h : i < ks.length), vmSh.rep w S (css i) ks[i] := by
  obtain ⟨a, cap, css, e, h1, h2, -, h3, h4⟩ := h
  exact ⟨a, cap, css, by simpa using e, h1, h2, h3, h4⟩

theorem vm_cells {w : World} {S : Nat → Prop} {b o i : Nat} {cs : List Value} {T : VmD} (h : vmSh.rep w S cs T) (hc : CellsAt w b (o + i * 10) cs) :
    ∃ v0 v1 v2 v3 v4 v5 v6 v7 v8 v9, cs = [v0, v1, v2, v3, v4, v5, v6, v7, v8, v9] ∧ w.cell? ⟨b, o + i * 10, none⟩ = some v0 ∧ w.cell? ⟨b, o + i * 10 + 1, none⟩ = some v1 ∧ w.cell? ⟨b, o + i * 10 + 2, none⟩ = some v2 ∧ w.cell? ⟨b, o + i * 10 + 3, none⟩ = some v3 ∧ w.cell? ⟨b, o + i * 10 + 4, none⟩ = some v4 ∧ w.cell? ⟨b, o + i * 10 + 5, none⟩ = some v5 ∧ w.cell? ⟨b, o + i * 10 + 6, none⟩ = some v6 ∧ w.cell? ⟨b, o + i * 10 + 7, none⟩ = some v7 ∧ w.cell? ⟨b, o + i * 10 + 8, none⟩ = some v8 ∧ w.cell? ⟨b, o + i * 10 + 9, none⟩ = some v9 := by
  obtain ⟨v0, v1, v2, v3, v4, v5, v6, v7, v8, v9, rfl⟩ := vm_list h
  exact ⟨_, _, _, _, _, _, _, _, _, _, rfl, hc 0 _ rfl, hc 1 _ rfl, hc 2 _ rfl, hc 3 _ rfl, hc 4 _ rfl, hc 5 _ rfl, hc 6 _ rfl, hc 7 _ rfl, hc 8 _ rfl, hc 9 _ rfl⟩

end Go.Proofs.YtjibmpebebephaaGreatDoor.vm

namespace Go.Proofs.YtjibmpebebephaaGreatDoor.ints
open Go.RowKit Go.Proofs.YtjibmpebebephaaGreatDoor.rose Go.Proofs.YtjibmpebebephaaGreatDoor
set_option linter.unusedVariables false

abbrev intsSh : Sh (List Int) := Sh.int.slice
abbrev intsSp : Sh (List Int) := Sh.int.sslice

theorem intsp_rep {w : World} {S : Nat → Prop} {cs : List Value} {ks : List Int} (h : intsSp.rep w S cs ks) : intsSh.rep w S cs ks := sslice_rep (A := Sh.int) (B := Sh.int) rfl (fun h => h) h

theorem ints_open {w : World} {S : Nat → Prop} {v : Value} {ks : List Int} (h : intsSh.rep w S [v] ks) : ∃ a cap, v = .slice a ks.length cap ∧ ks.length ≤ cap ∧ cap ≤ maxLen ∧ ∀ i (h : i < ks.length), ∃ b o, a = some ⟨b, o, none⟩ ∧ S b ∧ w.cell? ⟨b, o + i, none⟩ = some (.int .i64 ks[i]) ∧ -9223372036854775808 ≤ ks[i] ∧ ks[i] ≤ 9223372036854775807 := by
  obtain ⟨a, cap, css, e, h1, h2, -, h3, h4⟩ := h
  refine ⟨a, cap, by simpa using e, h1, h2, fun i hi => ?_⟩
  obtain ⟨b, o, rfl, hS, hc⟩ := h3 i hi
  obtain ⟨hcs, hn⟩ := h4 i hi
  rw [hcs] at hc
  have := hc 0 _ rfl
  exact ⟨b, o, rfl, hS, by simpa [Sh.int] using this, hn⟩

end Go.Proofs.YtjibmpebebephaaGreatDoor.ints

namespace Go.Proofs.YtjibmpebebephaaGreatDoor.ints
open Go.RowKit Go.Proofs.YtjibmpebebephaaGreatDoor.rose Go.Proofs.YtjibmpebebephaaGreatDoor
set_option linter.unusedVariables false

set_option maxHeartbeats 1000000 in
theorem eq_any (ks : List Int) (v1 v2 : Value) (w : World) (h : intsSh.rep w (· < w.heap.size) [v1] ks) (h' : intsSh.rep w (· < w.heap.size) [v2] ks) :
    Calls Tryz.prog 36 #[v1, v2] w fun e w' => e = .returned (.bool true) ∧ Below w.heap.size w w' := by
  obtain ⟨a, cap, rfl, hcap, hmax, hat⟩ := ints_open h
  obtain ⟨a', cap', rfl, hcap', hmax', hat'⟩ := ints_open h'
  have hmx : (ks.length : Int) ≤ 9223372036854775807 := by unfold maxLen at hmax; omega
  have HA : Hid _ := hat
  have HA' : Hid _ := hat'
  clear h h' hcap hmax hcap' hmax' hat hat'
  go_enter Tryz.func36, Tryz.ntmps36
  go_wp2
  go_loopw [5] (fun v5 wr => ∃ i : Nat, i ≤ ks.length ∧ v5 = .int .i64 i ∧ Hid (Below w.heap.size w wr)) (fun v5 _ => ks.length - (intOf v5).toNat)
  case atStart => exact ⟨0, Nat.zero_le _, rfl, Below.refl _ _⟩
  case round =>
    obtain ⟨i, hi, rfl, HB⟩ := hrel
    by_cases hlt : i < ks.length
    · obtain ⟨b, o, rfl, hS, hc, -⟩ := HA.out i hlt
      obtain ⟨b', o', rfl, hS', hc', -⟩ := HA'.out i hlt
      have e0 := (HB.out.cell (p := ⟨b, o + i, none⟩) hS).trans hc
      have e1 := (HB.out.cell (p := ⟨b', o' + i, none⟩) hS').trans hc'
      clear hc hc'
      go_wp2
      go_region
      all_goals
        go_wp2
        go_round
        case rel => exact ⟨i + 1, by omega, by go_num, HB.out.drew⟩
        case measure => simp [intOf]; omega
    · obtain rfl : i = ks.length := by omega
      go_wp2
      go_ret
      exact ⟨rfl, HB.out⟩

end Go.Proofs.YtjibmpebebephaaGreatDoor.ints

namespace Go.Proofs.YtjibmpebebephaaGreatDoor.heap
open Go.RowKit Go.Proofs.YtjibmpebebephaaGreatDoor.rose Go.Proofs.YtjibmpebebephaaGreatDoor
set_option linter.unusedVariables false

def EqSays (T : HeapD) : Prop := ∀ cs1 cs2 w, heapSh.rep w (· < w.heap.size) cs1 T → heapSh.rep w (· < w.heap.size) cs2 T →
  Calls Tryz.prog 35 #[.agg cs1.toArray, .agg cs2.toArray] w fun e w' => e = .returned (.bool true) ∧ Below w.heap.size w w'

set_option maxHeartbeats 1000000 in
theorem eq_any (T : HeapD) : EqSays T := by
  intro cs1 cs2 w h h'
  obtain ⟨x0, a0, c0, x1, x2, x3, rfl, rfl, f0, f1, f2, f3⟩ := heap_open h
  obtain ⟨x0', a0', c0', x1', x2', x3', hT, rfl, g0, g1, g2, g3⟩ := heap_open h'
  cases hT
  clear h h'
  have K0 : ∀ (w' : World), Below w.heap.size w w' → Calls Tryz.prog 36 #[.slice a0 x0.length c0, .slice a0' x0.length c0'] w' fun e w'' => e = .returned (.bool true) ∧ Below w'.heap.size w' w'' :=
    fun w' hb => ints.eq_any x0 _ _ w' (Sh.int.slice.mono (Sh.int.slice.below f0 hb) fun b hlt => Nat.lt_of_lt_of_le hlt hb.size) (Sh.int.slice.mono (Sh.int.slice.below g0 hb) fun b hlt => Nat.lt_of_lt_of_le hlt hb.size)
  clear f0 g0
  go_enter Tryz.func35, Tryz.ntmps35
  go_wp2_with fail
  refine (K0 _ (((Below.refl _ _).alloc (Nat.le_refl _) _).alloc (by simp) _)).mono ?_
  rintro e w1 ⟨rfl, hb⟩
  have B1 : Hid (Below w.heap.size w w1) := (((Below.refl _ _).alloc (Nat.le_refl _) _).alloc (by simp) _).trans (hb.mono (by simp; omega))
  have z1 : w.heap.size + 2 ≤ w1.heap.size := Nat.le_trans (by simp) hb.size
  have ba1_1 : w1.cell? ⟨w.heap.size, 1, none⟩ = some (.int .i64 x1) := (hb.cell (p := ⟨w.heap.size, 1, none⟩) (by simp; omega)).trans (by simp)
  have bb1_1 : w1.cell? ⟨w.heap.size + 1, 1, none⟩ = some (.int .i64 x1) := (hb.cell (p := ⟨w.heap.size + 1, 1, none⟩) (by simp)).trans (by simp)
  have ba1_2 : w1.cell? ⟨w.heap.size, 2, none⟩ = some (.int .i64 x2) := (hb.cell (p := ⟨w.heap.size, 2, none⟩) (by simp; omega)).trans (by simp)
  have bb1_2 : w1.cell? ⟨w.heap.size + 1, 2, none⟩ = some (.int .i64 x2) := (hb.cell (p := ⟨w.heap.size + 1, 2, none⟩) (by simp)).trans (by simp)
  have ba1_3 : w1.cell? ⟨w.heap.size, 3, none⟩ = some (.int .i64 x3) := (hb.cell (p := ⟨w.heap.size, 3, none⟩) (by simp; omega)).trans (by simp)
  have bb1_3 : w1.cell? ⟨w.heap.size + 1, 3, none⟩ = some (.int .i64 x3) := (hb.cell (p := ⟨w.heap.size + 1, 3, none⟩) (by simp)).trans (by simp)
  clear hb K0
  go_wp2
  go_ret
  exact ⟨rfl, B1.out⟩


end Go.Proofs.YtjibmpebebephaaGreatDoor.heap

namespace Go.Proofs.YtjibmpebebephaaGreatDoor.call
open Go.RowKit Go.Proofs.YtjibmpebebephaaGreatDoor.rose Go.Proofs.YtjibmpebebephaaGreatDoor
set_option linter.unusedVariables false

set_option maxHeartbeats 1000000 in
theorem szS_any (ks : List CallD) (v : Value) (w : World) (l : Int) (h0 : 0 ≤ l) (h1 : l ≤ 1048576) (h : callSh.slice.rep w (· < w.heap.size) [v] ks) :
    Calls Tryz.prog 20 #[v, .int .i64 l] w fun e w' => e = .returned (.int .i64 (left ks.length l)) ∧ Below w.heap.size w w' := by
  obtain ⟨a, cap, css, e, hcap, hmax, -, -, -⟩ := h
  obtain rfl : v = .slice a ks.length cap := by simpa using e
  have hmx : (ks.length : Int) ≤ 9223372036854775807 := by unfold maxLen at hmax; omega
  clear e hcap hmax
  by_cases hn : (ks.length : Int) ≤ l
  · have t1 : decide (l - (ks.length : Int) < 0) = false := by simp; omega
    have hr : left ks.length l = l - ks.length := by unfold left; rw [if_pos hn]
    go_enter Tryz.func20, Tryz.ntmps20
    go_wp2
    go_ret
    exact ⟨by first | rfl | (rw [hr]; rfl), Below.refl _ _⟩
  · have t1 : decide (l - (ks.length : Int) < 0) = true := by simp; omega
    have hr : left ks.length l = -1 := by unfold left; rw [if_neg hn]
    go_enter Tryz.func20, Tryz.ntmps20
    go_wp2
    go_ret
    exact ⟨by first | rfl | (rw [hr]; rfl), Below.refl _ _⟩

end Go.Proofs.YtjibmpebebephaaGreatDoor.call

namespace Go.Proofs.YtjibmpebebephaaGreatDoor.call
open Go.RowKit Go.Proofs.YtjibmpebebephaaGreatDoor.rose Go.Proofs.YtjibmpebebephaaGreatDoor
set_option linter.unusedVariables false

def EqSays (T : CallD) : Prop := ∀ cs1 cs2 w, callSh.rep w (· < w.heap.size) cs1 T → callSh.rep w (· < w.heap.size) cs2 T →
  Calls Tryz.prog 69 #[.agg cs1.toArray, .agg cs2.toArray] w fun e w' => e = .returned (.bool true) ∧ Below w.heap.size w w'

set_option maxHeartbeats 1000000 in
theorem eq_any (T : CallD) : EqSays T := by
  intro cs1 cs2 w h h'
  obtain ⟨x0, x1, x2, rfl, rfl, f0, f1, f2⟩ := call_open h
  obtain ⟨x0', x1', x2', hT, rfl, g0, g1, g2⟩ := call_open h'
  cases hT
  clear h h'
  go_enter Tryz.func69, Tryz.ntmps69
  go_wp2
  go_ret
  exact ⟨rfl, (((Below.refl _ _).alloc (Nat.le_refl _) _).alloc (by simp) _)⟩

set_option maxHeartbeats 2000000 in
theorem eqS_of (ks : List CallD) (ih : ∀ k ∈ ks, EqSays k) (v1 v2 : Value) (w : World) (h : callSh.slice.rep w (· < w.heap.size) [v1] ks) (h' : callSh.slice.rep w (· < w.heap.size) [v2] ks) :
    Calls Tryz.prog 37 #[v1, v2] w fun e w' => e = .returned (.bool true) ∧ Below w.heap.size w w' := by
  obtain ⟨a, cap, css, rfl, hcap, hmax, hrow, hk⟩ := calls_open h
  obtain ⟨a', cap', css', rfl, hcap', hmax', hrow', hk'⟩ := calls_open h'
  have hmx : (ks.length : Int) ≤ 9223372036854775807 := by unfold maxLen at hmax; omega
  clear h hcap hmax h' hcap' hmax'
  have IH : Hid (∀ k ∈ ks, EqSays k) := ih
  have HR : Hid (RowAt w (· < w.heap.size) 3 a ks.length css ∧ ∀ i (h : i < ks.length), callSh.rep w (· < w.heap.size) (css i) ks[i]) := ⟨hrow, hk⟩
  have HR' : Hid (RowAt w (· < w.heap.size) 3 a' ks.length css' ∧ ∀ i (h : i < ks.length), callSh.rep w (· < w.heap.size) (css' i) ks[i]) := ⟨hrow', hk'⟩
  clear ih hrow hk hrow' hk'
  go_enter Tryz.func37, Tryz.ntmps37
  go_wp2
  go_loopw [5] (fun v5 wr => ∃ i : Nat, i ≤ ks.length ∧ v5 = .int .i64 i ∧ Hid (Below w.heap.size w wr)) (fun v5 _ => ks.length - (intOf v5).toNat)
  case atStart => exact ⟨0, Nat.zero_le _, rfl, Below.refl _ _⟩
  case round =>
    obtain ⟨i, hi, rfl, HB⟩ := hrel
    by_cases hlt : i < ks.length
    · obtain ⟨b, o, rfl, hS, hc⟩ := HR.out.1 i hlt
      have hrep := HR.out.2 i hlt
      obtain ⟨v0, v1, v2, hcs, c0, c1, c2⟩ := call_cells hrep hc
      have e0 := (HB.out.cell (p := ⟨b, o + i * 3, none⟩) hS).trans c0
      have e1 := (HB.out.cell (p := ⟨b, o + i * 3 + 1, none⟩) hS).trans c1
      have e2 := (HB.out.cell (p := ⟨b, o + i * 3 + 2, none⟩) hS).trans c2
      rw [hcs] at hrep
      clear c0 c1 c2 hc hcs
      obtain ⟨b', o', rfl, hS', hc⟩ := HR'.out.1 i hlt
      have hrep' := HR'.out.2 i hlt
      obtain ⟨v0', v1', v2', hcs, c0, c1, c2⟩ := call_cells hrep' hc
      have e0' := (HB.out.cell (p := ⟨b', o' + i * 3, none⟩) hS').trans c0
      have e1' := (HB.out.cell (p := ⟨b', o' + i * 3 + 1, none⟩) hS').trans c1
      have e2' := (HB.out.cell (p := ⟨b', o' + i * 3 + 2, none⟩) hS').trans c2
      rw [hcs] at hrep'
      clear c0 c1 c2 hc hcs
      have hR := callSh.mono (callSh.below hrep HB.out) (S' := (· < wr.heap.size)) (fun b hb => Nat.lt_of_lt_of_le hb HB.out.size)
      have hR' := callSh.mono (callSh.below hrep' HB.out) (S' := (· < wr.heap.size)) (fun b hb => Nat.lt_of_lt_of_le hb HB.out.size)
      clear hrep hrep'
      have hcall := IH.out ks[i] (List.getElem_mem hlt) [v0, v1, v2] [v0', v1', v2'] wr.drew (callSh.on hR fun _ _ => rfl) (callSh.on hR' fun _ _ => rfl)
      clear hR hR'
      go_wp2
      go_region_with (go_at_call 69; refine hcall.mono ?_; rintro e w1 ⟨rfl, hb⟩)
      all_goals
        have B1 : Hid (Below w.heap.size w w1) := (HB.out.drew).trans (hb.mono HB.out.size)
        clear hb hcall HB
        go_wp2
        go_round
        case rel => exact ⟨i + 1, by omega, by go_num, B1⟩
        case measure => simp [intOf]; omega
    · obtain rfl : i = ks.length := by omega
      go_wp2
      go_ret
      exact ⟨rfl, HB.out⟩

theorem eqS_any (ks : List CallD) (v1 v2 : Value) (w : World) (h : callSh.slice.rep w (· < w.heap.size) [v1] ks) (h' : callSh.slice.rep w (· < w.heap.size) [v2] ks) :
    Calls Tryz.prog 37 #[v1, v2] w fun e w' => e = .returned (.bool true) ∧ Below w.heap.size w w' := eqS_of ks (fun k _ => eq_any k) v1 v2 w h h'

end Go.Proofs.YtjibmpebebephaaGreatDoor.call
