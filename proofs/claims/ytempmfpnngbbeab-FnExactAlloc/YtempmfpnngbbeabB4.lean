/-
  A slice of ints that came in lies in memory as its cells.
  A Heap that came in as an argument lies in memory as its cells.
  Slices of ints as they lie in memory.
  A Heap that lies in memory apart: its slices are all different blocks.
  The law's comparison and marks of slices of ints: of the same list true; where it lies apart, what is read back is what was written; nothing else is turned.
  The law's copies of slices of ints: the same in new memory, all of it apart; nothing that was there is turned.
-/
import Derived.Test.YtempmfpnngbbeabChecked
import Derived.ProofKit
import Derived.OpenShut
import Derived.WalkKit
import Derived.WalkLawsBesides
import Derived.Deep.QuietTactic
import Derived.BigQuiet
import Derived.Laws.MakeOwn
import Derived.Deep.OwnRows
import Derived.Test.YtempmfpnngbbeabB1
import Derived.Test.YtempmfpnngbbeabB2
import Derived.Test.YtempmfpnngbbeabB3
namespace Go.Proofs.Ytempmfpnngbbeab
open Go.RowKit Go.ChangeShapes Go.WideShapes Go.Proofs.Ytempmfpnngbbeab.rose
set_option maxRecDepth 100000

theorem cells_int : Try.prog.cellsOf 3 = 1 := by kernel_rfl
theorem opens_ints {H : Type} {enc : TypeId × Value → H} {w : World} {spare : Nat → Bool} {held : Bool} (n : Nat) : OpensAt enc Try.prog w spare held n Sh.int.slice 22 := fun fuel cs x hf h => opens_slice (A := Sh.int) (n := n) Try.underlying22 cells_int (by decide) (opens_int Try.underlying3 n) fuel cs x (by omega) h

end Go.Proofs.Ytempmfpnngbbeab

namespace Go.Proofs.Ytempmfpnngbbeab.heap
open Go.RowKit Go.ChangeShapes Go.WideShapes Go.Proofs.Ytempmfpnngbbeab.rose Go.Proofs.Ytempmfpnngbbeab
set_option linter.unusedVariables false
set_option maxRecDepth 100000

section
variable {H : Type} {enc : TypeId × Value → H} {w : World} {spare : Nat → Bool} {held : Bool}

theorem cells_heap : Try.prog.cellsOf 24 = 4 := by kernel_rfl

theorem opens_heap (n : Nat) : OpensAt enc Try.prog w spare held n heapSh 24 := by
  intro fuel cs x hf h
  obtain ⟨xs, m, rfl, -, hl, hlen, hfl⟩ := DataW.trod_struct Try.underlying24 h
  rw [cells_heap] at hl
  have hlen5 : xs.length = 4 := hlen
  match cs, hl with
  | [c0, c1, c2, c3], _ =>
    match xs, hlen5 with
    | [y0, y1, y2, y3], _ =>
      have f0 := hfl 0 _ rfl
      have f1 := hfl 1 _ rfl
      have f2 := hfl 2 _ rfl
      have f3 := hfl 3 _ rfl
      simp only [List.getElem?_cons_zero, List.getElem?_cons_succ] at f0 f1 f2 f3
      obtain ⟨p0, h0⟩ := opens_ints (w := w) n m _ _ (by omega) f0
      obtain ⟨p1, h1⟩ := opens_int (w := w) Try.underlying3 n m _ _ (by omega) f1
      obtain ⟨p2, h2⟩ := opens_int (w := w) Try.underlying3 n m _ _ (by omega) f2
      obtain ⟨p3, h3⟩ := opens_int (w := w) Try.underlying3 n m _ _ (by omega) f3
      exact ⟨(p0, p1, p2, p3), [c0], _, rfl, h0, [c1], _, rfl, h1, [c2], _, rfl, h2, h3⟩

/-- THE ARGUMENT. -/
theorem arg_heap {v : Value} {d : DataW H} {ps : List MemPlace} {r : Reach} {b : Nat} (hval : Value.okWide Try.prog w r b 24 v) (h : DataW.Trod enc Try.prog w 0 spare held 24 v d ps) : ∃ cs T, v = .agg cs.toArray ∧ heapSh.rep w (· < w.heap.size) cs T := by
  obtain ⟨cs, rfl, _⟩ := okWide_struct Try.underlying24 hval
  obtain ⟨fuel, hf⟩ := h
  obtain ⟨T, hT⟩ := opens_heap (enc := enc) (w := w) (spare := spare) (held := held) fuel fuel _ _ (Nat.le_refl _) hf
  exact ⟨cs.toList, T, by simp, hT⟩
end

end Go.Proofs.Ytempmfpnngbbeab.heap

namespace Go.Proofs.Ytempmfpnngbbeab.ints
open Go.RowKit Go.Proofs.Ytempmfpnngbbeab.rose Go.Proofs.Ytempmfpnngbbeab
set_option linter.unusedVariables false

abbrev intsSh : Sh (List Int) := Sh.int.slice
abbrev intsSp : Sh (List Int) := Sh.int.sslice

theorem intsp_rep {w : World} {S : Nat → Prop} {cs : List Value} {ks : List Int} (h : intsSp.rep w S cs ks) : intsSh.rep w S cs ks := sslice_rep (A := Sh.int) (B := Sh.int) rfl (fun h => h) h

theorem ints_open {w : World} {S : Nat → Prop} {v : Value} {ks : List Int} (h : intsSh.rep w S [v] ks) : ∃ a cap, v = .slice a ks.length cap ∧ ks.length ≤ cap ∧ cap ≤ maxLen ∧ ∀ i (h : i < ks.length), ∃ b o, a = some ⟨b, o, none⟩ ∧ S b ∧ w.cell? ⟨b, o + i, none⟩ = some (.int .i64 ks[i]) ∧ -9223372036854775808 ≤ ks[i] ∧ ks[i] ≤ 9223372036854775807 := by
  obtain ⟨a, cap, css, e, h1, h2, -, h3, h4⟩ := h
  refine ⟨a, cap, by simpa using e, h1, h2, fun i hi => ?_⟩
  obtain ⟨b, o, rfl, hS, hc⟩ := h3 i hi
  obtain ⟨hcs, hn⟩ := h4 i hi
  rw [hcs] at hc
  have := hc 0 _ rfl
  exact ⟨b, o, rfl, hS, by simpa [Sh.int] using this, hn⟩

end Go.Proofs.Ytempmfpnngbbeab.ints

namespace Go.Proofs.Ytempmfpnngbbeab.heap
open Go.RowKit Go.Proofs.Ytempmfpnngbbeab.rose Go.Proofs.Ytempmfpnngbbeab
set_option linter.unusedVariables false

abbrev heapSp : Sh HeapD := Sh.int.sslice.spair (Sh.int.spair (Sh.int.spair Sh.int))

theorem heapp_rep {w : World} {S : Nat → Prop} {cs : List Value} {T : HeapD} (h : heapSp.rep w S cs T) : heapSh.rep w S cs T := (fun h => spair_rep (fun h => ints.intsp_rep h) (fun h => spair_rep (fun h => h) (fun h => spair_rep (fun h => h) (fun h => h) h) h) h) h
theorem heapp_shut {w : World} {S : Nat → Prop} {x0 : List Int} {x1 : Int} {x2 : Int} {x3 : Int} {a0 : Option Addr} {c0 : Nat} (h0 : Sh.int.sslice.rep w S [.slice a0 x0.length c0] x0) (h1 : -9223372036854775808 ≤ x1 ∧ x1 ≤ 9223372036854775807) (h2 : -9223372036854775808 ≤ x2 ∧ x2 ≤ 9223372036854775807) (h3 : -9223372036854775808 ≤ x3 ∧ x3 ≤ 9223372036854775807) : heapSp.rep w S [.slice a0 x0.length c0, .int .i64 x1, .int .i64 x2, .int .i64 x3] ((x0, x1, x2, x3)) :=
  ⟨[_], _, S, (fun _ => False), rfl, fun b h => h, fun b h => h.elim, fun b h1 h2 => h2.elim, h0, [_], _, (fun _ => False), (fun _ => False), rfl, fun b h => h.elim, fun b h => h.elim, fun b h => h.elim, ⟨rfl, h1⟩, [_], _, (fun _ => False), (fun _ => False), rfl, fun b h => h.elim, fun b h => h.elim, fun b h => h.elim, ⟨rfl, h2⟩, ⟨rfl, h3⟩⟩
theorem heapp_shutv {w : World} {S : Nat → Prop} {x0 : List Int} {x1 : Int} {x2 : Int} {x3 : Int} {v0 : Value} (h0 : Sh.int.sslice.rep w S [v0] x0) (h1 : -9223372036854775808 ≤ x1 ∧ x1 ≤ 9223372036854775807) (h2 : -9223372036854775808 ≤ x2 ∧ x2 ≤ 9223372036854775807) (h3 : -9223372036854775808 ≤ x3 ∧ x3 ≤ 9223372036854775807) : heapSp.rep w S [v0, .int .i64 x1, .int .i64 x2, .int .i64 x3] ((x0, x1, x2, x3)) :=
  ⟨[_], _, S, (fun _ => False), rfl, fun b h => h, fun b h => h.elim, fun b h1 h2 => h2.elim, h0, [_], _, (fun _ => False), (fun _ => False), rfl, fun b h => h.elim, fun b h => h.elim, fun b h => h.elim, ⟨rfl, h1⟩, [_], _, (fun _ => False), (fun _ => False), rfl, fun b h => h.elim, fun b h => h.elim, fun b h => h.elim, ⟨rfl, h2⟩, ⟨rfl, h3⟩⟩
theorem heapp_open {w : World} {S : Nat → Prop} {cs : List Value} {T : HeapD} (h : heapSp.rep w S cs T) : ∃ x0 a0 c0 x1 x2 x3, T = (x0, x1, x2, x3) ∧ cs = [.slice a0 x0.length c0, .int .i64 x1, .int .i64 x2, .int .i64 x3] ∧ Sh.int.sslice.rep w S [.slice a0 x0.length c0] x0 ∧ (-9223372036854775808 ≤ x1 ∧ x1 ≤ 9223372036854775807) ∧ (-9223372036854775808 ≤ x2 ∧ x2 ≤ 9223372036854775807) ∧ (-9223372036854775808 ≤ x3 ∧ x3 ≤ 9223372036854775807) := by
  obtain ⟨x0, x1, x2, x3⟩ := T
  obtain ⟨_, _, A0, B0, rfl, ua0, ub0, ue0, h0, _, _, A1, B1, rfl, ua1, ub1, ue1, ⟨rfl, h1⟩, _, _, A2, B2, rfl, ua2, ub2, ue2, ⟨rfl, h2⟩, ⟨rfl, h3⟩⟩ := h
  obtain ⟨a0, c0, rfl⟩ := sslice_cells h0
  exact ⟨_, _, _, _, _, _, rfl, rfl, Sh.int.sslice.mono h0 fun b g => ua0 b g, h1, h2, h3⟩

end Go.Proofs.Ytempmfpnngbbeab.heap

namespace Go.Proofs.Ytempmfpnngbbeab.ints
open Go.RowKit Go.Proofs.Ytempmfpnngbbeab.rose Go.Proofs.Ytempmfpnngbbeab
set_option linter.unusedVariables false

set_option maxHeartbeats 1000000 in
theorem eq_any (ks : List Int) (v1 v2 : Value) (w : World) (h : intsSh.rep w (· < w.heap.size) [v1] ks) (h' : intsSh.rep w (· < w.heap.size) [v2] ks) :
    Calls Try.prog 14 #[v1, v2] w fun e w' => e = .returned (.bool true) ∧ Below w.heap.size w w' := by
  obtain ⟨a, cap, rfl, hcap, hmax, hat⟩ := ints_open h
  obtain ⟨a', cap', rfl, hcap', hmax', hat'⟩ := ints_open h'
  have hmx : (ks.length : Int) ≤ 9223372036854775807 := by unfold maxLen at hmax; omega
  have HA : Hid _ := hat
  have HA' : Hid _ := hat'
  clear h h' hcap hmax hcap' hmax' hat hat'
  go_enter Try.func14, Try.ntmps14
  go_wp2
  go_loopw [5] (fun v5 wr => ∃ i : Nat, i ≤ ks.length ∧ v5 = .int .i64 i ∧ Hid (Below w.heap.size w wr)) (fun v5 _ => ks.length - (intOf v5).toNat)
  case atStart => exact ⟨0, Nat.zero_le _, rfl, Below.refl _ _⟩
  case round =>
    obtain ⟨i, hi, rfl, HB⟩ := hrel
    by_cases hlt : i < ks.length
    · obtain ⟨b, o, rfl, hS, hc, -⟩ := HA.out i hlt
      obtain ⟨b', o', rfl, hS', hc', -⟩ := HA'.out i hlt
      have e0 := (HB.out.cell (p := ⟨b, o + i, none⟩) hS).trans hc
      have e1 := (HB.out.cell (p := ⟨b', o' + i, none⟩) hS').trans hc'
      clear hc hc'
      go_wp2
      go_region
      all_goals
        go_wp2
        go_round
        case rel => exact ⟨i + 1, by omega, by go_num, HB.out.drew⟩
        case measure => simp [intOf]; omega
    · obtain rfl : i = ks.length := by omega
      go_wp2
      go_ret
      exact ⟨rfl, HB.out⟩

/-- Marks: the numbers from k on. -/
def mks (k : Int) : List Int → List Int
  | [] => []
  | _ :: xs => k :: mks (k + 1) xs
theorem mks_length (k : Int) (ks : List Int) : (mks k ks).length = ks.length := by
  induction ks generalizing k with
  | nil => rfl
  | cons x xs ih => simp [mks, ih]
theorem mks_get {k : Int} {ks : List Int} {i : Nat} (h : i < (mks k ks).length) : (mks k ks)[i] = k + (i : Nat) := by
  induction ks generalizing k i with
  | nil => simp [mks] at h
  | cons x xs ih =>
    cases i with
    | zero => simp [mks]
    | succ i =>
      simp only [mks, List.getElem_cons_succ]
      rw [ih]
      omega

def mid (k : Int) (ks : List Int) (i : Nat) : List Int := (mks k ks).take i ++ ks.drop i
theorem mid_length (k : Int) (ks : List Int) {i : Nat} (h : i ≤ ks.length) : (mid k ks i).length = ks.length := by
  simp [mid, mks_length]; omega
theorem mid_zero (k : Int) (ks : List Int) : mid k ks 0 = ks := by simp [mid]
theorem mid_full (k : Int) (ks : List Int) : mid k ks ks.length = mks k ks := by
  unfold mid; rw [List.take_of_length_le (by rw [mks_length]; exact Nat.le_refl _)]; simp
theorem mid_set (k : Int) (ks : List Int) {i : Nat} (h : i < ks.length) : (mid k ks i).set i (k + (i : Nat)) = mid k ks (i + 1) := by
  unfold mid
  have hl : ((mks k ks).take i).length = i := by simp [mks_length]; omega
  rw [List.set_append, if_neg (by omega), hl, Nat.sub_self, List.drop_eq_getElem_cons h, List.set_cons_zero]
  rw [List.take_succ_eq_append_getElem (show i < (mks k ks).length by rw [mks_length]; exact h), List.append_assoc, mks_get]
  rfl

set_option maxHeartbeats 1000000 in
theorem mark_any (ks : List Int) (v : Value) (w : World) (k : Int) (S : Nat → Prop) (hk1 : 1 ≤ k) (hk2 : k + (ks.length : Nat) ≤ 1152921504606846976) (hS : ∀ b, S b → b < w.heap.size) (h : intsSp.rep w S [v] ks) :
    Calls Try.prog 16 #[v, .int .i64 k] w fun e w' => e = .returned (.int .i64 (k + (ks.length : Nat))) ∧ intsSp.rep w' S [v] (mks k ks) ∧ Only S w w' := by
  obtain ⟨a, cap, css, F, e, hcap, hmax, hnone, hrow⟩ := h
  obtain rfl : v = .slice a ks.length cap := by simpa using e
  have hmx : (ks.length : Int) ≤ 9223372036854775807 := by unfold maxLen at hmax; omega
  have HC : Hid (ks.length ≤ cap ∧ cap ≤ maxLen ∧ (a = none → cap = 0)) := ⟨hcap, hmax, hnone⟩
  have HS : Hid (∀ b, S b → b < w.heap.size) := hS
  have HR : Hid (SRow Sh.int w S a css F (mid k ks 0)) := by show SRow _ _ _ _ _ _ _; rw [mid_zero]; exact hrow
  clear e hcap hmax hnone hS hrow
  go_enter Try.func16, Try.ntmps16
  go_wp2
  go_loopw [1, 5] (fun v1 v5 wr => ∃ (i : Nat) (css' : Nat → List Value), i ≤ ks.length ∧ v5 = .int .i64 i ∧ v1 = .int .i64 (k + (i : Nat)) ∧ Hid (SRow Sh.int wr S a css' F (mid k ks i) ∧ Only S w wr)) (fun _ v5 _ => ks.length - (intOf v5).toNat)
  case atStart => exact ⟨0, css, Nat.zero_le _, rfl, by simp, HR.out, Only.refl _ _⟩
  case round =>
    obtain ⟨i, css', hi, rfl, rfl, HJ⟩ := hrel
    by_cases hlt : i < ks.length
    · have hlm : i < (mid k ks i).length := by rw [mid_length k ks hi]; exact hlt
      obtain ⟨b, o, rfl, hSb, hFb, hc, hfz, cur, t, hbk⟩ := HJ.out.1.at hlm
      have hrep := HJ.out.1.rep i hlm
      have hcs := hrep.1
      rw [hcs] at hc
      have e0 : wr.cell? ⟨b, o + i, none⟩ = some (.int .i64 (mid k ks i)[i]) := by have := hc 0 _ rfl; simpa [Sh.int] using this
      have NX : Hid (∃ css2, SRow Sh.int (wr.setCell ⟨b, o + i, none⟩ (.int .i64 (k + (i : Nat)))) S (some ⟨b, o, none⟩) css2 F (mid k ks (i + 1)) ∧ Only S w (wr.setCell ⟨b, o + i, none⟩ (.int .i64 (k + (i : Nat))))) := by
        have hT : Turned b (o + i * Sh.int.k) (o + i * Sh.int.k + Sh.int.k) wr (wr.setCell ⟨b, o + i, none⟩ (.int .i64 (k + (i : Nat)))) := Turned.set _ _ _ (by simp [Sh.int]) (by simp [Sh.int])
        have hn := HJ.out.1.turn (fun q hq => Nat.lt_of_lt_of_le (HS.out q hq) HJ.out.2.size) hlm rfl hT (Only.refl _ _) (cs := [.int .i64 (k + (i : Nat))]) (x := k + (i : Nat)) (by
          intro q v hq
          match q, hq with
          | 0, hq =>
            simp at hq; subst hq
            have := cell_set_eq (v := .int .i64 (k + (i : Nat))) e0
            simpa [Sh.int] using this
          | _ + 1, hq => simp at hq) ⟨rfl, by omega, by omega⟩
        rw [mid_set k ks hlt] at hn
        exact ⟨_, hn.1, HJ.out.2.trans hn.2⟩
      clear hrep hcs hc hbk hFb hSb
      generalize (mid k ks i)[i] = x0 at e0
      go_wp2
      go_round
      case rel => obtain ⟨css2, n1, n2⟩ := NX.out; exact ⟨i + 1, css2, by omega, by go_num, by go_num, n1, n2⟩
      case measure => simp [intOf]; omega
    · obtain rfl : i = ks.length := by omega
      have hq := HJ.out
      rw [mid_full] at hq
      go_wp2
      go_ret
      refine ⟨rfl, ?_, hq.2⟩
      have hl := mks_length k ks
      refine ⟨a, cap, css', F, by rw [hl], by rw [hl]; exact HC.out.1, HC.out.2.1, HC.out.2.2, hq.1⟩

end Go.Proofs.Ytempmfpnngbbeab.ints

namespace Go.Proofs.Ytempmfpnngbbeab.ints
open Go.RowKit Go.Proofs.Ytempmfpnngbbeab.rose Go.Proofs.Ytempmfpnngbbeab
set_option linter.unusedVariables false

theorem infoT_int : (Try.prog.info? 3).map (fun i => (i.zero, i.size, i.bytes)) = some (some (.int .i64 0), 1, 8) := by kernel_rfl

theorem make_int (n : Nat) (h : n ≤ 1048576) (w : World) : (Instr.makeSlice 22 (.int .i64 (n : Int)) (.int .i64 (n : Int))).run Try.prog w = .ok (.slice (some ⟨w.heap.size, 0, none⟩) n n)
    (w.alloc (.cells (madeCells #[.int .i64 0] (n * 1)) 3)) := by
  obtain ⟨i, hi, hzz⟩ := Option.map_eq_some_iff.1 infoT_int
  simp only [Prod.mk.injEq] at hzz
  obtain ⟨hz, hs, hb⟩ := hzz
  have := run_make (P := Try.prog) w 22 3 i _ Try.underlying22 hi hz .i64 .i64 n n (by omega) (by omega) (by rw [hb]; omega) (by omega)
  simpa [hs, Value.cells] using this

set_option maxHeartbeats 1000000 in
theorem toPS_any (ks : List Int) (v : Value) (w : World) (hw : ks.length ≤ 1048576) (h : Sh.int.slice.rep w (· < w.heap.size) [v] ks) :
    Calls Try.prog 19 #[v] w fun e w' => (∃ v', e = .returned v' ∧ Sh.int.sslice.rep w' (fun b => w.heap.size ≤ b ∧ b < w'.heap.size) [v'] ks) ∧ Below w.heap.size w w' := by
  obtain ⟨a, cap, rfl, hcap, hmax, hat⟩ := ints_open h
  have HA : Hid _ := hat
  have hn : ks.length ≤ 1048576 := hw
  clear h hcap hmax hat
  have hmk := make_int ks.length hn
  go_enter Try.func19, Try.ntmps19
  go_wp2
  clear hmk
  generalize hw1 : w.alloc _ = w1
  have F1 : SFilling Sh.int 3 w1 w.heap.size ks.length 0 ks := by
    subst hw1
    have := SFilling.start (A := Sh.int) (t := 3) (w := w) (z := #[.int .i64 0]) (n := ks.length) (xs := ks)
    rwa [show ks.length * Sh.int.k = ks.length from Nat.mul_one _] at this
  have B1 : Below w.heap.size w w1 := by subst hw1; exact (Below.refl _ _).alloc (Nat.le_refl _) _
  have Z1 : w.heap.size < w1.heap.size := by subst hw1; simp
  clear hw1
  go_loopw [4] (fun v4 wr => ∃ i : Nat, i ≤ ks.length ∧ v4 = .int .i64 i ∧ Hid (SFilling Sh.int 3 wr w.heap.size ks.length i ks ∧ Below w.heap.size w wr ∧ w.heap.size < wr.heap.size)) (fun v4 _ => ks.length - (intOf v4).toNat)
  case atStart => exact ⟨0, Nat.zero_le _, rfl, F1, B1, Z1⟩
  case round =>
    obtain ⟨i, hi, rfl, HF⟩ := hrel
    by_cases hlt : i < ks.length
    · obtain ⟨b, o, rfl, hS, hc, hn1, hn2⟩ := HA.out i hlt
      obtain ⟨F, HB, hZ⟩ := HF.out
      have e0 := (HB.cell (p := ⟨b, o + i, none⟩) hS).trans hc
      have hst := F.store (P := Try.prog) (Below.refl _ wr) hZ hlt (cs := [.int .i64 ks[i]]) rfl (by simp [Value.oneCell'])
      have F2 : Hid (SFilling Sh.int 3 (wr.setCells w.heap.size (i * 1) [.int .i64 ks[i]]) w.heap.size ks.length (i + 1) ks) := F.step (Below.refl _ wr) hZ hlt hlt ⟨rfl, hn1, hn2⟩
      have B2 : Hid (Below w.heap.size w (wr.setCells w.heap.size (i * 1) [.int .i64 ks[i]])) := HB.trans (setCells_below (Nat.le_refl _) _ _)
      have Z2 : Hid (w.heap.size < (wr.setCells w.heap.size (i * 1) [.int .i64 ks[i]]).heap.size) := by show _ < _; rw [setCells_size]; exact hZ
      obtain ⟨cur, hcur, hsz⟩ := F.blk
      have fz : ∀ q, wr.frozen? ⟨w.heap.size, q, none⟩ = false := fun q => by simp [World.frozen?, hcur]
      obtain ⟨u, hu⟩ : ∃ u, wr.cell? ⟨w.heap.size, i, none⟩ = some u := ⟨cur[i]'(by simp only [Sh.int] at hsz; omega), by simp [World.cell?, hcur]⟩
      have hk1 : Sh.int.k = 1 := rfl
      rw [hk1] at hst
      clear F HB hZ HF hc hcur
      generalize ks[i] = x0 at e0 hst F2 B2 Z2
      simp only [World.setCells, Nat.mul_one] at F2 B2 Z2
      go_wp2
      go_round
      case rel => exact ⟨i + 1, by omega, by go_num, F2.out, B2.out, Z2.out⟩
      case measure => simp [intOf]; omega
    · obtain rfl : i = ks.length := by omega
      go_wp2
      go_ret
      obtain ⟨F, HB, hZ⟩ := HF.out
      exact ⟨⟨_, rfl, F.done hZ (by unfold maxLen; omega)⟩, HB⟩

theorem toS_any (ks : List Int) (v : Value) (w : World) (hw : ks.length ≤ 1048576) (h : Sh.int.slice.rep w (· < w.heap.size) [v] ks) :
    Calls Try.prog 19 #[v] w fun e w' => (∃ v', e = .returned v' ∧ Sh.int.slice.rep w' (fun b => w.heap.size ≤ b ∧ b < w'.heap.size) [v'] ks) ∧ Below w.heap.size w w' :=
  (toPS_any ks v w hw h).mono fun e w' ⟨⟨v', h1, h2⟩, h3⟩ => ⟨⟨v', h1, intsp_rep h2⟩, h3⟩

end Go.Proofs.Ytempmfpnngbbeab.ints
