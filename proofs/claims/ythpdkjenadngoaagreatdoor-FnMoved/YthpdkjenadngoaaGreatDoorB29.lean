/-
  The program turns words (metBlocks.turn): each place of a block into where the block stands now.
  The program's heap at work while it is moved: its words in a block of the call's own, how often it was moved any number; what its methods that only read answer.
-/
import Derived.Lib.SliceRun
import Derived.Deep.Upon
import Derived.Test.YthpdkjenadngoaaGreatDoorB1
import Derived.Test.YthpdkjenadngoaaGreatDoorB2
import Derived.Test.YthpdkjenadngoaaGreatDoorB3
import Derived.Test.YthpdkjenadngoaaGreatDoorB4
import Derived.Test.YthpdkjenadngoaaGreatDoorB5
import Derived.Test.YthpdkjenadngoaaGreatDoorB6
import Derived.Test.YthpdkjenadngoaaGreatDoorB7
import Derived.Test.YthpdkjenadngoaaGreatDoorB8
import Derived.Test.YthpdkjenadngoaaGreatDoorB9
import Derived.Test.YthpdkjenadngoaaGreatDoorB10
import Derived.Test.YthpdkjenadngoaaGreatDoorB11
import Derived.Test.YthpdkjenadngoaaGreatDoorB12
import Derived.Test.YthpdkjenadngoaaGreatDoorB13
import Derived.Test.YthpdkjenadngoaaGreatDoorB14
import Derived.Test.YthpdkjenadngoaaGreatDoorB15
import Derived.Test.YthpdkjenadngoaaGreatDoorB16
import Derived.Test.YthpdkjenadngoaaGreatDoorB17
import Derived.Test.YthpdkjenadngoaaGreatDoorB18
import Derived.Test.YthpdkjenadngoaaGreatDoorB19
import Derived.Test.YthpdkjenadngoaaGreatDoorB20
import Derived.Test.YthpdkjenadngoaaGreatDoorB21
import Derived.Test.YthpdkjenadngoaaGreatDoorB22
import Derived.Test.YthpdkjenadngoaaGreatDoorB23
import Derived.Test.YthpdkjenadngoaaGreatDoorB24
import Derived.Test.YthpdkjenadngoaaGreatDoorB25
import Derived.Test.YthpdkjenadngoaaGreatDoorB26
import Derived.Test.YthpdkjenadngoaaGreatDoorB27
import Derived.Test.YthpdkjenadngoaaGreatDoorB28
namespace Go.Proofs.YthpdkjenadngoaaGreatDoor.heap
open Go Go.RowKit Go.Deep Go.Proofs.YthpdkjenadngoaaGreatDoor.rose Go.Proofs.YthpdkjenadngoaaGreatDoor Go.Proofs.YthpdkjenadngoaaGreatDoor.fun Go.Proofs.YthpdkjenadngoaaGreatDoor.words Go.Proofs.YthpdkjenadngoaaGreatDoor.ints
set_option linter.unusedVariables false
set_option linter.unusedSimpArgs false

theorem refWord_at (n : Nat) (w : World) (h : n ≤ 6000) : Calls Tryz.prog 85 #[.int .i64 n] w fun e w' => e = .returned (.int .i64 (2 * (n : Int))) ∧ w' = w := by
  have t1 : decide ((n : Int) < 0) = false := decide_eq_false (by omega)
  have t2 : decide ((6000 : Int) < (n : Int)) = false := decide_eq_false (by omega)
  go_enter Tryz.func85, Tryz.ntmps85
  go_wp2
  go_ret
  exact ⟨rfl, rfl⟩

/-- So many words from o on are turned. -/
def turnsX (f : Int → Int) (X : List Int) (o : Nat) : Nat → List Int
  | 0 => X
  | i + 1 => (turnsX f X o i).set (o + i) (f (X.getD (o + i) 0))
theorem turnsX_len (f : Int → Int) (X : List Int) (o i : Nat) : (turnsX f X o i).length = X.length := by
  induction i with
  | zero => rfl
  | succ i ih => rw [turnsX, List.length_set, ih]
theorem turnsX_get {f : Int → Int} {X : List Int} {o : Nat} : ∀ {i j : Nat}, o + i ≤ X.length → (turnsX f X o i).getD j 0 = if o ≤ j ∧ j < o + i then f (X.getD j 0) else X.getD j 0 := by
  intro i
  induction i with
  | zero => intro j _; rw [turnsX, if_neg (by omega)]
  | succ i ih =>
    intro j h
    rw [turnsX]
    by_cases e : j = o + i
    · subst e
      rw [if_pos (by omega), List.getD_eq_getElem?_getD, List.getElem?_set_self (by rw [turnsX_len]; omega)]
      rfl
    · rw [List.getD_eq_getElem?_getD, List.getElem?_set_ne (by omega), ← List.getD_eq_getElem?_getD, ih (by omega)]
      by_cases h1 : o ≤ j ∧ j < o + i
      · rw [if_pos h1, if_pos (by omega)]
      · rw [if_neg h1, if_neg (by omega)]
theorem turnsX_all (f : Int → Int) (X : List Int) : turnsX f X 0 X.length = X.map f := by
  apply List.ext_getElem
  · rw [turnsX_len, List.length_map]
  · intro i h1 h2
    have hi : i < X.length := by rw [turnsX_len] at h1; exact h1
    have := turnsX_get (f := f) (X := X) (o := 0) (i := X.length) (j := i) (by omega)
    rw [if_pos (by omega), List.getD_eq_getElem?_getD, List.getElem?_eq_getElem h1, List.getD_eq_getElem?_getD, List.getElem?_eq_getElem hi] at this
    simpa using this
/-- Where a word's block stands now. -/
def turnM (O Mv : List Int) (x : Int) : Int := if x % 2 = 0 then 2 * Mv.getD (O.idxOf (x / 2)) 0 else x

set_option maxRecDepth 100000 in
set_option maxHeartbeats 8000000 in
theorem turn_is {B2 nb g : Nat} {v vm : Value} {base half : Nat} {O Mv X : List Int} {w : World} (h : Met B2 nb v base half O w) (hX : OW g X w) (hnb : nb ≠ g) (hM : IRow w 0 vm Mv) (hvm : vm.ownBlock ≠ some g) (hml : Mv.length = O.length) (hmr : ∀ x ∈ Mv, 0 ≤ x ∧ x ≤ 6000) (o n c : Nat) (hn : o + n ≤ X.length) (hXl : X.length ≤ 1048576) (hx : ∀ j, j < n → (X.getD (o + j) 0) % 2 = 0 → (X.getD (o + j) 0) / 2 ∈ O) :
    Calls Tryz.prog 50 #[.agg #[.int .i64 base, v, .slice (some ⟨nb, 0, none⟩) half half], .slice (some ⟨g, o, none⟩) n c, vm] w fun e w' => e = .returned (.tuple #[]) ∧ OW g (turnsX (turnM O Mv) X o n) w' ∧ (∀ k, k < w.heap.size → k ≠ g → w'.heap[k]? = w.heap[k]?) ∧ Below g w w' := by
  obtain ⟨av, cv, hvv⟩ := own_form h.plc.1
  subst hvv
  obtain ⟨am, cm, hvm2⟩ := own_form hM.1
  subst hvm2
  have T0 := alloc_top w (.cells #[.int .i64 base, .slice av O.length cv, .slice (some ⟨nb, 0, none⟩) half half] 45)
  have K0 : Below w.heap.size w (w.alloc (.cells #[.int .i64 base, .slice av O.length cv, .slice (some ⟨nb, 0, none⟩) half half] 45)) := (Below.refl _ _).alloc (Nat.le_refl _) _
  have hgl : g < w.heap.size := hX.lt
  have HSZ : Hid _ := h.siz
  have X0 : Hid (OW g (turnsX (turnM O Mv) X o 0) (w.alloc (.cells #[.int .i64 base, .slice av O.length cv, .slice (some ⟨nb, 0, none⟩) half half] 45))) := hX.on (K0.block g hgl)
  have Y0 : Hid ((∀ k, k < w.heap.size → k ≠ g → (w.alloc (.cells #[.int .i64 base, .slice av O.length cv, .slice (some ⟨nb, 0, none⟩) half half] 45)).heap[k]? = w.heap[k]?) ∧ Below g w (w.alloc (.cells #[.int .i64 base, .slice av O.length cv, .slice (some ⟨nb, 0, none⟩) half half] 45)) ∧ (w.alloc (.cells #[.int .i64 base, .slice av O.length cv, .slice (some ⟨nb, 0, none⟩) half half] 45)).heap[w.heap.size]? = some (.cells #[.int .i64 base, .slice av O.length cv, .slice (some ⟨nb, 0, none⟩) half half] 45)) := ⟨fun k hk _ => K0.block k hk, K0.mono (Nat.le_of_lt hgl), T0⟩
  have HME : Hid (Met B2 nb (.slice av O.length cv) base half O w ∧ IRow w 0 (.slice am Mv.length cm) Mv ∧ (Value.slice am Mv.length cm).ownBlock ≠ some g ∧ nb ≠ g) := ⟨h, hM, hvm, hnb⟩
  have HXR : Hid (∀ x ∈ X, InR x) := hX.2
  have HMR : Hid (Mv.length = O.length ∧ ∀ x ∈ Mv, 0 ≤ x ∧ x ≤ 6000) := ⟨hml, hmr⟩
  have HX : Hid (∀ j, j < n → (X.getD (o + j) 0) % 2 = 0 → (X.getD (o + j) 0) / 2 ∈ O) := hx
  have HN : Hid (o + n ≤ X.length) := hn
  have hn20 : n ≤ 1048576 ∧ o ≤ 1048576 := by omega
  clear h hX hM hvm hml hmr hx T0 K0 hn hXl hnb
  go_enter Tryz.func50, Tryz.ntmps50
  go_wp2
  go_loopw [10] (fun v10 wr => ∃ i : Nat, i ≤ n ∧ v10 = .int .i64 i ∧ Hid (OW g (turnsX (turnM O Mv) X o i) wr) ∧ Hid ((∀ k, k < w.heap.size → k ≠ g → wr.heap[k]? = w.heap[k]?) ∧ Below g w wr ∧ wr.heap[w.heap.size]? = some (.cells #[.int .i64 base, .slice av O.length cv, .slice (some ⟨nb, 0, none⟩) half half] 45))) (fun v10 _ => n - (intOf v10).toNat)
  case atStart => exact ⟨0, Nat.zero_le _, rfl, X0, Y0⟩
  case round =>
    obtain ⟨i, hi, rfl, HW, HY⟩ := hrel
    by_cases hlt : i < n
    · have hlen : o + i < (turnsX (turnM O Mv) X o i).length := by rw [turnsX_len]; have := HN.out; omega
      have hc0 := HW.out.cell hlen
      have hgx : (turnsX (turnM O Mv) X o i)[o + i] = X.getD (o + i) 0 := by
        have := turnsX_get (f := turnM O Mv) (X := X) (o := o) (i := i) (j := o + i) (by have := HN.out; omega)
        rw [if_neg (by omega)] at this
        rw [← this, List.getD_eq_getElem?_getD, List.getElem?_eq_getElem hlen]; rfl
      rw [hgx] at hc0
      have hxi := HX.out i hlt
      have hrr : InR (X.getD (o + i) 0) := by
        have := HN.out
        rw [List.getD_eq_getElem?_getD, List.getElem?_eq_getElem (by omega : o + i < X.length)]
        exact HXR.out _ (List.getElem_mem _)
      obtain ⟨x, hxx⟩ : ∃ x, x = X.getD (o + i) 0 := ⟨_, rfl⟩
      have HNX : Hid (turnsX (turnM O Mv) X o (i + 1) = (turnsX (turnM O Mv) X o i).set (o + i) (turnM O Mv x)) := by show _ = _; rw [turnsX, hxx]
      rw [← hxx] at hc0 hxi hrr
      obtain ⟨r1, r2⟩ := hrr
      have HC0 : Hid (wr.cell? ⟨g, o + i, none⟩ = some (.int .i64 x)) := hc0
      have iI : (i : Int) < (n : Int) := by omega
      have i0 : (0 : Int) ≤ (i : Int) := by omega
      clear hgx hxx hlen
      rcases q1 : decide (x % 2 = 0) with _ | _
      · have hq1 := of_decide_eq_false q1
        have HN1 : Hid (OW g (turnsX (turnM O Mv) X o (i + 1)) wr) := by
          show OW _ _ _
          have e : turnM O Mv x = x := by unfold turnM; rw [if_neg hq1]
          rw [HNX.out, e]
          have := HW.out
          have hl2 : o + i < (turnsX (turnM O Mv) X o i).length := by rw [turnsX_len]; have := HN.out; omega
          have e2 : (turnsX (turnM O Mv) X o i).set (o + i) x = turnsX (turnM O Mv) X o i := by
            have h1 := this.cell hl2
            rw [HC0.out] at h1
            simp only [Option.some.injEq, Value.int.injEq, true_and] at h1
            rw [h1, List.set_getElem_self]
          rw [e2]; exact this
        clear hxi
        go_wp2_with (go_at_call 84; refine (isRef_b q1 _ r1 r2).mono ?_; rintro e w' ⟨rfl, hx⟩; subst w')
        go_round
        case rel => exact ⟨i + 1, by omega, by go_num, HN1, HY⟩
        case measure => simp [intOf]; omega
      · have hq1 := of_decide_eq_true q1
        have hmem := hxi hq1
        have hran := HSZ.out.2.2.2 _ hmem
        obtain ⟨j, hj⟩ : ∃ j : Nat, x / 2 = ((base + j : Nat) : Int) := ⟨(x / 2 - base).toNat, by omega⟩
        have hjh : j < half := by omega
        have hil := List.idxOf_lt_length_iff.2 hmem
        have hno : numO base O j = ((O.idxOf (x / 2) : Nat) : Int) := by unfold numO; rw [if_pos (by rw [← hj]; exact hmem), ← hj]
        have hnb2 : nb < w.heap.size := HME.out.1.lt
        have HWG : Hid (∀ k, k < w.heap.size → k ≠ g → wr.heap[k]? = w.heap[k]?) := HY.out.1
        have NR : Met B2 nb (.slice av O.length cv) base half O wr ∨ True := .inr trivial
        have hnc : wr.cell? ⟨nb, j, none⟩ = some (.int .i64 (numO base O j)) := by
          have := HME.out.1.nc hjh
          rw [← this]
          simp only [World.cell?, HWG.out nb hnb2 HME.out.2.2.2]
        have hwrl : w.heap.size < wr.heap.size := (Array.getElem?_eq_some_iff.1 HY.out.2.2).1
        have k0 : wr.cell? ⟨w.heap.size, 0, none⟩ = some (.int .i64 base) := blk_cellH (i := 0) HY.out.2.2 rfl
        have k1 : wr.cell? ⟨w.heap.size, 1, none⟩ = some (.slice av O.length cv) := blk_cellH (i := 1) HY.out.2.2 rfl
        have k2 : wr.cell? ⟨w.heap.size, 2, none⟩ = some (.slice (some ⟨nb, 0, none⟩) half half) := blk_cellH (i := 2) HY.out.2.2 rfl
        have hnum := number_is base (.slice av O.length cv) nb half j x (numO base O j) wr hj hjh ⟨HSZ.out.1, HSZ.out.2.1⟩ r1 r2 hnc (by omega)
        rw [hno] at hnum
        obtain ⟨ix, hix⟩ : ∃ ix : Nat, ix = O.idxOf (x / 2) := ⟨_, rfl⟩
        rw [← hix] at hnum hil
        have hixm : ix < Mv.length := by rw [HMR.out.1]; exact hil
        rcases HME.out.2.1.open with ⟨-, h0⟩ | ⟨gm, cpm, hvv, -, hgm, -, -, hcl, -⟩
        · rw [h0] at hixm; cases hixm
        obtain ⟨rfl, rfl⟩ : am = some ⟨gm, 0, none⟩ ∧ cm = cpm := by simp only [Value.slice.injEq] at hvv; exact ⟨hvv.1, hvv.2.2⟩
        have hgmg : gm ≠ g := fun e => HME.out.2.2.1 (by rw [e]; rfl)
        have hmx := HMR.out.2 Mv[ix] (List.getElem_mem hixm)
        obtain ⟨mz, hmz⟩ : ∃ mz : Nat, Mv[ix] = mz := ⟨(Mv[ix]).toNat, by omega⟩
        have hmz6 : mz ≤ 6000 := by omega
        have hmc : wr.cell? ⟨gm, ix, none⟩ = some (.int .i64 mz) := by
          have := hcl ix hixm
          rw [hmz] at this
          rw [← this]
          simp only [World.cell?, HWG.out gm hgm hgmg]
        have hgmw : gm < wr.heap.size := by omega
        have HTM : Hid (turnM O Mv x = 2 * (mz : Int)) := by
          show _ = _; unfold turnM; rw [if_pos hq1, ← hix, List.getD_eq_getElem?_getD, List.getElem?_eq_getElem hixm]
          show 2 * Mv[ix] = _
          rw [hmz]
        have HGG : Hid (gm ≠ g ∧ nb ≠ g ∧ g < w.heap.size) := ⟨hgmg, HME.out.2.2.2, hgl⟩
        have HGL : g < wr.heap.size := HW.out.lt
        have ixI : (ix : Int) < (Mv.length : Int) := by omega
        have ix0 : (0 : Int) ≤ (ix : Int) := by omega
        clear hno hix hcl hvv hxi hmem hran hj hil hmz hmx NR hnc hnb2
        go_wp2_with (go_at_call 84; refine (isRef_b q1 _ r1 r2).mono ?_; rintro e w' ⟨rfl, hx⟩; subst w')
        refine hnum.mono ?_
        rintro e w1 ⟨rfl, hb1⟩
        have mc1 : w1.cell? ⟨gm, ix, none⟩ = some (.int .i64 mz) := (hb1.cell (p := ⟨gm, ix, none⟩) hgmw).trans hmc
        have W1 : Hid (OW g (turnsX (turnM O Mv) X o i) w1) := HW.out.on (hb1.block g HGL)
        have hl2 : o + i < (turnsX (turnM O Mv) X o i).length := by rw [turnsX_len]; have := HN.out; omega
        have wc1 := W1.out.cell hl2
        have wf1 := W1.out.frz (o + i)
        have Y1 : Hid ((∀ k, k < w.heap.size → k ≠ g → w1.heap[k]? = w.heap[k]?) ∧ Below g w w1 ∧ w1.heap[w.heap.size]? = some (.cells #[.int .i64 base, .slice av O.length cv, .slice (some ⟨nb, 0, none⟩) half half] 45)) := ⟨fun k hk hne => (hb1.block k (by omega)).trans (HY.out.1 k hk hne), HY.out.2.1.trans (hb1.mono (by omega)), (hb1.block _ hwrl).trans HY.out.2.2⟩
        generalize (turnsX (turnM O Mv) X o i)[o + i] = ow at wc1
        clear hnum hb1 hmc k0 k1 k2 hl2
        go_wp2_with (go_at_call 85; refine (refWord_at mz _ hmz6).mono ?_; rintro e w' ⟨rfl, hx⟩; subst w')
        have W2 : Hid (OW g (turnsX (turnM O Mv) X o (i + 1)) (w1.setCell ⟨g, o + i, none⟩ (.int .i64 (2 * (mz : Int))))) := by
          show OW _ _ _
          rw [HNX.out, HTM.out]
          exact W1.out.set _ (by unfold InR; omega)
        have Y2 : Hid ((∀ k, k < w.heap.size → k ≠ g → (w1.setCell ⟨g, o + i, none⟩ (.int .i64 (2 * (mz : Int)))).heap[k]? = w.heap[k]?) ∧ Below g w (w1.setCell ⟨g, o + i, none⟩ (.int .i64 (2 * (mz : Int)))) ∧ (w1.setCell ⟨g, o + i, none⟩ (.int .i64 (2 * (mz : Int)))).heap[w.heap.size]? = some (.cells #[.int .i64 base, .slice av O.length cv, .slice (some ⟨nb, 0, none⟩) half half] 45)) := ⟨fun k hk hne => (Below.heap_setCell _ _ _ _ (by exact hne)).trans (Y1.out.1 k hk hne), Y1.out.2.1.setCell (Nat.le_refl _) _, (Below.heap_setCell _ _ _ _ (by have := HGG.out; show w.heap.size ≠ g; omega)).trans Y1.out.2.2⟩
        clear wc1 wf1 mc1
        generalize w1.setCell ⟨g, o + i, none⟩ (.int .i64 (2 * (mz : Int))) = w2 at *
        go_round
        case rel => exact ⟨i + 1, by omega, by go_num, W2, Y2⟩
        case measure => simp [intOf]; omega
    · obtain rfl : i = n := by omega
      go_wp2
      ((try simp only [Exit.inBlock, Exit.then]); (first | refine bodyPost_ret (results_none rfl _ _ _) rfl ?_ | refine bodyPost_end (results_none rfl _ _ _) rfl ?_))
      exact ⟨by first | rfl | trivial, HW.out, HY.out.1, HY.out.2.1⟩

end Go.Proofs.YthpdkjenadngoaaGreatDoor.heap

namespace Go.Proofs.YthpdkjenadngoaaGreatDoor.heap
open Go Go.RowKit Go.Deep Go.Proofs.YthpdkjenadngoaaGreatDoor.rose Go.Proofs.YthpdkjenadngoaaGreatDoor Go.Proofs.YthpdkjenadngoaaGreatDoor.fun Go.Proofs.YthpdkjenadngoaaGreatDoor.words Go.Proofs.YthpdkjenadngoaaGreatDoor.ints
set_option linter.unusedVariables false
set_option linter.unusedSimpArgs false

structure HM (hb hm g : Nat) (X : List Int) (half next t : Nat) (lk : Int) (w : World) : Prop where
  ne : hb ≠ hm ∧ hb ≠ g ∧ hm ≠ g
  blk : w.heap[hb]? = some (.cells #[.int .i32 lk, .int .u32 0, .int .i64 t, .slice (some ⟨g, 0, none⟩) X.length X.length, .int .i64 half, .int .i64 next, .slice (some ⟨hm, 0, none⟩) half half] 85)
  mks : ∃ M : List Bool, M.length = half ∧ w.heap[hm]? = some (.cells (M.map Value.bool).toArray 4)
  wds : OW g X w
  siz : X.length = 2 * half ∧ 1 ≤ half ∧ half ≤ 3000 ∧ t ≤ 2
section
variable {hb hm g : Nat} {X : List Int} {half next t : Nat} {lk : Int} {w w' : World}
theorem HM.lt (h : HM hb hm g X half next t lk w) : hb < w.heap.size ∧ hm < w.heap.size ∧ g < w.heap.size := by
  obtain ⟨M, -, hM⟩ := h.mks
  exact ⟨(Array.getElem?_eq_some_iff.1 h.blk).1, (Array.getElem?_eq_some_iff.1 hM).1, h.wds.lt⟩
theorem HM.other (h : HM hb hm g X half next t lk w) (e : ∀ k, k < w.heap.size → w'.heap[k]? = w.heap[k]?) : HM hb hm g X half next t lk w' := by
  obtain ⟨M, hl, hM⟩ := h.mks
  have := h.lt
  exact ⟨h.ne, (e hb this.1).trans h.blk, ⟨M, hl, (e hm this.2.1).trans hM⟩, h.wds.on (e g this.2.2), h.siz⟩
theorem HM.on (h : HM hb hm g X half next t lk w) (hB : Below w.heap.size w w') : HM hb hm g X half next t lk w' := h.other fun k hk => hB.block k hk
theorem HM.words (h : HM hb hm g X half next t lk w) {X' : List Int} (hX : OW g X' w') (hl : X'.length = X.length) (e : ∀ k, k < w.heap.size → k ≠ g → w'.heap[k]? = w.heap[k]?) : HM hb hm g X' half next t lk w' := by
  obtain ⟨M, hlM, hM⟩ := h.mks
  have := h.lt
  have hne := h.ne
  exact ⟨h.ne, by rw [hl]; exact (e hb this.1 hne.2.1).trans h.blk, ⟨M, hlM, (e hm this.2.1 hne.2.2).trans hM⟩, hX, by rw [hl]; exact h.siz⟩
theorem HM.c0 (h : HM hb hm g X half next t lk w) : w.cell? ⟨hb, 0, none⟩ = some (.int .i32 lk) := by simp [World.cell?, h.blk]
theorem HM.c2 (h : HM hb hm g X half next t lk w) : w.cell? ⟨hb, 2, none⟩ = some (.int .i64 t) := by simp [World.cell?, h.blk]
theorem HM.c3 (h : HM hb hm g X half next t lk w) : w.cell? ⟨hb, 3, none⟩ = some (.slice (some ⟨g, 0, none⟩) X.length X.length) := by simp [World.cell?, h.blk]
theorem HM.c4 (h : HM hb hm g X half next t lk w) : w.cell? ⟨hb, 4, none⟩ = some (.int .i64 half) := by simp [World.cell?, h.blk]
theorem HM.c5 (h : HM hb hm g X half next t lk w) : w.cell? ⟨hb, 5, none⟩ = some (.int .i64 next) := by simp [World.cell?, h.blk]
theorem HM.c6 (h : HM hb hm g X half next t lk w) : w.cell? ⟨hb, 6, none⟩ = some (.slice (some ⟨hm, 0, none⟩) half half) := by simp [World.cell?, h.blk]
theorem HM.frz (h : HM hb hm g X half next t lk w) (j : Nat) : w.frozen? ⟨hb, j, none⟩ = false := by simp [World.frozen?, h.blk]
theorem HM.mk_ (h : HM hb hm g X half next t lk w) {j : Nat} (hj : j < half) : ∃ b, w.cell? ⟨hm, j, none⟩ = some (.bool b) := by
  obtain ⟨M, hl, hM⟩ := h.mks
  exact ⟨M[j]'(by omega), by simp [World.cell?, hM, show j < M.length by omega]⟩
theorem HM.mfrz (h : HM hb hm g X half next t lk w) (j : Nat) : w.frozen? ⟨hm, j, none⟩ = false := by
  obtain ⟨M, hl, hM⟩ := h.mks
  simp [World.frozen?, hM]
/-- Cells of its own block are written. -/
theorem HM.set (h : HM hb hm g X half next t lk w) : (∀ v : Int, HM hb hm g X half next t v (w.setCell ⟨hb, 0, none⟩ (.int .i32 v))) ∧ (∀ n : Nat, n ≤ 2 → HM hb hm g X half next n lk (w.setCell ⟨hb, 2, none⟩ (.int .i64 n))) ∧ (∀ n : Nat, HM hb hm g X half n t lk (w.setCell ⟨hb, 5, none⟩ (.int .i64 n))) := by
  obtain ⟨M, hl, hM⟩ := h.mks
  have hne := h.ne
  have hs := h.siz
  refine ⟨fun v => ⟨h.ne, by simp [World.setCell, Array.getElem?_modify, h.blk], ⟨M, hl, (Below.heap_setCell _ _ _ _ (by show hm ≠ hb; omega)).trans hM⟩, h.wds.on (Below.heap_setCell _ _ _ _ (by show g ≠ hb; omega)), h.siz⟩, fun n hn => ⟨h.ne, by simp [World.setCell, Array.getElem?_modify, h.blk], ⟨M, hl, (Below.heap_setCell _ _ _ _ (by show hm ≠ hb; omega)).trans hM⟩, h.wds.on (Below.heap_setCell _ _ _ _ (by show g ≠ hb; omega)), ⟨hs.1, hs.2.1, hs.2.2.1, hn⟩⟩, fun n => ⟨h.ne, by simp [World.setCell, Array.getElem?_modify, h.blk], ⟨M, hl, (Below.heap_setCell _ _ _ _ (by show hm ≠ hb; omega)).trans hM⟩, h.wds.on (Below.heap_setCell _ _ _ _ (by show g ≠ hb; omega)), h.siz⟩⟩
/-- A mark is written. -/
theorem HM.mark (h : HM hb hm g X half next t lk w) (j : Nat) (b : Bool) : HM hb hm g X half next t lk (w.setCell ⟨hm, j, none⟩ (.bool b)) := by
  obtain ⟨M, hl, hM⟩ := h.mks
  have hne := h.ne
  exact ⟨h.ne, (Below.heap_setCell _ _ _ _ (by show hb ≠ hm; omega)).trans h.blk, ⟨M.set j b, by rw [List.length_set]; exact hl, by simp [World.setCell, Array.getElem?_modify, hM, List.map_set]⟩, h.wds.on (Below.heap_setCell _ _ _ _ (by show g ≠ hm; omega)), h.siz⟩
theorem HM.marks (n : Nat) : ∀ (o : Nat) {w : World}, HM hb hm g X half next t lk w → HM hb hm g X half next t lk (w.setCells hm o (List.replicate n (.bool false))) := by
  induction n with
  | zero => intro o w h; exact h
  | succ n ih => intro o w h; exact ih (o + 1) (h.mark o false)
theorem OW.cells {g : Nat} (xs : List Int) (hx : ∀ x ∈ xs, InR x) : ∀ (o : Nat) {X : List Int} {w : World}, OW g X w → OW g (putW X o xs) (w.setCells g o (xs.map (Value.int .i64))) := by
  induction xs with
  | nil => intro o X w h; exact h
  | cons x xs ih => intro o X w h; exact ih (fun y hy => hx y (List.mem_cons_of_mem _ hy)) (o + 1) (h.set o (hx x (List.mem_cons_self ..)))
theorem cells_other (g : Nat) (vs : List Value) : ∀ (o : Nat) (w : World), (∀ k, k ≠ g → (w.setCells g o vs).heap[k]? = w.heap[k]?) := by
  induction vs with
  | nil => intro o w k _; rfl
  | cons v vs ih => intro o w k hk; exact (ih (o + 1) _ k hk).trans (Below.heap_setCell _ _ _ _ (by exact hk))
theorem cells_below {B g : Nat} (hB : B ≤ g) {a : World} (vs : List Value) : ∀ (o : Nat) (w : World), Below B a w → Below B a (w.setCells g o vs) := by
  induction vs with
  | nil => intro o w h; exact h
  | cons v vs ih => intro o w h; exact ih (o + 1) _ (h.setCell hB _)
end
/-- Where the half in use begins. -/
def bT (t half : Nat) : Nat := t % 2 * half

set_option maxHeartbeats 2000000 in
theorem hbase_is {hb hm g : Nat} {X : List Int} {half next t : Nat} {lk : Int} {w : World} (h : HM hb hm g X half next t lk w) :
    Calls Tryz.prog 47 #[.pointer (some ⟨hb, 0, none⟩)] w fun e w' => e = .returned (.int .i64 (bT t half)) ∧ ∃ n, w' = w.drewN n := by
  have hs := h.siz
  have c2 := h.c2
  have c4 := h.c4
  have c2n : ∀ n, (w.drewN n).cell? ⟨hb, 2, none⟩ = some (.int .i64 t) := fun n => h.c2
  have ht : t = 0 ∨ t = 1 ∨ t = 2 := by omega
  rcases ht with rfl | rfl | rfl
  · clear h
    go_enter Tryz.func47, Tryz.ntmps47
    go_wp2
    go_quiet ((go_at_call 82; exact Calls.quiet_of_same (lock.load_is (c2n _))))
    go_wp2
    go_ret
    exact ⟨ret_i (by unfold bT; first | rfl | omega | (simp; done) | (simp; omega)), ⟨_, rfl⟩⟩
  · clear h
    go_enter Tryz.func47, Tryz.ntmps47
    go_wp2
    go_quiet ((go_at_call 82; exact Calls.quiet_of_same (lock.load_is (c2n _))))
    go_wp2
    go_ret
    exact ⟨ret_i (by unfold bT; first | rfl | omega | (simp; done) | (simp; omega)), ⟨_, rfl⟩⟩
  · clear h
    go_enter Tryz.func47, Tryz.ntmps47
    go_wp2
    go_quiet ((go_at_call 82; exact Calls.quiet_of_same (lock.load_is (c2n _))))
    go_wp2
    go_ret
    exact ⟨ret_i (by unfold bT; first | rfl | omega | (simp; done) | (simp; omega)), ⟨_, rfl⟩⟩

theorem HM.drewN {hb hm g : Nat} {X : List Int} {half next t : Nat} {lk : Int} {w : World} (h : HM hb hm g X half next t lk w) (n : Nat) : HM hb hm g X half next t lk (w.drewN n) := h.other fun _ _ => rfl

set_option maxRecDepth 100000 in
set_option maxHeartbeats 4000000 in
theorem hinUse_is {hb hm g : Nat} {X : List Int} {half next t : Nat} {lk : Int} {w : World} (h : HM hb hm g X half next t lk w) :
    Calls Tryz.prog 45 #[.pointer (some ⟨hb, 0, none⟩)] w fun e w' => e = .returned (.slice (some ⟨g, bT t half, none⟩) half (X.length - bT t half)) ∧ ∃ n, w' = w.drewN n := by
  have hs := h.siz
  have hbt : bT t half ≤ half := by unfold bT; have : t % 2 = 0 ∨ t % 2 = 1 := by omega
                                    rcases this with e | e <;> rw [e] <;> omega
  have c3 := h.c3
  have c4 := h.c4
  have hcb : ∀ n, Calls Tryz.prog 47 #[.pointer (some ⟨hb, 0, none⟩)] (w.drewN n) fun e w' => e = .returned (.int .i64 (bT t half)) ∧ ∃ m, w' = (w.drewN n).drewN m := fun n => hbase_is (h.drewN n)
  obtain ⟨bs, hbs⟩ : ∃ bs, bs = bT t half := ⟨_, rfl⟩
  rw [← hbs] at hcb hbt ⊢
  obtain ⟨xl, hxl⟩ : ∃ xl, xl = X.length := ⟨_, rfl⟩
  rw [← hxl] at c3 hs ⊢
  have i1 : (bs : Int) + (half : Int) ≤ (xl : Int) := by omega
  have i2 : (0 : Int) ≤ (bs : Int) := by omega
  have i3 : (bs : Int) ≤ (bs : Int) + (half : Int) := by omega
  have i4 : IntKind.i64.wrap ((bs : Int) + (half : Int)) = (bs : Int) + (half : Int) := by rw [IntKind.wrap_i64]; omega
  have i5 : ((bs : Int) + (half : Int)).toNat - bs = half := by omega
  have i6 : (xl : Int) ≤ 6000 := by omega
  have i7 : bs < xl := by omega
  clear h hbs hxl hs
  go_enter Tryz.func45, Tryz.ntmps45
  go_wp2
  go_quiet ((go_at_call 47; exact Calls.quiet_of (hcb _)))
  go_wp2
  refine bodyPost_ret (v := .slice (some ⟨g, bs, none⟩) half (xl - bs)) (by simp [results, Tryz.f45, go_sem, i5]) rfl ?_
  exact ⟨rfl, ⟨_, rfl⟩⟩

set_option maxRecDepth 100000 in
set_option maxHeartbeats 4000000 in
theorem hkids_is {hb hm g : Nat} {W : List Int} {half next t : Nat} {lk : Int} {w : World} (h : HM hb hm g W half next t lk w) (p mn : Nat) (hmn : (manyF (W.getD p 0)).toNat = mn) (hp : p + mn < W.length) :
    Calls Tryz.prog 51 #[.pointer (some ⟨hb, 0, none⟩), .int .i64 p] w fun e w' =>
      (∃ o c, e = .returned (.slice (some ⟨g, o, none⟩) mn c) ∧ (mn = 0 ∨ o = p + 1) ∧ o + mn ≤ W.length) ∧ Below w.heap.size w w' := by
  have hw6 : W.length ≤ 6000 := by have := h.siz; omega
  have hlt := h.lt.1
  have hpl : p < W.length := by omega
  have hc := h.wds.cell hpl
  obtain ⟨r1, r2⟩ := h.wds.2 _ (List.getElem_mem hpl)
  have hgd := getD_atH hpl
  have c3 := h.c3
  obtain ⟨x, hx⟩ : ∃ x, x = W[p] := ⟨_, rfl⟩
  rw [← hx] at hc hgd r1 r2
  rw [hgd] at hmn
  have hm := many_in x
  have hmi : manyF x = (mn : Int) := by omega
  have hz : g < w.heap.size := h.wds.lt
  have cx := hc
  have PMW : Hid (p + mn < W.length) := hp
  have pI : (p : Int) < (W.length : Int) := by omega
  have pmI : (p : Int) + (1 + (mn : Int)) ≤ (W.length : Int) := by omega
  have hm63 : mn ≤ 63 := by omega
  have i0 : (0 : Int) ≤ (p : Int) := by omega
  have i1 : IntKind.i64.wrap ((p : Int) + 1) = (p : Int) + 1 := by rw [IntKind.wrap_i64]; omega
  have i2 : IntKind.i64.wrap ((p : Int) + (1 + (mn : Int))) = (p : Int) + (1 + (mn : Int)) := by rw [IntKind.wrap_i64]; omega
  have i3 : (0 : Int) ≤ (p : Int) + 1 := by omega
  have i4 : (p : Int) + 1 ≤ (p : Int) + (1 + (mn : Int)) := by omega
  have K0 : Hid (Below w.heap.size w w) := Below.refl _ _
  have c3n : w.drew.cell? ⟨hb, 3, none⟩ = some (.slice (some ⟨g, 0, none⟩) W.length W.length) := c3
  have cxn : w.drew.cell? ⟨g, p, none⟩ = some (.int .i64 x) := cx
  clear h hc hmn hx hgd hm
  go_enter Tryz.func51, Tryz.ntmps51
  go_wp2
  go_region_held3 (fun X => X.cell? ⟨hb, 3, none⟩ = some (.slice (some ⟨g, 0, none⟩) W.length W.length) ∧ X.cell? ⟨g, p, none⟩ = some (.int .i64 x))
    (exact ⟨(by first | with_reducible exact c3 | with_reducible exact c3n), (by first | with_reducible exact cx | with_reducible exact cxn)⟩)
    (first
      | (go_at_call 48; refine (headerOf_is x _ r1 r2).mono ?_; rintro e w1 ⟨rfl, hB⟩; have K1 : Hid (Below w.heap.size w w1) := K0.out.drew.trans hB; replace c3 : w1.cell? ⟨hb, 3, none⟩ = some (.slice (some ⟨g, 0, none⟩) W.length W.length) := (hB.cell (p := ⟨hb, 3, none⟩) hlt).trans c3; replace cx : w1.cell? ⟨g, p, none⟩ = some (.int .i64 x) := (hB.cell (p := ⟨g, p, none⟩) hz).trans cx; have hz1 : w.heap.size ≤ w1.heap.size := hB.size; clear hB)
      | (go_at_call 49; refine (hdrSize_is _ _ _ _ (by omega) (by omega)).mono ?_; rintro e w2 ⟨rfl, hB⟩; have K2 : Hid (Below w.heap.size w w2) := K1.out.trans (hB.mono hz1); replace c3 : w2.cell? ⟨hb, 3, none⟩ = some (.slice (some ⟨g, 0, none⟩) W.length W.length) := (hB.cell (p := ⟨hb, 3, none⟩) (Nat.lt_of_lt_of_le hlt hz1)).trans c3; replace cx : w2.cell? ⟨g, p, none⟩ = some (.int .i64 x) := (hB.cell (p := ⟨g, p, none⟩) (Nat.lt_of_lt_of_le hz hz1)).trans cx; clear hB))
  go_wp2
  · obtain rfl : mn = 0 := by omega
    have hP := PMW.out
    refine bodyPost_ret (v := .slice (some ⟨g, 0, none⟩) 0 (W.length - (p + 1))) (by simp [results, Tryz.f51, go_sem]; omega) rfl ?_
    first | exact ⟨⟨0, ⟨_, rfl⟩, .inl rfl, by omega⟩, K2.out⟩ | exact ⟨⟨0, _, rfl, .inl rfl, by omega⟩, K2.out⟩
  · have hln : ((p : Int) + (1 + (mn : Int))).toNat - (p + 1) = mn := by omega
    have hP := PMW.out
    refine bodyPost_ret (v := .slice (some ⟨g, p + 1, none⟩) mn (W.length - (p + 1))) (by simp [results, Tryz.f51, go_sem, hln]) rfl ?_
    first | exact ⟨⟨p + 1, ⟨_, rfl⟩, .inr rfl, by omega⟩, K2.out⟩ | exact ⟨⟨p + 1, _, rfl, .inr rfl, by omega⟩, K2.out⟩

end Go.Proofs.YthpdkjenadngoaaGreatDoor.heap
