/-
  Words are copied (copiedWords): into a block of the call's own.
  The program turns words (metBlocks.turn): each place of a block into where the block stands now.
-/
import Derived.Laws.MakeOwn
import Derived.Test.YtojhldciehfhfaaB1
import Derived.Test.YtojhldciehfhfaaB2
import Derived.Test.YtojhldciehfhfaaB3
import Derived.Test.YtojhldciehfhfaaB4
import Derived.Test.YtojhldciehfhfaaB5
import Derived.Test.YtojhldciehfhfaaB6
import Derived.Test.YtojhldciehfhfaaB7
import Derived.Test.YtojhldciehfhfaaB8
import Derived.Test.YtojhldciehfhfaaB9
import Derived.Test.YtojhldciehfhfaaB10
import Derived.Test.YtojhldciehfhfaaB11
import Derived.Test.YtojhldciehfhfaaB12
import Derived.Test.YtojhldciehfhfaaB13
import Derived.Test.YtojhldciehfhfaaB14
import Derived.Test.YtojhldciehfhfaaB15
import Derived.Test.YtojhldciehfhfaaB16
import Derived.Test.YtojhldciehfhfaaB17
import Derived.Test.YtojhldciehfhfaaB18
import Derived.Test.YtojhldciehfhfaaB19
import Derived.Test.YtojhldciehfhfaaB20
namespace Go.Proofs.Ytojhldciehfhfaa.heap
open Go Go.RowKit Go.Deep Go.Proofs.Ytojhldciehfhfaa.rose Go.Proofs.Ytojhldciehfhfaa Go.Proofs.Ytojhldciehfhfaa.fun Go.Proofs.Ytojhldciehfhfaa.words Go.Proofs.Ytojhldciehfhfaa.ints
set_option linter.unusedVariables false
set_option linter.unusedSimpArgs false

/-- A block that holds words and nothing else. -/
def OW (g : Nat) (X : List Int) (w : World) : Prop := w.heap[g]? = some (.cells (X.map (Value.int .i64)).toArray 3) ∧ ∀ x ∈ X, InR x
theorem OW.lt {g : Nat} {X : List Int} {w : World} (h : OW g X w) : g < w.heap.size := (Array.getElem?_eq_some_iff.1 h.1).1
theorem OW.on {g : Nat} {X : List Int} {w w' : World} (h : OW g X w) (e : w'.heap[g]? = w.heap[g]?) : OW g X w' := ⟨e.trans h.1, h.2⟩
theorem OW.cell {g : Nat} {X : List Int} {w : World} (h : OW g X w) {j : Nat} (hj : j < X.length) : w.cell? ⟨g, j, none⟩ = some (.int .i64 X[j]) := by
  simp [World.cell?, h.1, hj]
theorem OW.frz {g : Nat} {X : List Int} {w : World} (h : OW g X w) (j : Nat) : w.frozen? ⟨g, j, none⟩ = false := by simp [World.frozen?, h.1]
theorem OW.set {g : Nat} {X : List Int} {w : World} (h : OW g X w) (j : Nat) {x : Int} (hx : InR x) : OW g (X.set j x) (w.setCell ⟨g, j, none⟩ (.int .i64 x)) := by
  refine ⟨?_, fun y hy => ?_⟩
  · simp [World.setCell, Array.getElem?_modify, h.1, List.map_set]
  · rcases List.mem_or_eq_of_mem_set hy with q | rfl
    · exact h.2 y q
    · exact hx
theorem OW.wb {g : Nat} {X : List Int} {w : World} (h : OW g X w) (hl : X.length ≤ maxLen) : WB g X.length X [] w := ⟨by rw [List.append_nil]; exact h.1, ⟨by simp, hl⟩, h.2⟩

theorem info_intC : (Try.prog.info? 3).map (fun i => (i.zero, i.size, i.bytes)) = some (some (.int .i64 0), 1, 8) := by kernel_rfl
theorem make_words (n : Nat) (h : n ≤ 1048576) (w : World) : (Instr.makeSlice 22 (.int .i64 (n : Int)) (.int .i64 (n : Int))).run Try.prog w = .ok (.slice (some ⟨w.heap.size, 0, none⟩) n n)
    (w.alloc (.cells (List.replicate n (Value.int .i64 0)).toArray 3)) := by
  obtain ⟨i, hi, hzz⟩ := Option.map_eq_some_iff.1 info_intC
  simp only [Prod.mk.injEq] at hzz
  obtain ⟨hz, hs, hb⟩ := hzz
  have := run_make (P := Try.prog) w 22 3 i _ Try.underlying22 hi hz .i64 .i64 n n (by omega) (by omega) (by rw [hb]; omega) (by omega)
  have e : madeCells #[Value.int .i64 0] (n * 1) = (List.replicate n (Value.int .i64 0)).toArray := by
    apply Array.ext
    · simp [madeCells]
    · intro j h1 h2; simp [madeCells, Nat.mod_one]
  rw [← e]
  simpa [hs, Value.cells] using this
theorem splice_all {α : Type} {A k : List α} (h : k.length = A.length) : Go.splice A 0 k = k := by
  unfold Go.splice
  rw [List.take_zero, Nat.zero_add, List.drop_eq_nil_of_le (by omega)]
  simp

set_option maxRecDepth 100000 in
set_option maxHeartbeats 4000000 in
theorem copied_is {S : Nat → Prop} (xs : List Int) (a : Option Addr) (c : Nat) (w : World) (h : intsSh.rep w S [.slice a xs.length c] xs) (hS : ∀ b, S b → b < w.heap.size) (hl : xs.length ≤ 1048576) :
    Calls Try.prog 19 #[.slice a xs.length c] w fun e w' => e = .returned (.slice (some ⟨w.heap.size, 0, none⟩) xs.length xs.length) ∧ OW w.heap.size xs w' ∧ Below w.heap.size w w' := by
  have hmk := make_words xs.length hl w
  obtain ⟨a0, c0, e, -, -, hat⟩ := ints_open h
  cases e
  have RNG : Hid (∀ y ∈ xs, InR y) := fun y hy => by
    obtain ⟨j, hj, rfl⟩ := List.getElem_of_mem hy
    obtain ⟨_, _, _, _, _, r1, r2⟩ := hat j hj
    exact ⟨r1, r2⟩
  have B0 : Hid (Below w.heap.size w (w.alloc (.cells (List.replicate xs.length (Value.int .i64 0)).toArray 3))) := (Below.refl _ _).alloc (Nat.le_refl _) _
  have HSRC : Hid (0 < (xs.map (Value.int .i64)).length → ∃ ad, a = some ad ∧ ∀ j v, (xs.map (Value.int .i64))[j]? = some v → (w.alloc (.cells (List.replicate xs.length (Value.int .i64 0)).toArray 3)).cell? (ad.add j) = some v) := fun h0 => by
    rw [List.length_map] at h0
    obtain ⟨b, o, rfl, -⟩ := hat 0 h0
    refine ⟨_, rfl, fun j v hj => ?_⟩
    rw [List.getElem?_map] at hj
    obtain ⟨y, hy, rfl⟩ := Option.map_eq_some_iff.1 hj
    obtain ⟨hq, rfl⟩ := List.getElem?_eq_some_iff.1 hy
    obtain ⟨b', o', e, hS', hc, -, -⟩ := hat j hq
    cases e
    rw [add_plain]
    exact (B0.out.cell (p := ⟨b, o + j, none⟩) (hS b hS')).trans hc
  have T0 : Hid ((w.alloc (.cells (List.replicate xs.length (Value.int .i64 0)).toArray 3)).heap[w.heap.size]? = some (.cells (List.replicate xs.length (Value.int .i64 0)).toArray 3 (0, 0))) := alloc_top _ _
  clear h hat hS
  go_enter Try.func19, Try.ntmps19
  go_wp2_with (refine copy_exact rfl (.tmp 7) (.tmp 8) 22 22 rfl 3 Try.underlying22 sizeP_int _ _ _ _ _ _ (by rfl) (by rfl) w.heap.size 0 (List.replicate xs.length (Value.int .i64 0)) 3 T0.out (xs.map (Value.int .i64)) (by rw [List.length_map]; exact (Nat.min_self _).symm) (fun h0 => ⟨rfl, HSRC.out h0⟩) (by simp) (fun v hv => by obtain ⟨y, _, rfl⟩ := List.mem_map.1 hv; rfl) ?_; intro w8 HB8 HO8 HE8)
  rw [splice_all (by simp)] at HB8
  have R8 : Hid (OW w.heap.size xs w8 ∧ Below w.heap.size w w8) := ⟨⟨HB8.out, RNG.out⟩, B0.out.trans HE8.out⟩
  clear HB8 HO8 HE8
  go_wp2
  go_ret
  exact ⟨rfl, R8.out.1, R8.out.2⟩

end Go.Proofs.Ytojhldciehfhfaa.heap

namespace Go.Proofs.Ytojhldciehfhfaa.heap
open Go Go.RowKit Go.Deep Go.Proofs.Ytojhldciehfhfaa.rose Go.Proofs.Ytojhldciehfhfaa Go.Proofs.Ytojhldciehfhfaa.fun Go.Proofs.Ytojhldciehfhfaa.words Go.Proofs.Ytojhldciehfhfaa.ints
set_option linter.unusedVariables false
set_option linter.unusedSimpArgs false

theorem refWord_at (n : Nat) (w : World) (h : n ≤ 6000) : Calls Try.prog 58 #[.int .i64 n] w fun e w' => e = .returned (.int .i64 (2 * (n : Int))) ∧ w' = w := by
  have t1 : decide ((n : Int) < 0) = false := decide_eq_false (by omega)
  have t2 : decide ((6000 : Int) < (n : Int)) = false := decide_eq_false (by omega)
  go_enter Try.func58, Try.ntmps58
  go_wp2
  go_ret
  exact ⟨rfl, rfl⟩

/-- So many words from o on are turned. -/
def turnsX (f : Int → Int) (X : List Int) (o : Nat) : Nat → List Int
  | 0 => X
  | i + 1 => (turnsX f X o i).set (o + i) (f (X.getD (o + i) 0))
theorem turnsX_len (f : Int → Int) (X : List Int) (o i : Nat) : (turnsX f X o i).length = X.length := by
  induction i with
  | zero => rfl
  | succ i ih => rw [turnsX, List.length_set, ih]
theorem turnsX_get {f : Int → Int} {X : List Int} {o : Nat} : ∀ {i j : Nat}, o + i ≤ X.length → (turnsX f X o i).getD j 0 = if o ≤ j ∧ j < o + i then f (X.getD j 0) else X.getD j 0 := by
  intro i
  induction i with
  | zero => intro j _; rw [turnsX, if_neg (by omega)]
  | succ i ih =>
    intro j h
    rw [turnsX]
    by_cases e : j = o + i
    · subst e
      rw [if_pos (by omega), List.getD_eq_getElem?_getD, List.getElem?_set_self (by rw [turnsX_len]; omega)]
      rfl
    · rw [List.getD_eq_getElem?_getD, List.getElem?_set_ne (by omega), ← List.getD_eq_getElem?_getD, ih (by omega)]
      by_cases h1 : o ≤ j ∧ j < o + i
      · rw [if_pos h1, if_pos (by omega)]
      · rw [if_neg h1, if_neg (by omega)]
theorem turnsX_all (f : Int → Int) (X : List Int) : turnsX f X 0 X.length = X.map f := by
  apply List.ext_getElem
  · rw [turnsX_len, List.length_map]
  · intro i h1 h2
    have hi : i < X.length := by rw [turnsX_len] at h1; exact h1
    have := turnsX_get (f := f) (X := X) (o := 0) (i := X.length) (j := i) (by omega)
    rw [if_pos (by omega), List.getD_eq_getElem?_getD, List.getElem?_eq_getElem h1, List.getD_eq_getElem?_getD, List.getElem?_eq_getElem hi] at this
    simpa using this
/-- Where a word's block stands now. -/
def turnM (O Mv : List Int) (x : Int) : Int := if x % 2 = 0 then 2 * Mv.getD (O.idxOf (x / 2)) 0 else x

set_option maxRecDepth 100000 in
set_option maxHeartbeats 8000000 in
theorem turn_is {B2 nb g : Nat} {v vm : Value} {base half : Nat} {O Mv X : List Int} {w : World} (h : Met B2 nb v base half O w) (hX : OW g X w) (hnb : nb ≠ g) (hM : IRow w 0 vm Mv) (hvm : vm.ownBlock ≠ some g) (hml : Mv.length = O.length) (hmr : ∀ x ∈ Mv, 0 ≤ x ∧ x ≤ 6000) (o n c : Nat) (hn : o + n ≤ X.length) (hXl : X.length ≤ 1048576) (hx : ∀ j, j < n → (X.getD (o + j) 0) % 2 = 0 → (X.getD (o + j) 0) / 2 ∈ O) :
    Calls Try.prog 37 #[.agg #[.int .i64 base, v, .slice (some ⟨nb, 0, none⟩) half half], .slice (some ⟨g, o, none⟩) n c, vm] w fun e w' => e = .returned (.tuple #[]) ∧ OW g (turnsX (turnM O Mv) X o n) w' ∧ (∀ k, k < w.heap.size → k ≠ g → w'.heap[k]? = w.heap[k]?) ∧ Below g w w' := by
  obtain ⟨av, cv, hvv⟩ := own_form h.plc.1
  subst hvv
  obtain ⟨am, cm, hvm2⟩ := own_form hM.1
  subst hvm2
  have T0 := alloc_top w (.cells #[.int .i64 base, .slice av O.length cv, .slice (some ⟨nb, 0, none⟩) half half] 40)
  have K0 : Below w.heap.size w (w.alloc (.cells #[.int .i64 base, .slice av O.length cv, .slice (some ⟨nb, 0, none⟩) half half] 40)) := (Below.refl _ _).alloc (Nat.le_refl _) _
  have hgl : g < w.heap.size := hX.lt
  have HSZ : Hid _ := h.siz
  have X0 : Hid (OW g (turnsX (turnM O Mv) X o 0) (w.alloc (.cells #[.int .i64 base, .slice av O.length cv, .slice (some ⟨nb, 0, none⟩) half half] 40))) := hX.on (K0.block g hgl)
  have Y0 : Hid ((∀ k, k < w.heap.size → k ≠ g → (w.alloc (.cells #[.int .i64 base, .slice av O.length cv, .slice (some ⟨nb, 0, none⟩) half half] 40)).heap[k]? = w.heap[k]?) ∧ Below g w (w.alloc (.cells #[.int .i64 base, .slice av O.length cv, .slice (some ⟨nb, 0, none⟩) half half] 40)) ∧ (w.alloc (.cells #[.int .i64 base, .slice av O.length cv, .slice (some ⟨nb, 0, none⟩) half half] 40)).heap[w.heap.size]? = some (.cells #[.int .i64 base, .slice av O.length cv, .slice (some ⟨nb, 0, none⟩) half half] 40)) := ⟨fun k hk _ => K0.block k hk, K0.mono (Nat.le_of_lt hgl), T0⟩
  have HME : Hid (Met B2 nb (.slice av O.length cv) base half O w ∧ IRow w 0 (.slice am Mv.length cm) Mv ∧ (Value.slice am Mv.length cm).ownBlock ≠ some g ∧ nb ≠ g) := ⟨h, hM, hvm, hnb⟩
  have HXR : Hid (∀ x ∈ X, InR x) := hX.2
  have HMR : Hid (Mv.length = O.length ∧ ∀ x ∈ Mv, 0 ≤ x ∧ x ≤ 6000) := ⟨hml, hmr⟩
  have HX : Hid (∀ j, j < n → (X.getD (o + j) 0) % 2 = 0 → (X.getD (o + j) 0) / 2 ∈ O) := hx
  have HN : Hid (o + n ≤ X.length) := hn
  have hn20 : n ≤ 1048576 ∧ o ≤ 1048576 := by omega
  clear h hX hM hvm hml hmr hx T0 K0 hn hXl hnb
  go_enter Try.func37, Try.ntmps37
  go_wp2
  go_loopw [10] (fun v10 wr => ∃ i : Nat, i ≤ n ∧ v10 = .int .i64 i ∧ Hid (OW g (turnsX (turnM O Mv) X o i) wr) ∧ Hid ((∀ k, k < w.heap.size → k ≠ g → wr.heap[k]? = w.heap[k]?) ∧ Below g w wr ∧ wr.heap[w.heap.size]? = some (.cells #[.int .i64 base, .slice av O.length cv, .slice (some ⟨nb, 0, none⟩) half half] 40))) (fun v10 _ => n - (intOf v10).toNat)
  case atStart => exact ⟨0, Nat.zero_le _, rfl, X0, Y0⟩
  case round =>
    obtain ⟨i, hi, rfl, HW, HY⟩ := hrel
    by_cases hlt : i < n
    · have hlen : o + i < (turnsX (turnM O Mv) X o i).length := by rw [turnsX_len]; have := HN.out; omega
      have hc0 := HW.out.cell hlen
      have hgx : (turnsX (turnM O Mv) X o i)[o + i] = X.getD (o + i) 0 := by
        have := turnsX_get (f := turnM O Mv) (X := X) (o := o) (i := i) (j := o + i) (by have := HN.out; omega)
        rw [if_neg (by omega)] at this
        rw [← this, List.getD_eq_getElem?_getD, List.getElem?_eq_getElem hlen]; rfl
      rw [hgx] at hc0
      have hxi := HX.out i hlt
      have hrr : InR (X.getD (o + i) 0) := by
        have := HN.out
        rw [List.getD_eq_getElem?_getD, List.getElem?_eq_getElem (by omega : o + i < X.length)]
        exact HXR.out _ (List.getElem_mem _)
      obtain ⟨x, hxx⟩ : ∃ x, x = X.getD (o + i) 0 := ⟨_, rfl⟩
      have HNX : Hid (turnsX (turnM O Mv) X o (i + 1) = (turnsX (turnM O Mv) X o i).set (o + i) (turnM O Mv x)) := by show _ = _; rw [turnsX, hxx]
      rw [← hxx] at hc0 hxi hrr
      obtain ⟨r1, r2⟩ := hrr
      have HC0 : Hid (wr.cell? ⟨g, o + i, none⟩ = some (.int .i64 x)) := hc0
      have iI : (i : Int) < (n : Int) := by omega
      have i0 : (0 : Int) ≤ (i : Int) := by omega
      clear hgx hxx hlen
      rcases q1 : decide (x % 2 = 0) with _ | _
      · have hq1 := of_decide_eq_false q1
        have HN1 : Hid (OW g (turnsX (turnM O Mv) X o (i + 1)) wr) := by
          show OW _ _ _
          have e : turnM O Mv x = x := by unfold turnM; rw [if_neg hq1]
          rw [HNX.out, e]
          have := HW.out
          have hl2 : o + i < (turnsX (turnM O Mv) X o i).length := by rw [turnsX_len]; have := HN.out; omega
          have e2 : (turnsX (turnM O Mv) X o i).set (o + i) x = turnsX (turnM O Mv) X o i := by
            have h1 := this.cell hl2
            rw [HC0.out] at h1
            simp only [Option.some.injEq, Value.int.injEq, true_and] at h1
            rw [h1, List.set_getElem_self]
          rw [e2]; exact this
        clear hxi
        go_wp2_with (go_at_call 57; refine (isRef_b q1 _ r1 r2).mono ?_; rintro e w' ⟨rfl, hx⟩; subst w')
        go_round
        case rel => exact ⟨i + 1, by omega, by go_num, HN1, HY⟩
        case measure => simp [intOf]; omega
      · have hq1 := of_decide_eq_true q1
        have hmem := hxi hq1
        have hran := HSZ.out.2.2.2 _ hmem
        obtain ⟨j, hj⟩ : ∃ j : Nat, x / 2 = ((base + j : Nat) : Int) := ⟨(x / 2 - base).toNat, by omega⟩
        have hjh : j < half := by omega
        have hil := List.idxOf_lt_length_iff.2 hmem
        have hno : numO base O j = ((O.idxOf (x / 2) : Nat) : Int) := by unfold numO; rw [if_pos (by rw [← hj]; exact hmem), ← hj]
        have hnb2 : nb < w.heap.size := HME.out.1.lt
        have HWG : Hid (∀ k, k < w.heap.size → k ≠ g → wr.heap[k]? = w.heap[k]?) := HY.out.1
        have NR : Met B2 nb (.slice av O.length cv) base half O wr ∨ True := .inr trivial
        have hnc : wr.cell? ⟨nb, j, none⟩ = some (.int .i64 (numO base O j)) := by
          have := HME.out.1.nc hjh
          rw [← this]
          simp only [World.cell?, HWG.out nb hnb2 HME.out.2.2.2]
        have hwrl : w.heap.size < wr.heap.size := (Array.getElem?_eq_some_iff.1 HY.out.2.2).1
        have k0 : wr.cell? ⟨w.heap.size, 0, none⟩ = some (.int .i64 base) := blk_cellH (i := 0) HY.out.2.2 rfl
        have k1 : wr.cell? ⟨w.heap.size, 1, none⟩ = some (.slice av O.length cv) := blk_cellH (i := 1) HY.out.2.2 rfl
        have k2 : wr.cell? ⟨w.heap.size, 2, none⟩ = some (.slice (some ⟨nb, 0, none⟩) half half) := blk_cellH (i := 2) HY.out.2.2 rfl
        have hnum := number_is base (.slice av O.length cv) nb half j x (numO base O j) wr hj hjh ⟨HSZ.out.1, HSZ.out.2.1⟩ r1 r2 hnc (by omega)
        rw [hno] at hnum
        obtain ⟨ix, hix⟩ : ∃ ix : Nat, ix = O.idxOf (x / 2) := ⟨_, rfl⟩
        rw [← hix] at hnum hil
        have hixm : ix < Mv.length := by rw [HMR.out.1]; exact hil
        rcases HME.out.2.1.open with ⟨-, h0⟩ | ⟨gm, cpm, hvv, -, hgm, -, -, hcl, -⟩
        · rw [h0] at hixm; cases hixm
        obtain ⟨rfl, rfl⟩ : am = some ⟨gm, 0, none⟩ ∧ cm = cpm := by simp only [Value.slice.injEq] at hvv; exact ⟨hvv.1, hvv.2.2⟩
        have hgmg : gm ≠ g := fun e => HME.out.2.2.1 (by rw [e]; rfl)
        have hmx := HMR.out.2 Mv[ix] (List.getElem_mem hixm)
        obtain ⟨mz, hmz⟩ : ∃ mz : Nat, Mv[ix] = mz := ⟨(Mv[ix]).toNat, by omega⟩
        have hmz6 : mz ≤ 6000 := by omega
        have hmc : wr.cell? ⟨gm, ix, none⟩ = some (.int .i64 mz) := by
          have := hcl ix hixm
          rw [hmz] at this
          rw [← this]
          simp only [World.cell?, HWG.out gm hgm hgmg]
        have hgmw : gm < wr.heap.size := by omega
        have HTM : Hid (turnM O Mv x = 2 * (mz : Int)) := by
          show _ = _; unfold turnM; rw [if_pos hq1, ← hix, List.getD_eq_getElem?_getD, List.getElem?_eq_getElem hixm]
          show 2 * Mv[ix] = _
          rw [hmz]
        have HGG : Hid (gm ≠ g ∧ nb ≠ g ∧ g < w.heap.size) := ⟨hgmg, HME.out.2.2.2, hgl⟩
        have HGL : g < wr.heap.size := HW.out.lt
        have ixI : (ix : Int) < (Mv.length : Int) := by omega
        have ix0 : (0 : Int) ≤ (ix : Int) := by omega
        clear hno hix hcl hvv hxi hmem hran hj hil hmz hmx NR hnc hnb2
        go_wp2_with (go_at_call 57; refine (isRef_b q1 _ r1 r2).mono ?_; rintro e w' ⟨rfl, hx⟩; subst w')
        refine hnum.mono ?_
        rintro e w1 ⟨rfl, hb1⟩
        have mc1 : w1.cell? ⟨gm, ix, none⟩ = some (.int .i64 mz) := (hb1.cell (p := ⟨gm, ix, none⟩) hgmw).trans hmc
        have W1 : Hid (OW g (turnsX (turnM O Mv) X o i) w1) := HW.out.on (hb1.block g HGL)
        have hl2 : o + i < (turnsX (turnM O Mv) X o i).length := by rw [turnsX_len]; have := HN.out; omega
        have wc1 := W1.out.cell hl2
        have wf1 := W1.out.frz (o + i)
        have Y1 : Hid ((∀ k, k < w.heap.size → k ≠ g → w1.heap[k]? = w.heap[k]?) ∧ Below g w w1 ∧ w1.heap[w.heap.size]? = some (.cells #[.int .i64 base, .slice av O.length cv, .slice (some ⟨nb, 0, none⟩) half half] 40)) := ⟨fun k hk hne => (hb1.block k (by omega)).trans (HY.out.1 k hk hne), HY.out.2.1.trans (hb1.mono (by omega)), (hb1.block _ hwrl).trans HY.out.2.2⟩
        generalize (turnsX (turnM O Mv) X o i)[o + i] = ow at wc1
        clear hnum hb1 hmc k0 k1 k2 hl2
        go_wp2_with (go_at_call 58; refine (refWord_at mz _ hmz6).mono ?_; rintro e w' ⟨rfl, hx⟩; subst w')
        have W2 : Hid (OW g (turnsX (turnM O Mv) X o (i + 1)) (w1.setCell ⟨g, o + i, none⟩ (.int .i64 (2 * (mz : Int))))) := by
          show OW _ _ _
          rw [HNX.out, HTM.out]
          exact W1.out.set _ (by unfold InR; omega)
        have Y2 : Hid ((∀ k, k < w.heap.size → k ≠ g → (w1.setCell ⟨g, o + i, none⟩ (.int .i64 (2 * (mz : Int)))).heap[k]? = w.heap[k]?) ∧ Below g w (w1.setCell ⟨g, o + i, none⟩ (.int .i64 (2 * (mz : Int)))) ∧ (w1.setCell ⟨g, o + i, none⟩ (.int .i64 (2 * (mz : Int)))).heap[w.heap.size]? = some (.cells #[.int .i64 base, .slice av O.length cv, .slice (some ⟨nb, 0, none⟩) half half] 40)) := ⟨fun k hk hne => (Below.heap_setCell _ _ _ _ (by exact hne)).trans (Y1.out.1 k hk hne), Y1.out.2.1.setCell (Nat.le_refl _) _, (Below.heap_setCell _ _ _ _ (by have := HGG.out; show w.heap.size ≠ g; omega)).trans Y1.out.2.2⟩
        clear wc1 wf1 mc1
        generalize w1.setCell ⟨g, o + i, none⟩ (.int .i64 (2 * (mz : Int))) = w2 at *
        go_round
        case rel => exact ⟨i + 1, by omega, by go_num, W2, Y2⟩
        case measure => simp [intOf]; omega
    · obtain rfl : i = n := by omega
      go_wp2
      ((try simp only [Exit.inBlock, Exit.then]); (first | refine bodyPost_ret (results_none rfl _ _ _) rfl ?_ | refine bodyPost_end (results_none rfl _ _ _) rfl ?_))
      exact ⟨by first | rfl | trivial, HW.out, HY.out.1, HY.out.2.1⟩

end Go.Proofs.Ytojhldciehfhfaa.heap
