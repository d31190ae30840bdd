/-
  Whether a number lies between two; no program named.
  The program's isBelow; nothing is turned.
  The program's table of names of ops (chapter 13): what it holds, how it stays, and nameOf, isNone.
  From the row's list of variables to what the program's table of names holds.
-/
import Derived.RowKit
import Derived.Test.YtjibmpebebephaaGreatDoorChecked
import Derived.WalkKit
import Derived.WalkLawsBesides
import Derived.Lib.LaidTab
import Derived.Lib.AppendIntMem
import Derived.Below
import Derived.DeepKeys
import Derived.Deep.QuietTactic
import Derived.BigQuiet
import Derived.OpenShut
namespace Go.Proofs.YtjibmpebebephaaGreatDoor.fun
open Go.RowKit
set_option linter.unusedVariables false

/-- Whether a number lies between two. -/
def inB (n lo hi : Int) : Bool := decide (lo ≤ n) && decide (n ≤ hi)
theorem inB_yes {n lo hi : Int} (h : inB n lo hi = true) : lo ≤ n ∧ n ≤ hi := by
  unfold inB at h; simpa using h
theorem inB_no {n lo hi : Int} (h : inB n lo hi = false) : n < lo ∨ hi < n := by
  unfold inB at h
  by_cases h1 : lo ≤ n
  · right; simp [h1] at h; exact h
  · left; omega

end Go.Proofs.YtjibmpebebephaaGreatDoor.fun

namespace Go.Proofs.YtjibmpebebephaaGreatDoor.fun
open Go.RowKit Go.Proofs.YtjibmpebebephaaGreatDoor
set_option linter.unusedVariables false
set_option linter.unusedSimpArgs false

theorem ret_boolI {a b : Bool} (h : a = b) : Ending.returned (.bool a) = Ending.returned (.bool b) := by rw [h]

set_option maxHeartbeats 1000000 in
theorem bel_is {n e f : Int} {b : Bool} {w : World} (h : inB n 0 f = b) (he : e = f + 1) :
    Calls Tryz.prog 33 #[.int .i64 n, .int .i64 e] w fun e w' => e = .returned (.bool b) ∧ w' = w := by
  subst he
  by_cases h1 : 0 ≤ n
  · have h6 : decide (0 ≤ n) = true := decide_eq_true h1
    rcases h4 : decide (n < f + 1) with _ | _
    · have h5 : decide (n ≤ f) = false := decide_eq_false (by have := of_decide_eq_false h4; omega)
      have h7 : inB n 0 f = false := by simp only [inB, h5, Bool.and_false]
      obtain rfl : b = false := by rw [← h, h7]
      go_enter Tryz.func33, Tryz.ntmps33
      go_wp2
      go_ret
      exact ⟨ret_boolI (by first | rfl | exact h4), rfl⟩
    · have h5 : decide (n ≤ f) = true := decide_eq_true (by have := of_decide_eq_true h4; omega)
      have h7 : inB n 0 f = true := by simp only [inB, h5, h6, Bool.and_true]
      obtain rfl : b = true := by rw [← h, h7]
      go_enter Tryz.func33, Tryz.ntmps33
      go_wp2
      go_ret
      exact ⟨ret_boolI (by first | rfl | exact h4), rfl⟩
  · have h2 : decide (0 ≤ n) = false := decide_eq_false h1
    go_enter Tryz.func33, Tryz.ntmps33
    go_wp2
    go_ret
    exact ⟨ret_boolI (by rw [← h]; simp only [inB, h2, Bool.false_and]), rfl⟩

end Go.Proofs.YtjibmpebebephaaGreatDoor.fun

namespace Go.Proofs.YtjibmpebebephaaGreatDoor.fun
open Go.RowKit Go.Proofs.YtjibmpebebephaaGreatDoor
set_option linter.unusedVariables false
set_option maxRecDepth 100000
set_option linter.unusedSimpArgs false

/-- The rows of the table. -/
def nmT : List (List Int) := [[0, 0, 0, 0, 0], [110, 117, 109, 0, 0], [108, 111, 99, 97, 108], [102, 114, 101, 101, 0], [115, 101, 108, 102, 0], [99, 108, 111, 115, 0], [99, 97, 108, 108, 0], [114, 101, 116, 0, 0], [99, 111, 110, 0, 0], [102, 105, 101, 108, 100], [105, 115, 99, 111, 110], [105, 115, 110, 117, 109], [97, 100, 100, 0, 0], [115, 117, 98, 0, 0], [109, 117, 108, 0, 0], [108, 101, 115, 115, 0], [115, 97, 109, 101, 0], [112, 117, 116, 0, 0], [122, 101, 114, 111, 0], [106, 117, 109, 112, 0], [115, 108, 105, 100, 101], [102, 97, 105, 108, 0]]
def nm (i r : Nat) : Int := ((nmT[i]?).getD [])[r]?.getD 0
theorem gNames : Tryz.prog.globalNamed "loop.example/g00323/impl.opNames" = some 0 := by kernel_rfl
/-- What the table holds. -/
def Names (w : World) : Prop := ∀ i r, i < 22 → r < 5 → w.cell? ⟨0, i * 5 + r, none⟩ = some (.int .u8 (nm i r))
theorem Names.on {w w' : World} (h : Names w) (hb : Below w.heap.size w w') : Names w' := by
  intro i r hi hr
  have h1 := h i r hi hr
  have hlt : 0 < w.heap.size := by
    have h2 := h 0 0 (by omega) (by omega)
    by_cases hq : 0 < w.heap.size
    · exact hq
    · have : w.heap[0]? = none := Array.getElem?_eq_none (by omega)
      simp [World.cell?, this] at h2
  exact (hb.cell (p := ⟨0, i * 5 + r, none⟩) hlt).trans h1

/-- A name in memory. -/
def nameV (i : Nat) : Value := .agg #[.int .u8 (nm i 0), .int .u8 (nm i 1), .int .u8 (nm i 2), .int .u8 (nm i 3), .int .u8 (nm i 4)]
/-- The row of a code: the first one is none's. -/
def rowOf (c : Int) : Nat := if inB c 0 21 = true then c.toNat else 0

set_option maxRecDepth 100000 in
set_option maxHeartbeats 2000000 in
theorem nameOf_any (c : Int) (w : World) (h : Names w) : Calls Tryz.prog 80 #[.int .i64 c] w fun e w' => e = .returned (nameV (rowOf c)) ∧ Below w.heap.size w w' := by
  rcases q : inB c 0 21 with _ | _
  · have hr : rowOf c = 0 := by simp [rowOf, q]
    rw [hr]
    go_enter Tryz.func80, Tryz.ntmps80
    go_wp2_with (go_at_call 33; refine (bel_is q (by omega)).mono ?_; rintro e w' ⟨rfl, rfl⟩)
    refine bodyPost_ret (v := nameV 0) (by simp [results, Tryz.f80, go_sem, nameV, nm, nmT]) rfl ?_
    exact ⟨rfl, (Below.refl _ _).alloc (Nat.le_refl _) _⟩
  · obtain ⟨h0, h1⟩ := inB_yes q
    obtain ⟨i, rfl⟩ : ∃ i : Nat, c = i := ⟨c.toNat, by omega⟩
    have hi : i < 22 := by omega
    have hr : rowOf i = i := by simp [rowOf, q]
    rw [hr]
    have N1 := h.on ((Below.refl _ _).alloc (Nat.le_refl _) (.cells #[.int .u8 0, .int .u8 0, .int .u8 0, .int .u8 0, .int .u8 0] 110))
    have n0 : (w.alloc (.cells #[.int .u8 0, .int .u8 0, .int .u8 0, .int .u8 0, .int .u8 0] 110)).cell? ⟨0, i * 5, none⟩ = some (.int .u8 (nm i 0)) := N1 i 0 hi (by omega)
    have n1 := N1 i 1 hi (by omega)
    have n2 := N1 i 2 hi (by omega)
    have n3 := N1 i 3 hi (by omega)
    have n4 := N1 i 4 hi (by omega)
    clear N1
    go_enter Tryz.func80, Tryz.ntmps80
    go_wp2_with (go_at_call 33; refine (bel_is q (by omega)).mono ?_; rintro e w' ⟨rfl, rfl⟩)
    refine bodyPost_ret (v := nameV i) (by simp [results, Tryz.f80, go_sem, nameV]) rfl ?_
    exact ⟨rfl, (Below.refl _ _).alloc (Nat.le_refl _) _⟩

theorem named_row (c : Int) : (rowOf c = 0 ↔ inB c 1 21 = false) := by
  unfold rowOf
  by_cases h : inB c 0 21 = true
  · rw [if_pos h]
    obtain ⟨h0, h1⟩ := inB_yes h
    by_cases hc : c = 0
    · subst hc; simp [inB]
    · have : inB c 1 21 = true := by simp [inB]; omega
      rw [this]; simp; omega
  · rw [if_neg h]
    have h' : inB c 0 21 = false := by simpa using h
    have := inB_no h'
    have : inB c 1 21 = false := by
      by_cases h1 : (1 : Int) ≤ c
      · have : decide (c ≤ 21) = false := decide_eq_false (by omega)
        simp only [inB, this, Bool.and_false]
      · have : decide (1 ≤ c) = false := decide_eq_false h1
        simp only [inB, this, Bool.false_and]
    simp [this]
theorem row_lt (c : Int) : rowOf c < 22 := by
  unfold rowOf
  by_cases h : inB c 0 21 = true
  · rw [if_pos h]; obtain ⟨h0, h1⟩ := inB_yes h; omega
  · rw [if_neg h]; omega

def litsOf (i : Nat) : List Lit := [.int .u8 (nm i 0), .int .u8 (nm i 1), .int .u8 (nm i 2), .int .u8 (nm i 3), .int .u8 (nm i 4)]
theorem lits5 (i : Nat) (hi : i < 22) : Tryz.prog.keyLits 3 110 (nameV i).cells.toList = some (litsOf i) := by
  rcases (by omega : i = 0 ∨ i = 1 ∨ i = 2 ∨ i = 3 ∨ i = 4 ∨ i = 5 ∨ i = 6 ∨ i = 7 ∨ i = 8 ∨ i = 9 ∨ i = 10 ∨ i = 11 ∨ i = 12 ∨ i = 13 ∨ i = 14 ∨ i = 15 ∨ i = 16 ∨ i = 17 ∨ i = 18 ∨ i = 19 ∨ i = 20 ∨ i = 21) with rfl | rfl | rfl | rfl | rfl | rfl | rfl | rfl | rfl | rfl | rfl | rfl | rfl | rfl | rfl | rfl | rfl | rfl | rfl | rfl | rfl | rfl
  all_goals kernel_rfl
theorem none_row (i : Nat) (hi : i < 22) : ([Lit.int .u8 (nm i 0), .int .u8 (nm i 1), .int .u8 (nm i 2), .int .u8 (nm i 3), .int .u8 (nm i 4)] = [Lit.int .u8 0, .int .u8 0, .int .u8 0, .int .u8 0, .int .u8 0]) ↔ i = 0 := by
  simp only [List.cons.injEq, Lit.int.injEq, true_and, and_true]
  have H : ∀ i, i < 22 → ((nm i 0 = 0 ∧ nm i 1 = 0 ∧ nm i 2 = 0 ∧ nm i 3 = 0 ∧ nm i 4 = 0) ↔ i = 0) := by decide
  exact H i hi
theorem names_eq (i : Nat) (hi : i < 22) (w : World) : (Op.equalIn 10000 110 (.agg #[.int .u8 (nm i 0), .int .u8 (nm i 1), .int .u8 (nm i 2), .int .u8 (nm i 3), .int .u8 (nm i 4)]) (.agg #[.int .u8 0, .int .u8 0, .int .u8 0, .int .u8 0, .int .u8 0])).run Tryz.prog w = .ok (decide (i = 0)) w := by
  obtain ⟨r, hr, hiff⟩ := run_equalIn_deep (P := Tryz.prog) 9990 10 110 (by kernel_rfl) w _ _ _ _ _ _ rfl rfl (lits5 i hi) (lits5 0 (by omega))
  replace hiff : r = true ↔ i = 0 := hiff.trans (none_row i hi)
  have : r = decide (i = 0) := by
    by_cases h : i = 0
    · rw [hiff.2 h]; simp [h]
    · cases r
      · simp [h]
      · exact absurd (hiff.1 rfl) h
  rw [← this]
  exact hr

set_option maxRecDepth 100000 in
set_option maxHeartbeats 2000000 in
theorem isNone_any (i : Nat) (hi : i < 22) (w : World) : Calls Tryz.prog 81 #[nameV i] w fun e w' => e = .returned (.bool (decide (i = 0))) ∧ Below w.heap.size w w' := by
  unfold nameV
  have hq := names_eq i hi
  go_enter Tryz.func81, Tryz.ntmps81
  go_wp2
  go_ret
  exact ⟨rfl, (Below.refl _ _).alloc (Nat.le_refl _) _⟩

end Go.Proofs.YtjibmpebebephaaGreatDoor.fun

namespace Go.Proofs.YtjibmpebebephaaGreatDoor.fun
open Go.RowKit Go.Proofs.YtjibmpebebephaaGreatDoor
set_option linter.unusedVariables false

theorem gNamesType : (Tryz.prog.globals[0]?).map (·.type) = some 147 := by kernel_rfl
theorem cellsNames : Tryz.prog.cellsOf 147 = 110 := by kernel_rfl
theorem cellsName : Tryz.prog.cellsOf 110 = 5 := by kernel_rfl
theorem cellsByte : Tryz.prog.cellsOf 5 = 1 := by kernel_rfl
theorem nmT_len : nmT.length = 22 := rfl

/-- The table as a row lists it. -/
def nmData {H : Type} : DataW H := .agg (nmT.map (Lib.tabData .u8))

theorem cells_of_names {H : Type} {enc : TypeId × Value → H} {w : World} {base : Nat} {sp : Nat → Bool} {held : Bool} {fuel : Nat} {cs : List Value} {p : List MemPlace}
    (h : DataW.trod enc Tryz.prog w base sp held fuel 147 cs = some (nmData, p)) (i r : Nat) (hi : i < 22) (hr : r < 5) : cs[i * 5 + r]? = some (.int .u8 (nm i r)) := by
  cases fuel with
  | zero => simp [DataW.trod] at h
  | succ fuel =>
    simp only [DataW.trod, Tryz.underlying147, cellsName, cellsNames] at h
    split at h
    · rename_i hl
      obtain ⟨xs, hm, hx⟩ := Option.map_eq_some_iff.1 h
      have hxs : xs.map (·.1) = nmT.map fun z => (Lib.tabData .u8 z : DataW H) := by
        have := congrArg Prod.fst hx
        simpa [nmData] using this
      obtain ⟨b, hb, hf⟩ := Lib.mapM_at hm i i (by simp [hi])
      have h2 : (xs.map (·.1))[i]? = some b.1 := by simp [hb]
      rw [hxs] at h2
      have hlt : i < nmT.length := by rw [nmT_len]; exact hi
      simp only [List.getElem?_map, List.getElem?_eq_getElem hlt, Option.map_some, Option.some.injEq] at h2
      have hf' : DataW.trod enc Tryz.prog w base sp held fuel 110 ((cs.drop (i * 5)).take 5) = some (Lib.tabData .u8 nmT[i], b.2) := by
        rw [h2]; exact hf
      have h3 := Lib.cells_of_tab Tryz.underlying110 Tryz.underlying5 cellsByte cellsName hf'
      have h4 : ((cs.drop (i * 5)).take 5)[r]? = cs[i * 5 + r]? := by simp [List.getElem?_drop, hr]
      rw [← h4, h3]
      have h5 : nmT[i][r]? = some (nm i r) := by
        have H : ∀ (i : Fin 22) (r : Fin 5), (nmT[i.val]'(by rw [nmT_len]; exact i.isLt))[r.val]? = some (nm i.val r.val) := by decide
        exact H ⟨i, hi⟩ ⟨r, hr⟩
      simp [h5]
    · cases h

theorem names_of_laid {W : World} {rest : List (String × DataW Unit)} (h : laidMet Tryz.prog (("loop.example/g00323/impl.opNames", nmData) :: rest) W) : Names W := by
  obtain ⟨ps, ⟨g', t', cs, fuel, p, q, hg', ht', hvar, hd, _, _⟩, _⟩ := h
  obtain rfl := Option.some.inj (gNames.symm.trans hg')
  obtain rfl := Option.some.inj (gNamesType.symm.trans ht')
  intro i r hi hr
  have h1 := cells_of_names hd i r hi hr
  rw [World.var?_cell gNames hvar]
  simpa using h1

end Go.Proofs.YtjibmpebebephaaGreatDoor.fun
