/-
  Blocks are copied one behind the other, and then turned, and what was in use is emptied: told in plain data; it is the heap that was moved.
-/
import Derived.Test.YthpdkjenadngoaaGreatDoorB1
import Derived.Test.YthpdkjenadngoaaGreatDoorB2
import Derived.Test.YthpdkjenadngoaaGreatDoorB3
import Derived.Test.YthpdkjenadngoaaGreatDoorB4
import Derived.Test.YthpdkjenadngoaaGreatDoorB5
import Derived.Test.YthpdkjenadngoaaGreatDoorB6
import Derived.Test.YthpdkjenadngoaaGreatDoorB7
import Derived.Test.YthpdkjenadngoaaGreatDoorB8
import Derived.Test.YthpdkjenadngoaaGreatDoorB9
import Derived.Test.YthpdkjenadngoaaGreatDoorB10
import Derived.Test.YthpdkjenadngoaaGreatDoorB11
import Derived.Test.YthpdkjenadngoaaGreatDoorB12
import Derived.Test.YthpdkjenadngoaaGreatDoorB13
import Derived.Test.YthpdkjenadngoaaGreatDoorB14
import Derived.Test.YthpdkjenadngoaaGreatDoorB15
import Derived.Test.YthpdkjenadngoaaGreatDoorB16
import Derived.Test.YthpdkjenadngoaaGreatDoorB17
import Derived.Test.YthpdkjenadngoaaGreatDoorB18
import Derived.Test.YthpdkjenadngoaaGreatDoorB19
import Derived.Test.YthpdkjenadngoaaGreatDoorB20
import Derived.Test.YthpdkjenadngoaaGreatDoorB21
import Derived.Test.YthpdkjenadngoaaGreatDoorB22
import Derived.Test.YthpdkjenadngoaaGreatDoorB23
import Derived.Test.YthpdkjenadngoaaGreatDoorB24
import Derived.Test.YthpdkjenadngoaaGreatDoorB25
import Derived.Test.YthpdkjenadngoaaGreatDoorB26
import Derived.Test.YthpdkjenadngoaaGreatDoorB27
import Derived.Test.YthpdkjenadngoaaGreatDoorB28
import Derived.Test.YthpdkjenadngoaaGreatDoorB29
namespace Go.Proofs.YthpdkjenadngoaaGreatDoor.heap
open Go Go.RowKit Go.Proofs.YthpdkjenadngoaaGreatDoor.rose Go.Proofs.YthpdkjenadngoaaGreatDoor Go.Proofs.YthpdkjenadngoaaGreatDoor.fun Go.Proofs.YthpdkjenadngoaaGreatDoor.words Go.Proofs.YthpdkjenadngoaaGreatDoor.ints
set_option linter.unusedVariables false
set_option linter.unusedSimpArgs false

/-- The places to which k blocks were copied. -/
def mvL (W : List Int) (b : Nat) (O : List Int) (k : Nat) : List Int := (List.range k).map fun i => ((posO W b O i : Nat) : Int)
theorem mvL_len (W : List Int) (b : Nat) (O : List Int) (k : Nat) : (mvL W b O k).length = k := by simp [mvL]
theorem mvL_get {W : List Int} {b : Nat} {O : List Int} {k i : Nat} (h : i < k) : (mvL W b O k).getD i 0 = ((posO W b O i : Nat) : Int) := by simp [mvL, List.getD_eq_getElem?_getD, h]
theorem mvL_succ (W : List Int) (b : Nat) (O : List Int) (k : Nat) : mvL W b O (k + 1) = mvL W b O k ++ [((posO W b O k : Nat) : Int)] := by simp [mvL, List.range_succ]
/-- The words once k blocks were copied. -/
def cpW (W : List Int) (b : Nat) (O : List Int) : Nat → List Int
  | 0 => W
  | k + 1 => putW (cpW W b O k) (posO W b O k) (rawB W (O.getD k 0).toNat)
/-- .. and then k blocks turned. -/
def tnW (f : Int → Int) (W : List Int) (b : Nat) (O : List Int) (X : List Int) : Nat → List Int
  | 0 => X
  | k + 1 => turnsX f (tnW f W b O X k) (posO W b O k + 1) (manyF (W.getD (O.getD k 0).toNat 0)).toNat
theorem cpW_len (W : List Int) (b : Nat) (O : List Int) (k : Nat) : (cpW W b O k).length = W.length := by
  induction k with
  | zero => rfl
  | succ k ih => rw [cpW, putW_length, ih]
theorem tnW_len (f : Int → Int) (W : List Int) (b : Nat) (O X : List Int) (k : Nat) : (tnW f W b O X k).length = X.length := by
  induction k with
  | zero => rfl
  | succ k ih => rw [tnW, turnsX_len, ih]
theorem getD_O {O : List Int} {k : Nat} (h : k < O.length) : O.getD k 0 = O[k] := by rw [List.getD_eq_getElem?_getD, List.getElem?_eq_getElem h]; rfl
section
variable {W : List Int} {b : Nat} {O : List Int}
theorem cp_old (hr : posO W b O O.length ≤ W.length) : ∀ {k : Nat}, k ≤ O.length → ∀ i, i < b ∨ posO W b O k ≤ i → (cpW W b O k).getD i 0 = W.getD i 0 := by
  intro k
  induction k with
  | zero => intro _ i _; rfl
  | succ k ih =>
    intro hk i hi
    have hs := posO_succ (W := W) (b := b) (O := O) (i := k) (by omega)
    have hle := posO_le (W := W) (b := b) (O := O) (i := k + 1) (j := O.length) hk (Nat.le_refl _)
    have hb := posO_le (W := W) (b := b) (O := O) (i := 0) (j := k) (Nat.zero_le _) (by omega)
    rw [posO_zero] at hb
    have hrl : (rawB W (O.getD k 0).toNat).length = szP W O[k] := by rw [rawB_len, getD_O (O := O) (k := k) (by omega)]; unfold szP; omega
    rw [cpW, putW_get _ _ _ _ (by rw [hrl, cpW_len]; omega), hrl, if_neg (by omega)]
    exact ih (by omega) i (by omega)
theorem cp_new (hr : posO W b O O.length ≤ W.length) : ∀ {k : Nat}, k ≤ O.length → ∀ j (hj : j < O.length), j < k → ∀ m, m < szP W O[j] → (cpW W b O k).getD (posO W b O j + m) 0 = W.getD ((O[j]).toNat + m) 0 := by
  intro k
  induction k with
  | zero => intro _ j hj h; omega
  | succ k ih =>
    intro hk j hj hjk m hm
    have hs := posO_succ (W := W) (b := b) (O := O) (i := k) (by omega)
    have hle := posO_le (W := W) (b := b) (O := O) (i := k + 1) (j := O.length) hk (Nat.le_refl _)
    have hrl : (rawB W (O.getD k 0).toNat).length = szP W O[k] := by rw [rawB_len, getD_O (O := O) (k := k) (by omega)]; unfold szP; omega
    rw [cpW, putW_get _ _ _ _ (by rw [hrl, cpW_len]; omega), hrl]
    by_cases e : j = k
    · subst e
      rw [if_pos (by omega), show posO W b O j + m - posO W b O j = m by omega]
      rw [List.getD_eq_getElem?_getD, List.getElem?_eq_getElem (by rw [hrl]; omega), rawB_get, getD_O hj]
      rfl
    · have h1 := posO_le (W := W) (b := b) (O := O) (i := j + 1) (j := k) (by omega) (by omega)
      rw [posO_succ hj] at h1
      rw [if_neg (by omega)]
      exact ih (by omega) j hj (by omega) m hm
theorem tn_get {f : Int → Int} {X : List Int} (hX : posO W b O O.length ≤ X.length) : ∀ {k : Nat}, k ≤ O.length →
    (∀ j (hj : j < O.length) m, m < szP W O[j] → (tnW f W b O X k).getD (posO W b O j + m) 0 = if j < k ∧ m ≠ 0 then f (X.getD (posO W b O j + m) 0) else X.getD (posO W b O j + m) 0) := by
  intro k
  induction k with
  | zero => intro _ j hj m hm; rw [tnW, if_neg (by omega)]
  | succ k ih =>
    intro hk j hj m hm
    have hs := posO_succ (W := W) (b := b) (O := O) (i := k) (by omega)
    have hle := posO_le (W := W) (b := b) (O := O) (i := k + 1) (j := O.length) hk (Nat.le_refl _)
    have hsz : szP W O[k] = 1 + (manyF (W.getD (O.getD k 0).toNat 0)).toNat := by rw [getD_O (O := O) (k := k) (by omega)]; rfl
    have hi := ih (by omega) j hj m hm
    rw [tnW, turnsX_get (by rw [tnW_len]; omega), hi]
    by_cases e : j = k
    · subst e
      by_cases h0 : m = 0
      · subst h0
        rw [if_neg (by omega), if_neg (by omega), if_neg (by omega)]
      · rw [if_pos (by omega), if_neg (by omega), if_pos (by omega)]
    · have hne : ¬ (posO W b O k + 1 ≤ posO W b O j + m ∧ posO W b O j + m < posO W b O k + 1 + (manyF (W.getD (O.getD k 0).toNat 0)).toNat) := by
        by_cases h1 : j < k
        · have h2 := posO_le (W := W) (b := b) (O := O) (i := j + 1) (j := k) (by omega) (by omega)
          rw [posO_succ hj] at h2
          omega
        · have h2 := posO_le (W := W) (b := b) (O := O) (i := k + 1) (j := j) (by omega) (by omega)
          omega
      rw [if_neg hne]
      by_cases h1 : j < k
      · by_cases h0 : m ≠ 0
        · rw [if_pos ⟨h1, h0⟩, if_pos ⟨by omega, h0⟩]
        · rw [if_neg (by omega), if_neg (by omega)]
      · rw [if_neg (by omega), if_neg (by omega)]
end

/-- All words once all is done. -/
def doneW (W : List Int) (half base b : Nat) (O : List Int) : List Int :=
  putW (putW (tnW (turnM O (mvL W b O O.length)) W b O (cpW W b O O.length) O.length) base (List.replicate half 0)) (posO W b O O.length) (List.replicate (b + half - posO W b O O.length) 0)

theorem getD_rep (n i : Nat) : (List.replicate n (0 : Int)).getD i 0 = 0 := by
  rw [List.getD_eq_getElem?_getD, List.getElem?_replicate]
  split <;> rfl
theorem turnM_O {T : HeapD} {O : List Int} {x : Int} (hm : metO O x) (hp : posO T.1 (toB T) O O.length ≤ 6000) : turnM O (mvL T.1 (toB T) O O.length) x = turnO T O x := by
  unfold turnM turnO
  by_cases h : x % 2 = 0
  · have hmem : x / 2 ∈ O := hm.resolve_left (by omega)
    have hl := List.idxOf_lt_length_iff.2 hmem
    rw [if_pos h, if_neg (by omega), mvL_get hl]
    have h1 := posO_le (W := T.1) (b := toB T) (O := O) (i := O.idxOf (x / 2)) (j := O.length) (by omega) (Nat.le_refl _)
    unfold refWordF
    rw [show inB ((posO T.1 (toB T) O (O.idxOf (x / 2)) : Nat) : Int) 0 6000 = true by unfold inB; simp; omega]
    rfl
  · rw [if_neg h, if_pos (by omega)]
/-- What is known of an order's words. -/
theorem order_met {T : HeapD} {rs : List Int} (hW : ∀ y ∈ T.1, InR y) (h : rightB T rs = true) : (∀ y ∈ rs, metO (orderF T rs) y) ∧ ∀ k (hk : k < (orderF T rs).length) m, m ≠ 0 → m < szP T.1 (orderF T rs)[k] → metO (orderF T rs) (T.1.getD (((orderF T rs)[k]).toNat + m) 0) := by
  obtain ⟨c1, c2, -, c4⟩ := end_is hW h
  refine ⟨c4, fun k hk m h0 hm => ?_⟩
  have hd := c1.done
  simp only [c2] at hd
  exact (hd k hk m hm (.inl hk)).2 h0
/-- It is the heap that was moved. -/
theorem done_is {W : List Int} {half base next : Nat} {rs : List Int} (hW : ∀ y ∈ W, InR y) (h : rightB (W, (half : Int), (base : Int), (next : Int)) rs = true) {O : List Int} (hO : O = orderF (W, (half : Int), (base : Int), (next : Int)) rs) (hsz : W.length = 2 * half ∧ (base = 0 ∨ base = half) ∧ 1 ≤ half ∧ half ≤ 3000 ∧ base ≤ next ∧ next ≤ base + half) :
    posO W (half - base) O O.length ≤ half - base + half ∧ collectF (W, (half : Int), (base : Int), (next : Int)) rs = ((doneW W half base (half - base) O, (half : Int), ((half - base : Nat) : Int), ((posO W (half - base) O O.length : Nat) : Int)), rs.map (turnM O (mvL W (half - base) O O.length))) := by
  have hb : toB (W, (half : Int), (base : Int), (next : Int)) = half - base := by unfold toB; dsimp only; omega
  have hroom := pos_room (right_is h).1 (order_inv h)
  rw [← hO] at hroom
  have hroom' : ((posO W (toB (W, (half : Int), (base : Int), (next : Int))) O O.length : Nat) : Int) ≤ (half : Int) - base + (next - base) := hroom
  rw [hb] at hroom'
  have hpos : posO W (half - base) O O.length ≤ half - base + half := by omega
  refine ⟨hpos, ?_⟩
  have hbl := posO_le (W := W) (b := half - base) (O := O) (i := 0) (j := O.length) (Nat.zero_le _) (Nat.le_refl _)
  rw [posO_zero] at hbl
  obtain ⟨c1, c2, c3, c4⟩ := end_is hW h
  have hmet : ∀ k (hk : k < O.length) m, m ≠ 0 → m < szP W O[k] → metO O (W.getD ((O[k]).toNat + m) 0) := by
    intro k hk m h0 hm
    have hd := c1.done
    simp only [c2] at hd
    subst hO
    exact (hd k hk m hm (.inl hk)).2 h0
  have hL : (cpW W (half - base) O O.length).length = W.length := cpW_len ..
  have hTl : (tnW (turnM O (mvL W (half - base) O O.length)) W (half - base) O (cpW W (half - base) O O.length) O.length).length = W.length := by rw [tnW_len, hL]
  have hX1 : (putW (tnW (turnM O (mvL W (half - base) O O.length)) W (half - base) O (cpW W (half - base) O O.length) O.length) base (List.replicate half 0)).length = W.length := by rw [putW_length, hTl]
  have hget : ∀ i, (doneW W half base (half - base) O).getD i 0 = if posO W (half - base) O O.length ≤ i ∧ i < half - base + half then 0 else if base ≤ i ∧ i < base + half then 0 else (tnW (turnM O (mvL W (half - base) O O.length)) W (half - base) O (cpW W (half - base) O O.length) O.length).getD i 0 := by
    intro i
    unfold doneW
    rw [putW_get _ _ _ _ (by rw [List.length_replicate, hX1]; omega), List.length_replicate]
    by_cases h1 : posO W (half - base) O O.length ≤ i ∧ i < half - base + half
    · rw [if_pos (by omega), if_pos h1, getD_rep]
    · rw [if_neg (by omega), if_neg h1, putW_get _ _ _ _ (by rw [List.length_replicate, hTl]; omega), List.length_replicate]
      by_cases h2 : base ≤ i ∧ i < base + half
      · rw [if_pos h2, if_pos h2, getD_rep]
      · rw [if_neg h2, if_neg h2]
  have key := collect_eq (X := doneW W half base (half - base) O) hW h (by unfold doneW; rw [putW_length, hX1]) ?_ ?_
  · rw [key, ← hO, hb]
    have e1 : ((half : Int) - (base : Int)) = ((half - base : Nat) : Int) := by omega
    have e2 : rs.map (turnO (W, (half : Int), (base : Int), (next : Int)) O) = rs.map (turnM O (mvL W (half - base) O O.length)) := by
      apply List.map_congr_left
      intro y hy
      have := turnM_O (T := (W, (half : Int), (base : Int), (next : Int))) (O := O) (x := y) (by rw [hO]; exact c4 y hy) (by show posO W (toB _) O O.length ≤ 6000; rw [hb]; omega)
      rw [hb] at this
      exact this.symm
    rw [e2]
    simp only [e1]
  · rw [← hO, hb]
    intro i hi
    have hi' : i < half - base ∨ posO W (half - base) O O.length ≤ i := hi
    rw [hget]
    by_cases h1 : posO W (half - base) O O.length ≤ i ∧ i < half - base + half
    · rw [if_pos h1]
    · rw [if_neg h1]
      by_cases h2 : base ≤ i ∧ i < base + half
      · rw [if_pos h2]
      · rw [if_neg h2]
        have : W.length ≤ i := by omega
        rw [List.getD_eq_getElem?_getD, List.getElem?_eq_none (by rw [hTl]; exact this)]
        rfl
  · rw [← hO, hb]
    intro k hk m hm
    have hm' : m < szP W O[k] := hm
    show (doneW W half base (half - base) O).getD (posO W (half - base) O k + m) 0 = if m = 0 then W.getD (O[k]).toNat 0 else turnO (W, (half : Int), (base : Int), (next : Int)) O (W.getD ((O[k]).toNat + m) 0)
    have h1 := posO_le (W := W) (b := half - base) (O := O) (i := k + 1) (j := O.length) (by omega) (Nat.le_refl _)
    rw [posO_succ hk] at h1
    have h0 := posO_le (W := W) (b := half - base) (O := O) (i := 0) (j := k) (Nat.zero_le _) (by omega)
    rw [posO_zero] at h0
    rw [hget, if_neg (by omega), if_neg (by omega)]
    rw [tn_get (by rw [hL]; omega) (Nat.le_refl _) k hk m hm', cp_new (by omega) (Nat.le_refl _) k hk hk m hm']
    by_cases e : m = 0
    · subst e
      rw [if_neg (by omega), if_pos rfl, Nat.add_zero]
    · rw [if_pos ⟨hk, e⟩, if_neg e]
      have := turnM_O (T := (W, (half : Int), (base : Int), (next : Int))) (O := O) (hmet k hk m e hm') (by show posO W (toB _) O O.length ≤ 6000; rw [hb]; omega)
      rw [hb] at this
      exact this

end Go.Proofs.YthpdkjenadngoaaGreatDoor.heap
