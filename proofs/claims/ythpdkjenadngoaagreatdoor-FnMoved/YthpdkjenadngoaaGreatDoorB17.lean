/-
  The heap that was moved, told word by word (chapter 18): where each block stands, and what its words are; in plain data; no program named.
  The model's Digits, at every int, returns the decimal numeral and turns nothing that was there. No condition beyond the int's own bounds.
  What OpText tells (chapter 13), in plain data.
  What can be seen of a heap from roots (chapter 18): told in plain data.
-/
import Derived.Test.YthpdkjenadngoaaGreatDoorChecked
import Derived.WalkKit
import Derived.WalkLawsBesides
import Derived.Lib.ItoaNum
import Derived.Laws.IdiomStrings
import Derived.Lib.ItoaLen
import Derived.Below
import Derived.Deep.RegionWith
import Derived.Laws.Strings
import Derived.Deep.RegionHeld3
import Derived.Sort.AtCall
import Derived.WalkSmall
import Derived.Test.YthpdkjenadngoaaGreatDoorB1
import Derived.Test.YthpdkjenadngoaaGreatDoorB2
import Derived.Test.YthpdkjenadngoaaGreatDoorB3
import Derived.Test.YthpdkjenadngoaaGreatDoorB4
import Derived.Test.YthpdkjenadngoaaGreatDoorB5
import Derived.Test.YthpdkjenadngoaaGreatDoorB6
import Derived.Test.YthpdkjenadngoaaGreatDoorB7
import Derived.Test.YthpdkjenadngoaaGreatDoorB8
import Derived.Test.YthpdkjenadngoaaGreatDoorB9
import Derived.Test.YthpdkjenadngoaaGreatDoorB10
import Derived.Test.YthpdkjenadngoaaGreatDoorB11
import Derived.Test.YthpdkjenadngoaaGreatDoorB12
import Derived.Test.YthpdkjenadngoaaGreatDoorB13
import Derived.Test.YthpdkjenadngoaaGreatDoorB14
import Derived.Test.YthpdkjenadngoaaGreatDoorB15
import Derived.Test.YthpdkjenadngoaaGreatDoorB16
namespace Go.Proofs.YthpdkjenadngoaaGreatDoor.heap
open Go Go.RowKit Go.Proofs.YthpdkjenadngoaaGreatDoor.rose Go.Proofs.YthpdkjenadngoaaGreatDoor Go.Proofs.YthpdkjenadngoaaGreatDoor.fun Go.Proofs.YthpdkjenadngoaaGreatDoor.words Go.Proofs.YthpdkjenadngoaaGreatDoor.ints
set_option linter.unusedVariables false
set_option linter.unusedSimpArgs false

/-- Where the other half begins. -/
def toB (T : HeapD) : Nat := (T.2.1 - T.2.2.1).toNat
/-- A word as it is behind, where the blocks of O are moved. -/
def turnO (T : HeapD) (O : List Int) (x : Int) : Int := if x % 2 ≠ 0 then x else refWordF (posO T.1 (toB T) O (O.idxOf (x / 2)) : Nat)
/-- Whether a word is an int, or a block of O. -/
def metO (O : List Int) (x : Int) : Prop := x % 2 ≠ 0 ∨ x / 2 ∈ O
theorem metO.more {O X : List Int} {x : Int} (h : metO O x) : metO (O ++ X) x := by
  rcases h with h | h
  · exact .inl h
  · exact .inr (List.mem_append_left _ h)
theorem turnO_more {T : HeapD} {O X : List Int} {x : Int} (h : metO O x) : turnO T (O ++ X) x = turnO T O x := by
  unfold turnO
  by_cases h1 : x % 2 ≠ 0
  · rw [if_pos h1, if_pos h1]
  · have hm : x / 2 ∈ O := h.resolve_left h1
    rw [if_neg h1, if_neg h1]
    have h2 : (O ++ X).idxOf (x / 2) = O.idxOf (x / 2) := by rw [List.idxOf_append]; rw [if_pos hm]
    have h3 := List.idxOf_lt_length_iff.2 hm
    rw [h2, posO_append (by omega)]
theorem turnO_in {T : HeapD} {O : List Int} {x : Int} (hr : InR x) : InR (turnO T O x) := by
  unfold turnO
  split
  · exact hr
  · exact ref_in
theorem addR_prefix (out : List Int) (x : Int) : ∃ X, addR out x = out ++ X := by
  unfold addR
  split
  · exact ⟨_, rfl⟩
  · exact ⟨[], by simp⟩
theorem addRs_prefix (out xs : List Int) : ∃ X, addRs out xs = out ++ X := by
  induction xs generalizing out with
  | nil => exact ⟨[], by simp [addRs]⟩
  | cons x xs ih =>
    obtain ⟨X, hX⟩ := addR_prefix out x
    obtain ⟨Y, hY⟩ := ih (addR out x)
    refine ⟨X ++ Y, ?_⟩
    show addRs (addR out x) xs = _
    rw [hY, hX, List.append_assoc]
theorem addR_met (out : List Int) (x : Int) : metO (addR out x) x := by
  unfold metO addR
  by_cases h : x % 2 = 0 ∧ x / 2 ∉ out
  · rw [if_pos h]; exact .inr (by simp)
  · rw [if_neg h]
    by_cases h1 : x % 2 = 0
    · right; exact Classical.byContradiction fun h2 => h ⟨h1, h2⟩
    · exact .inl h1
theorem mv_was (W : List Int) (s : CS) (x : Int) : (mvF W s x).1.2.2.1 = addR s.2.2.1 x := by
  by_cases h1 : x % 2 = 0
  · by_cases h2 : x / 2 ∈ s.2.2.1
    · rw [mv_old h1 h2, addR_skip (.inr h2)]
    · rw [mv_new h1 h2, addR_put h1 h2]
  · rw [mv_odd h1, addR_skip (.inl h1)]

/-- What is known on the way: of blocks that are done, and of the next one's kids ahead of the j-th one, all words; all else is 0. -/
structure CJ (T : HeapD) (k j : Nat) (s : CS) : Prop where
  ci : CI T k j s
  done : ∀ i (h : i < s.2.2.1.length) m, m < szP T.1 s.2.2.1[i] → (i < k ∨ (i = k ∧ 1 ≤ m ∧ m < j)) →
    s.1.getD (posO T.1 (toB T) s.2.2.1 i + m) 0 = (if m = 0 then T.1.getD (s.2.2.1[i]).toNat 0 else turnO T s.2.2.1 (T.1.getD ((s.2.2.1[i]).toNat + m) 0)) ∧ (m ≠ 0 → metO s.2.2.1 (T.1.getD ((s.2.2.1[i]).toNat + m) 0))
  zero : ∀ i, (i < toB T ∨ s.2.1 ≤ i) → s.1.getD i 0 = 0
  fit : k ≤ s.2.2.1.length ∧ (k = s.2.2.1.length → j = 1)
theorem CJ.start {T : HeapD} : CJ T 0 1 (startC T) := by
  refine ⟨CI.start, (fun i h => absurd h (Nat.not_lt_zero _)), fun i _ => ?_, Nat.zero_le _, fun _ => rfl⟩
  unfold startC
  simp only [List.getD_eq_getElem?_getD, List.getElem?_replicate]
  split <;> rfl
section
variable {T : HeapD} {k j : Nat} {s : CS}
theorem CJ.base_le (h : CJ T k j s) : toB T ≤ s.2.1 := by
  rw [h.ci.next]
  have := posO_le (W := T.1) (b := (T.2.1 - T.2.2.1).toNat) (O := s.2.2.1) (Nat.zero_le s.2.2.1.length) (Nat.le_refl _)
  rw [posO_zero] at this
  exact this
theorem CJ.new (h : CJ T k j s) (hW : ∀ y ∈ T.1, InR y) (hb : heapB T = true) {x : Int} (hx : x ∈ (plT T).1) (hn : x ∉ s.2.2.1) :
    CJ T k j (putW s.1 s.2.1 (rawB T.1 x.toNat), s.2.1 + 1 + (manyF (T.1.getD x.toNat 0)).toNat, s.2.2.1 ++ [x], s.2.2.2 ++ [(s.2.1 : Int)]) := by
  have hroom := h.ci.room hb hx hn
  have hfit : s.2.1 + (rawB T.1 x.toNat).length ≤ s.1.length := by rw [rawB_len, h.ci.tlen]; unfold szP at hroom; omega
  have hbl := h.base_le
  have hft := h.fit
  refine ⟨h.ci.new hW hb hx hn, fun i hi m hm hc => ?_, fun i hi => ?_, ?_⟩
  · dsimp only at hi hm ⊢
    rw [List.length_append, List.length_singleton] at hi
    have hkl : i < s.2.2.1.length ∨ i = s.2.2.1.length := by omega
    rw [putW_get _ _ _ _ hfit, rawB_len]
    rcases hkl with e | e
    · have e1 : (s.2.2.1 ++ [x])[i] = s.2.2.1[i] := List.getElem_append_left e
      simp only [e1] at hm ⊢
      have hp := h.ci.pos_in hb e
      have hp2 : posO T.1 (toB T) (s.2.2.1 ++ [x]) i = posO T.1 (toB T) s.2.2.1 i := posO_append (by omega)
      have hp3 : posO T.1 (toB T) s.2.2.1 i + szP T.1 s.2.2.1[i] ≤ s.2.1 := hp
      rw [hp2, if_neg (by omega)]
      obtain ⟨h1, h2⟩ := h.done i e m hm hc
      refine ⟨?_, fun h0 => (h2 h0).more⟩
      rw [h1]
      by_cases h0 : m = 0
      · rw [if_pos h0, if_pos h0]
      · rw [if_neg h0, if_neg h0, turnO_more (h2 h0)]
    · subst e
      have e1 : (s.2.2.1 ++ [x])[s.2.2.1.length]'(by simp) = x := by simp
      omega
  · dsimp only at hi ⊢
    rw [putW_get _ _ _ _ hfit, rawB_len]
    rw [if_neg (by omega)]
    exact h.zero i (by omega)
  · dsimp only
    rw [List.length_append, List.length_singleton]
    omega
/-- Any word of a right heap. -/
theorem CJ.mv (h : CJ T k j s) (hW : ∀ y ∈ T.1, InR y) (hb : heapB T = true) {x : Int} (hx : thereB (plT T).1 x = true) :
    CJ T k j (mvF T.1 s x).1 ∧ (mvF T.1 s x).2 = turnO T (mvF T.1 s x).1.2.2.1 x := by
  unfold thereB at hx
  by_cases h1 : x % 2 = 0
  · rw [if_pos h1] at hx
    have hm : x / 2 ∈ (plT T).1 := of_decide_eq_true hx
    by_cases h2 : x / 2 ∈ s.2.2.1
    · rw [mv_old h1 h2]
      refine ⟨h, ?_⟩
      unfold turnO
      rw [if_neg (by omega)]
      dsimp only
      rw [h.ci.npos _ (List.idxOf_lt_length_iff.2 h2)]
      rfl
    · rw [mv_new h1 h2]
      refine ⟨h.new hW hb hm h2, ?_⟩
      unfold turnO
      rw [if_neg (by omega)]
      dsimp only
      have h3 : (s.2.2.1 ++ [x / 2]).idxOf (x / 2) = s.2.2.1.length := by rw [List.idxOf_append, if_neg h2]; simp
      rw [h3, posO_append (Nat.le_refl _), h.ci.next]
      rfl
  · rw [mv_odd h1]
    refine ⟨h, ?_⟩
    unfold turnO
    rw [if_pos h1]
/-- A kid is told anew. -/
theorem CJ.set (h : CJ T k j s) (hb : heapB T = true) (hk : k < s.2.2.1.length) (hj : 1 ≤ j) (hj2 : j < szP T.1 s.2.2.1[k]) (hr : InR (T.1.getD ((s.2.2.1[k]).toNat + j) 0)) (hmet : metO s.2.2.1 (T.1.getD ((s.2.2.1[k]).toNat + j) 0)) :
    CJ T k (j + 1) (s.1.set (posO T.1 (toB T) s.2.2.1 k + j) (turnO T s.2.2.1 (T.1.getD ((s.2.2.1[k]).toNat + j) 0)), s.2) := by
  have hp := h.ci.pos_in hb hk
  have hp' : posO T.1 (toB T) s.2.2.1 k + szP T.1 s.2.2.1[k] ≤ s.2.1 := hp
  have htop := h.ci.top hb
  have hlow : toB T ≤ posO T.1 (toB T) s.2.2.1 k := by
    have := posO_le (W := T.1) (b := toB T) (O := s.2.2.1) (Nat.zero_le k) (by omega)
    rwa [posO_zero] at this
  refine ⟨h.ci.set hb hk hj hj2 (turnO_in hr), fun i hi m hm hc => ?_, fun i hi => ?_, ?_⟩
  · dsimp only at hi hm ⊢
    by_cases e : i = k ∧ m = j
    · obtain ⟨rfl, rfl⟩ := e
      rw [if_neg (by omega)]
      refine ⟨?_, fun _ => hmet⟩
      rw [List.getD_eq_getElem?_getD, List.getElem?_set_self (by rw [h.ci.tlen]; omega)]
      rfl
    · have hne : posO T.1 (toB T) s.2.2.1 k + j ≠ posO T.1 (toB T) s.2.2.1 i + m := by
        intro e2
        by_cases e3 : i = k
        · subst e3; exact e ⟨rfl, by omega⟩
        · have hik : i < k := by omega
          have h1 : posO T.1 (toB T) s.2.2.1 (i + 1) ≤ posO T.1 (toB T) s.2.2.1 k := posO_le (by omega) (by omega)
          rw [posO_succ hi] at h1
          omega
      rw [List.getD_eq_getElem?_getD, List.getElem?_set_ne hne, ← List.getD_eq_getElem?_getD]
      exact h.done i hi m hm (by omega)
  · dsimp only at hi ⊢
    rw [List.getD_eq_getElem?_getD, List.getElem?_set_ne (by omega), ← List.getD_eq_getElem?_getD]
    exact h.zero i hi
  · dsimp only
    omega
theorem CJ.next (h : CJ T k j s) (hk : k < s.2.2.1.length) (hj : j = szP T.1 s.2.2.1[k]) : CJ T (k + 1) 1 s := by
  refine ⟨h.ci.done, fun i hi m hm hc => ?_, h.zero, by omega, fun _ => rfl⟩
  by_cases e : i < k
  · exact h.done i hi m hm (.inl e)
  · have hik : i = k := by omega
    subst hik
    by_cases h0 : m = 0
    · subst h0
      have := h.ci.raw i hi (Nat.le_refl _) 0 hm (.inr (.inl rfl))
      rw [if_pos rfl]
      refine ⟨?_, fun h0 => absurd rfl h0⟩
      rw [Nat.add_zero] at this
      exact this
    · exact h.done i hi m hm (.inr ⟨rfl, by omega, by omega⟩)
end

/-- The kids of the block at p, from the j-th word on. -/
def kidsFrom (W : List Int) (p : Nat) : Nat → Nat → List Int
  | 0, _ => []
  | r + 1, j => W.getD (p + j) 0 :: kidsFrom W p r (j + 1)
theorem kidsFrom_all {W : List Int} {p : Nat} : ∀ (r j : Nat), kidsFrom W p r (j + 1) = (List.range r).map fun k => kidAt W p (j + k) := by
  intro r
  induction r with
  | zero => intro j; rfl
  | succ r ih =>
    intro j
    rw [kidsFrom, ih, List.range_succ_eq_map, List.map_cons, List.map_map]
    congr 1
    · unfold kidAt; congr 1; omega
    · apply List.map_congr_left
      intro k _
      show kidAt W p (j + 1 + k) = kidAt W p (j + (k + 1))
      congr 1; omega
theorem kidsFrom_one {W : List Int} {p : Nat} : kidsFrom W p (manyF (W.getD p 0)).toNat 1 = kidsL W p := by
  rw [kidsFrom_all _ 0]
  unfold kidsL
  apply List.map_congr_left
  intro k _
  congr 1; omega
theorem getD_inM {W : List Int} (hW : ∀ y ∈ W, InR y) (i : Nat) : InR (W.getD i 0) := getD_mem_or hW
/-- The kids of one block. -/
theorem CJ.scanK {T : HeapD} (hW : ∀ y ∈ T.1, InR y) (hb : heapB T = true) {k : Nat} {x : Int} : ∀ (r j : Nat) (s : CS), CJ T k j s → (hk : k < s.2.2.1.length) → s.2.2.1[k] = x → 1 ≤ j → j + r = szP T.1 x → (∀ y ∈ kidsFrom T.1 x.toNat r j, thereB (plT T).1 y = true) →
    CJ T k (j + r) (scanK T.1 (posO T.1 (toB T) s.2.2.1 k) r j s) ∧ (scanK T.1 (posO T.1 (toB T) s.2.2.1 k) r j s).2.2.1 = addRs s.2.2.1 (kidsFrom T.1 x.toNat r j) := by
  intro r
  induction r with
  | zero => intro j s h hk hx hj hr hy; exact ⟨h, rfl⟩
  | succ r ih =>
    intro j s h hk hx hj hr hy
    have hraw := h.ci.raw k hk (Nat.le_refl _) j (by rw [hx]; omega) (.inr (.inr (Nat.le_refl _)))
    have hraw' : s.1.getD (posO T.1 (toB T) s.2.2.1 k + j) 0 = T.1.getD (x.toNat + j) 0 := by rw [← hx]; exact hraw
    rw [heap.scanK]
    rw [hraw']
    obtain ⟨y, hyy⟩ : ∃ y, y = T.1.getD (x.toNat + j) 0 := ⟨_, rfl⟩
    have hty : thereB (plT T).1 y = true := hy y (by rw [kidsFrom, hyy]; exact List.mem_cons_self ..)
    have hrest : ∀ z ∈ kidsFrom T.1 x.toNat r (j + 1), thereB (plT T).1 z = true := fun z hz => hy z (by rw [kidsFrom]; exact List.mem_cons_of_mem _ hz)
    obtain ⟨m1, m2⟩ := h.mv hW hb hty
    have hwas := mv_was T.1 s y
    rw [← hyy]
    obtain ⟨X, hX⟩ := addR_prefix s.2.2.1 y
    rw [hX] at hwas
    have hk2 : k < (mvF T.1 s y).1.2.2.1.length := by rw [hwas, List.length_append]; omega
    have hgx : (mvF T.1 s y).1.2.2.1[k] = x := by
      have : (s.2.2.1 ++ X)[k]'(by rw [List.length_append]; omega) = x := by rw [List.getElem_append_left hk]; exact hx
      simpa only [hwas] using this
    have hpos : posO T.1 (toB T) (mvF T.1 s y).1.2.2.1 k = posO T.1 (toB T) s.2.2.1 k := by rw [hwas]; exact posO_append (by omega)
    have hmet : metO (mvF T.1 s y).1.2.2.1 y := by rw [mv_was]; exact addR_met _ _
    have hset := m1.set (j := j) hb hk2 hj (by rw [hgx]; omega) (getD_inM hW _) (by rw [hgx, ← hyy]; exact hmet)
    rw [hgx, ← hyy, ← m2, hpos] at hset
    have := ih (j + 1) _ hset hk2 hgx (by omega) (by omega) hrest
    dsimp only at this
    rw [hpos] at this
    rw [show j + 1 + r = j + (r + 1) by omega] at this
    refine ⟨this.1, ?_⟩
    rw [this.2, mv_was]
    rw [kidsFrom, ← hyy]
    rfl
/-- All blocks, one behind the other. -/
theorem CJ.scanC {T : HeapD} (hW : ∀ y ∈ T.1, InR y) (hb : heapB T = true) : ∀ (f k : Nat) (s : CS), CJ T k 1 s → T.1.length + 1 ≤ f + k →
    (CJ T (scanC T.1 f (posO T.1 (toB T) s.2.2.1 k) s).2.2.1.length 1 (scanC T.1 f (posO T.1 (toB T) s.2.2.1 k) s)) ∧ (scanC T.1 f (posO T.1 (toB T) s.2.2.1 k) s).2.2.1 = scanF T.1 f k s.2.2.1 := by
  intro f
  induction f with
  | zero =>
    intro k s h hf
    have h1 := h.ci.inv.len
    have h2 := places_len hb
    have h3 := h.fit
    omega
  | succ f ih =>
    intro k s h hf
    by_cases hk : k < s.2.2.1.length
    · have hlt : posO T.1 (toB T) s.2.2.1 k < s.2.1 := by
        have := h.ci.pos_in hb hk
        have h1 : 1 ≤ szP T.1 s.2.2.1[k] := by unfold szP; omega
        have h2 : posO T.1 (toB T) s.2.2.1 k + szP T.1 s.2.2.1[k] ≤ s.2.1 := this
        omega
      have hraw := h.ci.raw k hk (Nat.le_refl _) 0 (by unfold szP; omega) (.inr (.inl rfl))
      have hraw' : s.1.getD (posO T.1 (toB T) s.2.2.1 k) 0 = T.1.getD (s.2.2.1[k]).toNat 0 := hraw
      rw [heap.scanC, if_pos hlt, hraw', scan_more hk]
      have hkids : ∀ y ∈ kidsFrom T.1 (s.2.2.1[k]).toNat (manyF (T.1.getD (s.2.2.1[k]).toNat 0)).toNat 1, thereB (plT T).1 y = true := by
        rw [kidsFrom_one]; exact kids_there hb (h.ci.inv.sub _ (List.getElem_mem hk))
      obtain ⟨c1, c2⟩ := CJ.scanK hW hb (x := s.2.2.1[k]) (manyF (T.1.getD (s.2.2.1[k]).toNat 0)).toNat 1 s h hk rfl (Nat.le_refl _) rfl hkids
      rw [kidsFrom_one] at c2
      obtain ⟨S, hS⟩ : ∃ S, S = heap.scanK T.1 (posO T.1 (toB T) s.2.2.1 k) (manyF (T.1.getD (s.2.2.1[k]).toNat 0)).toNat 1 s := ⟨_, rfl⟩
      rw [← hS] at c1 c2 ⊢
      obtain ⟨X, hX⟩ := addRs_prefix s.2.2.1 (kidsL T.1 (s.2.2.1[k]).toNat)
      have hSX : S.2.2.1 = s.2.2.1 ++ X := by rw [c2, hX]
      have hk2 : k < S.2.2.1.length := by rw [hSX, List.length_append]; omega
      have hgx : S.2.2.1[k] = s.2.2.1[k] := by
        have : (s.2.2.1 ++ X)[k]'(by rw [List.length_append]; omega) = s.2.2.1[k] := List.getElem_append_left hk
        simpa only [hSX] using this
      have hnext := c1.next hk2 (by rw [hgx]; rfl)
      have hp : posO T.1 (toB T) s.2.2.1 k + 1 + (manyF (T.1.getD (s.2.2.1[k]).toNat 0)).toNat = posO T.1 (toB T) S.2.2.1 (k + 1) := by
        rw [hSX, posO_append (by omega), posO_succ hk]; unfold szP; omega
      have := ih (k + 1) S hnext (by omega)
      rw [← hp] at this
      rw [c2] at this
      exact this
    · have h3 := h.fit
      have hkl : k = s.2.2.1.length := by omega
      have hge : ¬ posO T.1 (toB T) s.2.2.1 k < s.2.1 := by
        have := h.ci.next
        have h2 : s.2.1 = posO T.1 (toB T) s.2.2.1 s.2.2.1.length := this
        rw [hkl, h2]; omega
      rw [heap.scanC, if_neg hge, scan_end (by omega)]
      refine ⟨?_, rfl⟩
      rw [← hkl]; exact h

/-- Roots, one behind the other. -/
theorem CJ.roots {T : HeapD} (hW : ∀ y ∈ T.1, InR y) (hb : heapB T = true) : ∀ (rs : List Int) (s : CS) (M : List Int), CJ T 0 1 s → (∀ y ∈ rs, thereB (plT T).1 y = true) →
    (CJ T 0 1 (rs.foldl (fun a x => ((mvF T.1 a.1 x).1, a.2 ++ [(mvF T.1 a.1 x).2])) (s, M)).1) ∧ ((rs.foldl (fun a x => ((mvF T.1 a.1 x).1, a.2 ++ [(mvF T.1 a.1 x).2])) (s, M)).1.2.2.1 = addRs s.2.2.1 rs) ∧
    ((rs.foldl (fun a x => ((mvF T.1 a.1 x).1, a.2 ++ [(mvF T.1 a.1 x).2])) (s, M)).2 = M ++ rs.map (turnO T (addRs s.2.2.1 rs))) ∧ (∀ y ∈ rs, metO (addRs s.2.2.1 rs) y) := by
  intro rs
  induction rs with
  | nil => intro s M h _; exact ⟨h, rfl, by simp, fun y hy => by cases hy⟩
  | cons x rs ih =>
    intro s M h hy
    obtain ⟨m1, m2⟩ := h.mv hW hb (hy x (List.mem_cons_self ..))
    have hwas := mv_was T.1 s x
    obtain ⟨a1, a2, a3, a4⟩ := ih (mvF T.1 s x).1 (M ++ [(mvF T.1 s x).2]) m1 fun y h => hy y (List.mem_cons_of_mem _ h)
    have hadd : addRs (mvF T.1 s x).1.2.2.1 rs = addRs s.2.2.1 (x :: rs) := by rw [hwas]; rfl
    rw [hadd] at a2 a3 a4
    have hmx : metO (addR s.2.2.1 x) x := addR_met _ _
    obtain ⟨Y, hY⟩ := addRs_prefix (addR s.2.2.1 x) rs
    have hY' : addRs s.2.2.1 (x :: rs) = addR s.2.2.1 x ++ Y := hY
    refine ⟨a1, a2, ?_, fun y h => ?_⟩
    · rw [List.foldl_cons, a3, List.map_cons, List.append_assoc, m2, hwas]
      congr 1
      rw [hY', turnO_more hmx]
      rfl
    · rcases List.mem_cons.1 h with rfl | h
      · rw [hY']; exact hmx.more
      · exact a4 y h
theorem scan_prefix (W : List Int) : ∀ (f k : Nat) (out : List Int), ∃ X, scanF W f k out = out ++ X := by
  intro f
  induction f with
  | zero => intro k out; exact ⟨[], by simp [scanF]⟩
  | succ f ih =>
    intro k out
    by_cases hk : k < out.length
    · rw [scan_more hk]
      obtain ⟨X, hX⟩ := addRs_prefix out (kidsL W (out[k]).toNat)
      obtain ⟨Y, hY⟩ := ih (k + 1) (addRs out (kidsL W (out[k]).toNat))
      exact ⟨X ++ Y, by rw [hY, hX, List.append_assoc]⟩
    · exact ⟨[], by rw [scan_end (by omega)]; simp⟩
/-- All that is known of the heap that was moved. -/
theorem end_is {T : HeapD} {rs : List Int} (hW : ∀ y ∈ T.1, InR y) (h : rightB T rs = true) :
    CJ T (orderF T rs).length 1 (endC T rs) ∧ (endC T rs).2.2.1 = orderF T rs ∧ (rootsC T.1 (startC T) rs).2 = rs.map (turnO T (orderF T rs)) ∧ ∀ y ∈ rs, metO (orderF T rs) y := by
  have hb := (right_is h).1
  obtain ⟨a1, a2, a3, a4⟩ := CJ.roots hW hb rs (startC T) [] CJ.start (right_is h).2
  have hr1 : rootsC T.1 (startC T) rs = rs.foldl (fun a x => ((mvF T.1 a.1 x).1, a.2 ++ [(mvF T.1 a.1 x).2])) (startC T, []) := rfl
  rw [← hr1] at a1 a2 a3
  have hs0 : (startC T).2.2.1 = [] := rfl
  rw [hs0] at a2 a3 a4
  obtain ⟨c1, c2⟩ := CJ.scanC hW hb (T.1.length + 1) 0 (rootsC T.1 (startC T) rs).1 a1 (Nat.le_refl _)
  rw [posO_zero] at c1 c2
  rw [a2] at c2
  have he : endC T rs = heap.scanC T.1 (T.1.length + 1) (toB T) (rootsC T.1 (startC T) rs).1 := rfl
  rw [← he] at c1 c2
  have ho : scanF T.1 (T.1.length + 1) 0 (addRs [] rs) = orderF T rs := rfl
  rw [ho] at c2
  rw [c2] at c1
  obtain ⟨X, hX⟩ := scan_prefix T.1 (T.1.length + 1) 0 (addRs [] rs)
  rw [ho] at hX
  refine ⟨c1, c2, ?_, fun y hy => ?_⟩
  · rw [a3, List.nil_append]
    apply List.map_congr_left
    intro y hy
    rw [hX, turnO_more (a4 y hy)]
  · rw [hX]; exact (a4 y hy).more

/-- Which block, and which word of it. -/
theorem pos_find {W : List Int} {b : Nat} {O : List Int} : ∀ (n : Nat), n ≤ O.length → ∀ {i : Nat}, b ≤ i → i < posO W b O n → ∃ k, ∃ hk : k < n, ∃ m, ∃ ho : k < O.length, i = posO W b O k + m ∧ m < szP W O[k] := by
  intro n
  induction n with
  | zero => intro _ i h1 h2; rw [posO_zero] at h2; omega
  | succ n ih =>
    intro hn i h1 h2
    by_cases h3 : i < posO W b O n
    · obtain ⟨k, hk, m, ho, e1, e2⟩ := ih (by omega) h1 h3
      exact ⟨k, by omega, m, ho, e1, e2⟩
    · rw [posO_succ (by omega)] at h2
      exact ⟨n, by omega, i - posO W b O n, by omega, by omega, by omega⟩
/-- What is just as told is the heap that was moved. -/
theorem collect_eq {T : HeapD} {rs : List Int} (hW : ∀ y ∈ T.1, InR y) (h : rightB T rs = true) {X : List Int} (hl : X.length = T.1.length)
    (h1 : ∀ i, (i < toB T ∨ posO T.1 (toB T) (orderF T rs) (orderF T rs).length ≤ i) → X.getD i 0 = 0)
    (h2 : ∀ k (hk : k < (orderF T rs).length) m, m < szP T.1 (orderF T rs)[k] → X.getD (posO T.1 (toB T) (orderF T rs) k + m) 0 = if m = 0 then T.1.getD ((orderF T rs)[k]).toNat 0 else turnO T (orderF T rs) (T.1.getD (((orderF T rs)[k]).toNat + m) 0)) :
    collectF T rs = ((X, T.2.1, T.2.1 - T.2.2.1, ((posO T.1 (toB T) (orderF T rs) (orderF T rs).length : Nat) : Int)), rs.map (turnO T (orderF T rs))) := by
  obtain ⟨c1, c2, c3, -⟩ := end_is hW h
  have hn : (endC T rs).2.1 = posO T.1 (toB T) (orderF T rs) (orderF T rs).length := by rw [← c2]; exact c1.ci.next
  have hX : (endC T rs).1 = X := by
    apply List.ext_getElem
    · rw [c1.ci.tlen, hl]
    · intro i g1 g2
      have e1 : (endC T rs).1[i] = (endC T rs).1.getD i 0 := by rw [List.getD_eq_getElem?_getD, List.getElem?_eq_getElem g1]; rfl
      have e2 : X[i] = X.getD i 0 := by rw [List.getD_eq_getElem?_getD, List.getElem?_eq_getElem g2]; rfl
      rw [e1, e2]
      by_cases hz : i < toB T ∨ posO T.1 (toB T) (orderF T rs) (orderF T rs).length ≤ i
      · rw [h1 i hz, c1.zero i (by rw [hn]; exact hz)]
      · obtain ⟨k, hk, m, ho, rfl, hm⟩ := pos_find (W := T.1) (b := toB T) (O := orderF T rs) (orderF T rs).length (Nat.le_refl _) (i := i) (by omega) (by omega)
        have hd := c1.done
        simp only [c2] at hd
        rw [h2 k hk m hm, (hd k hk m hm (.inl hk)).1]
  unfold collectF
  rw [if_pos h, hX, hn, c3]

end Go.Proofs.YthpdkjenadngoaaGreatDoor.heap

namespace Go.Proofs.YthpdkjenadngoaaGreatDoor.walks
open Go.RowKit
set_option maxRecDepth 100000

/-- the digits of m, none of 0 -/
def dd (m : Nat) : List UInt8 := if m = 0 then [] else Lib.decDigits m

theorem dd_step (m : Nat) (h : m ≠ 0) : dd m = dd (m / 10) ++ [UInt8.ofNat (48 + m % 10)] := by
  unfold dd
  rw [if_neg h]
  by_cases h10 : m < 10
  · rw [Lib.decDigits_one h10, if_pos (by omega), Nat.mod_eq_of_lt h10]; rfl
  · rw [Lib.decDigits, dif_neg h10, if_neg (by omega)]

/-- 'string([]byte{c})': the one byte. -/
theorem conv_one (w : World) (c : Int) (h0 : 0 ≤ c) (h1 : c < 256) :
    (convert 22 9 (.slice (some ⟨w.heap.size, 0, none⟩) 1 1)).run Tryz.prog (w.alloc (.cells #[.int .u8 c] 5)) = .ok (.string ⟨#[UInt8.ofNat c.toNat]⟩) (w.alloc (.cells #[.int .u8 c] 5)) := by
  have hc : ∀ j (hj : j < [UInt8.ofNat c.toNat].length), (w.alloc (.cells #[.int .u8 c] 5)).cell? ((⟨w.heap.size, 0, none⟩ : Addr).add j) = some (.int .u8 ([UInt8.ofNat c.toNat][j].toNat : Int)) := by
    intro j hj
    obtain rfl : j = 0 := by simpa using hj
    have e : ((UInt8.ofNat c.toNat).toNat : Int) = c := by simp [UInt8.toNat_ofNat']; omega
    simp only [List.getElem_cons_zero, e]
    exact World.cell?_alloc_new w _ 5 0
  exact run_convert_bytes_back (P := Tryz.prog) _ 22 9 5 ⟨w.heap.size, 0, none⟩ 1 [UInt8.ofNat c.toNat] Tryz.underlying22 Tryz.underlying5 Tryz.underlying9 hc

theorem byte_eq (m : Nat) : (48 : UInt8) + UInt8.ofNat (m % 10) = UInt8.ofNat (48 + m % 10) := by
  rw [UInt8.ofNat_add]; rfl

theorem dd_next {m u : Nat} {acc : List UInt8} (h : m ≠ 0) (ha : dd m ++ acc = dd u) : dd (m / 10) ++ (UInt8.ofNat (48 + m % 10) :: acc) = dd u := by
  rw [← ha, dd_step m h]; simp

theorem str_cons (b : UInt8) (acc : List UInt8) : Value.string ({ data := #[b] } ++ { data := acc.toArray }) = .string ⟨(b :: acc).toArray⟩ := by
  congr 1

theorem acc_le {m u : Nat} {acc : List UInt8} (hu : (u : Int) ≤ 9223372036854775808) (ha : dd m ++ acc = dd u) : acc.length ≤ 20 := by
  have h : (dd u).length ≤ 20 := by
    unfold dd
    split
    · simp
    · rw [Lib.decDigits_length]; exact Lib.nDigits_le20 u (by omega)
  rw [← ha, List.length_append] at h
  omega

theorem ret_str {a b : ByteArray} (h : a = b) : Ending.returned (.string a) = .returned (.string b) := by rw [h]

set_option maxHeartbeats 400000 in
theorem digits_pos (u : Nat) (hn : 0 < u) (hn2 : (u : Int) ≤ 9223372036854775807) (w : World) :
    Calls Tryz.prog 35 #[.int .i64 u] w fun e w' => e = .returned (.string ⟨(dd u).toArray⟩) ∧ Below w.heap.size w w' := by
  have e0 : ((u : Int) == 0) = false := beq_eq_false_iff_ne.2 (by omega)
  have e1 : decide ((u : Int) < 0) = false := by simp
  go_enter Tryz.func35, Tryz.ntmps35
  go_wp2
  go_loopw [0, 4, 5] (fun x o _ wr => ∃ (m : Nat) (acc : List UInt8), m ≤ u ∧ x = .int .i64 m ∧ o = .string ⟨acc.toArray⟩ ∧ Hid (dd m ++ acc = dd u) ∧ Below w.heap.size w wr) (fun x _ _ _ => (intOf x).toNat)
  case atStart => exact ⟨u, [], Nat.le_refl _, rfl, rfl, List.append_nil _, Below.refl _ _⟩
  case round =>
    obtain ⟨m, acc, hm, rfl, rfl, ha, hb⟩ := hrel
    have hl := acc_le (by omega) ha.out
    by_cases hz : m = 0
    · subst hz
      go_wp2
      go_ret
      exact ⟨ret_str (by rw [← ha.out]; rfl), hb⟩
    · have hm0 : ((m : Int) != 0) = true := by rw [bne_iff_ne]; omega
      have hcv := conv_one wr (48 + (m : Int) % 10) (by omega) (by omega)
      go_wp2
      refine ⟨⟨m / 10, UInt8.ofNat (48 + m % 10) :: acc, by omega, by go_num, ?_, dd_next hz ha.out, ?_⟩, ?_⟩
      · first | rfl | rw [byte_eq, str_cons]
      · exact hb.alloc hb.size _
      · simp [intOf]; omega

set_option maxHeartbeats 400000 in
theorem digits_neg (u : Nat) (hn : 0 < u) (hn2 : (u : Int) ≤ 9223372036854775808) (w : World) :
    Calls Tryz.prog 35 #[.int .i64 (-(u : Int))] w fun e w' => e = .returned (.string ⟨(45 :: dd u).toArray⟩) ∧ Below w.heap.size w w' := by
  have e0 : ((-(u : Int)) == 0) = false := beq_eq_false_iff_ne.2 (by omega)
  have e1 : decide (-(u : Int) < 0) = true := by simp; omega
  go_enter Tryz.func35, Tryz.ntmps35
  go_wp2
  go_loopw [0, 4, 5] (fun x o _ wr => ∃ (m : Nat) (acc : List UInt8), m ≤ u ∧ x = .int .i64 (-(m : Int)) ∧ o = .string ⟨acc.toArray⟩ ∧ Hid (dd m ++ acc = dd u) ∧ Below w.heap.size w wr) (fun x _ _ _ => (-(intOf x)).toNat)
  case atStart => exact ⟨u, [], Nat.le_refl _, rfl, rfl, List.append_nil _, Below.refl _ _⟩
  case round =>
    obtain ⟨m, acc, hm, rfl, rfl, ha, hb⟩ := hrel
    have hl := acc_le (by omega) ha.out
    by_cases hz : m = 0
    · subst hz
      go_wp2
      go_ret
      exact ⟨ret_str (by rw [← ha.out]; apply ByteArray.ext; simp [ByteArray.data_append, dd]), hb⟩
    · have hm0 : ((-(m : Int)) != 0) = true := by rw [bne_iff_ne]; omega
      have hcv := conv_one wr (48 + (m : Int) % 10) (by omega) (by omega)
      have hcv2 := fun (h : (m : Int) % 10 ≤ 0) => conv_one wr (48 + -((m : Int) % 10)) (by omega) (by omega)
      by_cases hd : 0 < (m : Int) % 10
      · clear hcv2
        go_wp2
        refine ⟨⟨m / 10, UInt8.ofNat (48 + m % 10) :: acc, by omega, by go_num, ?_, dd_next hz ha.out, ?_⟩, ?_⟩
        · first | rfl | rw [byte_eq, str_cons]
        · exact hb.alloc hb.size _
        · simp [intOf]; omega
      · have hcv2 := hcv2 (by omega)
        have hby : (48 + -((m : Int) % 10)).toNat = 48 + m % 10 := by omega
        have HB : Hid ((48 + -((m : Int) % 10)).toNat = 48 + m % 10) := hby
        clear hby hcv
        go_wp2
        refine ⟨⟨m / 10, UInt8.ofNat (48 + m % 10) :: acc, by omega, by go_num, ?_, dd_next hz ha.out, ?_⟩, ?_⟩
        · rw [HB.out, str_cons]
        · exact hb.alloc hb.size _
        · simp [intOf]; omega

theorem digits_zero (w : World) : Calls Tryz.prog 35 #[.int .i64 0] w fun e w' => e = .returned (.string ⟨#[48]⟩) ∧ Below w.heap.size w w' := by
  go_enter Tryz.func35, Tryz.ntmps35
  go_wp2
  go_ret
  exact ⟨rfl, Below.refl _ _⟩

/-- spec.Digits, at every int: its decimal numeral; of what was there nothing has turned. -/
theorem digits_any (n : Int) (h0 : -9223372036854775808 ≤ n) (h1 : n ≤ 9223372036854775807) (w : World) :
    Calls Tryz.prog 35 #[.int .i64 n] w fun e w' => e = .returned (.string ⟨(Lib.itoa n).toArray⟩) ∧ Below w.heap.size w w' := by
  rcases Int.lt_trichotomy n 0 with h | h | h
  · obtain ⟨u, rfl⟩ : ∃ u : Nat, n = -(u : Int) := ⟨n.natAbs, by omega⟩
    have e : Lib.itoa (-(u : Int)) = 45 :: dd u := by
      unfold Lib.itoa dd; rw [if_pos h, if_neg (by omega)]; simp
    rw [e]
    exact digits_neg u (by omega) (by omega) w
  · subst h
    have e : Lib.itoa 0 = [48] := by unfold Lib.itoa; rw [if_neg (by omega)]; exact Lib.decDigits_one (by decide)
    rw [e]
    exact digits_zero w
  · obtain ⟨u, rfl⟩ : ∃ u : Nat, n = (u : Int) := ⟨n.toNat, by omega⟩
    have e : Lib.itoa (u : Int) = dd u := by
      unfold Lib.itoa dd; rw [if_neg (by omega), if_neg (by omega)]; simp
    rw [e]
    exact digits_pos u (by omega) (by omega) w
end Go.Proofs.YthpdkjenadngoaaGreatDoor.walks

namespace Go.Proofs.YthpdkjenadngoaaGreatDoor.fun
open Go.RowKit Go.Proofs.YthpdkjenadngoaaGreatDoor
set_option linter.unusedVariables false
set_option linter.unusedSimpArgs false

/-- The names. -/
def nmS : List ByteArray := [⟨#[]⟩, ⟨#[110, 117, 109]⟩, ⟨#[108, 111, 99, 97, 108]⟩, ⟨#[102, 114, 101, 101]⟩, ⟨#[115, 101, 108, 102]⟩, ⟨#[99, 108, 111, 115]⟩, ⟨#[99, 97, 108, 108]⟩, ⟨#[114, 101, 116]⟩, ⟨#[99, 111, 110]⟩, ⟨#[102, 105, 101, 108, 100]⟩, ⟨#[105, 115, 99, 111, 110]⟩, ⟨#[105, 115, 110, 117, 109]⟩, ⟨#[97, 100, 100]⟩, ⟨#[115, 117, 98]⟩, ⟨#[109, 117, 108]⟩, ⟨#[108, 101, 115, 115]⟩, ⟨#[115, 97, 109, 101]⟩, ⟨#[112, 117, 116]⟩, ⟨#[122, 101, 114, 111]⟩, ⟨#[106, 117, 109, 112]⟩, ⟨#[115, 108, 105, 100, 101]⟩, ⟨#[102, 97, 105, 108]⟩]
def nameS (i : Nat) : ByteArray := (nmS[i]?).getD ⟨#[]⟩
/-- A number in digits. -/
def dg (n : Int) : ByteArray := ⟨(Lib.itoa n).toArray⟩
/-- What OpText tells. -/
def opTx (c n m : Int) : ByteArray := if inB c 1 21 = true then nameS c.toNat ++ ⟨#[32]⟩ ++ dg n ++ ⟨#[32]⟩ ++ dg m else ⟨#[]⟩

theorem nameS_le (i : Nat) : (nameS i).size ≤ 5 := by
  by_cases h : i < 22
  · have H : ∀ i : Fin 22, (nameS i.val).size ≤ 5 := by decide
    exact H ⟨i, h⟩
  · have : nmS[i]? = none := List.getElem?_eq_none (by show 22 ≤ i; omega)
    rw [nameS, this]; decide
theorem dg_le (n : Int) (h0 : -9223372036854775808 ≤ n) (h1 : n ≤ 9223372036854775807) : (dg n).size ≤ 21 := by
  have e : (dg n).size = (Lib.itoa n).length := by show (Lib.itoa n).toArray.size = _; simp
  rw [e]
  unfold Lib.itoa
  split
  · simp only [List.length_cons, Lib.decDigits_length]
    have := Lib.nDigits_le20 n.natAbs (by omega)
    omega
  · rw [Lib.decDigits_length]
    have := Lib.nDigits_le20 n.toNat (by omega)
    omega

/-- An Op in a block of its own, ahead of whatever is called. -/
structure Opn (w W : World) (c n m : Int) : Prop where
  bel : Below w.heap.size w W
  b0 : W.cell? ⟨w.heap.size, 0, none⟩ = some (.int .i64 c)
  b1 : W.cell? ⟨w.heap.size, 1, none⟩ = some (.int .i64 n)
  b2 : W.cell? ⟨w.heap.size, 2, none⟩ = some (.int .i64 m)
  lt : w.heap.size < W.heap.size
theorem Opn.on {w W W' : World} {c n m : Int} (h : Opn w W c n m) (hb : Below W.heap.size W W') : Opn w W' c n m :=
  ⟨h.bel.trans (hb.mono h.bel.size), (hb.cell (p := ⟨w.heap.size, 0, none⟩) h.lt).trans h.b0, (hb.cell (p := ⟨w.heap.size, 1, none⟩) h.lt).trans h.b1, (hb.cell (p := ⟨w.heap.size, 2, none⟩) h.lt).trans h.b2, Nat.lt_of_lt_of_le h.lt hb.size⟩
theorem Opn.new (w : World) (c n m : Int) (t : TypeId) : Opn w (w.alloc (.cells #[.int .i64 c, .int .i64 n, .int .i64 m] t)) c n m :=
  ⟨(Below.refl _ _).alloc (Nat.le_refl _) _, by simp, by simp, by simp, by simp⟩
theorem Opn.drew {w W : World} {c n m : Int} (h : Opn w W c n m) : Opn w W.drew c n m := ⟨h.bel.drew, h.b0, h.b1, h.b2, h.lt⟩

end Go.Proofs.YthpdkjenadngoaaGreatDoor.fun

namespace Go.Proofs.YthpdkjenadngoaaGreatDoor.heap
open Go Go.RowKit Go.Proofs.YthpdkjenadngoaaGreatDoor.rose Go.Proofs.YthpdkjenadngoaaGreatDoor Go.Proofs.YthpdkjenadngoaaGreatDoor.fun
set_option linter.unusedVariables false

/-- A word as it is shown. -/
def wordTx (O : List Int) (x : Int) : ByteArray :=
  if x % 2 = 0 then
    match O.findIdx? (fun y => y == x / 2) with
    | some i => ⟨#[32, 64]⟩ ++ dg i
    | none => ⟨#[32, 64]⟩
  else ⟨#[32]⟩ ++ dg (x / 2)
/-- .. one behind the other, behind s. -/
def wordsTx (O : List Int) (s : ByteArray) (xs : List Int) : ByteArray := xs.foldl (fun t x => t ++ wordTx O x) s
/-- A block, behind s. -/
def blockTx (W : List Int) (O : List Int) (s : ByteArray) (p : Int) : ByteArray :=
  wordsTx O (s ++ (if funF (W.getD p.toNat 0) then ⟨#[102, 117, 110]⟩ else ⟨#[99, 111, 110]⟩) ++ ⟨#[32]⟩ ++ dg (tagF (W.getD p.toNat 0))) (kidsL W p.toNat) ++ ⟨#[10]⟩
def shapeF (T : HeapD) (rs : List Int) : ByteArray :=
  if rightB T rs then (orderF T rs).foldl (blockTx T.1 (orderF T rs)) (wordsTx (orderF T rs) ⟨#[]⟩ rs ++ ⟨#[10]⟩) else ⟨#[]⟩

theorem wordTx_at {O : List Int} {x : Int} {i : Nat} (he : x % 2 = 0) (hi : i < O.length) (h : O[i] = x / 2) (hb : ∀ j (hj : j < O.length), j < i → ¬ O[j] = x / 2) : wordTx O x = ⟨#[32, 64]⟩ ++ dg i := by
  have : O.findIdx? (fun y => y == x / 2) = some i := by
    rw [List.findIdx?_eq_some_iff_getElem]
    refine ⟨hi, by simpa using h, fun j hj => by simpa using hb j (by omega) hj⟩
  unfold wordTx
  rw [if_pos he, this]
theorem wordTx_none {O : List Int} {x : Int} (he : x % 2 = 0) (hb : ∀ j (hj : j < O.length), ¬ O[j] = x / 2) : wordTx O x = ⟨#[32, 64]⟩ := by
  have : O.findIdx? (fun y => y == x / 2) = none := by
    rw [List.findIdx?_eq_none_iff]
    intro y hy
    obtain ⟨j, hj, rfl⟩ := List.getElem_of_mem hy
    simpa using hb j hj
  unfold wordTx
  rw [if_pos he, this]
theorem wordTx_int {O : List Int} {x : Int} (he : ¬ x % 2 = 0) : wordTx O x = ⟨#[32]⟩ ++ dg (x / 2) := by unfold wordTx; rw [if_neg he]
theorem size_app (a b : ByteArray) : (a ++ b).size = a.size + b.size := by simp
theorem wordTx_le (O : List Int) (x : Int) (h1 : -9223372036854775808 ≤ x) (h2 : x ≤ 9223372036854775807) (hO : O.length ≤ 1048576) : (wordTx O x).size ≤ 23 := by
  unfold wordTx
  split
  · split
    · rename_i i hi
      rw [size_app]
      have := dg_le (i : Int) (by omega) (by
        have := List.findIdx?_eq_some_iff_getElem.1 hi
        obtain ⟨h, -⟩ := this
        omega)
      have e : (⟨#[32, 64]⟩ : ByteArray).size = 2 := rfl
      omega
    · decide
  · rw [size_app]
    have := dg_le (x / 2) (by omega) (by omega)
    have e : (⟨#[32]⟩ : ByteArray).size = 1 := rfl
    omega
theorem wordsTx_push (O : List Int) (s : ByteArray) (xs : List Int) (x : Int) : wordsTx O s (xs ++ [x]) = wordsTx O s xs ++ wordTx O x := by
  unfold wordsTx; rw [List.foldl_append]; rfl
theorem wordsTx_le (O : List Int) (hO : O.length ≤ 1048576) (xs : List Int) : ∀ (s : ByteArray), (∀ x ∈ xs, -9223372036854775808 ≤ x ∧ x ≤ 9223372036854775807) → (wordsTx O s xs).size ≤ s.size + 23 * xs.length := by
  induction xs with
  | nil => intro s _; simp [wordsTx]
  | cons x xs ih =>
    intro s h
    have h1 := ih (s ++ wordTx O x) fun y hy => h y (List.mem_cons_of_mem _ hy)
    have h2 := wordTx_le O x (h x (List.mem_cons_self ..)).1 (h x (List.mem_cons_self ..)).2 hO
    rw [size_app] at h1
    show (wordsTx O (s ++ wordTx O x) xs).size ≤ _
    rw [List.length_cons]
    omega

end Go.Proofs.YthpdkjenadngoaaGreatDoor.heap
