/-
  Blocks are moved to the other half (chapter 18): told in plain data, step by step, and what is known on the way; no program named.
-/
import Derived.Test.YthpdkjenadngoaaGreatDoorB1
import Derived.Test.YthpdkjenadngoaaGreatDoorB2
import Derived.Test.YthpdkjenadngoaaGreatDoorB3
import Derived.Test.YthpdkjenadngoaaGreatDoorB4
import Derived.Test.YthpdkjenadngoaaGreatDoorB5
import Derived.Test.YthpdkjenadngoaaGreatDoorB6
import Derived.Test.YthpdkjenadngoaaGreatDoorB7
namespace Go.Proofs.YthpdkjenadngoaaGreatDoor.heap
open Go Go.RowKit Go.Proofs.YthpdkjenadngoaaGreatDoor.rose Go.Proofs.YthpdkjenadngoaaGreatDoor Go.Proofs.YthpdkjenadngoaaGreatDoor.fun Go.Proofs.YthpdkjenadngoaaGreatDoor.words Go.Proofs.YthpdkjenadngoaaGreatDoor.ints
set_option linter.unusedVariables false
set_option linter.unusedSimpArgs false

/-- The words of the other half, how far it is in use, the places that were moved, and to where. -/
abbrev CS := List Int × Nat × List Int × List Int
/-- The words of the block at p. -/
def rawB (W : List Int) (p : Nat) : List Int := (List.range ((manyF (W.getD p 0)).toNat + 1)).map fun j => W.getD (p + j) 0
/-- A word as it is behind; its block is moved, if it is not yet. -/
def mvF (W : List Int) (s : CS) (x : Int) : CS × Int :=
  if x % 2 ≠ 0 then (s, x)
  else if x / 2 ∈ s.2.2.1 then (s, refWordF (s.2.2.2.getD (s.2.2.1.idxOf (x / 2)) 0))
  else ((putW s.1 s.2.1 (rawB W (x / 2).toNat), s.2.1 + 1 + (manyF (W.getD (x / 2).toNat 0)).toNat, s.2.2.1 ++ [x / 2], s.2.2.2 ++ [(s.2.1 : Int)]), refWordF s.2.1)
/-- Roots, one behind the other. -/
def rootsC (W : List Int) (s : CS) (rs : List Int) : CS × List Int := rs.foldl (fun a x => ((mvF W a.1 x).1, a.2 ++ [(mvF W a.1 x).2])) (s, [])
/-- So many kids of the block at a place, from the j-th one on. -/
def scanK (W : List Int) (p : Nat) : Nat → Nat → CS → CS
  | 0, _, s => s
  | r + 1, j, s => scanK W p r (j + 1) ((mvF W s (s.1.getD (p + j) 0)).1.1.set (p + j) (mvF W s (s.1.getD (p + j) 0)).2, (mvF W s (s.1.getD (p + j) 0)).1.2)
/-- Blocks that were moved, one behind the other. -/
def scanC (W : List Int) : Nat → Nat → CS → CS
  | 0, _, s => s
  | f + 1, p, s => if p < s.2.1 then scanC W f (p + 1 + (manyF (s.1.getD p 0)).toNat) (scanK W p (manyF (s.1.getD p 0)).toNat 1 s) else s
def startC (T : HeapD) : CS := (List.replicate T.1.length 0, (T.2.1 - T.2.2.1).toNat, [], [])
def endC (T : HeapD) (rs : List Int) : CS := scanC T.1 (T.1.length + 1) (T.2.1 - T.2.2.1).toNat (rootsC T.1 (startC T) rs).1
/-- The heap that was moved, and its roots. -/
def collectF (T : HeapD) (rs : List Int) : HeapD × List Int :=
  if rightB T rs then (((endC T rs).1, T.2.1, T.2.1 - T.2.2.1, ((endC T rs).2.1 : Int)), (rootsC T.1 (startC T) rs).2) else (T, rs)

theorem mv_odd {W : List Int} {s : CS} {x : Int} (h : x % 2 ≠ 0) : mvF W s x = (s, x) := by unfold mvF; rw [if_pos h]
theorem mv_old {W : List Int} {s : CS} {x : Int} (h : x % 2 = 0) (h2 : x / 2 ∈ s.2.2.1) : mvF W s x = (s, refWordF (s.2.2.2.getD (s.2.2.1.idxOf (x / 2)) 0)) := by unfold mvF; rw [if_neg (by omega), if_pos h2]
theorem mv_new {W : List Int} {s : CS} {x : Int} (h : x % 2 = 0) (h2 : x / 2 ∉ s.2.2.1) : mvF W s x = ((putW s.1 s.2.1 (rawB W (x / 2).toNat), s.2.1 + 1 + (manyF (W.getD (x / 2).toNat 0)).toNat, s.2.2.1 ++ [x / 2], s.2.2.2 ++ [(s.2.1 : Int)]), refWordF s.2.1) := by unfold mvF; rw [if_neg (by omega), if_neg h2]
theorem roots_take {W : List Int} {s : CS} {rs : List Int} {i : Nat} (h : i < rs.length) : rootsC W s (rs.take (i + 1)) = ((mvF W (rootsC W s (rs.take i)).1 rs[i]).1, (rootsC W s (rs.take i)).2 ++ [(mvF W (rootsC W s (rs.take i)).1 rs[i]).2]) := by
  unfold rootsC
  rw [List.take_succ_eq_append_getElem h, List.foldl_append]; rfl

theorem rawB_len (W : List Int) (p : Nat) : (rawB W p).length = (manyF (W.getD p 0)).toNat + 1 := by simp [rawB]
theorem rawB_get {W : List Int} {p j : Nat} (h : j < (rawB W p).length) : (rawB W p)[j] = W.getD (p + j) 0 := by simp [rawB]
theorem putW_get (xs : List Int) : ∀ (W : List Int) (p i : Nat), p + xs.length ≤ W.length → (putW W p xs).getD i 0 = if p ≤ i ∧ i < p + xs.length then xs.getD (i - p) 0 else W.getD i 0 := by
  induction xs with
  | nil => intro W p i _; rw [putW, if_neg (by simp only [List.length_nil]; omega)]
  | cons x xs ih =>
    intro W p i h
    simp only [List.length_cons] at h ⊢
    rw [putW, ih (W.set p x) (p + 1) i (by rw [List.length_set]; omega)]
    by_cases h1 : p + 1 ≤ i ∧ i < p + 1 + xs.length
    · rw [if_pos h1, if_pos (by omega)]
      have : i - p = (i - (p + 1)) + 1 := by omega
      rw [this, List.getD_cons_succ]
    · rw [if_neg h1]
      by_cases h2 : i = p
      · subst h2
        rw [if_pos (by omega), Nat.sub_self]
        simp [List.getD_eq_getElem?_getD, List.getElem?_set, show i < W.length by omega]
      · rw [if_neg (by omega)]
        simp [List.getD_eq_getElem?_getD, List.getElem?_set, show p ≠ i by omega]

/-- How many words a block has. -/
def szP (W : List Int) (x : Int) : Nat := 1 + (manyF (W.getD x.toNat 0)).toNat
/-- Where the i-th block that was moved lies. -/
def posO (W : List Int) (b : Nat) (O : List Int) (i : Nat) : Nat := b + ((O.take i).map (szP W)).sum
theorem posO_zero (W : List Int) (b : Nat) (O : List Int) : posO W b O 0 = b := by simp [posO]
theorem posO_succ {W : List Int} {b : Nat} {O : List Int} {i : Nat} (h : i < O.length) : posO W b O (i + 1) = posO W b O i + szP W O[i] := by
  unfold posO
  rw [List.take_succ_eq_append_getElem h, List.map_append, List.sum_append]
  simp; omega
theorem posO_append {W : List Int} {b : Nat} {O X : List Int} {i : Nat} (h : i ≤ O.length) : posO W b (O ++ X) i = posO W b O i := by
  unfold posO
  rw [List.take_append_of_le_length h]
theorem posO_le {W : List Int} {b : Nat} {O : List Int} : ∀ {i j : Nat}, i ≤ j → j ≤ O.length → posO W b O i ≤ posO W b O j := by
  intro i j hij
  induction j with
  | zero => intro _; have : i = 0 := by omega
            subst this; exact Nat.le_refl _
  | succ j ih =>
    intro hj
    by_cases e : i = j + 1
    · subst e; exact Nat.le_refl _
    · rw [posO_succ (by omega)]
      have := ih (by omega) (by omega)
      omega
theorem sum_erase {f : Int → Nat} {x : Int} : ∀ {L : List Int}, x ∈ L → (L.map f).sum = f x + ((L.erase x).map f).sum := by
  intro L
  induction L with
  | nil => intro h; cases h
  | cons y L ih =>
    intro h
    by_cases e : y = x
    · subst e; simp
    · have hx : x ∈ L := by
        rcases List.mem_cons.1 h with h | h
        · exact absurd h.symm e
        · exact h
      rw [List.erase_cons_tail (by simpa using e)]
      simp only [List.map_cons, List.sum_cons]
      rw [ih hx]; omega
theorem nodup_sum {f : Int → Nat} : ∀ {O L : List Int}, O.Nodup → (∀ x ∈ O, x ∈ L) → (O.map f).sum ≤ (L.map f).sum := by
  intro O
  induction O with
  | nil => intro L _ _; simp
  | cons x O ih =>
    intro L hn hs
    have hx : x ∈ L := hs x List.mem_cons_self
    rw [List.nodup_cons] at hn
    have := ih (L := L.erase x) hn.2 fun y hy => by
      have hne : y ≠ x := fun e => hn.1 (by rw [← e]; exact hy)
      rw [List.mem_erase_of_ne hne]
      exact hs y (List.mem_cons_of_mem _ hy)
    rw [sum_erase hx]
    simp only [List.map_cons, List.sum_cons]
    omega
theorem plF_sum {W : List Int} {nx : Nat} : ∀ {p : Nat}, p ≤ nx → (plF W nx p).2 = true → ((plF W nx p).1.map (szP W)).sum = nx - p := by
  intro p
  induction hd : nx - p using Nat.strongRecOn generalizing p with
  | _ d ih =>
    intro hp hok
    by_cases h : p < nx
    · rcases hb : badH (W.getD p 0) ((nx : Int) - p) with _ | _
      · have hm := many_in (W.getD p 0)
        have hb' := hb
        unfold badH at hb'
        simp only [Bool.or_eq_false_iff, decide_eq_false_iff_not] at hb'
        rw [plF_more h hb] at hok ⊢
        have := ih (nx - (p + 1 + (manyF (W.getD p 0)).toNat)) (by omega) rfl (by omega) hok
        simp only [List.map_cons, List.sum_cons, this]
        unfold szP
        rw [Int.toNat_natCast]
        omega
      · rw [plF_bad h hb] at hok; cases hok
    · rw [plF_end (by omega)]
      simp; omega
/-- What is moved has room. -/
theorem pos_room {T : HeapD} (h : heapB T = true) {O : List Int} (ho : OInv T O) : ((posO T.1 (T.2.1 - T.2.2.1).toNat O O.length : Nat) : Int) ≤ T.2.1 - T.2.2.1 + (T.2.2.2 - T.2.2.1) := by
  have h1 := head_in (heap_head h)
  have h2 := plF_sum (W := T.1) (nx := T.2.2.2.toNat) (p := T.2.2.1.toNat) (by omega) (heap_places h)
  have h3 := nodup_sum (f := szP T.1) ho.nodup ho.sub
  unfold posO
  rw [List.take_length]
  have h4 : ((plT T).1.map (szP T.1)).sum = T.2.2.2.toNat - T.2.2.1.toNat := h2
  omega

/-- What is known on the way: k blocks are done, and of the next one the kids ahead of the j-th one. -/
structure CI (T : HeapD) (k j : Nat) (s : CS) : Prop where
  inv : OInv T s.2.2.1
  nlen : s.2.2.2.length = s.2.2.1.length
  npos : ∀ i, i < s.2.2.1.length → s.2.2.2.getD i 0 = (posO T.1 (T.2.1 - T.2.2.1).toNat s.2.2.1 i : Int)
  next : s.2.1 = posO T.1 (T.2.1 - T.2.2.1).toNat s.2.2.1 s.2.2.1.length
  tlen : s.1.length = T.1.length
  raw : ∀ i (h : i < s.2.2.1.length), k ≤ i → ∀ m, m < szP T.1 s.2.2.1[i] → (k < i ∨ m = 0 ∨ j ≤ m) → s.1.getD (posO T.1 (T.2.1 - T.2.2.1).toNat s.2.2.1 i + m) 0 = T.1.getD ((s.2.2.1[i]).toNat + m) 0
  rng : ∀ y ∈ s.1, InR y

theorem CI.start {T : HeapD} : CI T 0 1 (startC T) := by
  refine ⟨OInv.nil T, rfl, (fun i h => absurd h (Nat.not_lt_zero _)), ?_, ?_, (fun i h => absurd h (Nat.not_lt_zero _)), fun y hy => ?_⟩
  · simp [startC, posO]
  · simp [startC]
  · have := List.eq_of_mem_replicate hy
    subst this; unfold InR; decide
section
variable {T : HeapD} {k j : Nat} {s : CS}
/-- There is room for one more. -/
theorem CI.room (h : CI T k j s) (hb : heapB T = true) {x : Int} (hx : x ∈ (plT T).1) (hn : x ∉ s.2.2.1) : s.2.1 + szP T.1 x ≤ T.1.length ∧ s.2.1 + szP T.1 x ≤ 6000 := by
  have ho : OInv T (s.2.2.1 ++ [x]) := by
    refine ⟨?_, fun y hy => ?_⟩
    · rw [List.nodup_append]
      exact ⟨h.inv.nodup, by simp, fun a ha b hb e => by simp only [List.mem_singleton] at hb; subst hb e; exact hn ha⟩
    · rcases List.mem_append.1 hy with q | q
      · exact h.inv.sub y q
      · simp only [List.mem_singleton] at q; subst q; exact hx
  have h1 := pos_room hb ho
  have h2 := head_in (heap_head hb)
  rw [List.length_append, List.length_singleton, posO_succ (by simp), posO_append (Nat.le_refl _), ← h.next] at h1
  simp only [List.getElem_append_right (Nat.le_refl _), Nat.sub_self, List.getElem_cons_zero] at h1
  omega
theorem CI.top (h : CI T k j s) (hb : heapB T = true) : s.2.1 ≤ T.1.length ∧ s.2.1 ≤ 6000 := by
  have h1 := pos_room hb h.inv
  have h2 := head_in (heap_head hb)
  rw [← h.next] at h1
  omega
theorem CI.pos_in (h : CI T k j s) (hb : heapB T = true) {i : Nat} (hi : i < s.2.2.1.length) : posO T.1 (T.2.1 - T.2.2.1).toNat s.2.2.1 i + szP T.1 s.2.2.1[i] ≤ s.2.1 := by
  rw [← posO_succ hi, h.next]
  exact posO_le hi (Nat.le_refl _)
theorem getD_mem_or {W : List Int} {i : Nat} (h : ∀ y ∈ W, InR y) : InR (W.getD i 0) := by
  rcases Nat.lt_or_ge i W.length with q | q
  · rw [List.getD_eq_getElem?_getD, List.getElem?_eq_getElem q]; exact h _ (List.getElem_mem q)
  · rw [List.getD_eq_getElem?_getD, List.getElem?_eq_none q]; unfold InR; decide
/-- A block is moved. -/
theorem CI.new (h : CI T k j s) (hW : ∀ y ∈ T.1, InR y) (hb : heapB T = true) {x : Int} (hx : x ∈ (plT T).1) (hn : x ∉ s.2.2.1) :
    CI T k j (putW s.1 s.2.1 (rawB T.1 x.toNat), s.2.1 + 1 + (manyF (T.1.getD x.toNat 0)).toNat, s.2.2.1 ++ [x], s.2.2.2 ++ [(s.2.1 : Int)]) := by
  have hroom := h.room hb hx hn
  have hfit : s.2.1 + (rawB T.1 x.toNat).length ≤ s.1.length := by rw [rawB_len, h.tlen]; unfold szP at hroom; omega
  refine ⟨⟨?_, fun y hy => ?_⟩, by simp [h.nlen], fun i hi => ?_, ?_, by rw [putW_length]; exact h.tlen, fun i hi hk m hm hc => ?_, fun y hy => ?_⟩
  · rw [List.nodup_append]
    exact ⟨h.inv.nodup, by simp, fun a ha b hb e => by simp only [List.mem_singleton] at hb; subst hb e; exact hn ha⟩
  · rcases List.mem_append.1 hy with q | q
    · exact h.inv.sub y q
    · simp only [List.mem_singleton] at q; subst q; exact hx
  · dsimp only at hi ⊢
    rw [List.length_append, List.length_singleton] at hi
    by_cases e : i < s.2.2.1.length
    · rw [posO_append (by omega), ← h.npos i e]
      rw [List.getD_eq_getElem?_getD, List.getD_eq_getElem?_getD, List.getElem?_append_left (by rw [h.nlen]; exact e)]
    · have : i = s.2.2.1.length := by omega
      subst this
      rw [posO_append (Nat.le_refl _), ← h.next]
      rw [List.getD_eq_getElem?_getD, List.getElem?_append_right (by rw [h.nlen]; exact Nat.le_refl _), h.nlen, Nat.sub_self]
      rfl
  · dsimp only
    rw [List.length_append, List.length_singleton, posO_succ (by simp), posO_append (Nat.le_refl _), ← h.next]
    simp only [List.getElem_append_right (Nat.le_refl _), Nat.sub_self, List.getElem_cons_zero]
    unfold szP
    omega
  · dsimp only at hi hm ⊢
    rw [List.length_append, List.length_singleton] at hi
    rw [putW_get _ _ _ _ hfit, rawB_len]
    by_cases e : i < s.2.2.1.length
    · have e1 : (s.2.2.1 ++ [x])[i] = s.2.2.1[i] := List.getElem_append_left e
      simp only [e1] at hm ⊢
      rw [posO_append (by omega)]
      have := h.pos_in hb e
      rw [if_neg (by omega)]
      exact h.raw i e hk m hm hc
    · have : i = s.2.2.1.length := by omega
      subst this
      have e1 : (s.2.2.1 ++ [x])[s.2.2.1.length]'(by simp) = x := by simp
      simp only [e1] at hm ⊢
      rw [posO_append (Nat.le_refl _), ← h.next]
      unfold szP at hm
      rw [if_pos (by omega), show s.2.1 + m - s.2.1 = m by omega]
      rw [List.getD_eq_getElem?_getD, List.getElem?_eq_getElem (by rw [rawB_len]; omega), rawB_get]
      rfl
  · rcases putW_mem hy with q | q
    · exact h.rng y q
    · unfold rawB at q
      obtain ⟨z, -, rfl⟩ := List.mem_map.1 q
      exact getD_mem_or hW
/-- A kid is told anew. -/
theorem CI.set (h : CI T k j s) (hb : heapB T = true) (hk : k < s.2.2.1.length) (hj : 1 ≤ j) (hj2 : j < szP T.1 s.2.2.1[k]) {y : Int} (hy : InR y) : CI T k (j + 1) (s.1.set (posO T.1 (T.2.1 - T.2.2.1).toNat s.2.2.1 k + j) y, s.2) := by
  refine ⟨h.inv, h.nlen, h.npos, h.next, by simpa using h.tlen, fun i hi hki m hm hc => ?_, fun z hz => ?_⟩
  · have h0 := h.raw i hi hki m hm (by omega)
    have hp := h.pos_in hb hk
    dsimp only
    rw [List.getD_eq_getElem?_getD, List.getElem?_set_ne, ← List.getD_eq_getElem?_getD]
    · exact h0
    · intro e
      by_cases e2 : i = k
      · subst e2; omega
      · have h1 : posO T.1 (T.2.1 - T.2.2.1).toNat s.2.2.1 (k + 1) ≤ posO T.1 (T.2.1 - T.2.2.1).toNat s.2.2.1 i := posO_le (by omega) (by have : i < s.2.2.1.length := hi; omega)
        rw [posO_succ hk] at h1
        omega
  · rcases List.mem_or_eq_of_mem_set hz with q | rfl
    · exact h.rng z q
    · exact hy
theorem CI.done (h : CI T k j s) : CI T (k + 1) 1 s := ⟨h.inv, h.nlen, h.npos, h.next, h.tlen, fun i hi hk m hm hc => h.raw i hi (by omega) m hm (.inl (by omega)), h.rng⟩
theorem ref_in {n : Int} : InR (refWordF n) := by
  unfold refWordF InR
  split
  · rename_i h; have := inB_yes h; omega
  · omega
/-- Any word of a right heap. -/
theorem CI.mv (h : CI T k j s) (hW : ∀ y ∈ T.1, InR y) (hb : heapB T = true) {x : Int} (hx : thereB (plT T).1 x = true) (hr : InR x) : CI T k j (mvF T.1 s x).1 ∧ InR (mvF T.1 s x).2 := by
  unfold thereB at hx
  by_cases h1 : x % 2 = 0
  · rw [if_pos h1] at hx
    have hm : x / 2 ∈ (plT T).1 := of_decide_eq_true hx
    by_cases h2 : x / 2 ∈ s.2.2.1
    · rw [mv_old h1 h2]; exact ⟨h, ref_in⟩
    · rw [mv_new h1 h2]; exact ⟨h.new hW hb hm h2, ref_in⟩
  · rw [mv_odd h1]; exact ⟨h, hr⟩
end

end Go.Proofs.YthpdkjenadngoaaGreatDoor.heap
