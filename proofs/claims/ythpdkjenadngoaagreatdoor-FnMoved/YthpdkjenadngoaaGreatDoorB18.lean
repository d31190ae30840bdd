/-
  What is moved is seen as it was (chapter 18): told in plain data; no program named.
-/
import Derived.Test.YthpdkjenadngoaaGreatDoorB1
import Derived.Test.YthpdkjenadngoaaGreatDoorB2
import Derived.Test.YthpdkjenadngoaaGreatDoorB3
import Derived.Test.YthpdkjenadngoaaGreatDoorB4
import Derived.Test.YthpdkjenadngoaaGreatDoorB5
import Derived.Test.YthpdkjenadngoaaGreatDoorB6
import Derived.Test.YthpdkjenadngoaaGreatDoorB7
import Derived.Test.YthpdkjenadngoaaGreatDoorB8
import Derived.Test.YthpdkjenadngoaaGreatDoorB9
import Derived.Test.YthpdkjenadngoaaGreatDoorB10
import Derived.Test.YthpdkjenadngoaaGreatDoorB11
import Derived.Test.YthpdkjenadngoaaGreatDoorB12
import Derived.Test.YthpdkjenadngoaaGreatDoorB13
import Derived.Test.YthpdkjenadngoaaGreatDoorB14
import Derived.Test.YthpdkjenadngoaaGreatDoorB15
import Derived.Test.YthpdkjenadngoaaGreatDoorB16
import Derived.Test.YthpdkjenadngoaaGreatDoorB17
namespace Go.Proofs.YthpdkjenadngoaaGreatDoor.heap
open Go Go.RowKit Go.Proofs.YthpdkjenadngoaaGreatDoor.rose Go.Proofs.YthpdkjenadngoaaGreatDoor Go.Proofs.YthpdkjenadngoaaGreatDoor.fun Go.Proofs.YthpdkjenadngoaaGreatDoor.words Go.Proofs.YthpdkjenadngoaaGreatDoor.ints
set_option linter.unusedVariables false
set_option linter.unusedSimpArgs false

theorem posO_lt {W : List Int} {b : Nat} {O : List Int} {i j : Nat} (h : i < j) (hj : j ≤ O.length) : posO W b O i < posO W b O j := by
  have h1 : posO W b O (i + 1) ≤ posO W b O j := posO_le h hj
  rw [posO_succ (by omega)] at h1
  unfold szP at h1
  omega
theorem idx_at {O : List Int} (hn : O.Nodup) {k : Nat} (hk : k < O.length) : O.idxOf O[k] = k := by
  have h1 : O.idxOf O[k] < O.length := List.idxOf_lt_length_iff.2 (List.getElem_mem hk)
  have h2 : O[O.idxOf O[k]] = O[k] := List.getElem_idxOf h1
  exact (List.getElem_inj hn).1 h2

/-- Where the block that was at y lies. -/
def piO (T : HeapD) (O : List Int) (y : Int) : Int := ((posO T.1 (toB T) O (O.idxOf y) : Nat) : Int)
/-- What is known of the words X of a heap that was moved, in the order O. -/
structure MV (T : HeapD) (O X : List Int) : Prop where
  ok : heapB T = true
  inv : OInv T O
  len : X.length = T.1.length
  hd : ∀ k (hk : k < O.length), X.getD (posO T.1 (toB T) O k) 0 = T.1.getD (O[k]).toNat 0
  kd : ∀ k (hk : k < O.length) m, 1 ≤ m → m < szP T.1 O[k] → X.getD (posO T.1 (toB T) O k + m) 0 = turnO T O (T.1.getD ((O[k]).toNat + m) 0)
  met : ∀ y ∈ O, ∀ x ∈ kidsL T.1 y.toNat, metO O x
  rng : ∀ y ∈ X, InR y
theorem mv_of {T : HeapD} {rs : List Int} (hW : ∀ y ∈ T.1, InR y) (h : rightB T rs = true) :
    MV T (orderF T rs) (endC T rs).1 ∧ collectF T rs = (((endC T rs).1, T.2.1, T.2.1 - T.2.2.1, ((posO T.1 (toB T) (orderF T rs) (orderF T rs).length : Nat) : Int)), rs.map (turnO T (orderF T rs))) ∧ ∀ y ∈ rs, metO (orderF T rs) y := by
  obtain ⟨c1, c2, c3, c4⟩ := end_is hW h
  have hd := c1.done
  have hn : (endC T rs).2.1 = posO T.1 (toB T) (orderF T rs) (orderF T rs).length := by rw [← c2]; exact c1.ci.next
  simp only [c2] at hd
  refine ⟨⟨(right_is h).1, order_inv h, c1.ci.tlen, fun k hk => ?_, fun k hk m h1 h2 => ?_, fun y hy x hx => ?_, c1.ci.rng⟩, ?_, c4⟩
  · have := (hd k hk 0 (by unfold szP; omega) (.inl hk)).1
    rwa [if_pos rfl, Nat.add_zero] at this
  · have := (hd k hk m h2 (.inl hk)).1
    rwa [if_neg (by omega)] at this
  · obtain ⟨k, hk, rfl⟩ := List.getElem_of_mem hy
    obtain ⟨j, hj, rfl⟩ := List.getElem_of_mem hx
    rw [kidsL_len] at hj
    rw [kidsL_get]
    unfold kidAt
    have := (hd k hk (j + 1) (by unfold szP; omega) (.inl hk)).2 (by omega)
    rwa [show (orderF T rs)[k].toNat + 1 + j = (orderF T rs)[k].toNat + (j + 1) by omega]
  · unfold collectF
    rw [if_pos h, hn, c3]
section
variable {T : HeapD} {O X : List Int}
theorem MV.top (h : MV T O X) : posO T.1 (toB T) O O.length ≤ 6000 ∧ ((posO T.1 (toB T) O O.length : Nat) : Int) ≤ T.2.1 - T.2.2.1 + (T.2.2.2 - T.2.2.1) := by
  have h1 := pos_room h.ok h.inv
  have h2 := head_in (heap_head h.ok)
  have h3 : ((posO T.1 (toB T) O O.length : Nat) : Int) ≤ T.2.1 - T.2.2.1 + (T.2.2.2 - T.2.2.1) := h1
  exact ⟨by omega, h3⟩
theorem MV.pi_lt (h : MV T O X) {y : Int} (hy : y ∈ O) : 0 ≤ piO T O y ∧ piO T O y ≤ 6000 := by
  have h1 := List.idxOf_lt_length_iff.2 hy
  have h2 : posO T.1 (toB T) O (O.idxOf y) ≤ posO T.1 (toB T) O O.length := posO_le (by omega) (Nat.le_refl _)
  have h3 := h.top.1
  unfold piO
  omega
theorem MV.pi_at (h : MV T O X) {k : Nat} (hk : k < O.length) : piO T O O[k] = (posO T.1 (toB T) O k : Nat) := by
  unfold piO; rw [idx_at h.inv.nodup hk]
theorem MV.pi_inj (h : MV T O X) {y z : Int} (hy : y ∈ O) (hz : z ∈ O) (e : piO T O y = piO T O z) : y = z := by
  obtain ⟨i, hi, rfl⟩ := List.getElem_of_mem hy
  obtain ⟨j, hj, rfl⟩ := List.getElem_of_mem hz
  rw [h.pi_at hi, h.pi_at hj] at e
  rcases Nat.lt_trichotomy i j with q | q | q
  · have := posO_lt (W := T.1) (b := toB T) (O := O) q (by omega); omega
  · subst q; rfl
  · have := posO_lt (W := T.1) (b := toB T) (O := O) q (by omega); omega
theorem turn_odd {x : Int} (hx : x % 2 ≠ 0) : turnO T O x = x := by unfold turnO; rw [if_pos hx]
theorem MV.turn_even (h : MV T O X) {x : Int} (hx : x % 2 = 0) (hm : x / 2 ∈ O) : turnO T O x % 2 = 0 ∧ turnO T O x / 2 = piO T O (x / 2) := by
  have h1 := h.pi_lt hm
  have h2 : turnO T O x = 2 * piO T O (x / 2) := by
    unfold turnO refWordF
    rw [if_neg (by omega)]
    have : inB ((posO T.1 (toB T) O (O.idxOf (x / 2)) : Nat) : Int) 0 6000 = true := by
      unfold inB; unfold piO at h1; simp only [Bool.and_eq_true, decide_eq_true_eq]; exact h1
    rw [if_pos this]; rfl
  omega
theorem MV.mem_pi (h : MV T O X) {out : List Int} (ho : ∀ y ∈ out, y ∈ O) {y : Int} (hy : y ∈ O) : piO T O y ∈ out.map (piO T O) ↔ y ∈ out := by
  constructor
  · intro q
    obtain ⟨z, hz, e⟩ := List.mem_map.1 q
    rw [← h.pi_inj (ho z hz) hy e]; exact hz
  · intro q; exact List.mem_map.2 ⟨y, q, rfl⟩
theorem addR_sub {out : List Int} (ho : ∀ y ∈ out, y ∈ O) {x : Int} (hx : metO O x) : ∀ y ∈ addR out x, y ∈ O := by
  intro y hy
  unfold addR at hy
  split at hy
  · rename_i q
    rcases List.mem_append.1 hy with q2 | q2
    · exact ho y q2
    · simp only [List.mem_singleton] at q2
      subst q2
      exact hx.resolve_left (by omega)
  · exact ho y hy
theorem MV.addR (h : MV T O X) {out : List Int} (ho : ∀ y ∈ out, y ∈ O) {x : Int} (hx : metO O x) : heap.addR (out.map (piO T O)) (turnO T O x) = (heap.addR out x).map (piO T O) := by
  by_cases h1 : x % 2 = 0
  · have hm : x / 2 ∈ O := hx.resolve_left (by omega)
    obtain ⟨e1, e2⟩ := h.turn_even h1 hm
    by_cases h2 : x / 2 ∈ out
    · rw [addR_skip (.inr h2), addR_skip (.inr (by rw [e2]; exact (h.mem_pi ho hm).2 h2))]
    · rw [addR_put h1 h2, addR_put e1 (by rw [e2]; exact fun q => h2 ((h.mem_pi ho hm).1 q)), List.map_append, e2]; rfl
  · rw [turn_odd h1, addR_skip (.inl h1), addR_skip (.inl h1)]
theorem MV.addRs (h : MV T O X) : ∀ (xs out : List Int), (∀ y ∈ out, y ∈ O) → (∀ x ∈ xs, metO O x) → heap.addRs (out.map (piO T O)) (xs.map (turnO T O)) = (heap.addRs out xs).map (piO T O) ∧ ∀ y ∈ heap.addRs out xs, y ∈ O := by
  intro xs
  induction xs with
  | nil => intro out ho _; exact ⟨rfl, ho⟩
  | cons x xs ih =>
    intro out ho hx
    have hx0 := hx x (List.mem_cons_self ..)
    have := ih (heap.addR out x) (addR_sub ho hx0) fun z hz => hx z (List.mem_cons_of_mem _ hz)
    refine ⟨?_, this.2⟩
    show heap.addRs (heap.addR (out.map (piO T O)) (turnO T O x)) (xs.map (turnO T O)) = _
    rw [h.addR ho hx0]; exact this.1
theorem MV.head (h : MV T O X) {y : Int} (hy : y ∈ O) : X.getD (piO T O y).toNat 0 = T.1.getD y.toNat 0 := by
  obtain ⟨k, hk, rfl⟩ := List.getElem_of_mem hy
  rw [h.pi_at hk]
  exact h.hd k hk
theorem MV.kids (h : MV T O X) {y : Int} (hy : y ∈ O) : kidsL X (piO T O y).toNat = (kidsL T.1 y.toNat).map (turnO T O) := by
  have hh := h.head hy
  obtain ⟨k, hk, rfl⟩ := List.getElem_of_mem hy
  unfold kidsL
  rw [hh, List.map_map]
  apply List.map_congr_left
  intro j hj
  have hj' := List.mem_range.1 hj
  have := h.kd k hk (j + 1) (by omega) (by unfold szP; omega)
  show kidAt X _ j = turnO T O (kidAt T.1 _ j)
  unfold kidAt
  rw [h.pi_at hk, show (((posO T.1 (toB T) O k : Nat) : Int)).toNat + 1 + j = posO T.1 (toB T) O k + (j + 1) by omega, this]
  rw [show (O[k]).toNat + (j + 1) = (O[k]).toNat + 1 + j by omega]
theorem MV.scan (h : MV T O X) : ∀ (f k : Nat) (out : List Int), (∀ y ∈ out, y ∈ O) → scanF X f k (out.map (piO T O)) = (scanF T.1 f k out).map (piO T O) := by
  intro f
  induction f with
  | zero => intro k out _; rfl
  | succ f ih =>
    intro k out ho
    by_cases hk : k < out.length
    · have hy : out[k] ∈ O := ho _ (List.getElem_mem hk)
      obtain ⟨a1, a2⟩ := h.addRs (kidsL T.1 (out[k]).toNat) out ho (h.met _ hy)
      rw [scan_more hk, scan_more (by rw [List.length_map]; exact hk), List.getElem_map, h.kids hy, a1]
      exact ih (k + 1) _ a2
    · have h1 : scanF T.1 (f + 1) k out = out := scan_end (by omega)
      have h2 : scanF X (f + 1) k (out.map (piO T O)) = out.map (piO T O) := scan_end (by rw [List.length_map]; omega)
      rw [h1, h2]
/-- The places of blocks. -/
theorem place_fine {W : List Int} {nx : Nat} : ∀ {p : Nat}, (plF W nx p).2 = true → ∀ x ∈ (plF W nx p).1, badH (W.getD x.toNat 0) ((nx : Int) - x) = false := by
  intro p
  induction hd : nx - p using Nat.strongRecOn generalizing p with
  | _ d ih =>
    intro hok x hx
    by_cases hp : p < nx
    · rcases hb : badH (W.getD p 0) ((nx : Int) - p) with _ | _
      · rw [plF_more hp hb] at hok hx
        rcases List.mem_cons.1 hx with rfl | hx
        · rw [Int.toNat_natCast]; exact hb
        · exact ih (nx - (p + 1 + (manyF (W.getD p 0)).toNat)) (by omega) rfl hok x hx
      · rw [plF_bad hp hb] at hok; cases hok
    · rw [plF_end (by omega)] at hx; cases hx
theorem bad_room {h r s : Int} (hb : badH h r = false) (hs : manyF h < s) : badH h s = false := by
  unfold badH at hb ⊢
  simp only [Bool.or_eq_false_iff, decide_eq_false_iff_not] at hb ⊢
  exact ⟨hb.1, by omega⟩
theorem MV.places (h : MV T O X) : ∀ (r k : Nat), k + r = O.length → plF X (posO T.1 (toB T) O O.length) (posO T.1 (toB T) O k) = ((O.drop k).map (piO T O), true) := by
  intro r
  induction r with
  | zero =>
    intro k hk
    have : k = O.length := by omega
    subst this
    rw [plF_end (Nat.le_refl _), List.drop_length]; rfl
  | succ r ih =>
    intro k hk
    have hk1 : k < O.length := by omega
    have hlt := posO_lt (W := T.1) (b := toB T) (O := O) hk1 (Nat.le_refl _)
    have hle : posO T.1 (toB T) O (k + 1) ≤ posO T.1 (toB T) O O.length := posO_le (by omega) (Nat.le_refl _)
    have hs := posO_succ (W := T.1) (b := toB T) (O := O) hk1
    have hb : badH (X.getD (posO T.1 (toB T) O k) 0) (((posO T.1 (toB T) O O.length : Nat) : Int) - ((posO T.1 (toB T) O k : Nat) : Int)) = false := by
      rw [h.hd k hk1]
      refine bad_room (place_fine (heap_places h.ok) _ (h.inv.sub _ (List.getElem_mem hk1))) ?_
      have := many_in (T.1.getD (O[k]).toNat 0)
      unfold szP at hs
      omega
    rw [plF_more hlt hb, h.hd k hk1]
    have e : posO T.1 (toB T) O k + 1 + (manyF (T.1.getD (O[k]).toNat 0)).toNat = posO T.1 (toB T) O (k + 1) := by unfold szP at hs; omega
    rw [e, ih (k + 1) (by omega), List.drop_eq_getElem_cons hk1, List.map_cons, h.pi_at hk1]
/-- The heap that was moved. -/
def movedT (T : HeapD) (O X : List Int) : HeapD := (X, T.2.1, T.2.1 - T.2.2.1, ((posO T.1 (toB T) O O.length : Nat) : Int))
theorem MV.base (h : MV T O X) : ((toB T : Nat) : Int) = T.2.1 - T.2.2.1 ∧ (T.2.1 - T.2.2.1 = 0 ∨ T.2.1 - T.2.2.1 = T.2.1) := by
  have h2 := head_in (heap_head h.ok)
  unfold toB
  omega
theorem MV.low (h : MV T O X) : toB T ≤ posO T.1 (toB T) O O.length := by
  have := posO_le (W := T.1) (b := toB T) (O := O) (Nat.zero_le O.length) (Nat.le_refl _)
  rwa [posO_zero] at this
theorem MV.plT (h : MV T O X) : heap.plT (movedT T O X) = (O.map (piO T O), true) := by
  have h1 := h.places O.length 0 (by omega)
  rw [posO_zero, List.drop_zero] at h1
  unfold heap.plT movedT
  dsimp only
  rw [Int.toNat_natCast]
  have : (T.2.1 - T.2.2.1).toNat = toB T := rfl
  rw [this]; exact h1
theorem MV.there (h : MV T O X) {x : Int} (hx : metO O x) (ht : thereB (heap.plT T).1 x = true) : thereB (O.map (piO T O)) (turnO T O x) = true := by
  unfold thereB at ht ⊢
  by_cases h1 : x % 2 = 0
  · have hm : x / 2 ∈ O := hx.resolve_left (by omega)
    obtain ⟨e1, e2⟩ := h.turn_even h1 hm
    rw [if_pos e1, e2]
    exact decide_eq_true (List.mem_map.2 ⟨_, hm, rfl⟩)
  · rw [turn_odd h1, if_neg h1]
    rw [if_neg h1] at ht
    exact ht
theorem MV.heap (h : MV T O X) : heapB (movedT T O X) = true := by
  have h2 := head_in (heap_head h.ok)
  have hb := h.base
  have hl := h.low
  have ht := h.top
  refine heapB_yes ?_ (by rw [h.plT]) fun i hi => ?_
  · unfold headB movedT inB
    dsimp only
    simp only [Bool.and_eq_true, Bool.or_eq_true, decide_eq_true_eq]
    have := h.len
    exact ⟨⟨⟨⟨h2.1, h2.2.1⟩, by omega⟩, hb.2⟩, by omega, by omega⟩
  · have hi' := hi
    rw [h.plT] at hi'
    dsimp only at hi'
    rw [List.length_map] at hi'
    have e : (heap.plT (movedT T O X)).1[i] = piO T O O[i] := by
      have : ∀ (L : List Int) (hL : L = O.map (piO T O)) (hi : i < L.length), L[i] = piO T O O[i] := by
        intro L hL hi; subst hL; rw [List.getElem_map]
      exact this _ (by rw [h.plT]) hi
    rw [e]
    have hy : O[i] ∈ O := List.getElem_mem hi'
    refine kids_yes fun k hk => ?_
    rw [h.plT]
    have hk2 : k < (kidsL X (piO T O O[i]).toNat).length := by rw [kidsL_len]; exact hk
    have e1 : (movedT T O X).1.getD ((piO T O O[i]).toNat + 1 + k) 0 = (kidsL X (piO T O O[i]).toNat)[k] := by rw [kidsL_get]; rfl
    rw [e1]
    have hk3 : k < (kidsL T.1 (O[i]).toNat).length := by rw [h.kids hy, List.length_map] at hk2; exact hk2
    have e2 : (kidsL X (piO T O O[i]).toNat)[k] = turnO T O (kidsL T.1 (O[i]).toNat)[k] := by
      have : ∀ (L : List Int) (hL : L = (kidsL T.1 (O[i]).toNat).map (turnO T O)) (hi : k < L.length), L[k] = turnO T O (kidsL T.1 (O[i]).toNat)[k] := by
        intro L hL hi; subst hL; rw [List.getElem_map]
      exact this _ (h.kids hy) hk2
    rw [e2]
    exact h.there (h.met _ hy _ (List.getElem_mem hk3)) (kids_there h.ok (h.inv.sub _ hy) _ (List.getElem_mem hk3))
theorem wordTx_turn (h : MV T O X) {x : Int} (hx : metO O x) : wordTx (O.map (piO T O)) (turnO T O x) = wordTx O x := by
  by_cases h1 : x % 2 = 0
  · have hm : x / 2 ∈ O := hx.resolve_left (by omega)
    obtain ⟨e1, e2⟩ := h.turn_even h1 hm
    have hi := List.idxOf_lt_length_iff.2 hm
    have hg : O[O.idxOf (x / 2)] = x / 2 := List.getElem_idxOf hi
    have hne : ∀ j (hj : j < O.length), j < O.idxOf (x / 2) → ¬ O[j] = x / 2 := by
      intro j hj hlt e
      have := idx_at h.inv.nodup hj
      rw [e] at this
      omega
    rw [wordTx_at h1 hi hg hne]
    refine wordTx_at e1 (by rw [List.length_map]; exact hi) (by rw [List.getElem_map, hg, e2]) fun j hj hlt e => ?_
    rw [List.length_map] at hj
    rw [List.getElem_map, e2] at e
    exact hne j hj hlt (h.pi_inj (List.getElem_mem hj) hm e)
  · rw [turn_odd h1, wordTx_int h1, wordTx_int h1]
theorem wordsTx_turn (h : MV T O X) : ∀ (xs : List Int) (s : ByteArray), (∀ x ∈ xs, metO O x) → wordsTx (O.map (piO T O)) s (xs.map (turnO T O)) = wordsTx O s xs := by
  intro xs
  induction xs with
  | nil => intro s _; rfl
  | cons x xs ih =>
    intro s hx
    show wordsTx _ (s ++ wordTx (O.map (piO T O)) (turnO T O x)) (xs.map (turnO T O)) = wordsTx O (s ++ wordTx O x) xs
    rw [wordTx_turn h (hx x (List.mem_cons_self ..))]
    exact ih _ fun z hz => hx z (List.mem_cons_of_mem _ hz)
theorem blockTx_turn (h : MV T O X) (s : ByteArray) {y : Int} (hy : y ∈ O) : blockTx X (O.map (piO T O)) s (piO T O y) = blockTx T.1 O s y := by
  unfold blockTx
  rw [h.head hy, h.kids hy, wordsTx_turn h _ _ (h.met y hy)]
theorem blocksTx_turn (h : MV T O X) : ∀ (L : List Int) (s : ByteArray), (∀ y ∈ L, y ∈ O) → (L.map (piO T O)).foldl (blockTx X (O.map (piO T O))) s = L.foldl (blockTx T.1 O) s := by
  intro L
  induction L with
  | nil => intro s _; rfl
  | cons y L ih =>
    intro s hL
    rw [List.map_cons, List.foldl_cons, List.foldl_cons, blockTx_turn h s (hL y (List.mem_cons_self ..))]
    exact ih _ fun z hz => hL z (List.mem_cons_of_mem _ hz)
end

/-- All that the law says of a heap that is moved. -/
structure Moved (T : HeapD) (rs : List Int) (T' : HeapD) (rs' : List Int) : Prop where
  right : rightB T' rs' = true
  shape : shapeF T' rs' = shapeF T rs
  half : T'.2.1 = T.2.1
  base : T'.2.2.1 = T.2.1 - T.2.2.1
  size : T'.2.2.2 - T'.2.2.1 = (((orderF T rs).map (szP T.1)).sum : Nat)
  sum : ((orderF T' rs').map (szP T'.1)).sum = ((orderF T rs).map (szP T.1)).sum
  room : roomF T ≤ roomF T'
  rng : ∀ y ∈ T'.1, InR y
  rlen : rs'.length = rs.length
  wlen : T'.1.length = T.1.length
theorem moved_is {T : HeapD} {rs : List Int} (hW : ∀ y ∈ T.1, InR y) (h : rightB T rs = true) : Moved T rs (collectF T rs).1 (collectF T rs).2 := by
  obtain ⟨m, e, hm⟩ := mv_of hW h
  rw [e]
  have hT : ((endC T rs).1, T.2.1, T.2.1 - T.2.2.1, ((posO T.1 (toB T) (orderF T rs) (orderF T rs).length : Nat) : Int)) = movedT T (orderF T rs) (endC T rs).1 := rfl
  rw [hT]
  dsimp only
  have hr : rightB (movedT T (orderF T rs) (endC T rs).1) (rs.map (turnO T (orderF T rs))) = true := by
    refine right_yes m.heap fun i hi => ?_
    rw [List.getElem_map, m.plT]
    rw [List.length_map] at hi
    exact m.there (hm _ (List.getElem_mem hi)) ((right_is h).2 _ (List.getElem_mem hi))
  have ho : orderF (movedT T (orderF T rs) (endC T rs).1) (rs.map (turnO T (orderF T rs))) = (orderF T rs).map (piO T (orderF T rs)) := by
    have h1 := m.addRs rs [] (fun y hy => by cases hy) hm
    have h2 := m.scan (T.1.length + 1) 0 _ h1.2
    rw [List.map_nil] at h1
    rw [← h1.1] at h2
    have e1 : (movedT T (orderF T rs) (endC T rs).1).1.length = T.1.length := m.len
    show scanF _ ((movedT T (orderF T rs) (endC T rs).1).1.length + 1) 0 _ = _
    rw [e1]
    exact h2
  have hsum : (((orderF T rs).map (piO T (orderF T rs))).map (szP (endC T rs).1)).sum = ((orderF T rs).map (szP T.1)).sum := by
    rw [List.map_map]
    congr 1
    apply List.map_congr_left
    intro y hy
    show szP (endC T rs).1 (piO T (orderF T rs) y) = szP T.1 y
    unfold szP
    rw [m.head hy]
  have hpos : posO T.1 (toB T) (orderF T rs) (orderF T rs).length = toB T + ((orderF T rs).map (szP T.1)).sum := by
    unfold posO; rw [List.take_length]
  have hb := m.base
  refine ⟨hr, ?_, rfl, rfl, ?_, by rw [ho]; exact hsum, ?_, m.rng, by rw [List.length_map], m.len⟩
  · unfold shapeF
    rw [if_pos hr, if_pos h, ho, wordsTx_turn m rs _ hm]
    exact blocksTx_turn m _ _ fun y hy => hy
  · show ((posO T.1 (toB T) (orderF T rs) (orderF T rs).length : Nat) : Int) - (T.2.1 - T.2.2.1) = _
    rw [hpos]; omega
  · unfold roomF
    rw [if_pos m.heap, if_pos m.ok]
    have ht := m.top.2
    show _ ≤ T.2.1 - T.2.2.1 + T.2.1 - ((posO T.1 (toB T) (orderF T rs) (orderF T rs).length : Nat) : Int)
    omega

/-- What is shown of what is right is not empty. -/
theorem shape_none {T : HeapD} {rs : List Int} (h : rightB T rs = false) : shapeF T rs = ⟨#[]⟩ := by
  unfold shapeF; rw [if_neg (by rw [h]; decide)]
theorem wordsTx_size (O : List Int) (xs : List Int) : ∀ s : ByteArray, s.size ≤ (wordsTx O s xs).size := by
  induction xs with
  | nil => intro s; exact Nat.le_refl _
  | cons x xs ih =>
    intro s
    have := ih (s ++ wordTx O x)
    rw [size_app] at this
    show s.size ≤ (wordsTx O (s ++ wordTx O x) xs).size
    omega
theorem blockTx_size (W O : List Int) (s : ByteArray) (p : Int) : s.size ≤ (blockTx W O s p).size := by
  unfold blockTx
  rw [size_app]
  have := wordsTx_size O (kidsL W p.toNat) (s ++ (if funF (W.getD p.toNat 0) then ⟨#[102, 117, 110]⟩ else ⟨#[99, 111, 110]⟩) ++ ⟨#[32]⟩ ++ dg (tagF (W.getD p.toNat 0)))
  rw [size_app, size_app, size_app] at this
  omega
theorem shape_some {T : HeapD} {rs : List Int} (h : rightB T rs = true) : shapeF T rs ≠ ⟨#[]⟩ := by
  have hf : ∀ (L : List Int) (s : ByteArray), s.size ≤ (L.foldl (blockTx T.1 (orderF T rs)) s).size := by
    intro L
    induction L with
    | nil => intro s; exact Nat.le_refl _
    | cons y L ih => intro s; rw [List.foldl_cons]; exact Nat.le_trans (blockTx_size _ _ s y) (ih _)
  intro e
  have h1 := hf (orderF T rs) (wordsTx (orderF T rs) ⟨#[]⟩ rs ++ ⟨#[10]⟩)
  unfold shapeF at e
  rw [if_pos h] at e
  rw [e, size_app] at h1
  have e2 : (⟨#[10]⟩ : ByteArray).size = 1 := rfl
  have e3 : (⟨#[]⟩ : ByteArray).size = 0 := rfl
  omega

end Go.Proofs.YthpdkjenadngoaaGreatDoor.heap
