/-
  What follows of a block that was put into a heap (chapter 17): told in plain data.
-/
import Derived.Test.YtempmfpnngbbeabB1
import Derived.Test.YtempmfpnngbbeabB2
import Derived.Test.YtempmfpnngbbeabB3
import Derived.Test.YtempmfpnngbbeabB4
import Derived.Test.YtempmfpnngbbeabB5
import Derived.Test.YtempmfpnngbbeabB6
import Derived.Test.YtempmfpnngbbeabB7
import Derived.Test.YtempmfpnngbbeabB8
import Derived.Test.YtempmfpnngbbeabB9
import Derived.Test.YtempmfpnngbbeabB10
import Derived.Test.YtempmfpnngbbeabB11
import Derived.Test.YtempmfpnngbbeabB12
import Derived.Test.YtempmfpnngbbeabB13
import Derived.Test.YtempmfpnngbbeabB14
import Derived.Test.YtempmfpnngbbeabB15
import Derived.Test.YtempmfpnngbbeabB16
import Derived.Test.YtempmfpnngbbeabB17
import Derived.Test.YtempmfpnngbbeabB18
import Derived.Test.YtempmfpnngbbeabB19
import Derived.Test.YtempmfpnngbbeabB20
namespace Go.Proofs.Ytempmfpnngbbeab.heap
open Go Go.RowKit Go.Proofs.Ytempmfpnngbbeab.rose Go.Proofs.Ytempmfpnngbbeab Go.Proofs.Ytempmfpnngbbeab.fun
set_option linter.unusedVariables false
set_option linter.unusedSimpArgs false

theorem alloc_yes {T : HeapD} {fn : Bool} {tag : Int} {kids : List Int} (h : (allocF T fn tag kids).2.2 = true) : allocF T fn tag kids = (moreF T fn tag kids, T.2.2.2, true) ∧ heapB T = true ∧ inB tag 0 3000 = true ∧ kids.length ≤ 20 ∧ (kids.length : Int) < T.2.2.1 + T.2.1 - T.2.2.2 ∧ heapB (moreF T fn tag kids) = true := by
  unfold allocF at h ⊢
  split at h
  · rename_i q
    rw [if_pos q]
    simp only [Bool.and_eq_true, decide_eq_true_eq] at q
    exact ⟨rfl, q.1.1.1.1, q.1.1.1.2, q.1.1.2, q.1.2, q.2⟩
  · cases h
theorem alloc_no {T : HeapD} {fn : Bool} {tag : Int} {kids : List Int} (h : (allocF T fn tag kids).2.2 = false) : allocF T fn tag kids = (T, 0, false) := by
  unfold allocF at h ⊢
  split at h
  · cases h
  · rename_i q
    rw [if_neg q]

theorem badH_room {h r r' : Int} (hb : badH h r = false) (hr : r ≤ r') : badH h r' = false := by
  unfold badH at hb ⊢
  simp only [Bool.or_eq_false_iff, decide_eq_false_iff_not] at hb ⊢
  refine ⟨hb.1, by omega⟩
/-- One more block behind all: its place is the last one. -/
theorem plF_one {W W' : List Int} {N N' : Nat} (hs : ∀ i, i < N → W'.getD i 0 = W.getD i 0) (hb : badH (W'.getD N 0) ((N' : Int) - N) = false) (he : N + 1 + (manyF (W'.getD N 0)).toNat = N') : ∀ {p : Nat}, p ≤ N → (plF W N p).2 = true → plF W' N' p = ((plF W N p).1 ++ [(N : Int)], true) := by
  intro p
  induction hd : N - p using Nat.strongRecOn generalizing p with
  | _ d ih =>
    intro hp hok
    by_cases hlt : p < N
    · rcases hq : badH (W.getD p 0) ((N : Int) - p) with _ | _
      · rw [plF_more hlt hq] at hok ⊢
        have hm := many_in (W.getD p 0)
        have hq2 := hq
        unfold badH at hq2
        simp only [Bool.or_eq_false_iff, decide_eq_false_iff_not] at hq2
        have hr : badH (W'.getD p 0) ((N' : Int) - p) = false := by rw [hs p hlt]; exact badH_room hq (by omega)
        rw [plF_more (by omega) hr, hs p hlt, ih (N - (p + 1 + (manyF (W.getD p 0)).toNat)) (by omega) rfl (by omega) hok]
        rfl
      · rw [plF_bad hlt hq] at hok; cases hok
    · obtain rfl : p = N := by omega
      rw [plF_end (Nat.le_refl _), plF_more (by omega) hb, he, plF_end (Nat.le_refl _)]
      rfl

theorem head_parts {fn : Bool} {tag : Int} {m : Nat} (h0 : 0 ≤ tag) (hm : m ≤ 20) : funF (headW fn tag m) = fn ∧ tagF (headW fn tag m) = tag ∧ manyF (headW fn tag m) = m := by
  unfold funF tagF manyF headW
  have e1 : (2 * (2 * (64 * tag + (m : Int)) + (if fn then 1 else 0)) + 1) / 2 = 2 * (64 * tag + (m : Int)) + (if fn then 1 else 0) := by omega
  have e2 : (2 * (64 * tag + (m : Int)) + (if fn then 1 else 0)) / 2 = 64 * tag + (m : Int) := by split <;> omega
  rw [e1, e2]
  refine ⟨?_, ?_, by omega⟩
  · cases fn
    · simp only [Bool.false_eq_true, if_false]; apply decide_eq_false; omega
    · simp only [if_true]; apply decide_eq_true; omega
  · rw [Int.tdiv_eq_ediv_of_nonneg (by omega)]; omega

section
variable {T : HeapD} {fn : Bool} {tag : Int} {kids : List Int}
/-- Where the words of the new block lie; all else is as it was. -/
theorem more_get (hT : heapB T = true) (hl : (kids.length : Int) < T.2.2.1 + T.2.1 - T.2.2.2) (i : Nat) : (moreF T fn tag kids).1.getD i 0 = if T.2.2.2.toNat ≤ i ∧ i < T.2.2.2.toNat + (kids.length + 1) then (headW fn tag kids.length :: kids).getD (i - T.2.2.2.toNat) 0 else T.1.getD i 0 := by
  have hh : headB T = true := by unfold heapB at hT; simp only [Bool.and_eq_true] at hT; exact hT.1.1
  have h1 := head_in hh
  have := putW_get (headW fn tag kids.length :: kids) T.1 T.2.2.2.toNat i (by rw [List.length_cons]; omega)
  rw [List.length_cons] at this
  exact this
theorem more_places (hT : heapB T = true) (h0 : inB tag 0 3000 = true) (hk : kids.length ≤ 20) (hl : (kids.length : Int) < T.2.2.1 + T.2.1 - T.2.2.2) : plT (moreF T fn tag kids) = ((plT T).1 ++ [T.2.2.2], true) := by
  have hh : headB T = true := by unfold heapB at hT; simp only [Bool.and_eq_true] at hT; exact hT.1.1
  have h1 := head_in hh
  have h2 := inB_yes h0
  obtain ⟨p1, p2, p3⟩ := head_parts (fn := fn) (tag := tag) (m := kids.length) h2.1 hk
  have hN : (moreF T fn tag kids).1.getD T.2.2.2.toNat 0 = headW fn tag kids.length := by
    rw [more_get hT hl, if_pos (by omega), Nat.sub_self]; rfl
  have hpos : 0 ≤ headW fn tag kids.length := by unfold headW; split <;> omega
  have hodd : headW fn tag kids.length % 2 = 1 := by unfold headW; omega
  have hX := plF_one (W := T.1) (W' := (moreF T fn tag kids).1) (N := T.2.2.2.toNat) (N' := T.2.2.2.toNat + 1 + kids.length) (fun i hi => by rw [more_get hT hl, if_neg (by omega)])
    (by rw [hN]; unfold badH; simp only [Bool.or_eq_false_iff, decide_eq_false_iff_not]; rw [p2, p3]; omega) (by rw [hN, p3]; omega) (p := T.2.2.1.toNat) (by omega) (heapB_places_ok hT)
  have e1 : (moreF T fn tag kids).2.2.2.toNat = T.2.2.2.toNat + 1 + kids.length := by show (T.2.2.2 + 1 + kids.length : Int).toNat = _; omega
  show plF (moreF T fn tag kids).1 (moreF T fn tag kids).2.2.2.toNat T.2.2.1.toNat = _
  rw [e1, hX]
  have e2 : ((T.2.2.2.toNat : Nat) : Int) = T.2.2.2 := by omega
  rw [e2]
  rfl
/-- What was allocated is there. -/
theorem more_block (hT : heapB T = true) (h0 : inB tag 0 3000 = true) (hk : kids.length ≤ 20) (hl : (kids.length : Int) < T.2.2.1 + T.2.1 - T.2.2.2) (hM : heapB (moreF T fn tag kids) = true) : blockF (moreF T fn tag kids) T.2.2.2 = (fn, tag, kids, true) := by
  have hh : headB T = true := by unfold heapB at hT; simp only [Bool.and_eq_true] at hT; exact hT.1.1
  have h1 := head_in hh
  have h2 := inB_yes h0
  obtain ⟨p1, p2, p3⟩ := head_parts (fn := fn) (tag := tag) (m := kids.length) h2.1 hk
  have hN : (moreF T fn tag kids).1.getD T.2.2.2.toNat 0 = headW fn tag kids.length := by
    rw [more_get hT hl, if_pos (by omega), Nat.sub_self]; rfl
  unfold blockF
  rw [hM, more_places hT h0 hk hl]
  rw [if_pos (by simp), hN, p1, p2, p3]
  simp only [Prod.mk.injEq, true_and, and_true]
  have hlen : (moreF T fn tag kids).1.length = T.1.length := putW_length _ _ _
  apply List.ext_getElem?
  intro j
  rw [List.getElem?_take]
  by_cases hj : j < kids.length
  · have hg := more_get (fn := fn) (tag := tag) (kids := kids) hT hl (T.2.2.2.toNat + 1 + j)
    rw [if_pos (by omega), show T.2.2.2.toNat + 1 + j - T.2.2.2.toNat = j + 1 by omega, List.getD_cons_succ] at hg
    rw [if_pos (by omega), List.getElem?_drop, List.getElem?_eq_getElem hj]
    have hb : T.2.2.2.toNat + 1 + j < (moreF T fn tag kids).1.length := by rw [hlen]; omega
    rw [List.getElem?_eq_getElem hb]
    rw [List.getD_eq_getElem?_getD, List.getD_eq_getElem?_getD, List.getElem?_eq_getElem hb, List.getElem?_eq_getElem hj] at hg
    simpa using hg
  · rw [if_neg (by omega), List.getElem?_eq_none (by omega)]
theorem more_room (hT : heapB T = true) (hM : heapB (moreF T fn tag kids) = true) : roomF (moreF T fn tag kids) = roomF T - 1 - kids.length := by
  unfold roomF
  rw [hT, hM]
  show T.2.2.1 + T.2.1 - (T.2.2.2 + 1 + kids.length) = _
  simp only [if_true]
  omega
theorem more_same (hT : heapB T = true) (hl : (kids.length : Int) < T.2.2.1 + T.2.1 - T.2.2.2) {i : Nat} (hi : (i : Int) < T.2.2.2) : (moreF T fn tag kids).1.getD i 0 = T.1.getD i 0 := by
  rw [more_get hT hl, if_neg (by omega)]
end

/-- A kid that was right is right still. -/
theorem there_more {l : List Int} {n x : Int} : thereB (l ++ [n]) x = (thereB l x || decide (x = 2 * n)) := by
  unfold thereB
  by_cases e : x % 2 = 0
  · rw [if_pos e, if_pos e]
    have h1 : (x / 2 = n) ↔ (x = 2 * n) := by omega
    rw [Bool.eq_iff_iff]
    simp only [decide_eq_true_eq, Bool.or_eq_true, List.mem_append, List.mem_singleton, h1]
  · rw [if_neg e, if_neg e]
    have h1 : ¬ x = 2 * n := by omega
    rw [decide_eq_false h1, Bool.or_false]

/-- The heap with one more block is right just when the new block's kids are. -/
theorem more_right {T : HeapD} {fn : Bool} {tag : Int} {kids : List Int} (hT : heapB T = true) (h0 : inB tag 0 3000 = true) (hk : kids.length ≤ 20) (hl : (kids.length : Int) < T.2.2.1 + T.2.1 - T.2.2.2) :
    heapB (moreF T fn tag kids) = kids.all fun x => thereB (plT T).1 x || decide (x = 2 * T.2.2.2) := by
  have hh : headB T = true := by unfold heapB at hT; simp only [Bool.and_eq_true] at hT; exact hT.1.1
  have h1 := head_in hh
  have h2 := inB_yes h0
  obtain ⟨p1, p2, p3⟩ := head_parts (fn := fn) (tag := tag) (m := kids.length) h2.1 hk
  have hpl := more_places (fn := fn) hT h0 hk hl
  have hN : (moreF T fn tag kids).1.getD T.2.2.2.toNat 0 = headW fn tag kids.length := by
    rw [more_get hT hl, if_pos (by omega), Nat.sub_self]; rfl
  have hhd : headB (moreF T fn tag kids) = true := by
    have e1 : (moreF T fn tag kids).1.length = T.1.length := putW_length _ _ _
    have e2 : (moreF T fn tag kids).2.1 = T.2.1 := rfl
    have e3 : (moreF T fn tag kids).2.2.1 = T.2.2.1 := rfl
    have e4 : (moreF T fn tag kids).2.2.2 = T.2.2.2 + 1 + kids.length := rfl
    unfold headB at hh ⊢
    rw [e1, e2, e3, e4]
    simp only [Bool.and_eq_true] at hh ⊢
    refine ⟨hh.1, ?_⟩
    unfold inB
    simp
    omega
  have hok : (plT (moreF T fn tag kids)).2 = true := by rw [hpl]
  have hnew : kidsB (moreF T fn tag kids) T.2.2.2.toNat = kids.all fun x => thereB (plT T).1 x || decide (x = 2 * T.2.2.2) := by
    unfold kidsB
    rw [hN, p3, hpl, Int.toNat_natCast]
    dsimp only
    have hg : ∀ k, k < kids.length → (moreF T fn tag kids).1.getD (T.2.2.2.toNat + 1 + k) 0 = kids.getD k 0 := fun k hk' => by
      rw [more_get hT hl, if_pos (by omega), show T.2.2.2.toNat + 1 + k - T.2.2.2.toNat = k + 1 by omega, List.getD_cons_succ]
    rw [Bool.eq_iff_iff, List.all_eq_true, List.all_eq_true]
    constructor
    · intro h x hx
      obtain ⟨k, hk', rfl⟩ := List.getElem_of_mem hx
      have := h k (List.mem_range.2 hk')
      rw [hg k hk', there_more] at this
      simpa [List.getD, hk'] using this
    · intro h k hk'
      rw [List.mem_range] at hk'
      rw [hg k hk', there_more]
      have := h kids[k] (List.getElem_mem hk')
      simpa [List.getD, hk'] using this
  have hold : ∀ y ∈ (plT T).1, kidsB (moreF T fn tag kids) y.toNat = true := fun y hy => by
    obtain ⟨q, rfl, hq1, hq2⟩ := plF_in (W := T.1) (nx := T.2.2.2.toNat) (p := T.2.2.1.toNat) (heapB_places_ok hT) y hy
    have hkq : kidsB T q = true := by
      unfold heapB at hT
      simp only [Bool.and_eq_true, List.all_eq_true] at hT
      have := hT.2 (q : Int) hy
      rwa [Int.toNat_natCast] at this
    rw [Int.toNat_natCast]
    have hs : ∀ i : Nat, i < T.2.2.2.toNat → (moreF T fn tag kids).1.getD i 0 = T.1.getD i 0 := fun i hi => more_same hT hl (by omega)
    refine kids_yes fun k hk' => ?_
    rw [hs q (by omega)] at hk'
    rw [hs (q + 1 + k) (by omega), hpl, there_more]
    unfold kidsB at hkq
    rw [List.all_eq_true] at hkq
    rw [hkq k (List.mem_range.2 hk')]
    rfl
  have hall : ((plT (moreF T fn tag kids)).1.all fun x => kidsB (moreF T fn tag kids) x.toNat) = kidsB (moreF T fn tag kids) T.2.2.2.toNat := by
    rw [hpl]
    dsimp only
    rw [List.all_append]
    have : ((plT T).1.all fun x => kidsB (moreF T fn tag kids) x.toNat) = true := by rw [List.all_eq_true]; exact hold
    rw [this]
    simp
  show (headB _ && _ && _) = _
  rw [hhd, hok, hall, hnew]
  rfl

end Go.Proofs.Ytempmfpnngbbeab.heap
