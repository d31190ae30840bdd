/-
  What is right of a heap (chapter 17): told in plain data; no program named.
-/
import Derived.Test.YtempmfpnngbbeabHeapSh
import Derived.Test.YtempmfpnngbbeabInB
namespace Go.Proofs.Ytempmfpnngbbeab.heap
open Go Go.RowKit Go.Proofs.Ytempmfpnngbbeab.rose Go.Proofs.Ytempmfpnngbbeab Go.Proofs.Ytempmfpnngbbeab.fun
set_option linter.unusedVariables false

/-- The parts of a header. -/
def funF (h : Int) : Bool := decide (h / 2 % 2 = 1)
def tagF (h : Int) : Int := Int.tdiv (h / 2 / 2) 64
def manyF (h : Int) : Int := h / 2 / 2 % 64
theorem many_in (h : Int) : 0 ≤ manyF h ∧ manyF h ≤ 63 := by unfold manyF; omega
/-- Whether it is no header of a block that there is room for. -/
def badH (h room : Int) : Bool := decide (h < 0) || decide (h % 2 = 0) || decide (3000 < tagF h) || decide (20 < manyF h) || decide (room ≤ manyF h)
/-- The places of blocks from p on; whether they are one behind the other. -/
def plF (W : List Int) (nx : Nat) (p : Nat) : List Int × Bool :=
  if h : p < nx then
    if badH (W.getD p 0) ((nx : Int) - p) then ([], false)
    else ((p : Int) :: (plF W nx (p + 1 + (manyF (W.getD p 0)).toNat)).1, (plF W nx (p + 1 + (manyF (W.getD p 0)).toNat)).2)
  else ([], true)
termination_by nx - p
decreasing_by all_goals omega
theorem plF_end {W : List Int} {nx p : Nat} (h : nx ≤ p) : plF W nx p = ([], true) := by rw [plF, dif_neg (by omega)]
theorem plF_bad {W : List Int} {nx p : Nat} (h : p < nx) (hb : badH (W.getD p 0) ((nx : Int) - p) = true) : plF W nx p = ([], false) := by rw [plF, dif_pos h, if_pos hb]
theorem plF_more {W : List Int} {nx p : Nat} (h : p < nx) (hb : badH (W.getD p 0) ((nx : Int) - p) = false) : plF W nx p = ((p : Int) :: (plF W nx (p + 1 + (manyF (W.getD p 0)).toNat)).1, (plF W nx (p + 1 + (manyF (W.getD p 0)).toNat)).2) := by
  rw [plF, dif_pos h, hb]; simp
/-- What is known of such a place: its block lies ahead of nx. -/
theorem plF_in {W : List Int} {nx : Nat} : ∀ {p : Nat}, (plF W nx p).2 = true → ∀ x ∈ (plF W nx p).1, ∃ q : Nat, x = q ∧ p ≤ q ∧ q + (manyF (W.getD q 0)).toNat < nx := by
  intro p
  induction hd : nx - p using Nat.strongRecOn generalizing p with
  | _ d ih =>
    intro hok x hx
    by_cases hp : p < nx
    · rcases hb : badH (W.getD p 0) ((nx : Int) - p) with _ | _
      · rw [plF_more hp hb] at hok hx
        rcases List.mem_cons.1 hx with rfl | hx
        · refine ⟨p, rfl, Nat.le_refl _, ?_⟩
          have hm := many_in (W.getD p 0)
          unfold badH at hb
          simp only [Bool.or_eq_false_iff, decide_eq_false_iff_not] at hb
          omega
        · obtain ⟨q, rfl, h1, h2⟩ := ih (nx - (p + 1 + (manyF (W.getD p 0)).toNat)) (by omega) rfl hok x hx
          exact ⟨q, rfl, by omega, h2⟩
      · rw [plF_bad hp hb] at hok; cases hok
    · rw [plF_end (by omega)] at hx; cases hx
theorem plF_len {W : List Int} {nx : Nat} : ∀ {p : Nat}, (plF W nx p).1.length ≤ nx - p := by
  intro p
  induction hd : nx - p using Nat.strongRecOn generalizing p with
  | _ d ih =>
    by_cases hp : p < nx
    · rcases hb : badH (W.getD p 0) ((nx : Int) - p) with _ | _
      · rw [plF_more hp hb, List.length_cons]
        have := ih (nx - (p + 1 + (manyF (W.getD p 0)).toNat)) (by omega) rfl
        omega
      · rw [plF_bad hp hb]; simp
    · rw [plF_end (by omega)]; simp
/-- Whether a word is an int of a word, or one of those places. -/
def thereB (l : List Int) (x : Int) : Bool := if x % 2 = 0 then decide (x / 2 ∈ l) else inB (x / 2) (-1073741824) 1073741823
/-- Whether a heap's numbers are right. -/
def headB (T : HeapD) : Bool := inB T.2.1 1 3000 && decide ((T.1.length : Int) = 2 * T.2.1) && (decide (T.2.2.1 = 0) || decide (T.2.2.1 = T.2.1)) && inB T.2.2.2 T.2.2.1 (T.2.2.1 + T.2.1)
/-- Its blocks' places. -/
def plT (T : HeapD) : List Int × Bool := plF T.1 T.2.2.2.toNat T.2.2.1.toNat
/-- Whether the kids of the block at q are right. -/
def kidsB (T : HeapD) (q : Nat) : Bool := (List.range (manyF (T.1.getD q 0)).toNat).all fun k => thereB (plT T).1 (T.1.getD (q + 1 + k) 0)
def heapB (T : HeapD) : Bool := headB T && (plT T).2 && (plT T).1.all fun x => kidsB T x.toNat
theorem kids_no {T : HeapD} {q k : Nat} (hk : k < (manyF (T.1.getD q 0)).toNat) (h : thereB (plT T).1 (T.1.getD (q + 1 + k) 0) = false) : kidsB T q = false := by
  unfold kidsB; rw [List.all_eq_false]; exact ⟨k, List.mem_range.2 hk, by rw [h]; decide⟩
theorem kids_yes {T : HeapD} {q : Nat} (h : ∀ k, k < (manyF (T.1.getD q 0)).toNat → thereB (plT T).1 (T.1.getD (q + 1 + k) 0) = true) : kidsB T q = true := by
  unfold kidsB; rw [List.all_eq_true]; exact fun k hk => h k (List.mem_range.1 hk)
theorem heapB_head {T : HeapD} (h : headB T = false) : heapB T = false := by unfold heapB; rw [h]; rfl
theorem heapB_places {T : HeapD} (h : (plT T).2 = false) : heapB T = false := by unfold heapB; rw [h]; simp
theorem heapB_kids {T : HeapD} {i : Nat} (hi : i < (plT T).1.length) (h : kidsB T ((plT T).1[i]).toNat = false) : heapB T = false := by
  unfold heapB
  have : ((plT T).1.all fun x => kidsB T x.toNat) = false := by rw [List.all_eq_false]; exact ⟨_, List.getElem_mem hi, by simp [h]⟩
  rw [this]; simp
theorem heapB_yes {T : HeapD} (h1 : headB T = true) (h2 : (plT T).2 = true) (h3 : ∀ i (hi : i < (plT T).1.length), kidsB T ((plT T).1[i]).toNat = true) : heapB T = true := by
  unfold heapB
  have : ((plT T).1.all fun x => kidsB T x.toNat) = true := by
    rw [List.all_eq_true]
    intro x hx
    obtain ⟨i, hi, rfl⟩ := List.getElem_of_mem hx
    exact h3 i hi
  rw [this, h1, h2]; rfl
theorem head_in {T : HeapD} (h : headB T = true) : 1 ≤ T.2.1 ∧ T.2.1 ≤ 3000 ∧ (T.1.length : Int) = 2 * T.2.1 ∧ (T.2.2.1 = 0 ∨ T.2.2.1 = T.2.1) ∧ T.2.2.1 ≤ T.2.2.2 ∧ T.2.2.2 ≤ T.2.2.1 + T.2.1 := by
  unfold headB at h
  simp only [Bool.and_eq_true, Bool.or_eq_true, decide_eq_true_eq] at h
  have h1 := inB_yes h.1.1.1
  have h2 := inB_yes h.2
  exact ⟨h1.1, h1.2, h.1.1.2, h.1.2, h2.1, h2.2⟩

end Go.Proofs.Ytempmfpnngbbeab.heap
