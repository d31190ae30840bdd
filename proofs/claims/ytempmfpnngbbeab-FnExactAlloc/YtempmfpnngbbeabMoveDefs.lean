/-
  What is come to from roots, and in which order (chapter 18): told in plain data; no program named.
-/
import Derived.Test.YtempmfpnngbbeabHeapDefs
namespace Go.Proofs.Ytempmfpnngbbeab.heap
open Go Go.RowKit Go.Proofs.Ytempmfpnngbbeab.rose Go.Proofs.Ytempmfpnngbbeab Go.Proofs.Ytempmfpnngbbeab.fun
set_option linter.unusedVariables false
set_option linter.unusedSimpArgs false

/-- Whether a heap and roots are right. -/
def rightB (T : HeapD) (rs : List Int) : Bool := heapB T && rs.all (thereB (plT T).1)
theorem right_heap {T : HeapD} {rs : List Int} (h : heapB T = false) : rightB T rs = false := by unfold rightB; rw [h]; rfl
theorem right_root {T : HeapD} {rs : List Int} {i : Nat} (hi : i < rs.length) (h : thereB (plT T).1 rs[i] = false) : rightB T rs = false := by
  unfold rightB
  have : rs.all (thereB (plT T).1) = false := by rw [List.all_eq_false]; exact ⟨_, List.getElem_mem hi, by simp [h]⟩
  rw [this]; simp
theorem right_yes {T : HeapD} {rs : List Int} (h : heapB T = true) (h2 : ∀ i (hi : i < rs.length), thereB (plT T).1 rs[i] = true) : rightB T rs = true := by
  unfold rightB
  have : rs.all (thereB (plT T).1) = true := by
    rw [List.all_eq_true]
    intro x hx
    obtain ⟨i, hi, rfl⟩ := List.getElem_of_mem hx
    exact h2 i hi
  rw [this, h]; rfl
theorem right_is {T : HeapD} {rs : List Int} (h : rightB T rs = true) : heapB T = true ∧ ∀ x ∈ rs, thereB (plT T).1 x = true := by
  unfold rightB at h
  simp only [Bool.and_eq_true] at h
  exact ⟨h.1, fun x hx => List.all_eq_true.1 h.2 x hx⟩

theorem heap_head {T : HeapD} (h : heapB T = true) : headB T = true := by
  unfold heapB at h
  simp only [Bool.and_eq_true] at h
  exact h.1.1
theorem heap_places {T : HeapD} (h : heapB T = true) : (plT T).2 = true := by
  unfold heapB at h
  simp only [Bool.and_eq_true] at h
  exact h.1.2
/-- The kid k of the block at p. -/
def kidAt (W : List Int) (p k : Nat) : Int := W.getD (p + 1 + k) 0
/-- The kids of the block at p. -/
def kidsL (W : List Int) (p : Nat) : List Int := (List.range (manyF (W.getD p 0)).toNat).map (kidAt W p)
/-- A word is met. -/
def addR (out : List Int) (x : Int) : List Int := if x % 2 = 0 ∧ x / 2 ∉ out then out ++ [x / 2] else out
def addRs (out xs : List Int) : List Int := xs.foldl addR out
/-- Block by block, from place k of the order on. -/
def scanF (W : List Int) : Nat → Nat → List Int → List Int
  | 0, _, out => out
  | f + 1, k, out => if h : k < out.length then scanF W f (k + 1) (addRs out (kidsL W (out[k]).toNat)) else out
/-- The blocks that are come to, in the order in which they are met. -/
def orderF (T : HeapD) (rs : List Int) : List Int := scanF T.1 (T.1.length + 1) 0 (addRs [] rs)

theorem addRs_push (out xs : List Int) (x : Int) : addRs out (xs ++ [x]) = addR (addRs out xs) x := by simp [addRs, List.foldl_append]
theorem addRs_take {out xs : List Int} {i : Nat} (h : i < xs.length) : addRs out (xs.take (i + 1)) = addR (addRs out (xs.take i)) xs[i] := by rw [List.take_succ_eq_append_getElem h, addRs_push]
theorem addR_skip {out : List Int} {x : Int} (h : x % 2 ≠ 0 ∨ x / 2 ∈ out) : addR out x = out := by unfold addR; rw [if_neg]; rintro ⟨h1, h2⟩; rcases h with h | h; exact h h1; exact h2 h
theorem addR_put {out : List Int} {x : Int} (h : x % 2 = 0) (h2 : x / 2 ∉ out) : addR out x = out ++ [x / 2] := by unfold addR; rw [if_pos ⟨h, h2⟩]
theorem kidsL_len (W : List Int) (p : Nat) : (kidsL W p).length = (manyF (W.getD p 0)).toNat := by simp [kidsL]
theorem kidsL_get {W : List Int} {p k : Nat} (h : k < (kidsL W p).length) : (kidsL W p)[k] = kidAt W p k := by simp [kidsL]
theorem scan_end {W : List Int} {f k : Nat} {out : List Int} (h : out.length ≤ k) : scanF W f k out = out := by
  cases f with
  | zero => rfl
  | succ f => rw [scanF, dif_neg (by omega)]
theorem scan_more {W : List Int} {f k : Nat} {out : List Int} (h : k < out.length) : scanF W (f + 1) k out = scanF W f (k + 1) (addRs out (kidsL W (out[k]).toNat)) := by rw [scanF, dif_pos h]

theorem nodup_len : ∀ {out L : List Int}, out.Nodup → (∀ x ∈ out, x ∈ L) → out.length ≤ L.length := by
  intro out
  induction out with
  | nil => intro L _ _; exact Nat.zero_le _
  | cons x out ih =>
    intro L hn hs
    have hx : x ∈ L := hs x List.mem_cons_self
    rw [List.nodup_cons] at hn
    have := ih (L := L.erase x) hn.2 fun y hy => by
      have hne : y ≠ x := fun e => hn.1 (by rw [← e]; exact hy)
      rw [List.mem_erase_of_ne hne]
      exact hs y (List.mem_cons_of_mem _ hy)
    rw [List.length_erase_of_mem hx] at this
    have hp : 0 < L.length := List.length_pos_of_mem hx
    simp only [List.length_cons]
    omega

/-- What is known of an order on its way. -/
structure OInv (T : HeapD) (out : List Int) : Prop where
  nodup : out.Nodup
  sub : ∀ x ∈ out, x ∈ (plT T).1
theorem OInv.nil (T : HeapD) : OInv T [] := ⟨List.nodup_nil, fun x hx => by cases hx⟩
theorem OInv.add {T : HeapD} {out : List Int} (h : OInv T out) {x : Int} (hx : thereB (plT T).1 x = true) : OInv T (addR out x) := by
  unfold addR
  split
  · rename_i hc
    unfold thereB at hx
    rw [if_pos hc.1] at hx
    have hm : x / 2 ∈ (plT T).1 := of_decide_eq_true hx
    refine ⟨?_, fun y hy => ?_⟩
    · rw [List.nodup_append]
      exact ⟨h.nodup, by simp, fun a ha b hb e => by simp only [List.mem_singleton] at hb; subst hb e; exact hc.2 ha⟩
    · rcases List.mem_append.1 hy with q | q
      · exact h.sub y q
      · simp only [List.mem_singleton] at q; subst q; exact hm
  · exact h
theorem OInv.adds {T : HeapD} {xs : List Int} : ∀ {out : List Int}, OInv T out → (∀ x ∈ xs, thereB (plT T).1 x = true) → OInv T (addRs out xs) := by
  induction xs with
  | nil => intro out h _; exact h
  | cons x xs ih => intro out h hx; exact ih (h.add (hx x List.mem_cons_self)) fun y hy => hx y (List.mem_cons_of_mem _ hy)
theorem OInv.len {T : HeapD} {out : List Int} (h : OInv T out) : out.length ≤ (plT T).1.length := nodup_len h.nodup h.sub
/-- The kids of a right heap's blocks are right. -/
theorem kids_there {T : HeapD} (h : heapB T = true) {x : Int} (hx : x ∈ (plT T).1) : ∀ y ∈ kidsL T.1 x.toNat, thereB (plT T).1 y = true := by
  intro y hy
  unfold heapB at h
  simp only [Bool.and_eq_true] at h
  have h1 : kidsB T x.toNat = true := List.all_eq_true.1 h.2 x hx
  unfold kidsL at hy
  obtain ⟨k, hk, rfl⟩ := List.mem_map.1 hy
  unfold kidsB at h1
  exact List.all_eq_true.1 h1 k hk

/-- Where a block of a right heap lies. -/
theorem place_in {T : HeapD} (h : heapB T = true) {x : Int} (hx : x ∈ (plT T).1) : ∃ z : Nat, x = z ∧ z + (manyF (T.1.getD z 0)).toNat < T.1.length := by
  obtain ⟨z, hz, -, h4⟩ := plF_in (W := T.1) (nx := T.2.2.2.toNat) (p := T.2.2.1.toNat) (heap_places h) x hx
  have := head_in (heap_head h)
  exact ⟨z, hz, by omega⟩
theorem places_len {T : HeapD} (h : heapB T = true) : (plT T).1.length ≤ T.1.length ∧ T.1.length ≤ 6000 := by
  have h1 := plF_len (W := T.1) (nx := T.2.2.2.toNat) (p := T.2.2.1.toNat)
  have h2 := head_in (heap_head h)
  unfold plT
  omega

end Go.Proofs.Ytempmfpnngbbeab.heap
