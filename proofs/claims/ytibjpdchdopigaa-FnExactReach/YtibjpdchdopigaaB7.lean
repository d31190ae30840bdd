/-
  What is come to from roots, and in which order (chapter 18): told in plain data; no program named.
  The model's l18Right, at every heap and all roots; nothing that was there is turned.
  What is held while blocks are gone through.
-/
import Derived.Deep.QuietTactic
import Derived.BigQuiet
import Derived.Test.YtibjpdchdopigaaB1
import Derived.Test.YtibjpdchdopigaaB2
import Derived.Test.YtibjpdchdopigaaB3
import Derived.Test.YtibjpdchdopigaaB4
import Derived.Test.YtibjpdchdopigaaB5
import Derived.Test.YtibjpdchdopigaaB6
namespace Go.Proofs.Ytibjpdchdopigaa.heap
open Go Go.RowKit Go.Proofs.Ytibjpdchdopigaa.rose Go.Proofs.Ytibjpdchdopigaa Go.Proofs.Ytibjpdchdopigaa.fun
set_option linter.unusedVariables false
set_option linter.unusedSimpArgs false

/-- Whether a heap and roots are right. -/
def rightB (T : HeapD) (rs : List Int) : Bool := heapB T && rs.all (thereB (plT T).1)
theorem right_heap {T : HeapD} {rs : List Int} (h : heapB T = false) : rightB T rs = false := by unfold rightB; rw [h]; rfl
theorem right_root {T : HeapD} {rs : List Int} {i : Nat} (hi : i < rs.length) (h : thereB (plT T).1 rs[i] = false) : rightB T rs = false := by
  unfold rightB
  have : rs.all (thereB (plT T).1) = false := by rw [List.all_eq_false]; exact ⟨_, List.getElem_mem hi, by simp [h]⟩
  rw [this]; simp
theorem right_yes {T : HeapD} {rs : List Int} (h : heapB T = true) (h2 : ∀ i (hi : i < rs.length), thereB (plT T).1 rs[i] = true) : rightB T rs = true := by
  unfold rightB
  have : rs.all (thereB (plT T).1) = true := by
    rw [List.all_eq_true]
    intro x hx
    obtain ⟨i, hi, rfl⟩ := List.getElem_of_mem hx
    exact h2 i hi
  rw [this, h]; rfl
theorem right_is {T : HeapD} {rs : List Int} (h : rightB T rs = true) : heapB T = true ∧ ∀ x ∈ rs, thereB (plT T).1 x = true := by
  unfold rightB at h
  simp only [Bool.and_eq_true] at h
  exact ⟨h.1, fun x hx => List.all_eq_true.1 h.2 x hx⟩

theorem heap_head {T : HeapD} (h : heapB T = true) : headB T = true := by
  unfold heapB at h
  simp only [Bool.and_eq_true] at h
  exact h.1.1
theorem heap_places {T : HeapD} (h : heapB T = true) : (plT T).2 = true := by
  unfold heapB at h
  simp only [Bool.and_eq_true] at h
  exact h.1.2
/-- The kid k of the block at p. -/
def kidAt (W : List Int) (p k : Nat) : Int := W.getD (p + 1 + k) 0
/-- The kids of the block at p. -/
def kidsL (W : List Int) (p : Nat) : List Int := (List.range (manyF (W.getD p 0)).toNat).map (kidAt W p)
/-- A word is met. -/
def addR (out : List Int) (x : Int) : List Int := if x % 2 = 0 ∧ x / 2 ∉ out then out ++ [x / 2] else out
def addRs (out xs : List Int) : List Int := xs.foldl addR out
/-- Block by block, from place k of the order on. -/
def scanF (W : List Int) : Nat → Nat → List Int → List Int
  | 0, _, out => out
  | f + 1, k, out => if h : k < out.length then scanF W f (k + 1) (addRs out (kidsL W (out[k]).toNat)) else out
/-- The blocks that are come to, in the order in which they are met. -/
def orderF (T : HeapD) (rs : List Int) : List Int := scanF T.1 (T.1.length + 1) 0 (addRs [] rs)

theorem addRs_push (out xs : List Int) (x : Int) : addRs out (xs ++ [x]) = addR (addRs out xs) x := by simp [addRs, List.foldl_append]
theorem addRs_take {out xs : List Int} {i : Nat} (h : i < xs.length) : addRs out (xs.take (i + 1)) = addR (addRs out (xs.take i)) xs[i] := by rw [List.take_succ_eq_append_getElem h, addRs_push]
theorem addR_skip {out : List Int} {x : Int} (h : x % 2 ≠ 0 ∨ x / 2 ∈ out) : addR out x = out := by unfold addR; rw [if_neg]; rintro ⟨h1, h2⟩; rcases h with h | h; exact h h1; exact h2 h
theorem addR_put {out : List Int} {x : Int} (h : x % 2 = 0) (h2 : x / 2 ∉ out) : addR out x = out ++ [x / 2] := by unfold addR; rw [if_pos ⟨h, h2⟩]
theorem kidsL_len (W : List Int) (p : Nat) : (kidsL W p).length = (manyF (W.getD p 0)).toNat := by simp [kidsL]
theorem kidsL_get {W : List Int} {p k : Nat} (h : k < (kidsL W p).length) : (kidsL W p)[k] = kidAt W p k := by simp [kidsL]
theorem scan_end {W : List Int} {f k : Nat} {out : List Int} (h : out.length ≤ k) : scanF W f k out = out := by
  cases f with
  | zero => rfl
  | succ f => rw [scanF, dif_neg (by omega)]
theorem scan_more {W : List Int} {f k : Nat} {out : List Int} (h : k < out.length) : scanF W (f + 1) k out = scanF W f (k + 1) (addRs out (kidsL W (out[k]).toNat)) := by rw [scanF, dif_pos h]

theorem nodup_len : ∀ {out L : List Int}, out.Nodup → (∀ x ∈ out, x ∈ L) → out.length ≤ L.length := by
  intro out
  induction out with
  | nil => intro L _ _; exact Nat.zero_le _
  | cons x out ih =>
    intro L hn hs
    have hx : x ∈ L := hs x List.mem_cons_self
    rw [List.nodup_cons] at hn
    have := ih (L := L.erase x) hn.2 fun y hy => by
      have hne : y ≠ x := fun e => hn.1 (by rw [← e]; exact hy)
      rw [List.mem_erase_of_ne hne]
      exact hs y (List.mem_cons_of_mem _ hy)
    rw [List.length_erase_of_mem hx] at this
    have hp : 0 < L.length := List.length_pos_of_mem hx
    simp only [List.length_cons]
    omega

/-- What is known of an order on its way. -/
structure OInv (T : HeapD) (out : List Int) : Prop where
  nodup : out.Nodup
  sub : ∀ x ∈ out, x ∈ (plT T).1
theorem OInv.nil (T : HeapD) : OInv T [] := ⟨List.nodup_nil, fun x hx => by cases hx⟩
theorem OInv.add {T : HeapD} {out : List Int} (h : OInv T out) {x : Int} (hx : thereB (plT T).1 x = true) : OInv T (addR out x) := by
  unfold addR
  split
  · rename_i hc
    unfold thereB at hx
    rw [if_pos hc.1] at hx
    have hm : x / 2 ∈ (plT T).1 := of_decide_eq_true hx
    refine ⟨?_, fun y hy => ?_⟩
    · rw [List.nodup_append]
      exact ⟨h.nodup, by simp, fun a ha b hb e => by simp only [List.mem_singleton] at hb; subst hb e; exact hc.2 ha⟩
    · rcases List.mem_append.1 hy with q | q
      · exact h.sub y q
      · simp only [List.mem_singleton] at q; subst q; exact hm
  · exact h
theorem OInv.adds {T : HeapD} {xs : List Int} : ∀ {out : List Int}, OInv T out → (∀ x ∈ xs, thereB (plT T).1 x = true) → OInv T (addRs out xs) := by
  induction xs with
  | nil => intro out h _; exact h
  | cons x xs ih => intro out h hx; exact ih (h.add (hx x List.mem_cons_self)) fun y hy => hx y (List.mem_cons_of_mem _ hy)
theorem OInv.len {T : HeapD} {out : List Int} (h : OInv T out) : out.length ≤ (plT T).1.length := nodup_len h.nodup h.sub
/-- The kids of a right heap's blocks are right. -/
theorem kids_there {T : HeapD} (h : heapB T = true) {x : Int} (hx : x ∈ (plT T).1) : ∀ y ∈ kidsL T.1 x.toNat, thereB (plT T).1 y = true := by
  intro y hy
  unfold heapB at h
  simp only [Bool.and_eq_true] at h
  have h1 : kidsB T x.toNat = true := List.all_eq_true.1 h.2 x hx
  unfold kidsL at hy
  obtain ⟨k, hk, rfl⟩ := List.mem_map.1 hy
  unfold kidsB at h1
  exact List.all_eq_true.1 h1 k hk

/-- Where a block of a right heap lies. -/
theorem place_in {T : HeapD} (h : heapB T = true) {x : Int} (hx : x ∈ (plT T).1) : ∃ z : Nat, x = z ∧ z + (manyF (T.1.getD z 0)).toNat < T.1.length := by
  obtain ⟨z, hz, -, h4⟩ := plF_in (W := T.1) (nx := T.2.2.2.toNat) (p := T.2.2.1.toNat) (heap_places h) x hx
  have := head_in (heap_head h)
  exact ⟨z, hz, by omega⟩
theorem places_len {T : HeapD} (h : heapB T = true) : (plT T).1.length ≤ T.1.length ∧ T.1.length ≤ 6000 := by
  have h1 := plF_len (W := T.1) (nx := T.2.2.2.toNat) (p := T.2.2.1.toNat)
  have h2 := head_in (heap_head h)
  unfold plT
  omega

end Go.Proofs.Ytibjpdchdopigaa.heap

namespace Go.Proofs.Ytibjpdchdopigaa.heap
open Go Go.RowKit Go.Proofs.Ytibjpdchdopigaa.rose Go.Proofs.Ytibjpdchdopigaa Go.Proofs.Ytibjpdchdopigaa.fun Go.Proofs.Ytibjpdchdopigaa.words Go.Proofs.Ytibjpdchdopigaa.ints
set_option linter.unusedVariables false
set_option linter.unusedSimpArgs false

set_option maxRecDepth 100000 in
set_option maxHeartbeats 8000000 in
theorem specRight (T : HeapD) (rs : List Int) (cs : List Value) (v : Value) (w : World) (h : heapSh.rep w (· < w.heap.size) cs T) (hv : intsSh.rep w (· < w.heap.size) [v] rs) :
    Calls Try.prog 19 #[.agg cs.toArray, v] w fun e w' => e = .returned (.bool (rightB T rs)) ∧ Below w.heap.size w w' := by
  have AH : Hid (∀ w' : World, Below w.heap.size w w' → heapSh.rep w' (· < w'.heap.size) cs T) := fun w' hb => heapSh.mono (heapSh.below h hb) fun b hlt => Nat.lt_of_lt_of_le hlt hb.size
  obtain ⟨W, a0, c0, half, base, next, rfl, rfl, f0, f1, f2, f3⟩ := heap_open h
  obtain ⟨ar, cr, rfl, hcap, hmax, hat⟩ := ints_open hv
  have HA : Hid _ := hat
  have hmx : (rs.length : Int) ≤ 9223372036854775807 := by unfold maxLen at hmax; omega
  obtain ⟨r, hr⟩ : ∃ r, r = rightB (W, half, base, next) rs := ⟨_, rfl⟩
  have HR : Hid (r = rightB (W, half, base, next) rs) := hr
  rw [← hr]
  have BA : Hid (Below w.heap.size w (w.alloc (.cells #[.slice a0 W.length c0, .int .i64 half, .int .i64 base, .int .i64 next] 27))) := (Below.refl _ _).alloc (Nat.le_refl _) _
  have A0 : Hid (ArgK w (w.alloc (.cells #[.slice a0 W.length c0, .int .i64 half, .int .i64 base, .int .i64 next] 27)) [.slice a0 W.length c0, .int .i64 half, .int .i64 base, .int .i64 next] 27) := ArgK.new _ _ _ rfl
  have hcall := specHeapOk (W, half, base, next) _ _ (AH.out _ BA.out)
  clear h hv f0 hr hcap hmax hat f1 f2 f3
  rcases q1 : heapB (W, half, base, next) with _ | _
  · have HF : Hid (r = false) := by show _ = _; rw [HR.out]; exact right_heap q1
    rw [q1] at hcall
    clear q1
    go_enter Try.func19, Try.ntmps19
    go_wp2_with fail
    refine hcall.mono ?_
    rintro e w1 ⟨rfl, hb⟩
    have A1 := A0.out.on hb
    clear hcall hb
    go_wp2
    go_ret
    exact ⟨ret_b HF.out.symm, A1.bel⟩
  · rw [q1] at hcall
    have Q1 : Hid (heapB (W, half, base, next) = true) := q1
    clear q1
    go_enter Try.func19, Try.ntmps19
    go_wp2_with fail
    refine hcall.mono ?_
    rintro e w1 ⟨rfl, hb⟩
    have A1 : Hid (ArgK w w1 [.slice a0 W.length c0, .int .i64 half, .int .i64 base, .int .i64 next] 27) := A0.out.on hb
    have hcall2 := specPlacesOf (W, half, base, next) _ w1 (heap_head Q1.out) (AH.out _ A1.out.bel)
    rw [heap_places Q1.out] at hcall2
    have k0 : w1.cell? ⟨w.heap.size, 0, none⟩ = some (.slice a0 W.length c0) := A1.out.cell 0 rfl
    have k1 : w1.cell? ⟨w.heap.size, 1, none⟩ = some (.int .i64 half) := A1.out.cell 1 rfl
    have k2 : w1.cell? ⟨w.heap.size, 2, none⟩ = some (.int .i64 base) := A1.out.cell 2 rfl
    have k3 : w1.cell? ⟨w.heap.size, 3, none⟩ = some (.int .i64 next) := A1.out.cell 3 rfl
    clear hcall hb
    go_wp2_with fail
    refine hcall2.mono ?_
    rintro e w2 ⟨⟨v2, l, rfl, hr2, hl2⟩, hb2⟩
    have hle := hl2 (by first | rfl | trivial)
    have A2 : Hid (Below w.heap.size w w2) := (A1.out.on hb2).bel
    have REP : Hid (intsSh.rep w2 (· < w2.heap.size) [v2] l) := intsSh.mono (intsp_rep hr2.sp) fun q hq => hq.2
    have HLE : Hid (l = (plT (W, half, base, next)).1) := hle
    clear hcall2 hr2 hl2 hb2 hle k0 k1 k2 k3 A1 A0 BA AH
    go_wp2
    go_loopw [7] (fun v7 wr => ∃ i : Nat, i ≤ rs.length ∧ v7 = .int .i64 i ∧ wr = w2 ∧ Hid (∀ j (hj : j < rs.length), j < i → thereB l rs[j] = true)) (fun v7 _ => rs.length - (intOf v7).toNat)
    case atStart => exact ⟨0, Nat.zero_le _, rfl, rfl, fun j _ hj => absurd hj (Nat.not_lt_zero _)⟩
    case round =>
      obtain ⟨i, hi, rfl, hwr, HJ⟩ := hrel
      subst wr
      by_cases hlt : i < rs.length
      · obtain ⟨b', o, rfl, hS, hc, -⟩ := HA.out i hlt
        have e0 : w2.cell? ⟨b', o + i, none⟩ = some (.int .i64 rs[i]) := (A2.out.cell (p := ⟨b', o + i, none⟩) hS).trans hc
        have iI : (i : Int) < (rs.length : Int) := by omega
        clear hc
        rcases q2 : thereB l rs[i] with _ | _
        · have HF : Hid (r = false) := by show _ = _; rw [HR.out]; exact right_root hlt (by rw [← HLE.out]; exact q2)
          have hc3 := there_is v2 w2 q2 REP.out
          generalize rs[i] = y at e0 hc3
          clear q2
          go_wp2_with fail
          refine hc3.mono ?_
          rintro e w3 ⟨rfl, hx⟩
          subst w3
          clear hc3
          go_wp2
          go_ret
          exact ⟨ret_b HF.out.symm, A2.out⟩
        · have HN : Hid (∀ j (hj : j < rs.length), j < i + 1 → thereB l rs[j] = true) := fun j hj h1 => by
            by_cases e : j = i
            · subst e; exact q2
            · exact HJ.out j hj (by omega)
          have hc3 := there_is v2 w2 q2 REP.out
          generalize rs[i] = y at e0 hc3
          clear q2
          go_wp2_with fail
          refine hc3.mono ?_
          rintro e w3 ⟨rfl, hx⟩
          subst w3
          clear hc3
          go_wp2
          go_round
          case rel => exact ⟨i + 1, by omega, by go_num, by first | rfl | trivial, HN⟩
          case measure => simp [intOf]; omega
      · obtain rfl : i = rs.length := by omega
        have HF : Hid (r = true) := by show _ = _; rw [HR.out]; exact right_yes Q1.out fun j hj => by rw [← HLE.out]; exact HJ.out j hj hj
        go_wp2
        go_ret
        exact ⟨ret_b HF.out.symm, A2.out⟩

end Go.Proofs.Ytibjpdchdopigaa.heap

namespace Go.Proofs.Ytibjpdchdopigaa.heap
open Go Go.RowKit Go.Proofs.Ytibjpdchdopigaa.rose Go.Proofs.Ytibjpdchdopigaa Go.Proofs.Ytibjpdchdopigaa.fun Go.Proofs.Ytibjpdchdopigaa.words Go.Proofs.Ytibjpdchdopigaa.ints
set_option linter.unusedVariables false
set_option linter.unusedSimpArgs false

theorem getD_in {W : List Int} (h : ∀ x ∈ W, InR x) (p : Nat) : InR (W.getD p 0) := by
  rcases Nat.lt_or_ge p W.length with q | q
  · rw [getD_at q]; exact h _ (List.getElem_mem q)
  · rw [List.getD_eq_getElem?_getD, List.getElem?_eq_none q]; unfold InR; decide
theorem half_in {x : Int} (h : InR x) : InR (x / 2) := by unfold InR at *; omega
/-- The order has grown by one. -/
theorem HK.push {w wr w3 : World} {cs : List Value} {v : Value} {l : List Int} {x : Int} {X : Obj} {a3 : Option Addr} {c3 : Nat} (h : HK w wr cs v l) (hx : InR x) (hX : w.heap.size + 1 ≤ wr.heap.size)
    (o3 : w3.ownsRow (w.heap.size + 1) 3 1 (.slice a3 (l.length + 1) c3) (l.length + 1) (l.map (Value.int .i64) ++ [.int .i64 x])) (g3 : (wr.alloc X).grownBy w3 v.ownBlock) : HK w w3 cs (.slice a3 (l ++ [x]).length c3) (l ++ [x]) := by
  have hl := h.arg.lt
  have hz : (wr.alloc X).heap.size = wr.heap.size + 1 := by simp
  have hs := h.arg.bel.size
  refine ⟨⟨(h.arg.bel.alloc hs _).grown g3 (by omega) (fun k hk => by have := (h.row.lt k hk).1; omega), ?_⟩, irow_push o3 h.row.2 hx⟩
  rw [g3.block w.heap.size (by omega) (fun e => by have := (h.row.lt _ e.symm).1; omega), Below.heap_alloc _ _ _ hl]
  exact h.arg.blk
theorem HK.lt1 {w wr : World} {cs : List Value} {v : Value} {l : List Int} (h : HK w wr cs v l) : w.heap.size + 1 ≤ wr.heap.size := h.arg.lt

end Go.Proofs.Ytibjpdchdopigaa.heap
