/-
  What is right of a heap (chapter 17): told in plain data; no program named.
  The model's IsRef, WordInt, WordRef, l17Of and l7In, at every argument; nothing is turned.
  A slice of ints that a call has built itself, from a block number on.
  A cell of a row of the call's own is turned; a row that is kept elsewhere.
-/
import Derived.OwnWalk
import Derived.Laws.AppendOwn
import Derived.Test.YtibjpdchdopigaaB1
import Derived.Test.YtibjpdchdopigaaB2
import Derived.Test.YtibjpdchdopigaaB3
import Derived.Test.YtibjpdchdopigaaB4
namespace Go.Proofs.Ytibjpdchdopigaa.heap
open Go Go.RowKit Go.Proofs.Ytibjpdchdopigaa.rose Go.Proofs.Ytibjpdchdopigaa Go.Proofs.Ytibjpdchdopigaa.fun
set_option linter.unusedVariables false

/-- The parts of a header. -/
def funF (h : Int) : Bool := decide (h / 2 % 2 = 1)
def tagF (h : Int) : Int := Int.tdiv (h / 2 / 2) 64
def manyF (h : Int) : Int := h / 2 / 2 % 64
theorem many_in (h : Int) : 0 ≤ manyF h ∧ manyF h ≤ 63 := by unfold manyF; omega
/-- Whether it is no header of a block that there is room for. -/
def badH (h room : Int) : Bool := decide (h < 0) || decide (h % 2 = 0) || decide (3000 < tagF h) || decide (20 < manyF h) || decide (room ≤ manyF h)
/-- The places of blocks from p on; whether they are one behind the other. -/
def plF (W : List Int) (nx : Nat) (p : Nat) : List Int × Bool :=
  if h : p < nx then
    if badH (W.getD p 0) ((nx : Int) - p) then ([], false)
    else ((p : Int) :: (plF W nx (p + 1 + (manyF (W.getD p 0)).toNat)).1, (plF W nx (p + 1 + (manyF (W.getD p 0)).toNat)).2)
  else ([], true)
termination_by nx - p
decreasing_by all_goals omega
theorem plF_end {W : List Int} {nx p : Nat} (h : nx ≤ p) : plF W nx p = ([], true) := by rw [plF, dif_neg (by omega)]
theorem plF_bad {W : List Int} {nx p : Nat} (h : p < nx) (hb : badH (W.getD p 0) ((nx : Int) - p) = true) : plF W nx p = ([], false) := by rw [plF, dif_pos h, if_pos hb]
theorem plF_more {W : List Int} {nx p : Nat} (h : p < nx) (hb : badH (W.getD p 0) ((nx : Int) - p) = false) : plF W nx p = ((p : Int) :: (plF W nx (p + 1 + (manyF (W.getD p 0)).toNat)).1, (plF W nx (p + 1 + (manyF (W.getD p 0)).toNat)).2) := by
  rw [plF, dif_pos h, hb]; simp
/-- What is known of such a place: its block lies ahead of nx. -/
theorem plF_in {W : List Int} {nx : Nat} : ∀ {p : Nat}, (plF W nx p).2 = true → ∀ x ∈ (plF W nx p).1, ∃ q : Nat, x = q ∧ p ≤ q ∧ q + (manyF (W.getD q 0)).toNat < nx := by
  intro p
  induction hd : nx - p using Nat.strongRecOn generalizing p with
  | _ d ih =>
    intro hok x hx
    by_cases hp : p < nx
    · rcases hb : badH (W.getD p 0) ((nx : Int) - p) with _ | _
      · rw [plF_more hp hb] at hok hx
        rcases List.mem_cons.1 hx with rfl | hx
        · refine ⟨p, rfl, Nat.le_refl _, ?_⟩
          have hm := many_in (W.getD p 0)
          unfold badH at hb
          simp only [Bool.or_eq_false_iff, decide_eq_false_iff_not] at hb
          omega
        · obtain ⟨q, rfl, h1, h2⟩ := ih (nx - (p + 1 + (manyF (W.getD p 0)).toNat)) (by omega) rfl hok x hx
          exact ⟨q, rfl, by omega, h2⟩
      · rw [plF_bad hp hb] at hok; cases hok
    · rw [plF_end (by omega)] at hx; cases hx
theorem plF_len {W : List Int} {nx : Nat} : ∀ {p : Nat}, (plF W nx p).1.length ≤ nx - p := by
  intro p
  induction hd : nx - p using Nat.strongRecOn generalizing p with
  | _ d ih =>
    by_cases hp : p < nx
    · rcases hb : badH (W.getD p 0) ((nx : Int) - p) with _ | _
      · rw [plF_more hp hb, List.length_cons]
        have := ih (nx - (p + 1 + (manyF (W.getD p 0)).toNat)) (by omega) rfl
        omega
      · rw [plF_bad hp hb]; simp
    · rw [plF_end (by omega)]; simp
/-- Whether a word is an int of a word, or one of those places. -/
def thereB (l : List Int) (x : Int) : Bool := if x % 2 = 0 then decide (x / 2 ∈ l) else inB (x / 2) (-1073741824) 1073741823
/-- Whether a heap's numbers are right. -/
def headB (T : HeapD) : Bool := inB T.2.1 1 3000 && decide ((T.1.length : Int) = 2 * T.2.1) && (decide (T.2.2.1 = 0) || decide (T.2.2.1 = T.2.1)) && inB T.2.2.2 T.2.2.1 (T.2.2.1 + T.2.1)
/-- Its blocks' places. -/
def plT (T : HeapD) : List Int × Bool := plF T.1 T.2.2.2.toNat T.2.2.1.toNat
/-- Whether the kids of the block at q are right. -/
def kidsB (T : HeapD) (q : Nat) : Bool := (List.range (manyF (T.1.getD q 0)).toNat).all fun k => thereB (plT T).1 (T.1.getD (q + 1 + k) 0)
def heapB (T : HeapD) : Bool := headB T && (plT T).2 && (plT T).1.all fun x => kidsB T x.toNat
theorem kids_no {T : HeapD} {q k : Nat} (hk : k < (manyF (T.1.getD q 0)).toNat) (h : thereB (plT T).1 (T.1.getD (q + 1 + k) 0) = false) : kidsB T q = false := by
  unfold kidsB; rw [List.all_eq_false]; exact ⟨k, List.mem_range.2 hk, by rw [h]; decide⟩
theorem kids_yes {T : HeapD} {q : Nat} (h : ∀ k, k < (manyF (T.1.getD q 0)).toNat → thereB (plT T).1 (T.1.getD (q + 1 + k) 0) = true) : kidsB T q = true := by
  unfold kidsB; rw [List.all_eq_true]; exact fun k hk => h k (List.mem_range.1 hk)
theorem heapB_head {T : HeapD} (h : headB T = false) : heapB T = false := by unfold heapB; rw [h]; rfl
theorem heapB_places {T : HeapD} (h : (plT T).2 = false) : heapB T = false := by unfold heapB; rw [h]; simp
theorem heapB_kids {T : HeapD} {i : Nat} (hi : i < (plT T).1.length) (h : kidsB T ((plT T).1[i]).toNat = false) : heapB T = false := by
  unfold heapB
  have : ((plT T).1.all fun x => kidsB T x.toNat) = false := by rw [List.all_eq_false]; exact ⟨_, List.getElem_mem hi, by simp [h]⟩
  rw [this]; simp
theorem heapB_yes {T : HeapD} (h1 : headB T = true) (h2 : (plT T).2 = true) (h3 : ∀ i (hi : i < (plT T).1.length), kidsB T ((plT T).1[i]).toNat = true) : heapB T = true := by
  unfold heapB
  have : ((plT T).1.all fun x => kidsB T x.toNat) = true := by
    rw [List.all_eq_true]
    intro x hx
    obtain ⟨i, hi, rfl⟩ := List.getElem_of_mem hx
    exact h3 i hi
  rw [this, h1, h2]; rfl
theorem head_in {T : HeapD} (h : headB T = true) : 1 ≤ T.2.1 ∧ T.2.1 ≤ 3000 ∧ (T.1.length : Int) = 2 * T.2.1 ∧ (T.2.2.1 = 0 ∨ T.2.2.1 = T.2.1) ∧ T.2.2.1 ≤ T.2.2.2 ∧ T.2.2.2 ≤ T.2.2.1 + T.2.1 := by
  unfold headB at h
  simp only [Bool.and_eq_true, Bool.or_eq_true, decide_eq_true_eq] at h
  have h1 := inB_yes h.1.1.1
  have h2 := inB_yes h.2
  exact ⟨h1.1, h1.2, h.1.1.2, h.1.2, h2.1, h2.2⟩

end Go.Proofs.Ytibjpdchdopigaa.heap

namespace Go.Proofs.Ytibjpdchdopigaa.heap
open Go Go.RowKit Go.Proofs.Ytibjpdchdopigaa.rose Go.Proofs.Ytibjpdchdopigaa Go.Proofs.Ytibjpdchdopigaa.fun Go.Proofs.Ytibjpdchdopigaa.words
set_option linter.unusedVariables false
set_option linter.unusedSimpArgs false

set_option maxHeartbeats 1000000 in
theorem isref_is {n : Int} {b : Bool} {w : World} (h : decide (n % 2 = 0) = b) : Calls Try.prog 32 #[.int .i64 n] w fun e w' => e = .returned (.bool b) ∧ w' = w := by
  have ha := and_one n
  go_enter Try.func32, Try.ntmps32
  go_wp2
  go_ret
  exact ⟨ret_b (by rw [← h, Bool.eq_iff_iff]; simp), rfl⟩
set_option maxHeartbeats 1000000 in
theorem wordint_is (n : Int) (w : World) : Calls Try.prog 52 #[.int .i64 n] w fun e w' => e = .returned (.int .i64 (n / 2)) ∧ w' = w := by
  go_enter Try.func52, Try.ntmps52
  go_wp2
  go_ret
  exact ⟨ret_i (by first | rfl | omega), rfl⟩
set_option maxHeartbeats 1000000 in
theorem wordref_is (n : Int) (w : World) : Calls Try.prog 34 #[.int .i64 n] w fun e w' => e = .returned (.int .i64 (n / 2)) ∧ w' = w := by
  go_enter Try.func34, Try.ntmps34
  go_wp2
  go_ret
  exact ⟨ret_i (by first | rfl | omega), rfl⟩
set_option maxHeartbeats 2000000 in
theorem of_is (n : Int) (w : World) (h1 : -9223372036854775808 ≤ n) (h2 : n ≤ 9223372036854775807) : Calls Try.prog 35 #[.int .i64 n] w fun e w' => e = .returned (.tuple #[.bool (funF n), .int .i64 (tagF n), .int .i64 (manyF n)]) ∧ w' = w := by
  have ha := and_one (n / 2)
  have hb := and_63 (n / 2 / 2)
  have hq : IntKind.i64.wrap (Int.tdiv (n / 2 / 2) 64) = Int.tdiv (n / 2 / 2) 64 := IntWalk.i64_quo' _ _ (by omega)
  go_enter Try.func35, Try.ntmps35
  go_wp2
  refine bodyPost_ret (v := .tuple #[.bool (funF n), .int .i64 (tagF n), .int .i64 (manyF n)]) (by simp [results, Try.f35, go_sem, funF, tagF, manyF]; try (rw [Bool.eq_iff_iff]; simp)) rfl ?_
  exact ⟨rfl, rfl⟩
set_option maxHeartbeats 1000000 in
theorem in7_is {l : List Int} {x : Int} {b : Bool} (v : Value) (w : World) (hb : decide (x ∈ l) = b) (h : ints.intsSh.rep w (· < w.heap.size) [v] l) : Calls Try.prog 33 #[v, .int .i64 x] w fun e w' => e = .returned (.bool b) ∧ w' = w := by
  obtain ⟨a, cap, rfl, hcap, hmax, hat⟩ := ints.ints_open h
  have hmx : (l.length : Int) ≤ 9223372036854775807 := by unfold maxLen at hmax; omega
  have HA : Hid _ := hat
  have HB : Hid (decide (x ∈ l) = b) := hb
  clear h hcap hmax hat hb
  go_enter Try.func33, Try.ntmps33
  go_wp2
  go_loopw [5] (fun v5 wr => ∃ i : Nat, i ≤ l.length ∧ v5 = .int .i64 i ∧ wr = w ∧ Hid (∀ j (hj : j < l.length), j < i → l[j] ≠ x)) (fun v5 _ => l.length - (intOf v5).toNat)
  case atStart => exact ⟨0, Nat.zero_le _, rfl, rfl, fun j _ hj => absurd hj (Nat.not_lt_zero _)⟩
  case round =>
    obtain ⟨i, hi, rfl, hwr, HJ⟩ := hrel
    subst wr
    by_cases hlt : i < l.length
    · obtain ⟨b', o, rfl, hS, hc, -⟩ := HA.out i hlt
      have e0 : w.cell? ⟨b', o + i, none⟩ = some (.int .i64 l[i]) := hc
      clear hc
      by_cases he : l[i] = x
      · have HE : Hid (b = true) := by show _ = _; rw [← HB.out]; simp only [decide_eq_true_eq]; rw [← he]; exact List.getElem_mem hlt
        rw [he] at e0
        go_wp2
        go_ret
        exact ⟨ret_b HE.out.symm, rfl⟩
      · have hne : (l[i] == x) = false := by simpa using he
        have HN : Hid (∀ j (hj : j < l.length), j < i + 1 → l[j] ≠ x) := fun j hj h1 => by
          by_cases q : j = i
          · subst q; exact he
          · exact HJ.out j hj (by omega)
        generalize l[i] = y at e0 hne
        clear he
        go_wp2
        go_round
        case rel => exact ⟨i + 1, by omega, by go_num, by first | rfl | trivial, HN⟩
        case measure => simp [intOf]; omega
    · obtain rfl : i = l.length := by omega
      have HE : Hid (b = false) := by
        show _ = _; rw [← HB.out]; simp only [decide_eq_false_iff_not]
        intro hm
        obtain ⟨j, hj, e⟩ := List.getElem_of_mem hm
        exact HJ.out j hj hj e
      go_wp2
      go_ret
      exact ⟨ret_b HE.out.symm, rfl⟩

end Go.Proofs.Ytibjpdchdopigaa.heap

namespace Go.Proofs.Ytibjpdchdopigaa.ints
open Go.RowKit Go.Proofs.Ytibjpdchdopigaa.rose Go.Proofs.Ytibjpdchdopigaa
set_option linter.unusedVariables false

def InR (x : Int) : Prop := -9223372036854775808 ≤ x ∧ x ≤ 9223372036854775807

def IRow (w : World) (base : Nat) (v : Value) (l : List Int) : Prop := w.ownsRow base 3 1 v l.length (l.map (Value.int .i64)) ∧ ∀ x ∈ l, InR x

theorem IRow.nil (w : World) (base : Nat) : IRow w base (.slice none 0 0) [] := ⟨World.ownsRow_nil w base 3 1, fun x hx => by cases hx⟩
theorem IRow.lt {w : World} {base : Nat} {v : Value} {l : List Int} (h : IRow w base v l) : ∀ k, v.ownBlock = some k → base ≤ k ∧ k < w.heap.size := h.1.lt
theorem IRow.keep {w w' : World} {base : Nat} {v : Value} {l : List Int} (h : IRow w base v l) (hb : Below w.heap.size w w') : IRow w' base v l := by
  refine ⟨⟨h.1.1, ?_⟩, h.2⟩
  rcases h.1.2 with h0 | ⟨g, cap, cur, h1, h2, h3, h4⟩
  · exact Or.inl h0
  · have hg : g < w.heap.size := (Array.getElem?_eq_some_iff.1 h3).1
    exact Or.inr ⟨g, cap, cur, h1, h2, (hb.block g hg).trans h3, h4⟩
theorem IRow.open {w : World} {base : Nat} {v : Value} {l : List Int} (h : IRow w base v l) : (v = .slice none 0 0 ∧ l = []) ∨ ∃ g cap, v = .slice (some ⟨g, 0, none⟩) l.length cap ∧ base ≤ g ∧ g < w.heap.size ∧ l.length ≤ cap ∧ cap ≤ maxLen ∧ (∀ i (hi : i < l.length), w.cell? ⟨g, i, none⟩ = some (.int .i64 l[i])) ∧ ∃ cur t, w.heap[g]? = some (.cells cur t) := by
  rcases h.1.2 with ⟨h0, h1⟩ | ⟨g, cap, cur, h1, h2, h3, h4, h5, h6⟩
  · exact Or.inl ⟨h0, List.eq_nil_of_length_eq_zero h1⟩
  · refine Or.inr ⟨g, cap, h1, h2, (Array.getElem?_eq_some_iff.1 h3).1, h4, h5, fun i hi => ?_, cur, _, h3⟩
    have ho := h.1
    rw [h1] at ho
    have := ho.cellAt i (by omega)
    rw [this]
    simp [hi]
theorem IRow.sp {w : World} {base : Nat} {v : Value} {l : List Int} (h : IRow w base v l) : intsSp.rep w (fun b => base ≤ b ∧ b < w.heap.size) [v] l := by
  rcases h.open with ⟨rfl, rfl⟩ | ⟨g, cap, rfl, h2, h3, h4, h5, h6, cur, t, h7⟩
  · exact ⟨none, 0, fun _ => [], fun _ _ => False, rfl, Nat.le_refl _, Nat.zero_le _, fun _ => rfl, fun h0 => absurd h0 (Nat.not_lt_zero _), fun i hi => absurd hi (Nat.not_lt_zero _), fun i j hi => absurd hi (Nat.not_lt_zero _), fun i hi => absurd hi (Nat.not_lt_zero _)⟩
  · refine ⟨some ⟨g, 0, none⟩, cap, fun i => [.int .i64 (l.getD i 0)], fun _ _ => False, rfl, h4, h5, (fun h => by cases h), fun h0 => ⟨g, 0, cur, t, rfl, ⟨h2, h3⟩, h7, fun _ _ h => h, fun i hi q u hq => ?_⟩, fun i hi b h => h.elim, fun i j hi hj hne b h => h.elim, fun i hi => ⟨by simp [List.getD, hi], h.2 _ (List.getElem_mem hi)⟩⟩
    match q, hq with
    | 0, hq =>
      simp at hq; subst hq
      have := h6 i hi
      simpa [Sh.int, List.getD, hi] using this
    | _ + 1, hq => simp at hq

theorem info_int : (Try.prog.info? 3).map (fun i => (i.zero, i.size, i.bytes)) = some (some (.int .i64 0), 1, 8) := by kernel_rfl
theorem int_info : ∃ ti, Try.prog.info? 3 = some ti ∧ ti.zero = some (.int .i64 0) ∧ ti.size = 1 ∧ ti.bytes = 8 := by
  obtain ⟨i, hi, hzz⟩ := Option.map_eq_some_iff.1 info_int
  simp only [Prod.mk.injEq] at hzz
  exact ⟨i, hi, hzz⟩

theorem IRow.more {w : World} {base : Nat} {v : Value} {xs ys : List Int} (h : w.ownsRow base 3 1 v (xs.length + ys.length) (xs.map (Value.int .i64) ++ ys.map (Value.int .i64))) (hx : ∀ x ∈ xs, InR x) (hy : ∀ x ∈ ys, InR x) : IRow w base v (xs ++ ys) := by
  refine ⟨by rw [List.length_append, List.map_append]; exact h, fun x hm => ?_⟩
  rcases List.mem_append.1 hm with q | q
  · exact hx x q
  · exact hy x q

end Go.Proofs.Ytibjpdchdopigaa.ints

namespace Go.Proofs.Ytibjpdchdopigaa.rose
open Go Go.RowKit
set_option linter.unusedVariables false

theorem own_set {w : World} {base : Nat} {t : TypeId} {k g n c j : Nat} {xs : List Value} {u : Value} (h : w.ownsRow base t k (.slice (some ⟨g, 0, none⟩) n c) n xs) (hj : j < n * k) : (w.setCell ⟨g, j, none⟩ u).ownsRow base t k (.slice (some ⟨g, 0, none⟩) n c) n (xs.set j u) := by
  obtain ⟨hl, hv⟩ := h
  refine ⟨by simpa using hl, Or.inr ?_⟩
  rcases hv with ⟨h, _⟩ | ⟨g', c', cur, h1, h2, h3, h4, h5, h6, h7⟩
  · cases h
  · cases h1
    refine ⟨g, c, cur.setIfInBounds j u, rfl, h2, by simp [World.setCell, Array.getElem?_modify, h3], h4, h5, by simpa using h6, ?_⟩
    rw [← h7]
    simp [List.take_set]
theorem own_same {w w' : World} {base : Nat} {t : TypeId} {k n : Nat} {v : Value} {xs : List Value} (h : w.ownsRow base t k v n xs) (hb : ∀ q, v.ownBlock = some q → w'.heap[q]? = w.heap[q]?) : w'.ownsRow base t k v n xs := by
  refine ⟨h.1, ?_⟩
  rcases h.2 with h0 | ⟨g, cap, cur, h1, h2, h3, h4⟩
  · exact Or.inl h0
  · exact Or.inr ⟨g, cap, cur, h1, h2, (hb g (by rw [h1]; rfl)).trans h3, h4⟩
theorem own_form {w : World} {base : Nat} {t : TypeId} {k n : Nat} {v : Value} {xs : List Value} (h : w.ownsRow base t k v n xs) : ∃ a c, v = .slice a n c := by
  rcases h.2 with ⟨rfl, h0⟩ | ⟨_, _, _, rfl, _⟩
  · exact ⟨_, _, by rw [h0]⟩
  · exact ⟨_, _, rfl⟩
theorem new_cell (w : World) (t : TypeId) (u : Value) : ∀ j x, [u][j]? = some x → (w.alloc (.cells #[u] t)).cell? ((⟨w.heap.size, 0, none⟩ : Addr).add j) = some x := by
  intro j x hj
  match j, hj with
  | 0, hj =>
    simp at hj; subst hj
    rw [add_plain]
    simp
  | _ + 1, hj => simp at hj
theorem own_base {w : World} {base base' : Nat} {t : TypeId} {k n : Nat} {v : Value} {xs : List Value} (h : w.ownsRow base t k v n xs) (hb : base' ≤ base) : w.ownsRow base' t k v n xs := by
  refine ⟨h.1, ?_⟩
  rcases h.2 with h0 | ⟨g, cap, cur, h1, h2, h3, h4⟩
  · exact Or.inl h0
  · exact Or.inr ⟨g, cap, cur, h1, by omega, h3, h4⟩
theorem below_block {B : Nat} {w w' : World} (h : Below B w w') {b : Nat} (hb : b < B) : w'.heap[b]? = w.heap[b]? := h.block b hb

end Go.Proofs.Ytibjpdchdopigaa.rose
