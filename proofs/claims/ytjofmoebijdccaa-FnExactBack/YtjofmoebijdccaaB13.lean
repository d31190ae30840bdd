/-
  The model's IsRef, WordInt, WordRef, l17Of and l7In, at every argument; nothing is turned.
  A slice of ints that a call has built itself, from a block number on.
  A cell of a row of the call's own is turned; a row that is kept elsewhere.
  The model's l17There and l17Places, where HeapOk calls them.
-/
import Derived.OwnWalk
import Derived.Laws.AppendOwn
import Derived.Maps.AppendAt
import Derived.WalkSmall
import Derived.Test.YtjofmoebijdccaaB1
import Derived.Test.YtjofmoebijdccaaB2
import Derived.Test.YtjofmoebijdccaaB3
import Derived.Test.YtjofmoebijdccaaB4
import Derived.Test.YtjofmoebijdccaaB5
import Derived.Test.YtjofmoebijdccaaB6
import Derived.Test.YtjofmoebijdccaaB7
import Derived.Test.YtjofmoebijdccaaB8
import Derived.Test.YtjofmoebijdccaaB9
import Derived.Test.YtjofmoebijdccaaB10
import Derived.Test.YtjofmoebijdccaaB11
import Derived.Test.YtjofmoebijdccaaB12
namespace Go.Proofs.Ytjofmoebijdccaa.heap
open Go Go.RowKit Go.Proofs.Ytjofmoebijdccaa.rose Go.Proofs.Ytjofmoebijdccaa Go.Proofs.Ytjofmoebijdccaa.fun Go.Proofs.Ytjofmoebijdccaa.words
set_option linter.unusedVariables false
set_option linter.unusedSimpArgs false

set_option maxHeartbeats 1000000 in
theorem isref_is {n : Int} {b : Bool} {w : World} (h : decide (n % 2 = 0) = b) : Calls Try.prog 40 #[.int .i64 n] w fun e w' => e = .returned (.bool b) ∧ w' = w := by
  have ha := and_one n
  go_enter Try.func40, Try.ntmps40
  go_wp2
  go_ret
  exact ⟨ret_b (by rw [← h, Bool.eq_iff_iff]; simp), rfl⟩
set_option maxHeartbeats 1000000 in
theorem wordint_is (n : Int) (w : World) : Calls Try.prog 41 #[.int .i64 n] w fun e w' => e = .returned (.int .i64 (n / 2)) ∧ w' = w := by
  go_enter Try.func41, Try.ntmps41
  go_wp2
  go_ret
  exact ⟨ret_i (by first | rfl | omega), rfl⟩
set_option maxHeartbeats 1000000 in
theorem wordref_is (n : Int) (w : World) : Calls Try.prog 42 #[.int .i64 n] w fun e w' => e = .returned (.int .i64 (n / 2)) ∧ w' = w := by
  go_enter Try.func42, Try.ntmps42
  go_wp2
  go_ret
  exact ⟨ret_i (by first | rfl | omega), rfl⟩
set_option maxHeartbeats 2000000 in
theorem of_is (n : Int) (w : World) (h1 : -9223372036854775808 ≤ n) (h2 : n ≤ 9223372036854775807) : Calls Try.prog 38 #[.int .i64 n] w fun e w' => e = .returned (.tuple #[.bool (funF n), .int .i64 (tagF n), .int .i64 (manyF n)]) ∧ w' = w := by
  have ha := and_one (n / 2)
  have hb := and_63 (n / 2 / 2)
  have hq : IntKind.i64.wrap (Int.tdiv (n / 2 / 2) 64) = Int.tdiv (n / 2 / 2) 64 := IntWalk.i64_quo' _ _ (by omega)
  go_enter Try.func38, Try.ntmps38
  go_wp2
  refine bodyPost_ret (v := .tuple #[.bool (funF n), .int .i64 (tagF n), .int .i64 (manyF n)]) (by simp [results, Try.f38, go_sem, funF, tagF, manyF]; try (rw [Bool.eq_iff_iff]; simp)) rfl ?_
  exact ⟨rfl, rfl⟩
set_option maxHeartbeats 1000000 in
theorem in7_is {l : List Int} {x : Int} {b : Bool} (v : Value) (w : World) (hb : decide (x ∈ l) = b) (h : ints.intsSh.rep w (· < w.heap.size) [v] l) : Calls Try.prog 43 #[v, .int .i64 x] w fun e w' => e = .returned (.bool b) ∧ w' = w := by
  obtain ⟨a, cap, rfl, hcap, hmax, hat⟩ := ints.ints_open h
  have hmx : (l.length : Int) ≤ 9223372036854775807 := by unfold maxLen at hmax; omega
  have HA : Hid _ := hat
  have HB : Hid (decide (x ∈ l) = b) := hb
  clear h hcap hmax hat hb
  go_enter Try.func43, Try.ntmps43
  go_wp2
  go_loopw [5] (fun v5 wr => ∃ i : Nat, i ≤ l.length ∧ v5 = .int .i64 i ∧ wr = w ∧ Hid (∀ j (hj : j < l.length), j < i → l[j] ≠ x)) (fun v5 _ => l.length - (intOf v5).toNat)
  case atStart => exact ⟨0, Nat.zero_le _, rfl, rfl, fun j _ hj => absurd hj (Nat.not_lt_zero _)⟩
  case round =>
    obtain ⟨i, hi, rfl, hwr, HJ⟩ := hrel
    subst wr
    by_cases hlt : i < l.length
    · obtain ⟨b', o, rfl, hS, hc, -⟩ := HA.out i hlt
      have e0 : w.cell? ⟨b', o + i, none⟩ = some (.int .i64 l[i]) := hc
      clear hc
      by_cases he : l[i] = x
      · have HE : Hid (b = true) := by show _ = _; rw [← HB.out]; simp only [decide_eq_true_eq]; rw [← he]; exact List.getElem_mem hlt
        rw [he] at e0
        go_wp2
        go_ret
        exact ⟨ret_b HE.out.symm, rfl⟩
      · have hne : (l[i] == x) = false := by simpa using he
        have HN : Hid (∀ j (hj : j < l.length), j < i + 1 → l[j] ≠ x) := fun j hj h1 => by
          by_cases q : j = i
          · subst q; exact he
          · exact HJ.out j hj (by omega)
        generalize l[i] = y at e0 hne
        clear he
        go_wp2
        go_round
        case rel => exact ⟨i + 1, by omega, by go_num, by first | rfl | trivial, HN⟩
        case measure => simp [intOf]; omega
    · obtain rfl : i = l.length := by omega
      have HE : Hid (b = false) := by
        show _ = _; rw [← HB.out]; simp only [decide_eq_false_iff_not]
        intro hm
        obtain ⟨j, hj, e⟩ := List.getElem_of_mem hm
        exact HJ.out j hj hj e
      go_wp2
      go_ret
      exact ⟨ret_b HE.out.symm, rfl⟩

end Go.Proofs.Ytjofmoebijdccaa.heap

namespace Go.Proofs.Ytjofmoebijdccaa.ints
open Go.RowKit Go.Proofs.Ytjofmoebijdccaa.rose Go.Proofs.Ytjofmoebijdccaa
set_option linter.unusedVariables false

def InR (x : Int) : Prop := -9223372036854775808 ≤ x ∧ x ≤ 9223372036854775807

def IRow (w : World) (base : Nat) (v : Value) (l : List Int) : Prop := w.ownsRow base 3 1 v l.length (l.map (Value.int .i64)) ∧ ∀ x ∈ l, InR x

theorem IRow.nil (w : World) (base : Nat) : IRow w base (.slice none 0 0) [] := ⟨World.ownsRow_nil w base 3 1, fun x hx => by cases hx⟩
theorem IRow.lt {w : World} {base : Nat} {v : Value} {l : List Int} (h : IRow w base v l) : ∀ k, v.ownBlock = some k → base ≤ k ∧ k < w.heap.size := h.1.lt
theorem IRow.keep {w w' : World} {base : Nat} {v : Value} {l : List Int} (h : IRow w base v l) (hb : Below w.heap.size w w') : IRow w' base v l := by
  refine ⟨⟨h.1.1, ?_⟩, h.2⟩
  rcases h.1.2 with h0 | ⟨g, cap, cur, h1, h2, h3, h4⟩
  · exact Or.inl h0
  · have hg : g < w.heap.size := (Array.getElem?_eq_some_iff.1 h3).1
    exact Or.inr ⟨g, cap, cur, h1, h2, (hb.block g hg).trans h3, h4⟩
theorem IRow.open {w : World} {base : Nat} {v : Value} {l : List Int} (h : IRow w base v l) : (v = .slice none 0 0 ∧ l = []) ∨ ∃ g cap, v = .slice (some ⟨g, 0, none⟩) l.length cap ∧ base ≤ g ∧ g < w.heap.size ∧ l.length ≤ cap ∧ cap ≤ maxLen ∧ (∀ i (hi : i < l.length), w.cell? ⟨g, i, none⟩ = some (.int .i64 l[i])) ∧ ∃ cur t, w.heap[g]? = some (.cells cur t) := by
  rcases h.1.2 with ⟨h0, h1⟩ | ⟨g, cap, cur, h1, h2, h3, h4, h5, h6⟩
  · exact Or.inl ⟨h0, List.eq_nil_of_length_eq_zero h1⟩
  · refine Or.inr ⟨g, cap, h1, h2, (Array.getElem?_eq_some_iff.1 h3).1, h4, h5, fun i hi => ?_, cur, _, h3⟩
    have ho := h.1
    rw [h1] at ho
    have := ho.cellAt i (by omega)
    rw [this]
    simp [hi]
theorem IRow.sp {w : World} {base : Nat} {v : Value} {l : List Int} (h : IRow w base v l) : intsSp.rep w (fun b => base ≤ b ∧ b < w.heap.size) [v] l := by
  rcases h.open with ⟨rfl, rfl⟩ | ⟨g, cap, rfl, h2, h3, h4, h5, h6, cur, t, h7⟩
  · exact ⟨none, 0, fun _ => [], fun _ _ => False, rfl, Nat.le_refl _, Nat.zero_le _, fun _ => rfl, fun h0 => absurd h0 (Nat.not_lt_zero _), fun i hi => absurd hi (Nat.not_lt_zero _), fun i j hi => absurd hi (Nat.not_lt_zero _), fun i hi => absurd hi (Nat.not_lt_zero _)⟩
  · refine ⟨some ⟨g, 0, none⟩, cap, fun i => [.int .i64 (l.getD i 0)], fun _ _ => False, rfl, h4, h5, (fun h => by cases h), fun h0 => ⟨g, 0, cur, t, rfl, ⟨h2, h3⟩, h7, fun _ _ h => h, fun i hi q u hq => ?_⟩, fun i hi b h => h.elim, fun i j hi hj hne b h => h.elim, fun i hi => ⟨by simp [List.getD, hi], h.2 _ (List.getElem_mem hi)⟩⟩
    match q, hq with
    | 0, hq =>
      simp at hq; subst hq
      have := h6 i hi
      simpa [Sh.int, List.getD, hi] using this
    | _ + 1, hq => simp at hq

theorem info_int : (Try.prog.info? 3).map (fun i => (i.zero, i.size, i.bytes)) = some (some (.int .i64 0), 1, 8) := by kernel_rfl
theorem int_info : ∃ ti, Try.prog.info? 3 = some ti ∧ ti.zero = some (.int .i64 0) ∧ ti.size = 1 ∧ ti.bytes = 8 := by
  obtain ⟨i, hi, hzz⟩ := Option.map_eq_some_iff.1 info_int
  simp only [Prod.mk.injEq] at hzz
  exact ⟨i, hi, hzz⟩

theorem IRow.more {w : World} {base : Nat} {v : Value} {xs ys : List Int} (h : w.ownsRow base 3 1 v (xs.length + ys.length) (xs.map (Value.int .i64) ++ ys.map (Value.int .i64))) (hx : ∀ x ∈ xs, InR x) (hy : ∀ x ∈ ys, InR x) : IRow w base v (xs ++ ys) := by
  refine ⟨by rw [List.length_append, List.map_append]; exact h, fun x hm => ?_⟩
  rcases List.mem_append.1 hm with q | q
  · exact hx x q
  · exact hy x q

end Go.Proofs.Ytjofmoebijdccaa.ints

namespace Go.Proofs.Ytjofmoebijdccaa.rose
open Go Go.RowKit
set_option linter.unusedVariables false

theorem own_set {w : World} {base : Nat} {t : TypeId} {k g n c j : Nat} {xs : List Value} {u : Value} (h : w.ownsRow base t k (.slice (some ⟨g, 0, none⟩) n c) n xs) (hj : j < n * k) : (w.setCell ⟨g, j, none⟩ u).ownsRow base t k (.slice (some ⟨g, 0, none⟩) n c) n (xs.set j u) := by
  obtain ⟨hl, hv⟩ := h
  refine ⟨by simpa using hl, Or.inr ?_⟩
  rcases hv with ⟨h, _⟩ | ⟨g', c', cur, h1, h2, h3, h4, h5, h6, h7⟩
  · cases h
  · cases h1
    refine ⟨g, c, cur.setIfInBounds j u, rfl, h2, by simp [World.setCell, Array.getElem?_modify, h3], h4, h5, by simpa using h6, ?_⟩
    rw [← h7]
    simp [List.take_set]
theorem own_same {w w' : World} {base : Nat} {t : TypeId} {k n : Nat} {v : Value} {xs : List Value} (h : w.ownsRow base t k v n xs) (hb : ∀ q, v.ownBlock = some q → w'.heap[q]? = w.heap[q]?) : w'.ownsRow base t k v n xs := by
  refine ⟨h.1, ?_⟩
  rcases h.2 with h0 | ⟨g, cap, cur, h1, h2, h3, h4⟩
  · exact Or.inl h0
  · exact Or.inr ⟨g, cap, cur, h1, h2, (hb g (by rw [h1]; rfl)).trans h3, h4⟩
theorem own_form {w : World} {base : Nat} {t : TypeId} {k n : Nat} {v : Value} {xs : List Value} (h : w.ownsRow base t k v n xs) : ∃ a c, v = .slice a n c := by
  rcases h.2 with ⟨rfl, h0⟩ | ⟨_, _, _, rfl, _⟩
  · exact ⟨_, _, by rw [h0]⟩
  · exact ⟨_, _, rfl⟩
theorem new_cell (w : World) (t : TypeId) (u : Value) : ∀ j x, [u][j]? = some x → (w.alloc (.cells #[u] t)).cell? ((⟨w.heap.size, 0, none⟩ : Addr).add j) = some x := by
  intro j x hj
  match j, hj with
  | 0, hj =>
    simp at hj; subst hj
    rw [add_plain]
    simp
  | _ + 1, hj => simp at hj
theorem own_base {w : World} {base base' : Nat} {t : TypeId} {k n : Nat} {v : Value} {xs : List Value} (h : w.ownsRow base t k v n xs) (hb : base' ≤ base) : w.ownsRow base' t k v n xs := by
  refine ⟨h.1, ?_⟩
  rcases h.2 with h0 | ⟨g, cap, cur, h1, h2, h3, h4⟩
  · exact Or.inl h0
  · exact Or.inr ⟨g, cap, cur, h1, by omega, h3, h4⟩
theorem below_block {B : Nat} {w w' : World} (h : Below B w w') {b : Nat} (hb : b < B) : w'.heap[b]? = w.heap[b]? := h.block b hb

end Go.Proofs.Ytjofmoebijdccaa.rose

namespace Go.Proofs.Ytjofmoebijdccaa.heap
open Go Go.RowKit Go.Proofs.Ytjofmoebijdccaa.rose Go.Proofs.Ytjofmoebijdccaa Go.Proofs.Ytjofmoebijdccaa.fun Go.Proofs.Ytjofmoebijdccaa.words Go.Proofs.Ytjofmoebijdccaa.ints
set_option linter.unusedVariables false
set_option linter.unusedSimpArgs false

set_option maxHeartbeats 2000000 in
theorem there_is {l : List Int} {x : Int} {b : Bool} (v : Value) (w : World) (hb : thereB l x = b) (h : intsSh.rep w (· < w.heap.size) [v] l) : Calls Try.prog 39 #[v, .int .i64 x] w fun e w' => e = .returned (.bool b) ∧ w' = w := by
  unfold thereB at hb
  obtain ⟨a, cap, hv⟩ : ∃ a c, v = .slice a l.length c := by obtain ⟨a, c, e⟩ := slice_cells h; simp only [List.cons.injEq, and_true] at e; exact ⟨a, c, e⟩
  rcases q : decide (x % 2 = 0) with _ | _
  · rw [if_neg (of_decide_eq_false q)] at hb
    clear h
    subst hv
    go_enter Try.func39, Try.ntmps39
    go_wp2_with (first | (go_at_call 40; refine (isref_is q).mono ?_; rintro e w' ⟨rfl, hx⟩; subst w') | (go_at_call 41; refine (wordint_is _ _).mono ?_; rintro e w' ⟨rfl, hx⟩; subst w') | (go_at_call 60; refine (words.word_is hb).mono ?_; rintro e w' ⟨rfl, hx⟩; subst w'))
    go_ret
    exact ⟨rfl, rfl⟩
  · rw [if_pos (of_decide_eq_true q)] at hb
    have hcall : Hid (Calls Try.prog 43 #[v, .int .i64 (x / 2)] w fun e w' => e = .returned (.bool b) ∧ w' = w) := in7_is v w hb h
    clear h hb
    subst hv
    go_enter Try.func39, Try.ntmps39
    go_wp2_with (first | (go_at_call 40; refine (isref_is q).mono ?_; rintro e w' ⟨rfl, hx⟩; subst w') | (go_at_call 42; refine (wordref_is _ _).mono ?_; rintro e w' ⟨rfl, hx⟩; subst w') | (go_at_call 43; refine hcall.out.mono ?_; rintro e w' ⟨rfl, hx⟩; subst w'))
    go_ret
    exact ⟨rfl, rfl⟩

theorem irow_push {w : World} {base : Nat} {a : Option Addr} {c : Nat} {l : List Int} {x : Int} (h : w.ownsRow base 3 1 (.slice a (l.length + 1) c) (l.length + 1) (l.map (Value.int .i64) ++ [.int .i64 x])) (hl : ∀ y ∈ l, InR y) (hx : InR x) : IRow w base (.slice a (l ++ [x]).length c) (l ++ [x]) := by
  refine ⟨by rw [List.length_append, List.length_singleton, List.map_append]; exact h, fun y hy => ?_⟩
  rcases List.mem_append.1 hy with hy | hy
  · exact hl y hy
  · simp only [List.mem_singleton] at hy; subst hy; exact hx
theorem irow_lit0 (w : World) {base : Nat} (h : base ≤ w.heap.size) : IRow (w.alloc (.cells #[] 3)) base (.slice (some ⟨w.heap.size, 0, none⟩) 0 0) [] :=
  ⟨World.ownsRow_lit w #[] 0 h (Nat.zero_le _) rfl, fun x hx => by cases hx⟩
theorem irow_base0 {w : World} {base base' : Nat} {v : Value} {l : List Int} (h : IRow w base v l) (hb : base' ≤ base) : IRow w base' v l := ⟨own_base h.1 hb, h.2⟩

/-- Where the loop over blocks stands. -/
structure LS (w wr : World) (cs : List Value) (v : Value) (T : HeapD) (p : Nat) (l : List Int) : Prop where
  arg : ArgK w wr cs 35
  row : IRow wr (w.heap.size + 1) v l
  all : plT T = (l ++ (plF T.1 T.2.2.2.toNat p).1, (plF T.1 T.2.2.2.toNat p).2)
  len : l.length ≤ p

set_option maxRecDepth 100000 in
set_option maxHeartbeats 8000000 in
theorem specPlacesOf (T : HeapD) (cs : List Value) (w : World) (hd : headB T = true) (h : heapSh.rep w (· < w.heap.size) cs T) :
    Calls Try.prog 20 #[.agg cs.toArray] w fun e w' => (∃ v' l, e = .returned (.tuple #[v', .bool (plT T).2]) ∧ IRow w' w.heap.size v' l ∧ ((plT T).2 = true → l = (plT T).1)) ∧ Below w.heap.size w w' := by
  obtain ⟨W, a0, c0, half, base, next, rfl, rfl, f0, f1, f2, f3⟩ := heap_open h
  obtain ⟨a, cap, e, hcap, hmax, hat⟩ := ints_open f0
  cases e
  have HA : Hid _ := hat
  have H1 := head_in hd
  dsimp only at H1
  obtain ⟨g1, g2, g3, g4, g5, g6⟩ := H1
  obtain ⟨hn, rfl⟩ : ∃ z : Nat, half = z := ⟨half.toNat, by omega⟩
  obtain ⟨bn, rfl⟩ : ∃ z : Nat, base = z := ⟨base.toNat, by omega⟩
  obtain ⟨nx, rfl⟩ : ∃ z : Nat, next = z := ⟨next.toNat, by omega⟩
  have hnl : nx ≤ W.length ∧ W.length ≤ 6000 := by omega
  obtain ⟨r, hr⟩ : ∃ r, r = plT (W, (hn : Int), (bn : Int), (nx : Int)) := ⟨_, rfl⟩
  have HR : Hid (r = plT (W, (hn : Int), (bn : Int), (nx : Int))) := hr
  rw [← hr]
  obtain ⟨ti, hti, hz0, hz1, hz2⟩ := int_info
  have TI : Hid (Try.prog.info? 3 = some ti ∧ ti.zero = some (.int .i64 0) ∧ ti.size = 1 ∧ ti.bytes = 8) := ⟨hti, hz0, hz1, hz2⟩
  obtain ⟨cs, hcs⟩ : ∃ cs : List Value, cs = [.slice a0 W.length c0, .int .i64 hn, .int .i64 bn, .int .i64 nx] := ⟨_, rfl⟩
  have HCS : Hid (cs = [.slice a0 W.length c0, .int .i64 hn, .int .i64 bn, .int .i64 nx]) := hcs
  have A0 : Hid (ArgK w (w.alloc (.cells #[.slice a0 W.length c0, .int .i64 hn, .int .i64 bn, .int .i64 nx] 35)) cs 35) := ArgK.new _ _ _ (by rw [hcs])
  have HPL : Hid (plT (W, (hn : Int), (bn : Int), (nx : Int)) = plF W nx bn) := by show _ = _; simp [plT]
  have hmx : (W.length : Int) ≤ 9223372036854775807 := by omega
  clear h f0 f1 f2 f3 hcap hmax hat hd hr hti hz0 hz1 hz2 hcs
  go_enter Try.func20, Try.ntmps20
  go_wp2
  go_loopw [4, 5] (fun v4 v5 wr => ∃ (p : Nat) (l : List Int) (a4 : Option Addr) (c4 : Nat), bn ≤ p ∧ p ≤ 6100 ∧ v5 = .int .i64 p ∧ v4 = .slice a4 l.length c4 ∧ Hid (LS w wr cs (.slice a4 l.length c4) (W, (hn : Int), (bn : Int), (nx : Int)) p l)) (fun _ v5 _ => 6200 - (intOf v5).toNat)
  case atStart =>
    refine ⟨bn, [], _, _, Nat.le_refl _, by omega, rfl, rfl, ⟨A0.out.on ((Below.refl _ _).alloc (Nat.le_refl _) _), ?_, by simp [plT], Nat.zero_le _⟩⟩
    have := irow_lit0 (w.alloc (.cells #[.slice a0 W.length c0, .int .i64 hn, .int .i64 bn, .int .i64 nx] 35)) (base := w.heap.size + 1) (by simp)
    rw [World.size_alloc] at this
    exact this
  case round =>
    obtain ⟨p, l, a4, c4, hbp, hp6, rfl, rfl, HL⟩ := hrel
    have k0 : wr.cell? ⟨w.heap.size, 0, none⟩ = some (.slice a0 W.length c0) := HL.out.arg.cell 0 (by rw [HCS.out]; rfl)
    have k3 : wr.cell? ⟨w.heap.size, 3, none⟩ = some (.int .i64 nx) := HL.out.arg.cell 3 (by rw [HCS.out]; rfl)
    have BW : Hid (Below w.heap.size w wr) := HL.out.arg.bel
    by_cases hlt : p < nx
    · obtain ⟨b, o, rfl, hS, hc, hr1, hr2⟩ := HA.out p (by omega)
      have e0 : wr.cell? ⟨b, o + p, none⟩ = some (.int .i64 W[p]) := (BW.out.cell (p := ⟨b, o + p, none⟩) hS).trans hc
      have hgd : W.getD p 0 = W[p] := by rw [List.getD_eq_getElem?_getD, List.getElem?_eq_getElem (by omega)]; rfl
      have pI : (p : Int) < (W.length : Int) := by omega
      have hcall := of_is W[p] wr hr1 hr2
      have hm := many_in W[p]
      obtain ⟨x, hx⟩ : ∃ x, x = W[p] := ⟨_, rfl⟩
      rw [← hx] at e0 hgd hcall hm hr1 hr2
      have HX : Hid (W.getD p 0 = x) := hgd
      obtain ⟨tg, htg⟩ : ∃ t, t = tagF x := ⟨_, rfl⟩
      obtain ⟨mn, hmn⟩ : ∃ t : Nat, (t : Int) = manyF x := ⟨(manyF x).toNat, by omega⟩
      rw [← htg, ← hmn] at hcall
      have HB : Hid (badH (W.getD p 0) ((nx : Int) - p) = (decide (x < 0) || decide (x % 2 = 0) || decide (3000 < tg) || decide (20 < (mn : Int)) || decide ((nx : Int) - p ≤ (mn : Int)))) := by show _ = _; rw [HX.out]; unfold badH; rw [← htg, ← hmn]
      have HMN : Hid ((manyF (W.getD p 0)).toNat = mn) := by show _ = _; rw [HX.out]; omega
      have hm63 : mn ≤ 63 := by omega
      have HBAD : Hid (badH (W.getD p 0) ((nx : Int) - p) = true → r = (l, false)) := fun hbd => by
        rw [HR.out, HL.out.all]
        show (l ++ (plF W (nx : Int).toNat p).1, (plF W (nx : Int).toNat p).2) = _
        rw [Int.toNat_natCast, plF_bad hlt hbd]; simp
      clear hc hx htg hmn hgd hm
      by_cases c1 : x < 0
      · have t1 : decide (x < 0) = true := by simpa using c1
        have HF : Hid (r = (l, false)) := HBAD.out (by rw [HB.out, t1]; rfl)
        go_wp2_with (first | (go_at_call 38; refine hcall.mono ?_; rintro e w' ⟨rfl, hx'⟩; subst w') | (go_at_call 40; refine (isref_is (by assumption)).mono ?_; rintro e w' ⟨rfl, hx'⟩; subst w'))
        go_ret2
        rw [HF.out]
        exact ⟨⟨_, l, rfl, irow_base0 HL.out.row (by omega), fun e => by cases e⟩, BW.out⟩
      have t1 : decide (x < 0) = false := by simpa using c1
      rcases t2 : decide (x % 2 = 0) with _ | _
      · by_cases c3 : 3000 < tg
        · have t3 : decide ((3000 : Int) < tg) = true := by simpa using c3
          have HF : Hid (r = (l, false)) := HBAD.out (by rw [HB.out, t3]; simp)
          go_wp2_with (first | (go_at_call 38; refine hcall.mono ?_; rintro e w' ⟨rfl, hx'⟩; subst w') | (go_at_call 40; refine (isref_is (by assumption)).mono ?_; rintro e w' ⟨rfl, hx'⟩; subst w'))
          go_ret2
          rw [HF.out]
          exact ⟨⟨_, l, rfl, irow_base0 HL.out.row (by omega), fun e => by cases e⟩, BW.out⟩
        have t3 : decide ((3000 : Int) < tg) = false := by simpa using c3
        by_cases z4 : 20 < mn
        · have t4 : decide ((20 : Int) < (mn : Int)) = true := by simp; omega
          have HF : Hid (r = (l, false)) := HBAD.out (by rw [HB.out, t4]; simp)
          go_wp2_with (first | (go_at_call 38; refine hcall.mono ?_; rintro e w' ⟨rfl, hx'⟩; subst w') | (go_at_call 40; refine (isref_is (by assumption)).mono ?_; rintro e w' ⟨rfl, hx'⟩; subst w'))
          go_ret2
          rw [HF.out]
          exact ⟨⟨_, l, rfl, irow_base0 HL.out.row (by omega), fun e => by cases e⟩, BW.out⟩
        have t4 : decide ((20 : Int) < (mn : Int)) = false := by simp; omega
        by_cases c5 : (nx : Int) - p ≤ (mn : Int)
        · have t5 : decide ((nx : Int) - (p : Int) ≤ (mn : Int)) = true := by simpa using c5
          have HF : Hid (r = (l, false)) := HBAD.out (by rw [HB.out, t5]; simp)
          go_wp2_with (first | (go_at_call 38; refine hcall.mono ?_; rintro e w' ⟨rfl, hx'⟩; subst w') | (go_at_call 40; refine (isref_is (by assumption)).mono ?_; rintro e w' ⟨rfl, hx'⟩; subst w'))
          go_ret2
          rw [HF.out]
          exact ⟨⟨_, l, rfl, irow_base0 HL.out.row (by omega), fun e => by cases e⟩, BW.out⟩
        have t5 : decide ((nx : Int) - (p : Int) ≤ (mn : Int)) = false := by simpa using c5
        have HF : Hid (badH (W.getD p 0) ((nx : Int) - p) = false) := by show _ = _; rw [HB.out, t1, t2, t3, t4, t5]; rfl
        have HO : Hid (∀ g, (Value.slice a4 l.length c4).ownBlock = some g → w.heap.size + 1 ≤ g ∧ g < wr.heap.size) := fun g hg => HL.out.row.lt g hg
        have RD : Hid (∀ X, (wr.alloc X).ownsRow (w.heap.size + 1) 3 1 (.slice a4 l.length c4) l.length (l.map (Value.int .i64))) := fun X => (HL.out.row.keep ((Below.refl _ _).alloc (Nat.le_refl _) X)).1
        have hll : l.length ≤ 6100 := by have := HL.out.len; omega
        have ZW : Hid (w.heap.size < wr.heap.size) := HL.out.arg.lt
        go_wp2_with (first
          | (go_at_call 38; refine hcall.mono ?_; rintro e w' ⟨rfl, hx'⟩; subst w')
          | (go_at_call 40; refine (isref_is (by assumption)).mono ?_; rintro e w' ⟨rfl, hx'⟩; subst w')
          | (at_builtin; refine wpList_append_own_at _ rfl (.tmp 51) (.tmp 53) 23 rfl (w.heap.size + 1) 3 ti _ 1 8 Try.underlying23 TI.out.1 TI.out.2.1 TI.out.2.2.1 TI.out.2.2.2 rfl (by decide) (.slice a4 l.length c4) _ _ rfl (RD.out _) ⟨wr.heap.size, 0, none⟩ 1 1 [.int .i64 p] rfl rfl (new_cell _ _ _) (by simp; rfl) (by unfold maxLen; omega) (by omega) (by have := ZW.out; simp; omega) ?_; intro v6 w6 o6 g6 n6 e6; obtain ⟨a6, c6, rfl⟩ := own_form o6))
        have NX : Hid (LS w w6 cs (.slice a6 (l ++ [(p : Int)]).length c6) (W, (hn : Int), (bn : Int), (nx : Int)) (p + 1 + mn) (l ++ [(p : Int)])) := by
          have hA : Below wr.heap.size wr (wr.alloc (.cells #[.int .i64 p] 3)) := (Below.refl _ _).alloc (Nat.le_refl _) _
          have hz := ZW.out
          refine ⟨⟨(BW.out.trans (hA.mono (by omega))).grown g6 (by simp; omega) fun g hg => by have := (HO.out g hg).1; omega, ?_⟩, irow_push o6 HL.out.row.2 (by unfold InR; omega), ?_, by rw [List.length_append, List.length_singleton]; have := HL.out.len; omega⟩
          · exact (g6.block _ (by simp; omega) fun e => by have := (HO.out _ e.symm).1; omega).trans ((hA.block _ hz).trans HL.out.arg.blk)
          · rw [HL.out.all]
            show (l ++ (plF W (nx : Int).toNat p).1, (plF W (nx : Int).toNat p).2) = (_ ++ (plF W (nx : Int).toNat _).1, (plF W (nx : Int).toNat _).2)
            rw [Int.toNat_natCast, plF_more hlt HF.out, HMN.out]; simp
        clear o6 g6 n6 e6
        go_round
        case rel => exact ⟨p + 1 + mn, l ++ [(p : Int)], a6, c6, by omega, by omega, by go_num, by simp, NX⟩
        case measure => simp [intOf]; omega
      · have HF : Hid (r = (l, false)) := HBAD.out (by rw [HB.out, t2]; simp)
        go_wp2_with (first | (go_at_call 38; refine hcall.mono ?_; rintro e w' ⟨rfl, hx'⟩; subst w') | (go_at_call 40; refine (isref_is (by assumption)).mono ?_; rintro e w' ⟨rfl, hx'⟩; subst w'))
        go_ret2
        rw [HF.out]
        exact ⟨⟨_, l, rfl, irow_base0 HL.out.row (by omega), fun e => by cases e⟩, BW.out⟩
    · have HE : Hid (r = (l, true)) := by
        show _ = _; rw [HR.out, HL.out.all]
        show (l ++ (plF W (nx : Int).toNat p).1, (plF W (nx : Int).toNat p).2) = _
        rw [Int.toNat_natCast, plF_end (by omega)]; simp
      go_wp2
      go_ret2
      rw [HE.out]
      exact ⟨⟨_, l, rfl, irow_base0 HL.out.row (by omega), fun _ => rfl⟩, BW.out⟩

end Go.Proofs.Ytjofmoebijdccaa.heap
