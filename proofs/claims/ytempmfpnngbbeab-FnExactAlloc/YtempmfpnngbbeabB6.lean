/-
  A block is put into a heap (chapter 17): told in plain data; no program named.
  The model's l1In; nothing is turned.
  The model's words of a heap (chapter 17): what they answer; nothing is turned.
  The model's IsRef, WordInt, WordRef, l17Of and l7In, at every argument; nothing is turned.
  A slice of ints that a call has built itself, from a block number on.
  A cell of a row of the call's own is turned; a row that is kept elsewhere.
-/
import Derived.Test.YtempmfpnngbbeabChecked
import Derived.WalkKit
import Derived.WalkLawsBesides
import Derived.WalkSmall
import Derived.OwnWalk
import Derived.Laws.AppendOwn
import Derived.Test.YtempmfpnngbbeabB1
import Derived.Test.YtempmfpnngbbeabB2
import Derived.Test.YtempmfpnngbbeabB3
import Derived.Test.YtempmfpnngbbeabB4
import Derived.Test.YtempmfpnngbbeabB5
namespace Go.Proofs.Ytempmfpnngbbeab.heap
open Go Go.RowKit Go.Proofs.Ytempmfpnngbbeab.rose Go.Proofs.Ytempmfpnngbbeab Go.Proofs.Ytempmfpnngbbeab.fun
set_option linter.unusedVariables false

def headW (fn : Bool) (tag : Int) (many : Nat) : Int := 2 * (2 * (64 * tag + many) + (if fn then 1 else 0)) + 1
/-- Words are written from a place on. -/
def putW (W : List Int) (p : Nat) : List Int → List Int
  | [] => W
  | x :: xs => putW (W.set p x) (p + 1) xs
theorem putW_length (W : List Int) (p : Nat) (xs : List Int) : (putW W p xs).length = W.length := by
  induction xs generalizing W p with
  | nil => rfl
  | cons x xs ih => rw [putW, ih, List.length_set]
theorem putW_push (W : List Int) (p : Nat) (xs : List Int) (x : Int) : putW W p (xs ++ [x]) = (putW W p xs).set (p + xs.length) x := by
  induction xs generalizing W p with
  | nil => rfl
  | cons y xs ih =>
    rw [List.cons_append, putW, ih, putW, List.length_cons]
    congr 1
    omega
theorem putW_mem {W : List Int} {p : Nat} {xs : List Int} {y : Int} (h : y ∈ putW W p xs) : y ∈ W ∨ y ∈ xs := by
  induction xs generalizing W p with
  | nil => exact .inl h
  | cons x xs ih =>
    rcases ih h with q | q
    · rcases List.mem_or_eq_of_mem_set q with q | rfl
      · exact .inl q
      · exact .inr (List.mem_cons_self ..)
    · exact .inr (List.mem_cons_of_mem _ q)
/-- The heap with one more block behind all. -/
def moreF (T : HeapD) (fn : Bool) (tag : Int) (kids : List Int) : HeapD := (putW T.1 T.2.2.2.toNat (headW fn tag kids.length :: kids), T.2.1, T.2.2.1, T.2.2.2 + 1 + kids.length)
def allocF (T : HeapD) (fn : Bool) (tag : Int) (kids : List Int) : HeapD × Int × Bool :=
  if heapB T && inB tag 0 3000 && decide (kids.length ≤ 20) && decide ((kids.length : Int) < T.2.2.1 + T.2.1 - T.2.2.2) && heapB (moreF T fn tag kids) then (moreF T fn tag kids, T.2.2.2, true) else (T, 0, false)

end Go.Proofs.Ytempmfpnngbbeab.heap

namespace Go.Proofs.Ytempmfpnngbbeab.fun
open Go.RowKit Go.Proofs.Ytempmfpnngbbeab
set_option linter.unusedVariables false
set_option linter.unusedSimpArgs false

theorem ret_boolF {a b : Bool} (h : a = b) : Ending.returned (.bool a) = Ending.returned (.bool b) := by rw [h]

set_option maxHeartbeats 1000000 in
theorem in_is {n lo hi : Int} {b : Bool} {w : World} (h : inB n lo hi = b) :
    Calls Try.prog 25 #[.int .i64 n, .int .i64 lo, .int .i64 hi] w fun e w' => e = .returned (.bool b) ∧ w' = w := by
  by_cases h1 : lo ≤ n
  · go_enter Try.func25, Try.ntmps25
    go_wp2
    go_ret
    exact ⟨ret_boolF (by rw [← h]; simp [inB, h1]), rfl⟩
  · have h2 : decide (lo ≤ n) = false := decide_eq_false h1
    go_enter Try.func25, Try.ntmps25
    go_wp2
    go_ret
    exact ⟨ret_boolF (by rw [← h]; simp only [inB, h2, Bool.false_and]), rfl⟩

end Go.Proofs.Ytempmfpnngbbeab.fun

namespace Go.Proofs.Ytempmfpnngbbeab.words
open Go Go.RowKit Go.Proofs.Ytempmfpnngbbeab Go.Proofs.Ytempmfpnngbbeab.fun
set_option linter.unusedVariables false
set_option linter.unusedSimpArgs false

def intWordF (n : Int) : Int := if inB n (-1073741824) 1073741823 then 2 * n + 1 else 1
def refWordF (p : Int) : Int := if inB p 0 6000 then 2 * p else 0
def isRefF (x : Int) : Bool := decide (x % 2 = 0)
def halfF (x : Int) : Int := x / 2

theorem ret_i {a b : Int} (h : a = b) : Ending.returned (.int .i64 a) = Ending.returned (.int .i64 b) := by rw [h]
theorem ret_b {a b : Bool} (h : a = b) : Ending.returned (.bool a) = Ending.returned (.bool b) := by rw [h]
theorem and_one (n : Int) : bits .and .i64 n 1 = n % 2 := by
  have h1 : (BitVec.ofInt 64 1).toNat = 2 ^ 1 - 1 := by decide
  have key : (BitVec.ofInt 64 n &&& BitVec.ofInt 64 1).toNat = (n % ((2 ^ 64 : Nat) : Int)).toNat % 2 ^ 1 := by
    rw [BitVec.toNat_and, BitVec.toNat_ofInt, h1, Nat.and_two_pow_sub_one_eq_mod]
  have e : bits .and .i64 n 1 = IntKind.i64.wrap ((BitVec.ofInt 64 n &&& BitVec.ofInt 64 1).toNat : Nat) := rfl
  rw [e, key, IntKind.wrap_i64]
  omega
theorem and_63 (n : Int) : bits .and .i64 n 63 = n % 64 := by
  have h1 : (BitVec.ofInt 64 63).toNat = 2 ^ 6 - 1 := by decide
  have key : (BitVec.ofInt 64 n &&& BitVec.ofInt 64 63).toNat = (n % ((2 ^ 64 : Nat) : Int)).toNat % 2 ^ 6 := by
    rw [BitVec.toNat_and, BitVec.toNat_ofInt, h1, Nat.and_two_pow_sub_one_eq_mod]
  have e : bits .and .i64 n 63 = IntKind.i64.wrap ((BitVec.ofInt 64 n &&& BitVec.ofInt 64 63).toNat : Nat) := rfl
  rw [e, key, IntKind.wrap_i64]
  omega

set_option maxHeartbeats 1000000 in
theorem word_is {n : Int} {b : Bool} {w : World} (h : inB n (-1073741824) 1073741823 = b) :
    Calls Try.prog 39 #[.int .i64 n] w fun e w' => e = .returned (.bool b) ∧ w' = w := by
  go_enter Try.func39, Try.ntmps39
  go_wp2_with (go_at_call 25; refine (in_is h).mono ?_; rintro e w' ⟨rfl, hx⟩; subst w')
  go_ret
  exact ⟨rfl, rfl⟩

end Go.Proofs.Ytempmfpnngbbeab.words

namespace Go.Proofs.Ytempmfpnngbbeab.heap
open Go Go.RowKit Go.Proofs.Ytempmfpnngbbeab.rose Go.Proofs.Ytempmfpnngbbeab Go.Proofs.Ytempmfpnngbbeab.fun Go.Proofs.Ytempmfpnngbbeab.words
set_option linter.unusedVariables false
set_option linter.unusedSimpArgs false

set_option maxHeartbeats 1000000 in
theorem isref_is {n : Int} {b : Bool} {w : World} (h : decide (n % 2 = 0) = b) : Calls Try.prog 37 #[.int .i64 n] w fun e w' => e = .returned (.bool b) ∧ w' = w := by
  have ha := and_one n
  go_enter Try.func37, Try.ntmps37
  go_wp2
  go_ret
  exact ⟨ret_b (by rw [← h, Bool.eq_iff_iff]; simp), rfl⟩
set_option maxHeartbeats 1000000 in
theorem wordint_is (n : Int) (w : World) : Calls Try.prog 40 #[.int .i64 n] w fun e w' => e = .returned (.int .i64 (n / 2)) ∧ w' = w := by
  go_enter Try.func40, Try.ntmps40
  go_wp2
  go_ret
  exact ⟨ret_i (by first | rfl | omega), rfl⟩
set_option maxHeartbeats 1000000 in
theorem wordref_is (n : Int) (w : World) : Calls Try.prog 38 #[.int .i64 n] w fun e w' => e = .returned (.int .i64 (n / 2)) ∧ w' = w := by
  go_enter Try.func38, Try.ntmps38
  go_wp2
  go_ret
  exact ⟨ret_i (by first | rfl | omega), rfl⟩
set_option maxHeartbeats 2000000 in
theorem of_is (n : Int) (w : World) (h1 : -9223372036854775808 ≤ n) (h2 : n ≤ 9223372036854775807) : Calls Try.prog 27 #[.int .i64 n] w fun e w' => e = .returned (.tuple #[.bool (funF n), .int .i64 (tagF n), .int .i64 (manyF n)]) ∧ w' = w := by
  have ha := and_one (n / 2)
  have hb := and_63 (n / 2 / 2)
  have hq : IntKind.i64.wrap (Int.tdiv (n / 2 / 2) 64) = Int.tdiv (n / 2 / 2) 64 := IntWalk.i64_quo' _ _ (by omega)
  go_enter Try.func27, Try.ntmps27
  go_wp2
  refine bodyPost_ret (v := .tuple #[.bool (funF n), .int .i64 (tagF n), .int .i64 (manyF n)]) (by simp [results, Try.f27, go_sem, funF, tagF, manyF]; try (rw [Bool.eq_iff_iff]; simp)) rfl ?_
  exact ⟨rfl, rfl⟩
set_option maxHeartbeats 1000000 in
theorem in7_is {l : List Int} {x : Int} {b : Bool} (v : Value) (w : World) (hb : decide (x ∈ l) = b) (h : ints.intsSh.rep w (· < w.heap.size) [v] l) : Calls Try.prog 30 #[v, .int .i64 x] w fun e w' => e = .returned (.bool b) ∧ w' = w := by
  obtain ⟨a, cap, rfl, hcap, hmax, hat⟩ := ints.ints_open h
  have hmx : (l.length : Int) ≤ 9223372036854775807 := by unfold maxLen at hmax; omega
  have HA : Hid _ := hat
  have HB : Hid (decide (x ∈ l) = b) := hb
  clear h hcap hmax hat hb
  go_enter Try.func30, Try.ntmps30
  go_wp2
  go_loopw [5] (fun v5 wr => ∃ i : Nat, i ≤ l.length ∧ v5 = .int .i64 i ∧ wr = w ∧ Hid (∀ j (hj : j < l.length), j < i → l[j] ≠ x)) (fun v5 _ => l.length - (intOf v5).toNat)
  case atStart => exact ⟨0, Nat.zero_le _, rfl, rfl, fun j _ hj => absurd hj (Nat.not_lt_zero _)⟩
  case round =>
    obtain ⟨i, hi, rfl, hwr, HJ⟩ := hrel
    subst wr
    by_cases hlt : i < l.length
    · obtain ⟨b', o, rfl, hS, hc, -⟩ := HA.out i hlt
      have e0 : w.cell? ⟨b', o + i, none⟩ = some (.int .i64 l[i]) := hc
      clear hc
      by_cases he : l[i] = x
      · have HE : Hid (b = true) := by show _ = _; rw [← HB.out]; simp only [decide_eq_true_eq]; rw [← he]; exact List.getElem_mem hlt
        rw [he] at e0
        go_wp2
        go_ret
        exact ⟨ret_b HE.out.symm, rfl⟩
      · have hne : (l[i] == x) = false := by simpa using he
        have HN : Hid (∀ j (hj : j < l.length), j < i + 1 → l[j] ≠ x) := fun j hj h1 => by
          by_cases q : j = i
          · subst q; exact he
          · exact HJ.out j hj (by omega)
        generalize l[i] = y at e0 hne
        clear he
        go_wp2
        go_round
        case rel => exact ⟨i + 1, by omega, by go_num, by first | rfl | trivial, HN⟩
        case measure => simp [intOf]; omega
    · obtain rfl : i = l.length := by omega
      have HE : Hid (b = false) := by
        show _ = _; rw [← HB.out]; simp only [decide_eq_false_iff_not]
        intro hm
        obtain ⟨j, hj, e⟩ := List.getElem_of_mem hm
        exact HJ.out j hj hj e
      go_wp2
      go_ret
      exact ⟨ret_b HE.out.symm, rfl⟩

end Go.Proofs.Ytempmfpnngbbeab.heap

namespace Go.Proofs.Ytempmfpnngbbeab.ints
open Go.RowKit Go.Proofs.Ytempmfpnngbbeab.rose Go.Proofs.Ytempmfpnngbbeab
set_option linter.unusedVariables false

def InR (x : Int) : Prop := -9223372036854775808 ≤ x ∧ x ≤ 9223372036854775807

def IRow (w : World) (base : Nat) (v : Value) (l : List Int) : Prop := w.ownsRow base 3 1 v l.length (l.map (Value.int .i64)) ∧ ∀ x ∈ l, InR x

theorem IRow.nil (w : World) (base : Nat) : IRow w base (.slice none 0 0) [] := ⟨World.ownsRow_nil w base 3 1, fun x hx => by cases hx⟩
theorem IRow.lt {w : World} {base : Nat} {v : Value} {l : List Int} (h : IRow w base v l) : ∀ k, v.ownBlock = some k → base ≤ k ∧ k < w.heap.size := h.1.lt
theorem IRow.keep {w w' : World} {base : Nat} {v : Value} {l : List Int} (h : IRow w base v l) (hb : Below w.heap.size w w') : IRow w' base v l := by
  refine ⟨⟨h.1.1, ?_⟩, h.2⟩
  rcases h.1.2 with h0 | ⟨g, cap, cur, h1, h2, h3, h4⟩
  · exact Or.inl h0
  · have hg : g < w.heap.size := (Array.getElem?_eq_some_iff.1 h3).1
    exact Or.inr ⟨g, cap, cur, h1, h2, (hb.block g hg).trans h3, h4⟩
theorem IRow.open {w : World} {base : Nat} {v : Value} {l : List Int} (h : IRow w base v l) : (v = .slice none 0 0 ∧ l = []) ∨ ∃ g cap, v = .slice (some ⟨g, 0, none⟩) l.length cap ∧ base ≤ g ∧ g < w.heap.size ∧ l.length ≤ cap ∧ cap ≤ maxLen ∧ (∀ i (hi : i < l.length), w.cell? ⟨g, i, none⟩ = some (.int .i64 l[i])) ∧ ∃ cur t, w.heap[g]? = some (.cells cur t) := by
  rcases h.1.2 with ⟨h0, h1⟩ | ⟨g, cap, cur, h1, h2, h3, h4, h5, h6⟩
  · exact Or.inl ⟨h0, List.eq_nil_of_length_eq_zero h1⟩
  · refine Or.inr ⟨g, cap, h1, h2, (Array.getElem?_eq_some_iff.1 h3).1, h4, h5, fun i hi => ?_, cur, _, h3⟩
    have ho := h.1
    rw [h1] at ho
    have := ho.cellAt i (by omega)
    rw [this]
    simp [hi]
theorem IRow.sp {w : World} {base : Nat} {v : Value} {l : List Int} (h : IRow w base v l) : intsSp.rep w (fun b => base ≤ b ∧ b < w.heap.size) [v] l := by
  rcases h.open with ⟨rfl, rfl⟩ | ⟨g, cap, rfl, h2, h3, h4, h5, h6, cur, t, h7⟩
  · exact ⟨none, 0, fun _ => [], fun _ _ => False, rfl, Nat.le_refl _, Nat.zero_le _, fun _ => rfl, fun h0 => absurd h0 (Nat.not_lt_zero _), fun i hi => absurd hi (Nat.not_lt_zero _), fun i j hi => absurd hi (Nat.not_lt_zero _), fun i hi => absurd hi (Nat.not_lt_zero _)⟩
  · refine ⟨some ⟨g, 0, none⟩, cap, fun i => [.int .i64 (l.getD i 0)], fun _ _ => False, rfl, h4, h5, (fun h => by cases h), fun h0 => ⟨g, 0, cur, t, rfl, ⟨h2, h3⟩, h7, fun _ _ h => h, fun i hi q u hq => ?_⟩, fun i hi b h => h.elim, fun i j hi hj hne b h => h.elim, fun i hi => ⟨by simp [List.getD, hi], h.2 _ (List.getElem_mem hi)⟩⟩
    match q, hq with
    | 0, hq =>
      simp at hq; subst hq
      have := h6 i hi
      simpa [Sh.int, List.getD, hi] using this
    | _ + 1, hq => simp at hq

theorem info_int : (Try.prog.info? 3).map (fun i => (i.zero, i.size, i.bytes)) = some (some (.int .i64 0), 1, 8) := by kernel_rfl
theorem int_info : ∃ ti, Try.prog.info? 3 = some ti ∧ ti.zero = some (.int .i64 0) ∧ ti.size = 1 ∧ ti.bytes = 8 := by
  obtain ⟨i, hi, hzz⟩ := Option.map_eq_some_iff.1 info_int
  simp only [Prod.mk.injEq] at hzz
  exact ⟨i, hi, hzz⟩

theorem IRow.more {w : World} {base : Nat} {v : Value} {xs ys : List Int} (h : w.ownsRow base 3 1 v (xs.length + ys.length) (xs.map (Value.int .i64) ++ ys.map (Value.int .i64))) (hx : ∀ x ∈ xs, InR x) (hy : ∀ x ∈ ys, InR x) : IRow w base v (xs ++ ys) := by
  refine ⟨by rw [List.length_append, List.map_append]; exact h, fun x hm => ?_⟩
  rcases List.mem_append.1 hm with q | q
  · exact hx x q
  · exact hy x q

end Go.Proofs.Ytempmfpnngbbeab.ints

namespace Go.Proofs.Ytempmfpnngbbeab.rose
open Go Go.RowKit
set_option linter.unusedVariables false

theorem own_set {w : World} {base : Nat} {t : TypeId} {k g n c j : Nat} {xs : List Value} {u : Value} (h : w.ownsRow base t k (.slice (some ⟨g, 0, none⟩) n c) n xs) (hj : j < n * k) : (w.setCell ⟨g, j, none⟩ u).ownsRow base t k (.slice (some ⟨g, 0, none⟩) n c) n (xs.set j u) := by
  obtain ⟨hl, hv⟩ := h
  refine ⟨by simpa using hl, Or.inr ?_⟩
  rcases hv with ⟨h, _⟩ | ⟨g', c', cur, h1, h2, h3, h4, h5, h6, h7⟩
  · cases h
  · cases h1
    refine ⟨g, c, cur.setIfInBounds j u, rfl, h2, by simp [World.setCell, Array.getElem?_modify, h3], h4, h5, by simpa using h6, ?_⟩
    rw [← h7]
    simp [List.take_set]
theorem own_same {w w' : World} {base : Nat} {t : TypeId} {k n : Nat} {v : Value} {xs : List Value} (h : w.ownsRow base t k v n xs) (hb : ∀ q, v.ownBlock = some q → w'.heap[q]? = w.heap[q]?) : w'.ownsRow base t k v n xs := by
  refine ⟨h.1, ?_⟩
  rcases h.2 with h0 | ⟨g, cap, cur, h1, h2, h3, h4⟩
  · exact Or.inl h0
  · exact Or.inr ⟨g, cap, cur, h1, h2, (hb g (by rw [h1]; rfl)).trans h3, h4⟩
theorem own_form {w : World} {base : Nat} {t : TypeId} {k n : Nat} {v : Value} {xs : List Value} (h : w.ownsRow base t k v n xs) : ∃ a c, v = .slice a n c := by
  rcases h.2 with ⟨rfl, h0⟩ | ⟨_, _, _, rfl, _⟩
  · exact ⟨_, _, by rw [h0]⟩
  · exact ⟨_, _, rfl⟩
theorem new_cell (w : World) (t : TypeId) (u : Value) : ∀ j x, [u][j]? = some x → (w.alloc (.cells #[u] t)).cell? ((⟨w.heap.size, 0, none⟩ : Addr).add j) = some x := by
  intro j x hj
  match j, hj with
  | 0, hj =>
    simp at hj; subst hj
    rw [add_plain]
    simp
  | _ + 1, hj => simp at hj
theorem own_base {w : World} {base base' : Nat} {t : TypeId} {k n : Nat} {v : Value} {xs : List Value} (h : w.ownsRow base t k v n xs) (hb : base' ≤ base) : w.ownsRow base' t k v n xs := by
  refine ⟨h.1, ?_⟩
  rcases h.2 with h0 | ⟨g, cap, cur, h1, h2, h3, h4⟩
  · exact Or.inl h0
  · exact Or.inr ⟨g, cap, cur, h1, by omega, h3, h4⟩
theorem below_block {B : Nat} {w w' : World} (h : Below B w w') {b : Nat} (hb : b < B) : w'.heap[b]? = w.heap[b]? := h.block b hb

end Go.Proofs.Ytempmfpnngbbeab.rose
