/-
  A slice of ints that a call has built itself, from a block number on.
-/
import Derived.Test.YtempmfpnngbbeabIntsSp
import Derived.OwnWalk
namespace Go.Proofs.Ytempmfpnngbbeab.ints
open Go.RowKit Go.Proofs.Ytempmfpnngbbeab.rose Go.Proofs.Ytempmfpnngbbeab
set_option linter.unusedVariables false

def InR (x : Int) : Prop := -9223372036854775808 ≤ x ∧ x ≤ 9223372036854775807

def IRow (w : World) (base : Nat) (v : Value) (l : List Int) : Prop := w.ownsRow base 3 1 v l.length (l.map (Value.int .i64)) ∧ ∀ x ∈ l, InR x

theorem IRow.nil (w : World) (base : Nat) : IRow w base (.slice none 0 0) [] := ⟨World.ownsRow_nil w base 3 1, fun x hx => by cases hx⟩
theorem IRow.lt {w : World} {base : Nat} {v : Value} {l : List Int} (h : IRow w base v l) : ∀ k, v.ownBlock = some k → base ≤ k ∧ k < w.heap.size := h.1.lt
theorem IRow.keep {w w' : World} {base : Nat} {v : Value} {l : List Int} (h : IRow w base v l) (hb : Below w.heap.size w w') : IRow w' base v l := by
  refine ⟨⟨h.1.1, ?_⟩, h.2⟩
  rcases h.1.2 with h0 | ⟨g, cap, cur, h1, h2, h3, h4⟩
  · exact Or.inl h0
  · have hg : g < w.heap.size := (Array.getElem?_eq_some_iff.1 h3).1
    exact Or.inr ⟨g, cap, cur, h1, h2, (hb.block g hg).trans h3, h4⟩
theorem IRow.open {w : World} {base : Nat} {v : Value} {l : List Int} (h : IRow w base v l) : (v = .slice none 0 0 ∧ l = []) ∨ ∃ g cap, v = .slice (some ⟨g, 0, none⟩) l.length cap ∧ base ≤ g ∧ g < w.heap.size ∧ l.length ≤ cap ∧ cap ≤ maxLen ∧ (∀ i (hi : i < l.length), w.cell? ⟨g, i, none⟩ = some (.int .i64 l[i])) ∧ ∃ cur t, w.heap[g]? = some (.cells cur t) := by
  rcases h.1.2 with ⟨h0, h1⟩ | ⟨g, cap, cur, h1, h2, h3, h4, h5, h6⟩
  · exact Or.inl ⟨h0, List.eq_nil_of_length_eq_zero h1⟩
  · refine Or.inr ⟨g, cap, h1, h2, (Array.getElem?_eq_some_iff.1 h3).1, h4, h5, fun i hi => ?_, cur, _, h3⟩
    have ho := h.1
    rw [h1] at ho
    have := ho.cellAt i (by omega)
    rw [this]
    simp [hi]
theorem IRow.sp {w : World} {base : Nat} {v : Value} {l : List Int} (h : IRow w base v l) : intsSp.rep w (fun b => base ≤ b ∧ b < w.heap.size) [v] l := by
  rcases h.open with ⟨rfl, rfl⟩ | ⟨g, cap, rfl, h2, h3, h4, h5, h6, cur, t, h7⟩
  · exact ⟨none, 0, fun _ => [], fun _ _ => False, rfl, Nat.le_refl _, Nat.zero_le _, fun _ => rfl, fun h0 => absurd h0 (Nat.not_lt_zero _), fun i hi => absurd hi (Nat.not_lt_zero _), fun i j hi => absurd hi (Nat.not_lt_zero _), fun i hi => absurd hi (Nat.not_lt_zero _)⟩
  · refine ⟨some ⟨g, 0, none⟩, cap, fun i => [.int .i64 (l.getD i 0)], fun _ _ => False, rfl, h4, h5, (fun h => by cases h), fun h0 => ⟨g, 0, cur, t, rfl, ⟨h2, h3⟩, h7, fun _ _ h => h, fun i hi q u hq => ?_⟩, fun i hi b h => h.elim, fun i j hi hj hne b h => h.elim, fun i hi => ⟨by simp [List.getD, hi], h.2 _ (List.getElem_mem hi)⟩⟩
    match q, hq with
    | 0, hq =>
      simp at hq; subst hq
      have := h6 i hi
      simpa [Sh.int, List.getD, hi] using this
    | _ + 1, hq => simp at hq

theorem info_int : (Try.prog.info? 3).map (fun i => (i.zero, i.size, i.bytes)) = some (some (.int .i64 0), 1, 8) := by kernel_rfl
theorem int_info : ∃ ti, Try.prog.info? 3 = some ti ∧ ti.zero = some (.int .i64 0) ∧ ti.size = 1 ∧ ti.bytes = 8 := by
  obtain ⟨i, hi, hzz⟩ := Option.map_eq_some_iff.1 info_int
  simp only [Prod.mk.injEq] at hzz
  exact ⟨i, hi, hzz⟩

theorem IRow.more {w : World} {base : Nat} {v : Value} {xs ys : List Int} (h : w.ownsRow base 3 1 v (xs.length + ys.length) (xs.map (Value.int .i64) ++ ys.map (Value.int .i64))) (hx : ∀ x ∈ xs, InR x) (hy : ∀ x ∈ ys, InR x) : IRow w base v (xs ++ ys) := by
  refine ⟨by rw [List.length_append, List.map_append]; exact h, fun x hm => ?_⟩
  rcases List.mem_append.1 hm with q | q
  · exact hx x q
  · exact hy x q

end Go.Proofs.Ytempmfpnngbbeab.ints
