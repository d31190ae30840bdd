/-
  A slice of bytes that a call has built itself, from a block number on.
-/
import Derived.Test.YtlfchmmkaflglaaDoorBytesMk
import Derived.OwnWalk
namespace Go.Proofs.YtlfchmmkaflglaaDoor.byts
open Go.RowKit Go.Proofs.YtlfchmmkaflglaaDoor.rose Go.Proofs.YtlfchmmkaflglaaDoor
set_option linter.unusedVariables false

def InB8 (x : Int) : Prop := 0 ≤ x ∧ x ≤ 255

def BRow (w : World) (base : Nat) (v : Value) (l : List Int) : Prop := w.ownsRow base 5 1 v l.length (l.map (Value.int .u8)) ∧ ∀ x ∈ l, InB8 x

theorem BRow.nil (w : World) (base : Nat) : BRow w base (.slice none 0 0) [] := ⟨World.ownsRow_nil w base 5 1, fun x hx => by cases hx⟩
theorem BRow.lt {w : World} {base : Nat} {v : Value} {l : List Int} (h : BRow w base v l) : ∀ k, v.ownBlock = some k → base ≤ k ∧ k < w.heap.size := h.1.lt
theorem BRow.keep {w w' : World} {base : Nat} {v : Value} {l : List Int} (h : BRow w base v l) (hb : Below w.heap.size w w') : BRow w' base v l := by
  refine ⟨⟨h.1.1, ?_⟩, h.2⟩
  rcases h.1.2 with h0 | ⟨g, cap, cur, h1, h2, h3, h4⟩
  · exact Or.inl h0
  · have hg : g < w.heap.size := (Array.getElem?_eq_some_iff.1 h3).1
    exact Or.inr ⟨g, cap, cur, h1, h2, (hb.block g hg).trans h3, h4⟩
theorem BRow.open {w : World} {base : Nat} {v : Value} {l : List Int} (h : BRow w base v l) : (v = .slice none 0 0 ∧ l = []) ∨ ∃ g cap, v = .slice (some ⟨g, 0, none⟩) l.length cap ∧ base ≤ g ∧ g < w.heap.size ∧ l.length ≤ cap ∧ cap ≤ maxLen ∧ (∀ i (hi : i < l.length), w.cell? ⟨g, i, none⟩ = some (.int .u8 l[i])) ∧ ∃ cur t, w.heap[g]? = some (.cells cur t) := by
  rcases h.1.2 with ⟨h0, h1⟩ | ⟨g, cap, cur, h1, h2, h3, h4, h5, h6⟩
  · exact Or.inl ⟨h0, List.eq_nil_of_length_eq_zero h1⟩
  · refine Or.inr ⟨g, cap, h1, h2, (Array.getElem?_eq_some_iff.1 h3).1, h4, h5, fun i hi => ?_, cur, _, h3⟩
    have ho := h.1
    rw [h1] at ho
    have := ho.cellAt i (by omega)
    rw [this]
    simp [hi]
theorem BRow.sp {w : World} {base : Nat} {v : Value} {l : List Int} (h : BRow w base v l) : bytesSp.rep w (fun b => base ≤ b ∧ b < w.heap.size) [v] l := by
  rcases h.open with ⟨rfl, rfl⟩ | ⟨g, cap, rfl, h2, h3, h4, h5, h6, cur, t, h7⟩
  · exact ⟨none, 0, fun _ => [], fun _ _ => False, rfl, Nat.le_refl _, Nat.zero_le _, fun _ => rfl, fun h0 => absurd h0 (Nat.not_lt_zero _), fun i hi => absurd hi (Nat.not_lt_zero _), fun i j hi => absurd hi (Nat.not_lt_zero _), fun i hi => absurd hi (Nat.not_lt_zero _)⟩
  · refine ⟨some ⟨g, 0, none⟩, cap, fun i => [.int .u8 (l.getD i 0)], fun _ _ => False, rfl, h4, h5, (fun h => by cases h), fun h0 => ⟨g, 0, cur, t, rfl, ⟨h2, h3⟩, h7, fun _ _ h => h, fun i hi q u hq => ?_⟩, fun i hi b h => h.elim, fun i j hi hj hne b h => h.elim, fun i hi => ⟨by simp [List.getD, hi], h.2 _ (List.getElem_mem hi)⟩⟩
    match q, hq with
    | 0, hq =>
      simp at hq; subst hq
      have := h6 i hi
      simpa [Sh.byte, List.getD, hi] using this
    | _ + 1, hq => simp at hq

theorem info_byte : (Tryd.prog.info? 5).map (fun i => (i.zero, i.size, i.bytes)) = some (some (.int .u8 0), 1, 1) := by kernel_rfl
theorem byte_info : ∃ ti, Tryd.prog.info? 5 = some ti ∧ ti.zero = some (.int .u8 0) ∧ ti.size = 1 ∧ ti.bytes = 1 := by
  obtain ⟨i, hi, hzz⟩ := Option.map_eq_some_iff.1 info_byte
  simp only [Prod.mk.injEq] at hzz
  exact ⟨i, hi, hzz⟩

theorem BRow.more {w : World} {base : Nat} {v : Value} {xs ys : List Int} (h : w.ownsRow base 5 1 v (xs.length + ys.length) (xs.map (Value.int .u8) ++ ys.map (Value.int .u8))) (hx : ∀ x ∈ xs, InB8 x) (hy : ∀ x ∈ ys, InB8 x) : BRow w base v (xs ++ ys) := by
  refine ⟨by rw [List.length_append, List.map_append]; exact h, fun x hm => ?_⟩
  rcases List.mem_append.1 hm with q | q
  · exact hx x q
  · exact hy x q

end Go.Proofs.YtlfchmmkaflglaaDoor.byts
