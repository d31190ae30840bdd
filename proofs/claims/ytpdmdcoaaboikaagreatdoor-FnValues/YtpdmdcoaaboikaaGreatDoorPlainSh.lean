/-
  Data that lie in blocks that nothing froze: the same kinds of data, so; a row that the call itself owns lies so.
-/
import Derived.Test.YtpdmdcoaaboikaaGreatDoorRoseQ
import Derived.Test.YtpdmdcoaaboikaaGreatDoorDataSh
import Derived.Test.YtpdmdcoaaboikaaGreatDoorOwnMore
namespace Go.Proofs.YtpdmdcoaaboikaaGreatDoor.rose
open Go Go.RowKit Go.Deep Go.ChangeShapes Go.WideShapes
set_option linter.unusedVariables false

/-- The same data, in blocks that nothing froze. -/
@[reducible] def Sh.plain {α : Type} (A : Sh α) : Sh α where
  k := A.k
  rep := fun w S cs x => A.rep w (fun b => S b ∧ Plain w b) cs x
  len := fun h => A.len h
  on := fun h hb => A.mono (A.on h fun b hS => hb b hS.1) fun b hS => ⟨hS.1, hS.2.on (hb b hS.1)⟩
  mono := fun h hm => A.mono h fun b hS => ⟨hm b hS.1, hS.2⟩
  one := fun h => A.one h

theorem Sh.bare {α : Type} {A : Sh α} {w : World} {S : Nat → Prop} {cs : List Value} {x : α} (h : (Sh.plain A).rep w S cs x) : A.rep w (fun b => S b ∧ Plain w b) cs x := h
theorem Sh.of {α : Type} {A : Sh α} {w : World} {S : Nat → Prop} {cs : List Value} {x : α} (h : A.rep w (fun b => S b ∧ Plain w b) cs x) : (Sh.plain A).rep w S cs x := h

theorem Own.sliceP {α : Type} {A : Sh α} {t : TypeId} {w : World} {base : Nat} {S : Nat → Prop} {v : Value} {xs : List α} (h : Own A t w base S v xs) (hk : 0 < A.k) (hS : ∀ b, base ≤ b → b < w.heap.size → Plain w b → S b) : A.slice.rep w S [v] xs := by
  obtain ⟨css, ⟨hl, hv⟩, hr⟩ := h
  rcases hv with ⟨rfl, h0⟩ | ⟨g, cap, cur, rfl, h2, h3, h4, h5, h6, h7⟩
  · have : xs = [] := List.eq_nil_of_length_eq_zero h0
    subst this
    exact ⟨none, 0, fun _ => [], rfl, Nat.le_refl _, Nat.zero_le _, fun _ => rfl, fun i hi => absurd hi (Nat.not_lt_zero _), fun i hi => absurd hi (Nat.not_lt_zero _)⟩
  · have hg : g < w.heap.size := (Array.getElem?_eq_some_iff.1 h3).1
    refine ⟨some ⟨g, 0, none⟩, cap, css, rfl, h4, h5, (fun h => by cases h), fun i hi => ⟨g, 0, rfl, hS g h2 hg ⟨cur, t, h3⟩, fun j u hj => ?_⟩, hr⟩
    show w.cell? ⟨g, 0 + i * A.k + j, none⟩ = some u
    rw [Nat.zero_add]
    exact own_cell ⟨hl, .inr ⟨g, cap, cur, rfl, h2, h3, h4, h5, h6, h7⟩⟩ (fun i hi => A.len (hr i hi)) hi hj

end Go.Proofs.YtpdmdcoaaboikaaGreatDoor.rose
