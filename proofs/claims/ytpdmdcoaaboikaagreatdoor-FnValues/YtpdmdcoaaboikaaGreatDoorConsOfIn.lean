/-
  The program's consOf: it hands over its iterator, with its argument in a new box; and what lies where behind some new boxes.
-/
import Derived.Test.YtpdmdcoaaboikaaGreatDoorConsOf
import Derived.Deep.QuietTactic
import Derived.BigQuiet
import Derived.WalkSmall
namespace Go.Proofs.YtpdmdcoaaboikaaGreatDoor.data
open Go.RowKit Go.Shelf Go.Proofs.YtpdmdcoaaboikaaGreatDoor.rose Go.Proofs.YtpdmdcoaaboikaaGreatDoor.rangeb Go.Proofs.YtpdmdcoaaboikaaGreatDoor
set_option linter.unusedVariables false
set_option linter.unusedSimpArgs false
attribute [local go_sem] Oper.semAt_some

set_option maxRecDepth 100000 in
theorem consOf_in (F : Fence) (n : Nat) (hF : F.fn 31) (hro : F.round = none) (v : Value) (w : World) (o : v.oneCell' = true) :
    CallsIn F n Tryz.prog 31 #[v] w fun e w' => e = .returned (.func (.func 51) #[] #[.pointer (some ⟨w.heap.size, 0, none⟩)]) ∧ w' = w.alloc (.cells #[v] 28) := by
  refine callsIn_of_wp Tryz.func31 rfl hF ?_ hro
  simp only [Tryz.ntmps31, List.size_toArray, List.length_cons, List.length_nil, Nat.reduceAdd, Nat.reduceSub, Array.replicate_succ, Array.replicate_zero, List.push_toArray, List.append_toArray, List.nil_append, List.cons_append]
  gi_wp2
  refine bodyPost_ret (results_tmp rfl _ _ _) rfl ?_
  exact ⟨rfl, rfl⟩

theorem blk_cell {W : World} {B i : Nat} {cs : Array Value} {t : TypeId} {v : Value} (h : W.heap[B]? = some (.cells cs t)) (hv : cs[i]? = some v) : W.cell? ⟨B, i, none⟩ = some v := by simp [World.cell?, h, hv]
theorem blk_free {W : World} {B i : Nat} {cs : Array Value} {t : TypeId} (h : W.heap[B]? = some (.cells cs t)) : W.frozen? ⟨B, i, none⟩ = false := by simp [World.frozen?, h]

theorem three (w : World) (A B C : Obj) (WL : World) (h : WL = ((w.alloc A).alloc B).alloc C) : WL.heap.size = w.heap.size + 3 ∧ Below w.heap.size w WL ∧ WL.heap[w.heap.size]? = some A ∧ WL.heap[w.heap.size + 1]? = some B ∧ WL.heap[w.heap.size + 2]? = some C := by
  subst h
  refine ⟨by simp, (((Below.refl _ w).alloc (Nat.le_refl _) _).alloc (by simp) _).alloc (by simp only [World.size_alloc]; omega) _, ?_, ?_, ?_⟩
  · exact (Below.heap_alloc _ _ _ (by simp; omega)).trans ((Below.heap_alloc _ _ _ (by simp)).trans (alloc_top _ _))
  · have := alloc_top (w.alloc A) B
    rw [World.size_alloc] at this
    exact (Below.heap_alloc _ _ _ (by simp)).trans this
  · have := alloc_top ((w.alloc A).alloc B) C
    rwa [World.size_alloc, World.size_alloc] at this

theorem four (w : World) (A B C E : Obj) (WL : World) (h : WL = (((w.alloc A).alloc B).alloc C).alloc E) : WL.heap.size = w.heap.size + 4 ∧ Below w.heap.size w WL ∧ WL.heap[w.heap.size]? = some A ∧ WL.heap[w.heap.size + 1]? = some B ∧ WL.heap[w.heap.size + 2]? = some C ∧ WL.heap[w.heap.size + 3]? = some E := by
  obtain ⟨h0, h1, h2, h3, h4⟩ := three w A B C _ rfl
  subst h
  refine ⟨by simp, h1.alloc (by simp only [World.size_alloc]; omega) _, (Below.heap_alloc _ _ _ (by rw [h0]; omega)).trans h2, (Below.heap_alloc _ _ _ (by rw [h0]; omega)).trans h3, (Below.heap_alloc _ _ _ (by rw [h0]; omega)).trans h4, ?_⟩
  have := alloc_top (((w.alloc A).alloc B).alloc C) E
  rwa [h0] at this

theorem heap_drew (w : World) : w.drew.heap = w.heap := rfl
theorem kept_drew {n₀ B : Nat} {W W' : World} (h : Kept n₀ B W W') : Kept n₀ B W W'.drew := ⟨h.size, h.low, h.high⟩

end Go.Proofs.YtpdmdcoaaboikaaGreatDoor.data
