/-
  Lists that a draw picks from; what a draw has turned.
-/
import Derived.Test.YtphbbacpeojmlaaCur2I
import Derived.Deep.RegionWith
namespace Go.Proofs.Ytphbbacpeojmlaa.cur
open Go.RowKit
set_option linter.unusedVariables false

theorem grown_drew {w w' : World} {row : Option Nat} (h : w.grownBy w' row) : w.grownBy w'.drew row := ⟨h.os, h.tape, h.output, h.size, h.block⟩

theorem ints_new (w : World) (zs : List Int) (t : TypeId) (hz : ∀ z ∈ zs, -9223372036854775808 ≤ z ∧ z ≤ 9223372036854775807) :
    ∀ j, j < zs.length → ∃ z : Int, (w.alloc (.cells (zs.map (Value.int .i64)).toArray t)).cell? ⟨w.heap.size, j, none⟩ = some (.int .i64 z) ∧ -9223372036854775808 ≤ z ∧ z ≤ 9223372036854775807 := by
  intro j hj
  refine ⟨zs[j], ?_, hz _ (List.getElem_mem hj)⟩
  rw [World.cell?_alloc_new]
  simp [hj]
theorem strs_new (w : World) (ss : List ByteArray) (t : TypeId) (m : Nat) (hz : ∀ s ∈ ss, s.size ≤ m) :
    ∀ j, j < ss.length → ∃ s : ByteArray, (w.alloc (.cells (ss.map Value.string).toArray t)).cell? ⟨w.heap.size, j, none⟩ = some (.string s) ∧ s.size ≤ m := by
  intro j hj
  refine ⟨ss[j], ?_, hz _ (List.getElem_mem hj)⟩
  rw [World.cell?_alloc_new]
  simp [hj]
theorem below_of {B p : Nat} {w w1 w2 : World} (hB : B = w.heap.size) (h1 : w.grownBy w1 none) (h2 : w1.grownBy w2 (some p)) (hp : B ≤ p) : Below w.heap.size w w2 := by
  subst hB
  exact ((Below.refl _ w).grown h1 (Nat.le_refl _) (fun k hk => by cases hk)).grown h2 h1.size (fun k hk => by cases hk; exact hp)

end Go.Proofs.Ytphbbacpeojmlaa.cur
