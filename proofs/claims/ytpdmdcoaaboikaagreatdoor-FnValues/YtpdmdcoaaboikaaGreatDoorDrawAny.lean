/-
  The model's l1DrawAny: some number; but for the cursor nothing that was there is turned.
-/
import Derived.Test.YtpdmdcoaaboikaaGreatDoorCur2
import Derived.Deep.RegionWith
namespace Go.Proofs.YtpdmdcoaaboikaaGreatDoor.cur
open Go.RowKit
set_option linter.unusedVariables false

theorem grown_drew {w w' : World} {row : Option Nat} (h : w.grownBy w' row) : w.grownBy w'.drew row := ⟨h.os, h.tape, h.output, h.size, h.block⟩

theorem ints_new (w : World) (zs : List Int) (t : TypeId) (hz : ∀ z ∈ zs, -9223372036854775808 ≤ z ∧ z ≤ 9223372036854775807) :
    ∀ j, j < zs.length → ∃ z : Int, (w.alloc (.cells (zs.map (Value.int .i64)).toArray t)).cell? ⟨w.heap.size, j, none⟩ = some (.int .i64 z) ∧ -9223372036854775808 ≤ z ∧ z ≤ 9223372036854775807 := by
  intro j hj
  refine ⟨zs[j], ?_, hz _ (List.getElem_mem hj)⟩
  rw [World.cell?_alloc_new]
  simp [hj]
theorem strs_new (w : World) (ss : List ByteArray) (t : TypeId) (m : Nat) (hz : ∀ s ∈ ss, s.size ≤ m) :
    ∀ j, j < ss.length → ∃ s : ByteArray, (w.alloc (.cells (ss.map Value.string).toArray t)).cell? ⟨w.heap.size, j, none⟩ = some (.string s) ∧ s.size ≤ m := by
  intro j hj
  refine ⟨ss[j], ?_, hz _ (List.getElem_mem hj)⟩
  rw [World.cell?_alloc_new]
  simp [hj]

set_option maxHeartbeats 400000 in
theorem drawAny_any (B p : Nat) (w : World) (hc : Cur B w p) :
    Calls Tryz.prog 26 #[.pointer (some ⟨p, 0, none⟩)] w fun e w' => ∃ x : Int, e = .returned (.int .i64 x) ∧ -9223372036854775808 ≤ x ∧ x ≤ 9223372036854775807 ∧ Cur B w' p ∧ w.grownBy w' (some p) := by
  have hlt := hc.lt
  have HC : Hid (Cur B w p) := hc
  clear hc
  go_enter Tryz.func26, Tryz.ntmps26
  go_wp2_with fail
  refine (pickInt_any B p w.heap.size 10 _ (HC.out.on (World.grownBy_alloc _ _ none)) (by decide) (by decide) (by omega) (by simp)
    (ints_new w [0, 1, -1, 5, 1073741823, 1073741824, -1073741824, -1073741825, 9223372036854775807, -9223372036854775808] 3 (by decide))).mono ?_
  rintro e w1 ⟨x, rfl, hx0, hx1, hc1, hg1⟩
  have H1 : Hid (Cur B w1 p) := hc1
  have G1 : Hid (w.grownBy w1 (some p)) := (World.grownBy_alloc w _ (some p)).trans hg1
  clear hc1 hg1
  go_wp2
  go_ret
  exact ⟨x, rfl, hx0, hx1, H1.out, G1.out⟩

theorem below_of {B p : Nat} {w w1 w2 : World} (hB : B = w.heap.size) (h1 : w.grownBy w1 none) (h2 : w1.grownBy w2 (some p)) (hp : B ≤ p) : Below w.heap.size w w2 := by
  subst hB
  exact ((Below.refl _ w).grown h1 (Nat.le_refl _) (fun k hk => by cases hk)).grown h2 h1.size (fun k hk => by cases hk; exact hp)

end Go.Proofs.YtpdmdcoaaboikaaGreatDoor.cur
