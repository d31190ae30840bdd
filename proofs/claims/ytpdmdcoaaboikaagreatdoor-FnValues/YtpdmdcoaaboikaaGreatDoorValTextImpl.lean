/-
  The program's TyText, at every type; nothing that was there is turned.
-/
import Derived.Test.YtpdmdcoaaboikaaGreatDoorValWr3
namespace Go.Proofs.YtpdmdcoaaboikaaGreatDoor.vt
open Go Go.RowKit Go.Deep Go.Proofs.YtpdmdcoaaboikaaGreatDoor.rose Go.Proofs.YtpdmdcoaaboikaaGreatDoor.value Go.Proofs.YtpdmdcoaaboikaaGreatDoor
set_option linter.unusedVariables false
set_option linter.unusedSimpArgs false

set_option maxRecDepth 100000 in
set_option maxHeartbeats 4000000 in
theorem implValueText (T : ValueD) (cs : List Value) (w : World) (hw : wt T ≤ 1048576) (ht : Tab w) (h : valueSh.rep w (· < w.heap.size) cs T) :
    Calls Tryz.prog 7 #[.agg cs.toArray] w fun e w' => e = .returned (.string (str (tl T))) ∧ Below w.heap.size w w' := by
  have HR : Hid (valueSh.rep w (· < w.heap.size) cs T) := h
  have HTB : Hid (Tab w) := ht
  clear ht
  obtain ⟨v0, v1, v2, v3, rfl⟩ := value_list h
  have o0 := valueSh.one h v0 (by simp)
  have o1 := valueSh.one h v1 (by simp)
  have o2 := valueSh.one h v2 (by simp)
  have o3 := valueSh.one h v3 (by simp)
  clear h
  have HW : Hid (∀ w1 : World, Below w.heap.size w w1 → Calls Tryz.prog 15 #[.slice (some ⟨w1.heap.size, 0, none⟩) 1 1] (w1.alloc (.cells #[.iface 43 (.agg #[v0, v1, v2, v3])] 70)) fun e w' => e = .returned (.string (str (tl T))) ∧ Below w.heap.size w1 w') := fun w1 hb1 => by
    have hb2 : Below w1.heap.size w1 (w1.alloc (.cells #[.iface 43 (.agg #[v0, v1, v2, v3])] 70)) := (Below.refl _ _).alloc (Nat.le_refl _) _
    have hT : TF w1 (· < w.heap.size) (.iface 43 (.agg #[v0, v1, v2, v3])) T := ⟨[v0, v1, v2, v3], rfl, valueSh.on HR.out fun b hb => hb1.block b hb⟩
    have hO := FsOwn.one (base := w.heap.size) (S := (· < w.heap.size)) (N := w1.heap.size) (f := .val T) hT hb1.size (fun b hb => Nat.lt_of_lt_of_le hb hb1.size) (Nat.le_refl _)
    obtain ⟨a, cap, e1, hc, hcm, hat⟩ := hO.at (by simp)
    simp only [List.length_cons, List.length_nil, Nat.zero_add, Value.slice.injEq, true_and] at e1
    obtain ⟨e1, e2⟩ := e1
    subst e1 e2
    have := tl_le T
    have := mt_le T
    refine (written_any [.val T] (some ⟨w1.heap.size, 0, none⟩) 1 _ (HTB.out.on (hb1.trans (hb2.mono hb1.size))) (· < w.heap.size) (tl T) (fun b hb => Nat.lt_of_lt_of_le hb (Nat.le_trans hb1.size hb2.size)) (by simp [fts, ft]) (by omega) (by simp [msum, mu]; omega) hc hcm (fun f hf => by simp at hf; subst hf; exact hw) hat).mono ?_
    rintro e w' ⟨rfl, hb⟩
    exact ⟨rfl, (hb2.mono hb1.size).trans (hb.mono (Nat.le_trans hb1.size hb2.size))⟩
  go_enter Tryz.func7, Tryz.ntmps7
  go_wp2_with fail
  have hal : Below w.heap.size w (w.alloc (.cells #[v0, v1, v2, v3] 26)) := (Below.refl _ _).alloc (Nat.le_refl _) _
  have hc := HW.out _ hal
  rw [show (w.alloc (.cells #[v0, v1, v2, v3] 26)).heap.size = w.heap.size + 1 by simp] at hc
  refine Calls.mono hc ?_
  rintro e w2 ⟨rfl, hb2⟩
  have HB : Hid (Below w.heap.size w w2) := hal.trans hb2
  clear hc hb2 hal
  go_wp2
  go_ret
  exact ⟨rfl, HB.out⟩

end Go.Proofs.YtpdmdcoaaboikaaGreatDoor.vt
