/-
  A heap at work as the heap that it is (heap), under its lock.
  A heap that was moved as the heap that it is (heap), under its lock.
-/
import Derived.Deep.RegionHeld3
import Derived.Test.YthpdkjenadngoaaGreatDoorB1
import Derived.Test.YthpdkjenadngoaaGreatDoorB2
import Derived.Test.YthpdkjenadngoaaGreatDoorB3
import Derived.Test.YthpdkjenadngoaaGreatDoorB4
import Derived.Test.YthpdkjenadngoaaGreatDoorB5
import Derived.Test.YthpdkjenadngoaaGreatDoorB6
import Derived.Test.YthpdkjenadngoaaGreatDoorB7
import Derived.Test.YthpdkjenadngoaaGreatDoorB8
import Derived.Test.YthpdkjenadngoaaGreatDoorB9
import Derived.Test.YthpdkjenadngoaaGreatDoorB10
import Derived.Test.YthpdkjenadngoaaGreatDoorB11
import Derived.Test.YthpdkjenadngoaaGreatDoorB12
import Derived.Test.YthpdkjenadngoaaGreatDoorB13
import Derived.Test.YthpdkjenadngoaaGreatDoorB14
import Derived.Test.YthpdkjenadngoaaGreatDoorB15
import Derived.Test.YthpdkjenadngoaaGreatDoorB16
import Derived.Test.YthpdkjenadngoaaGreatDoorB17
import Derived.Test.YthpdkjenadngoaaGreatDoorB18
import Derived.Test.YthpdkjenadngoaaGreatDoorB19
import Derived.Test.YthpdkjenadngoaaGreatDoorB20
import Derived.Test.YthpdkjenadngoaaGreatDoorB21
import Derived.Test.YthpdkjenadngoaaGreatDoorB22
import Derived.Test.YthpdkjenadngoaaGreatDoorB23
import Derived.Test.YthpdkjenadngoaaGreatDoorB24
import Derived.Test.YthpdkjenadngoaaGreatDoorB25
import Derived.Test.YthpdkjenadngoaaGreatDoorB26
import Derived.Test.YthpdkjenadngoaaGreatDoorB27
import Derived.Test.YthpdkjenadngoaaGreatDoorB28
import Derived.Test.YthpdkjenadngoaaGreatDoorB29
import Derived.Test.YthpdkjenadngoaaGreatDoorB30
import Derived.Test.YthpdkjenadngoaaGreatDoorB31
namespace Go.Proofs.YthpdkjenadngoaaGreatDoor.heap
open Go Go.RowKit Go.Deep Go.Proofs.YthpdkjenadngoaaGreatDoor.rose Go.Proofs.YthpdkjenadngoaaGreatDoor Go.Proofs.YthpdkjenadngoaaGreatDoor.fun Go.Proofs.YthpdkjenadngoaaGreatDoor.words Go.Proofs.YthpdkjenadngoaaGreatDoor.ints
set_option linter.unusedVariables false
set_option linter.unusedSimpArgs false

theorem cell_setB {w : World} {g r i j : Nat} {u : Value} (v : Value) (h : w.cell? ⟨g, j, none⟩ = some u) (hne : ¬ r = g) : (w.setCell ⟨r, i, none⟩ v).cell? ⟨g, j, none⟩ = some u := by
  have e : (w.setCell ⟨r, i, none⟩ v).heap[g]? = w.heap[g]? := Below.heap_setCell _ _ _ _ (by show g ≠ r; omega)
  rw [← h]
  simp only [World.cell?, e]
/-- A block of four cells. -/
theorem fours {w : World} {r : Nat} {t : TypeId} {u0 u1 u2 u3 : Value} (h : w.heap[r]? = some (.cells #[u0, u1, u2, u3] t)) :
    (∀ v, (w.setCell ⟨r, 0, none⟩ v).heap[r]? = some (.cells #[v, u1, u2, u3] t)) ∧ (∀ v, (w.setCell ⟨r, 1, none⟩ v).heap[r]? = some (.cells #[u0, v, u2, u3] t)) ∧ (∀ v, (w.setCell ⟨r, 2, none⟩ v).heap[r]? = some (.cells #[u0, u1, v, u3] t)) ∧ (∀ v, (w.setCell ⟨r, 3, none⟩ v).heap[r]? = some (.cells #[u0, u1, u2, v] t)) := by
  refine ⟨fun v => ?_, fun v => ?_, fun v => ?_, fun v => ?_⟩ <;> simp [World.setCell, Array.getElem?_modify, h]

set_option maxRecDepth 100000 in
set_option maxHeartbeats 8000000 in
theorem heap_is {B hb hm : Nat} {wv : Value} {W : List Int} {half base next : Nat} {M : List Bool} {w : World} (h : HH B hb hm wv W half base next 0 M w) :
    Calls Tryz.prog 25 #[.pointer (some ⟨hb, 0, none⟩)] w fun e w' => e = .returned (.agg #[wv, .int .i64 half, .int .i64 base, .int .i64 next]) ∧ Below B w w' := by
  have hw0 : HH B hb hm wv W half base next 0 M (w.alloc (.cells #[.slice none 0 0, .int .i64 0, .int .i64 0, .int .i64 0] 26)) := h.on ((Below.refl _ _).alloc (Nat.le_refl _) _)
  have hB0 : Below B w (w.alloc (.cells #[.slice none 0 0, .int .i64 0, .int .i64 0, .int .i64 0] 26)) := ((Below.refl _ _).alloc (Nat.le_refl _) _).mono (by have := h.lo; have := h.lt; omega)
  have hne : ¬ w.heap.size = hb ∧ ¬ w.heap.size = hm ∧ B ≤ w.heap.size := by have := h.lt; have := h.lo; omega
  have HNE : Hid _ := hne
  have T0 := alloc_top w (.cells #[.slice none 0 0, .int .i64 0, .int .i64 0, .int .i64 0] 26)
  have LO : Hid (B ≤ hb) := h.lo.1
  obtain ⟨a0, c0v, hwv⟩ : ∃ a c, wv = .slice a W.length c := by obtain ⟨a, c, e⟩ := slice_cells h.wds; simp only [List.cons.injEq, and_true] at e; exact ⟨a, c, e⟩
  subst hwv
  generalize hwa : w.alloc (.cells #[.slice none 0 0, .int .i64 0, .int .i64 0, .int .i64 0] 26) = wa at *
  have c0 := hw0.c0
  have z0 := hw0.frz 0
  have H1 : Hid (HH B hb hm (.slice a0 W.length c0v) W half base next 1 M (wa.setCell ⟨hb, 0, none⟩ (.int .i32 1))) := hw0.lockw 1
  have B1 : Hid (Below B w (wa.setCell ⟨hb, 0, none⟩ (.int .i32 1))) := hB0.setCell h.lo.1 _
  have T1 : Hid ((wa.setCell ⟨hb, 0, none⟩ (.int .i32 1)).heap[w.heap.size]? = some (.cells #[.slice none 0 0, .int .i64 0, .int .i64 0, .int .i64 0] 26)) := (Below.heap_setCell _ _ _ _ (by show w.heap.size ≠ hb; omega)).trans T0
  clear h hw0 hB0 T0
  go_enter_defers Tryz.func25, Tryz.ntmps25
  go_wp2_with (go_at_call 43; refine (Go.MuLone.lock_free lock.muLib ⟨hb, 0, none⟩ _ c0 z0).mono ?_; rintro e w' ⟨rfl, rfl⟩)
  clear hwa c0 z0
  generalize wa.setCell ⟨hb, 0, none⟩ (.int .i32 1) = w1 at *
  have hr : ¬ w.heap.size = hb := HNE.out.1
  have c3 := H1.out.c3
  have c4 := H1.out.c4
  have c5 := H1.out.c5
  have x0 : w1.cell? ⟨w.heap.size, 0, none⟩ = some (.slice none 0 0) := by simp [World.cell?, T1.out]
  have x1 : w1.cell? ⟨w.heap.size, 1, none⟩ = some (.int .i64 0) := by simp [World.cell?, T1.out]
  have x2 : w1.cell? ⟨w.heap.size, 2, none⟩ = some (.int .i64 0) := by simp [World.cell?, T1.out]
  have x3 : w1.cell? ⟨w.heap.size, 3, none⟩ = some (.int .i64 0) := by simp [World.cell?, T1.out]
  have xf : ∀ j, w1.frozen? ⟨w.heap.size, j, none⟩ = false := fun j => by simp [World.frozen?, T1.out]
  go_wp2
  go_region_held3 (fun X => X.cell? ⟨hb, 3, none⟩ = some (.slice a0 W.length c0v) ∧ X.cell? ⟨hb, 4, none⟩ = some (.int .i64 half) ∧ X.cell? ⟨hb, 5, none⟩ = some (.int .i64 next))
    (exact ⟨(by (repeat refine cell_setB _ ?_ hr); exact H1.out.c3), (by (repeat refine cell_setB _ ?_ hr); exact H1.out.c4), (by (repeat refine cell_setB _ ?_ hr); exact H1.out.c5)⟩)
    (first
      | (go_at_call 47; refine (base_is (H1.out.same (w' := w1.drew) rfl)).mono ?_; rintro e w2 ⟨rfl, n, rfl⟩)
      | (go_at_call 47; refine (base_is (((((H1.out.same (w' := w1.drew) rfl).other 0 _ HNE.out.1 HNE.out.2.1 HNE.out.2.2).other 1 _ HNE.out.1 HNE.out.2.1 HNE.out.2.2).other 2 _ HNE.out.1 HNE.out.2.1 HNE.out.2.2).other 3 _ HNE.out.1 HNE.out.2.1 HNE.out.2.2)).mono ?_; rintro e w2 ⟨rfl, n, rfl⟩))
  have t0 : (w1.drewN (1 + n)).heap[w.heap.size]? = some (.cells #[.slice none 0 0, .int .i64 0, .int .i64 0, .int .i64 0] 26) := T1.out
  have t1 := (fours t0).1 (.slice none 0 0)
  have t2 := (fours t1).2.1 (.int .i64 0)
  have t3 := (fours t2).2.2.1 (.int .i64 0)
  have t4 := (fours t3).2.2.2 (.int .i64 0)
  have t5 := (fours t4).1 (.slice a0 W.length c0v)
  have t6 := (fours t5).2.1 (.int .i64 half)
  have t7 := (fours t6).2.2.1 (.int .i64 base)
  have t8 := (fours t7).2.2.2 (.int .i64 next)
  have HK : HH B hb hm (.slice a0 W.length c0v) W half base next 1 M (((((((((w1.drewN (1 + n)).setCell ⟨w.heap.size, 0, none⟩ (.slice none 0 0)).setCell ⟨w.heap.size, 1, none⟩ (.int .i64 0)).setCell ⟨w.heap.size, 2, none⟩ (.int .i64 0)).setCell ⟨w.heap.size, 3, none⟩ (.int .i64 0)).setCell ⟨w.heap.size, 0, none⟩ (.slice a0 W.length c0v)).setCell ⟨w.heap.size, 1, none⟩ (.int .i64 half)).setCell ⟨w.heap.size, 2, none⟩ (.int .i64 base)).setCell ⟨w.heap.size, 3, none⟩ (.int .i64 next)) := (((((((((H1.out.drewN (1 + n)).other 0 (.slice none 0 0) HNE.out.1 HNE.out.2.1 HNE.out.2.2).other 1 (.int .i64 0) HNE.out.1 HNE.out.2.1 HNE.out.2.2).other 2 (.int .i64 0) HNE.out.1 HNE.out.2.1 HNE.out.2.2).other 3 (.int .i64 0) HNE.out.1 HNE.out.2.1 HNE.out.2.2).other 0 (.slice a0 W.length c0v) HNE.out.1 HNE.out.2.1 HNE.out.2.2).other 1 (.int .i64 half) HNE.out.1 HNE.out.2.1 HNE.out.2.2).other 2 (.int .i64 base) HNE.out.1 HNE.out.2.1 HNE.out.2.2).other 3 (.int .i64 next) HNE.out.1 HNE.out.2.1 HNE.out.2.2)
  have HBl : Below B w (((((((((w1.drewN (1 + n)).setCell ⟨w.heap.size, 0, none⟩ (.slice none 0 0)).setCell ⟨w.heap.size, 1, none⟩ (.int .i64 0)).setCell ⟨w.heap.size, 2, none⟩ (.int .i64 0)).setCell ⟨w.heap.size, 3, none⟩ (.int .i64 0)).setCell ⟨w.heap.size, 0, none⟩ (.slice a0 W.length c0v)).setCell ⟨w.heap.size, 1, none⟩ (.int .i64 half)).setCell ⟨w.heap.size, 2, none⟩ (.int .i64 base)).setCell ⟨w.heap.size, 3, none⟩ (.int .i64 next)) := (((((((((drewN_bel B1.out (1 + n)).setCell (p := ⟨w.heap.size, 0, none⟩) HNE.out.2.2 (.slice none 0 0)).setCell (p := ⟨w.heap.size, 1, none⟩) HNE.out.2.2 (.int .i64 0)).setCell (p := ⟨w.heap.size, 2, none⟩) HNE.out.2.2 (.int .i64 0)).setCell (p := ⟨w.heap.size, 3, none⟩) HNE.out.2.2 (.int .i64 0)).setCell (p := ⟨w.heap.size, 0, none⟩) HNE.out.2.2 (.slice a0 W.length c0v)).setCell (p := ⟨w.heap.size, 1, none⟩) HNE.out.2.2 (.int .i64 half)).setCell (p := ⟨w.heap.size, 2, none⟩) HNE.out.2.2 (.int .i64 base)).setCell (p := ⟨w.heap.size, 3, none⟩) HNE.out.2.2 (.int .i64 next))
  clear t0 t1 t2 t3 t4 t5 t6 t7 c3 c4 c5 x0 x1 x2 x3 xf
  generalize (((((((((w1.drewN (1 + n)).setCell ⟨w.heap.size, 0, none⟩ (.slice none 0 0)).setCell ⟨w.heap.size, 1, none⟩ (.int .i64 0)).setCell ⟨w.heap.size, 2, none⟩ (.int .i64 0)).setCell ⟨w.heap.size, 3, none⟩ (.int .i64 0)).setCell ⟨w.heap.size, 0, none⟩ (.slice a0 W.length c0v)).setCell ⟨w.heap.size, 1, none⟩ (.int .i64 half)).setCell ⟨w.heap.size, 2, none⟩ (.int .i64 base)).setCell ⟨w.heap.size, 3, none⟩ (.int .i64 next)) = w5 at *
  have HT : Hid _ := t8
  have HE : Hid _ := HK
  have BE : Hid _ := HBl
  clear t8 HK HBl
  go_wp2
  refine leaves_cons (f := 44) (args := #[.pointer (some ⟨hb, 0, none⟩)]) (by simp) (by simp [go_sem]) ?_
  refine (Go.MuLone.unlock_deferred lock.muLib ⟨hb, 0, none⟩ .returning _ HE.out.c0 (HE.out.frz 0)).mono ?_
  rintro e u' w'' ⟨rfl, rfl, rfl⟩
  have T6 : (w5.setCell ⟨hb, 0, none⟩ (.int .i32 0)).heap[w.heap.size]? = some (.cells #[.slice a0 W.length c0v, .int .i64 half, .int .i64 base, .int .i64 next] 26) := (Below.heap_setCell _ _ _ _ (by show w.heap.size ≠ hb; exact HNE.out.1)).trans HT.out
  have x0 : (w5.setCell ⟨hb, 0, none⟩ (.int .i32 0)).cell? ⟨w.heap.size, 0, none⟩ = some (.slice a0 W.length c0v) := by simp [World.cell?, T6]
  have x1 : (w5.setCell ⟨hb, 0, none⟩ (.int .i32 0)).cell? ⟨w.heap.size, 1, none⟩ = some (.int .i64 half) := by simp [World.cell?, T6]
  have x2 : (w5.setCell ⟨hb, 0, none⟩ (.int .i32 0)).cell? ⟨w.heap.size, 2, none⟩ = some (.int .i64 base) := by simp [World.cell?, T6]
  have x3 : (w5.setCell ⟨hb, 0, none⟩ (.int .i32 0)).cell? ⟨w.heap.size, 3, none⟩ = some (.int .i64 next) := by simp [World.cell?, T6]
  have B6 := BE.out.setCell LO.out (p := ⟨hb, 0, none⟩) (.int .i32 0)
  clear T6 HT HE BE
  generalize w5.setCell ⟨hb, 0, none⟩ (.int .i32 0) = w6 at *
  exact ⟨.agg #[.slice a0 W.length c0v, .int .i64 half, .int .i64 base, .int .i64 next], by simp [results, Tryz.f25, go_sem, x0, x1, x2, x3], rfl, B6⟩

end Go.Proofs.YthpdkjenadngoaaGreatDoor.heap

namespace Go.Proofs.YthpdkjenadngoaaGreatDoor.heap
open Go Go.RowKit Go.Deep Go.Proofs.YthpdkjenadngoaaGreatDoor.rose Go.Proofs.YthpdkjenadngoaaGreatDoor Go.Proofs.YthpdkjenadngoaaGreatDoor.fun Go.Proofs.YthpdkjenadngoaaGreatDoor.words Go.Proofs.YthpdkjenadngoaaGreatDoor.ints
set_option linter.unusedVariables false
set_option linter.unusedSimpArgs false

theorem HM.away {hb hm g : Nat} {X : List Int} {half next t : Nat} {lk : Int} {w : World} (h : HM hb hm g X half next t lk w) {r : Nat} (j : Nat) (v : Value) (h1 : ¬ r = hb) (h2 : ¬ r = hm ∧ ¬ r = g) : HM hb hm g X half next t lk (w.setCell ⟨r, j, none⟩ v) := by
  obtain ⟨M, hl, hM⟩ := h.mks
  exact ⟨h.ne, (Below.heap_setCell _ _ _ _ (by show hb ≠ r; omega)).trans h.blk, ⟨M, hl, (Below.heap_setCell _ _ _ _ (by show hm ≠ r; omega)).trans hM⟩, h.wds.on (Below.heap_setCell _ _ _ _ (by show g ≠ r; omega)), h.siz⟩
theorem hbase_at {hb hm g : Nat} {X : List Int} {half next t base : Nat} {lk : Int} {w : World} (h : HM hb hm g X half next t lk w) (e : bT t half = base) :
    Calls Tryz.prog 47 #[.pointer (some ⟨hb, 0, none⟩)] w fun e w' => e = .returned (.int .i64 base) ∧ ∃ n, w' = w.drewN n := by rw [← e]; exact hbase_is h

set_option maxRecDepth 100000 in
set_option maxHeartbeats 8000000 in
theorem hheap_is {B hb hm g : Nat} {W : List Int} {half base next t : Nat} {w : World} (h : HM hb hm g W half next t 0 w) (hbt : bT t half = base) (hBl : B ≤ hb) :
    Calls Tryz.prog 25 #[.pointer (some ⟨hb, 0, none⟩)] w fun e w' => e = .returned (.agg #[.slice (some ⟨g, 0, none⟩) W.length W.length, .int .i64 half, .int .i64 base, .int .i64 next]) ∧ Below B w w' := by
  have hw0 : HM hb hm g W half next t 0 (w.alloc (.cells #[.slice none 0 0, .int .i64 0, .int .i64 0, .int .i64 0] 26)) := h.on ((Below.refl _ _).alloc (Nat.le_refl _) _)
  have hB0 : Below B w (w.alloc (.cells #[.slice none 0 0, .int .i64 0, .int .i64 0, .int .i64 0] 26)) := ((Below.refl _ _).alloc (Nat.le_refl _) _).mono (by have := h.lt; omega)
  have hne : ¬ w.heap.size = hb ∧ (¬ w.heap.size = hm ∧ ¬ w.heap.size = g) ∧ B ≤ w.heap.size := by have := h.lt; omega
  have HNE : Hid _ := hne
  have T0 := alloc_top w (.cells #[.slice none 0 0, .int .i64 0, .int .i64 0, .int .i64 0] 26)
  have LO : Hid (B ≤ hb) := hBl
  have HBT : Hid (bT t half = base) := hbt
  clear hbt
  generalize hwa : w.alloc (.cells #[.slice none 0 0, .int .i64 0, .int .i64 0, .int .i64 0] 26) = wa at *
  have c0 := hw0.c0
  have z0 := hw0.frz 0
  have H1 : Hid (HM hb hm g W half next t 1 (wa.setCell ⟨hb, 0, none⟩ (.int .i32 1))) := hw0.set.1 1
  have B1 : Hid (Below B w (wa.setCell ⟨hb, 0, none⟩ (.int .i32 1))) := hB0.setCell hBl _
  have T1 : Hid ((wa.setCell ⟨hb, 0, none⟩ (.int .i32 1)).heap[w.heap.size]? = some (.cells #[.slice none 0 0, .int .i64 0, .int .i64 0, .int .i64 0] 26)) := (Below.heap_setCell _ _ _ _ (by show w.heap.size ≠ hb; omega)).trans T0
  clear h hw0 hB0 T0 hBl
  go_enter_defers Tryz.func25, Tryz.ntmps25
  go_wp2_with (go_at_call 43; refine (Go.MuLone.lock_free lock.muLib ⟨hb, 0, none⟩ _ c0 z0).mono ?_; rintro e w' ⟨rfl, rfl⟩)
  clear hwa c0 z0
  generalize wa.setCell ⟨hb, 0, none⟩ (.int .i32 1) = w1 at *
  have hr : ¬ w.heap.size = hb := HNE.out.1
  have c3 := H1.out.c3
  have c4 := H1.out.c4
  have c5 := H1.out.c5
  have x0 : w1.cell? ⟨w.heap.size, 0, none⟩ = some (.slice none 0 0) := by simp [World.cell?, T1.out]
  have x1 : w1.cell? ⟨w.heap.size, 1, none⟩ = some (.int .i64 0) := by simp [World.cell?, T1.out]
  have x2 : w1.cell? ⟨w.heap.size, 2, none⟩ = some (.int .i64 0) := by simp [World.cell?, T1.out]
  have x3 : w1.cell? ⟨w.heap.size, 3, none⟩ = some (.int .i64 0) := by simp [World.cell?, T1.out]
  have xf : ∀ j, w1.frozen? ⟨w.heap.size, j, none⟩ = false := fun j => by simp [World.frozen?, T1.out]
  go_wp2
  go_region_held3 (fun X => X.cell? ⟨hb, 3, none⟩ = some (.slice (some ⟨g, 0, none⟩) W.length W.length) ∧ X.cell? ⟨hb, 4, none⟩ = some (.int .i64 half) ∧ X.cell? ⟨hb, 5, none⟩ = some (.int .i64 next))
    (exact ⟨(by (repeat refine cell_setB _ ?_ hr); exact H1.out.c3), (by (repeat refine cell_setB _ ?_ hr); exact H1.out.c4), (by (repeat refine cell_setB _ ?_ hr); exact H1.out.c5)⟩)
    (first
      | (go_at_call 47; refine (hbase_at (H1.out.other (w' := w1.drew) fun _ _ => rfl) HBT.out).mono ?_; rintro e w2 ⟨rfl, n, rfl⟩)
      | (go_at_call 47; refine (hbase_at ((((((H1.out.other (w' := w1.drew) fun _ _ => rfl).away 0 _ HNE.out.1 HNE.out.2.1).away 1 _ HNE.out.1 HNE.out.2.1).away 2 _ HNE.out.1 HNE.out.2.1).away 3 _ HNE.out.1 HNE.out.2.1)) HBT.out).mono ?_; rintro e w2 ⟨rfl, n, rfl⟩))
  have t0 : (w1.drewN (1 + n)).heap[w.heap.size]? = some (.cells #[.slice none 0 0, .int .i64 0, .int .i64 0, .int .i64 0] 26) := T1.out
  have t1 := (fours t0).1 (.slice none 0 0)
  have t2 := (fours t1).2.1 (.int .i64 0)
  have t3 := (fours t2).2.2.1 (.int .i64 0)
  have t4 := (fours t3).2.2.2 (.int .i64 0)
  have t5 := (fours t4).1 (.slice (some ⟨g, 0, none⟩) W.length W.length)
  have t6 := (fours t5).2.1 (.int .i64 half)
  have t7 := (fours t6).2.2.1 (.int .i64 base)
  have t8 := (fours t7).2.2.2 (.int .i64 next)
  have HK : HM hb hm g W half next t 1 (((((((((w1.drewN (1 + n)).setCell ⟨w.heap.size, 0, none⟩ (.slice none 0 0)).setCell ⟨w.heap.size, 1, none⟩ (.int .i64 0)).setCell ⟨w.heap.size, 2, none⟩ (.int .i64 0)).setCell ⟨w.heap.size, 3, none⟩ (.int .i64 0)).setCell ⟨w.heap.size, 0, none⟩ (.slice (some ⟨g, 0, none⟩) W.length W.length)).setCell ⟨w.heap.size, 1, none⟩ (.int .i64 half)).setCell ⟨w.heap.size, 2, none⟩ (.int .i64 base)).setCell ⟨w.heap.size, 3, none⟩ (.int .i64 next)) := (((((((((H1.out.drewN (1 + n)).away 0 (.slice none 0 0) HNE.out.1 HNE.out.2.1).away 1 (.int .i64 0) HNE.out.1 HNE.out.2.1).away 2 (.int .i64 0) HNE.out.1 HNE.out.2.1).away 3 (.int .i64 0) HNE.out.1 HNE.out.2.1).away 0 (.slice (some ⟨g, 0, none⟩) W.length W.length) HNE.out.1 HNE.out.2.1).away 1 (.int .i64 half) HNE.out.1 HNE.out.2.1).away 2 (.int .i64 base) HNE.out.1 HNE.out.2.1).away 3 (.int .i64 next) HNE.out.1 HNE.out.2.1)
  have HBl : Below B w (((((((((w1.drewN (1 + n)).setCell ⟨w.heap.size, 0, none⟩ (.slice none 0 0)).setCell ⟨w.heap.size, 1, none⟩ (.int .i64 0)).setCell ⟨w.heap.size, 2, none⟩ (.int .i64 0)).setCell ⟨w.heap.size, 3, none⟩ (.int .i64 0)).setCell ⟨w.heap.size, 0, none⟩ (.slice (some ⟨g, 0, none⟩) W.length W.length)).setCell ⟨w.heap.size, 1, none⟩ (.int .i64 half)).setCell ⟨w.heap.size, 2, none⟩ (.int .i64 base)).setCell ⟨w.heap.size, 3, none⟩ (.int .i64 next)) := (((((((((drewN_bel B1.out (1 + n)).setCell (p := ⟨w.heap.size, 0, none⟩) HNE.out.2.2 (.slice none 0 0)).setCell (p := ⟨w.heap.size, 1, none⟩) HNE.out.2.2 (.int .i64 0)).setCell (p := ⟨w.heap.size, 2, none⟩) HNE.out.2.2 (.int .i64 0)).setCell (p := ⟨w.heap.size, 3, none⟩) HNE.out.2.2 (.int .i64 0)).setCell (p := ⟨w.heap.size, 0, none⟩) HNE.out.2.2 (.slice (some ⟨g, 0, none⟩) W.length W.length)).setCell (p := ⟨w.heap.size, 1, none⟩) HNE.out.2.2 (.int .i64 half)).setCell (p := ⟨w.heap.size, 2, none⟩) HNE.out.2.2 (.int .i64 base)).setCell (p := ⟨w.heap.size, 3, none⟩) HNE.out.2.2 (.int .i64 next))
  clear t0 t1 t2 t3 t4 t5 t6 t7 c3 c4 c5 x0 x1 x2 x3 xf
  generalize (((((((((w1.drewN (1 + n)).setCell ⟨w.heap.size, 0, none⟩ (.slice none 0 0)).setCell ⟨w.heap.size, 1, none⟩ (.int .i64 0)).setCell ⟨w.heap.size, 2, none⟩ (.int .i64 0)).setCell ⟨w.heap.size, 3, none⟩ (.int .i64 0)).setCell ⟨w.heap.size, 0, none⟩ (.slice (some ⟨g, 0, none⟩) W.length W.length)).setCell ⟨w.heap.size, 1, none⟩ (.int .i64 half)).setCell ⟨w.heap.size, 2, none⟩ (.int .i64 base)).setCell ⟨w.heap.size, 3, none⟩ (.int .i64 next)) = w5 at *
  have HT : Hid _ := t8
  have HE : Hid _ := HK
  have BE : Hid _ := HBl
  clear t8 HK HBl
  go_wp2
  refine leaves_cons (f := 44) (args := #[.pointer (some ⟨hb, 0, none⟩)]) (by simp) (by simp [go_sem]) ?_
  refine (Go.MuLone.unlock_deferred lock.muLib ⟨hb, 0, none⟩ .returning _ HE.out.c0 (HE.out.frz 0)).mono ?_
  rintro e u' w'' ⟨rfl, rfl, rfl⟩
  have T6 : (w5.setCell ⟨hb, 0, none⟩ (.int .i32 0)).heap[w.heap.size]? = some (.cells #[.slice (some ⟨g, 0, none⟩) W.length W.length, .int .i64 half, .int .i64 base, .int .i64 next] 26) := (Below.heap_setCell _ _ _ _ (by show w.heap.size ≠ hb; exact HNE.out.1)).trans HT.out
  have x0 : (w5.setCell ⟨hb, 0, none⟩ (.int .i32 0)).cell? ⟨w.heap.size, 0, none⟩ = some (.slice (some ⟨g, 0, none⟩) W.length W.length) := by simp [World.cell?, T6]
  have x1 : (w5.setCell ⟨hb, 0, none⟩ (.int .i32 0)).cell? ⟨w.heap.size, 1, none⟩ = some (.int .i64 half) := by simp [World.cell?, T6]
  have x2 : (w5.setCell ⟨hb, 0, none⟩ (.int .i32 0)).cell? ⟨w.heap.size, 2, none⟩ = some (.int .i64 base) := by simp [World.cell?, T6]
  have x3 : (w5.setCell ⟨hb, 0, none⟩ (.int .i32 0)).cell? ⟨w.heap.size, 3, none⟩ = some (.int .i64 next) := by simp [World.cell?, T6]
  have B6 := BE.out.setCell LO.out (p := ⟨hb, 0, none⟩) (.int .i32 0)
  clear T6 HT HE BE
  generalize w5.setCell ⟨hb, 0, none⟩ (.int .i32 0) = w6 at *
  exact ⟨.agg #[.slice (some ⟨g, 0, none⟩) W.length W.length, .int .i64 half, .int .i64 base, .int .i64 next], by simp [results, Tryz.f25, go_sem, x0, x1, x2, x3], rfl, B6⟩

end Go.Proofs.YthpdkjenadngoaaGreatDoor.heap
