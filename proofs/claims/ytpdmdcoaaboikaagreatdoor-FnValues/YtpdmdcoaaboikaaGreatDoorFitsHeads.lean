/-
  What a pattern asks for, and what a value is: the program's isAnything, headOf, conHead, shapeHead and toldShape.
-/
import Derived.Test.YtpdmdcoaaboikaaGreatDoorFitsDefs
import Derived.Deep.RegionWith
import Derived.Deep.RegionHeld3
import Derived.Sort.AtCall
namespace Go.Proofs.YtpdmdcoaaboikaaGreatDoor.fits
open Go Go.RowKit Go.Proofs.YtpdmdcoaaboikaaGreatDoor.rose Go.Proofs.YtpdmdcoaaboikaaGreatDoor
set_option linter.unusedVariables false
set_option linter.unusedSimpArgs false

/-- A head: op, number, name, how many kids. -/
abbrev Hd := Int × Int × ByteArray × Int
def hdV (h : Hd) : Value := .agg #[.int .i64 h.1, .int .i64 h.2.1, .string h.2.2.1, .int .i64 h.2.2.2]
def asked (op n : Int) (s : ByteArray) (m : Int) : Hd := if op = 20 then (20, 0, s, m) else if op = 19 then (19, n, ⟨#[]⟩, 0) else (0, 0, ⟨#[]⟩, 0)
def owned (k n : Int) (s : ByteArray) (m : Int) : Hd := if k = 1 then (19, n, ⟨#[]⟩, 0) else if k = 2 then (20, 0, s, m) else (0, 0, ⟨#[]⟩, 0)

/-- What holds of a pattern that is not anything and a value, kids aside. -/
def Loc (T : Nd) (V : ValueD) : Prop := (T.x.1 = 19 ∧ V.x.1 = 1 ∧ V.x.2.1 = T.x.2.1) ∨ (T.x.1 = 20 ∧ V.x.1 = 2 ∧ V.x.2.2 = T.x.2.2.1 ∧ V.kids.length = T.kids.length)

theorem loc_iff {x0 x1 : Int} {x2 x3 : ByteArray} {ks : List Nd} {y0 y1 : Int} {y2 : ByteArray} {vs : List ValueD} : Loc (.mk (x0, x1, x2, x3) ks) (.mk (y0, y1, y2) vs) ↔ ((x0 = 20 ∨ x0 = 19) ∧ asked x0 x1 x2 ks.length = owned y0 y1 y2 vs.length) := by
  simp only [Loc, Rose.x, Rose.kids, asked, owned]
  constructor
  · rintro (⟨rfl, rfl, rfl⟩ | ⟨rfl, rfl, rfl, h⟩)
    · simp
    · simp [h]
  · rintro ⟨rfl | rfl, h⟩
    · right
      rw [if_pos rfl] at h
      by_cases h1 : y0 = 1
      · rw [if_pos h1] at h; simp at h
      · rw [if_neg h1] at h
        by_cases h2 : y0 = 2
        · rw [if_pos h2] at h
          simp at h
          exact ⟨rfl, h2, h.1.symm, by omega⟩
        · rw [if_neg h2] at h; simp at h
    · left
      rw [if_neg (by decide), if_pos rfl] at h
      by_cases h1 : y0 = 1
      · rw [if_pos h1] at h
        simp at h
        exact ⟨rfl, h1, h.symm⟩
      · rw [if_neg h1] at h
        by_cases h2 : y0 = 2
        · rw [if_pos h2] at h; simp at h
        · rw [if_neg h2] at h; simp at h

set_option maxHeartbeats 1000000 in
theorem conHead_any (s : ByteArray) (m : Int) (w : World) :
    Calls Tryz.prog 54 #[.string s, .int .i64 m] w fun e w' => e = .returned (.agg #[.int .i64 20, .int .i64 0, .string s, .int .i64 m]) ∧ Below w.heap.size w w' := by
  go_enter Tryz.func54, Tryz.ntmps54
  go_wp2
  refine bodyPost_ret (v := .agg #[.int .i64 20, .int .i64 0, .string s, .int .i64 m]) (by simp [results, Tryz.f54, go_sem]) rfl ?_
  refine ⟨rfl, ?_⟩
  repeat first | with_reducible exact Below.refl _ _ | (refine Below.setCell ?_ (by first | (simp; done) | (simp; omega)) _) | (refine Below.alloc ?_ (by first | (simp; done) | (simp; omega)) _)

set_option maxHeartbeats 1000000 in
theorem anything_any (x0 x1 : Int) (x2 x3 : ByteArray) (a : Option Addr) (n c : Nat) (w : World) :
    Calls Tryz.prog 36 #[.agg #[.int .i64 x0, .int .i64 x1, .string x2, .string x3, .slice a n c]] w fun e w' => e = .returned (.bool (decide (x0 = 17 ∨ x0 = 18))) ∧ Below w.heap.size w w' := by
  have B0 : Hid (Below w.heap.size w (w.alloc (.cells #[.int .i64 x0, .int .i64 x1, .string x2, .string x3, .slice a n c] 36))) := (Below.refl _ _).alloc (Nat.le_refl _) _
  by_cases h : x0 = 17
  · subst h
    go_enter Tryz.func36, Tryz.ntmps36
    go_wp2
    go_ret
    exact ⟨rfl, B0.out⟩
  · by_cases h' : x0 = 18
    · subst h'
      go_enter Tryz.func36, Tryz.ntmps36
      go_wp2
      go_ret
      exact ⟨rfl, B0.out⟩
    · have R : Hid (decide (x0 = 17 ∨ x0 = 18) = false) := by show _ = _; simp [h, h']
      go_enter Tryz.func36, Tryz.ntmps36
      go_wp2
      go_ret
      exact ⟨ret_b (by rw [R.out]; simp [h, h']), B0.out⟩

set_option maxHeartbeats 2000000 in
theorem headOf_any (x0 x1 : Int) (x2 x3 : ByteArray) (a : Option Addr) (n c : Nat) (hn : (n : Int) ≤ 9223372036854775807) (w : World) :
    Calls Tryz.prog 37 #[.agg #[.int .i64 x0, .int .i64 x1, .string x2, .string x3, .slice a n c]] w fun e w' => e = .returned (.tuple #[hdV (asked x0 x1 x2 n), .bool (decide (x0 = 20 ∨ x0 = 19))]) ∧ Below w.heap.size w w' := by
  by_cases h : x0 = 20
  · subst h
    have hA : asked 20 x1 x2 (n : Int) = (20, 0, x2, (n : Int)) := by simp [asked]
    rw [hA]
    clear hA
    unfold hdV
    dsimp only
    have hcall := conHead_any x2 (n : Int) ((w.alloc (.cells #[.int .i64 20, .int .i64 x1, .string x2, .string x3, .slice a n c] 36)).alloc (.cells #[.int .i64 0, .int .i64 0, .string ⟨#[]⟩, .int .i64 0] 104))
    have B0 : Hid (Below w.heap.size w ((w.alloc (.cells #[.int .i64 20, .int .i64 x1, .string x2, .string x3, .slice a n c] 36)).alloc (.cells #[.int .i64 0, .int .i64 0, .string ⟨#[]⟩, .int .i64 0] 104))) := ((Below.refl _ _).alloc (Nat.le_refl _) _).alloc (by simp) _
    have T0 : Hid (((w.alloc (.cells #[.int .i64 20, .int .i64 x1, .string x2, .string x3, .slice a n c] 36)).alloc (.cells #[.int .i64 0, .int .i64 0, .string ⟨#[]⟩, .int .i64 0] 104)).heap[w.heap.size + 1]? = some (.cells #[.int .i64 0, .int .i64 0, .string ⟨#[]⟩, .int .i64 0] 104)) := by
      have := alloc_top (w.alloc (.cells #[.int .i64 20, .int .i64 x1, .string x2, .string x3, .slice a n c] 36)) (.cells #[.int .i64 0, .int .i64 0, .string ⟨#[]⟩, .int .i64 0] 104)
      rwa [World.size_alloc] at this
    have Z0 : Hid (((w.alloc (.cells #[.int .i64 20, .int .i64 x1, .string x2, .string x3, .slice a n c] 36)).alloc (.cells #[.int .i64 0, .int .i64 0, .string ⟨#[]⟩, .int .i64 0] 104)).heap.size = w.heap.size + 2) := by show _ = _; simp
    go_enter Tryz.func37, Tryz.ntmps37
    go_wp2_with fail
    refine hcall.mono ?_
    rintro e w1 ⟨rfl, hb⟩
    have B1 : Hid (Below w.heap.size w w1) := B0.out.trans (hb.mono (by rw [Z0.out]; omega))
    have hp : w1.heap[w.heap.size + 1]? = some (.cells #[.int .i64 0, .int .i64 0, .string ⟨#[]⟩, .int .i64 0] 104) := (hb.block _ (by rw [Z0.out]; omega)).trans T0.out
    clear hcall hb T0 Z0 B0
    have c0 : w1.cell? ⟨w.heap.size + 1, 0, none⟩ = some (.int .i64 0) := by simp [World.cell?, hp]
    have c1 : w1.cell? ⟨w.heap.size + 1, 1, none⟩ = some (.int .i64 0) := by simp [World.cell?, hp]
    have c2 : w1.cell? ⟨w.heap.size + 1, 2, none⟩ = some (.string ⟨#[]⟩) := by simp [World.cell?, hp]
    have c3 : w1.cell? ⟨w.heap.size + 1, 3, none⟩ = some (.int .i64 0) := by simp [World.cell?, hp]
    have f1 : ∀ o, w1.frozen? ⟨w.heap.size + 1, o, none⟩ = false := fun o => by simp [World.frozen?, hp]
    clear hp
    go_wp2
    refine bodyPost_ret (v := .tuple #[.agg #[.int .i64 20, .int .i64 0, .string x2, .int .i64 n], .bool true]) (by simp [results, Tryz.f37, go_sem, c0, c1, c2, c3]) rfl ?_
    refine ⟨rfl, ?_⟩
    repeat first | with_reducible exact B1.out | (refine Below.setCell ?_ (by first | (simp; done) | (simp; omega)) _)
  · by_cases h' : x0 = 19
    · subst h'
      have hA : asked 19 x1 x2 (n : Int) = (19, x1, ⟨#[]⟩, 0) := by simp [asked]
      rw [hA]
      clear hA
      unfold hdV
      dsimp only
      go_enter Tryz.func37, Tryz.ntmps37
      go_wp2
      refine bodyPost_ret (v := .tuple #[.agg #[.int .i64 19, .int .i64 x1, .string ⟨#[]⟩, .int .i64 0], .bool true]) (by simp [results, Tryz.f37, go_sem]) rfl ?_
      refine ⟨rfl, ?_⟩
      repeat first | with_reducible exact Below.refl _ _ | (refine Below.setCell ?_ (by first | (simp; done) | (simp; omega)) _) | (refine Below.alloc ?_ (by first | (simp; done) | (simp; omega)) _)
    · have hA : asked x0 x1 x2 (n : Int) = (0, 0, ⟨#[]⟩, 0) := by simp [asked, h, h']
      have hd : decide (x0 = 20 ∨ x0 = 19) = false := by simp [h, h']
      rw [hA, hd]
      clear hA hd
      unfold hdV
      dsimp only
      go_enter Tryz.func37, Tryz.ntmps37
      go_wp2
      refine bodyPost_ret (v := .tuple #[.agg #[.int .i64 0, .int .i64 0, .string ⟨#[]⟩, .int .i64 0], .bool false]) (by simp [results, Tryz.f37, go_sem]) rfl ?_
      refine ⟨rfl, ?_⟩
      repeat first | with_reducible exact Below.refl _ _ | (refine Below.setCell ?_ (by first | (simp; done) | (simp; omega)) _) | (refine Below.alloc ?_ (by first | (simp; done) | (simp; omega)) _)

set_option maxHeartbeats 2000000 in
theorem shapeHead_any (y0 y1 : Int) (y2 : ByteArray) (n : Nat) (w : World) :
    Calls Tryz.prog 38 #[.int .i64 y0, .int .i64 y1, .string y2, .int .i64 n] w fun e w' => e = .returned (hdV (owned y0 y1 y2 n)) ∧ Below w.heap.size w w' := by
  by_cases h : y0 = 1
  · subst h
    have hA : owned 1 y1 y2 (n : Int) = (19, y1, ⟨#[]⟩, 0) := by simp [owned]
    rw [hA]
    clear hA
    unfold hdV
    dsimp only
    go_enter Tryz.func38, Tryz.ntmps38
    go_wp2
    refine bodyPost_ret (v := .agg #[.int .i64 19, .int .i64 y1, .string ⟨#[]⟩, .int .i64 0]) (by simp [results, Tryz.f38, go_sem]) rfl ?_
    refine ⟨rfl, ?_⟩
    repeat first | with_reducible exact Below.refl _ _ | (refine Below.setCell ?_ (by first | (simp; done) | (simp; omega)) _) | (refine Below.alloc ?_ (by first | (simp; done) | (simp; omega)) _)
  · by_cases h' : y0 = 2
    · subst h'
      have hA : owned 2 y1 y2 (n : Int) = (20, 0, y2, (n : Int)) := by simp [owned]
      rw [hA]
      clear hA
      unfold hdV
      dsimp only
      have hcall := conHead_any y2 (n : Int) (w.alloc (.cells #[.int .i64 0, .int .i64 0, .string ⟨#[]⟩, .int .i64 0] 104))
      have B0 : Hid (Below w.heap.size w (w.alloc (.cells #[.int .i64 0, .int .i64 0, .string ⟨#[]⟩, .int .i64 0] 104))) := (Below.refl _ _).alloc (Nat.le_refl _) _
      have T0 : Hid ((w.alloc (.cells #[.int .i64 0, .int .i64 0, .string ⟨#[]⟩, .int .i64 0] 104)).heap[w.heap.size]? = some (.cells #[.int .i64 0, .int .i64 0, .string ⟨#[]⟩, .int .i64 0] 104)) := alloc_top _ _
      have Z0 : Hid ((w.alloc (.cells #[.int .i64 0, .int .i64 0, .string ⟨#[]⟩, .int .i64 0] 104)).heap.size = w.heap.size + 1) := by show _ = _; simp
      go_enter Tryz.func38, Tryz.ntmps38
      go_wp2_with fail
      refine hcall.mono ?_
      rintro e w1 ⟨rfl, hb⟩
      have B1 : Hid (Below w.heap.size w w1) := B0.out.trans (hb.mono (by rw [Z0.out]; omega))
      have hp : w1.heap[w.heap.size]? = some (.cells #[.int .i64 0, .int .i64 0, .string ⟨#[]⟩, .int .i64 0] 104) := (hb.block _ (by rw [Z0.out]; omega)).trans T0.out
      clear hcall hb T0 Z0 B0
      have c0 : w1.cell? ⟨w.heap.size, 0, none⟩ = some (.int .i64 0) := by simp [World.cell?, hp]
      have c1 : w1.cell? ⟨w.heap.size, 1, none⟩ = some (.int .i64 0) := by simp [World.cell?, hp]
      have c2 : w1.cell? ⟨w.heap.size, 2, none⟩ = some (.string ⟨#[]⟩) := by simp [World.cell?, hp]
      have c3 : w1.cell? ⟨w.heap.size, 3, none⟩ = some (.int .i64 0) := by simp [World.cell?, hp]
      have f1 : ∀ o, w1.frozen? ⟨w.heap.size, o, none⟩ = false := fun o => by simp [World.frozen?, hp]
      clear hp
      go_wp2
      refine bodyPost_ret (v := .agg #[.int .i64 20, .int .i64 0, .string y2, .int .i64 n]) (by simp [results, Tryz.f38, go_sem, c0, c1, c2, c3]) rfl ?_
      refine ⟨rfl, ?_⟩
      repeat first | with_reducible exact B1.out | (refine Below.setCell ?_ (by first | (simp; done) | (simp; omega)) _)
    · have hA : owned y0 y1 y2 (n : Int) = (0, 0, ⟨#[]⟩, 0) := by simp [owned, h, h']
      rw [hA]
      clear hA
      unfold hdV
      dsimp only
      go_enter Tryz.func38, Tryz.ntmps38
      go_wp2
      refine bodyPost_ret (v := .agg #[.int .i64 0, .int .i64 0, .string ⟨#[]⟩, .int .i64 0]) (by simp [results, Tryz.f38, go_sem]) rfl ?_
      refine ⟨rfl, ?_⟩
      repeat first | with_reducible exact Below.refl _ _ | (refine Below.setCell ?_ (by first | (simp; done) | (simp; omega)) _) | (refine Below.alloc ?_ (by first | (simp; done) | (simp; omega)) _)

theorem cell_drewF {w : World} {a : Addr} : w.drew.cell? a = w.cell? a := rfl

set_option maxHeartbeats 2000000 in
theorem toldShape_any (y0 y1 : Int) (y2 : ByteArray) (a : Option Addr) (n c : Nat) (hn : (n : Int) ≤ 9223372036854775807) (w : World) :
    Calls Tryz.prog 22 #[.agg #[.int .i64 y0, .int .i64 y1, .string y2, .slice a n c]] w fun e w' => e = .returned (.tuple #[hdV (owned y0 y1 y2 n), .slice a n c]) ∧ Below w.heap.size w w' := by
  obtain ⟨w0, hw0⟩ : ∃ w0, w0 = (w.alloc (.cells #[.int .i64 y0, .int .i64 y1, .string y2, .slice a n c] 26)).alloc (.cells #[.int .i64 0, .int .i64 0, .string ⟨#[]⟩, .int .i64 0] 104) := ⟨_, rfl⟩
  have hcall := shapeHead_any y0 y1 y2 n w0.drew
  obtain ⟨⟨h0, h1, h2, h3⟩, hh⟩ : ∃ h, h = owned y0 y1 y2 (n : Int) := ⟨_, rfl⟩
  rw [← hh] at hcall ⊢
  unfold hdV at hcall ⊢
  dsimp only at hcall ⊢
  clear hh
  have B0 : Hid (Below w.heap.size w w0.drew) := by show Below _ _ _; rw [hw0]; exact (((Below.refl _ _).alloc (Nat.le_refl _) _).alloc (by simp) _).drew
  have T0 : Hid (w0.heap[w.heap.size]? = some (.cells #[.int .i64 y0, .int .i64 y1, .string y2, .slice a n c] 26)) := by
    show _ = _; rw [hw0, Below.heap_alloc _ _ _ (by simp)]; exact alloc_top _ _
  have T1 : Hid (w0.heap[w.heap.size + 1]? = some (.cells #[.int .i64 0, .int .i64 0, .string ⟨#[]⟩, .int .i64 0] 104)) := by
    show _ = _
    rw [hw0]
    have := alloc_top (w.alloc (.cells #[.int .i64 y0, .int .i64 y1, .string y2, .slice a n c] 26)) (.cells #[.int .i64 0, .int .i64 0, .string ⟨#[]⟩, .int .i64 0] 104)
    rwa [World.size_alloc] at this
  have Z0 : Hid (w0.heap.size = w.heap.size + 2) := by show _ = _; rw [hw0]; simp
  have HW0 : Hid (w0 = (w.alloc (.cells #[.int .i64 y0, .int .i64 y1, .string y2, .slice a n c] 26)).alloc (.cells #[.int .i64 0, .int .i64 0, .string ⟨#[]⟩, .int .i64 0] 104)) := hw0
  clear hw0
  go_enter Tryz.func22, Tryz.ntmps22
  go_wp2
  rw [← HW0.out]
  have d0 : w0.cell? ⟨w.heap.size, 0, none⟩ = some (.int .i64 y0) := by simp [World.cell?, T0.out]
  have d1 : w0.cell? ⟨w.heap.size, 1, none⟩ = some (.int .i64 y1) := by simp [World.cell?, T0.out]
  have d2 : w0.cell? ⟨w.heap.size, 2, none⟩ = some (.string y2) := by simp [World.cell?, T0.out]
  have d3 : w0.cell? ⟨w.heap.size, 3, none⟩ = some (.slice a n c) := by simp [World.cell?, T0.out]
  have hz : w.heap.size < w0.heap.size := by rw [Z0.out]; omega
  go_region_held3 (fun W => W.cell? ⟨w.heap.size, 0, none⟩ = some (.int .i64 y0) ∧ W.cell? ⟨w.heap.size, 1, none⟩ = some (.int .i64 y1) ∧ W.cell? ⟨w.heap.size, 2, none⟩ = some (.string y2) ∧ W.cell? ⟨w.heap.size, 3, none⟩ = some (.slice a n c))
    (exact ⟨(by first | with_reducible exact d0 | (rw [cell_drewF]; with_reducible exact d0) | ((repeat rw [World.cell?_setCell_far _ _ _ _ (by simp)]); with_reducible exact d0)), (by first | with_reducible exact d1 | (rw [cell_drewF]; with_reducible exact d1) | ((repeat rw [World.cell?_setCell_far _ _ _ _ (by simp)]); with_reducible exact d1)), (by first | with_reducible exact d2 | (rw [cell_drewF]; with_reducible exact d2) | ((repeat rw [World.cell?_setCell_far _ _ _ _ (by simp)]); with_reducible exact d2)), (by first | with_reducible exact d3 | (rw [cell_drewF]; with_reducible exact d3) | ((repeat rw [World.cell?_setCell_far _ _ _ _ (by simp)]); with_reducible exact d3))⟩)
    (first
      | (go_at_call 38; refine hcall.mono ?_; rintro e w1 ⟨rfl, hb⟩; have B1 : Hid (Below w.heap.size w w1) := B0.out.trans (hb.mono B0.out.size); have hp1 : Hid (w1.heap[w.heap.size + 1]? = some (.cells #[.int .i64 0, .int .i64 0, .string ⟨#[]⟩, .int .i64 0] 104)) := (hb.block _ (show w.heap.size + 1 < w0.heap.size by rw [Z0.out]; omega)).trans T1.out; replace d0 : w1.cell? ⟨w.heap.size, 0, none⟩ = some (.int .i64 y0) := (hb.cell (p := ⟨w.heap.size, 0, none⟩) hz).trans d0; replace d1 : w1.cell? ⟨w.heap.size, 1, none⟩ = some (.int .i64 y1) := (hb.cell (p := ⟨w.heap.size, 1, none⟩) hz).trans d1; replace d2 : w1.cell? ⟨w.heap.size, 2, none⟩ = some (.string y2) := (hb.cell (p := ⟨w.heap.size, 2, none⟩) hz).trans d2; replace d3 : w1.cell? ⟨w.heap.size, 3, none⟩ = some (.slice a n c) := (hb.cell (p := ⟨w.heap.size, 3, none⟩) hz).trans d3; have c0 : w1.cell? ⟨w.heap.size + 1, 0, none⟩ = some (.int .i64 0) := (by simp [World.cell?, hp1.out]); have c1 : w1.cell? ⟨w.heap.size + 1, 1, none⟩ = some (.int .i64 0) := (by simp [World.cell?, hp1.out]); have c2 : w1.cell? ⟨w.heap.size + 1, 2, none⟩ = some (.string ⟨#[]⟩) := (by simp [World.cell?, hp1.out]); have c3 : w1.cell? ⟨w.heap.size + 1, 3, none⟩ = some (.int .i64 0) := (by simp [World.cell?, hp1.out]); have f1 : ∀ o, w1.frozen? ⟨w.heap.size + 1, o, none⟩ = false := (fun o => by simp [World.frozen?, hp1.out])))
  all_goals
    go_wp2
    refine bodyPost_ret (v := .tuple #[.agg #[.int .i64 h0, .int .i64 h1, .string h2, .int .i64 h3], .slice a n c]) (by simp [results, Tryz.f22, go_sem, c0, c1, c2, c3]) rfl ?_
    refine ⟨rfl, ?_⟩
    repeat first | with_reducible exact B1.out | (refine Below.setCell ?_ (by first | (simp; done) | (simp; omega)) _)

end Go.Proofs.YtpdmdcoaaboikaaGreatDoor.fits
