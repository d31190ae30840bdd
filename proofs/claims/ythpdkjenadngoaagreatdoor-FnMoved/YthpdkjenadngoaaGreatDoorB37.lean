/-
  A block of a heap at work (block), under its lock.
  The program's BlockAt, at every heap and place; nothing that was there is turned.
-/
import Derived.Test.YthpdkjenadngoaaGreatDoorB1
import Derived.Test.YthpdkjenadngoaaGreatDoorB2
import Derived.Test.YthpdkjenadngoaaGreatDoorB3
import Derived.Test.YthpdkjenadngoaaGreatDoorB4
import Derived.Test.YthpdkjenadngoaaGreatDoorB5
import Derived.Test.YthpdkjenadngoaaGreatDoorB6
import Derived.Test.YthpdkjenadngoaaGreatDoorB7
import Derived.Test.YthpdkjenadngoaaGreatDoorB8
import Derived.Test.YthpdkjenadngoaaGreatDoorB9
import Derived.Test.YthpdkjenadngoaaGreatDoorB10
import Derived.Test.YthpdkjenadngoaaGreatDoorB11
import Derived.Test.YthpdkjenadngoaaGreatDoorB12
import Derived.Test.YthpdkjenadngoaaGreatDoorB13
import Derived.Test.YthpdkjenadngoaaGreatDoorB14
import Derived.Test.YthpdkjenadngoaaGreatDoorB15
import Derived.Test.YthpdkjenadngoaaGreatDoorB16
import Derived.Test.YthpdkjenadngoaaGreatDoorB17
import Derived.Test.YthpdkjenadngoaaGreatDoorB18
import Derived.Test.YthpdkjenadngoaaGreatDoorB19
import Derived.Test.YthpdkjenadngoaaGreatDoorB20
import Derived.Test.YthpdkjenadngoaaGreatDoorB21
import Derived.Test.YthpdkjenadngoaaGreatDoorB22
import Derived.Test.YthpdkjenadngoaaGreatDoorB23
import Derived.Test.YthpdkjenadngoaaGreatDoorB24
import Derived.Test.YthpdkjenadngoaaGreatDoorB25
import Derived.Test.YthpdkjenadngoaaGreatDoorB26
import Derived.Test.YthpdkjenadngoaaGreatDoorB27
import Derived.Test.YthpdkjenadngoaaGreatDoorB28
import Derived.Test.YthpdkjenadngoaaGreatDoorB29
import Derived.Test.YthpdkjenadngoaaGreatDoorB30
import Derived.Test.YthpdkjenadngoaaGreatDoorB31
import Derived.Test.YthpdkjenadngoaaGreatDoorB32
import Derived.Test.YthpdkjenadngoaaGreatDoorB33
import Derived.Test.YthpdkjenadngoaaGreatDoorB34
import Derived.Test.YthpdkjenadngoaaGreatDoorB35
import Derived.Test.YthpdkjenadngoaaGreatDoorB36
namespace Go.Proofs.YthpdkjenadngoaaGreatDoor.heap
open Go Go.RowKit Go.Proofs.YthpdkjenadngoaaGreatDoor.rose Go.Proofs.YthpdkjenadngoaaGreatDoor Go.Proofs.YthpdkjenadngoaaGreatDoor.fun Go.Proofs.YthpdkjenadngoaaGreatDoor.words Go.Proofs.YthpdkjenadngoaaGreatDoor.ints
set_option linter.unusedVariables false
set_option linter.unusedSimpArgs false

set_option maxRecDepth 100000 in
set_option maxHeartbeats 8000000 in
theorem block_no {B hb hm : Nat} {wv : Value} {W : List Int} {half base next : Nat} {M : List Bool} {w : World} (h : HH B hb hm wv W half base next 0 M w) (p : Int) (h1 : -9223372036854775808 ≤ p) (h2 : p ≤ 9223372036854775807) (hp : atB base next M p = false) :
    Calls Tryz.prog 37 #[.pointer (some ⟨hb, 0, none⟩), .int .i64 p] w fun e w' => e = .returned (.tuple #[.agg #[.bool false, .int .i64 0, .int .i64 0], .slice none 0 0, .bool false]) ∧ Below B w w' := by
  have hw0 : HH B hb hm wv W half base next 0 M (w.alloc (.cells #[.bool false, .int .i64 0, .int .i64 0] 62)) := h.on ((Below.refl _ _).alloc (Nat.le_refl _) _)
  have hB0 : Below B w (w.alloc (.cells #[.bool false, .int .i64 0, .int .i64 0] 62)) := ((Below.refl _ _).alloc (Nat.le_refl _) _).mono (by have := h.lo; have := h.lt; omega)
  have hne : ¬ w.heap.size = hb ∧ ¬ w.heap.size = hm ∧ B ≤ w.heap.size := by have := h.lt; have := h.lo; omega
  have HNE : Hid _ := hne
  have T0 := alloc_top w (.cells #[.bool false, .int .i64 0, .int .i64 0] 62)
  have LO : Hid (B ≤ hb) := h.lo.1
  generalize hwa : w.alloc (.cells #[.bool false, .int .i64 0, .int .i64 0] 62) = wa at *
  have c0 := hw0.c0
  have z0 := hw0.frz 0
  have H1 : Hid (HH B hb hm wv W half base next 1 M (wa.setCell ⟨hb, 0, none⟩ (.int .i32 1))) := hw0.lockw 1
  have B1 : Hid (Below B w (wa.setCell ⟨hb, 0, none⟩ (.int .i32 1))) := hB0.setCell h.lo.1 _
  have T1 : Hid ((wa.setCell ⟨hb, 0, none⟩ (.int .i32 1)).heap[w.heap.size]? = some (.cells #[.bool false, .int .i64 0, .int .i64 0] 62)) := (Below.heap_setCell _ _ _ _ (by show w.heap.size ≠ hb; omega)).trans T0
  have hcall := isBlock_is H1.out p h1 h2
  rw [hp] at hcall
  clear h hw0 hB0 T0 hp
  go_enter_defers Tryz.func37, Tryz.ntmps37
  go_wp2_with (go_at_call 43; refine (Go.MuLone.lock_free lock.muLib ⟨hb, 0, none⟩ _ c0 z0).mono ?_; rintro e w' ⟨rfl, rfl⟩)
  refine hcall.mono ?_
  rintro e w2 ⟨rfl, n, rfl⟩
  obtain ⟨w3, hw3⟩ : ∃ w3, w3 = (wa.setCell ⟨hb, 0, none⟩ (.int .i32 1)).drewN n := ⟨_, rfl⟩
  rw [← hw3]
  have H3 : Hid (HH B hb hm wv W half base next 1 M w3) := by rw [hw3]; exact H1.out.drewN n
  have B3 : Hid (Below B w w3) := by rw [hw3]; exact drewN_bel B1.out n
  have T3 : Hid (w3.heap[w.heap.size]? = some (.cells #[.bool false, .int .i64 0, .int .i64 0] 62)) := by rw [hw3]; exact T1.out
  clear hcall hw3 hwa c0 z0
  have x0 : w3.cell? ⟨w.heap.size, 0, none⟩ = some (.bool false) := by simp [World.cell?, T3.out]
  have x1 : w3.cell? ⟨w.heap.size, 1, none⟩ = some (.int .i64 0) := by simp [World.cell?, T3.out]
  have x2 : w3.cell? ⟨w.heap.size, 2, none⟩ = some (.int .i64 0) := by simp [World.cell?, T3.out]
  have xf : ∀ j, w3.frozen? ⟨w.heap.size, j, none⟩ = false := fun j => by simp [World.frozen?, T3.out]
  go_wp2
  have H5 := H3.out.res (.bool false) (.int .i64 0) (.int .i64 0) HNE.out.1 HNE.out.2.1 HNE.out.2.2
  have T5 := setr3 (.bool false) (.int .i64 0) (.int .i64 0) T3.out
  have B5 : Below B w (((w3.setCell ⟨w.heap.size, 0, none⟩ (.bool false)).setCell ⟨w.heap.size, 1, none⟩ (.int .i64 0)).setCell ⟨w.heap.size, 2, none⟩ (.int .i64 0)) := ((B3.out.setCell HNE.out.2.2 _).setCell HNE.out.2.2 _).setCell HNE.out.2.2 _
  clear x0 x1 x2 xf
  generalize ((w3.setCell ⟨w.heap.size, 0, none⟩ (.bool false)).setCell ⟨w.heap.size, 1, none⟩ (.int .i64 0)).setCell ⟨w.heap.size, 2, none⟩ (.int .i64 0) = w5 at *
  refine leaves_cons (f := 44) (args := #[.pointer (some ⟨hb, 0, none⟩)]) (by simp) (by simp [go_sem]) ?_
  refine (Go.MuLone.unlock_deferred lock.muLib ⟨hb, 0, none⟩ .returning _ H5.c0 (H5.frz 0)).mono ?_
  rintro e u' w'' ⟨rfl, rfl, rfl⟩
  have T6 : (w5.setCell ⟨hb, 0, none⟩ (.int .i32 0)).heap[w.heap.size]? = some (.cells #[.bool false, .int .i64 0, .int .i64 0] 62) := (Below.heap_setCell _ _ _ _ (by show w.heap.size ≠ hb; exact HNE.out.1)).trans T5
  have x0 : (w5.setCell ⟨hb, 0, none⟩ (.int .i32 0)).cell? ⟨w.heap.size, 0, none⟩ = some (.bool false) := by simp [World.cell?, T6]
  have x1 : (w5.setCell ⟨hb, 0, none⟩ (.int .i32 0)).cell? ⟨w.heap.size, 1, none⟩ = some (.int .i64 0) := by simp [World.cell?, T6]
  have x2 : (w5.setCell ⟨hb, 0, none⟩ (.int .i32 0)).cell? ⟨w.heap.size, 2, none⟩ = some (.int .i64 0) := by simp [World.cell?, T6]
  have B6 := B5.setCell LO.out (p := ⟨hb, 0, none⟩) (.int .i32 0)
  clear T6 T5 H5 B5
  generalize w5.setCell ⟨hb, 0, none⟩ (.int .i32 0) = w6 at *
  refine ⟨.tuple #[.agg #[.bool false, .int .i64 0, .int .i64 0], .slice none 0 0, .bool false], by simp [results, Tryz.f37, go_sem, x0, x1, x2], rfl, B6⟩

set_option maxRecDepth 100000 in
set_option maxHeartbeats 8000000 in
theorem block_yes {B hb hm : Nat} {wv : Value} {W : List Int} {half base next : Nat} {M : List Bool} {w : World} (h : HH B hb hm wv W half base next 0 M w) (p mn : Nat) (hp : atB base next M p = true) (hmn : (manyF (W.getD p 0)).toNat = mn) (hpm : p + mn < W.length) :
    Calls Tryz.prog 37 #[.pointer (some ⟨hb, 0, none⟩), .int .i64 p] w fun e w' => (∃ v, e = .returned (.tuple #[.agg #[.bool (funF (W.getD p 0)), .int .i64 (tagS (W.getD p 0)), .int .i64 mn], v, .bool true]) ∧ IRow w' w.heap.size v ((W.drop (p + 1)).take mn)) ∧ Below B w w' := by
  have hw0 : HH B hb hm wv W half base next 0 M (w.alloc (.cells #[.bool false, .int .i64 0, .int .i64 0] 62)) := h.on ((Below.refl _ _).alloc (Nat.le_refl _) _)
  have hB0 : Below B w (w.alloc (.cells #[.bool false, .int .i64 0, .int .i64 0] 62)) := ((Below.refl _ _).alloc (Nat.le_refl _) _).mono (by have := h.lo; have := h.lt; omega)
  have hne : ¬ w.heap.size = hb ∧ ¬ w.heap.size = hm ∧ B ≤ w.heap.size := by have := h.lt; have := h.lo; omega
  have HNE : Hid _ := hne
  have T0 := alloc_top w (.cells #[.bool false, .int .i64 0, .int .i64 0] 62)
  have LO : Hid (B ≤ hb) := h.lo.1
  have hw6 : W.length ≤ 6000 := by have := h.siz; omega
  have hpl : p < W.length := by omega
  generalize hwa : w.alloc (.cells #[.bool false, .int .i64 0, .int .i64 0] 62) = wa at *
  have c0 := hw0.c0
  have z0 := hw0.frz 0
  have H1 : Hid (HH B hb hm wv W half base next 1 M (wa.setCell ⟨hb, 0, none⟩ (.int .i32 1))) := hw0.lockw 1
  have B1 : Hid (Below B w (wa.setCell ⟨hb, 0, none⟩ (.int .i32 1))) := hB0.setCell h.lo.1 _
  have T1 : Hid ((wa.setCell ⟨hb, 0, none⟩ (.int .i32 1)).heap[w.heap.size]? = some (.cells #[.bool false, .int .i64 0, .int .i64 0] 62)) := (Below.heap_setCell _ _ _ _ (by show w.heap.size ≠ hb; omega)).trans T0
  have hcall := isBlock_is H1.out p (by omega) (by omega)
  rw [hp] at hcall
  have HMN : Hid ((manyF (W.getD p 0)).toNat = mn ∧ p + mn < W.length) := ⟨hmn, hpm⟩
  have hmn63 : mn ≤ 63 := by have := many_in (W.getD p 0); omega
  obtain ⟨x, hx⟩ : ∃ x, W.getD p 0 = x := ⟨_, rfl⟩
  rw [hx]
  have HX : Hid (W.getD p 0 = x) := hx
  clear h hw0 hB0 T0 hp hmn hpm hne hx
  go_enter_defers Tryz.func37, Tryz.ntmps37
  go_wp2_with (go_at_call 43; refine (Go.MuLone.lock_free lock.muLib ⟨hb, 0, none⟩ _ c0 z0).mono ?_; rintro e w' ⟨rfl, rfl⟩)
  refine hcall.mono ?_
  rintro e w2 ⟨rfl, n, rfl⟩
  obtain ⟨w3, hw3⟩ : ∃ w3, w3 = (wa.setCell ⟨hb, 0, none⟩ (.int .i32 1)).drewN n := ⟨_, rfl⟩
  rw [← hw3]
  have H3 : Hid (HH B hb hm wv W half base next 1 M w3) := by rw [hw3]; exact H1.out.drewN n
  have B3 : Hid (Below B w w3) := by rw [hw3]; exact drewN_bel B1.out n
  have T3 : Hid (w3.heap[w.heap.size]? = some (.cells #[.bool false, .int .i64 0, .int .i64 0] 62)) := by rw [hw3]; exact T1.out
  clear hcall hw3 hwa c0 z0
  have c3 := H3.out.c3
  obtain ⟨a0, ca, e, -, -, hat⟩ := ints_open H3.out.wds
  subst e
  obtain ⟨b, o, rfl, hS, cx, r1, r2⟩ := hat p hpl
  have hgd := getD_atH hpl
  rw [← hgd, HX.out] at cx r1 r2
  have hmx : manyF x = (mn : Int) := by have := HMN.out.1; rw [HX.out] at this; have := many_in x; omega
  have hcallh : ∀ W' : World, Calls Tryz.prog 48 #[.int .i64 x] W' fun e w' => e = .returned (.agg #[.bool (funF x), .int .i64 (tagS x), .int .i64 mn]) ∧ Below W'.heap.size W' w' := fun W' => by rw [← hmx]; exact headerOf_is x W' r1 r2
  have i0 : (0 : Int) ≤ (p : Int) := by omega
  have pI : (p : Int) < (W.length : Int) := by omega
  clear hat hgd hmx
  go_wp2_with (go_at_call 48; refine (hcallh _).mono ?_; rintro e w4 ⟨rfl, hB4⟩)
  have hnb : w4.heap.size < (w4.alloc (.cells #[.bool (funF x), .int .i64 (tagS x), .int .i64 mn] 62)).heap.size := by simp
  have TH := alloc_top w4 (.cells #[.bool (funF x), .int .i64 (tagS x), .int .i64 mn] 62)
  have hA4 : Below w4.heap.size w4 (w4.alloc (.cells #[.bool (funF x), .int .i64 (tagS x), .int .i64 mn] 62)) := (Below.refl _ _).alloc (Nat.le_refl _) _
  have H5 : Hid (HH B hb hm (.slice (some ⟨b, o, none⟩) W.length ca) W half base next 1 M (w4.alloc (.cells #[.bool (funF x), .int .i64 (tagS x), .int .i64 mn] 62))) := (H3.out.on hB4).on hA4
  have hr3 : w.heap.size < w3.heap.size := (Array.getElem?_eq_some_iff.1 T3.out).1
  have hr4 : w.heap.size < w4.heap.size := Nat.lt_of_lt_of_le hr3 hB4.size
  have hnr : ¬ w.heap.size = w4.heap.size := by omega
  have T5 : Hid ((w4.alloc (.cells #[.bool (funF x), .int .i64 (tagS x), .int .i64 mn] 62)).heap[w.heap.size]? = some (.cells #[.bool false, .int .i64 0, .int .i64 0] 62)) := (hA4.block _ hr4).trans ((hB4.block _ hr3).trans T3.out)
  have B5 : Hid (Below B w (w4.alloc (.cells #[.bool (funF x), .int .i64 (tagS x), .int .i64 mn] 62))) := (B3.out.trans (hB4.mono (by have := HNE.out; omega))).trans (hA4.mono (by have := HNE.out; omega))
  clear hB4 hA4 hcallh hr3 c3 cx
  generalize hw5 : w4.alloc (.cells #[.bool (funF x), .int .i64 (tagS x), .int .i64 mn] 62) = w5 at *
  clear hw5
  generalize w4.heap.size = nb at *
  have hr5 : w.heap.size < w5.heap.size := by omega
  have g0 : w5.cell? ⟨nb, 0, none⟩ = some (.bool (funF x)) := by simp [World.cell?, TH]
  have g1 : w5.cell? ⟨nb, 1, none⟩ = some (.int .i64 (tagS x)) := by simp [World.cell?, TH]
  have g2 : w5.cell? ⟨nb, 2, none⟩ = some (.int .i64 mn) := by simp [World.cell?, TH]
  have g0n : w5.drew.cell? ⟨nb, 0, none⟩ = some (.bool (funF x)) := g0
  have g1n : w5.drew.cell? ⟨nb, 1, none⟩ = some (.int .i64 (tagS x)) := g1
  have g2n : w5.drew.cell? ⟨nb, 2, none⟩ = some (.int .i64 mn) := g2
  have hk := kidsAt_is (w := w5.drew) (H5.out.same rfl) p mn HMN.out.1 HMN.out.2
  obtain ⟨ti, hti, hz0, hz1, hz2⟩ := int_info
  have TI : Hid (Tryz.prog.info? 3 = some ti ∧ ti.zero = some (.int .i64 0) ∧ ti.size = 1 ∧ ti.bytes = 8) := ⟨hti, hz0, hz1, hz2⟩
  have LM : Hid ((((W.drop (p + 1)).take mn).map (Value.int .i64)).length = mn * 1) := by show _ = _; have := HMN.out.2; simp; omega
  have O1 : Hid (∀ u ∈ ((W.drop (p + 1)).take mn).map (Value.int .i64), u.oneCell' = true) := fun u hu => by obtain ⟨y, _, rfl⟩ := List.mem_map.1 hu; rfl
  clear TH hti hz0 hz1 hz2
  go_region_held3 (fun X => X.cell? ⟨nb, 0, none⟩ = some (.bool (funF x)) ∧ X.cell? ⟨nb, 1, none⟩ = some (.int .i64 (tagS x)) ∧ X.cell? ⟨nb, 2, none⟩ = some (.int .i64 mn))
    (exact ⟨(by first | with_reducible exact g0 | with_reducible exact g0n | exact cell_res3 _ _ _ g0 hnr), (by first | with_reducible exact g1 | with_reducible exact g1n | exact cell_res3 _ _ _ g1 hnr), (by first | with_reducible exact g2 | with_reducible exact g2n | exact cell_res3 _ _ _ g2 hnr)⟩)
    (first
      | (go_at_call 51; refine hk.mono ?_; rintro e w7 ⟨⟨kb, ko, kc, rfl, k1, k2, k3, k4⟩, hB7⟩
         have NW : Hid (∀ j u, (((W.drop (p + 1)).take mn).map (Value.int .i64))[j]? = some u → w7.cell? ((⟨kb, ko, none⟩ : Addr).add j) = some u) := fun j u hu => by
           rw [List.getElem?_map] at hu
           obtain ⟨y, hy, rfl⟩ := Option.map_eq_some_iff.1 hu
           rw [List.getElem?_take] at hy
           split at hy
           · rename_i hj
             rw [List.getElem?_drop] at hy
             obtain ⟨hq, rfl⟩ := List.getElem?_eq_some_iff.1 hy
             obtain ⟨hW, q1, -, -⟩ := k4 j hj
             rw [add_plain]
             exact (hB7.cell (p := ⟨kb, ko + j, none⟩) (by have := H5.out.lo; have := H5.out.lt; show kb < w5.heap.size; omega)).trans q1
           · cases hy
         have RNG : Hid (∀ y ∈ (W.drop (p + 1)).take mn, InR y) := fun y hy => by
           obtain ⟨j, hj, e⟩ := List.getElem_of_mem hy
           rw [List.length_take] at hj
           obtain ⟨hW, -, q2, q3⟩ := k4 j (by omega)
           rw [← e, List.getElem_take, List.getElem_drop]
           exact ⟨q2, q3⟩
         have H7 : Hid (HH B hb hm (.slice (some ⟨b, o, none⟩) W.length ca) W half base next 1 M w7) := (H5.out.same rfl : HH B hb hm (.slice (some ⟨b, o, none⟩) W.length ca) W half base next 1 M w5.drew).on hB7
         have T7 : Hid (w7.heap[w.heap.size]? = some (.cells #[.bool false, .int .i64 0, .int .i64 0] 62)) := (hB7.block _ (show w.heap.size < w5.drew.heap.size from hr5)).trans T5.out
         have B7 : Hid (Below B w w7) := B5.out.drew.trans (hB7.mono (by show B ≤ w5.heap.size; have := HNE.out; omega))
         have hr7 : w.heap.size < w7.heap.size := Nat.lt_of_lt_of_le hr5 hB7.size
         replace g0 : w7.cell? ⟨nb, 0, none⟩ = some (.bool (funF x)) := (hB7.cell (p := ⟨nb, 0, none⟩) (show nb < w5.drew.heap.size from hnb)).trans g0n
         replace g1 : w7.cell? ⟨nb, 1, none⟩ = some (.int .i64 (tagS x)) := (hB7.cell (p := ⟨nb, 1, none⟩) (show nb < w5.drew.heap.size from hnb)).trans g1n
         replace g2 : w7.cell? ⟨nb, 2, none⟩ = some (.int .i64 mn) := (hB7.cell (p := ⟨nb, 2, none⟩) (show nb < w5.drew.heap.size from hnb)).trans g2n
         have hnb7 : nb < w7.heap.size := Nat.lt_of_lt_of_le hnb hB7.size
         clear k4 hB7)
      | (refine step_append_own rfl (.const (.slice none 0 0)) (.tmp 31) 24 rfl w7.heap.size 3 ti _ 1 8 Tryz.underlying24 TI.out.1 TI.out.2.1 TI.out.2.2.1 TI.out.2.2.2 rfl (by decide) (.slice none 0 0) 0 [] (by simp [Act.eval]) (World.ownsRow_nil w7 w7.heap.size 3 1) ⟨kb, ko, none⟩ mn kc (((W.drop (p + 1)).take mn).map (Value.int .i64)) (by simp [Act.eval, Act.put]) LM.out NW.out O1.out (by unfold maxLen; omega) (by omega) (Nat.le_refl _) ?_; intro ua ul uc w8 hown8 hgrow8 hat8
         have hB8 : Below w7.heap.size w7 w8 := (Below.refl _ _).grown hgrow8 (Nat.le_refl _) (fun k hk => by simp [Value.ownBlock] at hk)
         have H8 : Hid (HH B hb hm (.slice (some ⟨b, o, none⟩) W.length ca) W half base next 1 M w8) := H7.out.on hB8
         have T8 : Hid (w8.heap[w.heap.size]? = some (.cells #[.bool false, .int .i64 0, .int .i64 0] 62)) := (hB8.block _ hr7).trans T7.out
         have B8 : Hid (Below B w w8) := B7.out.trans (hB8.mono (by have := HNE.out; omega))
         replace g0 : w8.cell? ⟨nb, 0, none⟩ = some (.bool (funF x)) := (hB8.cell (p := ⟨nb, 0, none⟩) hnb7).trans g0
         replace g1 : w8.cell? ⟨nb, 1, none⟩ = some (.int .i64 (tagS x)) := (hB8.cell (p := ⟨nb, 1, none⟩) hnb7).trans g1
         replace g2 : w8.cell? ⟨nb, 2, none⟩ = some (.int .i64 mn) := (hB8.cell (p := ⟨nb, 2, none⟩) hnb7).trans g2
         have x0 : w8.cell? ⟨w.heap.size, 0, none⟩ = some (.bool false) := by simp [World.cell?, T8.out]
         have x1 : w8.cell? ⟨w.heap.size, 1, none⟩ = some (.int .i64 0) := by simp [World.cell?, T8.out]
         have x2 : w8.cell? ⟨w.heap.size, 2, none⟩ = some (.int .i64 0) := by simp [World.cell?, T8.out]
         have xf : ∀ j, w8.frozen? ⟨w.heap.size, j, none⟩ = false := fun j => by simp [World.frozen?, T8.out]
         have RW8 : Hid (w8.ownsRow w7.heap.size 3 1 (.slice ua ul uc) (0 + mn) ([] ++ ((W.drop (p + 1)).take mn).map (Value.int .i64))) := hown8
         clear hown8 hgrow8 hat8 hB8))
  have RI : Hid (IRow w8 w7.heap.size (.slice ua ul uc) ((W.drop (p + 1)).take mn)) := by
    have h1 := RW8.out
    have h2 := LM.out
    have e : ((W.drop (p + 1)).take mn).length = 0 + mn := by rw [List.length_map] at h2; omega
    refine ⟨?_, RNG.out⟩
    rw [e]
    simpa using h1
  have H9 := H8.out.res (.bool (funF x)) (.int .i64 (tagS x)) (.int .i64 mn) HNE.out.1 HNE.out.2.1 HNE.out.2.2
  have T9 := setr3 (.bool (funF x)) (.int .i64 (tagS x)) (.int .i64 mn) T8.out
  have R9 : IRow (((w8.setCell ⟨w.heap.size, 0, none⟩ (.bool (funF x))).setCell ⟨w.heap.size, 1, none⟩ (.int .i64 (tagS x))).setCell ⟨w.heap.size, 2, none⟩ (.int .i64 mn)) w7.heap.size (.slice ua ul uc) ((W.drop (p + 1)).take mn) := irow_res3 _ _ _ RI.out hr7
  have B9 : Below B w (((w8.setCell ⟨w.heap.size, 0, none⟩ (.bool (funF x))).setCell ⟨w.heap.size, 1, none⟩ (.int .i64 (tagS x))).setCell ⟨w.heap.size, 2, none⟩ (.int .i64 mn)) := ((B8.out.setCell HNE.out.2.2 _).setCell HNE.out.2.2 _).setCell HNE.out.2.2 _
  have HB7 : Hid (hb < w7.heap.size) := H7.out.lt.1
  clear x0 x1 x2 xf g0 g1 g2 g0n g1n g2n hk
  go_wp2
  generalize ((w8.setCell ⟨w.heap.size, 0, none⟩ (.bool (funF x))).setCell ⟨w.heap.size, 1, none⟩ (.int .i64 (tagS x))).setCell ⟨w.heap.size, 2, none⟩ (.int .i64 mn) = w9 at *
  refine leaves_cons (f := 44) (args := #[.pointer (some ⟨hb, 0, none⟩)]) (by simp) (by simp [go_sem]) ?_
  refine (Go.MuLone.unlock_deferred lock.muLib ⟨hb, 0, none⟩ .returning _ H9.c0 (H9.frz 0)).mono ?_
  rintro e u' w'' ⟨rfl, rfl, rfl⟩
  have T6 : (w9.setCell ⟨hb, 0, none⟩ (.int .i32 0)).heap[w.heap.size]? = some (.cells #[.bool (funF x), .int .i64 (tagS x), .int .i64 mn] 62) := (Below.heap_setCell _ _ _ _ (by show w.heap.size ≠ hb; exact HNE.out.1)).trans T9
  have x0 : (w9.setCell ⟨hb, 0, none⟩ (.int .i32 0)).cell? ⟨w.heap.size, 0, none⟩ = some (.bool (funF x)) := by simp [World.cell?, T6]
  have x1 : (w9.setCell ⟨hb, 0, none⟩ (.int .i32 0)).cell? ⟨w.heap.size, 1, none⟩ = some (.int .i64 (tagS x)) := by simp [World.cell?, T6]
  have x2 : (w9.setCell ⟨hb, 0, none⟩ (.int .i32 0)).cell? ⟨w.heap.size, 2, none⟩ = some (.int .i64 mn) := by simp [World.cell?, T6]
  have B6 := B9.setCell LO.out (p := ⟨hb, 0, none⟩) (.int .i32 0)
  have R6 : IRow (w9.setCell ⟨hb, 0, none⟩ (.int .i32 0)) w7.heap.size (.slice ua ul uc) ((W.drop (p + 1)).take mn) := ⟨own_same R9.1 fun q hq => Below.heap_setCell _ _ _ _ (by have := (R9.lt q hq).1; have := HB7.out; show q ≠ hb; omega), R9.2⟩
  clear T6 T9 H9 B9 R9
  generalize w9.setCell ⟨hb, 0, none⟩ (.int .i32 0) = w6 at *
  refine ⟨.tuple #[.agg #[.bool (funF x), .int .i64 (tagS x), .int .i64 mn], .slice ua ul uc, .bool true], by simp [results, Tryz.f37, go_sem, x0, x1, x2], ⟨.slice ua ul uc, rfl, ⟨own_base R6.1 (by omega), R6.2⟩⟩, B6⟩

end Go.Proofs.YthpdkjenadngoaaGreatDoor.heap

namespace Go.Proofs.YthpdkjenadngoaaGreatDoor.heap
open Go Go.RowKit Go.Proofs.YthpdkjenadngoaaGreatDoor.rose Go.Proofs.YthpdkjenadngoaaGreatDoor Go.Proofs.YthpdkjenadngoaaGreatDoor.fun Go.Proofs.YthpdkjenadngoaaGreatDoor.words Go.Proofs.YthpdkjenadngoaaGreatDoor.ints
set_option linter.unusedVariables false
set_option linter.unusedSimpArgs false

theorem tag_same {x : Int} (h : 0 ≤ x) : tagF x = tagS x := by unfold tagF tagS; rw [Int.tdiv_eq_ediv_of_nonneg (by omega)]
/-- A place's header is none below 0. -/
theorem plF_pos {W : List Int} {nx : Nat} : ∀ {p : Nat}, (plF W nx p).2 = true → ∀ z : Nat, (z : Int) ∈ (plF W nx p).1 → 0 ≤ W.getD z 0 := by
  intro p
  induction hd : nx - p using Nat.strongRecOn generalizing p with
  | _ d ih =>
    intro hok z hz
    by_cases hp : p < nx
    · rcases hb : badH (W.getD p 0) ((nx : Int) - p) with _ | _
      · rw [plF_more hp hb] at hok hz
        rcases List.mem_cons.1 hz with e | hz
        · obtain rfl : z = p := by omega
          unfold badH at hb
          simp only [Bool.or_eq_false_iff, decide_eq_false_iff_not] at hb
          omega
        · exact ih (nx - (p + 1 + (manyF (W.getD p 0)).toNat)) (by omega) rfl hok z hz
      · rw [plF_bad hp hb] at hok; cases hok
    · rw [plF_end (by omega)] at hz; cases hz

set_option maxRecDepth 100000 in
set_option maxHeartbeats 4000000 in
theorem implBlockAt (T : HeapD) (p : Int) (cs : List Value) (w : World) (hw : (wt T) ≤ 1048576) (h1 : -9223372036854775808 ≤ p) (h2 : p ≤ 9223372036854775807) (h : heapSh.rep w (· < w.heap.size) cs T) :
    Calls Tryz.prog 16 #[.agg cs.toArray, .int .i64 p] w fun e w' => (∃ v', e = .returned (.tuple #[.bool (blockF T p).1, .int .i64 (blockF T p).2.1, v', .bool (blockF T p).2.2.2]) ∧ intsSp.rep w' (fun b => w.heap.size ≤ b ∧ b < w'.heap.size) [v'] (blockF T p).2.2.1) ∧ Below w.heap.size w w' := by
  obtain ⟨W, a0, c0, half, base, next, rfl, rfl, f0, f1, f2, f3⟩ := heap_open h
  have A0 : Hid (ArgK w (w.alloc (.cells #[.slice a0 W.length c0, .int .i64 half, .int .i64 base, .int .i64 next] 26)) [.slice a0 W.length c0, .int .i64 half, .int .i64 base, .int .i64 next] 26) := ArgK.new _ _ _ rfl
  have hcall := hold_is W a0 c0 half base next _ (heapSh.mono (heapSh.below h A0.out.bel) fun b hlt => Nat.lt_of_lt_of_le hlt A0.out.bel.size)
  have hz : w.heap.size ≤ (w.alloc (.cells #[.slice a0 W.length c0, .int .i64 half, .int .i64 base, .int .i64 next] 26)).heap.size := A0.out.bel.size
  have HZ : Hid _ := hz
  obtain ⟨r, hr⟩ : ∃ r, r = blockF (W, half, base, next) p := ⟨_, rfl⟩
  have HR : Hid (r = blockF (W, half, base, next) p) := hr
  rw [← hr]
  clear h f0 f1 f2 f3 hw hr hz
  rcases q : heapB (W, half, base, next) with _ | _
  · have HF : Hid (r = (false, 0, [], false)) := by show _ = _; rw [HR.out]; unfold blockF; rw [q]; rfl
    go_enter Tryz.func16, Tryz.ntmps16
    go_wp2_with fail
    refine hcall.mono ?_
    rintro e w1 ⟨ho, hb⟩
    obtain ⟨pp, rfl⟩ := ho.1 q
    have A1 := A0.out.on hb
    clear hcall hb ho
    go_wp2
    refine bodyPost_ret (v := .tuple #[.bool false, .int .i64 0, .slice none 0 0, .bool false]) (by simp [results, Tryz.f16, go_sem]) rfl ?_
    rw [HF.out]
    exact ⟨⟨_, rfl, (IRow.nil _ w.heap.size).sp⟩, A1.bel⟩
  · go_enter Tryz.func16, Tryz.ntmps16
    go_wp2_with fail
    refine hcall.mono ?_
    rintro e w1 ⟨ho, hb⟩
    obtain ⟨hb', hm, hf, bs, nx, M, e1, e2, e3, rfl, hH, hM⟩ := ho.2 q
    subst e1 e2 e3
    have A1 : Hid (ArgK w w1 [.slice a0 W.length c0, .int .i64 hf, .int .i64 bs, .int .i64 nx] 26) := A0.out.on hb
    have HPT : plT (W, (hf : Int), (bs : Int), (nx : Int)) = plF W nx bs := by unfold plT; simp
    have hplok : (plF W nx bs).2 = true := by have := heapB_places_ok q; rwa [HPT] at this
    have hat := atB_is hM (by have := hH.siz; omega) (plF_span hplok) p
    rcases q2 : decide (p ∈ (plF W nx bs).1) with _ | _
    · have HF : Hid (r = (false, 0, [], false)) := by show _ = _; rw [HR.out]; unfold blockF; rw [q, HPT, q2]; rfl
      have hc2 := block_no hH p h1 h2 (by rw [hat, q2])
      clear hcall hb ho hH hM hat HPT hplok q2 q
      go_wp2_with fail
      refine hc2.mono ?_
      rintro e w2 ⟨rfl, hb2⟩
      have B2 : Hid (Below w.heap.size w w2) := A1.out.bel.trans (hb2.mono HZ.out)
      clear hc2 hb2
      go_wp2
      go_quiet (fail)
      go_wp2
      refine bodyPost_ret (v := .tuple #[.bool false, .int .i64 0, .slice none 0 0, .bool false]) (by simp [results, Tryz.f16, go_sem]) rfl ?_
      rw [HF.out]
      exact ⟨⟨_, rfl, (IRow.nil _ w.heap.size).sp⟩, drewN_bel (B2.out.alloc B2.out.size _) _⟩
    · have hpm : p ∈ (plF W nx bs).1 := of_decide_eq_true q2
      obtain ⟨z, rfl, hz1, hz2⟩ := plF_in hplok p hpm
      obtain ⟨mn, hmn⟩ : ∃ t : Nat, (manyF (W.getD z 0)).toNat = t := ⟨_, rfl⟩
      have hzm : z + mn < W.length := by rw [hmn] at hz2; have := hH.siz; omega
      have hmi : manyF (W.getD z 0) = (mn : Int) := by have := many_in (W.getD z 0); omega
      have HF : Hid (r = (funF (W.getD z 0), tagS (W.getD z 0), (W.drop (z + 1)).take mn, true)) := by
        show _ = _; rw [HR.out]; unfold blockF; rw [q, HPT, q2]
        simp only [Bool.and_self, if_true, Int.toNat_natCast]
        rw [hmn, tag_same (plF_pos hplok z hpm)]
      have hc2 := block_yes hH z mn (by rw [hat, q2]) hmn hzm
      obtain ⟨x, hx⟩ : ∃ x, x = W.getD z 0 := ⟨_, rfl⟩
      rw [← hx] at hc2 HF
      clear hcall hb ho hH hM hat HPT hplok q2 q hpm hz1 hz2 hmn hzm hmi hx
      go_wp2_with fail
      refine hc2.mono ?_
      rintro e w2 ⟨⟨v, rfl, hI⟩, hb2⟩
      have B2 : Hid (Below w.heap.size w w2) := A1.out.bel.trans (hb2.mono HZ.out)
      have RI : Hid (IRow w2 w1.heap.size v ((W.drop (z + 1)).take mn)) := hI
      have H1 : Hid (w.heap.size ≤ w1.heap.size) := A1.out.bel.size
      clear hc2 hb2 hI
      go_wp2
      go_quiet (fail)
      go_wp2
      refine bodyPost_ret (v := .tuple #[.bool (funF x), .int .i64 (tagS x), v, .bool true]) (by simp [results, Tryz.f16, go_sem]) rfl ?_
      rw [HF.out]
      have R3 := RI.out.keep ((Below.refl _ _).alloc (Nat.le_refl _) (.cells #[.bool (funF x), .int .i64 (tagS x), .int .i64 mn] 62))
      exact ⟨⟨_, rfl, (show IRow ((w2.alloc _).drewN _) w.heap.size v _ from ⟨own_base R3.1 H1.out, R3.2⟩).sp⟩, drewN_bel (B2.out.alloc B2.out.size _) _⟩

end Go.Proofs.YthpdkjenadngoaaGreatDoor.heap
