/-
  A heap at work while another block is turned.
  A block of a heap at work (block), under its lock: nothing that was there is turned but the lock's word, and that is as it was in the end.
-/
import Derived.Defers
import Derived.Test.YtjofmoebijdccaaGreatB1
import Derived.Test.YtjofmoebijdccaaGreatB2
import Derived.Test.YtjofmoebijdccaaGreatB3
import Derived.Test.YtjofmoebijdccaaGreatB4
import Derived.Test.YtjofmoebijdccaaGreatB5
import Derived.Test.YtjofmoebijdccaaGreatB6
import Derived.Test.YtjofmoebijdccaaGreatB7
import Derived.Test.YtjofmoebijdccaaGreatB8
import Derived.Test.YtjofmoebijdccaaGreatB9
import Derived.Test.YtjofmoebijdccaaGreatB10
import Derived.Test.YtjofmoebijdccaaGreatB11
import Derived.Test.YtjofmoebijdccaaGreatB12
import Derived.Test.YtjofmoebijdccaaGreatB13
import Derived.Test.YtjofmoebijdccaaGreatB14
import Derived.Test.YtjofmoebijdccaaGreatB15
import Derived.Test.YtjofmoebijdccaaGreatB16
import Derived.Test.YtjofmoebijdccaaGreatB17
import Derived.Test.YtjofmoebijdccaaGreatB18
import Derived.Test.YtjofmoebijdccaaGreatB19
import Derived.Test.YtjofmoebijdccaaGreatB20
import Derived.Test.YtjofmoebijdccaaGreatB21
import Derived.Test.YtjofmoebijdccaaGreatB22
import Derived.Test.YtjofmoebijdccaaGreatB23
import Derived.Test.YtjofmoebijdccaaGreatB24
import Derived.Test.YtjofmoebijdccaaGreatB25
namespace Go.Proofs.YtjofmoebijdccaaGreat.heap
open Go Go.RowKit Go.Proofs.YtjofmoebijdccaaGreat.rose Go.Proofs.YtjofmoebijdccaaGreat Go.Proofs.YtjofmoebijdccaaGreat.fun Go.Proofs.YtjofmoebijdccaaGreat.words Go.Proofs.YtjofmoebijdccaaGreat.ints
set_option linter.unusedVariables false
set_option linter.unusedSimpArgs false

/-- A cell of another block is written. -/
theorem HH.other {B hb hm : Nat} {wv : Value} {W : List Int} {half base next : Nat} {lk : Int} {M : List Bool} {w : World} (h : HH B hb hm wv W half base next lk M w) {g : Nat} (j : Nat) (v : Value) (h1 : ¬ g = hb) (h2 : ¬ g = hm) (h3 : B ≤ g) : HH B hb hm wv W half base next lk M (w.setCell ⟨g, j, none⟩ v) :=
  ⟨h.lo, (Below.heap_setCell _ _ _ _ (by show hb ≠ g; omega)).trans h.blk, (Below.heap_setCell _ _ _ _ (by show hm ≠ g; omega)).trans h.mks, h.len, intsSh.on h.wds fun b hb' => Below.heap_setCell _ _ _ _ (by show b ≠ g; omega), h.siz⟩
theorem setr3 {w : World} {r : Nat} {t : TypeId} {u0 u1 u2 : Value} (v0 v1 v2 : Value) (h : w.heap[r]? = some (.cells #[u0, u1, u2] t)) : (((w.setCell ⟨r, 0, none⟩ v0).setCell ⟨r, 1, none⟩ v1).setCell ⟨r, 2, none⟩ v2).heap[r]? = some (.cells #[v0, v1, v2] t) := by
  simp [World.setCell, Array.getElem?_modify, h]
theorem HH.res {B hb hm : Nat} {wv : Value} {W : List Int} {half base next : Nat} {lk : Int} {M : List Bool} {w : World} (h : HH B hb hm wv W half base next lk M w) {g : Nat} (v0 v1 v2 : Value) (h1 : ¬ g = hb) (h2 : ¬ g = hm) (h3 : B ≤ g) : HH B hb hm wv W half base next lk M (((w.setCell ⟨g, 0, none⟩ v0).setCell ⟨g, 1, none⟩ v1).setCell ⟨g, 2, none⟩ v2) :=
  ((h.other 0 v0 h1 h2 h3).other 1 v1 h1 h2 h3).other 2 v2 h1 h2 h3
theorem cell_res3 {w : World} {g r j : Nat} {u : Value} (v0 v1 v2 : Value) (h : w.cell? ⟨g, j, none⟩ = some u) (hne : ¬ r = g) : (((w.setCell ⟨r, 0, none⟩ v0).setCell ⟨r, 1, none⟩ v1).setCell ⟨r, 2, none⟩ v2).cell? ⟨g, j, none⟩ = some u := by
  have e : (((w.setCell ⟨r, 0, none⟩ v0).setCell ⟨r, 1, none⟩ v1).setCell ⟨r, 2, none⟩ v2).heap[g]? = w.heap[g]? :=
    ((Below.heap_setCell _ _ _ _ (by show g ≠ r; omega)).trans (Below.heap_setCell _ _ _ _ (by show g ≠ r; omega))).trans (Below.heap_setCell _ _ _ _ (by show g ≠ r; omega))
  rw [← h]
  simp only [World.cell?, e]
theorem irow_res3 {w : World} {base r : Nat} {v : Value} {l : List Int} (v0 v1 v2 : Value) (h : IRow w base v l) (hr : r < base) : IRow (((w.setCell ⟨r, 0, none⟩ v0).setCell ⟨r, 1, none⟩ v1).setCell ⟨r, 2, none⟩ v2) base v l :=
  ⟨own_same h.1 fun q hq => by
    have := (h.lt q hq).1
    exact ((Below.heap_setCell _ _ _ _ (by show q ≠ r; omega)).trans (Below.heap_setCell _ _ _ _ (by show q ≠ r; omega))).trans (Below.heap_setCell _ _ _ _ (by show q ≠ r; omega)), h.2⟩

end Go.Proofs.YtjofmoebijdccaaGreat.heap

namespace Go.Proofs.YtjofmoebijdccaaGreat.heap
open Go Go.RowKit Go.Proofs.YtjofmoebijdccaaGreat.rose Go.Proofs.YtjofmoebijdccaaGreat Go.Proofs.YtjofmoebijdccaaGreat.fun Go.Proofs.YtjofmoebijdccaaGreat.words Go.Proofs.YtjofmoebijdccaaGreat.ints
set_option linter.unusedVariables false
set_option linter.unusedSimpArgs false

set_option maxRecDepth 100000 in
set_option maxHeartbeats 8000000 in
theorem blockK_no {B hb hm : Nat} {wv : Value} {W : List Int} {half base next : Nat} {M : List Bool} {w : World} (h : HH B hb hm wv W half base next 0 M w) (p : Int) (h1 : -9223372036854775808 ≤ p) (h2 : p ≤ 9223372036854775807) (hp : atB base next M p = false) :
    Calls Tryz.prog 79 #[.pointer (some ⟨hb, 0, none⟩), .int .i64 p] w fun e w' => e = .returned (.tuple #[.agg #[.bool false, .int .i64 0, .int .i64 0], .slice none 0 0, .bool false]) ∧ Only (· = hb) w w' ∧ HH B hb hm wv W half base next 0 M w' := by
  have hw0 : HH B hb hm wv W half base next 0 M (w.alloc (.cells #[.bool false, .int .i64 0, .int .i64 0] 158)) := h.on ((Below.refl _ _).alloc (Nat.le_refl _) _)
  have hB0 : Only (· = hb) w (w.alloc (.cells #[.bool false, .int .i64 0, .int .i64 0] 158)) := (Only.refl _ w).alloc _
  have hne : ¬ w.heap.size = hb ∧ ¬ w.heap.size = hm ∧ B ≤ w.heap.size := by have := h.lt; have := h.lo; omega
  have HNE : Hid _ := hne
  have T0 := alloc_top w (.cells #[.bool false, .int .i64 0, .int .i64 0] 158)
  have LO : Hid (B ≤ hb) := h.lo.1
  generalize hwa : w.alloc (.cells #[.bool false, .int .i64 0, .int .i64 0] 158) = wa at *
  have c0 := hw0.c0
  have z0 := hw0.frz 0
  have H1 : Hid (HH B hb hm wv W half base next 1 M (wa.setCell ⟨hb, 0, none⟩ (.int .i32 1))) := hw0.lockw 1
  have B1 : Hid (Only (· = hb) w (wa.setCell ⟨hb, 0, none⟩ (.int .i32 1))) := hB0.set hb 0 _ (fun _ => rfl)
  have T1 : Hid ((wa.setCell ⟨hb, 0, none⟩ (.int .i32 1)).heap[w.heap.size]? = some (.cells #[.bool false, .int .i64 0, .int .i64 0] 158)) := (Below.heap_setCell _ _ _ _ (by show w.heap.size ≠ hb; omega)).trans T0
  have hcall := isBlock_is H1.out p h1 h2
  rw [hp] at hcall
  clear h hw0 hB0 T0 hp
  go_enter_defers Tryz.func79, Tryz.ntmps79
  go_wp2_with (go_at_call 98; refine (Go.MuLone.lock_free lock.muLib ⟨hb, 0, none⟩ _ c0 z0).mono ?_; rintro e w' ⟨rfl, rfl⟩)
  refine hcall.mono ?_
  rintro e w2 ⟨rfl, n, rfl⟩
  obtain ⟨w3, hw3⟩ : ∃ w3, w3 = (wa.setCell ⟨hb, 0, none⟩ (.int .i32 1)).drewN n := ⟨_, rfl⟩
  rw [← hw3]
  have H3 : Hid (HH B hb hm wv W half base next 1 M w3) := by rw [hw3]; exact H1.out.drewN n
  have B3 : Hid (Only (· = hb) w w3) := by rw [hw3]; exact B1.out.drewN n
  have T3 : Hid (w3.heap[w.heap.size]? = some (.cells #[.bool false, .int .i64 0, .int .i64 0] 158)) := by rw [hw3]; exact T1.out
  clear hcall hw3 hwa c0 z0
  have x0 : w3.cell? ⟨w.heap.size, 0, none⟩ = some (.bool false) := by simp [World.cell?, T3.out]
  have x1 : w3.cell? ⟨w.heap.size, 1, none⟩ = some (.int .i64 0) := by simp [World.cell?, T3.out]
  have x2 : w3.cell? ⟨w.heap.size, 2, none⟩ = some (.int .i64 0) := by simp [World.cell?, T3.out]
  have xf : ∀ j, w3.frozen? ⟨w.heap.size, j, none⟩ = false := fun j => by simp [World.frozen?, T3.out]
  go_wp2
  have H5 := H3.out.res (.bool false) (.int .i64 0) (.int .i64 0) HNE.out.1 HNE.out.2.1 HNE.out.2.2
  have T5 := setr3 (.bool false) (.int .i64 0) (.int .i64 0) T3.out
  have B5 : Only (· = hb) w (((w3.setCell ⟨w.heap.size, 0, none⟩ (.bool false)).setCell ⟨w.heap.size, 1, none⟩ (.int .i64 0)).setCell ⟨w.heap.size, 2, none⟩ (.int .i64 0)) := ((B3.out.set w.heap.size 0 _ (fun hl => absurd hl (Nat.lt_irrefl _))).set w.heap.size 1 _ (fun hl => absurd hl (Nat.lt_irrefl _))).set w.heap.size 2 _ (fun hl => absurd hl (Nat.lt_irrefl _))
  clear x0 x1 x2 xf
  generalize ((w3.setCell ⟨w.heap.size, 0, none⟩ (.bool false)).setCell ⟨w.heap.size, 1, none⟩ (.int .i64 0)).setCell ⟨w.heap.size, 2, none⟩ (.int .i64 0) = w5 at *
  refine leaves_cons (f := 99) (args := #[.pointer (some ⟨hb, 0, none⟩)]) (by simp) (by simp [go_sem]) ?_
  refine (Go.MuLone.unlock_deferred lock.muLib ⟨hb, 0, none⟩ .returning _ H5.c0 (H5.frz 0)).mono ?_
  rintro e u' w'' ⟨rfl, rfl, rfl⟩
  have T6 : (w5.setCell ⟨hb, 0, none⟩ (.int .i32 0)).heap[w.heap.size]? = some (.cells #[.bool false, .int .i64 0, .int .i64 0] 158) := (Below.heap_setCell _ _ _ _ (by show w.heap.size ≠ hb; exact HNE.out.1)).trans T5
  have x0 : (w5.setCell ⟨hb, 0, none⟩ (.int .i32 0)).cell? ⟨w.heap.size, 0, none⟩ = some (.bool false) := by simp [World.cell?, T6]
  have x1 : (w5.setCell ⟨hb, 0, none⟩ (.int .i32 0)).cell? ⟨w.heap.size, 1, none⟩ = some (.int .i64 0) := by simp [World.cell?, T6]
  have x2 : (w5.setCell ⟨hb, 0, none⟩ (.int .i32 0)).cell? ⟨w.heap.size, 2, none⟩ = some (.int .i64 0) := by simp [World.cell?, T6]
  have B6 : Only (· = hb) w (w5.setCell ⟨hb, 0, none⟩ (.int .i32 0)) := B5.set hb 0 _ (fun _ => rfl)
  have H6 := H5.lockw 0
  clear T6 T5 H5 B5
  generalize w5.setCell ⟨hb, 0, none⟩ (.int .i32 0) = w6 at *
  refine ⟨.tuple #[.agg #[.bool false, .int .i64 0, .int .i64 0], .slice none 0 0, .bool false], by simp [results, Tryz.f79, go_sem, x0, x1, x2], rfl, B6, H6⟩

set_option maxRecDepth 100000 in
set_option maxHeartbeats 8000000 in
theorem blockK_yes {B hb hm : Nat} {wv : Value} {W : List Int} {half base next : Nat} {M : List Bool} {w : World} (h : HH B hb hm wv W half base next 0 M w) (p mn : Nat) (hp : atB base next M p = true) (hmn : (manyF (W.getD p 0)).toNat = mn) (hpm : p + mn < W.length) :
    Calls Tryz.prog 79 #[.pointer (some ⟨hb, 0, none⟩), .int .i64 p] w fun e w' => (∃ v, e = .returned (.tuple #[.agg #[.bool (funF (W.getD p 0)), .int .i64 (tagS (W.getD p 0)), .int .i64 mn], v, .bool true]) ∧ IRow w' w.heap.size v ((W.drop (p + 1)).take mn)) ∧ Only (· = hb) w w' ∧ HH B hb hm wv W half base next 0 M w' := by
  have hw0 : HH B hb hm wv W half base next 0 M (w.alloc (.cells #[.bool false, .int .i64 0, .int .i64 0] 158)) := h.on ((Below.refl _ _).alloc (Nat.le_refl _) _)
  have hB0 : Only (· = hb) w (w.alloc (.cells #[.bool false, .int .i64 0, .int .i64 0] 158)) := (Only.refl _ w).alloc _
  have hne : ¬ w.heap.size = hb ∧ ¬ w.heap.size = hm ∧ B ≤ w.heap.size := by have := h.lt; have := h.lo; omega
  have HNE : Hid _ := hne
  have T0 := alloc_top w (.cells #[.bool false, .int .i64 0, .int .i64 0] 158)
  have LO : Hid (B ≤ hb) := h.lo.1
  have hw6 : W.length ≤ 6000 := by have := h.siz; omega
  have hpl : p < W.length := by omega
  generalize hwa : w.alloc (.cells #[.bool false, .int .i64 0, .int .i64 0] 158) = wa at *
  have c0 := hw0.c0
  have z0 := hw0.frz 0
  have H1 : Hid (HH B hb hm wv W half base next 1 M (wa.setCell ⟨hb, 0, none⟩ (.int .i32 1))) := hw0.lockw 1
  have B1 : Hid (Only (· = hb) w (wa.setCell ⟨hb, 0, none⟩ (.int .i32 1))) := hB0.set hb 0 _ (fun _ => rfl)
  have T1 : Hid ((wa.setCell ⟨hb, 0, none⟩ (.int .i32 1)).heap[w.heap.size]? = some (.cells #[.bool false, .int .i64 0, .int .i64 0] 158)) := (Below.heap_setCell _ _ _ _ (by show w.heap.size ≠ hb; omega)).trans T0
  have hcall := isBlock_is H1.out p (by omega) (by omega)
  rw [hp] at hcall
  have HMN : Hid ((manyF (W.getD p 0)).toNat = mn ∧ p + mn < W.length) := ⟨hmn, hpm⟩
  have hmn63 : mn ≤ 63 := by have := many_in (W.getD p 0); omega
  obtain ⟨x, hx⟩ : ∃ x, W.getD p 0 = x := ⟨_, rfl⟩
  rw [hx]
  have HX : Hid (W.getD p 0 = x) := hx
  clear h hw0 hB0 T0 hp hmn hpm hne hx
  go_enter_defers Tryz.func79, Tryz.ntmps79
  go_wp2_with (go_at_call 98; refine (Go.MuLone.lock_free lock.muLib ⟨hb, 0, none⟩ _ c0 z0).mono ?_; rintro e w' ⟨rfl, rfl⟩)
  refine hcall.mono ?_
  rintro e w2 ⟨rfl, n, rfl⟩
  obtain ⟨w3, hw3⟩ : ∃ w3, w3 = (wa.setCell ⟨hb, 0, none⟩ (.int .i32 1)).drewN n := ⟨_, rfl⟩
  rw [← hw3]
  have H3 : Hid (HH B hb hm wv W half base next 1 M w3) := by rw [hw3]; exact H1.out.drewN n
  have B3 : Hid (Only (· = hb) w w3) := by rw [hw3]; exact B1.out.drewN n
  have T3 : Hid (w3.heap[w.heap.size]? = some (.cells #[.bool false, .int .i64 0, .int .i64 0] 158)) := by rw [hw3]; exact T1.out
  clear hcall hw3 hwa c0 z0
  have c3 := H3.out.c3
  obtain ⟨a0, ca, e, -, -, hat⟩ := ints_open H3.out.wds
  subst e
  obtain ⟨b, o, rfl, hS, cx, r1, r2⟩ := hat p hpl
  have hgd := getD_atH hpl
  rw [← hgd, HX.out] at cx r1 r2
  have hmx : manyF x = (mn : Int) := by have := HMN.out.1; rw [HX.out] at this; have := many_in x; omega
  have hcallh : ∀ W' : World, Calls Tryz.prog 92 #[.int .i64 x] W' fun e w' => e = .returned (.agg #[.bool (funF x), .int .i64 (tagS x), .int .i64 mn]) ∧ Below W'.heap.size W' w' := fun W' => by rw [← hmx]; exact headerOf_is x W' r1 r2
  have i0 : (0 : Int) ≤ (p : Int) := by omega
  have pI : (p : Int) < (W.length : Int) := by omega
  clear hat hgd hmx
  go_wp2_with (go_at_call 92; refine (hcallh _).mono ?_; rintro e w4 ⟨rfl, hB4⟩)
  have hnb : w4.heap.size < (w4.alloc (.cells #[.bool (funF x), .int .i64 (tagS x), .int .i64 mn] 158)).heap.size := by simp
  have TH := alloc_top w4 (.cells #[.bool (funF x), .int .i64 (tagS x), .int .i64 mn] 158)
  have hA4 : Below w4.heap.size w4 (w4.alloc (.cells #[.bool (funF x), .int .i64 (tagS x), .int .i64 mn] 158)) := (Below.refl _ _).alloc (Nat.le_refl _) _
  have H5 : Hid (HH B hb hm (.slice (some ⟨b, o, none⟩) W.length ca) W half base next 1 M (w4.alloc (.cells #[.bool (funF x), .int .i64 (tagS x), .int .i64 mn] 158))) := (H3.out.on hB4).on hA4
  have hr3 : w.heap.size < w3.heap.size := (Array.getElem?_eq_some_iff.1 T3.out).1
  have hr4 : w.heap.size < w4.heap.size := Nat.lt_of_lt_of_le hr3 hB4.size
  have hnr : ¬ w.heap.size = w4.heap.size := by omega
  have T5 : Hid ((w4.alloc (.cells #[.bool (funF x), .int .i64 (tagS x), .int .i64 mn] 158)).heap[w.heap.size]? = some (.cells #[.bool false, .int .i64 0, .int .i64 0] 158)) := (hA4.block _ hr4).trans ((hB4.block _ hr3).trans T3.out)
  have B5 : Hid (Only (· = hb) w (w4.alloc (.cells #[.bool (funF x), .int .i64 (tagS x), .int .i64 mn] 158))) := (B3.out.bel hB4).bel hA4
  clear hB4 hA4 hcallh hr3 c3 cx
  generalize hw5 : w4.alloc (.cells #[.bool (funF x), .int .i64 (tagS x), .int .i64 mn] 158) = w5 at *
  clear hw5
  generalize w4.heap.size = nb at *
  have hr5 : w.heap.size < w5.heap.size := by omega
  have g0 : w5.cell? ⟨nb, 0, none⟩ = some (.bool (funF x)) := by simp [World.cell?, TH]
  have g1 : w5.cell? ⟨nb, 1, none⟩ = some (.int .i64 (tagS x)) := by simp [World.cell?, TH]
  have g2 : w5.cell? ⟨nb, 2, none⟩ = some (.int .i64 mn) := by simp [World.cell?, TH]
  have g0n : w5.drew.cell? ⟨nb, 0, none⟩ = some (.bool (funF x)) := g0
  have g1n : w5.drew.cell? ⟨nb, 1, none⟩ = some (.int .i64 (tagS x)) := g1
  have g2n : w5.drew.cell? ⟨nb, 2, none⟩ = some (.int .i64 mn) := g2
  have hk := kidsAt_is (w := w5.drew) (H5.out.same rfl) p mn HMN.out.1 HMN.out.2
  obtain ⟨ti, hti, hz0, hz1, hz2⟩ := int_info
  have TI : Hid (Tryz.prog.info? 3 = some ti ∧ ti.zero = some (.int .i64 0) ∧ ti.size = 1 ∧ ti.bytes = 8) := ⟨hti, hz0, hz1, hz2⟩
  have LM : Hid ((((W.drop (p + 1)).take mn).map (Value.int .i64)).length = mn * 1) := by show _ = _; have := HMN.out.2; simp; omega
  have O1 : Hid (∀ u ∈ ((W.drop (p + 1)).take mn).map (Value.int .i64), u.oneCell' = true) := fun u hu => by obtain ⟨y, _, rfl⟩ := List.mem_map.1 hu; rfl
  clear TH hti hz0 hz1 hz2
  go_region_held3 (fun X => X.cell? ⟨nb, 0, none⟩ = some (.bool (funF x)) ∧ X.cell? ⟨nb, 1, none⟩ = some (.int .i64 (tagS x)) ∧ X.cell? ⟨nb, 2, none⟩ = some (.int .i64 mn))
    (exact ⟨(by first | with_reducible exact g0 | with_reducible exact g0n | exact cell_res3 _ _ _ g0 hnr), (by first | with_reducible exact g1 | with_reducible exact g1n | exact cell_res3 _ _ _ g1 hnr), (by first | with_reducible exact g2 | with_reducible exact g2n | exact cell_res3 _ _ _ g2 hnr)⟩)
    (first
      | (go_at_call 95; refine hk.mono ?_; rintro e w7 ⟨⟨kb, ko, kc, rfl, k1, k2, k3, k4⟩, hB7⟩
         have NW : Hid (∀ j u, (((W.drop (p + 1)).take mn).map (Value.int .i64))[j]? = some u → w7.cell? ((⟨kb, ko, none⟩ : Addr).add j) = some u) := fun j u hu => by
           rw [List.getElem?_map] at hu
           obtain ⟨y, hy, rfl⟩ := Option.map_eq_some_iff.1 hu
           rw [List.getElem?_take] at hy
           split at hy
           · rename_i hj
             rw [List.getElem?_drop] at hy
             obtain ⟨hq, rfl⟩ := List.getElem?_eq_some_iff.1 hy
             obtain ⟨hW, q1, -, -⟩ := k4 j hj
             rw [add_plain]
             exact (hB7.cell (p := ⟨kb, ko + j, none⟩) (by have := H5.out.lo; have := H5.out.lt; show kb < w5.heap.size; omega)).trans q1
           · cases hy
         have RNG : Hid (∀ y ∈ (W.drop (p + 1)).take mn, InR y) := fun y hy => by
           obtain ⟨j, hj, e⟩ := List.getElem_of_mem hy
           rw [List.length_take] at hj
           obtain ⟨hW, -, q2, q3⟩ := k4 j (by omega)
           rw [← e, List.getElem_take, List.getElem_drop]
           exact ⟨q2, q3⟩
         have H7 : Hid (HH B hb hm (.slice (some ⟨b, o, none⟩) W.length ca) W half base next 1 M w7) := (H5.out.same rfl : HH B hb hm (.slice (some ⟨b, o, none⟩) W.length ca) W half base next 1 M w5.drew).on hB7
         have T7 : Hid (w7.heap[w.heap.size]? = some (.cells #[.bool false, .int .i64 0, .int .i64 0] 158)) := (hB7.block _ (show w.heap.size < w5.drew.heap.size from hr5)).trans T5.out
         have B7 : Hid (Only (· = hb) w w7) := B5.out.drew.bel hB7
         have hr7 : w.heap.size < w7.heap.size := Nat.lt_of_lt_of_le hr5 hB7.size
         replace g0 : w7.cell? ⟨nb, 0, none⟩ = some (.bool (funF x)) := (hB7.cell (p := ⟨nb, 0, none⟩) (show nb < w5.drew.heap.size from hnb)).trans g0n
         replace g1 : w7.cell? ⟨nb, 1, none⟩ = some (.int .i64 (tagS x)) := (hB7.cell (p := ⟨nb, 1, none⟩) (show nb < w5.drew.heap.size from hnb)).trans g1n
         replace g2 : w7.cell? ⟨nb, 2, none⟩ = some (.int .i64 mn) := (hB7.cell (p := ⟨nb, 2, none⟩) (show nb < w5.drew.heap.size from hnb)).trans g2n
         have hnb7 : nb < w7.heap.size := Nat.lt_of_lt_of_le hnb hB7.size
         clear k4 hB7)
      | (refine step_append_own rfl (.const (.slice none 0 0)) (.tmp 31) 24 rfl w7.heap.size 3 ti _ 1 8 Tryz.underlying24 TI.out.1 TI.out.2.1 TI.out.2.2.1 TI.out.2.2.2 rfl (by decide) (.slice none 0 0) 0 [] (by simp [Act.eval]) (World.ownsRow_nil w7 w7.heap.size 3 1) ⟨kb, ko, none⟩ mn kc (((W.drop (p + 1)).take mn).map (Value.int .i64)) (by simp [Act.eval, Act.put]) LM.out NW.out O1.out (by unfold maxLen; omega) (by omega) (Nat.le_refl _) ?_; intro ua ul uc w8 hown8 hgrow8 hat8
         have hB8 : Below w7.heap.size w7 w8 := (Below.refl _ _).grown hgrow8 (Nat.le_refl _) (fun k hk => by simp [Value.ownBlock] at hk)
         have H8 : Hid (HH B hb hm (.slice (some ⟨b, o, none⟩) W.length ca) W half base next 1 M w8) := H7.out.on hB8
         have T8 : Hid (w8.heap[w.heap.size]? = some (.cells #[.bool false, .int .i64 0, .int .i64 0] 158)) := (hB8.block _ hr7).trans T7.out
         have B8 : Hid (Only (· = hb) w w8) := B7.out.bel hB8
         replace g0 : w8.cell? ⟨nb, 0, none⟩ = some (.bool (funF x)) := (hB8.cell (p := ⟨nb, 0, none⟩) hnb7).trans g0
         replace g1 : w8.cell? ⟨nb, 1, none⟩ = some (.int .i64 (tagS x)) := (hB8.cell (p := ⟨nb, 1, none⟩) hnb7).trans g1
         replace g2 : w8.cell? ⟨nb, 2, none⟩ = some (.int .i64 mn) := (hB8.cell (p := ⟨nb, 2, none⟩) hnb7).trans g2
         have x0 : w8.cell? ⟨w.heap.size, 0, none⟩ = some (.bool false) := by simp [World.cell?, T8.out]
         have x1 : w8.cell? ⟨w.heap.size, 1, none⟩ = some (.int .i64 0) := by simp [World.cell?, T8.out]
         have x2 : w8.cell? ⟨w.heap.size, 2, none⟩ = some (.int .i64 0) := by simp [World.cell?, T8.out]
         have xf : ∀ j, w8.frozen? ⟨w.heap.size, j, none⟩ = false := fun j => by simp [World.frozen?, T8.out]
         have RW8 : Hid (w8.ownsRow w7.heap.size 3 1 (.slice ua ul uc) (0 + mn) ([] ++ ((W.drop (p + 1)).take mn).map (Value.int .i64))) := hown8
         clear hown8 hgrow8 hat8 hB8))
  have RI : Hid (IRow w8 w7.heap.size (.slice ua ul uc) ((W.drop (p + 1)).take mn)) := by
    have h1 := RW8.out
    have h2 := LM.out
    have e : ((W.drop (p + 1)).take mn).length = 0 + mn := by rw [List.length_map] at h2; omega
    refine ⟨?_, RNG.out⟩
    rw [e]
    simpa using h1
  have H9 := H8.out.res (.bool (funF x)) (.int .i64 (tagS x)) (.int .i64 mn) HNE.out.1 HNE.out.2.1 HNE.out.2.2
  have T9 := setr3 (.bool (funF x)) (.int .i64 (tagS x)) (.int .i64 mn) T8.out
  have R9 : IRow (((w8.setCell ⟨w.heap.size, 0, none⟩ (.bool (funF x))).setCell ⟨w.heap.size, 1, none⟩ (.int .i64 (tagS x))).setCell ⟨w.heap.size, 2, none⟩ (.int .i64 mn)) w7.heap.size (.slice ua ul uc) ((W.drop (p + 1)).take mn) := irow_res3 _ _ _ RI.out hr7
  have B9 : Only (· = hb) w (((w8.setCell ⟨w.heap.size, 0, none⟩ (.bool (funF x))).setCell ⟨w.heap.size, 1, none⟩ (.int .i64 (tagS x))).setCell ⟨w.heap.size, 2, none⟩ (.int .i64 mn)) := ((B8.out.set w.heap.size 0 _ (fun hl => absurd hl (Nat.lt_irrefl _))).set w.heap.size 1 _ (fun hl => absurd hl (Nat.lt_irrefl _))).set w.heap.size 2 _ (fun hl => absurd hl (Nat.lt_irrefl _))
  have HB7 : Hid (hb < w7.heap.size) := H7.out.lt.1
  clear x0 x1 x2 xf g0 g1 g2 g0n g1n g2n hk
  go_wp2
  generalize ((w8.setCell ⟨w.heap.size, 0, none⟩ (.bool (funF x))).setCell ⟨w.heap.size, 1, none⟩ (.int .i64 (tagS x))).setCell ⟨w.heap.size, 2, none⟩ (.int .i64 mn) = w9 at *
  refine leaves_cons (f := 99) (args := #[.pointer (some ⟨hb, 0, none⟩)]) (by simp) (by simp [go_sem]) ?_
  refine (Go.MuLone.unlock_deferred lock.muLib ⟨hb, 0, none⟩ .returning _ H9.c0 (H9.frz 0)).mono ?_
  rintro e u' w'' ⟨rfl, rfl, rfl⟩
  have T6 : (w9.setCell ⟨hb, 0, none⟩ (.int .i32 0)).heap[w.heap.size]? = some (.cells #[.bool (funF x), .int .i64 (tagS x), .int .i64 mn] 158) := (Below.heap_setCell _ _ _ _ (by show w.heap.size ≠ hb; exact HNE.out.1)).trans T9
  have x0 : (w9.setCell ⟨hb, 0, none⟩ (.int .i32 0)).cell? ⟨w.heap.size, 0, none⟩ = some (.bool (funF x)) := by simp [World.cell?, T6]
  have x1 : (w9.setCell ⟨hb, 0, none⟩ (.int .i32 0)).cell? ⟨w.heap.size, 1, none⟩ = some (.int .i64 (tagS x)) := by simp [World.cell?, T6]
  have x2 : (w9.setCell ⟨hb, 0, none⟩ (.int .i32 0)).cell? ⟨w.heap.size, 2, none⟩ = some (.int .i64 mn) := by simp [World.cell?, T6]
  have B6 : Only (· = hb) w (w9.setCell ⟨hb, 0, none⟩ (.int .i32 0)) := B9.set hb 0 _ (fun _ => rfl)
  have H6 := H9.lockw 0
  have R6 : IRow (w9.setCell ⟨hb, 0, none⟩ (.int .i32 0)) w7.heap.size (.slice ua ul uc) ((W.drop (p + 1)).take mn) := ⟨own_same R9.1 fun q hq => Below.heap_setCell _ _ _ _ (by have := (R9.lt q hq).1; have := HB7.out; show q ≠ hb; omega), R9.2⟩
  clear T6 T9 H9 B9 R9
  generalize w9.setCell ⟨hb, 0, none⟩ (.int .i32 0) = w6 at *
  refine ⟨.tuple #[.agg #[.bool (funF x), .int .i64 (tagS x), .int .i64 mn], .slice ua ul uc, .bool true], by simp [results, Tryz.f79, go_sem, x0, x1, x2], ⟨.slice ua ul uc, rfl, ⟨own_base R6.1 (by omega), R6.2⟩⟩, B6, H6⟩

end Go.Proofs.YtjofmoebijdccaaGreat.heap
