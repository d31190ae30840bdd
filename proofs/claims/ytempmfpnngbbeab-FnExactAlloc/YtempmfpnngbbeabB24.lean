/-
  A block is put into a heap at work where there is room and its kids are right (put): it is there.
-/
import Derived.Deep.RegionHeld3
import Derived.Test.YtempmfpnngbbeabB1
import Derived.Test.YtempmfpnngbbeabB2
import Derived.Test.YtempmfpnngbbeabB3
import Derived.Test.YtempmfpnngbbeabB4
import Derived.Test.YtempmfpnngbbeabB5
import Derived.Test.YtempmfpnngbbeabB6
import Derived.Test.YtempmfpnngbbeabB7
import Derived.Test.YtempmfpnngbbeabB8
import Derived.Test.YtempmfpnngbbeabB9
import Derived.Test.YtempmfpnngbbeabB10
import Derived.Test.YtempmfpnngbbeabB11
import Derived.Test.YtempmfpnngbbeabB12
import Derived.Test.YtempmfpnngbbeabB13
import Derived.Test.YtempmfpnngbbeabB14
import Derived.Test.YtempmfpnngbbeabB15
import Derived.Test.YtempmfpnngbbeabB16
import Derived.Test.YtempmfpnngbbeabB17
import Derived.Test.YtempmfpnngbbeabB18
import Derived.Test.YtempmfpnngbbeabB19
import Derived.Test.YtempmfpnngbbeabB20
import Derived.Test.YtempmfpnngbbeabB21
import Derived.Test.YtempmfpnngbbeabB22
import Derived.Test.YtempmfpnngbbeabB23
namespace Go.Proofs.Ytempmfpnngbbeab.heap
open Go Go.RowKit Go.Deep Go.Proofs.Ytempmfpnngbbeab.rose Go.Proofs.Ytempmfpnngbbeab Go.Proofs.Ytempmfpnngbbeab.fun Go.Proofs.Ytempmfpnngbbeab.words Go.Proofs.Ytempmfpnngbbeab.ints
set_option linter.unusedVariables false
set_option linter.unusedSimpArgs false

theorem cell_set1 {w : World} {g r i j : Nat} {u : Value} (v : Value) (h : w.cell? ⟨g, j, none⟩ = some u) (hne : ¬ r = g) : (w.setCell ⟨r, i, none⟩ v).cell? ⟨g, j, none⟩ = some u := by
  have e : (w.setCell ⟨r, i, none⟩ v).heap[g]? = w.heap[g]? := Below.heap_setCell _ _ _ _ (by show g ≠ r; omega)
  rw [← h]
  simp only [World.cell?, e]

set_option maxRecDepth 100000 in
set_option maxHeartbeats 16000000 in
theorem put_yes {B hb hm g c Bw : Nat} {R : List Value} {W : List Int} {half base next : Nat} {M : List Bool} {w : World} (h : HH B hb hm (.slice (some ⟨g, 0, none⟩) W.length c) W half base next 0 M w) (fn : Bool) (tag : Int) (ak : Option Addr) (ck : Nat) (kids : List Int) (S : Nat → Prop) (hk : intsSh.rep w S [.slice ak kids.length ck] kids) (hS : ∀ b, S b → b < Bw) (hWB : WB g c W R w) (hgB : Bw ≤ g ∧ g < B) (hl : kids.length ≤ 1048576) (q1 : okHdr tag kids.length = true) (q2 : ¬ (base : Int) + half - next < 1 + (kids.length : Int)) (q3 : kids.all (keepB base next M) = true) :
    Calls Try.prog 34 #[.pointer (some ⟨hb, 0, none⟩), .agg #[.bool fn, .int .i64 tag, .int .i64 kids.length], .slice ak kids.length ck] w fun e w' => e = .returned (.tuple #[.int .i64 next, .bool true]) ∧ (∃ M', HH B hb hm (.slice (some ⟨g, 0, none⟩) W.length c) (putW W next (headW fn tag kids.length :: kids)) half base (next + 1 + kids.length) 0 M' w') ∧ WB g c (putW W next (headW fn tag kids.length :: kids)) R w' ∧ Below Bw w w' := by
  have hw0 : HH B hb hm (.slice (some ⟨g, 0, none⟩) W.length c) W half base next 0 M (w.alloc (.cells #[.bool fn, .int .i64 tag, .int .i64 kids.length] 52)) := h.on ((Below.refl _ _).alloc (Nat.le_refl _) _)
  have hB0 : Below B w (w.alloc (.cells #[.bool fn, .int .i64 tag, .int .i64 kids.length] 52)) := ((Below.refl _ _).alloc (Nat.le_refl _) _).mono (by have := h.lo; have := h.lt; omega)
  have hBB : Below w.heap.size w (w.alloc (.cells #[.bool fn, .int .i64 tag, .int .i64 kids.length] 52)) := (Below.refl _ _).alloc (Nat.le_refl _) _
  have hne : ¬ w.heap.size = hb ∧ ¬ w.heap.size = hm ∧ B ≤ w.heap.size := by have := h.lt; have := h.lo; omega
  have HNE : Hid _ := hne
  have T0 := alloc_top w (.cells #[.bool fn, .int .i64 tag, .int .i64 kids.length] 52)
  have hnz0 : w.heap.size < (w.alloc (.cells #[.bool fn, .int .i64 tag, .int .i64 kids.length] 52)).heap.size := by simp
  have LO : Hid (B ≤ hb ∧ B ≤ hm ∧ hb ≠ hm) := h.lo
  have HKR : Hid (∀ X : World, (∀ b, b < Bw → X.heap[b]? = w.heap[b]?) → intsSh.rep X S [.slice ak kids.length ck] kids) := fun X hX => intsSh.on hk fun b hb' => hX b (hS b hb')
  have hs6 : next ≤ 6000 ∧ half ≤ 3000 ∧ base ≤ 3000 := by have := h.siz; omega
  have hkI : (kids.length : Int) ≤ 1048576 := by omega
  generalize hwa : w.alloc (.cells #[.bool fn, .int .i64 tag, .int .i64 kids.length] 52) = wa at *
  have c0 := hw0.c0
  have z0 := hw0.frz 0
  have H1 : Hid (HH B hb hm (.slice (some ⟨g, 0, none⟩) W.length c) W half base next 1 M (wa.setCell ⟨hb, 0, none⟩ (.int .i32 1))) := hw0.lockw 1
  have B1 : Hid (Below B w (wa.setCell ⟨hb, 0, none⟩ (.int .i32 1))) := hB0.setCell h.lo.1 _
  have T1 : (wa.setCell ⟨hb, 0, none⟩ (.int .i32 1)).heap[w.heap.size]? = some (.cells #[.bool fn, .int .i64 tag, .int .i64 kids.length] 52) := (Below.heap_setCell _ _ _ _ (by show w.heap.size ≠ hb; omega)).trans T0
  have hnz : w.heap.size < (wa.setCell ⟨hb, 0, none⟩ (.int .i32 1)).heap.size := (Array.getElem?_eq_some_iff.1 T1).1
  have g0 : (wa.setCell ⟨hb, 0, none⟩ (.int .i32 1)).cell? ⟨w.heap.size, 0, none⟩ = some (.bool fn) := by simp [World.cell?, T1]
  have g1 : (wa.setCell ⟨hb, 0, none⟩ (.int .i32 1)).cell? ⟨w.heap.size, 1, none⟩ = some (.int .i64 tag) := by simp [World.cell?, T1]
  have g2 : (wa.setCell ⟨hb, 0, none⟩ (.int .i32 1)).cell? ⟨w.heap.size, 2, none⟩ = some (.int .i64 kids.length) := by simp [World.cell?, T1]
  have HGB : Hid (Bw ≤ g ∧ g < B) := hgB
  have hgw : g < w.heap.size := (Array.getElem?_eq_some_iff.1 hWB.blk).1
  have W1 : Hid (WB g c W R (wa.setCell ⟨hb, 0, none⟩ (.int .i32 1))) := (hWB.on hBB).same (Below.heap_setCell _ _ _ _ (by have := HGB.out; have := LO.out; show g ≠ hb; omega))
  have HSZ : Hid _ := h.siz
  have hWl : W.length ≤ 6000 ∧ next + 1 + kids.length ≤ W.length := by have := h.siz; omega
  have HRM : Hid (next + 1 + kids.length ≤ base + half ∧ base ≤ next) := by have := h.siz; show _ ∧ _; omega
  have hok := q1
  unfold okHdr at hok
  simp only [Bool.and_eq_true, decide_eq_true_eq] at hok
  have hk20 : kids.length ≤ 20 := by omega
  have ht : 0 ≤ tag ∧ tag ≤ 3000 := ⟨hok.1.1, hok.1.2⟩
  obtain ⟨hd0, hhd⟩ : ∃ z, z = headW fn tag kids.length := ⟨_, rfl⟩
  have HHD : Hid (hd0 = headW fn tag kids.length) := hhd
  have hhr : InR hd0 := by rw [hhd]; unfold headW InR; split <;> omega
  have HHR : Hid (InR hd0) := hhr
  have hcw : ∀ X : World, Calls Try.prog 55 #[.agg #[.bool fn, .int .i64 tag, .int .i64 kids.length]] X fun e w' => e = .returned (.int .i64 hd0) ∧ Below X.heap.size X w' := fun X => by rw [hhd]; exact hdrWord_is fn tag kids.length X ht.1 ht.2 (by omega) (by omega)
  have t2 : decide ((base : Int) + half - next < 1 + (kids.length : Int)) = false := decide_eq_false q2
  clear h hw0 hB0 hBB T0 hnz0 hk hS hl hne T1 hWB hhd hok hhr hgB
  go_enter_defers Try.func34, Try.ntmps34
  go_wp2_with (go_at_call 45; refine (Go.MuLone.lock_free lock.muLib ⟨hb, 0, none⟩ _ c0 z0).mono ?_; rintro e w' ⟨rfl, rfl⟩)
  clear hwa c0 z0
  go_wp2_with fail
  refine (okb_is q1 _).mono ?_
  rintro e w2 ⟨rfl, hB⟩
  have H2 : Hid (HH B hb hm (.slice (some ⟨g, 0, none⟩) W.length c) W half base next 1 M w2) := H1.out.on hB
  have B2 : Hid (Below B w w2) := B1.out.trans (hB.mono (by have := HNE.out; omega))
  replace g0 : w2.cell? ⟨w.heap.size, 0, none⟩ = some (.bool fn) := (hB.cell (p := ⟨w.heap.size, 0, none⟩) hnz).trans g0
  replace g1 : w2.cell? ⟨w.heap.size, 1, none⟩ = some (.int .i64 tag) := (hB.cell (p := ⟨w.heap.size, 1, none⟩) hnz).trans g1
  replace g2 : w2.cell? ⟨w.heap.size, 2, none⟩ = some (.int .i64 kids.length) := (hB.cell (p := ⟨w.heap.size, 2, none⟩) hnz).trans g2
  have hnz2 : w.heap.size < w2.heap.size := Nat.lt_of_lt_of_le hnz hB.size
  have W2 : Hid (WB g c W R w2) := W1.out.on hB
  clear hB
  go_wp2_with fail
  refine (hdrSize_is _ _ _ _ (by omega) (by omega)).mono ?_
  rintro e w3 ⟨rfl, hB⟩
  have H3 : Hid (HH B hb hm (.slice (some ⟨g, 0, none⟩) W.length c) W half base next 1 M w3) := H2.out.on hB
  have B3 : Hid (Below B w w3) := B2.out.trans (hB.mono (by have := HNE.out; omega))
  replace g0 : w3.cell? ⟨w.heap.size, 0, none⟩ = some (.bool fn) := (hB.cell (p := ⟨w.heap.size, 0, none⟩) hnz2).trans g0
  replace g1 : w3.cell? ⟨w.heap.size, 1, none⟩ = some (.int .i64 tag) := (hB.cell (p := ⟨w.heap.size, 1, none⟩) hnz2).trans g1
  replace g2 : w3.cell? ⟨w.heap.size, 2, none⟩ = some (.int .i64 kids.length) := (hB.cell (p := ⟨w.heap.size, 2, none⟩) hnz2).trans g2
  have hnz3 : w.heap.size < w3.heap.size := Nat.lt_of_lt_of_le hnz2 hB.size
  have W3 : Hid (WB g c W R w3) := W2.out.on hB
  have hlf := left_is H3.out
  clear hB
  go_wp2_with fail
  refine hlf.mono ?_
  rintro e w4' ⟨rfl, n4, rfl⟩
  have H4 : Hid (HH B hb hm (.slice (some ⟨g, 0, none⟩) W.length c) W half base next 1 M (w3.drewN n4)) := H3.out.drewN n4
  have B4 : Hid (Below B w (w3.drewN n4)) := drewN_bel B3.out n4
  clear hlf
  have hmk := mayKeep_is H4.out ak ck kids S (HKR.out _ fun b hb' => B4.out.block b (by have := HGB.out; omega))
  rw [q3] at hmk
  go_wp2_with fail
  refine hmk.mono ?_
  rintro e w5' ⟨rfl, n5, rfl⟩
  have H5 : Hid (HH B hb hm (.slice (some ⟨g, 0, none⟩) W.length c) W half base next 1 M (w3.drewN (n4 + n5))) := H3.out.drewN (n4 + n5)
  have B5 : Hid (Below B w (w3.drewN (n4 + n5))) := drewN_bel B3.out (n4 + n5)
  clear hmk
  have W5 : Hid (WB g c W R (w3.drewN (n4 + n5))) := W3.out.same rfl
  obtain ⟨w5, hw5⟩ : ∃ w5, w5 = w3.drewN (n4 + n5) := ⟨_, rfl⟩
  rw [← World.drewN_drewN] at hw5
  rw [← hw5]
  rw [World.drewN_drewN] at hw5
  rw [← hw5] at H5 B5 W5
  replace g0 : w5.cell? ⟨w.heap.size, 0, none⟩ = some (.bool fn) := by rw [hw5]; exact g0
  replace g1 : w5.cell? ⟨w.heap.size, 1, none⟩ = some (.int .i64 tag) := by rw [hw5]; exact g1
  replace g2 : w5.cell? ⟨w.heap.size, 2, none⟩ = some (.int .i64 kids.length) := by rw [hw5]; exact g2
  have hnz5 : w.heap.size < w5.heap.size := by rw [hw5]; exact hnz3
  clear hw5 H4 B4 H3 B3 W3 H2 B2 W2 H1 B1 W1 hnz3 hnz2 hnz q1 q3 q2
  have c3 := H5.out.c3
  have c5 := H5.out.c5
  have xg : w5.cell? ⟨g, next, none⟩ = some (.int .i64 (W[next]'(by omega))) := by
    have := W5.out.blk
    simp [World.cell?, this, List.getElem?_append_left, show next < W.length by omega]
  have xf : ∀ j, w5.frozen? ⟨g, j, none⟩ = false := fun j => by simp [World.frozen?, W5.out.blk]
  have i0 : (0 : Int) ≤ (next : Int) := by omega
  have i1 : (next : Int) < (W.length : Int) := by omega
  have hbz : hb < w5.heap.size := H5.out.lt.1
  have hgz : g < w5.heap.size := by omega
  have hgb : ¬ g = hb := by have := HGB.out; have := LO.out; omega
  have hgn : ¬ g = w.heap.size := by omega
  have c3n : w5.drew.cell? ⟨hb, 3, none⟩ = some (.slice (some ⟨g, 0, none⟩) W.length c) := c3
  have g0n : w5.drew.cell? ⟨w.heap.size, 0, none⟩ = some (.bool fn) := g0
  have g1n : w5.drew.cell? ⟨w.heap.size, 1, none⟩ = some (.int .i64 tag) := g1
  have g2n : w5.drew.cell? ⟨w.heap.size, 2, none⟩ = some (.int .i64 kids.length) := g2
  go_wp2
  go_region_held3 (fun X => X.cell? ⟨hb, 3, none⟩ = some (.slice (some ⟨g, 0, none⟩) W.length c) ∧ X.cell? ⟨w.heap.size, 0, none⟩ = some (.bool fn) ∧ X.cell? ⟨w.heap.size, 1, none⟩ = some (.int .i64 tag) ∧ X.cell? ⟨w.heap.size, 2, none⟩ = some (.int .i64 kids.length))
    (exact ⟨(by first | with_reducible exact c3 | with_reducible exact c3n | exact cell_set1 _ c3 hgb), (by first | with_reducible exact g0 | with_reducible exact g0n | exact cell_set1 _ g0 hgn), (by first | with_reducible exact g1 | with_reducible exact g1n | exact cell_set1 _ g1 hgn), (by first | with_reducible exact g2 | with_reducible exact g2n | exact cell_set1 _ g2 hgn)⟩)
    (first
      | (go_at_call 55; refine (hcw _).mono ?_; rintro e w6 ⟨rfl, hB⟩
         have H6 : Hid (HH B hb hm (.slice (some ⟨g, 0, none⟩) W.length c) W half base next 1 M w6) := (H5.out.same rfl : HH B hb hm (.slice (some ⟨g, 0, none⟩) W.length c) W half base next 1 M w5.drew).on hB
         have B6 : Hid (Below B w w6) := B5.out.drew.trans (hB.mono (by show B ≤ w5.heap.size; have := HNE.out; omega))
         have W6 : Hid (WB g c W R w6) := (W5.out.same rfl : WB g c W R w5.drew).on hB
         replace c3 : w6.cell? ⟨hb, 3, none⟩ = some (.slice (some ⟨g, 0, none⟩) W.length c) := H6.out.c3
         replace g0 : w6.cell? ⟨w.heap.size, 0, none⟩ = some (.bool fn) := (hB.cell (p := ⟨w.heap.size, 0, none⟩) (show w.heap.size < w5.drew.heap.size from hnz5)).trans g0n
         replace g1 : w6.cell? ⟨w.heap.size, 1, none⟩ = some (.int .i64 tag) := (hB.cell (p := ⟨w.heap.size, 1, none⟩) (show w.heap.size < w5.drew.heap.size from hnz5)).trans g1n
         replace g2 : w6.cell? ⟨w.heap.size, 2, none⟩ = some (.int .i64 kids.length) := (hB.cell (p := ⟨w.heap.size, 2, none⟩) (show w.heap.size < w5.drew.heap.size from hnz5)).trans g2n
         have xg6 : w6.cell? ⟨g, next, none⟩ = some (.int .i64 (W[next]'(by omega))) := (hB.cell (p := ⟨g, next, none⟩) (show g < w5.drew.heap.size from hgz)).trans xg
         have xf6 : ∀ j, w6.frozen? ⟨g, j, none⟩ = false := fun j => by simp [World.frozen?, W6.out.blk]
         have hnz6 : w.heap.size < w6.heap.size := Nat.lt_of_lt_of_le hnz5 hB.size
         clear hB))
  have hgm : ¬ g = hm := by have := HGB.out; have := LO.out; omega
  obtain ⟨X, hX⟩ : ∃ X, X = W.set next hd0 := ⟨_, rfl⟩
  have HX : Hid (X = W.set next hd0 ∧ X.length = W.length) := ⟨hX, by rw [hX, List.length_set]⟩
  have W7 : Hid (WB g c X R (w6.setCell ⟨g, next, none⟩ (.int .i64 hd0))) := by rw [hX]; exact W6.out.set (by omega) HHR.out
  have H7 : Hid (HH B hb hm (.slice (some ⟨g, 0, none⟩) W.length c) X half base next 1 M (w6.setCell ⟨g, next, none⟩ (.int .i64 hd0))) := H6.out.words (Below.heap_setCell _ _ _ _ (by show hb ≠ g; omega)) (Below.heap_setCell _ _ _ _ (by show hm ≠ g; omega)) HX.out.2 (by have := W7.out.rep (S := (· < B)) HGB.out.2; rw [HX.out.2] at this; exact this)
  have B7 : Hid (Below Bw w (w6.setCell ⟨g, next, none⟩ (.int .i64 hd0))) := (B6.out.mono (by have := HGB.out; omega)).setCell (by exact HGB.out.1) _
  replace g0 := cell_set1 (r := g) (i := next) (.int .i64 hd0) g0 hgn
  replace g1 := cell_set1 (r := g) (i := next) (.int .i64 hd0) g1 hgn
  replace g2 := cell_set1 (r := g) (i := next) (.int .i64 hd0) g2 hgn
  have hnz7 : w.heap.size < (w6.setCell ⟨g, next, none⟩ (.int .i64 hd0)).heap.size := by simpa [World.setCell] using hnz6
  clear c3 c3n c5 xg xf xg6 xf6 g0n g1n g2n H5 B5 W5 H6 B6 W6 hbz hgz hnz5 hnz6 hX hcw
  generalize w6.setCell ⟨g, next, none⟩ (.int .i64 hd0) = w7 at *
  have c3 := H7.out.c3
  have hsrc : 0 < kids.length → ∃ ad, ak = some ad ∧ ∀ j v, (kids.map (Value.int .i64))[j]? = some v → w7.cell? (ad.add j) = some v := fun h0 => by
    obtain ⟨a', cap', e, -, -, hat⟩ := ints_open (HKR.out w7 B7.out.block)
    cases e
    obtain ⟨b, o, rfl, -, -, -, -⟩ := hat 0 h0
    refine ⟨_, rfl, fun j v hj => ?_⟩
    rw [List.getElem?_map] at hj
    obtain ⟨y, hy, rfl⟩ := Option.map_eq_some_iff.1 hj
    obtain ⟨hq, rfl⟩ := List.getElem?_eq_some_iff.1 hy
    obtain ⟨b', o', e, -, hc, -, -⟩ := hat j hq
    cases e
    rw [add_plain]; exact hc
  have HSRC : Hid _ := hsrc
  have HKI : Hid (∀ x ∈ kids, InR x) := fun x hx => by
    obtain ⟨a', cap', e, -, -, hat⟩ := ints_open (HKR.out w7 B7.out.block)
    obtain ⟨j, hj, rfl⟩ := List.getElem_of_mem hx
    obtain ⟨b, o, -, -, -, q1, q2⟩ := hat j hj
    exact ⟨q1, q2⟩
  have HCAP : Hid (W.length ≤ c) := by have := W7.out.siz; have := HX.out.2; show _ ≤ _; omega
  have i2 : (0 : Int) ≤ (next : Int) + 1 := by omega
  have i3 : (next : Int) + 1 ≤ (W.length : Int) := by omega
  have i4 : (W.length : Int) ≤ (c : Int) := by have := HCAP.out; omega
  clear hsrc
  rcases Nat.decEq c (next + 1) with hcn | hcn
  all_goals
   go_wp2_with (first
    | (refine copy_exact rfl (.tmp 50) (.tmp 51) 22 22 rfl 3 Try.underlying22 sizeP_int _ _ _ _ _ _ (by rfl) (by rfl) g (next + 1) (X.map (Value.int .i64) ++ R) 3 W7.out.blk (kids.map (Value.int .i64)) (by rw [List.length_map]; exact (Nat.min_eq_left (by omega)).symm) (fun h0 => by rw [List.length_map] at h0; have := HCAP.out; first | exact ⟨rfl, HSRC.out h0⟩ | (exfalso; omega)) (by have := HX.out.2; simp; omega) (fun v hv => by obtain ⟨y, _, rfl⟩ := List.mem_map.1 hv; rfl) ?_; intro w8 HB8 HO8 HE8))
   clear hcn
   have HPX : Hid (putW W next (headW fn tag kids.length :: kids) = putW X (next + 1) kids ∧ (putW X (next + 1) kids).length = W.length) := ⟨by rw [HX.out.1, HHD.out]; rfl, by rw [putW_length]; exact HX.out.2⟩
   have W8 : Hid (WB g c (putW X (next + 1) kids) R w8) := W7.out.splice (by have := HX.out.2; omega) HKI.out HB8.out
   have H8 : Hid (HH B hb hm (.slice (some ⟨g, 0, none⟩) W.length c) (putW X (next + 1) kids) half base next 1 M w8) := H7.out.words (HO8.out hb (by omega)) (HO8.out hm (by omega)) (by rw [HPX.out.2, HX.out.2]) (by have := W8.out.rep (S := (· < B)) HGB.out.2; rw [HPX.out.2] at this; exact this)
   have B8 : Hid (Below Bw w w8) := B7.out.trans (HE8.out.mono HGB.out.1)
   have ghold : ∀ j, w8.cell? ⟨w.heap.size, j, none⟩ = w7.cell? ⟨w.heap.size, j, none⟩ := fun j => by have := HO8.out w.heap.size (by omega); simp only [World.cell?, this]
   replace g0 := (ghold 0).trans g0
   replace g1 := (ghold 1).trans g1
   replace g2 := (ghold 2).trans g2
   have hnz8 : w.heap.size < w8.heap.size := Nat.lt_of_lt_of_le hnz7 HE8.out.size
   obtain ⟨jn, hjn⟩ : ∃ jn, next = base + jn := ⟨next - base, by have := HRM.out; omega⟩
   have HJN : Hid (next = base + jn) := hjn
   have hj : jn < half := by have := HRM.out; omega
   have hji : (next : Int) - (base : Int) = (jn : Int) := by omega
   have hji2 : (jn : Int) < (half : Int) := by omega
   have hwr : IntKind.i64.wrap ((next : Int) - (base : Int)) = (jn : Int) := by rw [IntKind.wrap_i64]; omega
   have hji0 : (0 : Int) ≤ (jn : Int) := by omega
   have hwj : IntKind.i64.wrap (jn : Int) = (jn : Int) := by rw [IntKind.wrap_i64]; omega
   clear hjn
   have c6 := H8.out.c6
   have c6n : ∀ n, (w8.drew.drewN n).cell? ⟨hb, 6, none⟩ = some (.slice (some ⟨hm, 0, none⟩) half half) := fun n => H8.out.c6
   have c6d : w8.drew.cell? ⟨hb, 6, none⟩ = some (.slice (some ⟨hm, 0, none⟩) half half) := H8.out.c6
   have cm : ∀ n, (w8.drew.drewN n).cell? ⟨hm, jn, none⟩ = some (.bool (M.getD (jn) false)) := fun n => H8.out.mk_ (jn) hj
   have fm : ∀ n j, (w8.drew.drewN n).frozen? ⟨hm, j, none⟩ = false := fun n j => H8.out.mfrz j
   have cm8 : w8.cell? ⟨hm, jn, none⟩ = some (.bool (M.getD jn false)) := H8.out.mk_ jn hj
   have fm8 : ∀ j, w8.frozen? ⟨hm, j, none⟩ = false := fun j => H8.out.mfrz j
   have hbm : ¬ hm = hb := by have := LO.out; omega
   have hnm : ¬ hm = w.heap.size := by have := HNE.out; omega
   have hcb := base_is (w := w8.drew) (H8.out.same rfl)
   clear ghold c3 HB8 HO8 W7 H7 B7 hnz7
   go_region_held3 (fun X => X.cell? ⟨hb, 6, none⟩ = some (.slice (some ⟨hm, 0, none⟩) half half))
     (first | with_reducible exact c6 | with_reducible exact c6d | with_reducible exact c6n _ | exact H8.out.c6 | exact cell_set1 _ (show (w8.drewN _).cell? _ = _ from H8.out.c6) hbm)
     (first
       | (go_at_call 56; refine hcb.mono ?_; rintro e w9 ⟨rfl, n9, rfl⟩))
   have H9 : Hid (HH B hb hm (.slice (some ⟨g, 0, none⟩) W.length c) (putW X (next + 1) kids) half base next 1 (M.set (jn) true) ((w8.drewN (1 + n9)).setCell ⟨hm, jn, none⟩ (.bool true))) := (H8.out.same rfl : HH B hb hm (.slice (some ⟨g, 0, none⟩) W.length c) (putW X (next + 1) kids) half base next 1 M (w8.drewN (1 + n9))).mark _
   have W9 : Hid (WB g c (putW X (next + 1) kids) R ((w8.drewN (1 + n9)).setCell ⟨hm, jn, none⟩ (.bool true))) := (W8.out.same rfl : WB g c (putW X (next + 1) kids) R (w8.drewN (1 + n9))).same (Below.heap_setCell _ _ _ _ (by show g ≠ hm; omega))
   have B9 : Hid (Below Bw w ((w8.drewN (1 + n9)).setCell ⟨hm, jn, none⟩ (.bool true))) := (drewN_bel B8.out (1 + n9)).setCell (by have := HGB.out; have := LO.out; show Bw ≤ hm; omega) _
   have d0 : ((w8.drewN (1 + n9)).setCell ⟨hm, jn, none⟩ (.bool true)).cell? ⟨w.heap.size, 0, none⟩ = some (.bool fn) := cell_set1 (w := w8.drewN (1 + n9)) _ g0 hnm
   have d1 : ((w8.drewN (1 + n9)).setCell ⟨hm, jn, none⟩ (.bool true)).cell? ⟨w.heap.size, 1, none⟩ = some (.int .i64 tag) := cell_set1 (w := w8.drewN (1 + n9)) _ g1 hnm
   have d2 : ((w8.drewN (1 + n9)).setCell ⟨hm, jn, none⟩ (.bool true)).cell? ⟨w.heap.size, 2, none⟩ = some (.int .i64 kids.length) := cell_set1 (w := w8.drewN (1 + n9)) _ g2 hnm
   have hnz9 : w.heap.size < ((w8.drewN (1 + n9)).setCell ⟨hm, jn, none⟩ (.bool true)).heap.size := by simpa [World.setCell] using hnz8
   clear c6 c6n c6d cm fm cm8 fm8 g0 g1 g2 hcb hji hji2 hji0 hwr hwj
   generalize (w8.drewN (1 + n9)).setCell ⟨hm, jn, none⟩ (.bool true) = wA at *
   have hbzA : hb < wA.heap.size := H9.out.lt.1
   have c5 := H9.out.c5
   have c5n : wA.drew.cell? ⟨hb, 5, none⟩ = some (.int .i64 next) := H9.out.c5
   have d0n : wA.drew.cell? ⟨w.heap.size, 0, none⟩ = some (.bool fn) := d0
   have d1n : wA.drew.cell? ⟨w.heap.size, 1, none⟩ = some (.int .i64 tag) := d1
   have d2n : wA.drew.cell? ⟨w.heap.size, 2, none⟩ = some (.int .i64 kids.length) := d2
   have hwn : IntKind.i64.wrap ((next : Int) + (1 + (kids.length : Int))) = (next : Int) + (1 + (kids.length : Int)) := by rw [IntKind.wrap_i64]; omega
   have hbn2 : ¬ hb = w.heap.size := by have := HNE.out; omega
   have hn6 : next ≤ 6000 := by omega
   go_wp2
   refine wp_region_noPanic ?_
   go_region_with
     (first
       | (go_at_call 52; refine (hdrSize_is _ _ _ _ (by omega) (by omega)).mono ?_; rintro e wC ⟨rfl, hB⟩
          have HC : Hid (HH B hb hm (.slice (some ⟨g, 0, none⟩) W.length c) (putW X (next + 1) kids) half base next 1 (M.set jn true) wC) := (H9.out.same rfl : HH B hb hm (.slice (some ⟨g, 0, none⟩) W.length c) (putW X (next + 1) kids) half base next 1 (M.set jn true) wA.drew).on hB
          have WC : Hid (WB g c (putW X (next + 1) kids) R wC) := (W9.out.same rfl : WB g c (putW X (next + 1) kids) R wA.drew).on hB
          have BC : Hid (Below Bw w wC) := B9.out.drew.trans (hB.mono (by show Bw ≤ wA.heap.size; have := HNE.out; have := HGB.out; omega))
          replace c5 : wC.cell? ⟨hb, 5, none⟩ = some (.int .i64 next) := HC.out.c5
          have cf5 : ∀ j, wC.frozen? ⟨hb, j, none⟩ = false := fun j => HC.out.frz j
          replace d0 : wC.cell? ⟨w.heap.size, 0, none⟩ = some (.bool fn) := (hB.cell (p := ⟨w.heap.size, 0, none⟩) (show w.heap.size < wA.drew.heap.size from hnz9)).trans d0n
          replace d1 : wC.cell? ⟨w.heap.size, 1, none⟩ = some (.int .i64 tag) := (hB.cell (p := ⟨w.heap.size, 1, none⟩) (show w.heap.size < wA.drew.heap.size from hnz9)).trans d1n
          replace d2 : wC.cell? ⟨w.heap.size, 2, none⟩ = some (.int .i64 kids.length) := (hB.cell (p := ⟨w.heap.size, 2, none⟩) (show w.heap.size < wA.drew.heap.size from hnz9)).trans d2n
          clear hB))
   all_goals
    refine NoPanic.normal ?_
    have hv : (next : Int) + (1 + (kids.length : Int)) = ((next + 1 + kids.length : Nat) : Int) := by omega
    rw [hv]
    have HD := HC.out.nextw (next + 1 + kids.length) (by have := HRM.out; omega)
    have WD : WB g c (putW X (next + 1) kids) R (wC.setCell ⟨hb, 5, none⟩ (.int .i64 ((next + 1 + kids.length : Nat) : Int))) := WC.out.same (Below.heap_setCell _ _ _ _ (by show g ≠ hb; exact hgb))
    have BD : Below Bw w (wC.setCell ⟨hb, 5, none⟩ (.int .i64 ((next + 1 + kids.length : Nat) : Int))) := BC.out.setCell (by have := HGB.out; have := LO.out; show Bw ≤ hb; omega) _
    generalize wC.setCell ⟨hb, 5, none⟩ (.int .i64 ((next + 1 + kids.length : Nat) : Int)) = wE at *
    clear c5 c5n d0 d1 d2 d0n d1n d2n cf5 hv
    have HE : Hid _ := HD
    have WE : Hid _ := WD
    have BE : Hid _ := BD
    clear HD WD BD
    go_wp2
    refine leaves_cons (f := 46) (args := #[.pointer (some ⟨hb, 0, none⟩)]) (by simp) (by simp [go_sem]) ?_
    refine (Go.MuLone.unlock_deferred lock.muLib ⟨hb, 0, none⟩ .returning _ HE.out.c0 (HE.out.frz 0)).mono ?_
    rintro e u' w'' ⟨rfl, rfl, rfl⟩
    refine ⟨.tuple #[.int .i64 next, .bool true], by simp [results, Try.f34, go_sem], rfl, ⟨M.set jn true, ?_⟩, ?_, BE.out.setCell (by have := HGB.out; have := LO.out; show Bw ≤ hb; omega) _⟩
    · rw [HPX.out.1]; exact HE.out.lockw 0
    · rw [HPX.out.1]; exact WE.out.same (Below.heap_setCell _ _ _ _ (by show g ≠ hb; exact hgb))

end Go.Proofs.Ytempmfpnngbbeab.heap
