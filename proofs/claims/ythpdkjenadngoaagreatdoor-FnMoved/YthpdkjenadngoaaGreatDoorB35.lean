/-
  The program tells what can be seen of a heap at work (heldHeap.shape), under its lock.
  The program's Shape, at every heap and all roots; nothing that was there is turned.
  The model's l18Word, at every word and list of places.
-/
import Derived.Deep.QuietTactic
import Derived.BigQuiet
import Derived.Test.YthpdkjenadngoaaGreatDoorB1
import Derived.Test.YthpdkjenadngoaaGreatDoorB2
import Derived.Test.YthpdkjenadngoaaGreatDoorB3
import Derived.Test.YthpdkjenadngoaaGreatDoorB4
import Derived.Test.YthpdkjenadngoaaGreatDoorB5
import Derived.Test.YthpdkjenadngoaaGreatDoorB6
import Derived.Test.YthpdkjenadngoaaGreatDoorB7
import Derived.Test.YthpdkjenadngoaaGreatDoorB8
import Derived.Test.YthpdkjenadngoaaGreatDoorB9
import Derived.Test.YthpdkjenadngoaaGreatDoorB10
import Derived.Test.YthpdkjenadngoaaGreatDoorB11
import Derived.Test.YthpdkjenadngoaaGreatDoorB12
import Derived.Test.YthpdkjenadngoaaGreatDoorB13
import Derived.Test.YthpdkjenadngoaaGreatDoorB14
import Derived.Test.YthpdkjenadngoaaGreatDoorB15
import Derived.Test.YthpdkjenadngoaaGreatDoorB16
import Derived.Test.YthpdkjenadngoaaGreatDoorB17
import Derived.Test.YthpdkjenadngoaaGreatDoorB18
import Derived.Test.YthpdkjenadngoaaGreatDoorB19
import Derived.Test.YthpdkjenadngoaaGreatDoorB20
import Derived.Test.YthpdkjenadngoaaGreatDoorB21
import Derived.Test.YthpdkjenadngoaaGreatDoorB22
import Derived.Test.YthpdkjenadngoaaGreatDoorB23
import Derived.Test.YthpdkjenadngoaaGreatDoorB24
import Derived.Test.YthpdkjenadngoaaGreatDoorB25
import Derived.Test.YthpdkjenadngoaaGreatDoorB26
import Derived.Test.YthpdkjenadngoaaGreatDoorB27
import Derived.Test.YthpdkjenadngoaaGreatDoorB28
import Derived.Test.YthpdkjenadngoaaGreatDoorB29
import Derived.Test.YthpdkjenadngoaaGreatDoorB30
import Derived.Test.YthpdkjenadngoaaGreatDoorB31
import Derived.Test.YthpdkjenadngoaaGreatDoorB32
import Derived.Test.YthpdkjenadngoaaGreatDoorB33
import Derived.Test.YthpdkjenadngoaaGreatDoorB34
namespace Go.Proofs.YthpdkjenadngoaaGreatDoor.heap
open Go Go.RowKit Go.Deep Go.Proofs.YthpdkjenadngoaaGreatDoor.rose Go.Proofs.YthpdkjenadngoaaGreatDoor Go.Proofs.YthpdkjenadngoaaGreatDoor.fun Go.Proofs.YthpdkjenadngoaaGreatDoor.words Go.Proofs.YthpdkjenadngoaaGreatDoor.ints
set_option linter.unusedVariables false
set_option linter.unusedSimpArgs false

theorem Piece.up {w : World} {B B' : Nat} {a : Option Addr} {xs : List Int} (h : Piece w B a xs) (hb : B ≤ B') : Piece w B' a xs := fun j hj => by
  obtain ⟨b, o, h1, h2, h3, h4⟩ := h j hj
  exact ⟨b, o, h1, by omega, h3, h4⟩
theorem frzS {w : World} {g j : Nat} {cs : Array Value} {t : TypeId} (h : w.heap[g]? = some (.cells cs t)) : w.frozen? ⟨g, j, none⟩ = false := by simp [World.frozen?, h]
theorem HH.low {B hb hm : Nat} {wv : Value} {W : List Int} {half base next : Nat} {lk : Int} {M : List Bool} {w w' : World} (h : HH B hb hm wv W half base next lk M w) {b : Nat} (hB : Below b w w') (h1 : hb < b) (h2 : hm < b) (h3 : B ≤ b) : HH B hb hm wv W half base next lk M w' :=
  ⟨h.lo, (hB.block hb h1).trans h.blk, (hB.block hm h2).trans h.mks, h.len, intsSh.on h.wds fun k hk => hB.block k (by omega), h.siz⟩
/-- A block's head is one. -/
theorem plF_head_ok {W : List Int} {nx : Nat} : ∀ {p : Nat}, ∀ x ∈ (plF W nx p).1, ∃ q : Nat, x = q ∧ badH (W.getD q 0) ((nx : Int) - q) = false := by
  intro p
  induction hd : nx - p using Nat.strongRecOn generalizing p with
  | _ d ih =>
    intro x hx
    by_cases hp : p < nx
    · rcases hb : badH (W.getD p 0) ((nx : Int) - p) with _ | _
      · rw [plF_more hp hb] at hx
        rcases List.mem_cons.1 hx with rfl | hx
        · exact ⟨p, rfl, hb⟩
        · exact ih (nx - (p + 1 + (manyF (W.getD p 0)).toNat)) (by omega) rfl x hx
      · rw [plF_bad hp hb] at hx; cases hx
    · rw [plF_end (by omega)] at hx; cases hx
theorem tag_sameS {x : Int} (h : 0 ≤ x) : tagF x = tagS x := by unfold tagF tagS; rw [Int.tdiv_eq_ediv_of_nonneg (by omega)]
/-- What is known of an order's blocks. -/
theorem order_kids {T : HeapD} {rs : List Int} (hW : ∀ y ∈ T.1, InR y) (h : rightB T rs = true) : (∀ y ∈ rs, y % 2 = 0 → y / 2 ∈ orderF T rs) ∧ ∀ i (hi : i < (orderF T rs).length), ∀ y ∈ kidsL T.1 ((orderF T rs)[i]).toNat, y % 2 = 0 → y / 2 ∈ orderF T rs := by
  obtain ⟨c1, c2, -, c4⟩ := end_is hW h
  refine ⟨fun y hy he => (c4 y hy).resolve_left (by omega), fun i hi y hy he => ?_⟩
  obtain ⟨k, hk, rfl⟩ := List.getElem_of_mem hy
  have hkl := hk
  rw [kidsL_len] at hkl
  rw [kidsL_get] at he ⊢
  have hd := c1.done
  simp only [c2] at hd
  have := (hd i hi (k + 1) (by unfold szP; omega) (.inl hi)).2 (by omega)
  have e : T.1.getD (((orderF T rs)[i]).toNat + (k + 1)) 0 = kidAt T.1 ((orderF T rs)[i]).toNat k := by unfold kidAt; congr 1; omega
  rw [e] at this
  exact this.resolve_left (by omega)
theorem blockTx_is {W O : List Int} {s : ByteArray} {p : Int} {f : Bool} {tag : Int} {ks : List Int} (hf : funF (W.getD p.toNat 0) = f) (ht : tagF (W.getD p.toNat 0) = tag) (hk : kidsL W p.toNat = ks) : blockTx W O s p = wordsTx O (s ++ headTx f tag) ks ++ ⟨#[10]⟩ := by
  unfold blockTx headTx
  rw [hf, ht, hk]
  simp only [ByteArray.append_assoc]

theorem headTx_le (f : Bool) (tag : Int) (h0 : -9223372036854775808 ≤ tag) (h1 : tag ≤ 9223372036854775807) : (headTx f tag).size ≤ 25 := by
  unfold headTx
  have := dg_le tag h0 h1
  have e : (⟨#[32]⟩ : ByteArray).size = 1 := rfl
  have e1 : (⟨#[102, 117, 110]⟩ : ByteArray).size = 3 := rfl
  have e2 : (⟨#[99, 111, 110]⟩ : ByteArray).size = 3 := rfl
  cases f
  · simp only [Bool.false_eq_true, if_false, size_app]; omega
  · simp only [if_true, size_app]; omega
theorem blocks_step {W O : List Int} {s : ByteArray} {k : Nat} (h : k < O.length) : (O.take (k + 1)).foldl (blockTx W O) s = blockTx W O ((O.take k).foldl (blockTx W O) s) O[k] := by
  rw [List.take_succ_eq_append_getElem h, List.foldl_append]; rfl
set_option maxRecDepth 100000 in
set_option maxHeartbeats 16000000 in
theorem shape_is {B B2 hb hm nb : Nat} {wv v : Value} {W : List Int} {half base next : Nat} {M : List Bool} {w : World} (rs O : List Int) (h : HH B hb hm wv W half base next 0 M w) (hN : Met B2 nb v base half O w) (hB2 : hb < B2 ∧ hm < B2) (hW : ∀ y ∈ W, InR y) (hR : rightB (W, (half : Int), (base : Int), (next : Int)) rs = true) (hO : O = orderF (W, (half : Int), (base : Int), (next : Int)) rs) (a : Option Addr) (c : Nat) (hl : rs.length ≤ 1048576) (hp : Piece w B a rs) (ht : ∀ X, Below B w X → Tab X) :
    Calls Tryz.prog 32 #[.pointer (some ⟨hb, 0, none⟩), .agg #[.int .i64 base, v, .slice (some ⟨nb, 0, none⟩) half half], .slice a rs.length c] w fun e w' => e = .returned (.string (shapeF (W, (half : Int), (base : Int), (next : Int)) rs)) ∧ Below B w w' := by
  obtain ⟨av, cv, hvv⟩ := own_form hN.plc.1
  subst hvv
  have hlt := h.lt
  have hlo := h.lo
  have LIM : Hid (hb < w.heap.size ∧ hm < w.heap.size ∧ B ≤ w.heap.size ∧ B ≤ hb ∧ nb < w.heap.size) := ⟨hlt.1, hlt.2, by omega, hlo.1, hN.lt⟩
  have HSZ : Hid _ := h.siz
  obtain ⟨hk1, hk2⟩ := order_kids hW hR
  rw [← hO] at hk1 hk2
  have HK1 : Hid _ := hk1
  have HK2 : Hid (∀ i (hi : i < O.length), ∀ y ∈ kidsL W (O[i]).toNat, y % 2 = 0 → y / 2 ∈ O) := hk2
  have HSUB : Hid (∀ x ∈ O, x ∈ (plF W next base).1) := fun x hx => by
    rw [hO] at hx
    have := (order_inv hR).sub x hx
    have e : plT (W, (half : Int), (base : Int), (next : Int)) = plF W next base := by unfold plT; simp
    rwa [e] at this
  have HPI : Hid (∀ x ∈ O, ∃ z : Nat, x = z ∧ z + (manyF (W.getD z 0)).toNat < W.length) := fun x hx => by
    rw [hO] at hx
    exact place_in (right_is hR).1 ((order_inv hR).sub x hx)
  have HSH : Hid (shapeF (W, (half : Int), (base : Int), (next : Int)) rs = O.foldl (blockTx W O) (wordsTx O ⟨#[]⟩ rs ++ ⟨#[10]⟩)) := by
    show _ = _; unfold shapeF; rw [if_pos hR, ← hO]
  have P0 : Hid (Piece w B a rs) := hp
  have HRR : Hid (∀ x ∈ rs, InR x) := fun x hx => by
    obtain ⟨j, hj, rfl⟩ := List.getElem_of_mem hx
    obtain ⟨_, _, _, _, _, hr⟩ := hp j hj
    exact hr
  have HWR : Hid (∀ y ∈ W, InR y) := hW
  -- the box, the lock
  have T0 := alloc_top w (.cells #[.int .i64 base, .slice av O.length cv, .slice (some ⟨nb, 0, none⟩) half half] 45)
  have K0 : Below w.heap.size w (w.alloc (.cells #[.int .i64 base, .slice av O.length cv, .slice (some ⟨nb, 0, none⟩) half half] 45)) := (Below.refl _ _).alloc (Nat.le_refl _) _
  have hw0 := h.on K0
  have hN0 := hN.on K0
  have Z0 : (w.alloc (.cells #[.int .i64 base, .slice av O.length cv, .slice (some ⟨nb, 0, none⟩) half half] 45)).heap.size = w.heap.size + 1 := by simp
  generalize hwa : w.alloc (.cells #[.int .i64 base, .slice av O.length cv, .slice (some ⟨nb, 0, none⟩) half half] 45) = wa at *
  have c0 := hw0.c0
  have z0 := hw0.frz 0
  obtain ⟨wl, hwl⟩ : ∃ wl, wl = wa.setCell ⟨hb, 0, none⟩ (.int .i32 1) := ⟨_, rfl⟩
  have HL1 : HH B hb hm wv W half base next 1 M wl := by rw [hwl]; exact hw0.lockw 1
  have HNl : Met B2 nb (.slice av O.length cv) base half O wl := by rw [hwl]; exact hN0.other (Below.heap_setCell _ _ _ _ (by have := hN0.lo; show nb ≠ hb; omega)) fun q hq => Below.heap_setCell _ _ _ _ (by have := (hN0.plc.lt q hq).1; show q ≠ hb; omega)
  have Tl : wl.heap[w.heap.size]? = some (.cells #[.int .i64 base, .slice av O.length cv, .slice (some ⟨nb, 0, none⟩) half half] 45) := by rw [hwl]; exact (Below.heap_setCell _ _ _ _ (by have := LIM.out; show w.heap.size ≠ hb; omega)).trans T0
  have Bl : Below B w wl := by rw [hwl]; exact (K0.mono LIM.out.2.2.1).setCell hlo.1 _
  have Zl : wl.heap.size = w.heap.size + 1 := by rw [hwl]; show (wa.setCell _ _).heap.size = _; simp [World.setCell, Z0]
  obtain ⟨w1, hw1⟩ : ∃ w1, w1 = wl.alloc (.cells #[.pointer none, .slice none 0 0] 105) := ⟨_, rfl⟩
  obtain ⟨b, hb0⟩ : ∃ b, b = wa.heap.size := ⟨_, rfl⟩
  have hbb : b = w.heap.size + 1 := by omega
  have HBB : Hid (b = wa.heap.size) := hb0
  have A1 : Below wl.heap.size wl w1 := by rw [hw1]; exact (Below.refl _ _).alloc (Nat.le_refl _) _
  have H1 : Hid (HH B hb hm wv W half base next 1 M w1) := HL1.on A1
  have N1 : Hid (Met B2 nb (.slice av O.length cv) base half O w1 ∧ nb < b ∧ ∀ q, (Value.slice av O.length cv).ownBlock = some q → q < b) := ⟨HNl.on A1, by have := HNl.lt; omega, fun q hq => by have := (HNl.plc.lt q hq).2; omega⟩
  have T1 : Hid (w1.heap[w.heap.size]? = some (.cells #[.int .i64 base, .slice av O.length cv, .slice (some ⟨nb, 0, none⟩) half half] 45)) := (A1.block _ (by omega)).trans Tl
  have B1 : Hid (Below B w w1) := Bl.trans (A1.mono (by have := LIM.out; omega))
  have S1 : Hid (Bld b ⟨#[]⟩ w1) := by show Bld _ _ _; rw [hbb, hw1, ← Zl]; exact Bld.new wl
  have HT : Hid (∀ X, Below B w X → Tab X) := ht
  have LB : Hid (b = w.heap.size + 1) := hbb
  have HWL : Hid (wl = wa.setCell ⟨hb, 0, none⟩ (.int .i32 1)) := hwl
  have HW1 : Hid (w1 = wl.alloc (.cells #[.pointer none, .slice none 0 0] 105)) := hw1
  have ZL : Hid (wl.heap.size = b) := by show _ = _; omega
  have WVF : Hid (∃ a0 c0, wv = .slice a0 W.length c0) := by
    obtain ⟨a0, c0, e⟩ := slice_cells HL1.wds
    simp only [List.cons.injEq, and_true] at e
    exact ⟨a0, c0, e⟩
  have hbx : w1.cell? ⟨w.heap.size, 0, none⟩ = some (.int .i64 base) := blk_cellH (i := 0) T1.out rfl
  have hbx1 : w1.cell? ⟨w.heap.size, 1, none⟩ = some (.slice av O.length cv) := blk_cellH (i := 1) T1.out rfl
  have hbx2 : w1.cell? ⟨w.heap.size, 2, none⟩ = some (.slice (some ⟨nb, 0, none⟩) half half) := blk_cellH (i := 2) T1.out rfl
  have hcall := tell_is N1.out.1 b ⟨#[]⟩ S1.out N1.out.2.1 a c rs hl (by decide) ((P0.out.on B1.out).up (by have := LIM.out; omega)) HK1.out (fun X hX => ht X (B1.out.trans (hX.mono (by have := LIM.out; omega))))
  rw [hw1, hwl] at hbx hbx1 hbx2
  rw [hw1, hwl, hb0] at hcall
  clear h hN hW hR hO hp K0 hw0 hN0 hk1 hk2 A1 HL1 HNl Tl Bl T0 hwl hw1 ht hbb hb0 Zl Z0 hlt hlo
  go_enter_defers Tryz.func32, Tryz.ntmps32
  go_wp2_with (go_at_call 43; refine (Go.MuLone.lock_free lock.muLib ⟨hb, 0, none⟩ _ c0 z0).mono ?_; rintro e w' ⟨rfl, rfl⟩)
  refine hcall.mono ?_
  rintro e w2 ⟨rfl, hs2, hb2⟩
  rw [← HBB.out] at hs2 hb2 ⊢
  rw [← HWL.out, ← HW1.out] at hb2
  clear hwa c0 z0 hcall hbx hbx1 hbx2
  have D2 : Hid (Below b w1 w2) := hb2
  have S2 : Hid (Bld b (wordsTx O ⟨#[]⟩ rs ++ ⟨#[10]⟩) w2) := hs2
  have T2 : Hid (w2.heap[w.heap.size]? = some (.cells #[.int .i64 base, .slice av O.length cv, .slice (some ⟨nb, 0, none⟩) half half] 45)) := (hb2.block _ (by have := LB.out; omega)).trans T1.out
  have s0l : (wordsTx O ⟨#[]⟩ rs ++ ⟨#[10]⟩).size ≤ 24200000 := by
    have h1 := wordsTx_le O (by have := N1.out.1.siz; omega) rs ⟨#[]⟩ HRR.out
    have e0 : (⟨#[]⟩ : ByteArray).size = 0 := rfl
    have e1 : (⟨#[10]⟩ : ByteArray).size = 1 := rfl
    rw [size_app]
    omega
  obtain ⟨s0, hs0⟩ : ∃ s0, s0 = wordsTx O ⟨#[]⟩ rs ++ ⟨#[10]⟩ := ⟨_, rfl⟩
  rw [← hs0] at S2 HSH s0l
  have S0L : Hid (s0.size ≤ 24200000) := s0l
  have y1 : w2.cell? ⟨w.heap.size, 1, none⟩ = some (.slice av O.length cv) := blk_cellH (i := 1) T2.out rfl
  clear hs2 hb2 hs0 s0l
  go_wp2
  clear y1
  go_loopw [23] (fun v23 wr => ∃ k : Nat, k ≤ O.length ∧ v23 = .int .i64 k ∧ Hid (Bld b ((O.take k).foldl (blockTx W O) s0) wr) ∧ Hid (((O.take k).foldl (blockTx W O) s0).size ≤ 24200000 + 1500 * k) ∧ Hid (Below b w1 wr)) (fun v23 _ => O.length - (intOf v23).toNat)
  case atStart => exact ⟨0, Nat.zero_le _, rfl, S2, by show _ ≤ _; have := S0L.out; simpa using this, D2⟩
  case round =>
    obtain ⟨k, hk, rfl, HS, HL, HB⟩ := hrel
    by_cases hlt : k < O.length
    · have HBS := blocks_step (W := W) (s := s0) hlt
      obtain ⟨S, hS⟩ : ∃ S, S = (O.take k).foldl (blockTx W O) s0 := ⟨_, rfl⟩
      rw [← hS] at HS HL HBS
      have NB : Hid (Met B2 nb (.slice av O.length cv) base half O wr) := ⟨N1.out.1.lo, ⟨own_same N1.out.1.plc.1 fun q hq => HB.out.block q (N1.out.2.2 q hq), N1.out.1.plc.2⟩, (HB.out.block nb N1.out.2.1).trans N1.out.1.num, N1.out.1.siz, N1.out.1.nod⟩
      have HBH : Hid (HH B hb hm wv W half base next 1 M wr) := H1.out.low HB.out (by have := LB.out; have := LIM.out; omega) (by have := LB.out; have := LIM.out; omega) (by have := LB.out; have := LIM.out; omega)
      obtain ⟨z, hz, hzm⟩ := HPI.out _ (List.getElem_mem hlt)
      obtain ⟨q, hq, hbad⟩ := plF_head_ok _ (HSUB.out _ (List.getElem_mem hlt))
      have hzq : z = q := by omega
      subst hzq
      rcases NB.out.plc.open with ⟨-, h0⟩ | ⟨g, cp, hv, hg1, hg2, -, -, hcl, -⟩
      · rw [h0] at hlt; simp at hlt
      obtain ⟨rfl, rfl⟩ : av = some ⟨g, 0, none⟩ ∧ cv = cp := by simp only [Value.slice.injEq] at hv; exact ⟨hv.1, hv.2.2⟩
      have e0 : wr.cell? ⟨g, k, none⟩ = some (.int .i64 O[k]) := hcl k hlt
      rw [hz] at e0
      obtain ⟨mn, hmn⟩ : ∃ t : Nat, (manyF (W.getD z 0)).toNat = t := ⟨_, rfl⟩
      rw [hmn] at hzm
      have hzl : z < W.length := by omega
      obtain ⟨a0, cc, ew, -, -, hat⟩ := ints_open HBH.out.wds
      subst ew
      obtain ⟨wb, wo, rfl, hwb, hwc, r1, r2⟩ := hat z hzl
      have hgd := getD_atH hzl
      obtain ⟨x, hx⟩ : ∃ x, x = W[z] := ⟨_, rfl⟩
      rw [← hx] at hwc r1 r2 hgd
      rw [hgd] at hmn hbad
      have hm := many_in x
      have hmi : manyF x = (mn : Int) := by omega
      have hx0 : 0 ≤ x := by
        unfold badH at hbad
        simp only [Bool.or_eq_false_iff, decide_eq_false_iff_not] at hbad
        omega
      have hcw : ∀ X : World, Calls Tryz.prog 48 #[.int .i64 x] X fun e w' => e = .returned (.agg #[.bool (funF x), .int .i64 (tagS x), .int .i64 mn]) ∧ Below X.heap.size X w' := fun X => by rw [← hmi]; exact headerOf_is x X r1 r2
      have htr : -9223372036854775808 ≤ tagS x ∧ tagS x ≤ 9223372036854775807 := by unfold tagS; omega
      have hhl := headTx_le (funF x) (tagS x) htr.1 htr.2
      have HNX : Hid ((O.take (k + 1)).foldl (blockTx W O) s0 = wordsTx O (S ++ headTx (funF x) (tagS x)) (kidsL W z) ++ ⟨#[10]⟩) := by
        show _ = _
        rw [HBS, hz]
        exact blockTx_is (by rw [Int.toNat_natCast, hgd]) (by rw [Int.toNat_natCast, hgd]; exact tag_sameS hx0) (by rw [Int.toNat_natCast])
      have HKL : Hid ((kidsL W z).length = mn) := by show _ = _; rw [kidsL_len, hgd, hmn]
      have HMN : Hid ((manyF (W.getD z 0)).toNat = mn) := by show _ = _; rw [hgd, hmn]
      have HKR : Hid (∀ y ∈ kidsL W z, InR y) := fun y hy => by
        obtain ⟨j, hj, rfl⟩ := List.getElem_of_mem hy
        rw [kidsL_get]
        exact getD_inM HWR.out _
      have HK : Hid (∀ y ∈ kidsL W z, y % 2 = 0 → y / 2 ∈ O) := fun y hy => HK2.out k hlt y (by rw [hz, Int.toNat_natCast]; exact hy)
      have hmn63 : mn ≤ 63 := by omega
      have kI : (k : Int) < (O.length : Int) := by omega
      have k0 : (0 : Int) ≤ (k : Int) := by omega
      have zI : (z : Int) < (W.length : Int) := by omega
      have z0 : (0 : Int) ≤ (z : Int) := by omega
      have c3 := HBH.out.c3
      have HZM : Hid (z + mn < W.length) := hzm
      have HHL : Hid ((headTx (funF x) (tagS x)).size ≤ 25) := hhl
      clear hcl hv hg1 hg2 hat hx hgd hmn hbad hmi hx0 HBS hS hq hz hm
      go_wp2_with (go_at_call 48; refine (hcw _).mono ?_; rintro e w3 ⟨rfl, hb3⟩)
      have D3 : Hid (Below b w1 w3 ∧ Bld b S w3) := ⟨HB.out.trans (hb3.mono (Nat.le_of_lt HS.out.lt)), HS.out.on hb3⟩
      have htx := text_is (funF x) (tagS x) mn w3 htr.1 htr.2 (fun X hX => HT.out X ((B1.out.trans (D3.out.1.mono (by have := LB.out; have := LIM.out; omega))).trans (hX.mono (by have := LB.out; have := LIM.out; have := D3.out.2.lt; omega))))
      clear hb3 c3 e0 hwc
      refine htx.mono ?_
      rintro e w4 ⟨rfl, hb4⟩
      have D4 : Hid (Below b w1 w4 ∧ Bld b S w4) := ⟨D3.out.1.trans (hb4.mono (Nat.le_of_lt D3.out.2.lt)), D3.out.2.on hb4⟩
      obtain ⟨tx, htxx⟩ : ∃ tx, tx = headTx (funF x) (tagS x) := ⟨_, rfl⟩
      rw [← htxx] at HHL HNX ⊢
      have HTX : Hid (tx.size ≤ 25) := HHL.out
      have hk3000 : k ≤ 3000 := by have := NB.out.siz; omega
      have HSL : Hid (S.size ≤ 30000000) := by show _ ≤ _; have := HL.out; omega
      have hwr := writeB (t := tx) D4.out.2 (by have := HSL.out; have := HTX.out; omega)
      clear htx hb4 htxx hhl
      go_wp2_with fail
      refine hwr.mono ?_
      rintro e w5 ⟨rfl, hs5, hb5, -⟩
      have D5 : Hid (Below b w1 w5 ∧ Bld b (S ++ tx) w5) := ⟨D4.out.1.trans hb5, hs5⟩
      clear hwr hs5 hb5
      have T5 : Hid (w5.heap[w.heap.size]? = some (.cells #[.int .i64 base, .slice (some ⟨g, 0, none⟩) O.length cv, .slice (some ⟨nb, 0, none⟩) half half] 45)) := (D5.out.1.block _ (by have := LB.out; omega)).trans T1.out
      have H5 : Hid (HH B hb hm (.slice (some ⟨wb, wo, none⟩) W.length cc) W half base next 1 M w5) := H1.out.low D5.out.1 (by have := LB.out; have := LIM.out; omega) (by have := LB.out; have := LIM.out; omega) (by have := LB.out; have := LIM.out; omega)
      have HB5 : Hid (b < w5.heap.size) := D5.out.2.lt
      have g0 : w5.cell? ⟨w.heap.size, 0, none⟩ = some (.int .i64 base) := blk_cellH (i := 0) T5.out rfl
      have g1 : w5.cell? ⟨w.heap.size, 1, none⟩ = some (.slice (some ⟨g, 0, none⟩) O.length cv) := blk_cellH (i := 1) T5.out rfl
      have g2 : w5.cell? ⟨w.heap.size, 2, none⟩ = some (.slice (some ⟨nb, 0, none⟩) half half) := blk_cellH (i := 2) T5.out rfl
      have g0n : w5.drew.cell? ⟨w.heap.size, 0, none⟩ = some (.int .i64 base) := g0
      have g1n : w5.drew.cell? ⟨w.heap.size, 1, none⟩ = some (.slice (some ⟨g, 0, none⟩) O.length cv) := g1
      have g2n : w5.drew.cell? ⟨w.heap.size, 2, none⟩ = some (.slice (some ⟨nb, 0, none⟩) half half) := g2
      have hka := kidsAt_is (H5.out.same rfl : HH B hb hm (.slice (some ⟨wb, wo, none⟩) W.length cc) W half base next 1 M w5.drew) z mn HMN.out HZM.out
      go_wp2
      go_region_held3 (fun X => X.cell? ⟨w.heap.size, 0, none⟩ = some (.int .i64 base) ∧ X.cell? ⟨w.heap.size, 1, none⟩ = some (.slice (some ⟨g, 0, none⟩) O.length cv) ∧ X.cell? ⟨w.heap.size, 2, none⟩ = some (.slice (some ⟨nb, 0, none⟩) half half))
        (exact ⟨(by first | with_reducible exact g0 | with_reducible exact g0n), (by first | with_reducible exact g1 | with_reducible exact g1n), (by first | with_reducible exact g2 | with_reducible exact g2n)⟩)
        (first
          | (go_at_call 51; refine hka.mono ?_; rintro e w6 ⟨⟨kb, ko, kc, rfl, k1, k2, k3, k4⟩, hB6⟩
             have D6 : Hid (Below b w1 w6 ∧ Bld b (S ++ tx) w6) := ⟨D5.out.1.drew.trans (hB6.mono (by have := HB5.out; show b ≤ w5.heap.size; omega)), (show Bld b (S ++ tx) w5.drew from D5.out.2).on hB6⟩
             have P6 : Hid (Piece w6 b (some ⟨kb, ko, none⟩) (kidsL W z)) := fun j hj => by
               have hj' : j < mn := by rw [← HKL.out]; exact hj
               obtain ⟨hW', q1, q2, q3⟩ := k4 j hj'
               have hkw : kb < w5.drew.heap.size := by have := LIM.out; have := LB.out; have := HB5.out; show kb < w5.heap.size; omega
               have e6 : (kidsL W z)[j] = W[z + 1 + j] := by rw [kidsL_get]; unfold kidAt; exact getD_atH hW'
               rw [e6]
               exact ⟨kb, ko, rfl, by have := LIM.out; have := LB.out; omega, (hB6.cell (p := ⟨kb, ko + j, none⟩) hkw).trans q1, q2, q3⟩
             have T6 : w6.heap[w.heap.size]? = some (.cells #[.int .i64 base, .slice (some ⟨g, 0, none⟩) O.length cv, .slice (some ⟨nb, 0, none⟩) half half] 45) := (D6.out.1.block _ (by have := LB.out; omega)).trans T1.out
             replace g0 : w6.cell? ⟨w.heap.size, 0, none⟩ = some (.int .i64 base) := blk_cellH (i := 0) T6 rfl
             replace g1 : w6.cell? ⟨w.heap.size, 1, none⟩ = some (.slice (some ⟨g, 0, none⟩) O.length cv) := blk_cellH (i := 1) T6 rfl
             replace g2 : w6.cell? ⟨w.heap.size, 2, none⟩ = some (.slice (some ⟨nb, 0, none⟩) half half) := blk_cellH (i := 2) T6 rfl
             have N6 : Met B2 nb (.slice (some ⟨g, 0, none⟩) O.length cv) base half O w6 := ⟨N1.out.1.lo, ⟨own_same N1.out.1.plc.1 fun q hq => D6.out.1.block q (N1.out.2.2 q hq), N1.out.1.plc.2⟩, (D6.out.1.block nb N1.out.2.1).trans N1.out.1.num, N1.out.1.siz, N1.out.1.nod⟩
             have htl := tell_is N6 b (S ++ tx) D6.out.2 N1.out.2.1 (some ⟨kb, ko, none⟩) kc (kidsL W z) (by rw [HKL.out]; omega) (by rw [size_app]; have := HSL.out; have := HTX.out; omega) P6.out HK.out (fun X hX => HT.out X ((B1.out.trans (D6.out.1.mono (by have := LB.out; have := LIM.out; omega))).trans (hX.mono (by have := LB.out; have := LIM.out; omega))))
             rw [HKL.out] at htl
             clear k4 hB6 T6 N6)
          | (go_at_call 61; refine htl.mono ?_; rintro e w7 ⟨rfl, hs7, hb7⟩
             have D7 : Hid (Below b w1 w7 ∧ Bld b ((O.take (k + 1)).foldl (blockTx W O) s0) w7) := ⟨D6.out.1.trans hb7, by rw [HNX.out]; exact hs7⟩
             have T7 : w7.heap[w.heap.size]? = some (.cells #[.int .i64 base, .slice (some ⟨g, 0, none⟩) O.length cv, .slice (some ⟨nb, 0, none⟩) half half] 45) := (D7.out.1.block _ (by have := LB.out; omega)).trans T1.out
             replace g0 : w7.cell? ⟨w.heap.size, 0, none⟩ = some (.int .i64 base) := blk_cellH (i := 0) T7 rfl
             replace g1 : w7.cell? ⟨w.heap.size, 1, none⟩ = some (.slice (some ⟨g, 0, none⟩) O.length cv) := blk_cellH (i := 1) T7 rfl
             replace g2 : w7.cell? ⟨w.heap.size, 2, none⟩ = some (.slice (some ⟨nb, 0, none⟩) half half) := blk_cellH (i := 2) T7 rfl
             clear hs7 hb7 T7))
      have HLN : Hid (((O.take (k + 1)).foldl (blockTx W O) s0).size ≤ 24200000 + 1500 * (k + 1)) := by
        show _ ≤ _
        have h1 := wordsTx_le O (by have := NB.out.siz; omega) (kidsL W z) (S ++ tx) HKR.out
        have e1 : (⟨#[10]⟩ : ByteArray).size = 1 := rfl
        have h2 := HL.out
        have h3 := HTX.out
        rw [HKL.out, size_app] at h1
        rw [HNX.out, size_app]
        omega
      go_wp2
      go_round
      case rel => exact ⟨k + 1, by omega, by go_num, D7.out.2, HLN, D7.out.1⟩
      case measure => simp [intOf]; omega
    · obtain rfl : k = O.length := by omega
      have hst := stringB HS.out
      rw [List.take_length] at hst
      have DF : Hid (Below b w1 wr) := HB.out
      have hkk : ¬ ((O.length : Nat) : Int) < ((O.length : Nat) : Int) := by omega
      go_wp2_with fail
      refine hst.mono ?_
      rintro e w8 ⟨rfl, hb8⟩
      have D8 : Hid (Below b w1 w8) := DF.out.trans hb8
      have H8 := H1.out.low D8.out (by have := LB.out; have := LIM.out; omega) (by have := LB.out; have := LIM.out; omega) (by have := LB.out; have := LIM.out; omega)
      have B8 : Hid (Below B w w8) := B1.out.trans (D8.out.mono (by have := LB.out; have := LIM.out; omega))
      clear hst hb8
      go_wp2
      refine leaves_cons (f := 44) (args := #[.pointer (some ⟨hb, 0, none⟩)]) (by simp) (by simp [go_sem]) ?_
      refine (Go.MuLone.unlock_deferred lock.muLib ⟨hb, 0, none⟩ .returning _ H8.c0 (H8.frz 0)).mono ?_
      rintro e u' w'' ⟨rfl, rfl, rfl⟩
      rw [HSH.out]
      exact ⟨_, results_tmp rfl _ _ _, rfl, B8.out.setCell LIM.out.2.2.2.1 _⟩

end Go.Proofs.YthpdkjenadngoaaGreatDoor.heap

namespace Go.Proofs.YthpdkjenadngoaaGreatDoor.heap
open Go Go.RowKit Go.Deep Go.Proofs.YthpdkjenadngoaaGreatDoor.rose Go.Proofs.YthpdkjenadngoaaGreatDoor Go.Proofs.YthpdkjenadngoaaGreatDoor.fun Go.Proofs.YthpdkjenadngoaaGreatDoor.words Go.Proofs.YthpdkjenadngoaaGreatDoor.ints
set_option linter.unusedVariables false
set_option linter.unusedSimpArgs false

set_option maxRecDepth 100000 in
set_option maxHeartbeats 8000000 in
theorem implShape (T : HeapD) (rs : List Int) (cs : List Value) (v : Value) (w : World) (hw : wt T ≤ 1048576) (hrl : rs.length ≤ 1048576) (hN : fun.Tab w) (h : heapSh.rep w (· < w.heap.size) cs T) (hv : intsSh.rep w (· < w.heap.size) [v] rs) :
    Calls Tryz.prog 14 #[.agg cs.toArray, v] w fun e w' => e = .returned (.string (shapeF T rs)) ∧ Below w.heap.size w w' := by
  obtain ⟨W, a0, c0, half, base, next, rfl, rfl, f0, f1, f2, f3⟩ := heap_open h
  obtain ⟨ar, cr, hvv⟩ : ∃ a c, v = .slice a rs.length c := by obtain ⟨a, c, e⟩ := slice_cells hv; simp only [List.cons.injEq, and_true] at e; exact ⟨a, c, e⟩
  subst hvv
  have HWR : Hid (∀ y ∈ W, InR y) := fun y hy => by
    obtain ⟨_, _, _, _, _, hat⟩ := ints_open f0
    obtain ⟨j, hj, rfl⟩ := List.getElem_of_mem hy
    obtain ⟨_, _, _, _, _, r1, r2⟩ := hat j hj
    exact ⟨r1, r2⟩
  have P0 : Hid (Piece w w.heap.size ar rs) := Piece.of hv fun b hb => hb
  have HTB : Hid (∀ X, Below w.heap.size w X → Tab X) := fun X hX => hN.on hX
  have A0 : Hid (ArgK w (w.alloc (.cells #[.slice a0 W.length c0, .int .i64 half, .int .i64 base, .int .i64 next] 26)) [.slice a0 W.length c0, .int .i64 half, .int .i64 base, .int .i64 next] 26) := ArgK.new _ _ _ rfl
  have hcall := meetTop_is W a0 c0 half base next rs (.slice ar rs.length cr) _ hrl (heapSh.mono (heapSh.below h A0.out.bel) fun b hlt => Nat.lt_of_lt_of_le hlt A0.out.bel.size) (intsSh.mono (intsSh.below hv A0.out.bel) fun b hlt => Nat.lt_of_lt_of_le hlt A0.out.bel.size)
  have Z0 : (w.alloc (.cells #[.slice a0 W.length c0, .int .i64 half, .int .i64 base, .int .i64 next] 26)).heap.size = w.heap.size + 1 := by simp
  rw [Z0] at hcall
  have BA : Hid (Below w.heap.size w (w.alloc (.cells #[.slice a0 W.length c0, .int .i64 half, .int .i64 base, .int .i64 next] 26))) := A0.out.bel
  clear h f0 f1 f2 f3 hw hv hN
  rcases q : rightB (W, half, base, next) rs with _ | _
  · have HF : Hid (shapeF (W, half, base, next) rs = ⟨#[]⟩) := by show _ = _; unfold shapeF; rw [q]; rfl
    go_enter Tryz.func14, Tryz.ntmps14
    go_wp2_with fail
    refine hcall.mono ?_
    rintro e w1 ⟨ho, hb⟩
    obtain ⟨p, rfl⟩ := ho.1 q
    have B1 : Hid (Below w.heap.size w w1) := BA.out.trans (hb.mono (by omega))
    clear hcall hb ho q
    go_wp2
    go_ret
    rw [HF.out]
    exact ⟨rfl, B1.out.alloc B1.out.size _⟩
  · go_enter Tryz.func14, Tryz.ntmps14
    go_wp2_with fail
    refine hcall.mono ?_
    rintro e w1 ⟨ho, hb⟩
    obtain ⟨hb', hm, hf, bs, nx, nb, B2, M, v, e1, e2, e3, rfl, hH, hN, hz1, hz2⟩ := ho.2 q
    subst e1 e2 e3
    have B1 : Hid (Below w.heap.size w w1) := BA.out.trans (hb.mono (by omega))
    obtain ⟨O, hO⟩ : ∃ O, O = orderF (W, (hf : Int), (bs : Int), (nx : Int)) rs := ⟨_, rfl⟩
    rw [← hO] at hN
    obtain ⟨av, cv, hvv⟩ := own_form hN.plc.1
    subst hvv
    have K2 : Below w1.heap.size w1 (w1.alloc (.cells #[.int .i64 bs, .slice av O.length cv, .slice (some ⟨nb, 0, none⟩) hf hf] 45)) := (Below.refl _ _).alloc (Nat.le_refl _) _
    have B2' : Below w.heap.size w (w1.alloc (.cells #[.int .i64 bs, .slice av O.length cv, .slice (some ⟨nb, 0, none⟩) hf hf] 45)) := B1.out.alloc B1.out.size _
    have hsh := shape_is (M := M) rs O (hH.on K2) (hN.on K2) ⟨hz1, hz2⟩ HWR.out q hO ar cr hrl ((P0.out.on B2').up (by omega)) (fun X hX => HTB.out X (B2'.trans (hX.mono (by omega))))
    have HB2 : Hid (Below w.heap.size w (w1.alloc (.cells #[.int .i64 bs, .slice av O.length cv, .slice (some ⟨nb, 0, none⟩) hf hf] 45))) := B2'
    clear hcall hb ho q hH hN K2 B2' hO
    go_wp2_with fail
    refine hsh.mono ?_
    rintro e w3 ⟨rfl, hb3⟩
    have B3 : Hid (Below w.heap.size w w3) := HB2.out.trans (hb3.mono (by omega))
    clear hsh hb3
    go_wp2
    go_ret
    exact ⟨rfl, B3.out⟩

end Go.Proofs.YthpdkjenadngoaaGreatDoor.heap

namespace Go.Proofs.YthpdkjenadngoaaGreatDoor.heap
open Go Go.RowKit Go.Proofs.YthpdkjenadngoaaGreatDoor.rose Go.Proofs.YthpdkjenadngoaaGreatDoor Go.Proofs.YthpdkjenadngoaaGreatDoor.fun Go.Proofs.YthpdkjenadngoaaGreatDoor.words Go.Proofs.YthpdkjenadngoaaGreatDoor.ints
set_option linter.unusedVariables false
set_option linter.unusedSimpArgs false

theorem ret_s {a b : ByteArray} (h : a = b) : Ending.returned (.string a) = Ending.returned (.string b) := by rw [h]
theorem digitsB (n : Int) (w : World) (h1 : -9223372036854775808 ≤ n) (h2 : n ≤ 9223372036854775807) : Calls Tryz.prog 35 #[.int .i64 n] w fun e w' => e = .returned (.string (dg n)) ∧ Below w.heap.size w w' := walks.digits_any n h1 h2 w

set_option maxRecDepth 100000 in
set_option maxHeartbeats 4000000 in
theorem word18_is (x : Int) (O : List Int) (ao : Option Addr) (co : Nat) (w : World) (h1 : -9223372036854775808 ≤ x) (h2 : x ≤ 9223372036854775807) (hO : O.length ≤ 1048576) (hr : intsSh.rep w (· < w.heap.size) [.slice ao O.length co] O) :
    Calls Tryz.prog 33 #[.int .i64 x, .slice ao O.length co] w fun e w' => e = .returned (.string (wordTx O x)) ∧ Below w.heap.size w w' := by
  by_cases he : x % 2 = 0
  case neg =>
    have HF : Hid (wordTx O x = ⟨#[32]⟩ ++ dg (x / 2)) := wordTx_int he
    have q : decide (x % 2 = 0) = false := decide_eq_false he
    have hd := dg_le (x / 2) (by omega) (by omega)
    have hc := digitsB (x / 2) w (by omega) (by omega)
    obtain ⟨d, hdd⟩ : ∃ d, d = dg (x / 2) := ⟨_, rfl⟩
    rw [← hdd] at hc hd HF
    have z0 : ¬ (9223372036854775807 < 1 + d.size) := by omega
    clear hdd he hr
    go_enter Tryz.func33, Tryz.ntmps33
    go_wp2_with (first
      | (go_at_call 58; refine (isref_is q).mono ?_; rintro e w' ⟨rfl, hx⟩; subst w')
      | (go_at_call 65; refine (wordint_is x _).mono ?_; rintro e w' ⟨rfl, hx⟩; subst w')
      | (go_at_call 35; refine hc.mono ?_; rintro e w' ⟨rfl, hB⟩))
    go_ret
    exact ⟨ret_s (by rw [HF.out]), hB⟩
  case pos =>
    have q : decide (x % 2 = 0) = true := decide_eq_true he
    have HE : Hid (x % 2 = 0) := he
    obtain ⟨a, cap, e, hcap, hmax, hat⟩ := ints_open hr
    cases e
    have HA : Hid _ := hat
    have hOI : (O.length : Int) ≤ 1048576 := by omega
    obtain ⟨r, hrr⟩ : ∃ r, r = wordTx O x := ⟨_, rfl⟩
    have HR : Hid (r = wordTx O x) := hrr
    rw [← hrr]
    clear hr hat hcap hmax he hrr
    go_enter Tryz.func33, Tryz.ntmps33
    go_wp2_with (first
      | (go_at_call 58; refine (isref_is q).mono ?_; rintro e w' ⟨rfl, hx⟩; subst w'))
    go_loopw [5] (fun v5 wr => ∃ i n : Nat, i ≤ O.length ∧ v5 = .int .i64 i ∧ Hid (wr = w.drewN n) ∧ Hid (∀ j (hj : j < O.length), j < i → ¬ O[j] = x / 2)) (fun v5 _ => O.length + 1 - (intOf v5).toNat)
    case atStart => exact ⟨0, 0, Nat.zero_le _, rfl, rfl, fun j _ hj => absurd hj (Nat.not_lt_zero _)⟩
    case round =>
      obtain ⟨i, n, hi, rfl, HN, HB⟩ := hrel
      by_cases hlt : i < O.length
      · obtain ⟨b, o, rfl, -, hc, r1, r2⟩ := HA.out i hlt
        have ck : wr.cell? ⟨b, o + i, none⟩ = some (.int .i64 O[i]) := by rw [HN.out]; exact hc
        obtain ⟨y, hy⟩ : ∃ y, y = O[i] := ⟨_, rfl⟩
        rw [← hy] at ck r1 r2
        have HY : Hid (y = O[i]) := hy
        have i0 : (0 : Int) ≤ (i : Int) := by omega
        have i1 : (i : Int) < (O.length : Int) := by omega
        clear hc hy
        rcases qy : decide (y = x / 2) with _ | _
        · have ty : (y == x / 2) = false := by have := of_decide_eq_false qy; simpa using this
          have HNE : Hid (¬ y = x / 2) := of_decide_eq_false qy
          clear qy
          go_wp2
          go_quiet ((go_at_call 60; exact Calls.quiet_of_same (wordref_is x _)))
          have HN3 : Hid (wr.drewN nq = w.drewN (n + nq)) := by show _ = _; rw [HN.out, World.drewN_drewN]
          go_wp2
          go_round
          case rel => exact ⟨i + 1, n + nq, by omega, by go_num, HN3, fun j hj hji => by
            by_cases e : j = i
            · subst e; rw [← HY.out]; exact HNE.out
            · exact HB.out j hj (by omega)⟩
          case measure => simp [intOf]; omega
        · have ty : (y == x / 2) = true := by have := of_decide_eq_true qy; simpa using this
          have HF : Hid (r = ⟨#[32, 64]⟩ ++ dg i) := by show _ = _; rw [HR.out]; exact wordTx_at HE.out hlt (by rw [← HY.out]; exact of_decide_eq_true qy) HB.out
          have hd := dg_le (i : Int) (by omega) (by omega)
          have hcd := fun W => digitsB (i : Int) W (by omega) (by omega)
          obtain ⟨d, hdd⟩ : ∃ d, d = dg (i : Int) := ⟨_, rfl⟩
          rw [← hdd] at hd HF
          simp only [← hdd] at hcd
          have z0 : ¬ (9223372036854775807 < 2 + d.size) := by omega
          clear hdd qy
          go_wp2
          go_quiet ((go_at_call 60; exact Calls.quiet_of_same (wordref_is x _)))
          have BN : Hid (Below w.heap.size w (wr.drewN nq)) := by show Below _ _ _; rw [HN.out]; exact ⟨rfl, rfl, rfl, Nat.le_refl _, fun _ _ => rfl⟩
          go_wp2_with (first
            | (go_at_call 35; refine (hcd _).mono ?_; rintro e w' ⟨rfl, hB⟩))
          go_ret
          exact ⟨ret_s HF.out.symm, BN.out.trans (hB.mono BN.out.size)⟩
      · have hil : i = O.length := by omega
        have hnl : ¬ (i : Int) < (O.length : Int) := by omega
        have HF : Hid (r = ⟨#[32, 64]⟩) := by show _ = _; rw [HR.out]; exact wordTx_none HE.out fun j hj => HB.out j hj (by omega)
        have BN : Hid (Below w.heap.size w wr) := by show Below _ _ _; rw [HN.out]; exact ⟨rfl, rfl, rfl, Nat.le_refl _, fun _ _ => rfl⟩
        go_wp2
        go_ret
        exact ⟨ret_s HF.out.symm, BN.out⟩

end Go.Proofs.YthpdkjenadngoaaGreatDoor.heap
