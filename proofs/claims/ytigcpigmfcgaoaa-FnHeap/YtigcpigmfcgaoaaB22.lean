/-
  The model's l17Draw: a heap and roots in new memory, some of them turned; but for the cursor nothing that was there is turned.
-/
import Derived.Maps.AppendAt
import Derived.Deep.RegionHeld3
import Derived.WalkSmall
import Derived.Test.YtigcpigmfcgaoaaB1
import Derived.Test.YtigcpigmfcgaoaaB2
import Derived.Test.YtigcpigmfcgaoaaB3
import Derived.Test.YtigcpigmfcgaoaaB4
import Derived.Test.YtigcpigmfcgaoaaB5
import Derived.Test.YtigcpigmfcgaoaaB6
import Derived.Test.YtigcpigmfcgaoaaB7
import Derived.Test.YtigcpigmfcgaoaaB8
import Derived.Test.YtigcpigmfcgaoaaB9
import Derived.Test.YtigcpigmfcgaoaaB10
import Derived.Test.YtigcpigmfcgaoaaB11
import Derived.Test.YtigcpigmfcgaoaaB12
import Derived.Test.YtigcpigmfcgaoaaB13
import Derived.Test.YtigcpigmfcgaoaaB14
import Derived.Test.YtigcpigmfcgaoaaB15
import Derived.Test.YtigcpigmfcgaoaaB16
import Derived.Test.YtigcpigmfcgaoaaB17
import Derived.Test.YtigcpigmfcgaoaaB18
import Derived.Test.YtigcpigmfcgaoaaB19
import Derived.Test.YtigcpigmfcgaoaaB20
import Derived.Test.YtigcpigmfcgaoaaB21
namespace Go.Proofs.Ytigcpigmfcgaoaa.heap
open Go Go.RowKit Go.Deep Go.Proofs.Ytigcpigmfcgaoaa.rose Go.Proofs.Ytigcpigmfcgaoaa Go.Proofs.Ytigcpigmfcgaoaa.fun Go.Proofs.Ytigcpigmfcgaoaa.ints Go.Proofs.Ytigcpigmfcgaoaa.cur Go.Proofs.Ytigcpigmfcgaoaa.words
set_option linter.unusedVariables false
set_option linter.unusedSimpArgs false

theorem cell_len {B p r2 hb : Nat} {w wr : World} {a : Option Addr} {c z : Nat} {W : List Int} {x hf bs nx : Int} {ar : Option Addr} {cr : Nat} {rs : List Int} (h : DJ B p r2 hb w wr a c (W.set z x) hf bs nx ar cr rs) : wr.cell? ⟨hb, 0, none⟩ = some (.slice a W.length c) := by
  have h9 := h.cell 0 rfl
  rw [List.length_set] at h9
  exact h9

set_option maxRecDepth 100000 in
set_option maxHeartbeats 32000000 in
theorem drawHeap_any (B p : Nat) (w : World) (hc : Cur B w p) :
    Calls Try.prog 22 #[.pointer (some ⟨p, 0, none⟩)] w fun e w' => ∃ a c W hf bs nx ar cr rs, e = .returned (.tuple #[.agg #[.slice a (W : List Int).length c, .int .i64 hf, .int .i64 bs, .int .i64 nx], .slice ar (rs : List Int).length cr]) ∧ DW B p w w' a c W hf bs nx ar cr rs := by
  have hplt := hc.lt
  have hcall := drawRight_any B p (w.alloc (.cells #[.slice none 0 0, .int .i64 0, .int .i64 0, .int .i64 0] 26)) (hc.on (World.grownBy_alloc _ _ none))
  obtain ⟨ti, hti, hz0, hz1, hz2⟩ := int_info
  have TI : Hid (Try.prog.info? 3 = some ti ∧ ti.zero = some (.int .i64 0) ∧ ti.size = 1 ∧ ti.bytes = 8) := ⟨hti, hz0, hz1, hz2⟩
  clear hc hti hz0 hz1 hz2
  go_enter Try.func22, Try.ntmps22
  go_wp2_with fail
  refine hcall.mono ?_
  rintro e w1 ⟨a, c, W, hf, bs, nx, ar, cr, rs, rfl, hD⟩
  have J1 := hid_of (DJ.start hD hplt)
  have hrl : rs.length ≤ 200 := hD.rl.2
  clear hD hcall
  have h2 := below_small B p 14 _ J1.out.cur (by decide) (by decide)
  go_wp2_with fail
  refine h2.mono ?_
  rintro e w2 ⟨x, rfl, x0, x1, hc2, hg2⟩
  have J2 := hid_of (J1.out.turn hc2 hg2)
  have hwl : 2 ≤ W.length ∧ W.length ≤ 120 := J2.out.wl
  have hin : InR hf ∧ InR bs ∧ InR nx := by
    obtain ⟨_, _, _, _, _, _, hT, -, -, f1, f2, f3⟩ := heapp_open J2.out.hp
    simp only [Prod.mk.injEq] at hT
    obtain ⟨-, rfl, rfl, rfl⟩ := hT
    exact ⟨f1, f2, f3⟩
  have HIN := hid_of hin
  have hrh : w.heap.size ≠ w1.heap.size := by have := J2.out.ord; omega
  have hhr : w1.heap.size ≠ w.heap.size := hrh.symm
  clear hc2 hg2 h2 J1 hin
  have hcase : x = 0 ∨ x = 1 ∨ x = 2 ∨ x = 3 ∨ x = 4 ∨ 5 ≤ x := by omega
  rcases hcase with rfl | rfl | rfl | rfl | rfl | h5
  · have h0W : 0 < W.length := by omega
    obtain ⟨bw, ow, rfl, -⟩ := J2.out.word h0W (x := 0) (by unfold InR; omega)
    have KJ : Hid (DJ B p w.heap.size w1.heap.size w w2.drew (some ⟨bw, ow, none⟩) c W hf bs nx ar cr rs) := J2.out.on (Below.refl _ _).drew
    have ca0 : w2.cell? ⟨w1.heap.size, 0, none⟩ = some (.slice (some ⟨bw, ow, none⟩) W.length c) := J2.out.cell 0 rfl
    have cA0 : ∀ Y : Obj, (w2.alloc Y).cell? ⟨w1.heap.size, 0, none⟩ = some (.slice (some ⟨bw, ow, none⟩) W.length c) := fun Y => (J2.out.new Y).cell 0 rfl
    have hp2 : p < w2.heap.size := J2.out.cur.lt
    go_wp2
    clear J2
    go_region_held3 (fun X => X.cell? ⟨w1.heap.size, 0, none⟩ = some (.slice (some ⟨bw, ow, none⟩) W.length c))
      (first | with_reducible exact ca0 | with_reducible exact cA0 _ | with_reducible exact cS0 | (rw [cell_drewD]; first | with_reducible exact ca0 | with_reducible exact cA0 _))
      (first
        | (go_at_call 23; first
            | (with_reducible show Calls _ _ _ (World.drew w2) _; refine (below_small B p (W.length : Int) _ KJ.out.cur (by omega) (by omega)).mono ?_; rintro e wn ⟨zi, rfl, z0, z1, hcn, hgn⟩; replace KJ := hid_of (KJ.out.turn hcn hgn); obtain ⟨z, rfl⟩ := Int.eq_ofNat_of_zero_le z0; clear hcn hgn; replace ca0 : wn.cell? ⟨w1.heap.size, 0, none⟩ = some (.slice (some ⟨bw, ow, none⟩) W.length c) := KJ.out.cell 0 rfl; replace cA0 : ∀ Y : Obj, (wn.alloc Y).cell? ⟨w1.heap.size, 0, none⟩ = some (.slice (some ⟨bw, ow, none⟩) W.length c) := fun Y => (KJ.out.new Y).cell 0 rfl)
            | (have KL := hid_of (ints_new w2 [0, 1, 2, 3, 200, 99999, -1, 9223372036854775807] 3 (by decide)); replace KJ : Hid (DJ B p w.heap.size w1.heap.size w (w2.alloc (.cells #[.int .i64 0, .int .i64 1, .int .i64 2, .int .i64 3, .int .i64 200, .int .i64 99999, .int .i64 (-1), .int .i64 9223372036854775807] 3)).drew (some ⟨bw, ow, none⟩) c W hf bs nx ar cr rs) := KJ.out.on ((Below.refl _ _).alloc (Nat.le_refl _) _); refine (below_small B p (W.length : Int) _ KJ.out.cur (by omega) (by omega)).mono ?_; rintro e wn ⟨zi, rfl, z0, z1, hcn, hgn⟩; have KG := hid_of hgn; replace KJ := hid_of (KJ.out.turn hcn hgn); obtain ⟨z, rfl⟩ := Int.eq_ofNat_of_zero_le z0; clear hcn hgn; replace ca0 : wn.cell? ⟨w1.heap.size, 0, none⟩ = some (.slice (some ⟨bw, ow, none⟩) W.length c) := KJ.out.cell 0 rfl; replace cA0 : ∀ Y : Obj, (wn.alloc Y).cell? ⟨w1.heap.size, 0, none⟩ = some (.slice (some ⟨bw, ow, none⟩) W.length c) := fun Y => (KJ.out.new Y).cell 0 rfl))
        | (go_at_call 25; first
            | (revert KL; intro KL; refine (pickInt_any B p w2.heap.size 8 _ KJ.out.cur (by decide) (by decide) (by omega) (by have := KG.out.size; simp at this; omega) (fun j hj => by obtain ⟨zz, q1, q2⟩ := KL.out j hj; exact ⟨zz, (World.cell?_of_block (a := ⟨w2.heap.size, j, none⟩) (KG.out.block w2.heap.size (by simp) (fun e => by simp only [Option.some.injEq] at e; omega))).trans q1, q2⟩)).mono ?_; rintro e wm ⟨y, rfl, y0, y1, hcn, hgn⟩; replace KJ := hid_of (KJ.out.turn hcn hgn); clear hcn hgn; obtain ⟨b', o', hab, e0, fz, -, -, hJ⟩ := KJ.out.word (show z < W.length by omega) (x := y) ⟨y0, y1⟩; simp only [Option.some.injEq, Addr.mk.injEq, and_true] at hab; obtain ⟨rfl, rfl⟩ := hab; have NJ := hid_of hJ; clear hJ; have cS0 : (wm.setCell ⟨bw, ow + z, none⟩ (.int .i64 y)).cell? ⟨w1.heap.size, 0, none⟩ = some (.slice (some ⟨bw, ow, none⟩) W.length c) := cell_len NJ.out; replace ca0 : wm.cell? ⟨w1.heap.size, 0, none⟩ = some (.slice (some ⟨bw, ow, none⟩) W.length c) := KJ.out.cell 0 rfl; replace cA0 : ∀ Y : Obj, (wm.alloc Y).cell? ⟨w1.heap.size, 0, none⟩ = some (.slice (some ⟨bw, ow, none⟩) W.length c) := fun Y => (KJ.out.new Y).cell 0 rfl)
            | (refine (pickInt_any B p wn.heap.size 8 _ (KJ.out.new _).cur (by decide) (by decide) (by have := KJ.out.cur.lt; omega) (by simp) (ints_new wn [0, 1, 2, 3, 200, 99999, -1, 9223372036854775807] 3 (by decide))).mono ?_; rintro e wm ⟨y, rfl, y0, y1, hcn, hgn⟩; replace KJ := hid_of ((KJ.out.new _).turn hcn hgn); clear hcn hgn; obtain ⟨b', o', hab, e0, fz, -, -, hJ⟩ := KJ.out.word (show z < W.length by omega) (x := y) ⟨y0, y1⟩; simp only [Option.some.injEq, Addr.mk.injEq, and_true] at hab; obtain ⟨rfl, rfl⟩ := hab; have NJ := hid_of hJ; clear hJ; have cS0 : (wm.setCell ⟨bw, ow + z, none⟩ (.int .i64 y)).cell? ⟨w1.heap.size, 0, none⟩ = some (.slice (some ⟨bw, ow, none⟩) W.length c) := cell_len NJ.out; replace ca0 : wm.cell? ⟨w1.heap.size, 0, none⟩ = some (.slice (some ⟨bw, ow, none⟩) W.length c) := KJ.out.cell 0 rfl; replace cA0 : ∀ Y : Obj, (wm.alloc Y).cell? ⟨w1.heap.size, 0, none⟩ = some (.slice (some ⟨bw, ow, none⟩) W.length c) := fun Y => (KJ.out.new Y).cell 0 rfl)))
    all_goals
      obtain ⟨wz, hwz⟩ : ∃ wz, wz = wm.setCell ⟨bw, ow + z, none⟩ (.int .i64 y) := ⟨_, rfl⟩
      rw [← hwz] at NJ cS0 ⊢
      clear hwz KJ ca0 cA0 e0 fz
      have d1 := NJ.out.cell 1 rfl
      have d2 := NJ.out.cell 2 rfl
      have d3 := NJ.out.cell 3 rfl
      have r0 := NJ.out.rcell 0 rfl
      have r1 := NJ.out.rcell 1 rfl
      have r2 := NJ.out.rcell 2 rfl
      have r3 := NJ.out.rcell 3 rfl
      have rz := NJ.out.rfree
      have hE := NJ.out.done
      unfold set4 at hE
      simp only [List.length_set] at hE
      have E4 := hid_of hE
      clear hE
      go_wp2
      refine bodyPost_ret (v := .tuple #[.agg #[.slice (some ⟨bw, ow, none⟩) W.length c, .int .i64 hf, .int .i64 bs, .int .i64 nx], .slice ar rs.length cr]) (by simp [results, Try.f22, go_sem, r0, r1, r2, r3]) rfl ?_
      exact ⟨some ⟨bw, ow, none⟩, c, W.set z y, hf, bs, nx, ar, cr, rs, by rw [List.length_set], E4.out⟩
  · have h3 := pickInt_any B p w2.heap.size 6 _ (J2.out.new _).cur (by decide) (by decide) (by have := J2.out.cur.lt; omega) (by simp) (ints_new w2 [-1, 0, 1, 3, 60, 121] 3 (by decide))
    go_wp2_with fail
    refine h3.mono ?_
    rintro e w3 ⟨y, rfl, y0, y1, hc3, hg3⟩
    have J3 := hid_of ((J2.out.new _).turn hc3 hg3)
    have J4 := hid_of (J3.out.num 3 (.int .i64 y) hf bs y rfl HIN.out.1 HIN.out.2.1 ⟨y0, y1⟩)
    clear hc3 hg3 h3 J2
    have d0 := J3.out.cell 0 rfl
    have d1 := J3.out.cell 1 rfl
    have d2 := J3.out.cell 2 rfl
    have d3 := J3.out.cell 3 rfl
    have dz := J3.out.free
    have r0 := J3.out.rcell 0 rfl
    have r1 := J3.out.rcell 1 rfl
    have r2 := J3.out.rcell 2 rfl
    have r3 := J3.out.rcell 3 rfl
    have rz := J3.out.rfree
    have hE := J4.out.done
    unfold set4 at hE
    have E4 := hid_of hE
    clear hE
    go_wp2
    refine bodyPost_ret (v := .tuple #[.agg #[.slice a (W).length c, .int .i64 hf, .int .i64 bs, .int .i64 y], .slice ar (rs).length cr]) (by simp [results, Try.f22, go_sem, r0, r1, r2, r3]) rfl ?_
    exact ⟨a, c, W, hf, bs, y, ar, cr, rs, rfl, E4.out⟩
  · have h3 := pickInt_any B p w2.heap.size 4 _ (J2.out.new _).cur (by decide) (by decide) (by have := J2.out.cur.lt; omega) (by simp) (ints_new w2 [0, 1, 6, 20] 3 (by decide))
    go_wp2_with fail
    refine h3.mono ?_
    rintro e w3 ⟨y, rfl, y0, y1, hc3, hg3⟩
    have J3 := hid_of ((J2.out.new _).turn hc3 hg3)
    have J4 := hid_of (J3.out.num 2 (.int .i64 y) hf y nx rfl HIN.out.1 ⟨y0, y1⟩ HIN.out.2.2)
    clear hc3 hg3 h3 J2
    have d0 := J3.out.cell 0 rfl
    have d1 := J3.out.cell 1 rfl
    have d2 := J3.out.cell 2 rfl
    have d3 := J3.out.cell 3 rfl
    have dz := J3.out.free
    have r0 := J3.out.rcell 0 rfl
    have r1 := J3.out.rcell 1 rfl
    have r2 := J3.out.rcell 2 rfl
    have r3 := J3.out.rcell 3 rfl
    have rz := J3.out.rfree
    have hE := J4.out.done
    unfold set4 at hE
    have E4 := hid_of hE
    clear hE
    go_wp2
    refine bodyPost_ret (v := .tuple #[.agg #[.slice a (W).length c, .int .i64 hf, .int .i64 y, .int .i64 nx], .slice ar (rs).length cr]) (by simp [results, Try.f22, go_sem, r0, r1, r2, r3]) rfl ?_
    exact ⟨a, c, W, hf, y, nx, ar, cr, rs, rfl, E4.out⟩
  · have h3 := pickInt_any B p w2.heap.size 3 _ (J2.out.new _).cur (by decide) (by decide) (by have := J2.out.cur.lt; omega) (by simp) (ints_new w2 [0, 6, 3001] 3 (by decide))
    go_wp2_with fail
    refine h3.mono ?_
    rintro e w3 ⟨y, rfl, y0, y1, hc3, hg3⟩
    have J3 := hid_of ((J2.out.new _).turn hc3 hg3)
    have J4 := hid_of (J3.out.num 1 (.int .i64 y) y bs nx rfl ⟨y0, y1⟩ HIN.out.2.1 HIN.out.2.2)
    clear hc3 hg3 h3 J2
    have d0 := J3.out.cell 0 rfl
    have d1 := J3.out.cell 1 rfl
    have d2 := J3.out.cell 2 rfl
    have d3 := J3.out.cell 3 rfl
    have dz := J3.out.free
    have r0 := J3.out.rcell 0 rfl
    have r1 := J3.out.rcell 1 rfl
    have r2 := J3.out.rcell 2 rfl
    have r3 := J3.out.rcell 3 rfl
    have rz := J3.out.rfree
    have hE := J4.out.done
    unfold set4 at hE
    have E4 := hid_of hE
    clear hE
    go_wp2
    refine bodyPost_ret (v := .tuple #[.agg #[.slice a (W).length c, .int .i64 y, .int .i64 bs, .int .i64 nx], .slice ar (rs).length cr]) (by simp [results, Try.f22, go_sem, r0, r1, r2, r3]) rfl ?_
    exact ⟨a, c, W, y, bs, nx, ar, cr, rs, rfl, E4.out⟩
  · have h3 := pickInt_any B p w2.heap.size 5 _ (J2.out.new _).cur (by decide) (by decide) (by have := J2.out.cur.lt; omega) (by simp) (ints_new w2 [0, 2, 4, 98, -2] 3 (by decide))
    go_wp2_with fail
    refine h3.mono ?_
    rintro e w3 ⟨y, rfl, y0, y1, hc3, hg3⟩
    have J3 := hid_of ((J2.out.new _).turn hc3 hg3)
    clear hc3 hg3 h3 J2
    have RD : Hid (∀ X, (w3.alloc X).ownsRow (w.heap.size + 1) 3 1 (.slice ar rs.length cr) rs.length (rs.map (Value.int .i64))) := fun X => (J3.out.new X).row.1
    have HZ : Hid (w.heap.size < w3.heap.size) := by show _ < _; have h1 := J3.out.lt; have h2 := J3.out.ord; omega
    go_wp2_with (first
      | (at_builtin; refine wpList_append_own_at _ rfl (.tmp 46) (.tmp 50) 24 rfl (w.heap.size + 1) 3 ti _ 1 8 Try.underlying24 TI.out.1 TI.out.2.1 TI.out.2.2.1 TI.out.2.2.2 rfl (by decide) (.slice ar rs.length cr) _ _ rfl (RD.out _) ⟨w3.heap.size, 0, none⟩ 1 1 [.int .i64 y] rfl rfl (new_cell _ _ _) (by simp; rfl) (by unfold maxLen; omega) (by omega) (by have := HZ.out; simp; omega) ?_; intro v9 w9 o9 g9 n9 e9; obtain ⟨a9, c9, rfl⟩ := own_form o9
         have J4 := hid_of ((J3.out.new _).app o9 g9 e9 ⟨y0, y1⟩ (by omega))
         clear o9 g9 n9 e9
         have d0 := J4.out.cell 0 rfl
         have d1 := J4.out.cell 1 rfl
         have d2 := J4.out.cell 2 rfl
         have d3 := J4.out.cell 3 rfl
         have dz := J4.out.free
         have r0 := J4.out.rcell 0 rfl
         have r1 := J4.out.rcell 1 rfl
         have r2 := J4.out.rcell 2 rfl
         have r3 := J4.out.rcell 3 rfl
         have rz := J4.out.rfree))
    have hE := J4.out.done
    unfold set4 at hE
    have E4 := hid_of hE
    clear hE
    go_wp2
    refine bodyPost_ret (v := .tuple #[.agg #[.slice a (W).length c, .int .i64 hf, .int .i64 bs, .int .i64 nx], .slice a9 (rs ++ [y]).length c9]) (by simp [results, Try.f22, go_sem, r0, r1, r2, r3]) rfl ?_
    exact ⟨a, c, W, hf, bs, nx, a9, c9, rs ++ [y], rfl, E4.out⟩
  · have t0 : (x == 0) = false := by simp; omega
    have t1 : (x == 1) = false := by simp; omega
    have t2 : (x == 2) = false := by simp; omega
    have t3 : (x == 3) = false := by simp; omega
    have t4 : (x == 4) = false := by simp; omega
    have d0 := J2.out.cell 0 rfl
    have d1 := J2.out.cell 1 rfl
    have d2 := J2.out.cell 2 rfl
    have d3 := J2.out.cell 3 rfl
    have dz := J2.out.free
    have r0 := J2.out.rcell 0 rfl
    have r1 := J2.out.rcell 1 rfl
    have r2 := J2.out.rcell 2 rfl
    have r3 := J2.out.rcell 3 rfl
    have rz := J2.out.rfree
    have hE := J2.out.done
    unfold set4 at hE
    have E4 := hid_of hE
    clear hE
    go_wp2
    refine bodyPost_ret (v := .tuple #[.agg #[.slice a (W).length c, .int .i64 hf, .int .i64 bs, .int .i64 nx], .slice ar (rs).length cr]) (by simp [results, Try.f22, go_sem, r0, r1, r2, r3]) rfl ?_
    exact ⟨a, c, W, hf, bs, nx, ar, cr, rs, rfl, E4.out⟩

end Go.Proofs.Ytigcpigmfcgaoaa.heap
