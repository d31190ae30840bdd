/-
  What is held while a list of numbers is made beside a drawn heap.
  The model's draws of heaps and roots: DrawCollect, DrawReach, DrawShape; nothing that was there is turned.
  What is known of the blocks that are come to (chapter 18): told in plain data.
-/
import Derived.Maps.AppendAt
import Derived.Deep.RegionHeld3
import Derived.WalkSmall
import Derived.Test.YthpdkjenadngoaaGreatDoorB1
import Derived.Test.YthpdkjenadngoaaGreatDoorB2
import Derived.Test.YthpdkjenadngoaaGreatDoorB3
import Derived.Test.YthpdkjenadngoaaGreatDoorB4
import Derived.Test.YthpdkjenadngoaaGreatDoorB5
import Derived.Test.YthpdkjenadngoaaGreatDoorB6
import Derived.Test.YthpdkjenadngoaaGreatDoorB7
import Derived.Test.YthpdkjenadngoaaGreatDoorB8
import Derived.Test.YthpdkjenadngoaaGreatDoorB9
import Derived.Test.YthpdkjenadngoaaGreatDoorB10
import Derived.Test.YthpdkjenadngoaaGreatDoorB11
import Derived.Test.YthpdkjenadngoaaGreatDoorB12
import Derived.Test.YthpdkjenadngoaaGreatDoorB13
import Derived.Test.YthpdkjenadngoaaGreatDoorB14
import Derived.Test.YthpdkjenadngoaaGreatDoorB15
namespace Go.Proofs.YthpdkjenadngoaaGreatDoor.heap
open Go Go.RowKit Go.Deep Go.Proofs.YthpdkjenadngoaaGreatDoor.rose Go.Proofs.YthpdkjenadngoaaGreatDoor Go.Proofs.YthpdkjenadngoaaGreatDoor.fun Go.Proofs.YthpdkjenadngoaaGreatDoor.ints Go.Proofs.YthpdkjenadngoaaGreatDoor.cur Go.Proofs.YthpdkjenadngoaaGreatDoor.words
set_option linter.unusedVariables false
set_option linter.unusedSimpArgs false

theorem code_below {w w' : World} {a : Option Addr} {len : Nat} (h : cur.Code w.heap.size w a len) (hb : Below w.heap.size w w') : cur.Code w'.heap.size w' a len := by
  refine ⟨h.1, fun hl => ?_⟩
  obtain ⟨b, off, e, hlt, hz⟩ := h.2 hl
  refine ⟨b, off, e, Nat.lt_of_lt_of_le hlt hb.size, fun j hj => ?_⟩
  obtain ⟨z, hc1, h0, h1⟩ := hz j hj
  exact ⟨z, by rw [hb.cell (p := ⟨b, off + j, none⟩) hlt]; exact hc1, h0, h1⟩
section
variable {B p r2 hb : Nat} {w wK w5 w6 w9 : World} {a : Option Addr} {c : Nat} {W : List Int} {hf bs nx : Int} {ar : Option Addr} {cr : Nat} {rs : List Int} {ks : List Int}
theorem dkrow_turn {v : Value} (h : DK B p r2 hb w wK a c W hf bs nx ar cr rs) (hk : IRow w5 wK.heap.size v ks) (hg : wK.grownBy w5 (some p)) (hc : Cur B w6 p) (hg6 : w5.grownBy w6 (some p)) :
    DK B p r2 hb w w6 a c W hf bs nx ar cr rs ∧ IRow w6 wK.heap.size v ks ∧ wK.grownBy w6 (some p) := by
  have h1 := h.lt
  have h2 := h.ord
  have g6 := hg.trans hg6
  exact ⟨h.turn hc g6, ⟨own_same hk.1 fun q hq => hg6.block q (hk.lt q hq).2 fun e => by simp only [Option.some.injEq] at e; have := (hk.lt q hq).1; omega, hk.2⟩, g6⟩
theorem dkrow_app {X : Obj} {ak a9 : Option Addr} {ck c9 : Nat} {y : Int} (h : DK B p r2 hb w wK a c W hf bs nx ar cr rs) (hk : IRow w6 wK.heap.size (.slice ak ks.length ck) ks) (hg : wK.grownBy w6 (some p)) (hc : Cur B w6 p) (o9 : w9.ownsRow wK.heap.size 3 1 (.slice a9 (ks.length + 1) c9) (ks.length + 1) (ks.map (Value.int .i64) ++ [.int .i64 y]))
    (g9 : (w6.alloc X).grownBy w9 (Value.slice ak ks.length ck).ownBlock) (hy : InR y) : DK B p r2 hb w w9 a c W hf bs nx ar cr rs ∧ IRow w9 wK.heap.size (.slice a9 (ks ++ [y]).length c9) (ks ++ [y]) ∧ wK.grownBy w9 (some p) := by
  have h1 := h.lt
  have h2 := h.ord
  have hs := hg.size
  have hO : ∀ q, (Value.slice ak ks.length ck).ownBlock = some q → wK.heap.size ≤ q := fun q hq => (hk.lt q hq).1
  have hcur : Cur B w9 p := cur_of (hc.on (World.grownBy_alloc w6 X none)) fun q hq => g9.block q (by simp; omega) fun e => by have := hO q e.symm; omega
  have hgr : wK.grownBy w9 (some p) := ⟨g9.os.trans hg.os, g9.tape.trans hg.tape, g9.output.trans hg.output, by have := g9.size; simp at this; omega, fun q hq hn => (g9.block q (by simp; omega) fun e => by have := hO q e.symm; omega).trans ((Below.heap_alloc _ _ _ (by omega)).trans (hg.block q hq hn))⟩
  exact ⟨h.turn hcur hgr, irow_app o9 hk.2 hy, hgr⟩
end

end Go.Proofs.YthpdkjenadngoaaGreatDoor.heap

namespace Go.Proofs.YthpdkjenadngoaaGreatDoor.heap
open Go Go.RowKit Go.Deep Go.Proofs.YthpdkjenadngoaaGreatDoor.rose Go.Proofs.YthpdkjenadngoaaGreatDoor Go.Proofs.YthpdkjenadngoaaGreatDoor.fun Go.Proofs.YthpdkjenadngoaaGreatDoor.ints Go.Proofs.YthpdkjenadngoaaGreatDoor.cur Go.Proofs.YthpdkjenadngoaaGreatDoor.words
set_option linter.unusedVariables false
set_option linter.unusedSimpArgs false

set_option maxRecDepth 100000 in
set_option maxHeartbeats 32000000 in
theorem drawCollect_any (a : Option Addr) (len cap : Nat) (w : World) (hC : cur.Code w.heap.size w a len) :
    Calls Tryz.prog 5 #[.slice a len cap] w fun e w' => ∃ cs T v rs, e = .returned (.tuple #[.agg cs.toArray, v]) ∧ (rs : List Int).length ≤ 250 ∧ intsSh.rep w' (fun b => w.heap.size ≤ b ∧ b < w'.heap.size) [v] rs ∧ Heaped w w' cs T := by
  obtain ⟨ti, hti, hz0, hz1, hz2⟩ := int_info
  have TI : Hid (Tryz.prog.info? 3 = some ti ∧ ti.zero = some (.int .i64 0) ∧ ti.size = 1 ∧ ti.bytes = 8) := ⟨hti, hz0, hz1, hz2⟩
  have h1 := new_any a len cap w.heap.size (w.alloc (.cells #[.slice none 0 0, .int .i64 0, .int .i64 0, .int .i64 0] 26)) (code_new hC _) (by simp)
  simp only [World.size_alloc] at h1
  clear hC hti hz0 hz1 hz2
  go_enter Tryz.func5, Tryz.ntmps5
  go_wp2_with fail
  refine h1.mono ?_
  rintro e w1 ⟨rfl, hc1, hg1, hs1⟩
  have h2 := drawHeap_any w.heap.size (w.heap.size + 1) w1 hc1
  go_wp2_with fail
  refine h2.mono ?_
  rintro e w2 ⟨a2, c2, W, hf, bs, nx, ar, cr, rs, rfl, hD⟩
  have hrl := hD.rl
  obtain ⟨wK, hwK⟩ : ∃ wK, wK = w2.alloc (.cells #[.slice a2 W.length c2, .int .i64 hf, .int .i64 bs, .int .i64 nx] 26) := ⟨_, rfl⟩
  have HWK := hid_of hwK
  have K0 := hid_of (DK.start hc1 hg1 hs1 hD)
  rw [← hwK] at K0
  have hwKs : w2.heap.size + 1 = wK.heap.size := by rw [hwK]; simp
  have hnr : w2.heap.size ≠ w.heap.size := by have := K0.out.ord; omega
  clear hc1 hg1 hs1 hD h1 h2 hwK
  obtain ⟨g, hg, -⟩ := K0.out.root (j := 0) (by omega)
  subst hg
  have RC : Hid (∀ wi, DK w.heap.size (w.heap.size + 1) w.heap.size w2.heap.size w wi a2 c2 W hf bs nx (some ⟨g, 0, none⟩) cr rs → ∀ j (hj : j < rs.length), wi.cell? ⟨g, j, none⟩ = some (.int .i64 rs[j]) ∧ InR rs[j]) := fun wi hd j hj => by
    obtain ⟨g', hg', e, hi⟩ := hd.root hj
    simp only [Option.some.injEq, Addr.mk.injEq, and_true] at hg'
    subst hg'
    exact ⟨e, hi⟩
  have S0 : Hid (DK w.heap.size (w.heap.size + 1) w.heap.size w2.heap.size w (wK.alloc (.cells #[] 3)) a2 c2 W hf bs nx (some ⟨g, 0, none⟩) cr rs ∧ IRow (wK.alloc (.cells #[] 3)) wK.heap.size (.slice (some ⟨wK.heap.size, 0, none⟩) ([] : List Int).length 0) [] ∧ wK.grownBy (wK.alloc (.cells #[] 3)) (some (w.heap.size + 1))) := ⟨K0.out.new _, irow_none wK (Nat.le_refl _), World.grownBy_alloc _ _ _⟩
  go_wp2
  rw [← HWK.out]
  try rw [hwKs]
  clear HWK
  have HWKS := hid_of hwKs
  clear hwKs
  go_loopw [7, 8] (fun v7 v8 wi => ∃ (k : Nat) (ak : Option Addr) (ck : Nat) (ks : List Int), k ≤ 4 ∧ v8 = .int .i64 k ∧ v7 = .slice ak ks.length ck ∧ ks.length ≤ k ∧ Hid (DK w.heap.size (w.heap.size + 1) w.heap.size w2.heap.size w wi a2 c2 W hf bs nx (some ⟨g, 0, none⟩) cr rs ∧ IRow wi wK.heap.size (.slice ak ks.length ck) ks ∧ wK.grownBy wi (some (w.heap.size + 1)))) (fun _ v8 _ => 4 - (intOf v8).toNat)
  case atStart => exact ⟨0, _, _, [], by omega, rfl, rfl, by simp, S0⟩
  case round =>
    clear S0
    obtain ⟨k, ak, ck, ks, hk, rfl, rfl, hkl, HK⟩ := hrel
    have h5 := below_small w.heap.size (w.heap.size + 1) 4 _ HK.out.1.cur (by decide) (by decide)
    go_wp2_with fail
    refine h5.mono ?_
    rintro e w5 ⟨x5, rfl, x50, x51, hc5, hg5⟩
    have K5 := hid_of (dkrow_turn K0.out HK.out.2.1 HK.out.2.2 hc5 hg5)
    clear hc5 hg5 h5 HK
    by_cases hlk : (k : Int) < x5
    · have t5 : decide ((k : Int) < x5) = true := decide_eq_true hlk
      have h6 := below_small w.heap.size (w.heap.size + 1) (rs.length : Int) w5 K5.out.1.cur (by omega) (by omega)
      go_wp2_with fail
      refine h6.mono ?_
      rintro e w6 ⟨x6, rfl, x60, x61, hc6, hg6⟩
      have K6 := hid_of (dkrow_turn K0.out K5.out.2.1 K5.out.2.2 hc6 hg6)
      clear hc6 hg6 h6 K5
      obtain ⟨z, rfl⟩ := Int.eq_ofNat_of_zero_le x60
      have hzl : z < rs.length := by omega
      obtain ⟨e6, hin⟩ := RC.out w6 K6.out.1 z hzl
      generalize rs[z] = y6 at e6 hin
      have HIN := hid_of hin
      clear hin
      have RD : Hid (∀ X, (w6.alloc X).ownsRow wK.heap.size 3 1 (.slice ak ks.length ck) ks.length (ks.map (Value.int .i64))) := fun X => (K6.out.2.1.keep ((Below.refl _ _).alloc (Nat.le_refl _) X)).1
      have HZ : Hid (wK.heap.size ≤ w6.heap.size) := K6.out.2.2.size
      go_wp2_with (first
        | (at_builtin; refine wpList_append_own_at _ rfl (.tmp 23) (.tmp 31) 24 rfl wK.heap.size 3 ti _ 1 8 Tryz.underlying24 TI.out.1 TI.out.2.1 TI.out.2.2.1 TI.out.2.2.2 rfl (by decide) (.slice ak ks.length ck) _ _ rfl (RD.out _) ⟨w6.heap.size, 0, none⟩ 1 1 [.int .i64 y6] rfl rfl (new_cell _ _ _) (by simp; rfl) (by unfold maxLen; omega) (by omega) (by have := HZ.out; simp; omega) ?_; intro v9 w9 o9 g9 n9 e9; obtain ⟨a9, c9, rfl⟩ := own_form o9))
      have NX := hid_of (dkrow_app K0.out K6.out.2.1 K6.out.2.2 K6.out.1.cur o9 g9 HIN.out)
      clear o9 g9 n9 e9 e6
      go_round
      case rel => exact ⟨k + 1, a9, c9, ks ++ [y6], by omega, by go_num, by simp, by simp; omega, NX⟩
      case measure => simp [intOf]; omega
    · have t5 : decide ((k : Int) < x5) = false := decide_eq_false hlk
      have ca0 : w5.cell? ⟨w2.heap.size, 0, none⟩ = some (.slice a2 W.length c2) := K5.out.1.cell 0 rfl
      have ca1 : w5.cell? ⟨w2.heap.size, 1, none⟩ = some (.int .i64 hf) := K5.out.1.cell 1 rfl
      have ca2 : w5.cell? ⟨w2.heap.size, 2, none⟩ = some (.int .i64 bs) := K5.out.1.cell 2 rfl
      have ca3 : w5.cell? ⟨w2.heap.size, 3, none⟩ = some (.int .i64 nx) := K5.out.1.cell 3 rfl
      have r0 := K5.out.1.rcell 0 rfl
      have r1 := K5.out.1.rcell 1 rfl
      have r2 := K5.out.1.rcell 2 rfl
      have r3 := K5.out.1.rcell 3 rfl
      have rz := K5.out.1.rfree
      have hE := K5.out.1.done
      have hI : intsSh.rep (set4 w5 w.heap.size (.slice a2 W.length c2) (.int .i64 hf) (.int .i64 bs) (.int .i64 nx)) (fun b => w.heap.size ≤ b ∧ b < (set4 w5 w.heap.size (.slice a2 W.length c2) (.int .i64 hf) (.int .i64 bs) (.int .i64 nx)).heap.size) [.slice ak (ks).length ck] (ks) := by
        have hlt := K0.out.lt
        have hord := K0.out.ord
        exact intsSh.mono (intsSh.on (intsp_rep K5.out.2.1.sp) fun b hb' => set4_other w5 w.heap.size _ _ _ _ b (by omega)) fun b hb' => ⟨by omega, by rw [set4_size]; exact hb'.2⟩
      have hWl := K5.out.1.wl.2
      unfold set4 at hE hI
      have E4 := hid_of (And.intro hE (And.intro hI hWl))
      clear hE hI hWl K5
      go_wp2
      refine bodyPost_ret (v := .tuple #[.agg #[.slice a2 W.length c2, .int .i64 hf, .int .i64 bs, .int .i64 nx], .slice ak (ks).length ck]) (by simp [results, Tryz.f5, go_sem, r0, r1, r2, r3]) rfl ?_
      exact ⟨[.slice a2 W.length c2, .int .i64 hf, .int .i64 bs, .int .i64 nx], (W, hf, bs, nx), .slice ak (ks).length ck, ks, rfl, (by omega), E4.out.2.1, E4.out.1.1, E4.out.2.2, E4.out.1.2⟩

set_option maxRecDepth 100000 in
set_option maxHeartbeats 8000000 in
theorem drawReach_any (a : Option Addr) (len cap : Nat) (w : World) (hC : cur.Code w.heap.size w a len) :
    Calls Tryz.prog 10 #[.slice a len cap] w fun e w' => ∃ cs T v rs, e = .returned (.tuple #[.agg cs.toArray, v]) ∧ (rs : List Int).length ≤ 250 ∧ intsSh.rep w' (fun b => w.heap.size ≤ b ∧ b < w'.heap.size) [v] rs ∧ Heaped w w' cs T := by
  have h1 := new_any a len cap w.heap.size (w.alloc (.cells #[.slice none 0 0, .int .i64 0, .int .i64 0, .int .i64 0] 26)) (code_new hC _) (by simp)
  simp only [World.size_alloc] at h1
  clear hC
  go_enter Tryz.func10, Tryz.ntmps10
  go_wp2_with fail
  refine h1.mono ?_
  rintro e w1 ⟨rfl, hc1, hg1, hs1⟩
  have h2 := drawHeap_any w.heap.size (w.heap.size + 1) w1 hc1
  go_wp2_with fail
  refine h2.mono ?_
  rintro e w2 ⟨a2, c2, W, hf, bs, nx, ar, cr, rs, rfl, hD⟩
  have hrl := hD.rl
  have K := hid_of (DK.start hc1 hg1 hs1 hD)
  clear hc1 hg1 hs1 hD h1 h2
  have d0 := K.out.cell 0 rfl
  have d1 := K.out.cell 1 rfl
  have d2 := K.out.cell 2 rfl
  have d3 := K.out.cell 3 rfl
  have r0 := K.out.rcell 0 rfl
  have r1 := K.out.rcell 1 rfl
  have r2 := K.out.rcell 2 rfl
  have r3 := K.out.rcell 3 rfl
  have rz := K.out.rfree
  have hE := K.out.done
  have hI : intsSh.rep (set4 (w2.alloc (.cells #[.slice a2 W.length c2, .int .i64 hf, .int .i64 bs, .int .i64 nx] 26)) w.heap.size (.slice a2 W.length c2) (.int .i64 hf) (.int .i64 bs) (.int .i64 nx)) (fun b => w.heap.size ≤ b ∧ b < (set4 (w2.alloc (.cells #[.slice a2 W.length c2, .int .i64 hf, .int .i64 bs, .int .i64 nx] 26)) w.heap.size (.slice a2 W.length c2) (.int .i64 hf) (.int .i64 bs) (.int .i64 nx)).heap.size) [.slice ar rs.length cr] rs := by
    have hlt := K.out.lt
    have hord := K.out.ord
    exact intsSh.mono (intsSh.on (intsp_rep K.out.row.sp) fun b hb' => set4_other _ w.heap.size _ _ _ _ b (by omega)) fun b hb' => ⟨by omega, by rw [set4_size]; exact hb'.2⟩
  unfold set4 at hE hI
  have E4 := hid_of (And.intro hE hI)
  clear hE hI
  go_wp2
  refine bodyPost_ret (v := .tuple #[.agg #[.slice a2 W.length c2, .int .i64 hf, .int .i64 bs, .int .i64 nx], .slice ar rs.length cr]) (by simp [results, Tryz.f10, go_sem, r0, r1, r2, r3]) rfl ?_
  exact ⟨[.slice a2 W.length c2, .int .i64 hf, .int .i64 bs, .int .i64 nx], (W, hf, bs, nx), .slice ar rs.length cr, rs, rfl, hrl.2, E4.out.2, E4.out.1.1, K.out.wl.2, E4.out.1.2⟩

set_option maxRecDepth 100000 in
set_option maxHeartbeats 8000000 in
theorem drawShape_any (a : Option Addr) (len cap : Nat) (w : World) (hC : cur.Code w.heap.size w a len) :
    Calls Tryz.prog 11 #[.slice a len cap] w fun e w' => ∃ cs T v rs, e = .returned (.tuple #[.agg cs.toArray, v]) ∧ (rs : List Int).length ≤ 250 ∧ intsSh.rep w' (fun b => w.heap.size ≤ b ∧ b < w'.heap.size) [v] rs ∧ Heaped w w' cs T := by
  obtain ⟨u1, hu1⟩ : ∃ u1, u1 = w.alloc (.cells #[.slice none 0 0, .int .i64 0, .int .i64 0, .int .i64 0] 26) := ⟨_, rfl⟩
  have HU := hid_of hu1
  have BA : Hid (Below w.heap.size w u1) := by show Below _ _ _; rw [hu1]; exact (Below.refl _ _).alloc (Nat.le_refl _) _
  have SZ : Hid (u1.heap.size = w.heap.size + 1) := by show _ = _; rw [hu1]; simp
  have RB : Hid (u1.heap[w.heap.size]? = some (.cells #[.slice none 0 0, .int .i64 0, .int .i64 0, .int .i64 0] 26)) := by show _ = _; rw [hu1]; exact alloc_top _ _
  have h1 := drawCollect_any a len cap u1 (by rw [hu1]; exact code_below hC ((Below.refl _ _).alloc (Nat.le_refl _) _))
  clear hC hu1
  go_enter Tryz.func11, Tryz.ntmps11
  go_wp2_with fail
  rw [← HU.out]
  refine h1.mono ?_
  rintro e w2 ⟨cs, T, v, rs, rfl, hrl, hI, hH, hWl, hB⟩
  obtain ⟨W, a2, c2, hf, bs, nx, rfl, rfl, hF⟩ := heapp_open hH
  have hz := hB.size
  have BB : Hid (Below w.heap.size w w2) := BA.out.trans (hB.mono BA.out.size)
  have RB2 : Hid (w2.heap[w.heap.size]? = some (.cells #[.slice none 0 0, .int .i64 0, .int .i64 0, .int .i64 0] 26)) := (hB.block _ (by have := SZ.out; omega)).trans RB.out
  obtain ⟨wK, hwK⟩ : ∃ wK, wK = w2.alloc (.cells #[.slice a2 W.length c2, .int .i64 hf, .int .i64 bs, .int .i64 nx] 26) := ⟨_, rfl⟩
  have HWK := hid_of hwK
  have hA : Below w2.heap.size w2 wK := by rw [hwK]; exact (Below.refl _ _).alloc (Nat.le_refl _) _
  have KB : Hid (wK.heap[w2.heap.size]? = some (.cells #[.slice a2 W.length c2, .int .i64 hf, .int .i64 bs, .int .i64 nx] 26)) := by show _ = _; rw [hwK]; exact alloc_top _ _
  have KR : Hid (wK.heap[w.heap.size]? = some (.cells #[.slice none 0 0, .int .i64 0, .int .i64 0, .int .i64 0] 26)) := (hA.block _ (by have := SZ.out; omega)).trans RB2.out
  have so := set4_other wK w.heap.size (.slice a2 W.length c2) (.int .i64 hf) (.int .i64 bs) (.int .i64 nx)
  have hE : heapSp.rep (set4 wK w.heap.size (.slice a2 W.length c2) (.int .i64 hf) (.int .i64 bs) (.int .i64 nx)) (fun b => w.heap.size ≤ b ∧ b < (set4 wK w.heap.size (.slice a2 W.length c2) (.int .i64 hf) (.int .i64 bs) (.int .i64 nx)).heap.size) [.slice a2 W.length c2, .int .i64 hf, .int .i64 bs, .int .i64 nx] (W, hf, bs, nx) ∧ intsSh.rep (set4 wK w.heap.size (.slice a2 W.length c2) (.int .i64 hf) (.int .i64 bs) (.int .i64 nx)) (fun b => w.heap.size ≤ b ∧ b < (set4 wK w.heap.size (.slice a2 W.length c2) (.int .i64 hf) (.int .i64 bs) (.int .i64 nx)).heap.size) [v] rs ∧ Below w.heap.size w (set4 wK w.heap.size (.slice a2 W.length c2) (.int .i64 hf) (.int .i64 bs) (.int .i64 nx)) := by
    have hsz := SZ.out
    have hAs := hA.size
    refine ⟨heapSp.mono (heapSp.on hH fun b hb' => (so b (by omega)).trans (hA.block b hb'.2)) fun b hb' => ⟨by omega, by rw [set4_size]; omega⟩, intsSh.mono (intsSh.on hI fun b hb' => (so b (by omega)).trans (hA.block b hb'.2)) fun b hb' => ⟨by omega, by rw [set4_size]; omega⟩, ?_⟩
    have hBK := BB.out.trans (hA.mono BB.out.size)
    exact ⟨hBK.os, hBK.tape, hBK.output, by rw [set4_size]; exact hBK.size, fun k hk => (so k (by omega)).trans (hBK.block k hk)⟩
  unfold set4 at hE
  have E4 := hid_of hE
  have d0 : wK.cell? ⟨w2.heap.size, 0, none⟩ = some (.slice a2 W.length c2) := by simp [World.cell?, KB.out]
  have d1 : wK.cell? ⟨w2.heap.size, 1, none⟩ = some (.int .i64 hf) := by simp [World.cell?, KB.out]
  have d2 : wK.cell? ⟨w2.heap.size, 2, none⟩ = some (.int .i64 bs) := by simp [World.cell?, KB.out]
  have d3 : wK.cell? ⟨w2.heap.size, 3, none⟩ = some (.int .i64 nx) := by simp [World.cell?, KB.out]
  have r0 : wK.cell? ⟨w.heap.size, 0, none⟩ = some (.slice none 0 0) := by simp [World.cell?, KR.out]
  have r1 : wK.cell? ⟨w.heap.size, 1, none⟩ = some (.int .i64 0) := by simp [World.cell?, KR.out]
  have r2 : wK.cell? ⟨w.heap.size, 2, none⟩ = some (.int .i64 0) := by simp [World.cell?, KR.out]
  have r3 : wK.cell? ⟨w.heap.size, 3, none⟩ = some (.int .i64 0) := by simp [World.cell?, KR.out]
  have rz : ∀ j, wK.frozen? ⟨w.heap.size, j, none⟩ = false := fun j => by simp [World.frozen?, KR.out]
  rw [HWK.out] at d0 d1 d2 d3 r0 r1 r2 r3 rz
  clear hE so hA hwK hI hH hB hF
  go_wp2
  rw [← HWK.out] at r0 r1 r2 r3 ⊢
  refine bodyPost_ret (v := .tuple #[.agg #[.slice a2 W.length c2, .int .i64 hf, .int .i64 bs, .int .i64 nx], v]) (by simp [results, Tryz.f11, go_sem, r0, r1, r2, r3]) rfl ?_
  exact ⟨[.slice a2 W.length c2, .int .i64 hf, .int .i64 bs, .int .i64 nx], (W, hf, bs, nx), v, rs, rfl, hrl, E4.out.2.1, E4.out.1, hWl, E4.out.2.2⟩

end Go.Proofs.YthpdkjenadngoaaGreatDoor.heap

namespace Go.Proofs.YthpdkjenadngoaaGreatDoor.heap
open Go Go.RowKit Go.Proofs.YthpdkjenadngoaaGreatDoor.rose Go.Proofs.YthpdkjenadngoaaGreatDoor Go.Proofs.YthpdkjenadngoaaGreatDoor.fun
set_option linter.unusedVariables false

theorem scan_inv {T : HeapD} (h : heapB T = true) : ∀ (f k : Nat) (out : List Int), OInv T out → OInv T (scanF T.1 f k out) := by
  intro f
  induction f with
  | zero => intro k out ho; exact ho
  | succ f ih =>
    intro k out ho
    by_cases hk : k < out.length
    · rw [scan_more hk]
      exact ih _ _ (ho.adds (kids_there h (ho.sub _ (List.getElem_mem hk))))
    · rw [scan_end (by omega)]; exact ho
theorem order_inv {T : HeapD} {rs : List Int} (h : rightB T rs = true) : OInv T (orderF T rs) :=
  scan_inv (right_is h).1 _ _ _ ((OInv.nil T).adds (right_is h).2)
theorem order_len {T : HeapD} {rs : List Int} (h : rightB T rs = true) : (orderF T rs).length ≤ 6000 := by
  have := (order_inv h).len
  have := places_len (right_is h).1
  omega

end Go.Proofs.YthpdkjenadngoaaGreatDoor.heap
