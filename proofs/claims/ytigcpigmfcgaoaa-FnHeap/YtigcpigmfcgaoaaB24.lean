/-
  The model's DrawAlloc; nothing that was there is turned.
  The laws' sameInts and sameHeap: of the same true; nothing is turned.
-/
import Derived.WalkSmall
import Derived.Deep.QuietTactic
import Derived.BigQuiet
import Derived.Deep.RegionWith
import Derived.Test.YtigcpigmfcgaoaaB1
import Derived.Test.YtigcpigmfcgaoaaB2
import Derived.Test.YtigcpigmfcgaoaaB3
import Derived.Test.YtigcpigmfcgaoaaB4
import Derived.Test.YtigcpigmfcgaoaaB5
import Derived.Test.YtigcpigmfcgaoaaB6
import Derived.Test.YtigcpigmfcgaoaaB7
import Derived.Test.YtigcpigmfcgaoaaB8
import Derived.Test.YtigcpigmfcgaoaaB9
import Derived.Test.YtigcpigmfcgaoaaB10
import Derived.Test.YtigcpigmfcgaoaaB11
import Derived.Test.YtigcpigmfcgaoaaB12
import Derived.Test.YtigcpigmfcgaoaaB13
import Derived.Test.YtigcpigmfcgaoaaB14
import Derived.Test.YtigcpigmfcgaoaaB15
import Derived.Test.YtigcpigmfcgaoaaB16
import Derived.Test.YtigcpigmfcgaoaaB17
import Derived.Test.YtigcpigmfcgaoaaB18
import Derived.Test.YtigcpigmfcgaoaaB19
import Derived.Test.YtigcpigmfcgaoaaB20
import Derived.Test.YtigcpigmfcgaoaaB21
import Derived.Test.YtigcpigmfcgaoaaB22
import Derived.Test.YtigcpigmfcgaoaaB23
namespace Go.Proofs.Ytigcpigmfcgaoaa.heap
open Go Go.RowKit Go.Deep Go.Proofs.Ytigcpigmfcgaoaa.rose Go.Proofs.Ytigcpigmfcgaoaa Go.Proofs.Ytigcpigmfcgaoaa.fun Go.Proofs.Ytigcpigmfcgaoaa.ints Go.Proofs.Ytigcpigmfcgaoaa.cur Go.Proofs.Ytigcpigmfcgaoaa.words
set_option linter.unusedVariables false
set_option linter.unusedSimpArgs false

theorem set4_cell {r2 hb j : Nat} {W : World} {u x0 x1 x2 x3 : Value} (hc : W.cell? ⟨hb, j, none⟩ = some u) (hne : hb ≠ r2) : ((((W.setCell ⟨r2, 0, none⟩ x0).setCell ⟨r2, 1, none⟩ x1).setCell ⟨r2, 2, none⟩ x2).setCell ⟨r2, 3, none⟩ x3).cell? ⟨hb, j, none⟩ = some u := by
  rw [← hc]
  exact World.cell?_of_block (set4_other W r2 x0 x1 x2 x3 hb hne)

set_option maxRecDepth 100000 in
set_option maxHeartbeats 32000000 in
theorem drawAlloc_any (a : Option Addr) (len cap : Nat) (w : World) (hC : cur.Code w.heap.size w a len) :
    Calls Try.prog 5 #[.slice a len cap] w fun e w' => ∃ cs T fn tag v kids, e = .returned (.tuple #[.agg cs.toArray, .bool fn, .int .i64 tag, v]) ∧ InR tag ∧ (kids : List Int).length ≤ 6 ∧ intsSh.rep w' (fun b => w.heap.size ≤ b ∧ b < w'.heap.size) [v] kids ∧ Heaped w w' cs T := by
  obtain ⟨ti, hti, hz0, hz1, hz2⟩ := int_info
  have TI : Hid (Try.prog.info? 3 = some ti ∧ ti.zero = some (.int .i64 0) ∧ ti.size = 1 ∧ ti.bytes = 8) := ⟨hti, hz0, hz1, hz2⟩
  have h1 := new_any a len cap w.heap.size (w.alloc (.cells #[.slice none 0 0, .int .i64 0, .int .i64 0, .int .i64 0] 26)) (code_new hC _) (by simp)
  simp only [World.size_alloc] at h1
  clear hC hti hz0 hz1 hz2
  go_enter Try.func5, Try.ntmps5
  go_wp2_with fail
  refine h1.mono ?_
  rintro e w1 ⟨rfl, hc1, hg1, hs1⟩
  have h2 := drawHeap_any w.heap.size (w.heap.size + 1) w1 hc1
  go_wp2_with fail
  refine h2.mono ?_
  rintro e w2 ⟨a2, c2, W, hf, bs, nx, ar, cr, rs, rfl, hD⟩
  have hrl := hD.rl
  obtain ⟨wK, hwK⟩ : ∃ wK, wK = w2.alloc (.cells #[.slice a2 W.length c2, .int .i64 hf, .int .i64 bs, .int .i64 nx] 26) := ⟨_, rfl⟩
  have HWK := hid_of hwK
  have K0 := hid_of (DK.start hc1 hg1 hs1 hD)
  rw [← hwK] at K0
  have hwKs : w2.heap.size + 1 = wK.heap.size := by rw [hwK]; simp
  have hnr : w2.heap.size ≠ w.heap.size := by have := K0.out.ord; omega
  clear hc1 hg1 hs1 hD h1 h2 hwK
  obtain ⟨g, hg, -⟩ := K0.out.root (j := 0) (by omega)
  subst hg
  have RC : Hid (∀ wi, DK w.heap.size (w.heap.size + 1) w.heap.size w2.heap.size w wi a2 c2 W hf bs nx (some ⟨g, 0, none⟩) cr rs → ∀ j (hj : j < rs.length), wi.cell? ⟨g, j, none⟩ = some (.int .i64 rs[j]) ∧ InR rs[j]) := fun wi hd j hj => by
    obtain ⟨g', hg', e, hi⟩ := hd.root hj
    simp only [Option.some.injEq, Addr.mk.injEq, and_true] at hg'
    subst hg'
    exact ⟨e, hi⟩
  have S0 : Hid (DK w.heap.size (w.heap.size + 1) w.heap.size w2.heap.size w (wK.alloc (.cells #[] 3)) a2 c2 W hf bs nx (some ⟨g, 0, none⟩) cr rs ∧ IRow (wK.alloc (.cells #[] 3)) wK.heap.size (.slice (some ⟨wK.heap.size, 0, none⟩) ([] : List Int).length 0) [] ∧ wK.grownBy (wK.alloc (.cells #[] 3)) (some (w.heap.size + 1))) := ⟨K0.out.new _, irow_none wK (Nat.le_refl _), World.grownBy_alloc _ _ _⟩
  go_wp2
  rw [← HWK.out]
  try rw [hwKs]
  clear HWK
  have HWKS := hid_of hwKs
  clear hwKs
  go_loopw [9, 10] (fun v9 v10 wi => ∃ (k : Nat) (ak : Option Addr) (ck : Nat) (ks : List Int), k ≤ 4 ∧ v10 = .int .i64 k ∧ v9 = .slice ak ks.length ck ∧ ks.length ≤ k ∧ Hid (DK w.heap.size (w.heap.size + 1) w.heap.size w2.heap.size w wi a2 c2 W hf bs nx (some ⟨g, 0, none⟩) cr rs ∧ IRow wi wK.heap.size (.slice ak ks.length ck) ks ∧ wK.grownBy wi (some (w.heap.size + 1)))) (fun _ v10 _ => 4 - (intOf v10).toNat)
  case atStart => exact ⟨0, _, _, [], by omega, rfl, rfl, by simp, S0⟩
  case round =>
    clear S0
    obtain ⟨k, ak, ck, ks, hk, rfl, rfl, hkl, HK⟩ := hrel
    have h5 := below_small w.heap.size (w.heap.size + 1) 4 _ HK.out.1.cur (by decide) (by decide)
    go_wp2_with fail
    refine h5.mono ?_
    rintro e w5 ⟨x5, rfl, x50, x51, hc5, hg5⟩
    have K5 := hid_of (dkrow_turn K0.out HK.out.2.1 HK.out.2.2 hc5 hg5)
    clear hc5 hg5 h5 HK
    by_cases hlk : (k : Int) < x5
    · have t5 : decide ((k : Int) < x5) = true := decide_eq_true hlk
      have h6 := below_small w.heap.size (w.heap.size + 1) (rs.length : Int) w5 K5.out.1.cur (by omega) (by omega)
      go_wp2_with fail
      refine h6.mono ?_
      rintro e w6 ⟨x6, rfl, x60, x61, hc6, hg6⟩
      have K6 := hid_of (dkrow_turn K0.out K5.out.2.1 K5.out.2.2 hc6 hg6)
      clear hc6 hg6 h6 K5
      obtain ⟨z, rfl⟩ := Int.eq_ofNat_of_zero_le x60
      have hzl : z < rs.length := by omega
      obtain ⟨e6, hin⟩ := RC.out w6 K6.out.1 z hzl
      generalize rs[z] = y6 at e6 hin
      have HIN := hid_of hin
      clear hin
      have RD : Hid (∀ X, (w6.alloc X).ownsRow wK.heap.size 3 1 (.slice ak ks.length ck) ks.length (ks.map (Value.int .i64))) := fun X => (K6.out.2.1.keep ((Below.refl _ _).alloc (Nat.le_refl _) X)).1
      have HZ : Hid (wK.heap.size ≤ w6.heap.size) := K6.out.2.2.size
      go_wp2_with (first
        | (at_builtin; refine wpList_append_own_at _ rfl (.tmp 26) (.tmp 34) 24 rfl wK.heap.size 3 ti _ 1 8 Try.underlying24 TI.out.1 TI.out.2.1 TI.out.2.2.1 TI.out.2.2.2 rfl (by decide) (.slice ak ks.length ck) _ _ rfl (RD.out _) ⟨w6.heap.size, 0, none⟩ 1 1 [.int .i64 y6] rfl rfl (new_cell _ _ _) (by simp; rfl) (by unfold maxLen; omega) (by omega) (by have := HZ.out; simp; omega) ?_; intro v9 w9 o9 g9 n9 e9; obtain ⟨a9, c9, rfl⟩ := own_form o9))
      have NX := hid_of (dkrow_app K0.out K6.out.2.1 K6.out.2.2 K6.out.1.cur o9 g9 HIN.out)
      clear o9 g9 n9 e9 e6
      go_round
      case rel => exact ⟨k + 1, a9, c9, ks ++ [y6], by omega, by go_num, by simp, by simp; omega, NX⟩
      case measure => simp [intOf]; omega
    · have t5 : decide ((k : Int) < x5) = false := decide_eq_false hlk
      have h6 := once_any w.heap.size (w.heap.size + 1) 12 _ K5.out.1.cur (by decide) (by decide)
      go_wp2_with fail
      refine h6.mono ?_
      rintro e w6 ⟨x6, rfl, hc6, hg6⟩
      have K6 := hid_of (dkrow_turn K0.out K5.out.2.1 K5.out.2.2 hc6 hg6)
      clear hc6 hg6 h6 K5
      cases x6 with
      | false =>
        have h7 := once_any w.heap.size (w.heap.size + 1) 3 _ K6.out.1.cur (by decide) (by decide)
        go_wp2_with fail
        refine h7.mono ?_
        rintro e w7 ⟨fn, rfl, hc7, hg7⟩
        have K7 : Hid (DK w.heap.size (w.heap.size + 1) w.heap.size w2.heap.size w w7 a2 c2 W hf bs nx (some ⟨g, 0, none⟩) cr rs ∧ IRow w7 wK.heap.size (.slice ak (ks).length ck) (ks) ∧ wK.grownBy w7 (some (w.heap.size + 1))) := dkrow_turn K0.out K6.out.2.1 K6.out.2.2 hc7 hg7
        clear hc7 hg7 h7 K6
        have hBd : Below w7.heap.size w7 (w7.alloc (.cells #[.int .i64 0, .int .i64 1, .int .i64 7, .int .i64 3000, .int .i64 3001, .int .i64 (-1)] 3)).drew := ((Below.refl _ _).alloc (Nat.le_refl _) _).drew
        have KP : Hid (DK w.heap.size (w.heap.size + 1) w.heap.size w2.heap.size w (w7.alloc (.cells #[.int .i64 0, .int .i64 1, .int .i64 7, .int .i64 3000, .int .i64 3001, .int .i64 (-1)] 3)).drew a2 c2 W hf bs nx (some ⟨g, 0, none⟩) cr rs ∧ IRow (w7.alloc (.cells #[.int .i64 0, .int .i64 1, .int .i64 7, .int .i64 3000, .int .i64 3001, .int .i64 (-1)] 3)).drew wK.heap.size (.slice ak (ks).length ck) (ks) ∧ wK.grownBy (w7.alloc (.cells #[.int .i64 0, .int .i64 1, .int .i64 7, .int .i64 3000, .int .i64 3001, .int .i64 (-1)] 3)).drew (some (w.heap.size + 1))) := ⟨K7.out.1.on hBd, K7.out.2.1.keep hBd, K7.out.2.2.trans ⟨hBd.os, hBd.tape, hBd.output, hBd.size, fun k hk _ => hBd.block k hk⟩⟩
        have KL := hid_of (ints_new w7 [0, 1, 7, 3000, 3001, -1] 3 (by decide))
        have hp7 : w.heap.size + 1 < w7.heap.size := K7.out.1.cur.lt
        clear hBd
        have ca0 : w7.cell? ⟨w2.heap.size, 0, none⟩ = some (.slice a2 W.length c2) := K7.out.1.cell 0 rfl
        have ca1 : w7.cell? ⟨w2.heap.size, 1, none⟩ = some (.int .i64 hf) := K7.out.1.cell 1 rfl
        have ca2 : w7.cell? ⟨w2.heap.size, 2, none⟩ = some (.int .i64 bs) := K7.out.1.cell 2 rfl
        have ca3 : w7.cell? ⟨w2.heap.size, 3, none⟩ = some (.int .i64 nx) := K7.out.1.cell 3 rfl
        have cA0 : ∀ Y : Obj, (w7.alloc Y).cell? ⟨w2.heap.size, 0, none⟩ = some (.slice a2 W.length c2) := fun Y => (K7.out.1.new Y).cell 0 rfl
        have cA1 : ∀ Y : Obj, (w7.alloc Y).cell? ⟨w2.heap.size, 1, none⟩ = some (.int .i64 hf) := fun Y => (K7.out.1.new Y).cell 1 rfl
        have cA2 : ∀ Y : Obj, (w7.alloc Y).cell? ⟨w2.heap.size, 2, none⟩ = some (.int .i64 bs) := fun Y => (K7.out.1.new Y).cell 2 rfl
        have cA3 : ∀ Y : Obj, (w7.alloc Y).cell? ⟨w2.heap.size, 3, none⟩ = some (.int .i64 nx) := fun Y => (K7.out.1.new Y).cell 3 rfl
        go_wp2
        go_region_held3 (fun X => X.cell? ⟨w2.heap.size, 0, none⟩ = some (.slice a2 W.length c2) ∧ X.cell? ⟨w2.heap.size, 1, none⟩ = some (.int .i64 hf) ∧ X.cell? ⟨w2.heap.size, 2, none⟩ = some (.int .i64 bs) ∧ X.cell? ⟨w2.heap.size, 3, none⟩ = some (.int .i64 nx))
          (exact ⟨(by first | with_reducible exact ca0 | with_reducible exact cA0 _ | (rw [cell_drewD]; first | with_reducible exact ca0 | with_reducible exact cA0 _) | exact set4_cell ca0 hnr), (by first | with_reducible exact ca1 | with_reducible exact cA1 _ | (rw [cell_drewD]; first | with_reducible exact ca1 | with_reducible exact cA1 _) | exact set4_cell ca1 hnr), (by first | with_reducible exact ca2 | with_reducible exact cA2 _ | (rw [cell_drewD]; first | with_reducible exact ca2 | with_reducible exact cA2 _) | exact set4_cell ca2 hnr), (by first | with_reducible exact ca3 | with_reducible exact cA3 _ | (rw [cell_drewD]; first | with_reducible exact ca3 | with_reducible exact cA3 _) | exact set4_cell ca3 hnr)⟩)
          (first
            | (go_at_call 25; refine (pickInt_any w.heap.size (w.heap.size + 1) w7.heap.size 6 (w7.alloc (.cells #[.int .i64 0, .int .i64 1, .int .i64 7, .int .i64 3000, .int .i64 3001, .int .i64 (-1)] 3)).drew KP.out.1.cur (by decide) (by decide) (by omega) (by show _ < (World.alloc _ _).heap.size; simp) KL.out).mono ?_; rintro e wn ⟨tg, rfl, t0, t1, hcn, hgn⟩; have K9 : Hid (DK w.heap.size (w.heap.size + 1) w.heap.size w2.heap.size w wn a2 c2 W hf bs nx (some ⟨g, 0, none⟩) cr rs ∧ IRow wn wK.heap.size (.slice ak (ks).length ck) (ks) ∧ wK.grownBy wn (some (w.heap.size + 1))) := dkrow_turn K0.out KP.out.2.1 KP.out.2.2 hcn hgn; clear hcn hgn; replace ca0 : wn.cell? ⟨w2.heap.size, 0, none⟩ = some (.slice a2 W.length c2) := K9.out.1.cell 0 rfl; replace ca1 : wn.cell? ⟨w2.heap.size, 1, none⟩ = some (.int .i64 hf) := K9.out.1.cell 1 rfl; replace ca2 : wn.cell? ⟨w2.heap.size, 2, none⟩ = some (.int .i64 bs) := K9.out.1.cell 2 rfl; replace ca3 : wn.cell? ⟨w2.heap.size, 3, none⟩ = some (.int .i64 nx) := K9.out.1.cell 3 rfl; have r0 := K9.out.1.rcell 0 rfl; have r1 := K9.out.1.rcell 1 rfl; have r2 := K9.out.1.rcell 2 rfl; have r3 := K9.out.1.rcell 3 rfl; have rz := K9.out.1.rfree))
        all_goals
          have hE := K9.out.1.done
          have hI : intsSh.rep (set4 wn w.heap.size (.slice a2 W.length c2) (.int .i64 hf) (.int .i64 bs) (.int .i64 nx)) (fun b => w.heap.size ≤ b ∧ b < (set4 wn w.heap.size (.slice a2 W.length c2) (.int .i64 hf) (.int .i64 bs) (.int .i64 nx)).heap.size) [.slice ak (ks).length ck] (ks) := by
            have hlt := K0.out.lt
            have hord := K0.out.ord
            exact intsSh.mono (intsSh.on (intsp_rep K9.out.2.1.sp) fun b hb' => set4_other wn w.heap.size _ _ _ _ b (by omega)) fun b hb' => ⟨by omega, by rw [set4_size]; exact hb'.2⟩
          have hWl := K9.out.1.wl.2
          unfold set4 at hE hI
          have E4 := hid_of (And.intro hE (And.intro hI hWl))
          clear hE hI hWl K9 KP K7 KL ca0 ca1 ca2 ca3 cA0 cA1 cA2 cA3
          go_wp2
          refine bodyPost_ret (v := .tuple #[.agg #[.slice a2 W.length c2, .int .i64 hf, .int .i64 bs, .int .i64 nx], .bool fn, .int .i64 tg, .slice ak (ks).length ck]) (by simp [results, Try.f5, go_sem, r0, r1, r2, r3]) rfl ?_
          exact ⟨[.slice a2 W.length c2, .int .i64 hf, .int .i64 bs, .int .i64 nx], (W, hf, bs, nx), fn, tg, .slice ak (ks).length ck, ks, rfl, ⟨t0, t1⟩, (by omega), E4.out.2.1, E4.out.1.1, E4.out.2.2, E4.out.1.2⟩
      | true =>
        have RD : Hid (∀ X, (w6.alloc X).ownsRow wK.heap.size 3 1 (.slice ak ks.length ck) ks.length (ks.map (Value.int .i64))) := fun X => (K6.out.2.1.keep ((Below.refl _ _).alloc (Nat.le_refl _) X)).1
        have HZ : Hid (wK.heap.size ≤ w6.heap.size) := K6.out.2.2.size
        go_wp2_with (first
          | (at_builtin; refine wpList_append_own_at _ rfl (.tmp 38) (.tmp 39) 24 rfl wK.heap.size 3 ti _ 1 8 Try.underlying24 TI.out.1 TI.out.2.1 TI.out.2.2.1 TI.out.2.2.2 rfl (by decide) (.slice ak ks.length ck) _ _ rfl (RD.out _) ⟨w6.heap.size, 0, none⟩ 1 1 [.int .i64 98] rfl rfl (new_cell _ _ _) (by simp; rfl) (by unfold maxLen; omega) (by omega) (by have := HZ.out; simp; omega) ?_; intro v9 w9 o9 g9 n9 e9; obtain ⟨a9, c9, rfl⟩ := own_form o9))
        have K8 : Hid (DK w.heap.size (w.heap.size + 1) w.heap.size w2.heap.size w w9 a2 c2 W hf bs nx (some ⟨g, 0, none⟩) cr rs ∧ IRow w9 wK.heap.size (.slice a9 (ks ++ [98]).length c9) (ks ++ [98]) ∧ wK.grownBy w9 (some (w.heap.size + 1))) := dkrow_app K0.out K6.out.2.1 K6.out.2.2 K6.out.1.cur o9 g9 (by unfold InR; omega)
        have hkl8 : (ks ++ [98]).length ≤ 6 := by rw [List.length_append, List.length_singleton]; omega
        clear o9 g9 n9 e9 K6
        rw [show ks.length + 1 = (ks ++ [98]).length by simp]
        generalize ks ++ [98] = ks8 at K8 hkl8 ⊢
        have h7 := once_any w.heap.size (w.heap.size + 1) 3 _ K8.out.1.cur (by decide) (by decide)
        go_wp2_with fail
        refine h7.mono ?_
        rintro e w7 ⟨fn, rfl, hc7, hg7⟩
        have K7 : Hid (DK w.heap.size (w.heap.size + 1) w.heap.size w2.heap.size w w7 a2 c2 W hf bs nx (some ⟨g, 0, none⟩) cr rs ∧ IRow w7 wK.heap.size (.slice a9 (ks8).length c9) (ks8) ∧ wK.grownBy w7 (some (w.heap.size + 1))) := dkrow_turn K0.out K8.out.2.1 K8.out.2.2 hc7 hg7
        clear hc7 hg7 h7 K8
        have hBd : Below w7.heap.size w7 (w7.alloc (.cells #[.int .i64 0, .int .i64 1, .int .i64 7, .int .i64 3000, .int .i64 3001, .int .i64 (-1)] 3)).drew := ((Below.refl _ _).alloc (Nat.le_refl _) _).drew
        have KP : Hid (DK w.heap.size (w.heap.size + 1) w.heap.size w2.heap.size w (w7.alloc (.cells #[.int .i64 0, .int .i64 1, .int .i64 7, .int .i64 3000, .int .i64 3001, .int .i64 (-1)] 3)).drew a2 c2 W hf bs nx (some ⟨g, 0, none⟩) cr rs ∧ IRow (w7.alloc (.cells #[.int .i64 0, .int .i64 1, .int .i64 7, .int .i64 3000, .int .i64 3001, .int .i64 (-1)] 3)).drew wK.heap.size (.slice a9 (ks8).length c9) (ks8) ∧ wK.grownBy (w7.alloc (.cells #[.int .i64 0, .int .i64 1, .int .i64 7, .int .i64 3000, .int .i64 3001, .int .i64 (-1)] 3)).drew (some (w.heap.size + 1))) := ⟨K7.out.1.on hBd, K7.out.2.1.keep hBd, K7.out.2.2.trans ⟨hBd.os, hBd.tape, hBd.output, hBd.size, fun k hk _ => hBd.block k hk⟩⟩
        have KL := hid_of (ints_new w7 [0, 1, 7, 3000, 3001, -1] 3 (by decide))
        have hp7 : w.heap.size + 1 < w7.heap.size := K7.out.1.cur.lt
        clear hBd
        have ca0 : w7.cell? ⟨w2.heap.size, 0, none⟩ = some (.slice a2 W.length c2) := K7.out.1.cell 0 rfl
        have ca1 : w7.cell? ⟨w2.heap.size, 1, none⟩ = some (.int .i64 hf) := K7.out.1.cell 1 rfl
        have ca2 : w7.cell? ⟨w2.heap.size, 2, none⟩ = some (.int .i64 bs) := K7.out.1.cell 2 rfl
        have ca3 : w7.cell? ⟨w2.heap.size, 3, none⟩ = some (.int .i64 nx) := K7.out.1.cell 3 rfl
        have cA0 : ∀ Y : Obj, (w7.alloc Y).cell? ⟨w2.heap.size, 0, none⟩ = some (.slice a2 W.length c2) := fun Y => (K7.out.1.new Y).cell 0 rfl
        have cA1 : ∀ Y : Obj, (w7.alloc Y).cell? ⟨w2.heap.size, 1, none⟩ = some (.int .i64 hf) := fun Y => (K7.out.1.new Y).cell 1 rfl
        have cA2 : ∀ Y : Obj, (w7.alloc Y).cell? ⟨w2.heap.size, 2, none⟩ = some (.int .i64 bs) := fun Y => (K7.out.1.new Y).cell 2 rfl
        have cA3 : ∀ Y : Obj, (w7.alloc Y).cell? ⟨w2.heap.size, 3, none⟩ = some (.int .i64 nx) := fun Y => (K7.out.1.new Y).cell 3 rfl
        go_wp2
        go_region_held3 (fun X => X.cell? ⟨w2.heap.size, 0, none⟩ = some (.slice a2 W.length c2) ∧ X.cell? ⟨w2.heap.size, 1, none⟩ = some (.int .i64 hf) ∧ X.cell? ⟨w2.heap.size, 2, none⟩ = some (.int .i64 bs) ∧ X.cell? ⟨w2.heap.size, 3, none⟩ = some (.int .i64 nx))
          (exact ⟨(by first | with_reducible exact ca0 | with_reducible exact cA0 _ | (rw [cell_drewD]; first | with_reducible exact ca0 | with_reducible exact cA0 _) | exact set4_cell ca0 hnr), (by first | with_reducible exact ca1 | with_reducible exact cA1 _ | (rw [cell_drewD]; first | with_reducible exact ca1 | with_reducible exact cA1 _) | exact set4_cell ca1 hnr), (by first | with_reducible exact ca2 | with_reducible exact cA2 _ | (rw [cell_drewD]; first | with_reducible exact ca2 | with_reducible exact cA2 _) | exact set4_cell ca2 hnr), (by first | with_reducible exact ca3 | with_reducible exact cA3 _ | (rw [cell_drewD]; first | with_reducible exact ca3 | with_reducible exact cA3 _) | exact set4_cell ca3 hnr)⟩)
          (first
            | (go_at_call 25; refine (pickInt_any w.heap.size (w.heap.size + 1) w7.heap.size 6 (w7.alloc (.cells #[.int .i64 0, .int .i64 1, .int .i64 7, .int .i64 3000, .int .i64 3001, .int .i64 (-1)] 3)).drew KP.out.1.cur (by decide) (by decide) (by omega) (by show _ < (World.alloc _ _).heap.size; simp) KL.out).mono ?_; rintro e wn ⟨tg, rfl, t0, t1, hcn, hgn⟩; have K9 : Hid (DK w.heap.size (w.heap.size + 1) w.heap.size w2.heap.size w wn a2 c2 W hf bs nx (some ⟨g, 0, none⟩) cr rs ∧ IRow wn wK.heap.size (.slice a9 (ks8).length c9) (ks8) ∧ wK.grownBy wn (some (w.heap.size + 1))) := dkrow_turn K0.out KP.out.2.1 KP.out.2.2 hcn hgn; clear hcn hgn; replace ca0 : wn.cell? ⟨w2.heap.size, 0, none⟩ = some (.slice a2 W.length c2) := K9.out.1.cell 0 rfl; replace ca1 : wn.cell? ⟨w2.heap.size, 1, none⟩ = some (.int .i64 hf) := K9.out.1.cell 1 rfl; replace ca2 : wn.cell? ⟨w2.heap.size, 2, none⟩ = some (.int .i64 bs) := K9.out.1.cell 2 rfl; replace ca3 : wn.cell? ⟨w2.heap.size, 3, none⟩ = some (.int .i64 nx) := K9.out.1.cell 3 rfl; have r0 := K9.out.1.rcell 0 rfl; have r1 := K9.out.1.rcell 1 rfl; have r2 := K9.out.1.rcell 2 rfl; have r3 := K9.out.1.rcell 3 rfl; have rz := K9.out.1.rfree))
        all_goals
          have hE := K9.out.1.done
          have hI : intsSh.rep (set4 wn w.heap.size (.slice a2 W.length c2) (.int .i64 hf) (.int .i64 bs) (.int .i64 nx)) (fun b => w.heap.size ≤ b ∧ b < (set4 wn w.heap.size (.slice a2 W.length c2) (.int .i64 hf) (.int .i64 bs) (.int .i64 nx)).heap.size) [.slice a9 (ks8).length c9] (ks8) := by
            have hlt := K0.out.lt
            have hord := K0.out.ord
            exact intsSh.mono (intsSh.on (intsp_rep K9.out.2.1.sp) fun b hb' => set4_other wn w.heap.size _ _ _ _ b (by omega)) fun b hb' => ⟨by omega, by rw [set4_size]; exact hb'.2⟩
          have hWl := K9.out.1.wl.2
          unfold set4 at hE hI
          have E4 := hid_of (And.intro hE (And.intro hI hWl))
          clear hE hI hWl K9 KP K7 KL ca0 ca1 ca2 ca3 cA0 cA1 cA2 cA3
          go_wp2
          refine bodyPost_ret (v := .tuple #[.agg #[.slice a2 W.length c2, .int .i64 hf, .int .i64 bs, .int .i64 nx], .bool fn, .int .i64 tg, .slice a9 (ks8).length c9]) (by simp [results, Try.f5, go_sem, r0, r1, r2, r3]) rfl ?_
          exact ⟨[.slice a2 W.length c2, .int .i64 hf, .int .i64 bs, .int .i64 nx], (W, hf, bs, nx), fn, tg, .slice a9 (ks8).length c9, ks8, rfl, ⟨t0, t1⟩, hkl8, E4.out.2.1, E4.out.1.1, E4.out.2.2, E4.out.1.2⟩

end Go.Proofs.Ytigcpigmfcgaoaa.heap

namespace Go.Proofs.Ytigcpigmfcgaoaa.heap
open Go Go.RowKit Go.Proofs.Ytigcpigmfcgaoaa.rose Go.Proofs.Ytigcpigmfcgaoaa Go.Proofs.Ytigcpigmfcgaoaa.ints
set_option linter.unusedVariables false
set_option linter.unusedSimpArgs false

set_option maxHeartbeats 1000000 in
theorem sameInts_any (ks : List Int) (v1 v2 : Value) (w : World) (h : intsSh.rep w (· < w.heap.size) [v1] ks) (h' : intsSh.rep w (· < w.heap.size) [v2] ks) :
    Calls Try.prog 18 #[v1, v2] w fun e w' => e = .returned (.bool true) ∧ Below w.heap.size w w' := by
  obtain ⟨a, cap, rfl, hcap, hmax, hat⟩ := ints_open h
  obtain ⟨a', cap', rfl, hcap', hmax', hat'⟩ := ints_open h'
  have hmx : (ks.length : Int) ≤ 9223372036854775807 := by unfold maxLen at hmax; omega
  have HA : Hid _ := hat
  have HA' : Hid _ := hat'
  clear h h' hcap hmax hcap' hmax' hat hat'
  go_enter Try.func18, Try.ntmps18
  go_wp2
  go_loopw [5] (fun v5 wr => ∃ i : Nat, i ≤ ks.length ∧ v5 = .int .i64 i ∧ Hid (Below w.heap.size w wr)) (fun v5 _ => ks.length - (intOf v5).toNat)
  case atStart => exact ⟨0, Nat.zero_le _, rfl, Below.refl _ _⟩
  case round =>
    obtain ⟨i, hi, rfl, HB⟩ := hrel
    by_cases hlt : i < ks.length
    · obtain ⟨b, o, rfl, hS, hc, -⟩ := HA.out i hlt
      obtain ⟨b', o', rfl, hS', hc', -⟩ := HA'.out i hlt
      have e0 := (HB.out.cell (p := ⟨b, o + i, none⟩) hS).trans hc
      have e1 := (HB.out.cell (p := ⟨b', o' + i, none⟩) hS').trans hc'
      clear hc hc'
      go_wp2
      (try go_region)
      all_goals
        go_wp2
        go_round
        case rel => exact ⟨i + 1, by omega, by go_num, HB.out.drew⟩
        case measure => simp [intOf]; omega
    · obtain rfl : i = ks.length := by omega
      go_wp2
      go_ret
      exact ⟨rfl, HB.out⟩

set_option maxHeartbeats 1000000 in
theorem sameHeap_any (T : HeapD) (cs cs' : List Value) (w : World) (h : heapSh.rep w (· < w.heap.size) cs T) (h' : heapSh.rep w (· < w.heap.size) cs' T) :
    Calls Try.prog 8 #[.agg cs.toArray, .agg cs'.toArray] w fun e w' => e = .returned (.bool true) ∧ Below w.heap.size w w' := by
  obtain ⟨W, a, c, hf, bs, nx, rfl, rfl, f0, -⟩ := heap_open h
  obtain ⟨W', a', c', hf', bs', nx', hT, rfl, f0', -⟩ := heap_open h'
  simp only [Prod.mk.injEq] at hT
  obtain ⟨rfl, rfl, rfl, rfl⟩ := hT
  obtain ⟨V, hV⟩ : ∃ V, V = (w.alloc (.cells #[.slice a W.length c, .int .i64 hf, .int .i64 bs, .int .i64 nx] 26)).alloc (.cells #[.slice a' W.length c', .int .i64 hf, .int .i64 bs, .int .i64 nx] 26) := ⟨_, rfl⟩
  have hB : Below w.heap.size w V := by rw [hV]; exact ((Below.refl _ w).alloc (Nat.le_refl _) _).alloc (by simp) _
  have hcall := sameInts_any W (.slice a W.length c) (.slice a' W.length c') V (intsSh.mono (intsSh.below f0 hB) fun b hb => Nat.lt_of_lt_of_le hb hB.size) (intsSh.mono (intsSh.below f0' hB) fun b hb => Nat.lt_of_lt_of_le hb hB.size)
  have HV : Hid (V = (w.alloc (.cells #[.slice a W.length c, .int .i64 hf, .int .i64 bs, .int .i64 nx] 26)).alloc (.cells #[.slice a' W.length c', .int .i64 hf, .int .i64 bs, .int .i64 nx] 26)) := hV
  have HB : Hid (Below w.heap.size w V) := hB
  clear h h' f0 f0' hB hV
  go_enter Try.func8, Try.ntmps8
  go_wp2_with fail
  rw [← HV.out]
  refine hcall.mono ?_
  rintro e w1 ⟨rfl, hb⟩
  have B1 : Hid (Below w.heap.size w w1) := HB.out.trans (hb.mono HB.out.size)
  clear hcall hb
  go_wp2
  go_ret
  exact ⟨rfl, B1.out⟩

end Go.Proofs.Ytigcpigmfcgaoaa.heap
