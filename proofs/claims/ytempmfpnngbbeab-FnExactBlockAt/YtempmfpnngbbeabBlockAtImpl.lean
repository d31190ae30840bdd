/-
  The program's BlockAt, at every heap and place; nothing that was there is turned.
-/
import Derived.Test.YtempmfpnngbbeabBlockImpl
namespace Go.Proofs.Ytempmfpnngbbeab.heap
open Go Go.RowKit Go.Proofs.Ytempmfpnngbbeab.rose Go.Proofs.Ytempmfpnngbbeab Go.Proofs.Ytempmfpnngbbeab.fun Go.Proofs.Ytempmfpnngbbeab.words Go.Proofs.Ytempmfpnngbbeab.ints
set_option linter.unusedVariables false
set_option linter.unusedSimpArgs false

theorem tag_same {x : Int} (h : 0 ≤ x) : tagF x = tagS x := by unfold tagF tagS; rw [Int.tdiv_eq_ediv_of_nonneg (by omega)]
/-- A place's header is none below 0. -/
theorem plF_pos {W : List Int} {nx : Nat} : ∀ {p : Nat}, (plF W nx p).2 = true → ∀ z : Nat, (z : Int) ∈ (plF W nx p).1 → 0 ≤ W.getD z 0 := by
  intro p
  induction hd : nx - p using Nat.strongRecOn generalizing p with
  | _ d ih =>
    intro hok z hz
    by_cases hp : p < nx
    · rcases hb : badH (W.getD p 0) ((nx : Int) - p) with _ | _
      · rw [plF_more hp hb] at hok hz
        rcases List.mem_cons.1 hz with e | hz
        · obtain rfl : z = p := by omega
          unfold badH at hb
          simp only [Bool.or_eq_false_iff, decide_eq_false_iff_not] at hb
          omega
        · exact ih (nx - (p + 1 + (manyF (W.getD p 0)).toNat)) (by omega) rfl hok z hz
      · rw [plF_bad hp hb] at hok; cases hok
    · rw [plF_end (by omega)] at hz; cases hz

set_option maxRecDepth 100000 in
set_option maxHeartbeats 4000000 in
theorem implBlockAt (T : HeapD) (p : Int) (cs : List Value) (w : World) (hw : (wt T) ≤ 1048576) (h1 : -9223372036854775808 ≤ p) (h2 : p ≤ 9223372036854775807) (h : heapSh.rep w (· < w.heap.size) cs T) :
    Calls Try.prog 13 #[.agg cs.toArray, .int .i64 p] w fun e w' => (∃ v', e = .returned (.tuple #[.bool (blockF T p).1, .int .i64 (blockF T p).2.1, v', .bool (blockF T p).2.2.2]) ∧ intsSp.rep w' (fun b => w.heap.size ≤ b ∧ b < w'.heap.size) [v'] (blockF T p).2.2.1) ∧ Below w.heap.size w w' := by
  obtain ⟨W, a0, c0, half, base, next, rfl, rfl, f0, f1, f2, f3⟩ := heap_open h
  have A0 : Hid (ArgK w (w.alloc (.cells #[.slice a0 W.length c0, .int .i64 half, .int .i64 base, .int .i64 next] 27)) [.slice a0 W.length c0, .int .i64 half, .int .i64 base, .int .i64 next] 27) := ArgK.new _ _ _ rfl
  have hcall := hold_is W a0 c0 half base next _ (heapSh.mono (heapSh.below h A0.out.bel) fun b hlt => Nat.lt_of_lt_of_le hlt A0.out.bel.size)
  have hz : w.heap.size ≤ (w.alloc (.cells #[.slice a0 W.length c0, .int .i64 half, .int .i64 base, .int .i64 next] 27)).heap.size := A0.out.bel.size
  have HZ : Hid _ := hz
  obtain ⟨r, hr⟩ : ∃ r, r = blockF (W, half, base, next) p := ⟨_, rfl⟩
  have HR : Hid (r = blockF (W, half, base, next) p) := hr
  rw [← hr]
  clear h f0 f1 f2 f3 hw hr hz
  rcases q : heapB (W, half, base, next) with _ | _
  · have HF : Hid (r = (false, 0, [], false)) := by show _ = _; rw [HR.out]; unfold blockF; rw [q]; rfl
    go_enter Try.func13, Try.ntmps13
    go_wp2_with fail
    refine hcall.mono ?_
    rintro e w1 ⟨ho, hb⟩
    obtain ⟨pp, rfl⟩ := ho.1 q
    have A1 := A0.out.on hb
    clear hcall hb ho
    go_wp2
    refine bodyPost_ret (v := .tuple #[.bool false, .int .i64 0, .slice none 0 0, .bool false]) (by simp [results, Try.f13, go_sem]) rfl ?_
    rw [HF.out]
    exact ⟨⟨_, rfl, (IRow.nil _ w.heap.size).sp⟩, A1.bel⟩
  · go_enter Try.func13, Try.ntmps13
    go_wp2_with fail
    refine hcall.mono ?_
    rintro e w1 ⟨ho, hb⟩
    obtain ⟨hb', hm, hf, bs, nx, M, e1, e2, e3, rfl, hH, hM⟩ := ho.2 q
    subst e1 e2 e3
    have A1 : Hid (ArgK w w1 [.slice a0 W.length c0, .int .i64 hf, .int .i64 bs, .int .i64 nx] 27) := A0.out.on hb
    have HPT : plT (W, (hf : Int), (bs : Int), (nx : Int)) = plF W nx bs := by unfold plT; simp
    have hplok : (plF W nx bs).2 = true := by have := heapB_places_ok q; rwa [HPT] at this
    have hat := atB_is hM (by have := hH.siz; omega) (plF_span hplok) p
    rcases q2 : decide (p ∈ (plF W nx bs).1) with _ | _
    · have HF : Hid (r = (false, 0, [], false)) := by show _ = _; rw [HR.out]; unfold blockF; rw [q, HPT, q2]; rfl
      have hc2 := block_no hH p h1 h2 (by rw [hat, q2])
      clear hcall hb ho hH hM hat HPT hplok q2 q
      go_wp2_with fail
      refine hc2.mono ?_
      rintro e w2 ⟨rfl, hb2⟩
      have B2 : Hid (Below w.heap.size w w2) := A1.out.bel.trans (hb2.mono HZ.out)
      clear hc2 hb2
      go_wp2
      go_quiet (fail)
      go_wp2
      refine bodyPost_ret (v := .tuple #[.bool false, .int .i64 0, .slice none 0 0, .bool false]) (by simp [results, Try.f13, go_sem]) rfl ?_
      rw [HF.out]
      exact ⟨⟨_, rfl, (IRow.nil _ w.heap.size).sp⟩, drewN_bel (B2.out.alloc B2.out.size _) _⟩
    · have hpm : p ∈ (plF W nx bs).1 := of_decide_eq_true q2
      obtain ⟨z, rfl, hz1, hz2⟩ := plF_in hplok p hpm
      obtain ⟨mn, hmn⟩ : ∃ t : Nat, (manyF (W.getD z 0)).toNat = t := ⟨_, rfl⟩
      have hzm : z + mn < W.length := by rw [hmn] at hz2; have := hH.siz; omega
      have hmi : manyF (W.getD z 0) = (mn : Int) := by have := many_in (W.getD z 0); omega
      have HF : Hid (r = (funF (W.getD z 0), tagS (W.getD z 0), (W.drop (z + 1)).take mn, true)) := by
        show _ = _; rw [HR.out]; unfold blockF; rw [q, HPT, q2]
        simp only [Bool.and_self, if_true, Int.toNat_natCast]
        rw [hmn, tag_same (plF_pos hplok z hpm)]
      have hc2 := block_yes hH z mn (by rw [hat, q2]) hmn hzm
      obtain ⟨x, hx⟩ : ∃ x, x = W.getD z 0 := ⟨_, rfl⟩
      rw [← hx] at hc2 HF
      clear hcall hb ho hH hM hat HPT hplok q2 q hpm hz1 hz2 hmn hzm hmi hx
      go_wp2_with fail
      refine hc2.mono ?_
      rintro e w2 ⟨⟨v, rfl, hI⟩, hb2⟩
      have B2 : Hid (Below w.heap.size w w2) := A1.out.bel.trans (hb2.mono HZ.out)
      have RI : Hid (IRow w2 w1.heap.size v ((W.drop (z + 1)).take mn)) := hI
      have H1 : Hid (w.heap.size ≤ w1.heap.size) := A1.out.bel.size
      clear hc2 hb2 hI
      go_wp2
      go_quiet (fail)
      go_wp2
      refine bodyPost_ret (v := .tuple #[.bool (funF x), .int .i64 (tagS x), v, .bool true]) (by simp [results, Try.f13, go_sem]) rfl ?_
      rw [HF.out]
      have R3 := RI.out.keep ((Below.refl _ _).alloc (Nat.le_refl _) (.cells #[.bool (funF x), .int .i64 (tagS x), .int .i64 mn] 52))
      exact ⟨⟨_, rfl, (show IRow ((w2.alloc _).drewN _) w.heap.size v _ from ⟨own_base R3.1 H1.out, R3.2⟩).sp⟩, drewN_bel (B2.out.alloc B2.out.size _) _⟩

end Go.Proofs.Ytempmfpnngbbeab.heap
