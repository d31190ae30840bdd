/-
  The model's BlockAt, at every heap and every number; nothing that was there is turned.
-/
import Derived.Test.YtempmfpnngbbeabB1
import Derived.Test.YtempmfpnngbbeabB2
import Derived.Test.YtempmfpnngbbeabB3
import Derived.Test.YtempmfpnngbbeabB4
import Derived.Test.YtempmfpnngbbeabB5
import Derived.Test.YtempmfpnngbbeabB6
import Derived.Test.YtempmfpnngbbeabB7
import Derived.Test.YtempmfpnngbbeabB8
import Derived.Test.YtempmfpnngbbeabB9
import Derived.Test.YtempmfpnngbbeabB10
import Derived.Test.YtempmfpnngbbeabB11
import Derived.Test.YtempmfpnngbbeabB12
import Derived.Test.YtempmfpnngbbeabB13
import Derived.Test.YtempmfpnngbbeabB14
import Derived.Test.YtempmfpnngbbeabB15
import Derived.Test.YtempmfpnngbbeabB16
import Derived.Test.YtempmfpnngbbeabB17
import Derived.Test.YtempmfpnngbbeabB18
import Derived.Test.YtempmfpnngbbeabB19
namespace Go.Proofs.Ytempmfpnngbbeab.heap
open Go Go.RowKit Go.Proofs.Ytempmfpnngbbeab.rose Go.Proofs.Ytempmfpnngbbeab Go.Proofs.Ytempmfpnngbbeab.fun Go.Proofs.Ytempmfpnngbbeab.words Go.Proofs.Ytempmfpnngbbeab.ints
set_option linter.unusedVariables false
set_option linter.unusedSimpArgs false

/-- The block at a place: whether it is a function, its tag, its kids. -/
def blockF (T : HeapD) (p : Int) : Bool × Int × List Int × Bool :=
  if heapB T && decide (p ∈ (plT T).1) then (funF (T.1.getD p.toNat 0), tagF (T.1.getD p.toNat 0), (T.1.drop (p.toNat + 1)).take (manyF (T.1.getD p.toNat 0)).toNat, true) else (false, 0, [], false)
theorem heapB_places_ok {T : HeapD} (h : heapB T = true) : (plT T).2 = true := by
  unfold heapB at h
  simp only [Bool.and_eq_true] at h
  exact h.1.2
theorem irow_take {w : World} {base : Nat} {v : Value} {l : List Int} (h : IRow w base v l) (hb : base ≤ w.heap.size) : intsSp.rep w (fun b => base ≤ b ∧ b < w.heap.size) [v] l := h.sp

set_option maxRecDepth 100000 in
set_option maxHeartbeats 8000000 in
theorem specBlockAt (T : HeapD) (p : Int) (cs : List Value) (w : World) (hw : (wt T) ≤ 1048576) (h1 : -9223372036854775808 ≤ p) (h2 : p ≤ 9223372036854775807) (h : heapSh.rep w (· < w.heap.size) cs T) :
    Calls Try.prog 12 #[.agg cs.toArray, .int .i64 p] w fun e w' => (∃ v', e = .returned (.tuple #[.bool (blockF T p).1, .int .i64 (blockF T p).2.1, v', .bool (blockF T p).2.2.2]) ∧ intsSp.rep w' (fun b => w.heap.size ≤ b ∧ b < w'.heap.size) [v'] (blockF T p).2.2.1) ∧ Below w.heap.size w w' := by
  have AH : Hid (∀ w' : World, Below w.heap.size w w' → heapSh.rep w' (· < w'.heap.size) cs T) := fun w' hb => heapSh.mono (heapSh.below h hb) fun b hlt => Nat.lt_of_lt_of_le hlt hb.size
  obtain ⟨W, a0, c0, half, base, next, rfl, rfl, f0, f1, f2, f3⟩ := heap_open h
  obtain ⟨a, cap, e, hcap, hmax, hat⟩ := ints_open f0
  cases e
  have HA : Hid _ := hat
  have hcap0 : W.length ≤ c0 ∧ c0 ≤ maxLen := ⟨hcap, hmax⟩
  have hmx : (W.length : Int) ≤ 9223372036854775807 := by unfold maxLen at hmax; omega
  obtain ⟨r, hr⟩ : ∃ r, r = blockF (W, half, base, next) p := ⟨_, rfl⟩
  have HR : Hid (r = blockF (W, half, base, next) p) := hr
  rw [← hr]
  have BA : Hid (Below w.heap.size w (w.alloc (.cells #[.slice a0 W.length c0, .int .i64 half, .int .i64 base, .int .i64 next] 27))) := (Below.refl _ _).alloc (Nat.le_refl _) _
  have A0 : Hid (ArgK w (w.alloc (.cells #[.slice a0 W.length c0, .int .i64 half, .int .i64 base, .int .i64 next] 27)) [.slice a0 W.length c0, .int .i64 half, .int .i64 base, .int .i64 next] 27) := ArgK.new _ _ _ rfl
  have hcall := specHeapOk (W, half, base, next) _ _ (AH.out _ BA.out)
  clear h f0 hr hcap hmax hat f1 f2 f3
  rcases q1 : heapB (W, half, base, next) with _ | _
  · have HF : Hid (r = (false, 0, [], false)) := by show _ = _; rw [HR.out]; unfold blockF; rw [q1]; rfl
    rw [q1] at hcall
    clear q1
    go_enter Try.func12, Try.ntmps12
    go_wp2_with fail
    refine hcall.mono ?_
    rintro e w1 ⟨rfl, hb⟩
    have A1 := A0.out.on hb
    clear hcall hb
    go_wp2
    refine bodyPost_ret (v := .tuple #[.bool false, .int .i64 0, .slice (some ⟨w1.heap.size, 0, none⟩) 0 0, .bool false]) (by simp [results, Try.f12, go_sem]) rfl ?_
    rw [HF.out]
    exact ⟨⟨_, rfl, (irow_lit0 w1 (base := w.heap.size) A1.bel.size).sp⟩, A1.bel.alloc A1.bel.size _⟩
  · rw [q1] at hcall
    have Q1 : Hid (heapB (W, half, base, next) = true) := q1
    have HD : Hid (headB (W, half, base, next) = true) := heapB_in q1
    have hin := head_in (heapB_in q1)
    dsimp only at hin
    have hok := heapB_places_ok q1
    have HPI : Hid (p ∈ (plT (W, half, base, next)).1 → ∃ z : Nat, p = z ∧ z + (manyF (W.getD z 0)).toNat < W.length) := fun hp => by
      obtain ⟨z, hz, -, h4⟩ := plF_in (W := W) (nx := next.toNat) (p := base.toNat) hok p hp
      exact ⟨z, hz, by omega⟩
    have HOK : Hid ((plT (W, half, base, next)).2 = true) := hok
    have hw6 : W.length ≤ 6000 := by omega
    clear q1 hok hin
    go_enter Try.func12, Try.ntmps12
    go_wp2_with fail
    refine hcall.mono ?_
    rintro e w1 ⟨rfl, hb⟩
    have A1 : Hid (ArgK w w1 [.slice a0 W.length c0, .int .i64 half, .int .i64 base, .int .i64 next] 27) := A0.out.on hb
    have hcall2 := specPlacesOf (W, half, base, next) _ w1 HD.out (AH.out _ A1.out.bel)
    rw [HOK.out] at hcall2
    have k0 : w1.cell? ⟨w.heap.size, 0, none⟩ = some (.slice a0 W.length c0) := A1.out.cell 0 rfl
    have k1 : w1.cell? ⟨w.heap.size, 1, none⟩ = some (.int .i64 half) := A1.out.cell 1 rfl
    have k2 : w1.cell? ⟨w.heap.size, 2, none⟩ = some (.int .i64 base) := A1.out.cell 2 rfl
    have k3 : w1.cell? ⟨w.heap.size, 3, none⟩ = some (.int .i64 next) := A1.out.cell 3 rfl
    clear hcall hb
    go_wp2_with fail
    refine hcall2.mono ?_
    rintro e w2 ⟨⟨v2, l, rfl, hr2, hl2⟩, hb2⟩
    have hle := hl2 (by first | rfl | trivial)
    have A2 : Hid (ArgK w w2 [.slice a0 W.length c0, .int .i64 half, .int .i64 base, .int .i64 next] 27) := A1.out.on hb2
    have REP : Hid (intsSh.rep w2 (· < w2.heap.size) [v2] l) := intsSh.mono (intsp_rep hr2.sp) fun q hq => hq.2
    have HLE : Hid (l = (plT (W, half, base, next)).1) := hle
    clear hcall2 hr2 hl2 hb2 hle k0 k1 k2 k3
    rcases q2 : decide (p ∈ l) with _ | _
    · have HF : Hid (r = (false, 0, [], false)) := by
        show _ = _; rw [HR.out]; unfold blockF; rw [Q1.out, ← HLE.out, q2]; rfl
      have hc3 := in7_is v2 w2 q2 REP.out
      clear q2
      go_wp2_with fail
      refine hc3.mono ?_
      rintro e w3 ⟨rfl, hx⟩
      subst w3
      clear hc3
      go_wp2
      refine bodyPost_ret (v := .tuple #[.bool false, .int .i64 0, .slice (some ⟨w2.heap.size, 0, none⟩) 0 0, .bool false]) (by simp [results, Try.f12, go_sem]) rfl ?_
      rw [HF.out]
      exact ⟨⟨_, rfl, (irow_lit0 w2 (base := w.heap.size) A2.out.bel.size).sp⟩, A2.out.bel.alloc A2.out.bel.size _⟩
    · have hpm : p ∈ l := of_decide_eq_true q2
      obtain ⟨z, rfl, hzm⟩ := HPI.out (by rw [← HLE.out]; exact hpm)
      have hzl : z < W.length := by omega
      have hc3 := in7_is v2 w2 q2 REP.out
      obtain ⟨b, o, rfl, hS, hc, r1, r2⟩ := HA.out z hzl
      have hgd := getD_at hzl
      have e1 : w2.cell? ⟨b, o + z, none⟩ = some (.int .i64 W[z]) := (A2.out.bel.cell (p := ⟨b, o + z, none⟩) hS).trans hc
      have k0 : w2.cell? ⟨w.heap.size, 0, none⟩ = some (.slice (some ⟨b, o, none⟩) W.length c0) := A2.out.cell 0 rfl
      have hm := many_in W[z]
      obtain ⟨x, hx⟩ : ∃ x, x = W[z] := ⟨_, rfl⟩
      rw [← hx] at e1 hm hgd r1 r2
      obtain ⟨mn, hmn⟩ : ∃ t : Nat, (t : Int) = manyF x := ⟨(manyF x).toNat, by omega⟩
      have hmt : (manyF x).toNat = mn := by omega
      have HF : Hid (r = (funF x, tagF x, (W.drop (z + 1)).take mn, true)) := by
        show _ = _; rw [HR.out]; unfold blockF; rw [Q1.out, ← HLE.out, q2]
        simp only [Bool.and_self, if_true, Int.toNat_natCast]
        rw [hgd, hmt]
      have hzm2 : z + mn < W.length := by rw [hgd, hmt] at hzm; exact hzm
      have hc4 := of_is x w2 r1 r2
      rw [← hmn] at hc4
      have zI : (z : Int) < (W.length : Int) := by omega
      obtain ⟨ti, hti, hz0, hz1, hz2⟩ := int_info
      have TI : Hid (Try.prog.info? 3 = some ti ∧ ti.zero = some (.int .i64 0) ∧ ti.size = 1 ∧ ti.bytes = 8) := ⟨hti, hz0, hz1, hz2⟩
      have k0' : (w2.alloc (.cells #[] 3)).cell? ⟨w.heap.size, 0, none⟩ = some (.slice (some ⟨b, o, none⟩) W.length c0) := (((Below.refl _ w2).alloc (Nat.le_refl _) _).cell (p := ⟨w.heap.size, 0, none⟩) A2.out.lt).trans k0
      obtain ⟨ad, had, NW⟩ : ∃ ad : Addr, (if c0 = z + 1 then some (⟨b, o, none⟩ : Addr) else some ⟨b, o + (z + 1), none⟩) = some ad ∧ ∀ j u, (((W.drop (z + 1)).take mn).map (Value.int .i64))[j]? = some u → (w2.alloc (.cells #[] 3)).cell? (ad.add j) = some u := by
        by_cases hcz : c0 = z + 1
        · refine ⟨⟨b, o, none⟩, by rw [if_pos hcz], fun j u hu => ?_⟩
          have : mn = 0 := by omega
          subst this
          simp at hu
        · refine ⟨⟨b, o + (z + 1), none⟩, by rw [if_neg hcz], fun j u hu => ?_⟩
          rw [List.getElem?_map] at hu
          obtain ⟨y, hy, rfl⟩ := Option.map_eq_some_iff.1 hu
          rw [List.getElem?_take] at hy
          split at hy
          · rename_i hj
            rw [List.getElem?_drop] at hy
            obtain ⟨hq, rfl⟩ := List.getElem?_eq_some_iff.1 hy
            obtain ⟨b', o', hbo, hS', hc', -, -⟩ := HA.out (z + 1 + j) hq
            cases hbo
            rw [add_plain]
            refine (((Below.refl _ w2).alloc (Nat.le_refl _) _).cell (p := ⟨b, o + (z + 1) + j, none⟩) (Nat.lt_of_lt_of_le hS' A2.out.bel.size)).trans ?_
            rw [show o + (z + 1) + j = o + (z + 1 + j) by omega]
            exact (A2.out.bel.cell (p := ⟨b, o + (z + 1 + j), none⟩) hS').trans hc'
          · cases hy
      have HAD : Hid ((if c0 = z + 1 then some (⟨b, o, none⟩ : Addr) else some ⟨b, o + (z + 1), none⟩) = some ad) := had
      have HNW : Hid _ := NW
      have L0 : Hid ((w2.alloc (.cells #[] 3)).ownsRow w2.heap.size 3 1 (.slice (some ⟨w2.heap.size, 0, none⟩) 0 0) 0 []) := World.ownsRow_lit w2 #[] 0 (Nat.le_refl _) (Nat.zero_le _) rfl
      have LM : Hid ((((W.drop (z + 1)).take mn).map (Value.int .i64)).length = mn * 1) := by show _ = _; simp; omega
      have O1 : Hid (∀ u ∈ ((W.drop (z + 1)).take mn).map (Value.int .i64), u.oneCell' = true) := fun u hu => by obtain ⟨y, _, rfl⟩ := List.mem_map.1 hu; rfl
      have RNG : Hid (∀ y ∈ (W.drop (z + 1)).take mn, InR y) := fun y hy => by
        obtain ⟨j, hj, e⟩ := List.getElem_of_mem (List.mem_of_mem_drop (List.mem_of_mem_take hy))
        obtain ⟨_, _, _, _, _, r3, r4⟩ := HA.out j hj
        rw [← e]; exact ⟨r3, r4⟩
      have hmn63 : mn ≤ 63 := by omega
      have hcc : W.length ≤ c0 := hcap0.1
      have hc5 : (c0 : Int) ≤ 9223372036854775807 := by have := hcap0.2; unfold maxLen at this; omega
      clear q2 hpm hgd hx hmn hmt hzm hti hz0 hz1 hz2 had NW hc hm
      go_wp2_with fail
      refine hc3.mono ?_
      rintro e w3 ⟨rfl, hx⟩
      subst w3
      clear hc3
      go_wp2_with fail
      refine hc4.mono ?_
      rintro e w3 ⟨rfl, hx⟩
      subst w3
      clear hc4
      go_wp2_with (first
        | (at_builtin; refine wpList_append_own_at _ rfl (.tmp 39) (.tmp 48) 22 rfl w2.heap.size 3 ti _ 1 8 Try.underlying22 TI.out.1 TI.out.2.1 TI.out.2.2.1 TI.out.2.2.2 rfl (by decide) (.slice (some ⟨w2.heap.size, 0, none⟩) 0 0) 0 [] rfl L0.out ad mn (c0 - (z + 1)) (((W.drop (z + 1)).take mn).map (Value.int .i64)) (by simp [Act.eval, HAD.out]) LM.out HNW.out O1.out (by unfold maxLen; omega) (by omega) (by simp) ?_; intro v6 w6 o6 g6 n6 e6))
      all_goals
        have hln : ((W.drop (z + 1)).take mn).length = mn := by simp; omega
        obtain ⟨a6, c6, rfl⟩ := own_form o6
        refine bodyPost_ret (v := .tuple #[.bool (funF x), .int .i64 (tagF x), .slice a6 (0 + mn) c6, .bool true]) (by simp [results, Try.f12, go_sem]) rfl ?_
        rw [HF.out]
        have hB6 : Below w2.heap.size w2 w6 := ((Below.refl _ w2).alloc (Nat.le_refl _) _).grown g6 (by simp) (fun k hk => by cases hk; exact Nat.le_refl _)
        have hI : IRow w6 w2.heap.size (.slice a6 (0 + mn) c6) ((W.drop (z + 1)).take mn) := ⟨by rw [hln, Nat.zero_add]; have := o6; rw [Nat.zero_add, List.nil_append] at this; exact this, RNG.out⟩
        exact ⟨⟨_, rfl, (irow_base0 hI A2.out.bel.size).sp⟩, A2.out.bel.trans (hB6.mono A2.out.bel.size)⟩

end Go.Proofs.Ytempmfpnngbbeab.heap
