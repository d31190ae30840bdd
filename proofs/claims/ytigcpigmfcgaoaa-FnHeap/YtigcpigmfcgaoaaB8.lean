/-
  The model's BlockAt, at every heap and every number; nothing that was there is turned.
  What follows of a block that was put into a heap (chapter 17): told in plain data.
-/
import Derived.Test.YtigcpigmfcgaoaaB1
import Derived.Test.YtigcpigmfcgaoaaB2
import Derived.Test.YtigcpigmfcgaoaaB3
import Derived.Test.YtigcpigmfcgaoaaB4
import Derived.Test.YtigcpigmfcgaoaaB5
import Derived.Test.YtigcpigmfcgaoaaB6
import Derived.Test.YtigcpigmfcgaoaaB7
namespace Go.Proofs.Ytigcpigmfcgaoaa.heap
open Go Go.RowKit Go.Proofs.Ytigcpigmfcgaoaa.rose Go.Proofs.Ytigcpigmfcgaoaa Go.Proofs.Ytigcpigmfcgaoaa.fun Go.Proofs.Ytigcpigmfcgaoaa.words Go.Proofs.Ytigcpigmfcgaoaa.ints
set_option linter.unusedVariables false
set_option linter.unusedSimpArgs false

/-- The block at a place: whether it is a function, its tag, its kids. -/
def blockF (T : HeapD) (p : Int) : Bool × Int × List Int × Bool :=
  if heapB T && decide (p ∈ (plT T).1) then (funF (T.1.getD p.toNat 0), tagF (T.1.getD p.toNat 0), (T.1.drop (p.toNat + 1)).take (manyF (T.1.getD p.toNat 0)).toNat, true) else (false, 0, [], false)
theorem heapB_places_ok {T : HeapD} (h : heapB T = true) : (plT T).2 = true := by
  unfold heapB at h
  simp only [Bool.and_eq_true] at h
  exact h.1.2
theorem irow_take {w : World} {base : Nat} {v : Value} {l : List Int} (h : IRow w base v l) (hb : base ≤ w.heap.size) : intsSp.rep w (fun b => base ≤ b ∧ b < w.heap.size) [v] l := h.sp

set_option maxRecDepth 100000 in
set_option maxHeartbeats 8000000 in
theorem specBlockAt (T : HeapD) (p : Int) (cs : List Value) (w : World) (hw : (wt T) ≤ 1048576) (h1 : -9223372036854775808 ≤ p) (h2 : p ≤ 9223372036854775807) (h : heapSh.rep w (· < w.heap.size) cs T) :
    Calls Try.prog 13 #[.agg cs.toArray, .int .i64 p] w fun e w' => (∃ v', e = .returned (.tuple #[.bool (blockF T p).1, .int .i64 (blockF T p).2.1, v', .bool (blockF T p).2.2.2]) ∧ intsSp.rep w' (fun b => w.heap.size ≤ b ∧ b < w'.heap.size) [v'] (blockF T p).2.2.1) ∧ Below w.heap.size w w' := by
  have AH : Hid (∀ w' : World, Below w.heap.size w w' → heapSh.rep w' (· < w'.heap.size) cs T) := fun w' hb => heapSh.mono (heapSh.below h hb) fun b hlt => Nat.lt_of_lt_of_le hlt hb.size
  obtain ⟨W, a0, c0, half, base, next, rfl, rfl, f0, f1, f2, f3⟩ := heap_open h
  obtain ⟨a, cap, e, hcap, hmax, hat⟩ := ints_open f0
  cases e
  have HA : Hid _ := hat
  have hcap0 : W.length ≤ c0 ∧ c0 ≤ maxLen := ⟨hcap, hmax⟩
  have hmx : (W.length : Int) ≤ 9223372036854775807 := by unfold maxLen at hmax; omega
  obtain ⟨r, hr⟩ : ∃ r, r = blockF (W, half, base, next) p := ⟨_, rfl⟩
  have HR : Hid (r = blockF (W, half, base, next) p) := hr
  rw [← hr]
  have BA : Hid (Below w.heap.size w (w.alloc (.cells #[.slice a0 W.length c0, .int .i64 half, .int .i64 base, .int .i64 next] 26))) := (Below.refl _ _).alloc (Nat.le_refl _) _
  have A0 : Hid (ArgK w (w.alloc (.cells #[.slice a0 W.length c0, .int .i64 half, .int .i64 base, .int .i64 next] 26)) [.slice a0 W.length c0, .int .i64 half, .int .i64 base, .int .i64 next] 26) := ArgK.new _ _ _ rfl
  have hcall := specHeapOk (W, half, base, next) _ _ (AH.out _ BA.out)
  clear h f0 hr hcap hmax hat f1 f2 f3
  rcases q1 : heapB (W, half, base, next) with _ | _
  · have HF : Hid (r = (false, 0, [], false)) := by show _ = _; rw [HR.out]; unfold blockF; rw [q1]; rfl
    rw [q1] at hcall
    clear q1
    go_enter Try.func13, Try.ntmps13
    go_wp2_with fail
    refine hcall.mono ?_
    rintro e w1 ⟨rfl, hb⟩
    have A1 := A0.out.on hb
    clear hcall hb
    go_wp2
    refine bodyPost_ret (v := .tuple #[.bool false, .int .i64 0, .slice (some ⟨w1.heap.size, 0, none⟩) 0 0, .bool false]) (by simp [results, Try.f13, go_sem]) rfl ?_
    rw [HF.out]
    exact ⟨⟨_, rfl, (irow_lit0 w1 (base := w.heap.size) A1.bel.size).sp⟩, A1.bel.alloc A1.bel.size _⟩
  · rw [q1] at hcall
    have Q1 : Hid (heapB (W, half, base, next) = true) := q1
    have HD : Hid (headB (W, half, base, next) = true) := heapB_in q1
    have hin := head_in (heapB_in q1)
    dsimp only at hin
    have hok := heapB_places_ok q1
    have HPI : Hid (p ∈ (plT (W, half, base, next)).1 → ∃ z : Nat, p = z ∧ z + (manyF (W.getD z 0)).toNat < W.length) := fun hp => by
      obtain ⟨z, hz, -, h4⟩ := plF_in (W := W) (nx := next.toNat) (p := base.toNat) hok p hp
      exact ⟨z, hz, by omega⟩
    have HOK : Hid ((plT (W, half, base, next)).2 = true) := hok
    have hw6 : W.length ≤ 6000 := by omega
    clear q1 hok hin
    go_enter Try.func13, Try.ntmps13
    go_wp2_with fail
    refine hcall.mono ?_
    rintro e w1 ⟨rfl, hb⟩
    have A1 : Hid (ArgK w w1 [.slice a0 W.length c0, .int .i64 half, .int .i64 base, .int .i64 next] 26) := A0.out.on hb
    have hcall2 := specPlacesOf (W, half, base, next) _ w1 HD.out (AH.out _ A1.out.bel)
    rw [HOK.out] at hcall2
    have k0 : w1.cell? ⟨w.heap.size, 0, none⟩ = some (.slice a0 W.length c0) := A1.out.cell 0 rfl
    have k1 : w1.cell? ⟨w.heap.size, 1, none⟩ = some (.int .i64 half) := A1.out.cell 1 rfl
    have k2 : w1.cell? ⟨w.heap.size, 2, none⟩ = some (.int .i64 base) := A1.out.cell 2 rfl
    have k3 : w1.cell? ⟨w.heap.size, 3, none⟩ = some (.int .i64 next) := A1.out.cell 3 rfl
    clear hcall hb
    go_wp2_with fail
    refine hcall2.mono ?_
    rintro e w2 ⟨⟨v2, l, rfl, hr2, hl2⟩, hb2⟩
    have hle := hl2 (by first | rfl | trivial)
    have A2 : Hid (ArgK w w2 [.slice a0 W.length c0, .int .i64 half, .int .i64 base, .int .i64 next] 26) := A1.out.on hb2
    have REP : Hid (intsSh.rep w2 (· < w2.heap.size) [v2] l) := intsSh.mono (intsp_rep hr2.sp) fun q hq => hq.2
    have HLE : Hid (l = (plT (W, half, base, next)).1) := hle
    clear hcall2 hr2 hl2 hb2 hle k0 k1 k2 k3
    rcases q2 : decide (p ∈ l) with _ | _
    · have HF : Hid (r = (false, 0, [], false)) := by
        show _ = _; rw [HR.out]; unfold blockF; rw [Q1.out, ← HLE.out, q2]; rfl
      have hc3 := in7_is v2 w2 q2 REP.out
      clear q2
      go_wp2_with fail
      refine hc3.mono ?_
      rintro e w3 ⟨rfl, hx⟩
      subst w3
      clear hc3
      go_wp2
      refine bodyPost_ret (v := .tuple #[.bool false, .int .i64 0, .slice (some ⟨w2.heap.size, 0, none⟩) 0 0, .bool false]) (by simp [results, Try.f13, go_sem]) rfl ?_
      rw [HF.out]
      exact ⟨⟨_, rfl, (irow_lit0 w2 (base := w.heap.size) A2.out.bel.size).sp⟩, A2.out.bel.alloc A2.out.bel.size _⟩
    · have hpm : p ∈ l := of_decide_eq_true q2
      obtain ⟨z, rfl, hzm⟩ := HPI.out (by rw [← HLE.out]; exact hpm)
      have hzl : z < W.length := by omega
      have hc3 := in7_is v2 w2 q2 REP.out
      obtain ⟨b, o, rfl, hS, hc, r1, r2⟩ := HA.out z hzl
      have hgd := getD_at hzl
      have e1 : w2.cell? ⟨b, o + z, none⟩ = some (.int .i64 W[z]) := (A2.out.bel.cell (p := ⟨b, o + z, none⟩) hS).trans hc
      have k0 : w2.cell? ⟨w.heap.size, 0, none⟩ = some (.slice (some ⟨b, o, none⟩) W.length c0) := A2.out.cell 0 rfl
      have hm := many_in W[z]
      obtain ⟨x, hx⟩ : ∃ x, x = W[z] := ⟨_, rfl⟩
      rw [← hx] at e1 hm hgd r1 r2
      obtain ⟨mn, hmn⟩ : ∃ t : Nat, (t : Int) = manyF x := ⟨(manyF x).toNat, by omega⟩
      have hmt : (manyF x).toNat = mn := by omega
      have HF : Hid (r = (funF x, tagF x, (W.drop (z + 1)).take mn, true)) := by
        show _ = _; rw [HR.out]; unfold blockF; rw [Q1.out, ← HLE.out, q2]
        simp only [Bool.and_self, if_true, Int.toNat_natCast]
        rw [hgd, hmt]
      have hzm2 : z + mn < W.length := by rw [hgd, hmt] at hzm; exact hzm
      have hc4 := of_is x w2 r1 r2
      rw [← hmn] at hc4
      have zI : (z : Int) < (W.length : Int) := by omega
      obtain ⟨ti, hti, hz0, hz1, hz2⟩ := int_info
      have TI : Hid (Try.prog.info? 3 = some ti ∧ ti.zero = some (.int .i64 0) ∧ ti.size = 1 ∧ ti.bytes = 8) := ⟨hti, hz0, hz1, hz2⟩
      have k0' : (w2.alloc (.cells #[] 3)).cell? ⟨w.heap.size, 0, none⟩ = some (.slice (some ⟨b, o, none⟩) W.length c0) := (((Below.refl _ w2).alloc (Nat.le_refl _) _).cell (p := ⟨w.heap.size, 0, none⟩) A2.out.lt).trans k0
      obtain ⟨ad, had, NW⟩ : ∃ ad : Addr, (if c0 = z + 1 then some (⟨b, o, none⟩ : Addr) else some ⟨b, o + (z + 1), none⟩) = some ad ∧ ∀ j u, (((W.drop (z + 1)).take mn).map (Value.int .i64))[j]? = some u → (w2.alloc (.cells #[] 3)).cell? (ad.add j) = some u := by
        by_cases hcz : c0 = z + 1
        · refine ⟨⟨b, o, none⟩, by rw [if_pos hcz], fun j u hu => ?_⟩
          have : mn = 0 := by omega
          subst this
          simp at hu
        · refine ⟨⟨b, o + (z + 1), none⟩, by rw [if_neg hcz], fun j u hu => ?_⟩
          rw [List.getElem?_map] at hu
          obtain ⟨y, hy, rfl⟩ := Option.map_eq_some_iff.1 hu
          rw [List.getElem?_take] at hy
          split at hy
          · rename_i hj
            rw [List.getElem?_drop] at hy
            obtain ⟨hq, rfl⟩ := List.getElem?_eq_some_iff.1 hy
            obtain ⟨b', o', hbo, hS', hc', -, -⟩ := HA.out (z + 1 + j) hq
            cases hbo
            rw [add_plain]
            refine (((Below.refl _ w2).alloc (Nat.le_refl _) _).cell (p := ⟨b, o + (z + 1) + j, none⟩) (Nat.lt_of_lt_of_le hS' A2.out.bel.size)).trans ?_
            rw [show o + (z + 1) + j = o + (z + 1 + j) by omega]
            exact (A2.out.bel.cell (p := ⟨b, o + (z + 1 + j), none⟩) hS').trans hc'
          · cases hy
      have HAD : Hid ((if c0 = z + 1 then some (⟨b, o, none⟩ : Addr) else some ⟨b, o + (z + 1), none⟩) = some ad) := had
      have HNW : Hid _ := NW
      have L0 : Hid ((w2.alloc (.cells #[] 3)).ownsRow w2.heap.size 3 1 (.slice (some ⟨w2.heap.size, 0, none⟩) 0 0) 0 []) := World.ownsRow_lit w2 #[] 0 (Nat.le_refl _) (Nat.zero_le _) rfl
      have LM : Hid ((((W.drop (z + 1)).take mn).map (Value.int .i64)).length = mn * 1) := by show _ = _; simp; omega
      have O1 : Hid (∀ u ∈ ((W.drop (z + 1)).take mn).map (Value.int .i64), u.oneCell' = true) := fun u hu => by obtain ⟨y, _, rfl⟩ := List.mem_map.1 hu; rfl
      have RNG : Hid (∀ y ∈ (W.drop (z + 1)).take mn, InR y) := fun y hy => by
        obtain ⟨j, hj, e⟩ := List.getElem_of_mem (List.mem_of_mem_drop (List.mem_of_mem_take hy))
        obtain ⟨_, _, _, _, _, r3, r4⟩ := HA.out j hj
        rw [← e]; exact ⟨r3, r4⟩
      have hmn63 : mn ≤ 63 := by omega
      have hcc : W.length ≤ c0 := hcap0.1
      have hc5 : (c0 : Int) ≤ 9223372036854775807 := by have := hcap0.2; unfold maxLen at this; omega
      clear q2 hpm hgd hx hmn hmt hzm hti hz0 hz1 hz2 had NW hc hm
      go_wp2_with fail
      refine hc3.mono ?_
      rintro e w3 ⟨rfl, hx⟩
      subst w3
      clear hc3
      go_wp2_with fail
      refine hc4.mono ?_
      rintro e w3 ⟨rfl, hx⟩
      subst w3
      clear hc4
      go_wp2_with (first
        | (at_builtin; refine wpList_append_own_at _ rfl (.tmp 39) (.tmp 48) 24 rfl w2.heap.size 3 ti _ 1 8 Try.underlying24 TI.out.1 TI.out.2.1 TI.out.2.2.1 TI.out.2.2.2 rfl (by decide) (.slice (some ⟨w2.heap.size, 0, none⟩) 0 0) 0 [] rfl L0.out ad mn (c0 - (z + 1)) (((W.drop (z + 1)).take mn).map (Value.int .i64)) (by simp [Act.eval, HAD.out]) LM.out HNW.out O1.out (by unfold maxLen; omega) (by omega) (by simp) ?_; intro v6 w6 o6 g6 n6 e6))
      all_goals
        have hln : ((W.drop (z + 1)).take mn).length = mn := by simp; omega
        obtain ⟨a6, c6, rfl⟩ := own_form o6
        refine bodyPost_ret (v := .tuple #[.bool (funF x), .int .i64 (tagF x), .slice a6 (0 + mn) c6, .bool true]) (by simp [results, Try.f13, go_sem]) rfl ?_
        rw [HF.out]
        have hB6 : Below w2.heap.size w2 w6 := ((Below.refl _ w2).alloc (Nat.le_refl _) _).grown g6 (by simp) (fun k hk => by cases hk; exact Nat.le_refl _)
        have hI : IRow w6 w2.heap.size (.slice a6 (0 + mn) c6) ((W.drop (z + 1)).take mn) := ⟨by rw [hln, Nat.zero_add]; have := o6; rw [Nat.zero_add, List.nil_append] at this; exact this, RNG.out⟩
        exact ⟨⟨_, rfl, (irow_base0 hI A2.out.bel.size).sp⟩, A2.out.bel.trans (hB6.mono A2.out.bel.size)⟩

end Go.Proofs.Ytigcpigmfcgaoaa.heap

namespace Go.Proofs.Ytigcpigmfcgaoaa.heap
open Go Go.RowKit Go.Proofs.Ytigcpigmfcgaoaa.rose Go.Proofs.Ytigcpigmfcgaoaa Go.Proofs.Ytigcpigmfcgaoaa.fun
set_option linter.unusedVariables false
set_option linter.unusedSimpArgs false

theorem alloc_yes {T : HeapD} {fn : Bool} {tag : Int} {kids : List Int} (h : (allocF T fn tag kids).2.2 = true) : allocF T fn tag kids = (moreF T fn tag kids, T.2.2.2, true) ∧ heapB T = true ∧ inB tag 0 3000 = true ∧ kids.length ≤ 20 ∧ (kids.length : Int) < T.2.2.1 + T.2.1 - T.2.2.2 ∧ heapB (moreF T fn tag kids) = true := by
  unfold allocF at h ⊢
  split at h
  · rename_i q
    rw [if_pos q]
    simp only [Bool.and_eq_true, decide_eq_true_eq] at q
    exact ⟨rfl, q.1.1.1.1, q.1.1.1.2, q.1.1.2, q.1.2, q.2⟩
  · cases h
theorem alloc_no {T : HeapD} {fn : Bool} {tag : Int} {kids : List Int} (h : (allocF T fn tag kids).2.2 = false) : allocF T fn tag kids = (T, 0, false) := by
  unfold allocF at h ⊢
  split at h
  · cases h
  · rename_i q
    rw [if_neg q]

theorem badH_room {h r r' : Int} (hb : badH h r = false) (hr : r ≤ r') : badH h r' = false := by
  unfold badH at hb ⊢
  simp only [Bool.or_eq_false_iff, decide_eq_false_iff_not] at hb ⊢
  refine ⟨hb.1, by omega⟩
/-- One more block behind all: its place is the last one. -/
theorem plF_one {W W' : List Int} {N N' : Nat} (hs : ∀ i, i < N → W'.getD i 0 = W.getD i 0) (hb : badH (W'.getD N 0) ((N' : Int) - N) = false) (he : N + 1 + (manyF (W'.getD N 0)).toNat = N') : ∀ {p : Nat}, p ≤ N → (plF W N p).2 = true → plF W' N' p = ((plF W N p).1 ++ [(N : Int)], true) := by
  intro p
  induction hd : N - p using Nat.strongRecOn generalizing p with
  | _ d ih =>
    intro hp hok
    by_cases hlt : p < N
    · rcases hq : badH (W.getD p 0) ((N : Int) - p) with _ | _
      · rw [plF_more hlt hq] at hok ⊢
        have hm := many_in (W.getD p 0)
        have hq2 := hq
        unfold badH at hq2
        simp only [Bool.or_eq_false_iff, decide_eq_false_iff_not] at hq2
        have hr : badH (W'.getD p 0) ((N' : Int) - p) = false := by rw [hs p hlt]; exact badH_room hq (by omega)
        rw [plF_more (by omega) hr, hs p hlt, ih (N - (p + 1 + (manyF (W.getD p 0)).toNat)) (by omega) rfl (by omega) hok]
        rfl
      · rw [plF_bad hlt hq] at hok; cases hok
    · obtain rfl : p = N := by omega
      rw [plF_end (Nat.le_refl _), plF_more (by omega) hb, he, plF_end (Nat.le_refl _)]
      rfl

theorem head_parts {fn : Bool} {tag : Int} {m : Nat} (h0 : 0 ≤ tag) (hm : m ≤ 20) : funF (headW fn tag m) = fn ∧ tagF (headW fn tag m) = tag ∧ manyF (headW fn tag m) = m := by
  unfold funF tagF manyF headW
  have e1 : (2 * (2 * (64 * tag + (m : Int)) + (if fn then 1 else 0)) + 1) / 2 = 2 * (64 * tag + (m : Int)) + (if fn then 1 else 0) := by omega
  have e2 : (2 * (64 * tag + (m : Int)) + (if fn then 1 else 0)) / 2 = 64 * tag + (m : Int) := by split <;> omega
  rw [e1, e2]
  refine ⟨?_, ?_, by omega⟩
  · cases fn
    · simp only [Bool.false_eq_true, if_false]; apply decide_eq_false; omega
    · simp only [if_true]; apply decide_eq_true; omega
  · rw [Int.tdiv_eq_ediv_of_nonneg (by omega)]; omega

section
variable {T : HeapD} {fn : Bool} {tag : Int} {kids : List Int}
/-- Where the words of the new block lie; all else is as it was. -/
theorem more_get (hT : heapB T = true) (hl : (kids.length : Int) < T.2.2.1 + T.2.1 - T.2.2.2) (i : Nat) : (moreF T fn tag kids).1.getD i 0 = if T.2.2.2.toNat ≤ i ∧ i < T.2.2.2.toNat + (kids.length + 1) then (headW fn tag kids.length :: kids).getD (i - T.2.2.2.toNat) 0 else T.1.getD i 0 := by
  have hh : headB T = true := by unfold heapB at hT; simp only [Bool.and_eq_true] at hT; exact hT.1.1
  have h1 := head_in hh
  have := putW_get (headW fn tag kids.length :: kids) T.1 T.2.2.2.toNat i (by rw [List.length_cons]; omega)
  rw [List.length_cons] at this
  exact this
theorem more_places (hT : heapB T = true) (h0 : inB tag 0 3000 = true) (hk : kids.length ≤ 20) (hl : (kids.length : Int) < T.2.2.1 + T.2.1 - T.2.2.2) : plT (moreF T fn tag kids) = ((plT T).1 ++ [T.2.2.2], true) := by
  have hh : headB T = true := by unfold heapB at hT; simp only [Bool.and_eq_true] at hT; exact hT.1.1
  have h1 := head_in hh
  have h2 := inB_yes h0
  obtain ⟨p1, p2, p3⟩ := head_parts (fn := fn) (tag := tag) (m := kids.length) h2.1 hk
  have hN : (moreF T fn tag kids).1.getD T.2.2.2.toNat 0 = headW fn tag kids.length := by
    rw [more_get hT hl, if_pos (by omega), Nat.sub_self]; rfl
  have hpos : 0 ≤ headW fn tag kids.length := by unfold headW; split <;> omega
  have hodd : headW fn tag kids.length % 2 = 1 := by unfold headW; omega
  have hX := plF_one (W := T.1) (W' := (moreF T fn tag kids).1) (N := T.2.2.2.toNat) (N' := T.2.2.2.toNat + 1 + kids.length) (fun i hi => by rw [more_get hT hl, if_neg (by omega)])
    (by rw [hN]; unfold badH; simp only [Bool.or_eq_false_iff, decide_eq_false_iff_not]; rw [p2, p3]; omega) (by rw [hN, p3]; omega) (p := T.2.2.1.toNat) (by omega) (heapB_places_ok hT)
  have e1 : (moreF T fn tag kids).2.2.2.toNat = T.2.2.2.toNat + 1 + kids.length := by show (T.2.2.2 + 1 + kids.length : Int).toNat = _; omega
  show plF (moreF T fn tag kids).1 (moreF T fn tag kids).2.2.2.toNat T.2.2.1.toNat = _
  rw [e1, hX]
  have e2 : ((T.2.2.2.toNat : Nat) : Int) = T.2.2.2 := by omega
  rw [e2]
  rfl
/-- What was allocated is there. -/
theorem more_block (hT : heapB T = true) (h0 : inB tag 0 3000 = true) (hk : kids.length ≤ 20) (hl : (kids.length : Int) < T.2.2.1 + T.2.1 - T.2.2.2) (hM : heapB (moreF T fn tag kids) = true) : blockF (moreF T fn tag kids) T.2.2.2 = (fn, tag, kids, true) := by
  have hh : headB T = true := by unfold heapB at hT; simp only [Bool.and_eq_true] at hT; exact hT.1.1
  have h1 := head_in hh
  have h2 := inB_yes h0
  obtain ⟨p1, p2, p3⟩ := head_parts (fn := fn) (tag := tag) (m := kids.length) h2.1 hk
  have hN : (moreF T fn tag kids).1.getD T.2.2.2.toNat 0 = headW fn tag kids.length := by
    rw [more_get hT hl, if_pos (by omega), Nat.sub_self]; rfl
  unfold blockF
  rw [hM, more_places hT h0 hk hl]
  rw [if_pos (by simp), hN, p1, p2, p3]
  simp only [Prod.mk.injEq, true_and, and_true]
  have hlen : (moreF T fn tag kids).1.length = T.1.length := putW_length _ _ _
  apply List.ext_getElem?
  intro j
  rw [List.getElem?_take]
  by_cases hj : j < kids.length
  · have hg := more_get (fn := fn) (tag := tag) (kids := kids) hT hl (T.2.2.2.toNat + 1 + j)
    rw [if_pos (by omega), show T.2.2.2.toNat + 1 + j - T.2.2.2.toNat = j + 1 by omega, List.getD_cons_succ] at hg
    rw [if_pos (by omega), List.getElem?_drop, List.getElem?_eq_getElem hj]
    have hb : T.2.2.2.toNat + 1 + j < (moreF T fn tag kids).1.length := by rw [hlen]; omega
    rw [List.getElem?_eq_getElem hb]
    rw [List.getD_eq_getElem?_getD, List.getD_eq_getElem?_getD, List.getElem?_eq_getElem hb, List.getElem?_eq_getElem hj] at hg
    simpa using hg
  · rw [if_neg (by omega), List.getElem?_eq_none (by omega)]
theorem more_room (hT : heapB T = true) (hM : heapB (moreF T fn tag kids) = true) : roomF (moreF T fn tag kids) = roomF T - 1 - kids.length := by
  unfold roomF
  rw [hT, hM]
  show T.2.2.1 + T.2.1 - (T.2.2.2 + 1 + kids.length) = _
  simp only [if_true]
  omega
theorem more_same (hT : heapB T = true) (hl : (kids.length : Int) < T.2.2.1 + T.2.1 - T.2.2.2) {i : Nat} (hi : (i : Int) < T.2.2.2) : (moreF T fn tag kids).1.getD i 0 = T.1.getD i 0 := by
  rw [more_get hT hl, if_neg (by omega)]
end

/-- A kid that was right is right still. -/
theorem there_more {l : List Int} {n x : Int} : thereB (l ++ [n]) x = (thereB l x || decide (x = 2 * n)) := by
  unfold thereB
  by_cases e : x % 2 = 0
  · rw [if_pos e, if_pos e]
    have h1 : (x / 2 = n) ↔ (x = 2 * n) := by omega
    rw [Bool.eq_iff_iff]
    simp only [decide_eq_true_eq, Bool.or_eq_true, List.mem_append, List.mem_singleton, h1]
  · rw [if_neg e, if_neg e]
    have h1 : ¬ x = 2 * n := by omega
    rw [decide_eq_false h1, Bool.or_false]

/-- The heap with one more block is right just when the new block's kids are. -/
theorem more_right {T : HeapD} {fn : Bool} {tag : Int} {kids : List Int} (hT : heapB T = true) (h0 : inB tag 0 3000 = true) (hk : kids.length ≤ 20) (hl : (kids.length : Int) < T.2.2.1 + T.2.1 - T.2.2.2) :
    heapB (moreF T fn tag kids) = kids.all fun x => thereB (plT T).1 x || decide (x = 2 * T.2.2.2) := by
  have hh : headB T = true := by unfold heapB at hT; simp only [Bool.and_eq_true] at hT; exact hT.1.1
  have h1 := head_in hh
  have h2 := inB_yes h0
  obtain ⟨p1, p2, p3⟩ := head_parts (fn := fn) (tag := tag) (m := kids.length) h2.1 hk
  have hpl := more_places (fn := fn) hT h0 hk hl
  have hN : (moreF T fn tag kids).1.getD T.2.2.2.toNat 0 = headW fn tag kids.length := by
    rw [more_get hT hl, if_pos (by omega), Nat.sub_self]; rfl
  have hhd : headB (moreF T fn tag kids) = true := by
    have e1 : (moreF T fn tag kids).1.length = T.1.length := putW_length _ _ _
    have e2 : (moreF T fn tag kids).2.1 = T.2.1 := rfl
    have e3 : (moreF T fn tag kids).2.2.1 = T.2.2.1 := rfl
    have e4 : (moreF T fn tag kids).2.2.2 = T.2.2.2 + 1 + kids.length := rfl
    unfold headB at hh ⊢
    rw [e1, e2, e3, e4]
    simp only [Bool.and_eq_true] at hh ⊢
    refine ⟨hh.1, ?_⟩
    unfold inB
    simp
    omega
  have hok : (plT (moreF T fn tag kids)).2 = true := by rw [hpl]
  have hnew : kidsB (moreF T fn tag kids) T.2.2.2.toNat = kids.all fun x => thereB (plT T).1 x || decide (x = 2 * T.2.2.2) := by
    unfold kidsB
    rw [hN, p3, hpl, Int.toNat_natCast]
    dsimp only
    have hg : ∀ k, k < kids.length → (moreF T fn tag kids).1.getD (T.2.2.2.toNat + 1 + k) 0 = kids.getD k 0 := fun k hk' => by
      rw [more_get hT hl, if_pos (by omega), show T.2.2.2.toNat + 1 + k - T.2.2.2.toNat = k + 1 by omega, List.getD_cons_succ]
    rw [Bool.eq_iff_iff, List.all_eq_true, List.all_eq_true]
    constructor
    · intro h x hx
      obtain ⟨k, hk', rfl⟩ := List.getElem_of_mem hx
      have := h k (List.mem_range.2 hk')
      rw [hg k hk', there_more] at this
      simpa [List.getD, hk'] using this
    · intro h k hk'
      rw [List.mem_range] at hk'
      rw [hg k hk', there_more]
      have := h kids[k] (List.getElem_mem hk')
      simpa [List.getD, hk'] using this
  have hold : ∀ y ∈ (plT T).1, kidsB (moreF T fn tag kids) y.toNat = true := fun y hy => by
    obtain ⟨q, rfl, hq1, hq2⟩ := plF_in (W := T.1) (nx := T.2.2.2.toNat) (p := T.2.2.1.toNat) (heapB_places_ok hT) y hy
    have hkq : kidsB T q = true := by
      unfold heapB at hT
      simp only [Bool.and_eq_true, List.all_eq_true] at hT
      have := hT.2 (q : Int) hy
      rwa [Int.toNat_natCast] at this
    rw [Int.toNat_natCast]
    have hs : ∀ i : Nat, i < T.2.2.2.toNat → (moreF T fn tag kids).1.getD i 0 = T.1.getD i 0 := fun i hi => more_same hT hl (by omega)
    refine kids_yes fun k hk' => ?_
    rw [hs q (by omega)] at hk'
    rw [hs (q + 1 + k) (by omega), hpl, there_more]
    unfold kidsB at hkq
    rw [List.all_eq_true] at hkq
    rw [hkq k (List.mem_range.2 hk')]
    rfl
  have hall : ((plT (moreF T fn tag kids)).1.all fun x => kidsB (moreF T fn tag kids) x.toNat) = kidsB (moreF T fn tag kids) T.2.2.2.toNat := by
    rw [hpl]
    dsimp only
    rw [List.all_append]
    have : ((plT T).1.all fun x => kidsB (moreF T fn tag kids) x.toNat) = true := by rw [List.all_eq_true]; exact hold
    rw [this]
    simp
  show (headB _ && _ && _) = _
  rw [hhd, hok, hall, hnew]
  rfl

end Go.Proofs.Ytigcpigmfcgaoaa.heap
