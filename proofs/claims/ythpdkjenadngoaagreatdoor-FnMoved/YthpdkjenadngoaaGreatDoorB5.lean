/-
  The model's HeapOk, at every heap; nothing that was there is turned.
  How much a heap holds.
  A row of the call's own that grows by one element after the other, each of which lies in blocks of its own; an append as a step of a region that draws its order.
-/
import Derived.Deep.QuietTactic
import Derived.BigQuiet
import Derived.Maps.AppendAt
import Derived.Laws.AppendOwn
import Derived.Deep.RegionLaw
import Derived.Shelf.Abstract
import Derived.Test.YthpdkjenadngoaaGreatDoorB1
import Derived.Test.YthpdkjenadngoaaGreatDoorB2
import Derived.Test.YthpdkjenadngoaaGreatDoorB3
import Derived.Test.YthpdkjenadngoaaGreatDoorB4
namespace Go.Proofs.YthpdkjenadngoaaGreatDoor.heap
open Go Go.RowKit Go.Proofs.YthpdkjenadngoaaGreatDoor.rose Go.Proofs.YthpdkjenadngoaaGreatDoor Go.Proofs.YthpdkjenadngoaaGreatDoor.fun Go.Proofs.YthpdkjenadngoaaGreatDoor.words Go.Proofs.YthpdkjenadngoaaGreatDoor.ints
set_option linter.unusedVariables false
set_option linter.unusedSimpArgs false

theorem drewN_below {B : Nat} {w w' : World} (h : Below B w w') (n : Nat) : Below B w (w'.drewN n) := ⟨h.os, h.tape, h.output, h.size, h.block⟩
theorem drewN_arg {w wk : World} {cs : List Value} {t : TypeId} (h : ArgK w wk cs t) (n : Nat) : ArgK w (wk.drewN n) cs t := ⟨drewN_below h.bel n, h.blk⟩
theorem drewN_row {w : World} {base : Nat} {v : Value} {l : List Int} (h : IRow w base v l) (n : Nat) : IRow (w.drewN n) base v l := h
theorem getD_at {W : List Int} {p : Nat} (h : p < W.length) : W.getD p 0 = W[p] := by rw [List.getD_eq_getElem?_getD, List.getElem?_eq_getElem h]; rfl

/-- Where the loops over blocks and their kids stand. -/
structure HK (w wr : World) (cs : List Value) (v : Value) (l : List Int) : Prop where
  arg : ArgK w wr cs 26
  row : IRow wr (w.heap.size + 1) v l
theorem HK.drewN {w wr : World} {cs : List Value} {v : Value} {l : List Int} (h : HK w wr cs v l) (n : Nat) : HK w (wr.drewN n) cs v l := ⟨drewN_arg h.arg n, drewN_row h.row n⟩

set_option maxRecDepth 100000 in
set_option maxHeartbeats 16000000 in
theorem specHeapOk (T : HeapD) (cs : List Value) (w : World) (h : heapSh.rep w (· < w.heap.size) cs T) :
    Calls Tryz.prog 52 #[.agg cs.toArray] w fun e w' => e = .returned (.bool (heapB T)) ∧ Below w.heap.size w w' := by
  have AH : Hid (∀ w' : World, Below w.heap.size w w' → heapSh.rep w' (· < w'.heap.size) cs T) := fun w' hb => heapSh.mono (heapSh.below h hb) fun b hlt => Nat.lt_of_lt_of_le hlt hb.size
  obtain ⟨W, a0, c0, half, base, next, rfl, rfl, f0, f1, f2, f3⟩ := heap_open h
  obtain ⟨a, cap, e, hcap, hmax, hat⟩ := ints_open f0
  cases e
  have HA : Hid _ := hat
  have hmx : (W.length : Int) ≤ 9223372036854775807 := by unfold maxLen at hmax; omega
  obtain ⟨r, hr⟩ : ∃ r, r = heapB (W, half, base, next) := ⟨_, rfl⟩
  have HR : Hid (r = heapB (W, half, base, next)) := hr
  rw [← hr]
  have BA : Hid (Below w.heap.size w (w.alloc (.cells #[.slice a0 W.length c0, .int .i64 half, .int .i64 base, .int .i64 next] 26))) := (Below.refl _ _).alloc (Nat.le_refl _) _
  clear h f0 hcap hmax hat hr
  rcases q1 : inB half 1 3000 with _ | _
  · have HF : Hid (r = false) := by show _ = _; rw [HR.out]; exact heapB_head (by unfold headB; rw [q1]; rfl)
    go_enter Tryz.func52, Tryz.ntmps52
    go_wp2_with (go_at_call 87; refine (in_is (by assumption)).mono ?_; rintro e w' ⟨rfl, hx⟩; subst w')
    go_ret
    exact ⟨ret_b HF.out.symm, BA.out⟩
  have g1 := inB_yes q1
  by_cases q2 : (W.length : Int) = 2 * half
  case neg =>
    have t2 : ((W.length : Int) != 2 * half) = true := by simpa using q2
    have HF : Hid (r = false) := by show _ = _; rw [HR.out]; exact heapB_head (by unfold headB; simp [q2])
    go_enter Tryz.func52, Tryz.ntmps52
    go_wp2_with (go_at_call 87; refine (in_is (by assumption)).mono ?_; rintro e w' ⟨rfl, hx⟩; subst w')
    go_ret
    exact ⟨ret_b HF.out.symm, BA.out⟩
  have t2 : ((W.length : Int) != 2 * half) = false := by simpa using q2
  by_cases q3 : base = 0 ∨ base = half
  case neg =>
    have t3 : (base != 0) = true := by simp; omega
    have t3' : (base != half) = true := by simp; omega
    have HF : Hid (r = false) := by show _ = _; rw [HR.out]; exact heapB_head (by unfold headB; simp; omega)
    go_enter Tryz.func52, Tryz.ntmps52
    go_wp2_with (go_at_call 87; refine (in_is (by assumption)).mono ?_; rintro e w' ⟨rfl, hx⟩; subst w')
    go_ret
    exact ⟨ret_b HF.out.symm, BA.out⟩
  have T3 : Hid ((base != 0) = false ∨ ((base != 0) = true ∧ (base != half) = false)) := by
    show _ ∨ _
    by_cases z : base = 0
    · exact .inl (by simpa using z)
    · exact .inr ⟨by simpa using z, by simp; omega⟩
  rcases q4 : inB next base (base + half) with _ | _
  · have HF : Hid (r = false) := by show _ = _; rw [HR.out]; exact heapB_head (by unfold headB; dsimp only; rw [q4]; simp)
    rcases T3.out with t3 | ⟨t3, t3'⟩
    all_goals
      go_enter Tryz.func52, Tryz.ntmps52
      go_wp2_with (go_at_call 87; refine (in_is (by assumption)).mono ?_; rintro e w' ⟨rfl, hx⟩; subst w')
      go_ret
      exact ⟨ret_b HF.out.symm, BA.out⟩
  have g4 := inB_yes q4
  have HD : Hid (headB (W, half, base, next) = true) := by
    show _ = _; unfold headB; dsimp only; rw [q1, q4]; simp; exact ⟨by omega, q3⟩
  have A0 : Hid (ArgK w (w.alloc (.cells #[.slice a0 W.length c0, .int .i64 half, .int .i64 base, .int .i64 next] 26)) [.slice a0 W.length c0, .int .i64 half, .int .i64 base, .int .i64 next] 26) := ArgK.new _ _ _ rfl
  have hcall := specPlacesOf (W, half, base, next) [.slice a0 W.length c0, .int .i64 half, .int .i64 base, .int .i64 next] _ HD.out (AH.out _ BA.out)
  obtain ⟨pl, hpl⟩ : ∃ pl, pl = plT (W, half, base, next) := ⟨_, rfl⟩
  have HPL : Hid (pl = plT (W, half, base, next)) := hpl
  rw [← hpl] at hcall
  clear hpl f1 f2 f3
  rcases T3.out with t3 | ⟨t3, t3'⟩
  all_goals
    go_enter Tryz.func52, Tryz.ntmps52
    go_wp2_with (go_at_call 87; refine (in_is (by assumption)).mono ?_; rintro e w' ⟨rfl, hx⟩; subst w')
    refine hcall.mono ?_
    rintro e w1 ⟨⟨v1, l, rfl, hr1, hl1⟩, hb1⟩
    have A1 : Hid (ArgK w w1 [.slice a0 W.length c0, .int .i64 half, .int .i64 base, .int .i64 next] 26) := A0.out.on hb1
    clear hcall
    rcases q5 : pl.2 with _ | _
    · have HF : Hid (r = false) := by show _ = _; rw [HR.out]; exact heapB_places (by rw [← HPL.out]; exact q5)
      clear hr1 hl1 hb1 q5
      go_wp2
      go_ret
      exact ⟨ret_b HF.out.symm, A1.out.bel⟩
    · have hle : l = pl.1 := hl1 q5
      have HLE : Hid (l = (plT (W, half, base, next)).1 ∧ (plT (W, half, base, next)).2 = true) := ⟨by rw [← HPL.out]; exact hle, by rw [← HPL.out]; exact q5⟩
      rw [World.size_alloc] at hr1
      obtain ⟨a1, c1, hv1⟩ := own_form hr1.1
      subst hv1
      have K1 : Hid (HK w w1 [.slice a0 W.length c0, .int .i64 half, .int .i64 base, .int .i64 next] (.slice a1 l.length c1) l) := ⟨A1.out, hr1⟩
      have HIN : Hid (∀ i (hi : i < l.length), ∃ q : Nat, l[i] = q ∧ q + (manyF (W.getD q 0)).toNat < W.length) := fun i hi => by
        obtain ⟨q, hq, -, h2⟩ := plF_in (W := W) (nx := next.toNat) (p := base.toNat) HLE.out.2 l[i] ((fun y (hy : y ∈ l) => by have e := HLE.out.1; rw [e] at hy; exact hy : ∀ y, y ∈ l → y ∈ (plF W next.toNat base.toNat).1) _ (List.getElem_mem hi))
        exact ⟨q, hq, by omega⟩
      have hll : l.length ≤ 6000 := by
        have := plF_len (W := W) (nx := next.toNat) (p := base.toNat)
        rw [HLE.out.1]; unfold plT; dsimp only; omega
      clear hr1 hl1 hb1 q5 hle A1
      obtain ⟨cs, hcs⟩ : ∃ cs : List Value, cs = [.slice a0 W.length c0, .int .i64 half, .int .i64 base, .int .i64 next] := ⟨_, rfl⟩
      rw [← hcs] at K1
      have HCS : Hid (cs[0]? = some (.slice a0 W.length c0)) := by show _ = _; rw [hcs]; rfl
      clear hcs AH A0 BA
      go_wp2
      go_loopw [5] (fun v5 wr => ∃ i : Nat, i ≤ l.length ∧ v5 = .int .i64 i ∧ Hid (HK w wr cs (.slice a1 l.length c1) l) ∧ Hid (∀ j (hj : j < l.length), j < i → kidsB (W, half, base, next) (l[j]).toNat = true)) (fun v5 _ => l.length - (intOf v5).toNat)
      case atStart => exact ⟨0, Nat.zero_le _, rfl, K1, fun j _ hj => absurd hj (Nat.not_lt_zero _)⟩
      case round =>
        obtain ⟨i, hi, rfl, HQ, HJ⟩ := hrel
        by_cases hlt : i < l.length
        · obtain ⟨q, hq, hqm⟩ := HIN.out i hlt
          have hql : q < W.length := by omega
          obtain ⟨b, o, rfl, hS, hc, r1, r2⟩ := HA.out q hql
          rcases HQ.out.row.open with ⟨-, h0⟩ | ⟨g, cp, hv, -, -, -, -, hcl, -⟩
          · rw [h0] at hlt; simp at hlt
          cases hv
          have e0 : wr.cell? ⟨g, i, none⟩ = some (.int .i64 q) := by rw [← hq]; exact hcl i hlt
          have e1 : wr.cell? ⟨b, o + q, none⟩ = some (.int .i64 W[q]) := (HQ.out.arg.bel.cell (p := ⟨b, o + q, none⟩) hS).trans hc
          have k0 : wr.cell? ⟨w.heap.size, 0, none⟩ = some (.slice (some ⟨b, o, none⟩) W.length c0) := HQ.out.arg.cell 0 HCS.out
          have hm := many_in W[q]
          have hgd := getD_at hql
          obtain ⟨x, hx⟩ : ∃ x, x = W[q] := ⟨_, rfl⟩
          rw [← hx] at e1 hm hgd r1 r2
          obtain ⟨mn, hmn⟩ : ∃ t : Nat, (t : Int) = manyF x := ⟨(manyF x).toNat, by omega⟩
          have HMN : Hid ((manyF (W.getD q 0)).toNat = mn) := by show _ = _; rw [hgd]; omega
          have hqk : q + mn < W.length := by rw [HMN.out] at hqm; exact hqm
          have hm63 : mn ≤ 63 := by omega
          have OF : Hid (∀ W' : World, Calls Tryz.prog 34 #[.int .i64 x] W' fun e w' => e = .returned (.tuple #[.bool (funF x), .int .i64 (tagF x), .int .i64 mn]) ∧ w' = W') := fun W' => by rw [hmn]; exact of_is x W' r1 r2
          have HLI : Hid (l[i] = (q : Int)) := hq
          have iI : (i : Int) < (l.length : Int) := by omega
          have qI : (q : Int) < (W.length : Int) := by omega
          clear hc hcl hx hmn hm hgd hq hqm r1 r2
          go_wp2
          go_quiet ((go_at_call 34; exact Calls.quiet_of_same (OF.out _)))
          have K2 : Hid (HK w (wr.drewN nq) cs (.slice (some ⟨g, 0, none⟩) l.length c1) l) := HQ.out.drewN nq
          clear e0 e1 k0
          go_wp2
          go_loopw [9] (fun v9 wi => ∃ k : Nat, 1 ≤ k ∧ k ≤ mn + 1 ∧ v9 = .int .i64 k ∧ Hid (HK w wi cs (.slice (some ⟨g, 0, none⟩) l.length c1) l) ∧ Hid (∀ j, j + 1 < k → thereB l (W.getD (q + 1 + j) 0) = true)) (fun v9 _ => mn + 2 - (intOf v9).toNat)
          case atStart => exact ⟨1, Nat.le_refl _, by omega, rfl, K2, fun j hj => by omega⟩
          case round =>
            obtain ⟨k, hk1, hk2, rfl, HP, HT⟩ := hrel
            by_cases hkm : k ≤ mn
            · have hqk2 : q + k < W.length := by omega
              obtain ⟨b', o', hbo, hS', hc', r1, r2⟩ := HA.out (q + k) hqk2
              cases hbo
              rcases HP.out.row.open with ⟨h0, -⟩ | ⟨g', cp', hv', -, -, -, -, hcl', -⟩
              · cases h0
              cases hv'
              have e0 : wr.cell? ⟨g, i, none⟩ = some (.int .i64 q) := by rw [← HLI.out]; exact hcl' i hlt
              have e1 : wr.cell? ⟨b, o + (q + k), none⟩ = some (.int .i64 W[q + k]) := (HP.out.arg.bel.cell (p := ⟨b, o + (q + k), none⟩) hS').trans hc'
              have k0 : wr.cell? ⟨w.heap.size, 0, none⟩ = some (.slice (some ⟨b, o, none⟩) W.length c0) := HP.out.arg.cell 0 HCS.out
              have hsp := HP.out.row.sp
              have REP : Hid (intsSh.rep wr (· < wr.heap.size) [.slice (some ⟨g, 0, none⟩) l.length c1] l) := intsSh.mono (intsp_rep hsp) fun q hq => hq.2
              have hgd := getD_at hqk2
              obtain ⟨y, hy⟩ : ∃ y, y = W[q + k] := ⟨_, rfl⟩
              rw [← hy] at e1 hgd r1 r2
              obtain ⟨k', rfl⟩ : ∃ k', k = k' + 1 := ⟨k - 1, by omega⟩
              have HG : Hid (W.getD (q + 1 + k') 0 = y) := by show _ = _; rw [show q + 1 + k' = q + (k' + 1) by omega]; exact hgd
              have qkI : (q : Int) + ((k' : Int) + 1) < (W.length : Int) := by omega
              clear hc' hcl' hsp hy hgd
              rcases q6 : thereB l y with _ | _
              · have HF : Hid (r = false) := by
                  have hnk : kidsB (W, half, base, next) q = false := kids_no (k := k') (by show k' < (manyF (W.getD q 0)).toNat; rw [HMN.out]; omega) (by show thereB (plT _).1 (W.getD (q + 1 + k') 0) = false; rw [HG.out, ← HLE.out.1]; exact q6)
                  show _ = _
                  rw [HR.out]
                  refine heapB_kids (i := i) (by rw [← HLE.out.1]; exact hlt) ?_
                  have : (plT (W, half, base, next)).1[i]'(by rw [← HLE.out.1]; exact hlt) = (q : Int) := by rw [← HLI.out]; simp only [HLE.out.1]
                  rw [this, Int.toNat_natCast]; exact hnk
                go_wp2
                go_quiet ((go_at_call 54; exact Calls.quiet_of_same (there_is _ _ q6 (intsSh.on REP.out fun _ _ => rfl))))
                go_wp2
                go_ret
                exact ⟨ret_b HF.out.symm, drewN_below HP.out.arg.bel _⟩
              · have HT2 : Hid (∀ j, j + 1 < k' + 1 + 1 → thereB l (W.getD (q + 1 + j) 0) = true) := fun j hj => by
                  by_cases e : j = k'
                  · subst e; rw [HG.out]; exact q6
                  · exact HT.out j (by omega)
                go_wp2
                go_quiet ((go_at_call 54; exact Calls.quiet_of_same (there_is _ _ q6 (intsSh.on REP.out fun _ _ => rfl))))
                go_wp2
                go_round
                case rel => exact ⟨k' + 1 + 1, by omega, by omega, by go_num, HP.out.drewN _, HT2⟩
                case measure => simp [intOf]; omega
            · obtain rfl : k = mn + 1 := by omega
              have HJ2 : Hid (∀ j (hj : j < l.length), j < i + 1 → kidsB (W, half, base, next) (l[j]).toNat = true) := fun j hj h1 => by
                by_cases e : j = i
                · subst e
                  rw [HLI.out, Int.toNat_natCast]
                  refine kids_yes fun z hz => ?_
                  have hz' : z < (manyF (W.getD q 0)).toNat := hz
                  rw [HMN.out] at hz'
                  have := HT.out z (by omega)
                  rw [HLE.out.1] at this
                  exact this
                · exact HJ.out j hj (by omega)
              go_wp2
              go_round
              case rel => exact ⟨i + 1, by omega, by go_num, HP, HJ2⟩
              case measure => simp [intOf]; omega
        · obtain rfl : i = l.length := by omega
          have HF : Hid (r = true) := by
            show _ = _
            rw [HR.out]
            refine heapB_yes HD.out HLE.out.2 fun j hj => ?_
            have hj' : j < l.length := by rw [HLE.out.1]; exact hj
            have := HJ.out j hj' hj'
            simpa only [HLE.out.1] using this
          go_wp2
          go_ret
          exact ⟨ret_b HF.out.symm, HQ.out.arg.bel⟩

end Go.Proofs.YthpdkjenadngoaaGreatDoor.heap

namespace Go.Proofs.YthpdkjenadngoaaGreatDoor.heap
open Go.RowKit Go.Proofs.YthpdkjenadngoaaGreatDoor.rose Go.Proofs.YthpdkjenadngoaaGreatDoor
set_option linter.unusedVariables false
/-- What it weighs. -/
def wt : HeapD → Nat
  | (x0, x1, x2, x3) => x0.length
def wts : List HeapD → Nat
  | [] => 0
  | k :: ks => wt k + wts ks

theorem wts_take {ks : List HeapD} {i : Nat} (h : i < ks.length) : wts (ks.take (i + 1)) = wts (ks.take i) + wt ks[i] := by
  induction ks generalizing i with
  | nil => simp at h
  | cons k ks ih =>
    cases i with
    | zero => simp [wts]
    | succ i => simp [wts, ih (by simpa using h)]; omega
theorem wts_take_le (ks : List HeapD) (i : Nat) : wts (ks.take i) ≤ wts ks := by
  induction ks generalizing i with
  | nil => simp [wts]
  | cons k ks ih =>
    cases i with
    | zero => simp [wts]
    | succ i => simp [wts]; exact ih i
theorem wt_mem {ks : List HeapD} {k : HeapD} (h : k ∈ ks) : wt k ≤ wts ks := by
  induction ks with
  | nil => cases h
  | cons a ks ih =>
    simp only [wts]
    rcases List.mem_cons.1 h with rfl | h
    · omega
    · have := ih h; omega


end Go.Proofs.YthpdkjenadngoaaGreatDoor.heap

namespace Go.Proofs.YthpdkjenadngoaaGreatDoor.rose
open Go Go.RowKit Go.Deep Go.ChangeShapes Go.WideShapes
set_option linter.unusedVariables false

/-- An append to a row of the call's own, as one step of a region that draws its order. -/
theorem step_append_own {P : Program} {ops : Array Oper} {o : Oper} {a : Act} {w : World} {K : Act → World → Prop} {Q : Exit → Act → World → Prop} {E : Prop}
    (hg : o.guard = none) (s x : Operand) (t : TypeId) (hop : o.op = Op.call { callee := Callee.builtin Builtin.append, args := #[s, x], argTypes := #[t, t] })
    (base : Nat) (e : TypeId) (i : TypeInfo) (z : Value) (size bytes : Nat) (h1 : P.underlying t = some (.slice e)) (h2 : P.info? e = some i) (h3 : i.zero = some z) (h4 : i.size = size) (h5 : i.bytes = bytes) (h6 : z.cells.size = size) (h7 : 0 < size)
    (v : Value) (n : Nat) (xs : List Value) (hs : a.eval s = v) (hown : w.ownsRow base e size v n xs)
    (ad : Addr) (m c : Nat) (news : List Value) (hx : a.eval x = .slice (some ad) m c) (hn : news.length = m * size) (hc : ∀ j u, news[j]? = some u → w.cell? (ad.add j) = some u) (h1c : ∀ u ∈ news, u.oneCell' = true)
    (b1 : n + m ≤ maxLen) (b2 : (n + m) * bytes ≤ 140737488355328) (hbase : base ≤ w.heap.size)
    (hK : ∀ a' l' c' w', w'.ownsRow base e size (.slice a' l' c') (n + m) (xs ++ news) → w.grownBy w' v.ownBlock → ((Value.slice a' l' c').ownBlock = v.ownBlock ∨ (Value.slice a' l' c').ownBlock = some w.heap.size) → K (a.put o.dst (.slice a' l' c')) w') :
    if Region.wanted o (yielded ops a.tmps) = true then Oper.wp P o a w K Q else E := by
  have hw : Region.wanted o (yielded ops a.tmps) = true := by simp [Region.wanted, hg]
  rw [if_pos hw]
  obtain ⟨v', w', hrun, r1, r2, -, r3⟩ := run_append_own_at (P := P) w base t o.type e i z size bytes h1 h2 h3 h4 h5 h6 h7 v n xs hown ad m c news hn hc h1c b1 b2 hbase
  obtain ⟨a', l', c', rfl⟩ : ∃ a' l' c', v' = .slice a' l' c' := by
    rcases r1.2 with ⟨rfl, _⟩ | ⟨_, _, _, rfl, _⟩
    · exact ⟨_, _, _, rfl⟩
    · exact ⟨_, _, _, rfl⟩
  unfold Oper.wp
  simp [execOp, hop, resolve, invoke, builtin, hs, hx, hrun, Result.andThen]
  exact hK a' l' c' w' r1 r2 r3

/-- A call of a Go function by its contract, as one step of a region that draws its order. -/
theorem step_call {P : Program} {ops : Array Oper} {o : Oper} {a : Act} {w : World} {K : Act → World → Prop} {Q : Exit → Act → World → Prop} {E : Prop}
    (hg : o.guard = none) (f : FuncId) (hent : Enters P f) (xs : Array Operand) (ts : Array TypeId) (hop : o.op = Op.call { callee := Callee.value (Operand.func f), args := xs, argTypes := ts }) (args : Array Value)
    (R : Ending → World → Prop) (h : Calls P f args w R) (ha : xs.map a.eval = args) (hK : ∀ e w', R e w' → ∃ v, e = .returned v ∧ K (a.put o.dst v) w') :
    if Region.wanted o (yielded ops a.tmps) = true then Oper.wp P o a w K Q else E := by
  have hw : Region.wanted o (yielded ops a.tmps) = true := by simp [Region.wanted, hg]
  rw [if_pos hw]
  have hr : (execOp a.eval o).run P w = .ok (.enter f args) w := by
    subst ha
    obtain ⟨dst, op, ty, pos, after, guard⟩ := o
    have hop' : op = Op.call { callee := Callee.value (Operand.func f), args := xs, argTypes := ts } := hop
    subst hop'
    have hx : execOp a.eval { dst, op := .call { callee := .value (.func f), args := xs, argTypes := ts }, type := ty, pos, after, guard } = callFunc f (xs.map a.eval) := by
      show callFunc f (#[] ++ xs.map a.eval ++ #[]) = _
      simp
    rw [hx]
    exact hent _ _
  unfold Oper.wp
  rw [hr, Oper.upon_enter]
  refine h.mono fun e w' hR => ?_
  obtain ⟨v, rfl, hk⟩ := hK e w' hR
  exact hk

/-- The cells of a new block. -/
theorem cells_new (w : World) (cs : List Value) (t : TypeId) (arr : Array Value) (ha : arr = cs.toArray) : ∀ j u, cs[j]? = some u → (w.alloc (.cells arr t)).cell? ((⟨w.heap.size, 0, none⟩ : Addr).add j) = some u := by
  subst ha
  intro j u hj
  have hh : (w.alloc (.cells cs.toArray t)).heap[w.heap.size]? = some (.cells cs.toArray t) := alloc_top w (.cells cs.toArray t)
  rw [add_plain, Nat.zero_add]
  simp only [World.cell?, hh]
  simpa using hj

/-- WHAT HAS GROWN: element i's cells, and the blocks in which the rest of it lies. -/
def Grown {α : Type} (A : Sh α) (t : TypeId) (w : World) (base : Nat) (v : Value) (xs : List α) : Prop :=
  ∃ (css : Nat → List Value) (F : Nat → Nat → Prop), w.ownsRow base t A.k v xs.length (flat css xs.length) ∧ (∀ i (h : i < xs.length), A.rep w (F i) (css i) xs[i]) ∧
    (∀ i, i < xs.length → ∀ b, F i b → base ≤ b ∧ b < w.heap.size ∧ v.ownBlock ≠ some b) ∧ ∀ i j, i < xs.length → j < xs.length → i ≠ j → ∀ b, F i b → ¬ F j b

theorem Grown.nil {α : Type} (A : Sh α) (t : TypeId) (w : World) (base : Nat) : Grown A t w base (.slice none 0 0) ([] : List α) :=
  ⟨fun _ => [], fun _ _ => False, World.ownsRow_nil w base t A.k, fun i h => absurd h (Nat.not_lt_zero _), fun i h => absurd h (Nat.not_lt_zero _), fun i j h => absurd h (Nat.not_lt_zero _)⟩

theorem Grown.on {α : Type} {A : Sh α} {t : TypeId} {w w' : World} {base : Nat} {v : Value} {xs : List α} (h : Grown A t w base v xs) (hs : w.heap.size ≤ w'.heap.size) (hb : ∀ b, base ≤ b → b < w.heap.size → w'.heap[b]? = w.heap[b]?) : Grown A t w' base v xs := by
  obtain ⟨css, F, ⟨hl, hv⟩, hr, hf, ha⟩ := h
  refine ⟨css, F, ⟨hl, ?_⟩, fun i hi => A.on (hr i hi) fun b hS => hb b (hf i hi b hS).1 (hf i hi b hS).2.1, fun i hi b hS => ⟨(hf i hi b hS).1, Nat.lt_of_lt_of_le (hf i hi b hS).2.1 hs, (hf i hi b hS).2.2⟩, ha⟩
  rcases hv with h0 | ⟨g, cap, cur, h1, h2, h3, h4⟩
  · exact Or.inl h0
  · exact Or.inr ⟨g, cap, cur, h1, h2, by rw [hb g h2 (Array.getElem?_eq_some_iff.1 h3).1]; exact h3, h4⟩

theorem Grown.row {α : Type} {A : Sh α} {t : TypeId} {w : World} {base : Nat} {v : Value} {xs : List α} (h : Grown A t w base v xs) : ∃ ys, w.ownsRow base t A.k v xs.length ys := by
  obtain ⟨css, F, h1, -⟩ := h
  exact ⟨_, h1⟩
theorem Grown.slice {α : Type} {A : Sh α} {t : TypeId} {w : World} {base : Nat} {v : Value} {xs : List α} (h : Grown A t w base v xs) : ∃ a c, v = .slice a xs.length c := by
  obtain ⟨css, F, ⟨hl, hv⟩, -⟩ := h
  rcases hv with ⟨rfl, h0⟩ | ⟨g, cap, cur, h1, -⟩
  · exact ⟨_, _, by rw [h0]⟩
  · exact ⟨_, _, h1⟩
theorem Grown.own {α : Type} {A : Sh α} {t : TypeId} {w : World} {base : Nat} {v : Value} {xs : List α} (h : Grown A t w base v xs) {g : Nat} (hg : v.ownBlock = some g) : base ≤ g ∧ g < w.heap.size := by
  obtain ⟨css, F, ⟨hl, hv⟩, -⟩ := h
  rcases hv with ⟨rfl, h0⟩ | ⟨q, cap, cur, rfl, h2, h3, -⟩
  · cases hg
  · simp only [Value.ownBlock, Option.some.injEq] at hg
    subst hg
    exact ⟨h2, (Array.getElem?_eq_some_iff.1 h3).1⟩

/-- One more: its rest lies in blocks that are new since w; the append made w' of w1. -/
theorem Grown.push {α : Type} {A : Sh α} {t : TypeId} {w w1 w' : World} {base : Nat} {v : Value} {xs : List α} {css : Nat → List Value} {F : Nat → Nat → Prop} {a' : Option Addr} {l' c' : Nat} {cs : List Value} {x : α} {lo hi : Nat}
    (hr : ∀ i (h : i < xs.length), A.rep w1 (F i) (css i) xs[i]) (hf : ∀ i, i < xs.length → ∀ b, F i b → base ≤ b ∧ b < lo ∧ v.ownBlock ≠ some b) (ha : ∀ i j, i < xs.length → j < xs.length → i ≠ j → ∀ b, F i b → ¬ F j b)
    (hv : ∀ g, v.ownBlock = some g → g < lo) (hx : A.rep w1 (fun b => lo ≤ b ∧ b < hi) cs x) (hb : base ≤ lo) (h1 : lo ≤ hi) (h2 : hi ≤ w1.heap.size)
    (ho : w'.ownsRow base t A.k (.slice a' l' c') (xs.length + 1) (flat css xs.length ++ cs)) (hg : w1.grownBy w' v.ownBlock) (hat : (Value.slice a' l' c').ownBlock = v.ownBlock ∨ (Value.slice a' l' c').ownBlock = some w1.heap.size) :
    Grown A t w' base (.slice a' l' c') (xs ++ [x]) := by
  have same : ∀ b, b < w1.heap.size → v.ownBlock ≠ some b → w'.heap[b]? = w1.heap[b]? := fun b hb hn => hg.block b hb fun e => hn e.symm
  refine ⟨fun i => if i < xs.length then css i else cs, fun i => if i < xs.length then F i else fun b => lo ≤ b ∧ b < hi, ?_, fun i hi => ?_, fun i hi b => ?_, fun i j hi hj hne b => ?_⟩
  · rw [List.length_append, List.length_singleton, flat_succ, if_neg (Nat.lt_irrefl _)]
    have : flat (fun i => if i < xs.length then css i else cs) xs.length = flat css xs.length := by
      unfold flat
      exact Go.Deep.flatMap_congr_range fun i hi => by simp [hi]
    rw [this]
    exact ho
  · rw [List.length_append, List.length_singleton] at hi
    by_cases hlt : i < xs.length
    · simp only [if_pos hlt]
      rw [List.getElem_append_left hlt]
      exact A.on (hr i hlt) fun b hS => same b (by have := (hf i hlt b hS).2.1; omega) (hf i hlt b hS).2.2
    · simp only [if_neg hlt]
      rw [List.getElem_append_right (by omega)]
      simp only [List.getElem_singleton]
      exact A.on hx fun b hS => same b (by omega) fun e => by have := hv b e; omega
  · rw [List.length_append, List.length_singleton] at hi
    by_cases hlt : i < xs.length
    · simp only [if_pos hlt]
      intro hS
      obtain ⟨q1, q2, q3⟩ := hf i hlt b hS
      refine ⟨q1, by have := hg.size; omega, fun e => ?_⟩
      rcases hat with h | h
      · exact q3 (h.symm.trans e)
      · rw [h] at e; simp only [Option.some.injEq] at e; omega
    · simp only [if_neg hlt]
      intro hS
      refine ⟨by omega, by have := hg.size; omega, fun e => ?_⟩
      rcases hat with h | h
      · have := hv b (h.symm.trans e); omega
      · rw [h] at e; simp only [Option.some.injEq] at e; omega
  · rw [List.length_append, List.length_singleton] at hi hj
    by_cases h1 : i < xs.length
    · by_cases h2 : j < xs.length
      · simp only [if_pos h1, if_pos h2]; exact ha i j h1 h2 hne b
      · simp only [if_pos h1, if_neg h2]
        intro q1 q2
        have := (hf i h1 b q1).2.1; omega
    · by_cases h2 : j < xs.length
      · simp only [if_neg h1, if_pos h2]
        intro q1 q2
        have := (hf j h2 b q2).2.1; omega
      · omega

/-- What has grown lies apart. -/
theorem Grown.sslice {α : Type} {A : Sh α} {t : TypeId} {w : World} {base : Nat} {v : Value} {xs : List α} (h : Grown A t w base v xs) (hk : 0 < A.k) : A.sslice.rep w (fun b => base ≤ b ∧ b < w.heap.size) [v] xs := by
  obtain ⟨css, F, ⟨hl, hv⟩, hr, hf, ha⟩ := h
  rcases hv with ⟨rfl, h0⟩ | ⟨g, cap, cur, rfl, h2, h3, h4, h5, h6, h7⟩
  · have : xs = [] := List.eq_nil_of_length_eq_zero h0
    subst this
    exact ⟨none, 0, fun _ => [], fun _ _ => False, rfl, Nat.le_refl _, Nat.zero_le _, fun _ => rfl, fun h => absurd h (Nat.lt_irrefl _), fun i hi => absurd hi (Nat.not_lt_zero _), fun i j hi => absurd hi (Nat.not_lt_zero _), fun i hi => absurd hi (Nat.not_lt_zero _)⟩
  · have hg : g < w.heap.size := (Array.getElem?_eq_some_iff.1 h3).1
    refine ⟨some ⟨g, 0, none⟩, cap, css, F, rfl, h4, h5, (fun h => by cases h), fun _ => ⟨g, 0, cur, t, rfl, ⟨h2, hg⟩, h3, fun i hi q => (hf i hi g q).2.2 rfl, fun i hi j u hj => ?_⟩, fun i hi b hS => ⟨(hf i hi b hS).1, (hf i hi b hS).2.1⟩, ha, hr⟩
    have hjk : j < A.k := by
      rcases Nat.lt_or_ge j A.k with h' | h'
      · exact h'
      · rw [List.getElem?_eq_none (by rw [A.len (hr i hi)]; exact h')] at hj; cases hj
    have hf' := flat_get (css := css) (n := xs.length) (k := A.k) (fun i hi => A.len (hr i hi)) hi hjk
    rw [hj, ← h7, List.getElem?_take] at hf'
    have hlt : i * A.k + j < xs.length * A.k := by
      have := Nat.mul_le_mul_right A.k (show i + 1 ≤ xs.length by omega)
      rw [Nat.succ_mul] at this; omega
    rw [if_pos hlt] at hf'
    simp only [World.cell?, h3, Nat.zero_add]
    rw [Array.getElem?_toList] at hf'
    exact hf'

end Go.Proofs.YthpdkjenadngoaaGreatDoor.rose
