/-
  The program's iterator over a type and all that is within it: what it hands over, in which order; it keeps a stack of its own.
-/
import Derived.Test.YtilophmgngcbhaaTyAll
import Derived.Test.YtilophmgngcbhaaRangeB
import Derived.Shelf.Abstract
import Derived.Shelf.RegionOpen
import Derived.WalkKit
import Derived.OwnWalkIn
import Derived.TacticsInMore
import Derived.LoopNIn
import Derived.LoopIn
import Derived.Sort.LoopGhostIn
import Derived.BigRegionIn
import Derived.Laws.AppendOwnNone
namespace Go.Proofs.Ytilophmgngcbhaa.ty
open Go.RowKit Go.Shelf Go.Proofs.Ytilophmgngcbhaa.rose Go.Proofs.Ytilophmgngcbhaa.rangeb Go.Proofs.Ytilophmgngcbhaa
set_option linter.unusedVariables false
set_option linter.unusedSimpArgs false

/-- What is handed over: a type, and where its kids lie. -/
structure Part where
  T : TyD
  a : Option Addr
  c : Nat
  n0 : -9223372036854775808 ≤ T.x.2.1
  n1 : T.x.2.1 ≤ 9223372036854775807
  ks : T.kids.length ≤ maxLen

def encV (x : Part) : Value := .agg #[.int .i64 x.T.x.1, .int .i64 x.T.x.2.1, .string x.T.x.2.2, .slice x.a x.T.kids.length x.c]
def enc (x : Part) : Array Value := #[encV x]

theorem Own_kept {w w' : World} {t : TypeId} {base n₀ : Nat} {v : Value} {xs : List TyD} (h : rose.Own tySh t w base (· < n₀) v xs) (hk : Kept n₀ base w w') : rose.Own tySh t w' base (· < n₀) v xs := by
  obtain ⟨css, ⟨hl, hv⟩, hr⟩ := h
  refine ⟨css, ⟨hl, ?_⟩, fun i hi => tySh.on (hr i hi) fun b hS => hk.low b hS⟩
  rcases hv with h0 | ⟨g, cap, cur, h1, h2, h3, h4⟩
  · exact Or.inl h0
  · have hg : g < w.heap.size := by
      rcases Nat.lt_or_ge g w.heap.size with h' | h'
      · exact h'
      · rw [Array.getElem?_eq_none h'] at h3; cases h3
    exact Or.inr ⟨g, cap, cur, h1, h2, by rw [hk.high g h2 hg]; exact h3, h4⟩

theorem shrink {w : World} {base : Nat} {t : TypeId} {k j cap g : Nat} {xs : List Value} (h : w.ownsRow base t k (.slice (some ⟨g, 0, none⟩) (j + 1) cap) (j + 1) xs) : w.ownsRow base t k (.slice (some ⟨g, 0, none⟩) j cap) j (xs.take (j * k)) := by
  obtain ⟨hl, hv⟩ := h
  have hle : j * k ≤ (j + 1) * k := Nat.mul_le_mul_right _ (by omega)
  refine ⟨by rw [List.length_take, hl]; omega, Or.inr ?_⟩
  rcases hv with ⟨h, _⟩ | ⟨g', cap', cur, h1, h2, h3, h4, h5, h6, h7⟩
  · cases h
  · cases h1
    exact ⟨g, cap, cur, rfl, h2, h3, by omega, h5, h6, by rw [← h7, List.take_take, Nat.min_eq_left hle]⟩

theorem flat_take (css : Nat → List Value) (n : Nat) {k : Nat} (h : ∀ i, i < n + 1 → (css i).length = k) : (flat css (n + 1)).take (n * k) = flat css n := by
  rw [flat_succ, List.take_left' (flat_length fun i hi => h i (by omega))]

theorem own_cell {w : World} {base : Nat} {t : TypeId} {k g n cap : Nat} {css : Nat → List Value} (h : w.ownsRow base t k (.slice (some ⟨g, 0, none⟩) n cap) n (flat css n)) (hl : ∀ i, i < n → (css i).length = k) {i q : Nat} {v : Value} (hi : i < n) (hq : (css i)[q]? = some v) : w.cell? ⟨g, i * k + q, none⟩ = some v := by
  rcases h.2 with ⟨h, _⟩ | ⟨g', cap', cur, h1, h2, h3, h4, h5, h6, h7⟩
  · cases h
  · cases h1
    have hqk : q < k := by
      rcases Nat.lt_or_ge q k with h' | h'
      · exact h'
      · rw [List.getElem?_eq_none (by rw [hl i hi]; exact h')] at hq; cases hq
    have hf := flat_get (css := css) (n := n) (k := k) hl hi hqk
    rw [hq, ← h7, List.getElem?_take] at hf
    have hlt : i * k + q < n * k := by
      have := Nat.mul_le_mul_right k (show i + 1 ≤ n by omega)
      rw [Nat.succ_mul] at this; omega
    rw [if_pos hlt] at hf
    simp only [World.cell?, h3]
    rw [Array.getElem?_toList] at hf
    exact hf

theorem row_on {w w' : World} {base : Nat} {t : TypeId} {k n : Nat} {v : Value} {xs : List Value} (h : w.ownsRow base t k v n xs) (hb : ∀ g, base ≤ g → g < w.heap.size → w'.heap[g]? = w.heap[g]?) : w'.ownsRow base t k v n xs := by
  obtain ⟨hl, hv⟩ := h
  refine ⟨hl, ?_⟩
  rcases hv with h0 | ⟨g, cap, cur, h1, h2, h3, h4⟩
  · exact Or.inl h0
  · have hg : g < w.heap.size := by
      rcases Nat.lt_or_ge g w.heap.size with h' | h'
      · exact h'
      · rw [Array.getElem?_eq_none h'] at h3; cases h3
    exact Or.inr ⟨g, cap, cur, h1, h2, by rw [hb g h2 hg]; exact h3, h4⟩

theorem tys_none {w : World} {S : Nat → Prop} {ks : List TyD} {cap : Nat} (h : tySh.slice.rep w S [.slice none ks.length cap] ks) : ks = [] ∧ cap = 0 := by
  obtain ⟨a, c, css, e, h1, -, h5, -⟩ := h
  simp at e
  obtain ⟨rfl, rfl⟩ := e
  have := h5 rfl
  subst this
  exact ⟨List.eq_nil_of_length_eq_zero (by omega), rfl⟩

theorem st_le (st : List TyD) : st.length ≤ (allS st).length := by
  induction st with
  | nil => simp [allS]
  | cons k ks ih => cases k with | mk x q => simp [allS, allT]; omega

theorem stepIn_append {F : Fence} {n : Nat} {P : Program} {o : Oper} {a : Act} {w : World} {K : Act → World → Prop} {Q : Exit → Act → World → Prop} {s x : Operand} {t : TypeId} {v y v' : Value} {w' : World}
    (ho : o.op = .call { callee := .builtin .append, args := #[s, x], argTypes := #[t, t] }) (hs : a.eval s = v) (hx : a.eval x = y) (hrun : (Builtin.append_ #[t, t] o.type #[v, y]).run P w = .ok v' w') (hK : K (a.put o.dst v') w') : Oper.wpIn F n P o a w K Q := by
  unfold Oper.wpIn
  refine ⟨by simp [Oper.about, ho, resolve, Target.leads, Sem.run_pure], ?_⟩
  rw [Oper.semAt_plain F _ _ (by rw [ho]; intro c hc'; cases hc')]
  simp [execOp, ho, resolve, invoke, builtin, hs, hx, hrun, Result.andThen]
  exact hK

theorem info_ty : (Try.prog.info? 37).map (fun i => (i.zero, i.size, i.bytes)) = some (some (.agg #[.int .i64 0, .int .i64 0, .string ⟨#[]⟩, .slice none 0 0]), 4, 56) := by kernel_rfl


set_option maxRecDepth 100000 in
set_option maxHeartbeats 2000000 in
theorem tysOf_stops (F : Fence) (n : Nat) (hF : F.fn 54) (hro : F.round = none) (hn : 1 ≤ n) (Bt n₀ : Nat) (T : TyD) (cs : List Value) (w : World) (hB : Bt < w.heap.size) (hn0 : n₀ ≤ w.heap.size)
    (hc : CellsAt w Bt 0 cs) (hrep : tySh.rep w (· < n₀) cs T) (hw : wt T ≤ 1048576) :
    SeqB F n Try.prog 54 #[.pointer (some ⟨Bt, 0, none⟩)] enc n₀ (fun xs => xs.map (·.T) = allT T) (fun pre => pre.map (·.T) <+: allT T) (allT T).length w := by
  intro l J Jx W hW hJ hJx hY h0
  have hle := all_le T
  obtain ⟨ti, hti, hzz⟩ := Option.map_eq_some_iff.1 info_ty
  simp only [Prod.mk.injEq] at hzz
  obtain ⟨hz0, hz1, hz2⟩ := hzz
  have TI : Hid (Try.prog.info? 37 = some ti ∧ ti.zero = some (.agg #[.int .i64 0, .int .i64 0, .string ⟨#[]⟩, .slice none 0 0]) ∧ ti.size = 4 ∧ ti.bytes = 56) := ⟨hti, hz0, hz1, hz2⟩
  clear hti hz0 hz1 hz2
  have hrepW : tySh.rep W (· < n₀) cs T := tySh.below hrep (hW.mono hn0)
  obtain ⟨v0, v1, v2, v3, hcs⟩ := ty_list hrep
  have one := tySh.one hrep
  rw [hcs] at hc one hrepW
  have c0 := (hW.cell (p := ⟨Bt, 0, none⟩) hB).trans (hc 0 _ rfl)
  have c1 := (hW.cell (p := ⟨Bt, 1, none⟩) hB).trans (hc 1 _ rfl)
  have c2 := (hW.cell (p := ⟨Bt, 2, none⟩) hB).trans (hc 2 _ rfl)
  have c3 := (hW.cell (p := ⟨Bt, 3, none⟩) hB).trans (hc 3 _ rfl)
  have o0 := one v0 (by simp)
  have o1 := one v1 (by simp)
  have o2 := one v2 (by simp)
  have o3 := one v3 (by simp)
  have HW : Hid (n₀ ≤ W.heap.size) := Nat.le_trans hn0 hW.size
  have HJ : Hid (Of W.heap.size J) := hJ
  have HY : Hid _ := hY
  have RW : Hid (tySh.rep W (· < n₀) [v0, v1, v2, v3] T) := hrepW
  have H0 : Hid (J [] W) := h0
  clear hY hJ hJx hrep hrepW hc hcs one h0
  refine callsIn_of_wp Try.func54 rfl hF ?_ hro
  simp only [Try.ntmps54, List.size_toArray, List.length_cons, List.length_nil, Nat.reduceAdd, Nat.reduceSub, Array.replicate_succ, Array.replicate_zero, List.push_toArray, List.append_toArray, List.nil_append, List.cons_append]
  gi_wp2
  have O0 : Hid (rose.Own tySh 37 (W.alloc (.cells #[v0, v1, v2, v3] 37)) W.heap.size (· < n₀) (.slice (some ⟨W.heap.size, 0, none⟩) 1 1) [T]) := by
    refine ⟨fun _ => [v0, v1, v2, v3], ⟨rfl, Or.inr ⟨W.heap.size, 1, #[v0, v1, v2, v3], rfl, Nat.le_refl _, alloc_top _ _, Nat.le_refl _, by unfold maxLen; omega, rfl, rfl⟩⟩, fun i hi => ?_⟩
    have : i = 0 := by simp at hi; omega
    subst this
    exact tySh.on RW.out fun b hb => Below.heap_alloc _ _ _ (Nat.lt_of_lt_of_le hb HW.out)
  have J0 : Hid (J [] (W.alloc (.cells #[v0, v1, v2, v3] 37))) := HJ.out _ _ _ H0.out ((Below.refl _ _).alloc (Nat.le_refl _) _)
  gi_loopg [3] ((allT T).length) (fun k v3 wr => ∃ (pre : List Part) (st : List TyD), k = (allS st).length ∧ Hid (allT T = pre.map (·.T) ++ allS st ∧ rose.Own tySh 37 wr W.heap.size (· < n₀) v3 st ∧ W.heap.size ≤ wr.heap.size ∧ J pre wr))
  case atStart => exact ⟨[], [T], by rw [allS_one], by rw [allS_one]; rfl, O0.out, by simp, J0.out⟩
  case round =>
    obtain ⟨pre, st, hk, HI⟩ := hrel
    rcases List.eq_nil_or_concat st with rfl | ⟨st', t, rfl⟩
    · obtain ⟨a, cap, css, hv, -⟩ := tys_open (HI.out.2.1.slice (by decide))
      subst hv
      gi_wp2
      go_end0
      exact ⟨⟨_, rfl⟩, .inl ⟨pre, by rw [HI.out.1]; simp [allS], HI.out.2.2.2⟩⟩
    · rw [List.concat_eq_append] at HI hk
      have hlen : (allT T).length = pre.length + (allS (st' ++ t.kids)).length + 1 := by rw [HI.out.1, allS_concat]; simp; omega
      have hkk : gk = (allS (st' ++ t.kids)).length + 1 := by rw [hk, allS_concat]; simp
      obtain ⟨css, hown, hr⟩ := HI.out.2.1
      obtain ⟨g, cap, hv, hgB, hcp⟩ : ∃ g cap, u3 = .slice (some ⟨g, 0, none⟩) (st'.length + 1) cap ∧ W.heap.size ≤ g ∧ cap ≤ maxLen := by
        rcases hown.2 with ⟨_, h⟩ | ⟨g, cap, cur, h1, h2, h3, h4, h5, _⟩
        · simp at h
        · exact ⟨g, cap, by rw [h1]; simp, h2, h5⟩
      subst hv
      have hst : st'.length ≤ 1048576 := by
        have h1 := st_le st'
        rw [allS_append] at hlen
        simp at hlen
        omega
      have hst2 : st'.length + t.kids.length ≤ 1048576 := by
        have h1 := st_le (st' ++ t.kids)
        simp at h1
        omega
      have hrt := hr st'.length (by simp)
      simp only [List.getElem_append_right (Nat.le_refl _), Nat.sub_self, List.getElem_cons_zero] at hrt
      obtain ⟨x0, x1, x2, ks, ak, ck, hT, hcs, f0, f1, f2, fk⟩ := ty_open hrt
      simp only [List.length_append, List.length_cons, List.length_nil, Nat.zero_add] at hown
      have hcl : ∀ i, i < st'.length + 1 → (css i).length = 4 := fun i hi => tySh.len (hr i (by simpa using hi))
      have e0 : wr.cell? ⟨g, st'.length * 4, none⟩ = some (.int .i64 x0) := own_cell hown hcl (i := st'.length) (q := 0) (v := .int .i64 x0) (by omega) (by rw [hcs]; rfl)
      have e1 : wr.cell? ⟨g, st'.length * 4 + 1, none⟩ = some (.int .i64 x1) := own_cell hown hcl (i := st'.length) (q := 1) (v := .int .i64 x1) (by omega) (by rw [hcs]; rfl)
      have e2 : wr.cell? ⟨g, st'.length * 4 + 2, none⟩ = some (.string x2) := own_cell hown hcl (i := st'.length) (q := 2) (v := .string x2) (by omega) (by rw [hcs]; rfl)
      have e3 : wr.cell? ⟨g, st'.length * 4 + 3, none⟩ = some (.slice ak ks.length ck) := own_cell hown hcl (i := st'.length) (q := 3) (v := .slice ak ks.length ck) (by omega) (by rw [hcs]; rfl)
      subst hT
      simp only [Rose.kids] at hlen hkk hst2
      obtain ⟨j, hj⟩ : ∃ j, j = st'.length := ⟨_, rfl⟩
      rw [← hj] at e0 e1 e2 e3 hst hst2 ⊢
      have hrow2 := shrink (by rw [← hj] at hown; exact hown)
      rw [flat_take css j (by rw [hj]; exact hcl)] at hrow2
      obtain ⟨W1, hW1⟩ : ∃ W1, W1 = wr.alloc (.cells #[.int .i64 x0, .int .i64 x1, .string x2, .slice ak ks.length ck] 37) := ⟨_, rfl⟩
      have hJ1 : J pre W1 := by rw [hW1]; exact HJ.out _ _ _ HI.out.2.2.2 ((Below.refl _ _).alloc HI.out.2.2.1 _)
      obtain ⟨x, hxT, hxe⟩ : ∃ x : Part, x.T = .mk (x0, x1, x2) ks ∧ enc x = #[.agg #[.int .i64 x0, .int .i64 x1, .string x2, .slice ak ks.length ck]] := ⟨⟨.mk (x0, x1, x2) ks, ak, ck, f1.1, f1.2, by unfold maxLen; simp [Rose.kids]; omega⟩, rfl, rfl⟩
      obtain ⟨fn, tmps, assign, body, hy, hR⟩ := HY.out pre x W1 hJ1 (by omega)
      rw [hxe] at hy
      have HX : Hid (x.T = .mk (x0, x1, x2) ks) := hxT
      rw [hW1] at hy hR
      have HO : Hid _ := hrow2
      have HCL : Hid _ := hcl
      have HR : Hid _ := hr
      have HT : Hid _ := hrt
      have HL : Hid _ := hlen
      have HK : Hid _ := hkk
      have HJJ : Hid (j = st'.length) := hj
      clear hrow2 hcl hr hrt hlen hkk hj hown hJ1 hW1 W1 c0 c1 c2 c3 hcs hk hxT hxe
      have FK : Hid _ := fk
      clear fk
      gi_wp2
      refine hR.mono ?_
      rintro e W3 (⟨rfl, hJ3, hk3⟩ | ⟨rfl, hJx3⟩)
      · have B3 : W3.cell? ⟨wr.heap.size, 3, none⟩ = some (.slice ak ks.length ck) := by
          have := hk3.high wr.heap.size HI.out.2.2.1 (by simp)
          rw [World.cell?_of_block (w := wr.alloc _) (a := ⟨wr.heap.size, 3, none⟩) this]
          simp
        have ALL : Hid (allT T = (pre ++ [x]).map (·.T) ++ allS (st' ++ ks)) := by
          show _ = _
          rw [HI.out.1, allS_concat, List.map_append, List.map_cons, List.map_nil, HX.out]
          simp [Rose.kids]
        have L3 : Hid (∀ b, b < n₀ → W3.heap[b]? = wr.heap[b]?) := fun b hb => (hk3.low b hb).trans (Below.heap_alloc _ _ _ (Nat.lt_of_lt_of_le hb (Nat.le_trans HW.out HI.out.2.2.1)))
        have C1 : Hid (W3.drew.ownsRow W.heap.size 37 4 (.slice (some ⟨g, 0, none⟩) j cap) j (flat css j)) :=
          row_on HO.out fun q h1 h2 => (hk3.high q h1 (by simp; omega)).trans (Below.heap_alloc _ _ _ h2)
        have C2 : Hid (∀ i (h : i < st'.length), tySh.rep W3.drew (· < n₀) (css i) st'[i]) := fun i hi => by
          have := HR.out i (by simp; omega)
          rw [List.getElem_append_left hi] at this
          exact tySh.on this fun b hb => L3.out b hb
        have KK : Hid (tySh.slice.rep W3.drew (· < n₀) [.slice ak ks.length ck] ks) := tySh.slice.on FK.out fun b hb => L3.out b hb
        have Z3 : Hid (W.heap.size ≤ W3.heap.size) := Nat.le_trans HI.out.2.2.1 (Nat.le_trans (by simp) hk3.size)
        have hjc : j ≤ cap := by
          rcases C1.out.2 with ⟨h, _⟩ | ⟨g', c', cur, h1, h2, h3, h4, _⟩
          · cases h
          · cases h1; exact h4
        clear FK HR HO HCL HT hR hk3 L3
        cases ak with
        | none =>
          obtain ⟨hks, hck⟩ := tys_none KK.out
          have hrun := run_append_owned_none (P := Try.prog) (w := W3.drew) W.heap.size 35 35 37 ti 4 Try.underlying35 TI.out.1 _ _ _ C1.out
          subst hks hck
          gi_wp2
          have OF : Hid (rose.Own tySh 37 W3.drew W.heap.size (· < n₀) (.slice (some ⟨g, 0, none⟩) j cap) (st' ++ [])) := by
            rw [List.append_nil]
            exact ⟨css, by rw [← HJJ.out]; exact C1.out, C2.out⟩
          have JF : Hid (J (pre ++ [x]) W3.drew) := HJ.out _ _ _ hJ3 (Below.refl _ _).drew
          refine wpIn_region_any (by kernel_rfl) ?_
          change wpAnyIn _ _ _ _ _ _ _ _ _ (World.drew _)
          refine wpAnyIn_take (i := 0) (v := .slice (some ⟨g, 0, none⟩) (j + 1) cap) hro rfl (by kernel_rfl) (by kernel_rfl) (by kernel_rfl) (fun _ _ _ h => h) ⟨Or.inl ⟨by rfl, ?_⟩, fun _ => rfl⟩ ?_
          · intro w; go_simp
          refine wpAnyIn_take (i := 1) (v := .int .i64 j) hro rfl (by kernel_rfl) (by kernel_rfl) (by kernel_rfl) (fun _ _ _ h => h) ⟨Or.inl ⟨by rfl, ?_⟩, fun _ => rfl⟩ ?_
          · intro w; go_simp
          refine wpAnyIn_take (i := 3) (v := .pointer (some ⟨wr.heap.size, 3, none⟩)) hro rfl (by kernel_rfl) (by kernel_rfl) (by kernel_rfl) (fun _ _ _ h => h) ⟨Or.inl ⟨by rfl, ?_⟩, fun _ => rfl⟩ ?_
          · intro w; go_simp
          refine wpAnyIn_take (i := 2) (v := .slice (some ⟨g, 0, none⟩) j cap) hro rfl (by kernel_rfl) (by kernel_rfl) (by kernel_rfl) (fun _ _ _ h => h) ⟨Or.inl ⟨by rfl, ?_⟩, fun _ => rfl⟩ ?_
          · intro w; go_simp
          refine wpAnyIn_ready (rs := [4]) (by kernel_rfl) (by simp) ?_
          refine AllReadyIn.cons rfl (fun K hK => ?_) AllReadyIn.nil
          go_simp
          refine hK _ _ ?_
          clear hK K
          refine wpAnyIn_ready (rs := [5]) (by kernel_rfl) (by simp) ?_
          refine AllReadyIn.cons rfl (fun K hK => ?_) AllReadyIn.nil
          refine stepIn_append (by rfl) (by rfl) (by rfl) hrun ?_
          refine hK _ _ ?_
          clear hK K
          refine wpAnyIn_ready (rs := [6]) (by kernel_rfl) (by simp) ?_
          refine AllReadyIn.cons rfl (fun K hK => ?_) AllReadyIn.nil
          go_simp
          refine hK _ _ ?_
          clear hK K
          refine wpAnyIn_done (by kernel_rfl) ?_ _
          gi_wp2
          gi_roundg ((allS (st' ++ [])).length)
          case rel => exact ⟨pre ++ [x], st' ++ [], rfl, ALL.out, OF.out, Z3.out, JF.out⟩
          case measure => rw [HK.out]; omega
        | some ad =>
          obtain ⟨a1, cap1, css2, e, -, -, hrow, hk2⟩ := tys_open KK.out
          cases e
          have NW : Hid (∀ q u, (flat css2 ks.length)[q]? = some u → W3.drew.cell? (ad.add q) = some u) := by
            intro q u hq
            by_cases h0 : ks.length = 0
            · rw [h0] at hq; simp [flat] at hq
            · obtain ⟨b2, o2, e2, hS2, _⟩ := hrow 0 (by omega)
              cases e2
              have := flat_row (fun i hi => tySh.len (hk2 i hi)) hrow q u hq
              rw [add_plain]
              exact this
          have LN : Hid ((flat css2 ks.length).length = ks.length * 4) := flat_length fun i hi => tySh.len (hk2 i hi)
          have ON : Hid (∀ u ∈ flat css2 ks.length, u.oneCell' = true) := by
            intro u hu
            obtain ⟨i, hi, hu⟩ := List.mem_flatMap.1 hu
            exact tySh.one (hk2 i (List.mem_range.1 hi)) u hu
          have RP : Hid (∀ i (h : i < ks.length), tySh.rep W3.drew (· < n₀) (css2 i) ks[i]) := hk2
          obtain ⟨v', w', hrun, hown', hgrow, -⟩ := run_append_own (P := Try.prog) W3.drew W.heap.size 35 35 37 ti _ 4 56 Try.underlying35 TI.out.1 TI.out.2.1 TI.out.2.2.1 TI.out.2.2.2 rfl (by decide) _ _ _ C1.out ad ks.length ck _ LN.out NW.out ON.out (by unfold maxLen; omega) (by omega) Z3.out
          have BF : Hid (Below W.heap.size W3 w') := (Below.refl _ _).drew.grown hgrow Z3.out fun k hk => by
            rcases C1.out.2 with ⟨e, _⟩ | ⟨g, c, cur, e, hle, _⟩
            · cases e
            · rw [e] at hk; cases hk; exact hle
          have OF : Hid (rose.Own tySh 37 w' W.heap.size (· < n₀) v' (st' ++ ks)) :=
            rose.Own.more (A := tySh) (css := css) (css2 := css2) (by rw [← HJJ.out]; exact C1.out) C2.out RP.out (fun _ h => Nat.lt_of_lt_of_le h HW.out) Z3.out (by rw [← HJJ.out]; exact hown') hgrow
          have JF : Hid (J (pre ++ [x]) w') := HJ.out _ _ _ hJ3 BF.out
          have ZF : Hid (W.heap.size ≤ w'.heap.size) := Nat.le_trans Z3.out BF.out.size
          clear hrow hk2 hgrow hown'
          gi_wp2
          refine wpIn_region_any (by kernel_rfl) ?_
          change wpAnyIn _ _ _ _ _ _ _ _ _ (World.drew _)
          refine wpAnyIn_take (i := 0) (v := .slice (some ⟨g, 0, none⟩) (j + 1) cap) hro rfl (by kernel_rfl) (by kernel_rfl) (by kernel_rfl) (fun _ _ _ h => h) ⟨Or.inl ⟨by rfl, ?_⟩, fun _ => rfl⟩ ?_
          · intro w; go_simp
          refine wpAnyIn_take (i := 1) (v := .int .i64 j) hro rfl (by kernel_rfl) (by kernel_rfl) (by kernel_rfl) (fun _ _ _ h => h) ⟨Or.inl ⟨by rfl, ?_⟩, fun _ => rfl⟩ ?_
          · intro w; go_simp
          refine wpAnyIn_take (i := 3) (v := .pointer (some ⟨wr.heap.size, 3, none⟩)) hro rfl (by kernel_rfl) (by kernel_rfl) (by kernel_rfl) (fun _ _ _ h => h) ⟨Or.inl ⟨by rfl, ?_⟩, fun _ => rfl⟩ ?_
          · intro w; go_simp
          refine wpAnyIn_take (i := 2) (v := .slice (some ⟨g, 0, none⟩) j cap) hro rfl (by kernel_rfl) (by kernel_rfl) (by kernel_rfl) (fun _ _ _ h => h) ⟨Or.inl ⟨by rfl, ?_⟩, fun _ => rfl⟩ ?_
          · intro w; go_simp
          refine wpAnyIn_ready (rs := [4]) (by kernel_rfl) (by simp) ?_
          refine AllReadyIn.cons rfl (fun K hK => ?_) AllReadyIn.nil
          go_simp
          refine hK _ _ ?_
          clear hK K
          refine wpAnyIn_ready (rs := [5]) (by kernel_rfl) (by simp) ?_
          refine AllReadyIn.cons rfl (fun K hK => ?_) AllReadyIn.nil
          refine stepIn_append (by rfl) (by rfl) (by rfl) hrun ?_
          refine hK _ _ ?_
          clear hK K
          refine wpAnyIn_ready (rs := [6]) (by kernel_rfl) (by simp) ?_
          refine AllReadyIn.cons rfl (fun K hK => ?_) AllReadyIn.nil
          go_simp
          refine hK _ _ ?_
          clear hK K
          refine wpAnyIn_done (by kernel_rfl) ?_ _
          gi_wp2
          gi_roundg ((allS (st' ++ ks)).length)
          case rel => exact ⟨pre ++ [x], st' ++ ks, rfl, ALL.out, OF.out, ZF.out, JF.out⟩
          case measure => rw [HK.out]; omega
      · gi_wp2
        refine bodyPost_ret (results_none rfl _ _ _) rfl ?_
        exact ⟨⟨_, rfl⟩, .inr ⟨_, by rw [HI.out.1, allS_concat, List.map_append, List.map_cons, List.map_nil, HX.out]; simp, hJx3⟩⟩

end Go.Proofs.Ytilophmgngcbhaa.ty
