/-
  The model's l20Back where a con's block stands with its kids.
-/
import Derived.Deep.RegionHeld3
import Derived.Maps.AppendAt
import Derived.Test.YtjofmoebijdccaaGreatB1
import Derived.Test.YtjofmoebijdccaaGreatB2
import Derived.Test.YtjofmoebijdccaaGreatB3
import Derived.Test.YtjofmoebijdccaaGreatB4
import Derived.Test.YtjofmoebijdccaaGreatB5
import Derived.Test.YtjofmoebijdccaaGreatB6
import Derived.Test.YtjofmoebijdccaaGreatB7
import Derived.Test.YtjofmoebijdccaaGreatB8
import Derived.Test.YtjofmoebijdccaaGreatB9
import Derived.Test.YtjofmoebijdccaaGreatB10
import Derived.Test.YtjofmoebijdccaaGreatB11
import Derived.Test.YtjofmoebijdccaaGreatB12
import Derived.Test.YtjofmoebijdccaaGreatB13
import Derived.Test.YtjofmoebijdccaaGreatB14
import Derived.Test.YtjofmoebijdccaaGreatB15
import Derived.Test.YtjofmoebijdccaaGreatB16
import Derived.Test.YtjofmoebijdccaaGreatB17
import Derived.Test.YtjofmoebijdccaaGreatB18
import Derived.Test.YtjofmoebijdccaaGreatB19
namespace Go.Proofs.YtjofmoebijdccaaGreat.back
open Go Go.RowKit Go.Proofs.YtjofmoebijdccaaGreat.rose Go.Proofs.YtjofmoebijdccaaGreat Go.Proofs.YtjofmoebijdccaaGreat.heap Go.Proofs.YtjofmoebijdccaaGreat.words
set_option linter.unusedVariables false
set_option linter.unusedSimpArgs false

theorem infoV : (Tryz.prog.info? 34).map (fun i => (i.zero, i.size, i.bytes)) = some (some (.agg #[.int .i64 0, .int .i64 0, .string ⟨#[]⟩, .slice none 0 0]), 4, 56) := by kernel_rfl

/-- Where the loop over kids stands: the value that is made lies in block g. -/
structure SL (w wr : World) (cs : List Value) (k g : Nat) (r : Int) (nm : ByteArray) (v : Value) (vs : List VD) : Prop where
  sk : SK w wr cs k r
  out : wr.heap[g]? = some (.cells #[.int .i64 2, .int .i64 0, .string nm, v] 34)
  gge : w.heap.size + 2 ≤ g
  grown : Grown value.valueSp 34 wr (g + 1) v vs

theorem SK.box_on {w wr w4 : World} {cs : List Value} {k : Nat} {r : Int} (h : SK w wr cs k r) (ho : Only (· = k) wr w4) : w4.heap[w.heap.size]? = some (.cells cs.toArray 40) :=
  (ho.block _ (Array.getElem?_eq_some_iff.1 h.box).1 (by have := h.klt; omega)).trans h.box
theorem SK.res_on {w wr w4 : World} {cs : List Value} {k : Nat} {r : Int} (h : SK w wr cs k r) (ho : Only (· = k) wr w4) : w4.heap[w.heap.size + 1]? = some (.cells #[.int .i64 0, .int .i64 0, .string ⟨#[]⟩, .slice none 0 0] 34) :=
  (ho.block _ (Array.getElem?_eq_some_iff.1 h.res).1 (by have := h.klt; omega)).trans h.res
theorem no_end {w wr : World} {k : Nat} {o : Option (VD × Nat)} (h : Only (· = k) w wr) (ho : o = none) {e : Ending} (he : e = .returned (.tuple #[.agg zcs.toArray, .bool false])) (n0 n1 n2 n3 : Value) :
    SpecOut k w o e ((((wr.setCell ⟨w.heap.size + 1, 0, none⟩ n0).setCell ⟨w.heap.size + 1, 1, none⟩ n1).setCell ⟨w.heap.size + 1, 2, none⟩ n2).setCell ⟨w.heap.size + 1, 3, none⟩ n3) :=
  ⟨only4 h _ _ _ _ _ (fun hl => by omega), fun _ => he, fun V q hq => by rw [ho] at hq; cases hq⟩
theorem sl_end {w wr : World} {cs : List Value} {k g q : Nat} {nm : ByteArray} {v : Value} {vs : List VD} {o : Option (VD × Nat)} (h : SL w wr cs k g (q : Int) nm v vs) (hn : nm.size ≤ maxLen) (ho : o = some (.mk (2, 0, nm) vs, q)) {e : Ending}
    (he : e = .returned (.tuple #[.agg #[.int .i64 2, .int .i64 0, .string nm, v], .bool true])) (n0 n1 n2 n3 : Value) :
    SpecOut k w o e ((((wr.setCell ⟨w.heap.size + 1, 0, none⟩ n0).setCell ⟨w.heap.size + 1, 1, none⟩ n1).setCell ⟨w.heap.size + 1, 2, none⟩ n2).setCell ⟨w.heap.size + 1, 3, none⟩ n3) := by
  have hkl := h.sk.klt
  have hge := h.gge
  refine ⟨only4 h.sk.only _ _ _ _ _ (fun hl => by omega), fun hn => (by rw [ho] at hn; cases hn), fun V q' hq => ?_⟩
  rw [ho] at hq
  simp only [Option.some.injEq, Prod.mk.injEq] at hq
  obtain ⟨rfl, rfl⟩ := hq
  refine ⟨⟨[.int .i64 2, .int .i64 0, .string nm, v], he, ?_⟩, ?_⟩
  · refine value.valuep_shutv (by omega) (by omega) hn ?_
    refine value.valueSp.sslice.mono (value.valueSp.sslice.on (h.grown.sslice (by decide)) fun b hb => set4_other (by omega)) fun b hb => ⟨by omega, by simp [World.setCell]; exact hb.2⟩
  · rw [set4_other (by omega)]
    exact h.sk.work

theorem cell_al {w : World} {b j : Nat} {v : Value} {X : Obj} (h : w.cell? ⟨b, j, none⟩ = some v) : (w.alloc X).cell? ⟨b, j, none⟩ = some v := by
  have hb : b < w.heap.size := by
    rcases Nat.lt_or_ge b w.heap.size with q | q
    · exact q
    · simp [World.cell?, Array.getElem?_eq_none q] at h
  exact (((Below.refl _ w).alloc (Nat.le_refl _) X).cell (p := ⟨b, j, none⟩) hb).trans h

theorem cell_s4 {w4 : World} {g b j : Nat} {v n0 n1 n2 n3 : Value} (h : w4.cell? ⟨b, j, none⟩ = some v) (hne : b ≠ g) : ((((w4.setCell ⟨g, 0, none⟩ n0).setCell ⟨g, 1, none⟩ n1).setCell ⟨g, 2, none⟩ n2).setCell ⟨g, 3, none⟩ n3).cell? ⟨b, j, none⟩ = some v := by
  simp only [World.cell?] at h ⊢
  rw [set4_other hne]
  exact h

/-- A kid was told: its cells stand in g5. -/
structure Kid (wr w5 : World) (k g5 q' : Nat) (V : VD) (n0 n1 n2 n3 : Value) : Prop where
  only : Only (· = k) wr w5
  work : w5.heap[k]? = some (.cells #[.int .i64 (q' : Nat)] 92)
  rep : value.valueSp.rep w5 (fun b => wr.heap.size ≤ b ∧ b < w5.heap.size) [n0, n1, n2, n3] V
  at_ : w5.heap[g5]? = some (.cells #[n0, n1, n2, n3] 34)
theorem kid_a {wr w4 : World} {k q' : Nat} {V : VD} {n0 n1 n2 n3 : Value} (ho : Only (· = k) wr.drew w4) (hk : w4.heap[k]? = some (.cells #[.int .i64 (q' : Nat)] 92)) (hr : value.valueSp.rep w4 (fun b => wr.drew.heap.size ≤ b ∧ b < w4.heap.size) [n0, n1, n2, n3] V) :
    Kid wr (w4.alloc (.cells #[n0, n1, n2, n3] 34)) k w4.heap.size q' V n0 n1 n2 n3 := by
  have hA : Below w4.heap.size w4 (w4.alloc (.cells #[n0, n1, n2, n3] 34)) := (Below.refl _ _).alloc (Nat.le_refl _) _
  have hkl := (Array.getElem?_eq_some_iff.1 hk).1
  exact ⟨((Only.refl _ wr).drew.trans ho).alloc _, (hA.block k hkl).trans hk, value.valueSp.mono (value.valueSp.on hr fun b hb => hA.block b hb.2) fun b hb => ⟨hb.1, by simp; have := hb.2; omega⟩, alloc_top _ _⟩
theorem kid_b {wr w4 : World} {k q' : Nat} {V : VD} {n0 n1 n2 n3 p0 p1 p2 p3 : Value} (hkw : k < wr.heap.size) (ho : Only (· = k) (wr.alloc (.cells #[p0, p1, p2, p3] 34)).drew w4) (hk : w4.heap[k]? = some (.cells #[.int .i64 (q' : Nat)] 92))
    (hr : value.valueSp.rep w4 (fun b => (wr.alloc (.cells #[p0, p1, p2, p3] 34)).drew.heap.size ≤ b ∧ b < w4.heap.size) [n0, n1, n2, n3] V) :
    Kid wr ((((w4.setCell ⟨wr.heap.size, 0, none⟩ n0).setCell ⟨wr.heap.size, 1, none⟩ n1).setCell ⟨wr.heap.size, 2, none⟩ n2).setCell ⟨wr.heap.size, 3, none⟩ n3) k wr.heap.size q' V n0 n1 n2 n3 := by
  have hs : (wr.alloc (.cells #[p0, p1, p2, p3] 34)).drew.heap.size = wr.heap.size + 1 := by show (wr.alloc _).heap.size = _; simp
  have ht : (wr.alloc (.cells #[p0, p1, p2, p3] 34)).drew.heap[wr.heap.size]? = some (.cells #[p0, p1, p2, p3] 34) := alloc_top _ _
  have hz : w4.heap[wr.heap.size]? = some (.cells #[p0, p1, p2, p3] 34) := (ho.block _ (by omega) (by omega)).trans ht
  have h1 : Only (· = k) wr w4 := (((Only.refl _ wr).alloc _).drew).trans ho
  refine ⟨only4 h1 _ _ _ _ _ (fun hl => by omega), (set4_other (by omega)).trans hk, value.valueSp.mono (value.valueSp.on hr fun b hb => set4_other (by omega)) fun b hb => ⟨by omega, by simp [World.setCell]; exact hb.2⟩, set4_blk hz⟩

/-- It is put behind the others. -/
theorem SL.kid {w wr w5 w6 : World} {cs : List Value} {k g g5 : Nat} {r : Int} {q' : Nat} {nm : ByteArray} {v : Value} {vs : List VD} {V : VD} {n0 n1 n2 n3 : Value} {css : Nat → List Value} {F : Nat → Nat → Prop} {Y : Obj} {ua : Option Addr} {ul uc : Nat}
    (h : SL w wr cs k g r nm v vs)
    (grep : ∀ j (h : j < vs.length), value.valueSp.rep wr (F j) (css j) vs[j]) (gin : ∀ j, j < vs.length → ∀ b, F j b → g + 1 ≤ b ∧ b < wr.heap.size ∧ v.ownBlock ≠ some b) (gap : ∀ j l, j < vs.length → l < vs.length → j ≠ l → ∀ b, F j b → ¬ F l b)
    (hK : Kid wr w5 k g5 q' V n0 n1 n2 n3)
    (hown : w6.ownsRow (g + 1) 34 4 (.slice ua ul uc) (vs.length + 1) (flat css vs.length ++ [n0, n1, n2, n3])) (hg : (w5.alloc Y).grownBy w6 v.ownBlock) (hat : (Value.slice ua ul uc).ownBlock = v.ownBlock ∨ (Value.slice ua ul uc).ownBlock = some (w5.alloc Y).heap.size) :
    SL w (w6.setCell ⟨g, 3, none⟩ (.slice ua ul uc)) cs k g (q' : Int) nm (.slice ua ul uc) (vs ++ [V]) := by
  have ho := hK.only
  have hk := hK.work
  have hr := hK.rep
  have hkl := h.sk.klt
  have hge := h.gge
  have hgl : g < wr.heap.size := (Array.getElem?_eq_some_iff.1 h.out).1
  have hsz := h.sk.le
  have hA : Below w5.heap.size w5 (w5.alloc Y) := (Below.refl _ _).alloc (Nat.le_refl _) _
  have hz := ho.size
  have hvo : ∀ q, v.ownBlock = some q → g + 1 ≤ q ∧ q < wr.heap.size := fun q hq => h.grown.own hq
  have hs6 : w5.heap.size ≤ w6.heap.size := by have := hg.size; simp at this; omega
  have same : ∀ b, b < wr.heap.size → b ≠ k → v.ownBlock ≠ some b → w6.heap[b]? = wr.heap[b]? := fun b hb hne hn => (hg.block b (by simp; omega) (fun e => hn e.symm)).trans ((hA.block b (by omega)).trans (ho.block b hb hne))
  have samek : w6.heap[k]? = w5.heap[k]? := (hg.block k (by simp; omega) (fun e => by have := hvo k e.symm; omega)).trans (hA.block k (by omega))
  have hG : Grown value.valueSp 34 w6 (g + 1) (.slice ua ul uc) (vs ++ [V]) := by
    refine Grown.push (w := wr) (w1 := w5.alloc Y) (css := css) (F := F) (v := v) (lo := wr.heap.size) (hi := w5.heap.size) (cs := [n0, n1, n2, n3]) (fun j hj => value.valueSp.on (grep j hj) fun b hb => ?_) gin gap (fun q hq => (hvo q hq).2) (value.valueSp.on hr fun b hb => hA.block b hb.2) (by omega) hz (by simp) hown hg hat
    have := gin j hj b hb
    exact (hA.block b (by omega)).trans (ho.block b this.2.1 (by omega))
  refine ⟨⟨?_, ?_, ?_, ?_, hkl⟩, ?_, hge, ?_⟩
  · exact Only.set (((h.sk.only.trans ho).alloc Y).grown hg (fun q hq hl => by have := hvo q hq; omega)) g 3 _ (fun hl => by omega)
  · rw [Below.heap_setCell _ _ _ _ (by show w.heap.size ≠ g; omega)]
    exact (same _ (by omega) (by omega) (fun e => by have := hvo _ e; omega)).trans h.sk.box
  · rw [Below.heap_setCell _ _ _ _ (by show w.heap.size + 1 ≠ g; omega)]
    exact (same _ (by omega) (by omega) (fun e => by have := hvo _ e; omega)).trans h.sk.res
  · rw [Below.heap_setCell _ _ _ _ (by show k ≠ g; omega)]
    exact samek.trans hk
  · have := (same g hgl (by omega) (fun e => by have := hvo _ e; omega)).trans h.out
    simp [World.setCell, Array.getElem?_modify, this]
  · exact hG.on (by simp [World.setCell]) fun b h1 h2 => Below.heap_setCell _ _ _ _ (by show b ≠ g; omega)

set_option maxRecDepth 100000 in
set_option maxHeartbeats 8000000 in
/-- A con with its kids. -/
theorem spec_con (L : Nat) (ks : List data.DataD) (T : HeapD) (vl vp : Value) (cs : List Value) (d n k : Nat) (D ρ x : Int) (w : World) (hD1 : 1 ≤ D) (hD2 : D ≤ 200) (hn : n < 4000) (hρ : ρ = (n : Int) + 1) (hx1 : -9223372036854775808 ≤ x) (hx2 : x ≤ 9223372036854775807) (hL : L ≤ k)
    (hk : w.heap[k]? = some (.cells #[.int .i64 ρ] 92)) (he : SE L w vl vp cs ks T) (hx : decide (x % 2 = 0) = true) (hp : decide (x / 2 ∈ (plT T).1) = true) (z : Nat) (hz : x / 2 = (z : Int)) (hzl : z < T.1.length) (hf : funF (T.1.getD z 0) = false) (hw : ks.length + data.wts ks ≤ 1048576) (s : data.Spot) (hcn : conAt ks (tagF (T.1.getD z 0)) = some s) (hm : (s.c.2.length : Int) = manyF (T.1.getD z 0)) (hzm : z + s.c.2.length < T.1.length) (hDd : D - 1 = (d : Int)) (IH : SpecSays L ks T vl vp cs d) :
    Calls Tryz.prog 47 #[.pointer (some ⟨k, 0, none⟩), vl, .agg cs.toArray, vp, .int .i64 x, .int .i64 D] w fun e w' => SpecOut k w (backD (topB ks T) (d + 1) (n + 1) x) e w' := by
  obtain ⟨W, a0, c0, half, base, next, rfl, rfl, f0, f1, f2, f3⟩ := heap_open he.heap
  have H0 : Hid (SK w _ [.slice a0 W.length c0, .int .i64 half, .int .i64 base, .int .i64 next] k ρ) := sk_two hk
  have H1 : Hid (SK w _ [.slice a0 W.length c0, .int .i64 half, .int .i64 base, .int .i64 next] k (ρ - 1)) := H0.out.put _
  have c1 := H0.out.k1
  have z1 := blk_free (i := 0) H0.out.work
  have c2 := H1.out.k1
  have fr := H1.out.rfree
  have r0 := H1.out.r0
  have r1 := H1.out.r1
  have r2 := H1.out.r2
  have r3 := H1.out.r3
  have o0 := data.dataSh.slice.one he.list vl (by simp)
  have o1 := ints.intsSh.one he.plcs vp (by simp)
  have t0 : (D == 0) = false := by simp; omega
  have p1 : 0 ≤ ρ ∧ ρ ≤ 4000 := by omega
  have t1 : decide (ρ - 1 < 0) = false := by simp; omega
  have HR : Hid (ρ - 1 = (n : Int)) := by show _ = _; omega
  have HT : Hid (topB ks (W, half, base, next) x = some ((2, 0, s.c.1), (W.drop (z + 1)).take s.c.2.length)) := by
    have := top_con (ks := ks) (T := (W, half, base, next)) (of_decide_eq_true hx) (of_decide_eq_true hp) (by rw [hz, Int.toNat_natCast]; exact hf) (by rw [hz, Int.toNat_natCast]; exact hcn) (by rw [hz, Int.toNat_natCast]; exact hm)
    rw [hz, Int.toNat_natCast] at this
    exact this
  obtain ⟨a, cap, ea, hcap, hmax, hat⟩ := ints.ints_open (words_rep (H1.out.env hL he).heap)
  cases ea
  obtain ⟨b, o, rfl, hS, hc, q1, q2⟩ := hat z hzl
  have hgd := getD_at hzl
  rw [← hgd] at hc q1 q2
  obtain ⟨X, hX⟩ : ∃ X, X = W.getD z 0 := ⟨_, rfl⟩
  rw [← hX] at hc q1 q2
  have b0 := blk_cell (i := 0) H1.out.box rfl
  have zI : (z : Int) < (W.length : Int) := by have hzl2 : z < W.length := hzl; omega
  have z0 : (0 : Int) ≤ (z : Int) := by omega
  have hin := in7_is vp _ hp (ints.intsSh.mono (H1.out.env hL he).plcs fun b hb => by have := H1.out.klt; have := H1.out.le; omega)
  have hfx : funF X = false := by rw [hX]; exact hf
  have htg : -9223372036854775808 ≤ tagF X ∧ tagF X ≤ 9223372036854775807 := tag_in q1 q2
  have hcall := data.specTagCon ks vl (tagF X) _ htg.1 htg.2 hw (data.dataSh.slice.mono (H1.out.env hL he).list fun b hb => by have := H1.out.klt; have := H1.out.le; omega)
  obtain ⟨hsp, hsi, hsj, hsc⟩ := con_spot (show conAt ks (tagF X) = some s by rw [hX]; exact hcn)
  rw [hsp] at hcall
  dsimp only at hcall
  obtain ⟨mn, hmn⟩ : ∃ mn, mn = s.c.2.length := ⟨_, rfl⟩
  have hmx : manyF X = (mn : Int) := by rw [hX, hmn]; exact hm.symm
  have hof : ∀ W' : World, Calls Tryz.prog 63 #[.int .i64 X] W' fun e w' => e = .returned (.tuple #[.bool (funF X), .int .i64 (tagF X), .int .i64 (mn : Int)]) ∧ w' = W' := fun W' => by rw [← hmx]; exact of_is X W' q1 q2
  have HM : Hid (mn = s.c.2.length ∧ z + mn < W.length ∧ D - 1 = (d : Int)) := ⟨hmn, by rw [hmn]; exact hzm, hDd⟩
  have hmn63 : mn ≤ 63 := by have := many_in X; omega
  have HE : Hid (SE L w vl vp [.slice (some ⟨b, o, none⟩) W.length c0, .int .i64 half, .int .i64 base, .int .i64 next] ks (W, half, base, next)) := he
  have HI : Hid _ := IH
  clear hm hmn hmx hDd IH hzm hcn
  rw [hz] at hin
  have hwr : ∀ W' : World, Calls Tryz.prog 67 #[.int .i64 x] W' fun e w' => e = .returned (.int .i64 (z : Int)) ∧ w' = W' := fun W' => by rw [← hz]; exact wordref_is x W'
  clear f0 f1 f2 f3 hk hρ hX hgd hat hcap hmax hz hp hf
  go_enter Tryz.func47, Tryz.ntmps47
  go_wp2_with (first | (go_at_call 65; refine (isref_is hx).mono ?_; rintro e w' ⟨rfl, hxx⟩; subst w') | (go_at_call 67; refine (hwr _).mono ?_; rintro e w' ⟨rfl, hxx⟩; subst w') | (go_at_call 68; refine hin.mono ?_; rintro e w' ⟨rfl, hxx⟩; subst w') | (go_at_call 63; refine (hof _).mono ?_; rintro e w' ⟨rfl, hxx⟩; subst w'))
  refine hcall.mono ?_
  rintro e w2 ⟨rfl, hb2⟩
  have H2 : Hid (SK w w2 [.slice (some ⟨b, o, none⟩) W.length c0, .int .i64 half, .int .i64 base, .int .i64 next] k (ρ - 1)) := H1.out.on hb2
  clear hcall hb2 c1 z1 c2 fr r0 r1 r2 r3 b0 hc
  have fr := H2.out.rfree
  have r0 := H2.out.r0
  have r1 := H2.out.r1
  have r2 := H2.out.r2
  have r3 := H2.out.r3
  have E2 : Hid (SE L w2 vl vp [.slice (some ⟨b, o, none⟩) W.length c0, .int .i64 half, .int .i64 base, .int .i64 next] ks (W, half, base, next)) := H2.out.env hL he
  obtain ⟨al, capl, cssl, rfl, hcl, hml, hrl, hkl⟩ := data.datas_open E2.out.list
  obtain ⟨bl, ol, rfl, hSl, hcd⟩ := hrl s.i hsi
  obtain ⟨y0, y1, y2, a2, cc2, hT, hcs, g0, g1, g2⟩ := data.data_open (hkl s.i hsi)
  rw [hcs] at hcd
  have d2 := hcd 2 _ rfl
  obtain ⟨a1, cap1, cs1, e1, -, -, hrow, hk1⟩ := con.cons_open g2
  cases e1
  have hsj' : s.j < y2.length := by rw [hT] at hsj; exact hsj
  obtain ⟨bc, oc, rfl, hSc, hcc⟩ := hrow s.j hsj'
  obtain ⟨u0, u1, a3, c3, hT2, hcs2, g3, g4⟩ := con.con_open (hk1 s.j hsj')
  rw [hcs2] at hcc
  have hu : s.c = (u0, u1) := by rw [← hsc, ← hT2]; simp only [hT]
  have n0 : w2.cell? ⟨bc, oc + s.j * 2, none⟩ = some (.string u0) := hcc 0 _ rfl
  have n1 := hcc 1 _ rfl
  have iI : (s.i : Int) < (ks.length : Int) := by omega
  have i0 : (0 : Int) ≤ (s.i : Int) := by omega
  have i1 : decide ((s.i : Int) < 0) = false := by simp
  have jI : (s.j : Int) < (y2.length : Int) := by omega
  have j0 : (0 : Int) ≤ (s.j : Int) := by omega
  have tm : ((u1.length : Int) != (mn : Int)) = false := by rw [HM.out.1, hu]; simp
  have HSC : Hid (s.c.1 = u0) := by show _ = _; rw [hu]
  have h2l := H2.out.le
  have hu0 : u0.size ≤ maxLen := g3
  have HU : Hid (u0.size ≤ maxLen) := hu0
  have H2n : Hid (SK w w2 [.slice (some ⟨b, o, none⟩) W.length c0, .int .i64 half, .int .i64 base, .int .i64 next] k (n : Int)) := by have := H2.out; rw [HR.out] at this; exact this
  obtain ⟨ti, hti, hzz⟩ := Option.map_eq_some_iff.1 infoV
  simp only [Prod.mk.injEq] at hzz
  obtain ⟨hz0, hz1, hz2⟩ := hzz
  have TI : Hid (Tryz.prog.info? 34 = some ti ∧ ti.zero = some (.agg #[.int .i64 0, .int .i64 0, .string ⟨#[]⟩, .slice none 0 0]) ∧ ti.size = 4 ∧ ti.bytes = 56) := ⟨hti, hz0, hz1, hz2⟩
  clear he hcl hml hrl hkl hSl hcd hT hcs g0 g1 g2 hrow hk1 hSc hcc hT2 hcs2 g3 g4 hu hu0 hsc hsj hsp hti hz0 hz1 hz2 HR
  go_wp2
  clear n0 n1 d2 fr r0 r1 r2 r3
  have HG : Hid (∃ g, g = w2.heap.size) := ⟨_, rfl⟩
  go_loopw [21] (fun v21 wr => ∃ (i q : Nat) (v : Value) (vs : List VD), 1 ≤ i ∧ i ≤ mn + 1 ∧ v21 = .int .i64 (i : Nat) ∧ q ≤ 4000 ∧ Hid (SL w wr [.slice (some ⟨b, o, none⟩) W.length c0, .int .i64 half, .int .i64 base, .int .i64 next] k w2.heap.size (q : Int) u0 v vs) ∧ Hid (Stand (backD (topB ks (W, half, base, next)) d) n ((W.drop (z + 1)).take mn) (i - 1) vs q)) (fun v21 _ => mn + 2 - (intOf v21).toNat)
  case atStart =>
    refine ⟨1, n, .slice none 0 0, [], by omega, by omega, by first | rfl | simp, by omega, ⟨H2n.out.on ((Below.refl _ _).alloc (Nat.le_refl _) _), alloc_top _ _, h2l, Grown.nil _ _ _ _⟩, Stand.start _ _ _⟩
  case round =>
    obtain ⟨i, q, v, vs, hi1, hi2, rfl, hq4, HL, HST⟩ := hrel
    have hgl : w2.heap.size < wr.heap.size := (Array.getElem?_eq_some_iff.1 HL.out.out).1
    by_cases hlt : i ≤ mn
    · have HE2 : Hid (SE L wr (.slice (some ⟨bl, ol, none⟩) ks.length capl) vp [.slice (some ⟨b, o, none⟩) W.length c0, .int .i64 half, .int .i64 base, .int .i64 next] ks (W, half, base, next)) := HL.out.sk.env hL HE.out
      obtain ⟨a', cap', ea', hcx, hmx', hat⟩ := ints.ints_open (words_rep HE2.out.heap)
      cases ea'
      have hmx9 : (W.length : Int) ≤ 9223372036854775807 := by unfold maxLen at hmx'; omega
      obtain ⟨b', o', eb, hS', hc', q1', q2'⟩ := hat (z + i) (by have := HM.out.2.1; omega)
      cases eb
      obtain ⟨y, hy⟩ : ∃ y, y = W[z + i]'(by have := HM.out.2.1; omega) := ⟨_, rfl⟩
      rw [← hy] at hc' q1' q2'
      have HY : Hid (∃ hl : i - 1 < ((W.drop (z + 1)).take mn).length, ((W.drop (z + 1)).take mn)[i - 1] = y) := by
        have hl : i - 1 < ((W.drop (z + 1)).take mn).length := by rw [List.length_take, List.length_drop]; have := HM.out.2.1; omega
        refine ⟨hl, ?_⟩
        rw [List.getElem_take, List.getElem_drop, hy]
        congr 1
        omega
      have b0 : wr.cell? ⟨w.heap.size, 0, none⟩ = some (.slice (some ⟨b, o, none⟩) W.length c0) := blk_cell (i := 0) HL.out.sk.box rfl
      have b1 : wr.cell? ⟨w.heap.size, 1, none⟩ = some (.int .i64 half) := blk_cell (i := 1) HL.out.sk.box rfl
      have b2 : wr.cell? ⟨w.heap.size, 2, none⟩ = some (.int .i64 base) := blk_cell (i := 2) HL.out.sk.box rfl
      have b3 : wr.cell? ⟨w.heap.size, 3, none⟩ = some (.int .i64 next) := blk_cell (i := 3) HL.out.sk.box rfl
      have zI2 : (z : Int) + (i : Int) < (W.length : Int) := by have := HM.out.2.1; omega
      have zI3 : (0 : Int) ≤ (z : Int) + (i : Int) := by omega
      have zw : IntKind.i64.wrap ((z : Int) + (i : Int)) = (z : Int) + (i : Int) := by rw [IntKind.wrap_i64]; omega
      have dw : IntKind.i64.wrap (D - 1) = D - 1 := by rw [IntKind.wrap_i64]; omega
      have hcall := fun (W' : World) h1 h2 => HI.out q y k W' hq4 q1' q2' hL h1 h2
      rw [← HM.out.2.2] at hcall
      have hcallD := hcall wr.drew HL.out.sk.work (HE2.out.on fun _ _ => rfl)
      have hcallA := hcall (wr.alloc (.cells #[.int .i64 0, .int .i64 0, .string ⟨#[]⟩, .slice none 0 0] 34)).drew ((Below.heap_alloc _ _ _ (Array.getElem?_eq_some_iff.1 HL.out.sk.work).1).trans HL.out.sk.work) (HE2.out.on fun b hb => Below.heap_alloc _ _ _ (by have := HL.out.sk.klt; have := HL.out.sk.le; omega))
      clear hcall
      have b0n : wr.drew.cell? ⟨w.heap.size, 0, none⟩ = _ := b0
      have b1n : wr.drew.cell? ⟨w.heap.size, 1, none⟩ = _ := b1
      have b2n : wr.drew.cell? ⟨w.heap.size, 2, none⟩ = _ := b2
      have b3n : wr.drew.cell? ⟨w.heap.size, 3, none⟩ = _ := b3
      have hzi : z + i = ((z : Int) + (i : Int)).toNat := by omega
      rw [hzi] at hc'
      have hcn : wr.drew.cell? ⟨b, o + ((z : Int) + (i : Int)).toNat, none⟩ = _ := hc'
      have hbL : b < wr.heap.size ∧ b ≠ k ∧ w.heap.size + 2 ≤ wr.heap.size ∧ k < w.heap.size := by have := HL.out.sk.klt; have := HL.out.sk.le; have : b < L := hS'; omega
      have HBL : Hid _ := hbL
      have hsz1 : w.heap.size + 2 ≤ wr.heap.size := hbL.2.2.1
      have hsz2 : b < wr.heap.size := hbL.1
      clear hy hat hzi hS hS' hbL hcx hmx' hmx9
      rcases hrr : backD (topB ks (W, half, base, next)) d q y with _ | ⟨V, q'⟩
      · have HNO : Hid (backD (topB ks (W, half, base, next)) (d + 1) (n + 1) x = none) := by
          obtain ⟨hl, hy'⟩ := HY.out
          exact back_rowno HT.out (by rw [← HM.out.1]; exact HST.out.fail hl (by rw [hy']; exact hrr))
        go_wp2
        go_region_held3 (fun X => X.cell? ⟨w.heap.size, 0, none⟩ = some (.slice (some ⟨b, o, none⟩) W.length c0) ∧ X.cell? ⟨w.heap.size, 1, none⟩ = some (.int .i64 half) ∧ X.cell? ⟨w.heap.size, 2, none⟩ = some (.int .i64 base) ∧ X.cell? ⟨w.heap.size, 3, none⟩ = some (.int .i64 next) ∧ X.cell? ⟨b, o + ((z : Int) + (i : Int)).toNat, none⟩ = some (.int .i64 y))
          (exact ⟨by first | with_reducible exact b0 | with_reducible exact b0n | with_reducible exact cell_al b0 | with_reducible exact cell_al b0n | (with_reducible refine cell_s4 b0 ?_; omega) | exact cell_al b0, by first | with_reducible exact b1 | with_reducible exact b1n | with_reducible exact cell_al b1 | with_reducible exact cell_al b1n | (with_reducible refine cell_s4 b1 ?_; omega) | exact cell_al b1, by first | with_reducible exact b2 | with_reducible exact b2n | with_reducible exact cell_al b2 | with_reducible exact cell_al b2n | (with_reducible refine cell_s4 b2 ?_; omega) | exact cell_al b2, by first | with_reducible exact b3 | with_reducible exact b3n | with_reducible exact cell_al b3 | with_reducible exact cell_al b3n | (with_reducible refine cell_s4 b3 ?_; omega) | exact cell_al b3, by first | with_reducible exact hc' | with_reducible exact hcn | with_reducible exact cell_al hc' | with_reducible exact cell_al hcn | (with_reducible refine cell_s4 hc' ?_; omega) | exact cell_al hc'⟩)
          (first
            | (go_at_call 47; with_reducible refine hcallD.mono ?_; rintro e w4 ho
               obtain rfl := ho.no hrr
               have HO : Hid (Only (· = k) wr w4) := (Only.refl _ wr).drew.trans ho.only
               replace b0 : w4.cell? ⟨w.heap.size, 0, none⟩ = some (.slice (some ⟨b, o, none⟩) W.length c0) := blk_cell (i := 0) (HL.out.sk.box_on HO.out) rfl
               replace b1 : w4.cell? ⟨w.heap.size, 1, none⟩ = some (.int .i64 half) := blk_cell (i := 1) (HL.out.sk.box_on HO.out) rfl
               replace b2 : w4.cell? ⟨w.heap.size, 2, none⟩ = some (.int .i64 base) := blk_cell (i := 2) (HL.out.sk.box_on HO.out) rfl
               replace b3 : w4.cell? ⟨w.heap.size, 3, none⟩ = some (.int .i64 next) := blk_cell (i := 3) (HL.out.sk.box_on HO.out) rfl
               replace hc' := (World.cell?_of_block (w := wr) (a := ⟨b, o + ((z : Int) + (i : Int)).toNat, none⟩) (HO.out.block b HBL.out.1 HBL.out.2.1)).trans hc'
               have KO : Hid (Only (· = k) wr (w4.alloc (.cells #[.int .i64 0, .int .i64 0, .string ⟨#[]⟩, .slice none 0 0] 34))) := HO.out.alloc _
               clear ho)
            | (go_at_call 47; with_reducible refine hcallA.mono ?_; rintro e w4 ho
               obtain rfl := ho.no hrr
               have HO : Hid (Only (· = k) wr w4) := (((Only.refl _ wr).alloc _).drew).trans ho.only
               replace b0 : w4.cell? ⟨w.heap.size, 0, none⟩ = some (.slice (some ⟨b, o, none⟩) W.length c0) := blk_cell (i := 0) (HL.out.sk.box_on HO.out) rfl
               replace b1 : w4.cell? ⟨w.heap.size, 1, none⟩ = some (.int .i64 half) := blk_cell (i := 1) (HL.out.sk.box_on HO.out) rfl
               replace b2 : w4.cell? ⟨w.heap.size, 2, none⟩ = some (.int .i64 base) := blk_cell (i := 2) (HL.out.sk.box_on HO.out) rfl
               replace b3 : w4.cell? ⟨w.heap.size, 3, none⟩ = some (.int .i64 next) := blk_cell (i := 3) (HL.out.sk.box_on HO.out) rfl
               replace hc' := (World.cell?_of_block (w := wr) (a := ⟨b, o + ((z : Int) + (i : Int)).toNat, none⟩) (HO.out.block b HBL.out.1 HBL.out.2.1)).trans hc'
               have yb : w4.heap[wr.heap.size]? = some (.cells #[.int .i64 0, .int .i64 0, .string ⟨#[]⟩, .slice none 0 0] 34) := (ho.only.block _ (by show wr.heap.size < (wr.alloc _).heap.size; simp) (by have := HBL.out.2.2; omega)).trans (alloc_top _ _)
               have yb0 : w4.cell? ⟨wr.heap.size, 0, none⟩ = some (.int .i64 0) := blk_cell (i := 0) yb rfl
               have yb1 : w4.cell? ⟨wr.heap.size, 1, none⟩ = some (.int .i64 0) := blk_cell (i := 1) yb rfl
               have yb2 : w4.cell? ⟨wr.heap.size, 2, none⟩ = some (.string ⟨#[]⟩) := blk_cell (i := 2) yb rfl
               have yb3 : w4.cell? ⟨wr.heap.size, 3, none⟩ = some (.slice none 0 0) := blk_cell (i := 3) yb rfl
               have ybf : ∀ o, w4.frozen? ⟨wr.heap.size, o, none⟩ = false := fun o => blk_free yb
               clear yb
               have KO : Hid (Only (· = k) wr ((((w4.setCell ⟨wr.heap.size, 0, none⟩ (.int .i64 0)).setCell ⟨wr.heap.size, 1, none⟩ (.int .i64 0)).setCell ⟨wr.heap.size, 2, none⟩ (.string ⟨#[]⟩)).setCell ⟨wr.heap.size, 3, none⟩ (.slice none 0 0))) := only4 HO.out _ _ _ _ _ (fun hl => by omega)
               clear ho))
        all_goals
          have r0 : World.cell? _ ⟨w.heap.size + 1, 0, none⟩ = some (.int .i64 0) := blk_cell (HL.out.sk.res_on KO.out) rfl
          have r1 : World.cell? _ ⟨w.heap.size + 1, 1, none⟩ = some (.int .i64 0) := blk_cell (HL.out.sk.res_on KO.out) rfl
          have r2 : World.cell? _ ⟨w.heap.size + 1, 2, none⟩ = some (.string ⟨#[]⟩) := blk_cell (HL.out.sk.res_on KO.out) rfl
          have r3 : World.cell? _ ⟨w.heap.size + 1, 3, none⟩ = some (.slice none 0 0) := blk_cell (HL.out.sk.res_on KO.out) rfl
          have fr : ∀ o, World.frozen? _ ⟨w.heap.size + 1, o, none⟩ = false := fun o => blk_free (HL.out.sk.res_on KO.out)
          clear b0 b1 b2 b3 hc' b0n b1n b2n b3n hcn
          go_wp2
          refine bodyPost_ret (v := .tuple #[.agg #[.int .i64 0, .int .i64 0, .string ⟨#[]⟩, .slice none 0 0], .bool false]) (by simp [results, Tryz.f47, go_sem, r0, r1, r2, r3]) rfl ?_
          exact no_end (HL.out.sk.only.trans KO.out) HNO.out rfl _ _ _ _
      · go_wp2
        go_region_held3 (fun X => X.cell? ⟨w.heap.size, 0, none⟩ = some (.slice (some ⟨b, o, none⟩) W.length c0) ∧ X.cell? ⟨w.heap.size, 1, none⟩ = some (.int .i64 half) ∧ X.cell? ⟨w.heap.size, 2, none⟩ = some (.int .i64 base) ∧ X.cell? ⟨w.heap.size, 3, none⟩ = some (.int .i64 next) ∧ X.cell? ⟨b, o + ((z : Int) + (i : Int)).toNat, none⟩ = some (.int .i64 y))
          (exact ⟨by first | with_reducible exact b0 | with_reducible exact b0n | with_reducible exact cell_al b0 | with_reducible exact cell_al b0n | (with_reducible refine cell_s4 b0 ?_; omega) | exact cell_al b0, by first | with_reducible exact b1 | with_reducible exact b1n | with_reducible exact cell_al b1 | with_reducible exact cell_al b1n | (with_reducible refine cell_s4 b1 ?_; omega) | exact cell_al b1, by first | with_reducible exact b2 | with_reducible exact b2n | with_reducible exact cell_al b2 | with_reducible exact cell_al b2n | (with_reducible refine cell_s4 b2 ?_; omega) | exact cell_al b2, by first | with_reducible exact b3 | with_reducible exact b3n | with_reducible exact cell_al b3 | with_reducible exact cell_al b3n | (with_reducible refine cell_s4 b3 ?_; omega) | exact cell_al b3, by first | with_reducible exact hc' | with_reducible exact hcn | with_reducible exact cell_al hc' | with_reducible exact cell_al hcn | (with_reducible refine cell_s4 hc' ?_; omega) | exact cell_al hc'⟩)
          (first
            | (go_at_call 47; with_reducible refine hcallD.mono ?_; rintro e w4 ho
               obtain ⟨⟨cs', rfl, hrep⟩, hwk⟩ := ho.yes V q' hrr
               obtain ⟨n0, n1, n2, n3, rfl⟩ := value.value_list (value.valuep_rep hrep)
               have ON : Hid (∀ u ∈ [n0, n1, n2, n3], u.oneCell' = true) := value.valueSp.one hrep
               have on0 := ON.out n0 (by simp)
               have on1 := ON.out n1 (by simp)
               have on2 := ON.out n2 (by simp)
               have on3 := ON.out n3 (by simp)
               have so0 := fun (a : Addr) (m : Mode) (w : World) => run_store Tryz.prog w a n0 m on0
               have so1 := fun (a : Addr) (m : Mode) (w : World) => run_store Tryz.prog w a n1 m on1
               have so2 := fun (a : Addr) (m : Mode) (w : World) => run_store Tryz.prog w a n2 m on2
               have so3 := fun (a : Addr) (m : Mode) (w : World) => run_store Tryz.prog w a n3 m on3
               have HO : Hid (Only (· = k) wr w4) := (Only.refl _ wr).drew.trans ho.only
               replace b0 : w4.cell? ⟨w.heap.size, 0, none⟩ = some (.slice (some ⟨b, o, none⟩) W.length c0) := blk_cell (i := 0) (HL.out.sk.box_on HO.out) rfl
               replace b1 : w4.cell? ⟨w.heap.size, 1, none⟩ = some (.int .i64 half) := blk_cell (i := 1) (HL.out.sk.box_on HO.out) rfl
               replace b2 : w4.cell? ⟨w.heap.size, 2, none⟩ = some (.int .i64 base) := blk_cell (i := 2) (HL.out.sk.box_on HO.out) rfl
               replace b3 : w4.cell? ⟨w.heap.size, 3, none⟩ = some (.int .i64 next) := blk_cell (i := 3) (HL.out.sk.box_on HO.out) rfl
               replace hc' := (World.cell?_of_block (w := wr) (a := ⟨b, o + ((z : Int) + (i : Int)).toNat, none⟩) (HO.out.block b HBL.out.1 HBL.out.2.1)).trans hc'
               have KD : Hid (Kid wr (w4.alloc (.cells #[n0, n1, n2, n3] 34)) k w4.heap.size q' V n0 n1 n2 n3) := kid_a ho.only hwk hrep
               clear ho hrep hwk)
            | (go_at_call 47; with_reducible refine hcallA.mono ?_; rintro e w4 ho
               obtain ⟨⟨cs', rfl, hrep⟩, hwk⟩ := ho.yes V q' hrr
               obtain ⟨n0, n1, n2, n3, rfl⟩ := value.value_list (value.valuep_rep hrep)
               have ON : Hid (∀ u ∈ [n0, n1, n2, n3], u.oneCell' = true) := value.valueSp.one hrep
               have on0 := ON.out n0 (by simp)
               have on1 := ON.out n1 (by simp)
               have on2 := ON.out n2 (by simp)
               have on3 := ON.out n3 (by simp)
               have so0 := fun (a : Addr) (m : Mode) (w : World) => run_store Tryz.prog w a n0 m on0
               have so1 := fun (a : Addr) (m : Mode) (w : World) => run_store Tryz.prog w a n1 m on1
               have so2 := fun (a : Addr) (m : Mode) (w : World) => run_store Tryz.prog w a n2 m on2
               have so3 := fun (a : Addr) (m : Mode) (w : World) => run_store Tryz.prog w a n3 m on3
               have HO : Hid (Only (· = k) wr w4) := (((Only.refl _ wr).alloc _).drew).trans ho.only
               replace b0 : w4.cell? ⟨w.heap.size, 0, none⟩ = some (.slice (some ⟨b, o, none⟩) W.length c0) := blk_cell (i := 0) (HL.out.sk.box_on HO.out) rfl
               replace b1 : w4.cell? ⟨w.heap.size, 1, none⟩ = some (.int .i64 half) := blk_cell (i := 1) (HL.out.sk.box_on HO.out) rfl
               replace b2 : w4.cell? ⟨w.heap.size, 2, none⟩ = some (.int .i64 base) := blk_cell (i := 2) (HL.out.sk.box_on HO.out) rfl
               replace b3 : w4.cell? ⟨w.heap.size, 3, none⟩ = some (.int .i64 next) := blk_cell (i := 3) (HL.out.sk.box_on HO.out) rfl
               replace hc' := (World.cell?_of_block (w := wr) (a := ⟨b, o + ((z : Int) + (i : Int)).toNat, none⟩) (HO.out.block b HBL.out.1 HBL.out.2.1)).trans hc'
               have yb : w4.heap[wr.heap.size]? = some (.cells #[.int .i64 0, .int .i64 0, .string ⟨#[]⟩, .slice none 0 0] 34) := (ho.only.block _ (by show wr.heap.size < (wr.alloc _).heap.size; simp) (by have := HBL.out.2.2; omega)).trans (alloc_top _ _)
               have yb0 : w4.cell? ⟨wr.heap.size, 0, none⟩ = some (.int .i64 0) := blk_cell (i := 0) yb rfl
               have yb1 : w4.cell? ⟨wr.heap.size, 1, none⟩ = some (.int .i64 0) := blk_cell (i := 1) yb rfl
               have yb2 : w4.cell? ⟨wr.heap.size, 2, none⟩ = some (.string ⟨#[]⟩) := blk_cell (i := 2) yb rfl
               have yb3 : w4.cell? ⟨wr.heap.size, 3, none⟩ = some (.slice none 0 0) := blk_cell (i := 3) yb rfl
               have ybf : ∀ o, w4.frozen? ⟨wr.heap.size, o, none⟩ = false := fun o => blk_free yb
               clear yb
               have KD : Hid (Kid wr ((((w4.setCell ⟨wr.heap.size, 0, none⟩ (n0)).setCell ⟨wr.heap.size, 1, none⟩ (n1)).setCell ⟨wr.heap.size, 2, none⟩ (n2)).setCell ⟨wr.heap.size, 3, none⟩ (n3)) k wr.heap.size q' V n0 n1 n2 n3) := kid_b (by have := HBL.out.2.2; omega) ho.only hwk hrep
               clear ho hrep hwk))
        all_goals
          first
            | (revert KD; generalize (w4.alloc (.cells #[n0, n1, n2, n3] 34)) = w5; generalize w4.heap.size = g5; intro KD; have chk : Kid wr w5 k g5 q' V n0 n1 n2 n3 := KD.out; clear chk)
            | (revert KD; generalize ((((w4.setCell ⟨wr.heap.size, 0, none⟩ n0).setCell ⟨wr.heap.size, 1, none⟩ n1).setCell ⟨wr.heap.size, 2, none⟩ n2).setCell ⟨wr.heap.size, 3, none⟩ n3) = w5; generalize wr.heap.size = g5; intro KD; have chk : Kid wr w5 k g5 q' V n0 n1 n2 n3 := KD.out; clear chk)
          clear b0 b1 b2 b3 hc' b0n b1n b2n b3n hcn HO hcallD hcallA
          obtain ⟨cssG, FG, grow, grep, gin, gap⟩ := HL.out.grown
          have GP : Hid ((∀ j (h : j < vs.length), value.valueSp.rep wr (FG j) (cssG j) vs[j]) ∧ (∀ j, j < vs.length → ∀ b, FG j b → w2.heap.size + 1 ≤ b ∧ b < wr.heap.size ∧ v.ownBlock ≠ some b) ∧ ∀ j l, j < vs.length → l < vs.length → j ≠ l → ∀ b, FG j b → ¬ FG l b) := ⟨grep, gin, gap⟩
          have hkl := HL.out.sk.klt
          have hz5 := KD.out.only.size
          have hO5 : w5.heap[w2.heap.size]? = some (.cells #[.int .i64 2, .int .i64 0, .string u0, v] 34) := (KD.out.only.block _ hgl (by omega)).trans HL.out.out
          have x3 : w5.cell? ⟨w2.heap.size, 3, none⟩ = some v := blk_cell (i := 3) hO5 rfl
          have y0 : w5.cell? ⟨g5, 0, none⟩ = some n0 := blk_cell (i := 0) KD.out.at_ rfl
          have y1 : w5.cell? ⟨g5, 1, none⟩ = some n1 := blk_cell (i := 1) KD.out.at_ rfl
          have y2 : w5.cell? ⟨g5, 2, none⟩ = some n2 := blk_cell (i := 2) KD.out.at_ rfl
          have y3 : w5.cell? ⟨g5, 3, none⟩ = some n3 := blk_cell (i := 3) KD.out.at_ rfl
          have HVO : Hid (∀ q, v.ownBlock = some q → w2.heap.size + 1 ≤ q ∧ q < wr.heap.size) := fun q hq => HL.out.grown.own hq
          have RA : Hid ((w5.alloc (.cells #[n0, n1, n2, n3] 34)).ownsRow (w2.heap.size + 1) 34 4 v vs.length (flat cssG vs.length)) := by
            obtain ⟨hl, hv⟩ := grow
            refine ⟨hl, ?_⟩
            rcases hv with h0 | ⟨g, cap, cur, h1, h2, h3, h4⟩
            · exact Or.inl h0
            · have hg := (Array.getElem?_eq_some_iff.1 h3).1
              exact Or.inr ⟨g, cap, cur, h1, h2, by rw [Below.heap_alloc _ _ _ (by omega), KD.out.only.block g hg (by omega)]; exact h3, h4⟩
          have hvl : vs.length ≤ 63 := by have := HST.out.1; omega
          have HST2 : Hid (Stand (backD (topB ks (W, half, base, next)) d) n ((W.drop (z + 1)).take mn) (i + 1 - 1) (vs ++ [V]) q') := by
            obtain ⟨hl, hy'⟩ := HY.out
            have := HST.out.step hl (by rw [hy']; exact hrr)
            rwa [show i - 1 + 1 = i + 1 - 1 by omega] at this
          have hq5 : q' ≤ 4000 := by have := back_left hrr; omega
          have HO5 : Hid _ := hO5
          clear grow grep gin gap hrr hO5
          go_wp2_with (at_builtin; refine wpList_append_own_at _ rfl (.tmp 125) (.tmp 127) 32 rfl (w2.heap.size + 1) 34 ti _ 4 56 Tryz.underlying32 TI.out.1 TI.out.2.1 TI.out.2.2.1 TI.out.2.2.2 rfl (by decide) v vs.length _ rfl RA.out ⟨w5.heap.size, 0, none⟩ 1 1 [n0, n1, n2, n3] rfl rfl (cells_new _ _ _ _ rfl) ON.out (by unfold maxLen; omega) (by omega) (by simp; omega) ?_; intro v6 w6 o6 g6 n6 e6
                       obtain ⟨a6, c6, rfl⟩ := own_form o6
                       have hO6 : w6.heap[w2.heap.size]? = some (.cells #[.int .i64 2, .int .i64 0, .string u0, v] 34) := (g6.block w2.heap.size (by simp; omega) (fun e => by have := HVO.out _ e.symm; omega)).trans ((Below.heap_alloc _ _ _ (by omega)).trans HO5.out)
                       have x6 : w6.cell? ⟨w2.heap.size, 3, none⟩ = some v := blk_cell (i := 3) hO6 rfl
                       have xf6 : w6.frozen? ⟨w2.heap.size, 3, none⟩ = false := blk_free hO6)
          have NX : Hid (SL w (w6.setCell ⟨w2.heap.size, 3, none⟩ (.slice a6 (vs.length + 1) c6)) [.slice (some ⟨b, o, none⟩) W.length c0, .int .i64 half, .int .i64 base, .int .i64 next] k w2.heap.size (q' : Int) u0 (.slice a6 (vs.length + 1) c6) (vs ++ [V])) := HL.out.kid GP.out.1 GP.out.2.1 GP.out.2.2 KD.out o6 g6 e6
          clear o6 g6 n6 e6 x3 y0 y1 y2 y3 RA
          go_wp2
          go_round
          case rel => exact ⟨i + 1, q', _, _, by omega, by omega, by go_num, hq5, NX, HST2⟩
          case measure => simp [intOf]; omega
    · obtain rfl : i = mn + 1 := by omega
      have HV : Hid (backD (topB ks (W, half, base, next)) (d + 1) (n + 1) x = some (.mk (2, 0, u0) vs, q)) := by
        have hst := HST.out
        have hlen : ((W.drop (z + 1)).take mn).length = mn := by rw [List.length_take, List.length_drop]; have := HM.out.2.1; omega
        rw [Nat.add_sub_cancel] at hst
        have hst2 : Stand (backD (topB ks (W, half, base, next)) d) n ((W.drop (z + 1)).take mn) ((W.drop (z + 1)).take mn).length vs q := by rw [hlen]; exact hst
        have := back_row HT.out (by rw [← HM.out.1]; exact hst2.done)
        rw [HSC.out] at this
        exact this
      obtain ⟨av, cv, rfl⟩ := HL.out.grown.slice
      have g0 := blk_cell (i := 0) HL.out.out rfl
      have g1 := blk_cell (i := 1) HL.out.out rfl
      have g2 := blk_cell (i := 2) HL.out.out rfl
      have g3 := blk_cell (i := 3) HL.out.out rfl
      have fr := HL.out.sk.rfree
      have r0 := HL.out.sk.r0
      have r1 := HL.out.sk.r1
      have r2 := HL.out.sk.r2
      have r3 := HL.out.sk.r3
      go_wp2
      refine bodyPost_ret (v := .tuple #[.agg #[.int .i64 2, .int .i64 0, .string u0, .slice av vs.length cv], .bool true]) (by simp [results, Tryz.f47, go_sem, r0, r1, r2, r3]) rfl ?_
      exact sl_end HL.out HU.out HV.out rfl _ _ _ _

end Go.Proofs.YtjofmoebijdccaaGreat.back
