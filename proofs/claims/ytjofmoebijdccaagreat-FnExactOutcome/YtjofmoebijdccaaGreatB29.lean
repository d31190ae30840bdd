/-
  The program's consByTag, at every list of datas: a new row in which the con with tag i stands at place i; nothing that was there is turned.
  The contract of internal/stringslite.Clone (what strings.Clone calls) at this program (the shelf's, proved once over any program, applied here); no condition of our own.
  The program's isBelow; nothing is turned.
-/
import Derived.Maps.OwnIn
import Derived.Shelf.LaysM
import Derived.Shelf.Strconv.Clone
import Derived.Test.YtjofmoebijdccaaGreatChecked
import Derived.WalkKit
import Derived.WalkLawsBesides
import Derived.Test.YtjofmoebijdccaaGreatB1
import Derived.Test.YtjofmoebijdccaaGreatB2
import Derived.Test.YtjofmoebijdccaaGreatB3
import Derived.Test.YtjofmoebijdccaaGreatB4
import Derived.Test.YtjofmoebijdccaaGreatB5
import Derived.Test.YtjofmoebijdccaaGreatB6
import Derived.Test.YtjofmoebijdccaaGreatB7
import Derived.Test.YtjofmoebijdccaaGreatB8
import Derived.Test.YtjofmoebijdccaaGreatB9
import Derived.Test.YtjofmoebijdccaaGreatB10
import Derived.Test.YtjofmoebijdccaaGreatB11
import Derived.Test.YtjofmoebijdccaaGreatB12
import Derived.Test.YtjofmoebijdccaaGreatB13
import Derived.Test.YtjofmoebijdccaaGreatB14
import Derived.Test.YtjofmoebijdccaaGreatB15
import Derived.Test.YtjofmoebijdccaaGreatB16
import Derived.Test.YtjofmoebijdccaaGreatB17
import Derived.Test.YtjofmoebijdccaaGreatB18
import Derived.Test.YtjofmoebijdccaaGreatB19
import Derived.Test.YtjofmoebijdccaaGreatB20
import Derived.Test.YtjofmoebijdccaaGreatB21
import Derived.Test.YtjofmoebijdccaaGreatB22
import Derived.Test.YtjofmoebijdccaaGreatB23
import Derived.Test.YtjofmoebijdccaaGreatB24
import Derived.Test.YtjofmoebijdccaaGreatB25
import Derived.Test.YtjofmoebijdccaaGreatB26
import Derived.Test.YtjofmoebijdccaaGreatB27
import Derived.Test.YtjofmoebijdccaaGreatB28
namespace Go.Proofs.YtjofmoebijdccaaGreat.data
open Go.RowKit Go.Shelf Go.Proofs.YtjofmoebijdccaaGreat.rose Go.Proofs.YtjofmoebijdccaaGreat.rangeb Go.Proofs.YtjofmoebijdccaaGreat
set_option linter.unusedVariables false
set_option linter.unusedSimpArgs false
attribute [local go_sem] Oper.semAt_some

/-- The row's cells of a con. -/
def two2 {w : World} {S : Nat → Prop} (x : CPartA w S) : List Value := [.string x.s.c.1, .slice x.a x.s.c.2.length x.c]
theorem two2_get {w : World} {S : Nat → Prop} (l : List (CPartA w S)) (i j : Nat) (hi : i < l.length) (hj : j < 2) : (l.flatMap two2)[i * 2 + j]? = (two2 l[i])[j]? := by
  induction l generalizing i with
  | nil => simp at hi
  | cons x l ih =>
    rw [List.flatMap_cons]
    cases i with
    | zero =>
      rw [List.getElem?_append_left (by simp [two2]; omega)]
      simp
    | succ i =>
      rw [List.getElem?_append_right (by simp [two2]; omega)]
      have e : (i + 1) * 2 + j - (two2 x).length = i * 2 + j := by simp [two2]; omega
      rw [e, ih i (by simpa using hi)]
      simp
theorem two2_len {w : World} {S : Nat → Prop} (l : List (CPartA w S)) : (l.flatMap two2).length = l.length * 2 := by
  induction l with
  | nil => rfl
  | cons x l ih => rw [List.flatMap_cons, List.length_append, ih]; simp [two2]; omega

theorem twoA (w : World) (A B : Obj) (WL : World) (h : WL = (w.alloc A).alloc B) : WL.heap.size = w.heap.size + 2 ∧ Below w.heap.size w WL ∧ WL.heap[w.heap.size]? = some A ∧ WL.heap[w.heap.size + 1]? = some B := by
  subst h
  refine ⟨by simp, ((Below.refl _ w).alloc (Nat.le_refl _) _).alloc (by simp) _, ?_, ?_⟩
  · exact (Below.heap_alloc _ _ _ (by simp)).trans (alloc_top _ _)
  · have := alloc_top (w.alloc A) B
    rwa [World.size_alloc] at this

/-- A row of cons, by their tags: their names, and how many types each has. -/
structure CRow (w : World) (lo : Nat) (v : Value) (l : List Spot) : Prop where
  form : ∃ a cap, v = .slice a l.length cap ∧ ∀ j (h : j < l.length), ∃ g, a = some ⟨g, 0, none⟩ ∧ lo ≤ g ∧ g < w.heap.size ∧ w.cell? ⟨g, j * 2, none⟩ = some (.string l[j].c.1) ∧ ∃ a' c', w.cell? ⟨g, j * 2 + 1, none⟩ = some (.slice a' l[j].c.2.length c')
  names : ∀ j (h : j < l.length), l[j].c.1.size ≤ maxLen
  own : ∀ g, v.ownBlock = some g → lo ≤ g ∧ g < w.heap.size
theorem CRow.on {w w' : World} {lo : Nat} {v : Value} {l : List Spot} (h : CRow w lo v l) (hs : w.heap.size ≤ w'.heap.size) (hb : ∀ b, lo ≤ b → b < w.heap.size → v.ownBlock = some b → w'.heap[b]? = w.heap[b]?) : CRow w' lo v l := by
  obtain ⟨⟨a, cap, rfl, hc⟩, hn, hw⟩ := h
  refine ⟨⟨a, cap, rfl, fun j hj => ?_⟩, hn, fun g hg => ⟨(hw g hg).1, Nat.lt_of_lt_of_le (hw g hg).2 hs⟩⟩
  obtain ⟨g, rfl, h1, h2, h3, a', c', h4⟩ := hc j hj
  have e := hb g h1 h2 rfl
  exact ⟨g, rfl, h1, Nat.lt_of_lt_of_le h2 hs, (World.cell?_of_block (w := w) (a := ⟨g, j * 2, none⟩) e).trans h3, a', c', (World.cell?_of_block (w := w) (a := ⟨g, j * 2 + 1, none⟩) e).trans h4⟩

theorem info_con : (Tryz.prog.info? 117).map (fun i => (i.zero, i.size, i.bytes)) = some (some (.agg #[.string ⟨#[]⟩, .slice none 0 0]), 2, 40) := by kernel_rfl

set_option maxRecDepth 100000 in
set_option maxHeartbeats 4000000 in
theorem consByTag_any (ks : List DataD) (v : Value) (w : World) (S : Nat → Prop) (hS : ∀ b, S b → b < w.heap.size) (hw : ks.length + wts ks ≤ 1048576) (h : dataSh.slice.rep w S [v] ks) :
    Calls Tryz.prog 53 #[v] w fun e w' => (∃ u, e = .returned u ∧ CRow w' w.heap.size u (spots 0 0 ks)) ∧ Below w.heap.size w w' := by
  refine (callsIn_wide (n := 6)).1 ?_
  have htl := total_le ks
  obtain ⟨ti, hti, hzz⟩ := Option.map_eq_some_iff.1 info_con
  simp only [Prod.mk.injEq] at hzz
  obtain ⟨hz0, hz1, hz2⟩ := hzz
  have TI : Hid (Tryz.prog.info? 117 = some ti ∧ ti.zero = some (.agg #[.string ⟨#[]⟩, .slice none 0 0]) ∧ ti.size = 2 ∧ ti.bytes = 40) := ⟨hti, hz0, hz1, hz2⟩
  clear hti hz0 hz1 hz2
  have o0 := dataSh.slice.one h v (by simp)
  have HREP : Hid (dataSh.slice.rep w S [v] ks) := h
  clear h
  refine callsIn_of_wp_marks Tryz.func53 rfl trivial ?_ rfl
  simp only [Tryz.ntmps53, List.size_toArray, List.length_cons, List.length_nil, Nat.reduceAdd, Nat.reduceSub, Array.replicate_succ, Array.replicate_zero, List.push_toArray, List.append_toArray, List.nil_append, List.cons_append]
  gi_wp2_with (refine ⟨trivial, ?_⟩; gi_at_call 76; refine (consOf_in Fence.wide _ trivial rfl v _ o0).mono ?_; rintro e w' ⟨rfl, rfl⟩)
  obtain ⟨WL, hWL⟩ : ∃ WL, WL = (w.alloc (.cells #[.slice none 0 0] 61)).alloc (.cells #[v] 37) := ⟨_, rfl⟩
  obtain ⟨zL, bL, k0, k1⟩ := twoA w _ _ WL hWL
  rw [← hWL]
  clear hWL
  refine wpIn_rangeFunc_Ax (n₀ := w.heap.size) (N := total ks) rfl (by omega) (gf := 97) (lb := #[.pointer (some ⟨w.heap.size + 1, 0, none⟩)]) rfl trivial (enters_of Tryz.func97 (by kernel_rfl) rfl) (by omega)
    (consOf_stopsA Fence.wide _ trivial rfl (by omega) (w.heap.size + 1) w.heap.size S hS ks v WL (by omega) (by omega) (blk_cell k1 rfl) (dataSh.slice.on HREP.out fun b hb => bL.block b (hS b hb)) hw) (fun _ => rfl)
    (fun (pre : List (CPartA WL S)) W' => (∃ u, W'.heap[w.heap.size]? = some (.cells #[u] 61) ∧ W'.ownsRow (w.heap.size + 4) 117 2 u pre.length (pre.flatMap two2)) ∧ Below w.heap.size w W' ∧ w.heap.size + 2 ≤ W'.heap.size)
    (fun c pre W' => False)
    (fun s A B hs hb => by
      obtain ⟨⟨u, h1, h2⟩, h3, h5⟩ := hs
      exact ⟨⟨u, (hb.other _ (by omega) (by omega)).trans h1, row_on h2 fun g hg hlt => hb.other g hlt (by omega)⟩, h3.trans (hb.below _ (by omega) (by omega)), Nat.le_trans h5 hb.size⟩)
    (fun c s A B hs hb => hs)
    ⟨⟨_, k0, World.ownsRow_nil _ _ _ _⟩, bL, by omega⟩
    (fun x a' W' => ∃ (By : Nat) (y0 y1 y2 y4 y6 y7 y8 y9 y10 y11 y12 y13 y14 : Value), w.heap.size + 4 ≤ By ∧ W'.heap[By]? = some (.cells #[.string x.s.c.1, .slice x.a x.s.c.2.length x.c] 117) ∧ a' = { tmps := #[y0, y1, y2, .pointer (some ⟨w.heap.size, 0, none⟩), y4, .pointer (some ⟨By, 0, none⟩), y6, y7, y8, y9, y10, y11, y12, y13, y14], defers := [] })
    (fun x a' A B hA hb => by
      obtain ⟨By, y0, y1, y2, y4, y6, y7, y8, y9, y10, y11, y12, y13, y14, h2, h4, h5⟩ := hA
      exact ⟨By, _, _, _, _, _, _, _, _, _, _, _, _, _, h2, (hb By (by omega)).trans h4, h5⟩) ?assign ?body ?done ?stop
  case assign =>
    intro l pre x W' K hi hz hK
    simp only [encsA, encPA, encCA]
    gi_wp2
    obtain ⟨⟨u, h1, h2⟩, h3, h5⟩ := hi
    have hb : Below W'.heap.size W' (W'.alloc (.cells #[.string x.s.c.1, .slice x.a x.s.c.2.length x.c] 117)) := (Below.refl _ _).alloc (Nat.le_refl _) _
    exact hK _ _ ⟨hb.size, fun k hk => hb.block k (by omega), hb.block _ (by omega), hb.block _ (by omega)⟩ ⟨⟨u, (hb.block _ (by omega)).trans h1, row_on h2 fun g hg hlt => hb.block g hlt⟩, h3.trans (hb.mono (by omega)), Nat.le_trans h5 hb.size⟩ ⟨W'.heap.size, _, _, _, _, _, _, _, _, _, _, _, _, _, by omega, alloc_top _ _, rfl⟩
  case body =>
    rintro l pre x a' W' ⟨⟨u, h1, h2⟩, h3, h5⟩ hlen hz ⟨By, y0, y1, y2, y4, y6, y7, y8, y9, y10, y11, y12, y13, y14, hBy, ey, rfl⟩
    have g0 := blk_cell ey (i := 0) rfl
    have g1 := blk_cell ey (i := 1) rfl
    have m0 := blk_cell h1 (i := 0) rfl
    have p0 := blk_free (i := 0) h1
    have H1 : Hid _ := h1
    have H3 : Hid (Below w.heap.size w W') := h3
    have H2 : Hid (W'.ownsRow (w.heap.size + 4) 117 2 u pre.length (pre.flatMap two2)) := h2
    have HOB : Hid (∀ g, u.ownBlock = some g → w.heap.size + 4 ≤ g) := fun g hg => by
      rcases h2.2 with ⟨rfl, _⟩ | ⟨g', cap, cur, rfl, h, _⟩
      · cases hg
      · simp only [Value.ownBlock, Option.some.injEq] at hg; omega
    have h2a : (W'.alloc (.cells #[.string x.s.c.1, .slice x.a x.s.c.2.length x.c] 117)).ownsRow (w.heap.size + 4) 117 2 u pre.length (pre.flatMap two2) := row_on h2 fun g hg hlt => Below.heap_alloc _ _ _ hlt
    have H2A : Hid _ := h2a
    clear h1 h2 h3 ey h2a
    gi_wp2_with (gi_at_builtin; refine wpListIn_append_own_at _ rfl _ _ 61 rfl (w.heap.size + 4) 117 ti _ 2 40 Tryz.underlying61 TI.out.1 TI.out.2.1 TI.out.2.2.1 TI.out.2.2.2 rfl (by decide) u pre.length _ rfl H2A.out ⟨W'.heap.size, 0, none⟩ 1 1 [.string x.s.c.1, .slice x.a x.s.c.2.length x.c] rfl rfl (cells_new _ _ _ _ rfl) (by simp [Value.oneCell']) (by unfold maxLen; omega) (by omega) (by simp; omega) ?_; intro u6 w1 hown1 hgrow1 hn1 hat1
                 obtain ⟨ua, ul, uc, rfl⟩ : ∃ ua ul uc, u6 = .slice ua ul uc := by
                   rcases hown1.2 with ⟨rfl, _⟩ | ⟨_, _, _, rfl, _⟩
                   · exact ⟨_, _, _, rfl⟩
                   · exact ⟨_, _, _, rfl⟩
                 have hZ : w1.heap[w.heap.size]? = some (.cells #[u] 61) := (hgrow1.block w.heap.size (by simp; omega) (fun e => by have := HOB.out _ e.symm; omega)).trans ((Below.heap_alloc _ _ _ (by omega)).trans H1.out)
                 have y0 := blk_cell (i := 0) hZ rfl
                 have y1 := blk_free (i := 0) hZ)
    have ha : Below W'.heap.size W' (W'.alloc (.cells #[.string x.s.c.1, .slice x.a x.s.c.2.length x.c] 117)) := (Below.refl _ _).alloc (Nat.le_refl _) _
    have hblk : ∀ g, g < W'.heap.size → g < w.heap.size + 4 → w1.heap[g]? = W'.heap[g]? := fun g h1 h2 => (hgrow1.block g (by simp; omega) (fun e => by have := HOB.out _ e.symm; omega)).trans (ha.block g h1)
    have hb1 : Below w.heap.size W' w1 := (ha.mono (by omega)).grown hgrow1 (by simp; omega) (fun g hg => by have := HOB.out _ hg; omega)
    have hz1 : W'.heap.size ≤ w1.heap.size := Nat.le_trans (by simp) hgrow1.size
    refine ⟨⟨by rw [World.size_setCell]; exact hz1, fun k hk => ?_, ?_, ?_⟩, ⟨.slice ua ul uc, ?_, ?_⟩, ?_, by rw [World.size_setCell]; omega⟩
    · rw [Below.heap_setCell _ _ _ _ (by simp; omega)]; exact hblk k (by omega) (by omega)
    · rw [Below.heap_setCell _ _ _ _ (by simp; omega)]; exact hblk _ (by omega) (by omega)
    · rw [Below.heap_setCell _ _ _ _ (by simp; omega)]; exact hblk _ (by omega) (by omega)
    · simp [World.setCell, Array.getElem?_modify, hZ]
    · rw [List.length_append, List.flatMap_append]
      exact row_on (by simpa [two2] using hown1) fun g hg hlt => Below.heap_setCell _ _ _ _ (by simp; omega)
    · exact H3.out.trans (hb1.setCell (p := ⟨w.heap.size, 0, none⟩) (by simp) _)
  case done =>
    rintro D ys W' hD hY ⟨⟨u, h1, h2⟩, h3, h5⟩ hK
    have hDW : D < W'.heap.size := (Array.getElem?_eq_some_iff.1 hK).1
    obtain ⟨ua, ul, uc, rfl⟩ : ∃ ua ul uc, u = .slice ua ul uc := by
      rcases h2.2 with ⟨rfl, _⟩ | ⟨_, _, _, rfl, _⟩
      · exact ⟨_, _, _, rfl⟩
      · exact ⟨_, _, _, rfl⟩
    have m0 : W'.cell? ⟨w.heap.size, 0, none⟩ = some (.slice ua ul uc) := blk_cell h1 (i := 0) rfl
    have GV : Hid (CRow (W'.putObj D (.deferred none)) w.heap.size (.slice ua ul uc) (spots 0 0 ks) ∧ Below w.heap.size w (W'.putObj D (.deferred none))) := by
      refine ⟨?_, h3.trans (put_below _ _ hK (by omega))⟩
      rw [← hY]
      refine ⟨?_, fun j hj => ?_, fun g hg => ?_⟩
      · rcases h2.2 with ⟨h0, hl⟩ | ⟨g, cap, cur, q1, q2, q3, q4, q5, q6, q7⟩
        · simp only [Value.slice.injEq] at h0
          obtain ⟨rfl, rfl, rfl⟩ := h0
          exact ⟨none, 0, by simp [hl], fun j hj => by rw [List.length_map] at hj; omega⟩
        · simp only [Value.slice.injEq] at q1
          obtain ⟨rfl, rfl, rfl⟩ := q1
          refine ⟨some ⟨g, 0, none⟩, uc, by rw [List.length_map], fun j hj => ?_⟩
          rw [List.length_map] at hj
          have hg : g ≠ D := fun e => by rw [e, hK] at q3; cases q3
          have hgl := (Array.getElem?_eq_some_iff.1 q3).1
          have hat : ∀ i, i < 2 → (W'.putObj D (.deferred none)).cell? ⟨g, j * 2 + i, none⟩ = (two2 ys[j])[i]? := fun i hi => by
            have e : (W'.putObj D (.deferred none)).heap[g]? = some (.cells cur 117) := (World.putObj_heap_other hg).trans q3
            rw [← two2_get ys j i hj hi, ← q7, List.getElem?_take, if_pos (by omega), Array.getElem?_toList]
            simp [World.cell?, e]
          refine ⟨g, rfl, by omega, by simp [World.putObj]; exact hgl, ?_, ys[j].a, ys[j].c, ?_⟩
          · have := hat 0 (by omega)
            rw [Nat.add_zero] at this
            rw [this]; simp [two2]
          · rw [hat 1 (by omega)]; simp [two2]
      · rw [List.length_map] at hj
        obtain ⟨y0, y1, a1, c1, hT, hcs, hn, hr⟩ := con.con_open ys[j].rep
        rw [List.getElem_map, hT]
        exact hn
      · rcases h2.2 with ⟨h0, hl⟩ | ⟨g', cap, cur, q1, q2, q3, q4⟩
        · rw [h0] at hg; cases hg
        · rw [q1] at hg
          simp only [Value.ownBlock, Option.some.injEq] at hg
          subst hg
          exact ⟨by omega, by simp [World.putObj]; exact (Array.getElem?_eq_some_iff.1 q3).1⟩
    have hK2 : W'.heap[D]? = some (.deferred (some [])) := hK
    clear h1 h2 h3 hY
    gi_wp2
    refine ⟨by simp, .inl ⟨_, _, rfl, run_takeDeferred hK2, ?_⟩⟩
    exact ⟨_, results_tmp (t := 2) rfl _ _ _, ⟨_, rfl, GV.out.1⟩, GV.out.2⟩
  case stop =>
    rintro D c pre W _ _ h _
    exact h.elim

end Go.Proofs.YtjofmoebijdccaaGreat.data

namespace Go.Proofs
open Go.Shelf
def Tryz.laysM316_ren : Go.Shelf.Ren := ⟨fun | 316 => 101 | n => n, fun | 9 => 9 | 3 => 3 | 4 => 4 | 37 => 114 | 0 => 0 | 127 => 189 | 5 => 5 | n => n, fun | n => n⟩
theorem Tryz.laysM316 : Go.Proofs.LaysM.n316 Tryz.prog Tryz.laysM316_ren := {
  mixed := by kernel_rfl
  f316 := Tryz.func101.trans (congrArg some (by kernel_rfl))
  t0 := Tryz.underlying0
  a0 := Tryz.isAgg0
  z0 := Tryz.sizeOf0
  v0 := Tryz.zeroValue0
  t3 := Tryz.underlying3
  a3 := Tryz.isAgg3
  z3 := Tryz.sizeOf3
  v3 := Tryz.zeroValue3
  t4 := Tryz.underlying4
  a4 := Tryz.isAgg4
  z4 := Tryz.sizeOf4
  v4 := Tryz.zeroValue4
  t9 := Tryz.underlying9
  a9 := Tryz.isAgg9
  z9 := Tryz.sizeOf9
  v9 := Tryz.zeroValue9
  t37 := Tryz.underlying114
  a37 := Tryz.isAgg114
  z37 := Tryz.sizeOf114
  v37 := Tryz.zeroValue114
  t127 := Tryz.underlying189
  a127 := Tryz.isAgg189
  z127 := Tryz.sizeOf189
  v127 := Tryz.zeroValue189
  t5 := Tryz.underlying5
  a5 := Tryz.isAgg5
  z5 := Tryz.sizeOf5
  v5 := Tryz.zeroValue5
  i0 := by kernel_rfl
  i3 := by kernel_rfl
  i4 := by kernel_rfl
  i5 := by kernel_rfl
  i9 := by kernel_rfl
  i37 := by kernel_rfl
  i127 := by kernel_rfl }
open Go.RowKit in
/-- The same bytes; of what was there nothing has turned. -/
theorem Tryz.stringslite_Clone (s : ByteArray) (w : World) (hlim : s.size ≤ 281474976710656) :
    Calls Tryz.prog 101 #[.string s] w fun e w' => e = .returned (.string s) ∧ Below w.heap.size w w' := Any.stringslite_Clone Tryz.laysM316 s w hlim
open Go.RowKit in
theorem Tryz.strings_Clone (s : ByteArray) (w : World) (hlim : s.size ≤ 281474976710656) :
    Calls Tryz.prog 82 #[.string s] w fun e w' => e = .returned (.string s) ∧ Below w.heap.size w w' := by
  go_enter Tryz.func82, Tryz.ntmps82
  go_wp2_with fail
  refine (Tryz.stringslite_Clone s w hlim).mono ?_
  rintro e w1 ⟨rfl, hb⟩
  go_wp2
  go_ret
  exact ⟨rfl, hb⟩
end Go.Proofs

namespace Go.Proofs.YtjofmoebijdccaaGreat.fun
open Go.RowKit Go.Proofs.YtjofmoebijdccaaGreat
set_option linter.unusedVariables false
set_option linter.unusedSimpArgs false

theorem ret_boolI {a b : Bool} (h : a = b) : Ending.returned (.bool a) = Ending.returned (.bool b) := by rw [h]

set_option maxHeartbeats 1000000 in
theorem bel_is {n e f : Int} {b : Bool} {w : World} (h : inB n 0 f = b) (he : e = f + 1) :
    Calls Tryz.prog 81 #[.int .i64 n, .int .i64 e] w fun e w' => e = .returned (.bool b) ∧ w' = w := by
  subst he
  by_cases h1 : 0 ≤ n
  · have h6 : decide (0 ≤ n) = true := decide_eq_true h1
    rcases h4 : decide (n < f + 1) with _ | _
    · have h5 : decide (n ≤ f) = false := decide_eq_false (by have := of_decide_eq_false h4; omega)
      have h7 : inB n 0 f = false := by simp only [inB, h5, Bool.and_false]
      obtain rfl : b = false := by rw [← h, h7]
      go_enter Tryz.func81, Tryz.ntmps81
      go_wp2
      go_ret
      exact ⟨ret_boolI (by first | rfl | exact h4), rfl⟩
    · have h5 : decide (n ≤ f) = true := decide_eq_true (by have := of_decide_eq_true h4; omega)
      have h7 : inB n 0 f = true := by simp only [inB, h5, h6, Bool.and_true]
      obtain rfl : b = true := by rw [← h, h7]
      go_enter Tryz.func81, Tryz.ntmps81
      go_wp2
      go_ret
      exact ⟨ret_boolI (by first | rfl | exact h4), rfl⟩
  · have h2 : decide (0 ≤ n) = false := decide_eq_false h1
    go_enter Tryz.func81, Tryz.ntmps81
    go_wp2
    go_ret
    exact ⟨ret_boolI (by rw [← h]; simp only [inB, h2, Bool.false_and]), rfl⟩

end Go.Proofs.YtjofmoebijdccaaGreat.fun
