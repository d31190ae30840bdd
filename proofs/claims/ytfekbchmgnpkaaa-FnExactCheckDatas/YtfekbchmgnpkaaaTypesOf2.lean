/-
  The program's typesOf, at every list of datas: the iterator of tysAmong over a new row of the lists of the cons' types.
-/
import Derived.Test.YtfekbchmgnpkaaaChecks
import Derived.Test.YtfekbchmgnpkaaaConsOfA
import Derived.Test.YtfekbchmgnpkaaaConsOfIn
import Derived.Test.YtfekbchmgnpkaaaTysAmong2
namespace Go.Proofs.Ytfekbchmgnpkaaa.data
open Go.RowKit Go.Shelf Go.Proofs.Ytfekbchmgnpkaaa.rose Go.Proofs.Ytfekbchmgnpkaaa.rangeb Go.Proofs.Ytfekbchmgnpkaaa
set_option linter.unusedVariables false
set_option linter.unusedSimpArgs false
attribute [local go_sem] Oper.semAt_some

/-- The row's entry of a con. -/
def entry {w : World} {S : Nat → Prop} (x : CPartA w S) : Value := .slice x.a x.s.c.2.length x.c

theorem two (w : World) (A B : Obj) (WL : World) (h : WL = (w.alloc A).alloc B) : WL.heap.size = w.heap.size + 2 ∧ Below w.heap.size w WL ∧ WL.heap[w.heap.size]? = some A ∧ WL.heap[w.heap.size + 1]? = some B := by
  subst h
  refine ⟨by simp, ((Below.refl _ w).alloc (Nat.le_refl _) _).alloc (by simp) _, ?_, ?_⟩
  · exact (Below.heap_alloc _ _ _ (by simp)).trans (alloc_top _ _)
  · have := alloc_top (w.alloc A) B
    rwa [World.size_alloc] at this

/-- The lists of the cons' types. -/
def lists (ks : List DataD) : List (List ty.TyD) := (spots 0 0 ks).map fun s => s.c.2

mutual
theorem with_eq : ∀ t : ty.TyD, withT t = tys.withT t
  | .mk x ks => by simp only [withT, tys.withT, withs_eq ks]
theorem withs_eq : ∀ ts : List ty.TyD, withS ts = tys.withS ts
  | [] => by simp [withS, tys.withS]
  | t :: ts => by simp only [withS, tys.withS, with_eq t, withs_eq ts]
end
theorem all_types (ks : List DataD) : tys.allL (lists ks) = typesL ks := by
  unfold tys.allL lists typesL typesP
  rw [List.flatMap_map]
  congr 1
  funext s
  exact (withs_eq s.c.2).symm
theorem lists_length (ks : List DataD) : (lists ks).length = total ks := by unfold lists; rw [List.length_map, spots_length]

/-- What typesOf hands over: the row of the lists in a box. -/
structure Given (w w' : World) (S : Nat → Prop) (ks : List DataD) (e : Ending) (Bt : Nat) (la : Option Addr) (ll lc : Nat) (vs : List Value) : Prop where
  ret : e = .returned (.func (.func 89) #[] #[.pointer (some ⟨Bt, 0, none⟩)])
  bel : Below w.heap.size w w'
  low : w.heap.size ≤ Bt
  lt : Bt < w'.heap.size
  cell : w'.cell? ⟨Bt, 0, none⟩ = some (.slice la ll lc)
  row : w'.ownsRow w.heap.size 27 1 (.slice la ll lc) (lists ks).length vs
  len : vs.length = (lists ks).length
  reps : ∀ j (h : j < (lists ks).length) u, vs[j]? = some u → ty.tySh.slice.rep w S [u] (lists ks)[j]

set_option maxRecDepth 100000 in
set_option maxHeartbeats 4000000 in
theorem typesOf_any (ks : List DataD) (v : Value) (w : World) (S : Nat → Prop) (hS : ∀ b, S b → b < w.heap.size) (hw : ks.length + wts ks ≤ 1048576) (h : dataSh.slice.rep w S [v] ks) :
    Calls Try.prog 67 #[v] w fun e w' => ∃ Bt la ll lc vs, Given w w' S ks e Bt la ll lc vs := by
  refine (callsIn_wide (n := 6)).1 ?_
  have htl := total_le ks
  obtain ⟨ti, hti, hzz⟩ := Option.map_eq_some_iff.1 tys.info_list
  simp only [Prod.mk.injEq] at hzz
  obtain ⟨hz0, hz1, hz2⟩ := hzz
  have TI : Hid (Try.prog.info? 27 = some ti ∧ ti.zero = some (.slice none 0 0) ∧ ti.size = 1 ∧ ti.bytes = 24) := ⟨hti, hz0, hz1, hz2⟩
  clear hti hz0 hz1 hz2
  have o0 := dataSh.slice.one h v (by simp)
  have HREP : Hid (dataSh.slice.rep w S [v] ks) := h
  clear h
  refine callsIn_of_wp_marks Try.func67 rfl trivial ?_ rfl
  simp only [Try.ntmps67, List.size_toArray, List.length_cons, List.length_nil, Nat.reduceAdd, Nat.reduceSub, Array.replicate_succ, Array.replicate_zero, List.push_toArray, List.append_toArray, List.nil_append, List.cons_append]
  gi_wp2_with (refine ⟨trivial, ?_⟩; gi_at_call 86; refine (consOf_in Fence.wide _ trivial rfl v _ o0).mono ?_; rintro e w' ⟨rfl, rfl⟩)
  obtain ⟨WL, hWL⟩ : ∃ WL, WL = (w.alloc (.cells #[.slice none 0 0] 111)).alloc (.cells #[v] 53) := ⟨_, rfl⟩
  obtain ⟨zL, bL, k0, k1⟩ := two w _ _ WL hWL
  rw [← hWL]
  clear hWL
  refine wpIn_rangeFunc_Ax (n₀ := w.heap.size) (N := total ks) rfl (by omega) (gf := 106) (lb := #[.pointer (some ⟨w.heap.size + 1, 0, none⟩)]) rfl trivial (enters_of Try.func106 (by kernel_rfl) rfl) (by omega)
    (consOf_stopsA Fence.wide _ trivial rfl (by omega) (w.heap.size + 1) w.heap.size S hS ks v WL (by omega) (by omega) (blk_cell k1 rfl) (dataSh.slice.on HREP.out fun b hb => bL.block b (hS b hb)) hw) (fun _ => rfl)
    (fun (pre : List (CPartA WL S)) W' => (∃ u, W'.heap[w.heap.size]? = some (.cells #[u] 111) ∧ W'.ownsRow (w.heap.size + 4) 27 1 u pre.length (pre.map entry)) ∧ Below w.heap.size w W' ∧ w.heap.size + 2 ≤ W'.heap.size)
    (fun c pre W' => False)
    (fun s A B hs hb => by
      obtain ⟨⟨u, h1, h2⟩, h3, h5⟩ := hs
      exact ⟨⟨u, (hb.other _ (by omega) (by omega)).trans h1, row_on h2 fun g hg hlt => hb.other g hlt (by omega)⟩, h3.trans (hb.below _ (by omega) (by omega)), Nat.le_trans h5 hb.size⟩)
    (fun c s A B hs hb => hs)
    ⟨⟨_, k0, World.ownsRow_nil _ _ _ _⟩, bL, by omega⟩
    (fun x a' W' => ∃ (By : Nat) (y0 y1 y2 y4 y6 y7 y8 y9 y10 y11 y12 y13 y14 y15 y16 : Value), w.heap.size + 4 ≤ By ∧ W'.heap[By]? = some (.cells #[.string x.s.c.1, .slice x.a x.s.c.2.length x.c] 93) ∧ a' = { tmps := #[y0, y1, y2, .pointer (some ⟨w.heap.size, 0, none⟩), y4, .pointer (some ⟨By, 0, none⟩), y6, y7, y8, y9, y10, y11, y12, y13, y14, y15, y16], defers := [] })
    (fun x a' A B hA hb => by
      obtain ⟨By, y0, y1, y2, y4, y6, y7, y8, y9, y10, y11, y12, y13, y14, y15, y16, h2, h4, h5⟩ := hA
      exact ⟨By, _, _, _, _, _, _, _, _, _, _, _, _, _, _, _, h2, (hb By (by omega)).trans h4, h5⟩) ?assign ?body ?done ?stop
  case assign =>
    intro l pre x W' K hi hz hK
    simp only [encsA, encPA, encCA]
    gi_wp2
    obtain ⟨⟨u, h1, h2⟩, h3, h5⟩ := hi
    have hb : Below W'.heap.size W' (W'.alloc (.cells #[.string x.s.c.1, .slice x.a x.s.c.2.length x.c] 93)) := (Below.refl _ _).alloc (Nat.le_refl _) _
    exact hK _ _ ⟨hb.size, fun k hk => hb.block k (by omega), hb.block _ (by omega), hb.block _ (by omega)⟩ ⟨⟨u, (hb.block _ (by omega)).trans h1, row_on h2 fun g hg hlt => hb.block g hlt⟩, h3.trans (hb.mono (by omega)), Nat.le_trans h5 hb.size⟩ ⟨W'.heap.size, _, _, _, _, _, _, _, _, _, _, _, _, _, _, _, by omega, alloc_top _ _, rfl⟩
  case body =>
    rintro l pre x a' W' ⟨⟨u, h1, h2⟩, h3, h5⟩ hlen hz ⟨By, y0, y1, y2, y4, y6, y7, y8, y9, y10, y11, y12, y13, y14, y15, y16, hBy, ey, rfl⟩
    have g1 := blk_cell ey (i := 1) rfl
    have m0 := blk_cell h1 (i := 0) rfl
    have p0 := blk_free (i := 0) h1
    have hone : (Value.slice x.a x.s.c.2.length x.c).oneCell' = true := rfl
    have H1 : Hid _ := h1
    have H3 : Hid (Below w.heap.size w W') := h3
    have H2 : Hid (W'.ownsRow (w.heap.size + 4) 27 1 u pre.length (pre.map entry)) := h2
    have HOB : Hid (∀ g, u.ownBlock = some g → w.heap.size + 4 ≤ g) := fun g hg => by
      rcases h2.2 with ⟨rfl, _⟩ | ⟨g', cap, cur, rfl, h, _⟩
      · cases hg
      · simp only [Value.ownBlock, Option.some.injEq] at hg; omega
    have h2a : (W'.alloc (.cells #[.slice x.a x.s.c.2.length x.c] 27)).ownsRow (w.heap.size + 4) 27 1 u pre.length (pre.map entry) := row_on h2 fun g hg hlt => Below.heap_alloc _ _ _ hlt
    clear h1 h2 h3 ey
    gi_wp2_with (gi_at_builtin; refine append_oneIn _ rfl _ _ 111 rfl (w.heap.size + 4) 27 ti _ 24 Try.underlying111 TI.out.1 TI.out.2.1 TI.out.2.2.1 TI.out.2.2.2 rfl u pre.length _ rfl h2a ⟨W'.heap.size, 0, none⟩ 1 (.slice x.a x.s.c.2.length x.c) rfl (cell_one_new _ _ _) rfl (by unfold maxLen; omega) (by omega) (by simp; omega) ?_; intro ua ul uc w1 hown1 hgrow1
                 have hZ : w1.heap[w.heap.size]? = some (.cells #[u] 111) := (hgrow1.block w.heap.size (by simp; omega) (fun e => by have := HOB.out _ e.symm; omega)).trans ((Below.heap_alloc _ _ _ (by omega)).trans H1.out)
                 have y0 := blk_cell (i := 0) hZ rfl
                 have y1 := blk_free (i := 0) hZ)
    have ha : Below W'.heap.size W' (W'.alloc (.cells #[.slice x.a x.s.c.2.length x.c] 27)) := (Below.refl _ _).alloc (Nat.le_refl _) _
    have hblk : ∀ g, g < W'.heap.size → g < w.heap.size + 4 → w1.heap[g]? = W'.heap[g]? := fun g h1 h2 => (hgrow1.block g (by simp; omega) (fun e => by have := HOB.out _ e.symm; omega)).trans (ha.block g h1)
    have hb1 : Below w.heap.size W' w1 := (ha.mono (by omega)).grown hgrow1 (by simp; omega) (fun g hg => by have := HOB.out _ hg; omega)
    have hz1 : W'.heap.size ≤ w1.heap.size := Nat.le_trans (by simp) hgrow1.size
    refine ⟨⟨by rw [World.size_setCell]; exact hz1, fun k hk => ?_, ?_, ?_⟩, ⟨.slice ua ul uc, ?_, ?_⟩, ?_, by rw [World.size_setCell]; omega⟩
    · rw [Below.heap_setCell _ _ _ _ (by simp; omega)]; exact hblk k (by omega) (by omega)
    · rw [Below.heap_setCell _ _ _ _ (by simp; omega)]; exact hblk _ (by omega) (by omega)
    · rw [Below.heap_setCell _ _ _ _ (by simp; omega)]; exact hblk _ (by omega) (by omega)
    · simp [World.setCell, Array.getElem?_modify, hZ]
    · rw [List.length_append, List.map_append]
      exact row_on hown1 fun g hg hlt => Below.heap_setCell _ _ _ _ (by simp; omega)
    · exact H3.out.trans (hb1.setCell (p := ⟨w.heap.size, 0, none⟩) (by simp) _)
  case done =>
    rintro D ys W' hD hY ⟨⟨u, h1, h2⟩, h3, h5⟩ hK
    have hDW : D < W'.heap.size := (Array.getElem?_eq_some_iff.1 hK).1
    obtain ⟨ua, ul, uc, rfl⟩ : ∃ ua ul uc, u = .slice ua ul uc := by
      rcases h2.2 with ⟨rfl, _⟩ | ⟨_, _, _, rfl, _⟩
      · exact ⟨_, _, _, rfl⟩
      · exact ⟨_, _, _, rfl⟩
    have m0 : W'.cell? ⟨w.heap.size, 0, none⟩ = some (.slice ua ul uc) := blk_cell h1 (i := 0) rfl
    have hls : lists ks = ys.map fun x => x.s.c.2 := by unfold lists; rw [← hY, List.map_map]; rfl
    have hlen : ys.length = (lists ks).length := by rw [hls, List.length_map]
    have GV : Hid (∀ (e : Ending), e = .returned (.func (.func 89) #[] #[.pointer (some ⟨W'.heap.size, 0, none⟩)]) → Given w ((W'.alloc (.cells #[.slice ua ul uc] 111)).putObj D (.deferred none)) S ks e W'.heap.size ua ul uc (ys.map entry)) := fun e he => by
      have hb : Below W'.heap.size W' (W'.alloc (.cells #[.slice ua ul uc] 111)) := (Below.refl _ _).alloc (Nat.le_refl _) _
      have hKa := (hb.block _ hDW).trans hK
      refine ⟨he, (h3.trans (hb.mono (by omega))).trans (put_below _ _ hKa (by omega)), by omega, by simp [World.putObj], ?_, ?_, by rw [List.length_map, hlen], fun j hj u hu => ?_⟩
      · exact blk_cell ((World.putObj_heap_other (w := _) (o := .deferred none) (show W'.heap.size ≠ D by omega)).trans (alloc_top _ _)) (i := 0) rfl
      · rw [← hlen]
        have h2' : W'.ownsRow w.heap.size 27 1 (.slice ua ul uc) ys.length (ys.map entry) := by
          obtain ⟨hl, hv⟩ := h2
          refine ⟨hl, ?_⟩
          rcases hv with h0 | ⟨g, cap, cur, q1, q2, q3⟩
          · exact Or.inl h0
          · exact Or.inr ⟨g, cap, cur, q1, by omega, q3⟩
        have hne : ∀ g, (Value.slice ua ul uc).ownBlock = some g → g ≠ D := fun g hg e => by
          rcases h2.2 with ⟨h0, _⟩ | ⟨g', cap, cur, q1, q2, q3, _⟩
          · rw [h0] at hg; cases hg
          · rw [q1] at hg
            simp only [Value.ownBlock, Option.some.injEq] at hg
            rw [hg, e, hK] at q3
            cases q3
        obtain ⟨hl, hv⟩ := h2'
        refine ⟨hl, ?_⟩
        rcases hv with h0 | ⟨g, cap, cur, q1, q2, q3, q4⟩
        · exact Or.inl h0
        · refine Or.inr ⟨g, cap, cur, q1, q2, ?_, q4⟩
          have hg : g ≠ D := hne g (by rw [q1]; rfl)
          rw [World.putObj_heap_other hg, hb.block _ (Array.getElem?_eq_some_iff.1 q3).1]
          exact q3
      · have hj' : j < ys.length := by omega
        have hu' : u = entry ys[j] := by
          rw [List.getElem?_map, List.getElem?_eq_getElem hj'] at hu
          simpa using hu.symm
        have he2 : (lists ks)[j] = ys[j].s.c.2 := by simp only [hls, List.getElem_map]
        rw [he2, hu']
        obtain ⟨y0, y1, a1, c1, hT, hcs, -, hr⟩ := con.con_open ys[j].rep
        simp only [List.cons.injEq, Value.slice.injEq, and_true] at hcs
        obtain ⟨-, h6, h7, h8⟩ := hcs
        have hy : ys[j].s.c.2 = y1 := by rw [hT]
        simp only [entry, hy]
        rw [h6, h8]
        exact ty.tySh.slice.on hr fun b hb => (bL.block b (hS b hb)).symm
    have hK2 : (W'.alloc (.cells #[.slice ua ul uc] 111)).heap[D]? = some (.deferred (some [])) := (Below.heap_alloc _ _ _ hDW).trans hK
    clear h1 h2 h3 hls hlen hY
    gi_wp2_with (refine ⟨trivial, ?_⟩; gi_at_call 72; refine (tys.tysAmong_in _ _ _ rfl).mono ?_; rintro e w' ⟨rfl, rfl⟩)
    refine ⟨by simp, .inl ⟨_, _, rfl, run_takeDeferred hK2, ?_⟩⟩
    exact ⟨_, results_tmp (t := 2) rfl _ _ _, _, _, _, _, _, GV.out _ rfl⟩
  case stop =>
    rintro D c pre W _ _ h _
    exact h.elim

end Go.Proofs.Ytfekbchmgnpkaaa.data
