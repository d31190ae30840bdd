/-
  The program's CheckDatas, at every list of datas that lies in rows of cells that nothing froze; nothing that was there is turned.
-/
import Derived.Test.YtfekbchmgnpkaaaTypesOf2
import Derived.Test.YtfekbchmgnpkaaaImplChecks
import Derived.Test.YtfekbchmgnpkaaaSpecChecks2
namespace Go.Proofs.Ytfekbchmgnpkaaa.data
open Go.RowKit Go.Shelf Go.Maps Go.Proofs.Ytfekbchmgnpkaaa.rose Go.Proofs.Ytfekbchmgnpkaaa.rangeb Go.Proofs.Ytfekbchmgnpkaaa
set_option linter.unusedVariables false
set_option linter.unusedSimpArgs false
attribute [local go_sem] Oper.semAt_some

theorem dataSh_low {w w' : World} {S : Nat → Prop} {v : Value} {ks : List DataD} (h : dataSh.slice.rep w S [v] ks) (hS : ∀ b, S b → b < w.heap.size) (hb : Below w.heap.size w w') : dataSh.slice.rep w' (· < w'.heap.size) [v] ks :=
  dataSh.slice.mono (dataSh.slice.on h fun b hs => hb.block b (hS b hs)) fun b hs => Nat.lt_of_lt_of_le (hS b hs) hb.size

/-- A flag lies in block B. -/
def BitAt (W : World) (B : Nat) (b : Bool) : Prop := W.heap[B]? = some (.cells #[.bool b] 4)
def AllOk {w : World} {S : Nat → Prop} (ks : List DataD) (pre : List (tys.TPart w S)) : Prop := (pre.all fun y => okN ks false y.T) = true
def manyBit {w : World} {S : Nat → Prop} (ks : List DataD) (mn : Bool) (pre : List (tys.TPart w S)) : Bool := mn || !(pre.all fun y => okN ks true y.T)

set_option maxRecDepth 100000 in
set_option maxHeartbeats 4000000 in
theorem implCheckDatas (ks : List DataD) (v : Value) (w : World) (S : Nat → Prop) (hS : ∀ b, S b → b < w.heap.size) (hP : ∀ b, S b → Plain w b) (hw : ks.length + wts ks ≤ 1048576) (h : dataSh.slice.rep w S [v] ks) :
    Calls Try.prog 34 #[v] w fun e w' => e = .returned (.int .i64 (checkB ks)) ∧ Below w.heap.size w w' := by
  refine (callsIn_wide (n := 7)).1 ?_
  have o0 := dataSh.slice.one h v (by simp)
  obtain ⟨va, vc, hv⟩ := slice_cells h
  simp only [List.cons.injEq, and_true] at hv
  subst hv
  have HR : Hid _ := h
  have SL : Hid (∀ w' : World, Below w.heap.size w w' → dataSh.slice.rep w' (· < w'.heap.size) [.slice va ks.length vc] ks) := fun w' hb => dataSh_low h hS hb
  clear h
  obtain ⟨q, hq⟩ : ∃ q, q = checkB ks := ⟨_, rfl⟩
  have HQ : Hid (q = checkB ks) := hq
  rw [← hq]
  clear hq
  refine callsIn_of_wp_marks Try.func34 rfl trivial ?_ rfl
  simp only [Try.ntmps34, List.size_toArray, List.length_cons, List.length_nil, Nat.reduceAdd, Nat.reduceSub, Array.replicate_succ, Array.replicate_zero, List.push_toArray, List.append_toArray, List.nil_append, List.cons_append]
  have BA : Hid (Below w.heap.size w (w.alloc (.cells #[.int .i64 0] 3))) := (Below.refl _ _).alloc (Nat.le_refl _) _
  gi_wp2_with fail
  refine ⟨trivial, ?_⟩
  refine (callsIn_wide.2 (varsByName_any ks _ _ hw (SL.out _ BA.out))).mono ?_
  rintro e w1 ⟨rfl, hb1, D, hD, hT⟩
  simp only [World.size_alloc] at hb1 hD
  have B1 : Hid (Below w.heap.size w w1) := BA.out.trans (hb1.mono (by omega))
  have HD1 : Hid (w1.ownsMap Try.prog 9 (plainElem Try.prog 3) (w.heap.size + 1) ks.length D) := hD
  have HT : Hid (Tells D ks) := hT
  have K0 : Hid (w1.heap[w.heap.size]? = some (.cells #[.int .i64 0] 3)) := (hb1.block _ (by omega)).trans (alloc_top _ _)
  have HL : Hid (w.heap.size + 1 < w1.heap.size) := hD.lt
  clear hb1 hD hT
  obtain ⟨w2, hw2⟩ : ∃ w2, w2 = w1.alloc (.cells #[.map (some (w.heap.size + 1))] 96) := ⟨_, rfl⟩
  have hlen : (Builtin.len_ #[96] 3 #[.map (some (w.heap.size + 1))]).run Try.prog w2 = .ok (.int .i64 (Maps.size D : Nat)) w2 := by rw [hw2]; exact (HD1.out.alloc _).len Try.underlying96 3
  have B2 : Hid (Below w.heap.size w w2) := by rw [hw2]; exact B1.out.alloc B1.out.size _
  have N0 : w2.heap[w.heap.size]? = some (.cells #[.int .i64 0] 3) := by rw [hw2]; exact (Below.heap_alloc _ _ _ (by have := HL.out; omega)).trans K0.out
  have N3 : w2.heap[w1.heap.size]? = some (.cells #[.map (some (w.heap.size + 1))] 96) := by rw [hw2]; exact alloc_top _ _
  have HD2 : Hid (w2.ownsMap Try.prog 9 (plainElem Try.prog 3) (w.heap.size + 1) ks.length D) := by rw [hw2]; exact HD1.out.alloc _
  have Z2 : Hid (w2.heap.size = w1.heap.size + 1) := by rw [hw2]; show _ = _; simp
  have n0 := blk_cell (i := 0) N0 rfl
  have n1 := blk_free (i := 0) N0
  have n3 := blk_cell (i := 0) N3 rfl
  have hsz := HT.out.le
  have ATW := anyConTwice_any ks _ w2 hw (SL.out _ B2.out)
  have HN0 : Hid _ := N0
  have HN3 : Hid _ := N3
  clear N0 N3 HD1 K0
  by_cases hnm : Maps.size D = ks.length
  · have hnok := HT.out.full.1 hnm
    rw [hnm] at hlen
    by_cases hcok : consOk (spots 0 0 ks)
    · rw [decide_eq_true hcok] at ATW
      subst hw2
      gi_wp2_with fail
      refine ⟨trivial, ?_⟩
      refine (callsIn_wide.2 ATW).mono ?_
      rintro e w3 ⟨rfl, hb⟩
      have hz3 := hb.size
      have B3 : Hid (Below w.heap.size w w3) := B2.out.trans (hb.mono B2.out.size)
      rw [Z2.out] at hb hz3
      have N0 : w3.heap[w.heap.size]? = some (.cells #[.int .i64 0] 3) := (hb.block _ (by have := HL.out; omega)).trans HN0.out
      have N3 : w3.heap[w1.heap.size]? = some (.cells #[.map (some (w.heap.size + 1))] 96) := (hb.block _ (by omega)).trans HN3.out
      have HD3 : Hid (w3.ownsMap Try.prog 9 (plainElem Try.prog 3) (w.heap.size + 1) ks.length D) := owns_low HD2.out hb (by have := HL.out; omega)
      have HMC := hasMoreCons_any ks _ 60 w3 hw (SL.out _ B3.out)
      have HN0' : Hid _ := N0
      have HN3' : Hid _ := N3
      clear hb ATW HN0 HN3 HD2 N0 N3 n0 n1 n3 hlen
      gi_wp2_with fail
      refine ⟨trivial, ?_⟩
      refine (callsIn_wide.2 HMC).mono ?_
      clear HMC
      rintro e w4 ⟨rfl, hb⟩
      have hz4 := hb.size
      obtain ⟨mn, hmn⟩ : ∃ mn, mn = !decide (total ks ≤ 60) := ⟨_, rfl⟩
      have HMN : Hid (mn = !decide (total ks ≤ 60)) := hmn
      rw [← hmn]
      clear hmn
      have B4 : Hid (Below w.heap.size w w4) := B3.out.trans (hb.mono B3.out.size)
      have HN0 : Hid (w4.heap[w.heap.size]? = some (.cells #[.int .i64 0] 3)) := (hb.block _ (by have := HL.out; omega)).trans HN0'.out
      have HN3 : Hid (w4.heap[w1.heap.size]? = some (.cells #[.map (some (w.heap.size + 1))] 96)) := (hb.block _ (by omega)).trans HN3'.out
      have HD4 : Hid (w4.ownsMap Try.prog 9 (plainElem Try.prog 3) (w.heap.size + 1) ks.length D) := owns_low HD3.out hb (by have := HL.out; omega)
      clear hb HN0' HN3' HD3
      have BA5 : Below w4.heap.size w4 (w4.alloc (.cells #[.bool mn] 4)) := (Below.refl _ _).alloc (Nat.le_refl _) _
      have B5 : Hid (Below w.heap.size w (w4.alloc (.cells #[.bool mn] 4))) := B4.out.trans (BA5.mono B4.out.size)
      have K5 : Hid ((w4.alloc (.cells #[.bool mn] 4)).heap[w4.heap.size]? = some (.cells #[.bool mn] 4)) := alloc_top _ _
      gi_wp2_with fail
      refine ⟨trivial, ?_⟩
      refine (callsIn_wide.2 (typesOf_any ks _ _ S (fun b hb => Nat.lt_of_lt_of_le (hS b hb) B5.out.size) hw (dataSh.slice.on HR.out fun b hb => B5.out.block b (hS b hb)))).mono ?_
      rintro e WL ⟨Bt, la, ll, lc, lvs, hgv⟩
      have hret := hgv.ret
      subst hret
      have hbL := hgv.bel
      have hlo := hgv.low
      have hlt := hgv.lt
      simp only [World.size_alloc] at hbL hlo
      have hZ : w.heap.size + 1 < w1.heap.size := HL.out
      have hz41 : w1.heap.size + 1 ≤ w4.heap.size := by omega
      have bL : Below w4.heap.size w4 WL := BA5.trans (hbL.mono (by omega))
      have BL : Hid (Below w.heap.size w WL) := B4.out.trans (bL.mono B4.out.size)
      have k0 : WL.heap[w4.heap.size]? = some (.cells #[.bool mn] 4) := (hbL.block _ (by omega)).trans K5.out
      have hzL : w4.heap.size + 1 < WL.heap.size := by omega
      have hrp : ∀ j (h : j < (lists ks).length) u, lvs[j]? = some u → ty.tySh.slice.rep WL S [u] (lists ks)[j] := fun j h u hu => ty.tySh.slice.on (hgv.reps j h u hu) fun b hb => hbL.block b (by have := hS b hb; have := B4.out.size; omega)
      have htl := total_le ks
      have htp := typesL_le ks
      have hll := lists_length ks
      have hal : (tys.allL (lists ks)).length = (typesL ks).length := by rw [all_types]
      have hcl : ∀ W, Below WL.heap.size WL W → Calls Try.prog 90 #[.slice la ll lc] W fun e w' => (∃ a' l' c', e = .returned (.slice a' l' c') ∧ w'.ownsRow W.heap.size 27 1 (.slice a' l' c') (lists ks).length lvs) ∧ Below W.heap.size W w' := by
        intro W hW
        have hrow := hgv.row
        rcases hrow.2 with ⟨h0, h1⟩ | ⟨g, cap, cur, h1, h2, h3, _⟩
        · cases h0
          have hn : lvs = [] := List.eq_nil_of_length_eq_zero (by rw [hgv.len]; simpa using h1)
          have hl0 : (lists ks).length = 0 := by rw [← hgv.len, hn]; rfl
          rw [hl0, hn]
          exact tys.clone_nil W
        · cases h1
          have hgl := (Array.getElem?_eq_some_iff.1 h3).1
          refine tys.clones (w := WL) (S := S) hgv.len (fun j u hj => ?_) (fun _ => hgl) (tys.ones hgv.len hrp) (by omega) W hW
          have hx := tys.row_cell hrow hj
          rw [add_plain, Nat.zero_add]
          exact hx
      have hstop := tys.tysAmong_stopsG 6 (by omega) Bt S (lists ks) la ll lc lvs WL hlt (fun b hb => by have := hS b hb; have := BL.out.size; omega) (fun b hb => (hP b hb).on (BL.out.block b (hS b hb))) hgv.cell hgv.len hcl hrp (by omega)
      clear hcl hrp hgv
      gi_wp2
      refine wpIn_rangeFunc_Dx (n₀ := 0) (N := (tys.allL (lists ks)).length) rfl (by omega) (gf := 89) (lb := #[.pointer (some ⟨Bt, 0, none⟩)]) rfl trivial (enters_of Try.func89 (by kernel_rfl) rfl) (Nat.zero_le _)
        hstop (fun _ => rfl)
        (fun (pre : List (tys.TPart WL S)) W => W.heap[w.heap.size]? = some (.cells #[.int .i64 0] 3) ∧ W.heap[w1.heap.size]? = some (.cells #[.map (some (w.heap.size + 1))] 96) ∧ W.ownsMap Try.prog 9 (plainElem Try.prog 3) (w.heap.size + 1) ks.length D ∧ BitAt W w4.heap.size (manyBit ks mn pre) ∧ AllOk ks pre ∧ Below w.heap.size w W)
        (fun c (pre : List (tys.TPart WL S)) W => c = .ret ∧ (∃ y ∈ pre, okN ks false y.T = false) ∧ W.heap[w.heap.size]? = some (.cells #[.int .i64 2] 3) ∧ Below w.heap.size w W)
        (fun s A B hs hb => by
          obtain ⟨h1, h2, h3, h4, h6, h7⟩ := hs
          exact ⟨(hb.block _ (by omega)).trans h1, (hb.block _ (by omega)).trans h2, owns_low h3 hb (by omega), (hb.block _ (by omega)).trans h4, h6, h7.trans (hb.mono (by omega))⟩)
        (fun c s A B hs hb => ⟨hs.1, hs.2.1, (hb.block _ (by omega)).trans hs.2.2.1, hs.2.2.2.trans (hb.mono (by omega))⟩)
        ⟨(bL.block _ (by omega)).trans HN0.out, (bL.block _ (by omega)).trans HN3.out, owns_low HD4.out bL (by omega), by unfold BitAt manyBit; rw [k0]; simp, rfl, BL.out⟩
        (fun pre W hi b hb => (hi.2.2.2.2.2.block b (hS b hb)).trans (BL.out.block b (hS b hb)).symm)
        (fun x a' W => ∃ (Bx : Nat) (y0 y1 y6 y7 y8 y9 y10 y11 y12 y13 y14 y15 y16 y17 y18 y19 y20 y21 y22 y23 y24 y25 y26 y27 y28 y29 y30 y31 y32 y33 y34 y35 y36 y37 y38 y39 y40 y41 y42 y43 y44 : Value), WL.heap.size + 1 < Bx ∧ W.heap[Bx]? = some (.cells #[.int .i64 x.T.x.1, .int .i64 x.T.x.2.1, .string x.T.x.2.2, .slice x.a x.T.kids.length x.c] 29) ∧ a' = { tmps := #[y0, y1, .pointer (some ⟨w.heap.size, 0, none⟩), .pointer (some ⟨w1.heap.size, 0, none⟩), .pointer (some ⟨w4.heap.size, 0, none⟩), .pointer (some ⟨Bx, 0, none⟩), y6, y7, y8, y9, y10, y11, y12, y13, y14, y15, y16, y17, y18, y19, y20, y21, y22, y23, y24, y25, y26, y27, y28, y29, y30, y31, y32, y33, y34, y35, y36, y37, y38, y39, y40, y41, y42, y43, y44], defers := [] })
        (fun x a' A B hA hb => by
          obtain ⟨Bx, y0, y1, y6, y7, y8, y9, y10, y11, y12, y13, y14, y15, y16, y17, y18, y19, y20, y21, y22, y23, y24, y25, y26, y27, y28, y29, y30, y31, y32, y33, y34, y35, y36, y37, y38, y39, y40, y41, y42, y43, y44, h2, h4, h5⟩ := hA
          exact ⟨Bx, _, _, _, _, _, _, _, _, _, _, _, _, _, _, _, _, _, _, _, _, _, _, _, _, _, _, _, _, _, _, _, _, _, _, _, _, _, _, _, _, _, h2, (hb Bx (by omega)).trans h4, h5⟩) ?assign ?body ?done ?stop
      case assign =>
        intro l pre x W K hi hz hK
        simp only [tys.encTs, tys.encT]
        gi_wp2
        obtain ⟨h1, h2, h3, h4, h6, h7⟩ := hi
        have hb : Below W.heap.size W (W.alloc (.cells #[.int .i64 x.T.x.1, .int .i64 x.T.x.2.1, .string x.T.x.2.2, .slice x.a x.T.kids.length x.c] 29)) := (Below.refl _ _).alloc (Nat.le_refl _) _
        exact hK _ _ (Kept.ofBelow hb (by omega)) ⟨(hb.block _ (by omega)).trans h1, (hb.block _ (by omega)).trans h2, owns_low h3 hb (by omega), (hb.block _ (by omega)).trans h4, h6, h7.trans (hb.mono (by omega))⟩ ⟨W.heap.size, _, _, _, _, _, _, _, _, _, _, _, _, _, _, _, _, _, _, _, _, _, _, _, _, _, _, _, _, _, _, _, _, _, _, _, _, _, _, _, _, _, by omega, alloc_top _ _, rfl⟩
      case body =>
        rintro l pre x a' W ⟨h1, h2, h3, h4', h6', h7⟩ hlen hz ⟨Bx, y0, y1, y6, y7, y8, y9, y10, y11, y12, y13, y14, y15, y16, y17, y18, y19, y20, y21, y22, y23, y24, y25, y26, y27, y28, y29, y30, y31, y32, y33, y34, y35, y36, y37, y38, y39, y40, y41, y42, y43, y44, hBx, ex, rfl⟩
        have h6 : (pre.all fun y => okN ks false y.T) = true := h6'
        obtain ⟨b, h5⟩ : ∃ b, b = (mn || !(pre.all fun y => okN ks true y.T)) := ⟨_, rfl⟩
        have h4 : W.heap[w4.heap.size]? = some (.cells #[.bool b] 4) := by rw [h5]; exact h4'
        clear h4' h6'
        have e0 := blk_cell ex (i := 0) rfl
        have e2 := blk_cell ex (i := 2) rfl
        have e3 := blk_cell ex (i := 3) rfl
        have g1 := blk_cell h1 (i := 0) rfl
        have g1f := blk_free (i := 0) h1
        have g2 := blk_cell h2 (i := 0) rfl
        have g4 := blk_cell h4 (i := 0) rfl
        have g4f := blk_free (i := 0) h4
        have HB5 : Hid (b = (mn || !(pre.all fun y => okN ks true y.T))) := h5
        have H1 : Hid _ := h1
        have H2 : Hid _ := h2
        have H4 : Hid _ := h4
        clear ex h1 h2 h4 h5
        have hall : ∀ many, ((pre ++ [x]).all fun y => okN ks many y.T) = ((pre.all fun y => okN ks many y.T) && okN ks many x.T) := fun many => by simp
        by_cases hop : x.T.x.1 = 4
        · have hop2 : (x.T.x.1 == 4) = true := by simp [hop]
          have hsz : x.T.x.2.2.size ≤ maxLen := by
            obtain ⟨_, _, _, _, _, _, hT, hcs, f0, f1, f2, -⟩ := ty.ty_open x.rep
            simp at hcs
            rw [hcs.2.2.1]; exact f2
          have hkey : keyOf Try.prog 9 (.string x.T.x.2.2) = some (kl x.T.x.2.2) := WideMaps.keyOf_string_mk Try.underlying9 hsz
          have hat := HT.out.at_ x.T.x.2.2
          have hhas := HT.out.has x.T.x.2.2
          cases hf : ks.find? (namedD x.T.x.2.2) with
          | none =>
            have hany : ks.any (namedD x.T.x.2.2) = false := by
              rw [List.any_eq_false]
              intro d hd
              exact List.find?_eq_none.1 hf d hd
            rw [hany] at hhas
            have HNO : Hid (okN ks false x.T = false) := okN_none hop hf
            gi_wp2_with (gi_at_lookup; refine lookup_ok_knownIn _ rfl _ _ 96 rfl 9 3 strKey Try.underlying96 Try.underlying3 (zeroInt _) (w.heap.size + 1) ks.length _ rfl h3 _ _ rfl hkey _ hat false hhas ?_)
            refine ⟨Kept.box (p := ⟨w.heap.size, 0, none⟩) _ _ (by simp) (by simp <;> omega), rfl, ⟨x, by simp, HNO.out⟩, ?_, h7.setCell (p := ⟨w.heap.size, 0, none⟩) (by simp) _⟩
            simp [World.setCell, Array.getElem?_modify, H1.out]
          | some d =>
            have hany : ks.any (namedD x.T.x.2.2) = true := List.any_eq_true.2 ⟨d, List.mem_of_find?_eq_some hf, List.find?_some hf⟩
            rw [hany] at hhas
            rw [lastV_of hnok hf] at hat
            have HY1 : Hid (okN ks false x.T = true) := by show _ = _; rw [okN_some hop hf]; rfl
            have HY2 : Hid (okN ks true x.T = decide (d.2.1 = (x.T.kids.length : Int))) := by show _ = _; rw [okN_some hop hf]; rfl
            have HF : Hid (((pre ++ [x]).all fun y => okN ks false y.T) = true) := by show _ = _; rw [hall, h6, HY1.out]; rfl
            have fin : Hid (∀ b', b' = (b || !decide (d.2.1 = (x.T.kids.length : Int))) → b' = (mn || !((pre ++ [x]).all fun y => okN ks true y.T))) := fun b' hb' => by
              rw [hb', HB5.out, hall, HY2.out]
              cases mn <;> cases (pre.all fun y => okN ks true y.T) <;> simp
            clear hall
            cases b with
            | true =>
              gi_wp2_with (gi_at_lookup; refine lookup_ok_knownIn _ rfl _ _ 96 rfl 9 3 strKey Try.underlying96 Try.underlying3 (zeroInt _) (w.heap.size + 1) ks.length _ rfl h3 _ _ rfl hkey _ hat true hhas ?_)
              refine ⟨Kept.box (p := ⟨w4.heap.size, 0, none⟩) _ _ (by simp <;> omega) (by simp <;> omega), (Below.heap_setCell _ _ _ _ (by simp <;> omega)).trans H1.out, (Below.heap_setCell _ _ _ _ (by simp <;> omega)).trans H2.out, h3.setCell (by simp <;> omega) _, ?_, HF.out, h7.setCell (p := ⟨w4.heap.size, 0, none⟩) (by simp <;> omega) _⟩
              unfold BitAt
              rw [show manyBit ks mn (pre ++ [x]) = true from (fin.out true (by simp)).symm]
              simp [World.setCell, Array.getElem?_modify, H4.out]
            | false =>
              obtain ⟨dv, hdv⟩ : ∃ dv, dv = d.2.1 := ⟨_, rfl⟩
              rw [← hdv] at hat fin
              clear hdv HY2
              by_cases hk : dv = ((x.T.kids.length : Nat) : Int)
              · subst hk
                gi_wp2_with (gi_at_lookup; refine lookup_ok_knownIn _ rfl _ _ 96 rfl 9 3 strKey Try.underlying96 Try.underlying3 (zeroInt _) (w.heap.size + 1) ks.length _ rfl h3 _ _ rfl hkey _ hat true hhas ?_)
                refine ⟨Kept.box (p := ⟨w4.heap.size, 0, none⟩) _ _ (by simp <;> omega) (by simp <;> omega), (Below.heap_setCell _ _ _ _ (by simp <;> omega)).trans H1.out, (Below.heap_setCell _ _ _ _ (by simp <;> omega)).trans H2.out, h3.setCell (by simp <;> omega) _, ?_, HF.out, h7.setCell (p := ⟨w4.heap.size, 0, none⟩) (by simp <;> omega) _⟩
                unfold BitAt
                rw [show manyBit ks mn (pre ++ [x]) = false from (fin.out false (by simp)).symm]
                simp [World.setCell, Array.getElem?_modify, H4.out]
              · have hk2 : (((x.T.kids.length : Nat) : Int) == dv) = false := by simp only [beq_eq_false_iff_ne, ne_eq]; exact fun e => hk e.symm
                have hk3 : ¬ ((x.T.kids.length : Nat) : Int) = dv := fun e => hk e.symm
                gi_wp2_with (gi_at_lookup; refine lookup_ok_knownIn _ rfl _ _ 96 rfl 9 3 strKey Try.underlying96 Try.underlying3 (zeroInt _) (w.heap.size + 1) ks.length _ rfl h3 _ _ rfl hkey _ hat true hhas ?_)
                refine ⟨Kept.box (p := ⟨w4.heap.size, 0, none⟩) _ _ (by simp <;> omega) (by simp <;> omega), (Below.heap_setCell _ _ _ _ (by simp <;> omega)).trans H1.out, (Below.heap_setCell _ _ _ _ (by simp <;> omega)).trans H2.out, h3.setCell (by simp <;> omega) _, ?_, HF.out, h7.setCell (p := ⟨w4.heap.size, 0, none⟩) (by simp <;> omega) _⟩
                unfold BitAt
                rw [show manyBit ks mn (pre ++ [x]) = true from (fin.out true (by simp [hk])).symm]
                simp [World.setCell, Array.getElem?_modify, H4.out]
                exact hk3
        · have hop2 : (x.T.x.1 == 4) = false := by simpa using hop
          have HF : Hid (((pre ++ [x]).all fun y => okN ks false y.T) = true) := by show _ = _; rw [hall, h6, okN_not hop]; rfl
          have HF2 : Hid (((pre ++ [x]).all fun y => okN ks true y.T) = (pre.all fun y => okN ks true y.T)) := by show _ = _; rw [hall, okN_not hop]; simp
          gi_wp2
          refine ⟨Kept.refl _ _ _, H1.out, H2.out, h3, ?_, HF.out, h7⟩
          unfold BitAt
          rw [show manyBit ks mn (pre ++ [x]) = b by unfold manyBit; rw [HB5.out, HF2.out]]
          exact H4.out
      case done =>
        rintro Df ys W hDf hYs0 ⟨h1, h2, h3, h4', h6', h7⟩ hK
        have hYs : ∀ t, t ∈ ys.map (fun (y : tys.TPart WL S) => y.T) ↔ t ∈ typesL ks := fun t => by rw [hYs0 t, all_types]
        clear hYs0
        have h6 : (ys.all fun y => okN ks false y.T) = true := h6'
        obtain ⟨b, h5⟩ : ∃ b, b = (mn || !(ys.all fun y => okN ks true y.T)) := ⟨_, rfl⟩
        have h4 : W.heap[w4.heap.size]? = some (.cells #[.bool b] 4) := by rw [h5]; exact h4'
        clear h4' h6'
        have hset : ∀ many, (ys.all fun y => okN ks many y.T) = (typesL ks).all (okN ks many) := fun many => by
          rw [Bool.eq_iff_iff, List.all_eq_true, List.all_eq_true]
          constructor
          · intro h t ht
            obtain ⟨y, hy, rfl⟩ := List.mem_map.1 ((hYs t).2 ht)
            exact h y hy
          · intro h y hy
            exact h _ ((hYs _).1 (List.mem_map.2 ⟨y, hy, rfl⟩))
        rw [hset] at h5 h6
        have hq3 : q = if b then 3 else 0 := by
          rw [HQ.out, check_both hnok hcok, h6, h5, HMN.out]
          cases decide (total ks ≤ 60) <;> cases (typesL ks).all (okN ks true) <;> rfl
        have g1 := blk_cell h1 (i := 0) rfl
        have g1f := blk_free (i := 0) h1
        have g4 := blk_cell h4 (i := 0) rfl
        have H1 : Hid _ := h1
        clear h5
        cases b with
        | true =>
          gi_wp2
          have hK' : (W.setCell ⟨w.heap.size, 0, none⟩ (.int .i64 3)).heap[Df]? = some (.deferred (some [])) := (Below.heap_setCell _ _ _ _ (by simp <;> omega)).trans hK
          refine ⟨by simp, .inl ⟨_, _, rfl, run_takeDeferred hK', ?_⟩⟩
          have hc3 : (W.setCell ⟨w.heap.size, 0, none⟩ (.int .i64 3)).heap[w.heap.size]? = some (.cells #[.int .i64 3] 3) := by simp [World.setCell, Array.getElem?_modify, H1.out]
          have r1 := blk_cell ((World.putObj_heap_other (w := _) (o := .deferred none) (show w.heap.size ≠ Df by omega)).trans hc3) (i := 0) rfl
          refine ⟨.int .i64 3, ?_, by first | rfl | (rw [hq3]; rfl), (h7.setCell (p := ⟨w.heap.size, 0, none⟩) (by simp) _).trans (put_below _ _ hK' (by omega))⟩
          simp [results, Try.f34, go_sem, r1]
        | false =>
          gi_wp2
          have hK' : (W.setCell ⟨w.heap.size, 0, none⟩ (.int .i64 0)).heap[Df]? = some (.deferred (some [])) := (Below.heap_setCell _ _ _ _ (by simp <;> omega)).trans hK
          refine ⟨by simp, .inl ⟨_, _, rfl, run_takeDeferred hK', ?_⟩⟩
          have hc3 : (W.setCell ⟨w.heap.size, 0, none⟩ (.int .i64 0)).heap[w.heap.size]? = some (.cells #[.int .i64 0] 3) := by simp [World.setCell, Array.getElem?_modify, H1.out]
          have r1 := blk_cell ((World.putObj_heap_other (w := _) (o := .deferred none) (show w.heap.size ≠ Df by omega)).trans hc3) (i := 0) rfl
          refine ⟨.int .i64 0, ?_, by first | rfl | (rw [hq3]; rfl), (h7.setCell (p := ⟨w.heap.size, 0, none⟩) (by simp) _).trans (put_below _ _ hK' (by omega))⟩
          simp [results, Try.f34, go_sem, r1]
      case stop =>
        rintro Df c pre W hDf hsub0 ⟨rfl, ⟨y, hy, hno⟩, h1, h7⟩ hK
        have hsub : ∀ t ∈ pre.map (fun (y : tys.TPart WL S) => y.T), t ∈ typesL ks := fun t ht => by rw [← all_types]; exact hsub0 t ht
        clear hsub0
        have hq2 : q = 2 := by
          have h8 : (typesL ks).all (okN ks false) = false := by
            rw [List.all_eq_false]
            exact ⟨y.T, hsub _ (List.mem_map.2 ⟨y, hy, rfl⟩), by simp [hno]⟩
          rw [HQ.out, check_both hnok hcok, h8]; rfl
        gi_wp2
        refine ⟨by simp, .inl ⟨_, _, rfl, run_takeDeferred hK, ?_⟩⟩
        have r1 := blk_cell ((World.putObj_heap_other (w := W) (o := .deferred none) (show w.heap.size ≠ Df by omega)).trans h1) (i := 0) rfl
        refine ⟨.int .i64 2, ?_, by rw [hq2], h7.trans (put_below _ _ hK (by omega))⟩
        simp [results, Try.f34, go_sem, r1]
    · rw [decide_eq_false hcok] at ATW
      have HQ1 : Hid (q = 1) := by show _ = _; rw [HQ.out]; unfold checkB; rw [decide_eq_false hcok]; simp
      subst hw2
      gi_wp2_with fail
      refine ⟨trivial, ?_⟩
      refine (callsIn_wide.2 ATW).mono ?_
      rintro e w3 ⟨rfl, hb⟩
      have B3 : Hid (Below w.heap.size w w3) := B2.out.trans (hb.mono B2.out.size)
      have y0 := blk_cell (i := 0) ((hb.block _ (by have := B2.out.size; have := HL.out; have := Z2.out; omega)).trans HN0.out) rfl
      have y1 := blk_free (i := 0) ((hb.block _ (by have := B2.out.size; have := HL.out; have := Z2.out; omega)).trans HN0.out)
      have HY : Hid _ := (hb.block _ (by have := B2.out.size; have := HL.out; have := Z2.out; omega)).trans HN0.out
      clear hb ATW
      gi_wp2
      have hc5 : (w3.setCell ⟨w.heap.size, 0, none⟩ (.int .i64 1)).heap[w.heap.size]? = some (.cells #[.int .i64 1] 3) := by simp [World.setCell, Array.getElem?_modify, HY.out]
      have r1 := blk_cell (i := 0) hc5 rfl
      refine ⟨.int .i64 1, ?_, by rw [HQ1.out], B3.out.setCell (p := ⟨w.heap.size, 0, none⟩) (by simp) _⟩
      simp [results, Try.f34, go_sem, r1]
  · have hlt : (Maps.size D : Int) < (ks.length : Nat) := by omega
    have HQ1 : Hid (q = 1) := by
      show _ = _
      rw [HQ.out]
      unfold checkB
      rw [decide_eq_false (fun h => hnm (HT.out.full.2 h))]; simp
    subst hw2
    gi_wp2
    refine ⟨trivial, ?_⟩
    gi_wp2
    have hc5 : ((w1.alloc (.cells #[.map (some (w.heap.size + 1))] 96)).setCell ⟨w.heap.size, 0, none⟩ (.int .i64 1)).heap[w.heap.size]? = some (.cells #[.int .i64 1] 3) := by
      have := HN0.out
      simp only [World.setCell, Array.getElem?_modify, this]
      simp
    have r1 := blk_cell (i := 0) hc5 rfl
    refine ⟨.int .i64 1, ?_, by rw [HQ1.out], B2.out.setCell (p := ⟨w.heap.size, 0, none⟩) (by simp) _⟩
    simp [results, Try.f34, go_sem, r1]

end Go.Proofs.Ytfekbchmgnpkaaa.data
