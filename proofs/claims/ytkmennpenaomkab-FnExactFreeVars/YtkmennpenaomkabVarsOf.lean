/-
  The program's varsOf, at every type: a new map whose keys are the type's vars.
-/
import Derived.Test.YtkmennpenaomkabTyOkImpl
import Derived.Test.YtkmennpenaomkabStandings
import Derived.Maps.OwnIn
namespace Go.Proofs.Ytkmennpenaomkab.ty
open Go.RowKit Go.Shelf Go.Maps Go.Proofs.Ytkmennpenaomkab.rose Go.Proofs.Ytkmennpenaomkab.rangeb Go.Proofs.Ytkmennpenaomkab.keys Go.Proofs.Ytkmennpenaomkab
set_option linter.unusedVariables false
set_option linter.unusedSimpArgs false
attribute [local go_sem] Oper.semAt_some

/-- The vars among types, at their roots. -/
def varsL (l : List TyD) : List Int := (l.filter fun t => decide (t.x.1 = 2)).map fun t => t.x.2.1

theorem varsL_yes {l : List TyD} {t : TyD} (h : t.x.1 = 2) : varsL (l ++ [t]) = varsL l ++ [t.x.2.1] := by simp [varsL, List.filter_append, h]
theorem varsL_no {l : List TyD} {t : TyD} (h : t.x.1 ≠ 2) : varsL (l ++ [t]) = varsL l := by simp [varsL, List.filter_append, h]

theorem owns_below {w w' : World} {P : Program} {k : TypeId} {R : Value → Option (DataW Unit × List MemPlace)} {b n B : Nat} {D : DataW Unit} (h : w.ownsMap P k R b n D) (hb : Below B w w') (hB : b < B) : w'.ownsMap P k R b n D := by
  obtain ⟨es, clock, h1, r⟩ := h
  exact ⟨es, clock, (hb.block b hB).trans h1, r⟩
theorem zeroInt (w : World) : (zeroValue 3).run Try.prog w = .ok (.int .i64 0) w := by kernel_rfl

set_option maxRecDepth 100000 in
set_option maxHeartbeats 2000000 in
theorem varsOf_any (T : TyD) (cs : List Value) (w : World) (hw : wt T ≤ 1048576) (h : tySh.rep w (· < w.heap.size) cs T) :
    Calls Try.prog 31 #[.agg cs.toArray] w fun e w' => e = .returned (.map (some (w.heap.size + 1))) ∧ Below w.heap.size w w' ∧ ∃ D, w'.ownsMap Try.prog 3 (plainElem Try.prog 3) (w.heap.size + 1) (allT T).length D ∧ Keys D (once [] (varsL (allT T))) ∧ w.heap.size + 1 < w'.heap.size := by
  refine (callsIn_wide (n := 5)).1 ?_
  have hmm := @run_makeMap Try.prog
  obtain ⟨v0, v1, v2, v3, rfl⟩ := ty_list h
  have o0 := tySh.one h v0 (by simp)
  have o1 := tySh.one h v1 (by simp)
  have o2 := tySh.one h v2 (by simp)
  have o3 := tySh.one h v3 (by simp)
  have hle := all_le T
  have HR : Hid _ := h
  clear h
  refine callsIn_of_wp_marks Try.func31 rfl trivial ?_ rfl
  simp only [Try.ntmps31, List.size_toArray, List.length_cons, List.length_nil, Nat.reduceAdd, Nat.reduceSub, Array.replicate_succ, Array.replicate_zero, List.push_toArray, List.append_toArray, List.nil_append, List.cons_append]
  gi_wp2_with (refine ⟨trivial, ?_⟩; gi_at_call 48; refine (tysOf_in Fence.wide _ trivial rfl v0 v1 v2 v3 _ o0 o1 o2 o3).mono ?_; rintro e w' ⟨rfl, rfl⟩)
  obtain ⟨W0, hW0⟩ : ∃ W0, W0 = ((w.alloc (.cells #[v0, v1, v2, v3] 37)).alloc (.map #[] 0)).alloc (.cells #[.map (some (w.heap.size + 1))] 59) := ⟨_, rfl⟩
  have z0 : W0.heap.size = w.heap.size + 3 := by rw [hW0]; simp
  have b0 : Below w.heap.size w W0 := by rw [hW0]; exact (((Below.refl _ w).alloc (Nat.le_refl _) _).alloc (by simp) _).alloc (by simp only [World.size_alloc]; omega) _
  have d0 := box_new ((w.alloc (.cells #[v0, v1, v2, v3] 37)).alloc (.map #[] 0)) (.map (some (w.heap.size + 1))) 59
  have d1 := World.ownsMap_made (H := Unit) (w.alloc (.cells #[v0, v1, v2, v3] 37)) Try.prog 3 (plainElem Try.prog 3)
  simp only [World.size_alloc] at d0 d1
  have k0 : W0.cell? ⟨w.heap.size + 2, 0, none⟩ = some (.map (some (w.heap.size + 1))) := by rw [hW0]; exact d0.1
  have k1 : W0.ownsMap (H := Unit) Try.prog 3 (plainElem Try.prog 3) (w.heap.size + 1) 0 (.map []) := by rw [hW0]; exact d1.alloc _
  clear d0 d1
  rw [← hW0]
  clear hW0
  obtain ⟨WL, hWL⟩ : ∃ WL, WL = W0.alloc (.cells #[v0, v1, v2, v3] 37) := ⟨_, rfl⟩
  have zL : WL.heap.size = w.heap.size + 4 := by rw [hWL]; simp [z0]
  have bl : Below W0.heap.size W0 WL := by rw [hWL]; exact (Below.refl _ _).alloc (Nat.le_refl _) _
  have cL : CellsAt WL W0.heap.size 0 [v0, v1, v2, v3] := by
    rw [hWL]
    intro j v hj
    match j, hj with
    | 0, hj | 1, hj | 2, hj | 3, hj => simp at hj; subst hj; simp
    | _ + 4, hj => simp at hj
  rw [z0] at cL
  rw [← hWL]
  refine wpIn_rangeFunc_Bx (n₀ := w.heap.size) (N := (allT T).length) rfl (by omega) (gf := 61) (lb := #[.pointer (some ⟨w.heap.size + 3, 0, none⟩)]) rfl trivial (enters_of Try.func61 (by kernel_rfl) rfl) (by omega)
    (tysOf_stops Fence.wide _ trivial rfl (by omega) (w.heap.size + 3) w.heap.size T [v0, v1, v2, v3] WL (by omega) (by omega) cL (tySh.below HR.out (b0.trans (bl.mono (by omega)))) hw) (fun _ => rfl)
    (fun pre W => W.cell? ⟨w.heap.size + 2, 0, none⟩ = some (.map (some (w.heap.size + 1))) ∧ (∃ D, W.ownsMap Try.prog 3 (plainElem Try.prog 3) (w.heap.size + 1) pre.length D ∧ Keys D (once [] (varsL (pre.map (·.T))))) ∧ Below w.heap.size w W)
    (fun _ _ _ => False)
    (fun s A B hs hb => ⟨(hb.cell (p := ⟨w.heap.size + 2, 0, none⟩) (by simp; omega)).trans hs.1, (by obtain ⟨D, h1, h2⟩ := hs.2.1; exact ⟨D, owns_below h1 hb (by omega), h2⟩), hs.2.2.trans (hb.mono (by omega))⟩)
    (fun _ _ _ _ hs _ => hs)
    ⟨(bl.cell (p := ⟨w.heap.size + 2, 0, none⟩) (by simp; omega)).trans k0, ⟨.map [], owns_below k1 bl (by omega), Keys.made⟩, b0.trans (bl.mono (by omega))⟩
    (fun x a' W => ∃ Bx, w.heap.size + 5 < Bx ∧ (W.cell? ⟨Bx, 0, none⟩ = some (.int .i64 x.T.x.1) ∧ W.cell? ⟨Bx, 1, none⟩ = some (.int .i64 x.T.x.2.1) ∧ W.cell? ⟨Bx, 2, none⟩ = some (.string x.T.x.2.2) ∧ W.cell? ⟨Bx, 3, none⟩ = some (.slice x.a x.T.kids.length x.c)) ∧
      a' = { tmps := #[.agg #[v0, v1, v2, v3], .pointer (some ⟨w.heap.size, 0, none⟩), .map none, .pointer (some ⟨w.heap.size + 2, 0, none⟩), .pointer (some ⟨Bx, 0, none⟩), .map (some (w.heap.size + 1)), .agg #[v0, v1, v2, v3], .func (.func 61) #[] #[.pointer (some ⟨w.heap.size + 3, 0, none⟩)], encV x, undef, undef, undef, undef, undef, undef, undef, undef, undef], defers := [] })
    (fun x a' A B hA hb => by
      obtain ⟨Bx, h1, h2, h3⟩ := hA
      have e : B.heap[Bx]? = A.heap[Bx]? := hb Bx (by omega)
      exact ⟨Bx, h1, ⟨(World.cell?_of_block (w := A) (a := ⟨Bx, 0, none⟩) e).trans h2.1, (World.cell?_of_block (w := A) (a := ⟨Bx, 1, none⟩) e).trans h2.2.1, (World.cell?_of_block (w := A) (a := ⟨Bx, 2, none⟩) e).trans h2.2.2.1, (World.cell?_of_block (w := A) (a := ⟨Bx, 3, none⟩) e).trans h2.2.2.2⟩, h3⟩) ?assign ?body ?done ?stop
  case assign =>
    intro l pre x W K hi hz hK
    simp only [enc, encV]
    gi_wp2
    obtain ⟨hc, ⟨D, hD, hKs⟩, hB⟩ := hi
    have hb : Below W.heap.size W (W.alloc (.cells #[.int .i64 x.T.x.1, .int .i64 x.T.x.2.1, .string x.T.x.2.2, .slice x.a x.T.kids.length x.c] 37)) := (Below.refl _ _).alloc (Nat.le_refl _) _
    refine hK _ _ (Kept.ofBelow hb (by omega)) ⟨(hb.cell (p := ⟨w.heap.size + 2, 0, none⟩) (by simp; omega)).trans hc, ⟨D, owns_below hD hb (by omega), hKs⟩, hB.trans (hb.mono (by omega))⟩ ⟨W.heap.size, by omega, ⟨?_, ?_, ?_, ?_⟩, rfl⟩
    all_goals simp
  case body =>
    rintro l pre x a' W ⟨hc, ⟨D, hown, hKs⟩, hB⟩ hlen hz ⟨Bx, hBx, ⟨e0, e1, e2, e3⟩, rfl⟩
    have hkey : keyOf Try.prog 3 (.int .i64 x.T.x.2.1) = some (.int .i64 x.T.x.2.1) := keyOf_int_mk Try.underlying3 (bind.wf64 ⟨x.n0, x.n1⟩)
    have HK : Hid _ := hKs
    have HX : Hid (Tidy D ∧ IsMap D) := ⟨hown.tidy bind.intKey, hown.isMap⟩
    clear hKs
    by_cases hop : x.T.x.1 = 2
    · have hop' : (x.T.x.1 == 2) = true := by simp [hop]
      have HV : Hid (varsL ((pre ++ [x]).map (·.T)) = varsL (pre.map (·.T)) ++ [x.T.x.2.1]) := by
        show _ = _
        rw [List.map_append, List.map_cons, List.map_nil, varsL_yes hop]
      gi_wp2_with (first
        | (gi_at_lookup; refine wpListIn_lookup_own_int _ rfl _ _ 59 rfl 3 3 .i64 bind.intKey Try.underlying59 Try.underlying3 (zeroInt _) (w.heap.size + 1) pre.length _ rfl hown _ _ rfl hkey ?_; intro c hat hwc)
        | (gi_at_mapUpdate; refine wpListIn_mapUpdate_own _ rfl _ _ _ 59 rfl 3 3 bind.intKey Try.underlying59 _ (w.heap.size + 1) pre.length _ rfl hown (by unfold maxLen; omega) _ _ _ rfl rfl hkey _ [] (plainElem_int Try.underlying3 (wrap64_wf _)) ?_; intro w1 hown1 hgrow1))
      have hb1 : Below (w.heap.size + 1) W w1 := (Below.refl _ _).grown hgrow1 (by omega) (fun j hj => by cases hj; exact Nat.le_refl _)
      have hkp : Kept w.heap.size (w.heap.size + 3 + 1) W w1 := ⟨hgrow1.size, fun j hj => hb1.block j (by omega), fun j h1 h2 => hgrow1.block j h2 (fun e => by have := Option.some.inj e; omega)⟩
      refine ⟨hkp, ?_, ?_, hB.trans (hb1.mono (by omega))⟩
      · rw [World.cell?_of_block (w := W) (a := ⟨w.heap.size + 2, 0, none⟩) (hgrow1.block _ (by simp; omega) (fun e => by have := Option.some.inj e; simp at this))]
        exact hc
      · refine ⟨_, by rw [List.length_append]; exact hown1, ?_⟩
        rw [HV.out, once_snoc]
        split
        · rename_i hm
          exact HK.out.again HX.out.1 HX.out.2 hm _
        · rename_i hm
          exact HK.out.put HX.out.1 HX.out.2 hm _
    · have hop' : (x.T.x.1 == 2) = false := by simpa using hop
      have HV : Hid (varsL ((pre ++ [x]).map (·.T)) = varsL (pre.map (·.T))) := by
        show _ = _
        rw [List.map_append, List.map_cons, List.map_nil, varsL_no hop]
      gi_wp2
      exact ⟨Kept.refl _ _ _, hc, ⟨D, hown.mono (by simp), by rw [HV.out]; exact HK.out⟩, hB⟩
  case done =>
    rintro D ys W hD hS ⟨hc, ⟨Dm, hown, hKs⟩, hB⟩ hK
    have hl : ys.length = (allT T).length := by rw [← hS, List.length_map]
    rw [hl] at hown
    rw [hS] at hKs
    have hc' : W.cell? ⟨w.heap.size + 1 + 1, 0, none⟩ = some (.map (some (w.heap.size + 1))) := hc
    gi_wp2
    refine ⟨by simp, .inl ⟨_, _, rfl, run_takeDeferred hK, ?_⟩⟩
    have hp := put_below W (.deferred none) hK hD
    exact ⟨_, results_tmp rfl _ _ _, rfl, hB.trans (hp.mono (by omega)), Dm, owns_below hown hp (by omega), hKs, by have := hp.size; have := hown.lt; omega⟩
  case stop =>
    rintro D c pre W _ _ h _
    exact h.elim

end Go.Proofs.Ytkmennpenaomkab.ty
