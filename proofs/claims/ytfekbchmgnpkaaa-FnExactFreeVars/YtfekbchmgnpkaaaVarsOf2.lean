/-
  The program's varsOf, at every type in blocks that nothing froze: a new map whose keys are the type's vars.
-/
import Derived.Test.YtfekbchmgnpkaaaTysAmong2
import Derived.Test.YtfekbchmgnpkaaaMapKeys
import Derived.Maps.OwnIn
import Derived.Maps.OwnOps
import Derived.Maps.OwnSet
namespace Go.Proofs.Ytfekbchmgnpkaaa.tys
open Go.RowKit Go.Shelf Go.Maps Go.Proofs.Ytfekbchmgnpkaaa.rose Go.Proofs.Ytfekbchmgnpkaaa.rangeb Go.Proofs.Ytfekbchmgnpkaaa.keys Go.Proofs.Ytfekbchmgnpkaaa
set_option linter.unusedVariables false
set_option linter.unusedSimpArgs false
attribute [local go_sem] Oper.semAt_some

theorem owns_below {w w' : World} {P : Program} {k : TypeId} {R : Value → Option (DataW Unit × List MemPlace)} {b n B : Nat} {D : DataW Unit} (h : w.ownsMap P k R b n D) (hb : Below B w w') (hB : b < B) : w'.ownsMap P k R b n D := by
  obtain ⟨es, clock, h1, r⟩ := h
  exact ⟨es, clock, (hb.block b hB).trans h1, r⟩

theorem intKey : Keyed Try.prog 3 := int_keyed Try.underlying3
theorem wf64 {x : Int} (h : -9223372036854775808 ≤ x ∧ x ≤ 9223372036854775807) : (Lit.int .i64 x).wf = true := WalkArith.wf_i64 (by omega)
theorem tpart_ok {w : World} {S : Nat → Prop} (x : TPart w S) : -9223372036854775808 ≤ x.T.x.2.1 ∧ x.T.x.2.1 ≤ 9223372036854775807 := by
  obtain ⟨y0, y1, y2, y3, a3, c3, hT, hcs, f0, f1, f2, f3⟩ := ty.ty_open x.rep
  rw [hT]; exact f1

theorem six (w : World) (A B C E G K : Obj) (WL : World) (h : WL = (((((w.alloc A).alloc B).alloc C).alloc E).alloc G).alloc K) : WL.heap.size = w.heap.size + 6 ∧ Below w.heap.size w WL ∧ WL.heap[w.heap.size + 1]? = some B ∧ WL.heap[w.heap.size + 2]? = some C ∧ WL.heap[w.heap.size + 3]? = some E ∧ WL.heap[w.heap.size + 4]? = some G ∧ WL.heap[w.heap.size + 5]? = some K := by
  subst h
  refine ⟨by simp, ((((((Below.refl _ w).alloc (Nat.le_refl _) _).alloc (by simp) _).alloc (by simp <;> omega) _).alloc (by simp <;> omega) _).alloc (by simp <;> omega) _).alloc (by simp <;> omega) _, ?_, ?_, ?_, ?_, ?_⟩
  · rw [Below.heap_alloc _ _ _ (by simp <;> omega), Below.heap_alloc _ _ _ (by simp <;> omega), Below.heap_alloc _ _ _ (by simp <;> omega), Below.heap_alloc _ _ _ (by simp)]
    have := alloc_top (w.alloc A) B
    rwa [World.size_alloc] at this
  · rw [Below.heap_alloc _ _ _ (by simp <;> omega), Below.heap_alloc _ _ _ (by simp <;> omega), Below.heap_alloc _ _ _ (by simp)]
    have := alloc_top ((w.alloc A).alloc B) C
    rwa [World.size_alloc, World.size_alloc] at this
  · rw [Below.heap_alloc _ _ _ (by simp <;> omega), Below.heap_alloc _ _ _ (by simp)]
    have := alloc_top (((w.alloc A).alloc B).alloc C) E
    rwa [World.size_alloc, World.size_alloc, World.size_alloc] at this
  · rw [Below.heap_alloc _ _ _ (by simp)]
    have := alloc_top ((((w.alloc A).alloc B).alloc C).alloc E) G
    rwa [World.size_alloc, World.size_alloc, World.size_alloc, World.size_alloc] at this
  · have := alloc_top (((((w.alloc A).alloc B).alloc C).alloc E).alloc G) K
    rwa [World.size_alloc, World.size_alloc, World.size_alloc, World.size_alloc, World.size_alloc] at this

set_option maxRecDepth 100000 in
set_option maxHeartbeats 4000000 in
theorem varsOf_any (T : ty.TyD) (cs : List Value) (w : World) (S : Nat → Prop) (hS : ∀ b, S b → b < w.heap.size) (hP : ∀ b, S b → Plain w b) (hw : ty.wt T ≤ 1048576) (h : ty.tySh.rep w S cs T) :
    Calls Try.prog 49 #[.agg cs.toArray] w fun e w' => e = .returned (.map (some (w.heap.size + 1))) ∧ Below w.heap.size w w' ∧ ∃ D ks n, w'.ownsMap Try.prog 3 (plainElem Try.prog 3) (w.heap.size + 1) n D ∧ Keys D ks ∧ (∀ y, y ∈ ks ↔ y ∈ ty.varsL (ty.allT T)) ∧ w.heap.size + 1 < w'.heap.size := by
  refine (callsIn_wide (n := 6)).1 ?_
  have hmm := @run_makeMap Try.prog
  obtain ⟨v0, v1, v2, v3, rfl⟩ := ty.ty_list h
  have o0 := ty.tySh.one h v0 (by simp)
  have o1 := ty.tySh.one h v1 (by simp)
  have o2 := ty.tySh.one h v2 (by simp)
  have o3 := ty.tySh.one h v3 (by simp)
  have hle := ty.all_le T
  have HR : Hid _ := h
  have HS : Hid (∀ b, S b → b < w.heap.size) := hS
  have HP : Hid (∀ b, S b → Plain w b) := hP
  clear h hS hP
  refine callsIn_of_wp_marks Try.func49 rfl trivial ?_ rfl
  simp only [Try.ntmps49, List.size_toArray, List.length_cons, List.length_nil, Nat.reduceAdd, Nat.reduceSub, Array.replicate_succ, Array.replicate_zero, List.push_toArray, List.append_toArray, List.nil_append, List.cons_append]
  gi_wp2_with (refine ⟨trivial, ?_⟩; gi_at_call 72; refine (tysAmong_in _ _ _ rfl).mono ?_; rintro e w' ⟨rfl, rfl⟩)
  obtain ⟨WL, hWL⟩ : ∃ WL, WL = (((((w.alloc (.cells #[v0, v1, v2, v3] 29)).alloc (.map #[] 0)).alloc (.cells #[.map (some (w.heap.size + 1))] 75)).alloc (.cells #[v0, v1, v2, v3] 29)).alloc (.cells #[.slice (some ⟨w.heap.size + 3, 0, none⟩) 1 1] 27)).alloc (.cells #[.slice (some ⟨w.heap.size + 4, 0, none⟩) 1 1] 111) := ⟨_, rfl⟩
  obtain ⟨zL, bL, k1, k2, k3, k4, k5⟩ := six w _ _ _ _ _ _ WL hWL
  have m1 : WL.ownsMap (H := Unit) Try.prog 3 (plainElem Try.prog 3) (w.heap.size + 1) 0 (.map []) := by
    have := World.ownsMap_made (H := Unit) (w.alloc (.cells #[v0, v1, v2, v3] 29)) Try.prog 3 (plainElem Try.prog 3)
    simp only [World.size_alloc] at this
    rw [hWL]
    exact (((this.alloc _).alloc _).alloc _).alloc _
  rw [show w.heap.size + 1 + 1 + 1 = w.heap.size + 3 from rfl, show w.heap.size + 3 + 1 = w.heap.size + 4 from rfl, ← hWL]
  clear hWL
  have c2 : WL.cell? ⟨w.heap.size + 2, 0, none⟩ = some (.map (some (w.heap.size + 1))) := blk_cellT k2 rfl
  have hrepL : ty.tySh.slice.rep WL (fun b => S b ∨ b = w.heap.size + 3) [.slice (some ⟨w.heap.size + 3, 0, none⟩) 1 1] [T] := by
    refine ⟨some ⟨w.heap.size + 3, 0, none⟩, 1, fun _ => [v0, v1, v2, v3], rfl, Nat.le_refl _, by unfold maxLen; omega, (fun h => by cases h), fun i hi => ⟨w.heap.size + 3, 0, rfl, Or.inr rfl, fun j u hj => ?_⟩, fun i hi => ?_⟩
    · obtain rfl : i = 0 := by simpa using hi
      simp only [World.cell?, Nat.zero_mul, Nat.zero_add, k3]
      simpa using hj
    · obtain rfl : i = 0 := by simpa using hi
      exact ty.tySh.mono (ty.tySh.on HR.out fun b hb => bL.block b (HS.out b hb)) fun b hb => Or.inl hb
  have hsw : ∀ b, (S b ∨ b = w.heap.size + 3) → b < WL.heap.size := fun b hb => by
    rcases hb with hb | hb
    · have := HS.out b hb; omega
    · omega
  have hpl : ∀ b, (S b ∨ b = w.heap.size + 3) → Plain WL b := fun b hb => by
    rcases hb with hb | hb
    · exact (HP.out b hb).on (bL.block b (HS.out b hb))
    · rw [hb]; exact ⟨_, _, k3⟩
  have hall : allL [[T]] = withT T := by simp [allL, withS]
  have hlen : (allL [[T]]).length ≤ 1048577 := by rw [hall, withT_length]; omega
  have hstop := tysAmong_stops 5 (by omega) (w.heap.size + 5) (fun b => S b ∨ b = w.heap.size + 3) [[T]] ⟨w.heap.size + 4, 0, none⟩ 1 [.slice (some ⟨w.heap.size + 3, 0, none⟩) 1 1] WL (by omega) hsw hpl (blk_cellT k5 rfl) rfl (fun j u hj => by
      match j, hj with
      | 0, hj => simp at hj; subst hj; rw [add_plain]; exact blk_cellT k4 rfl
      | _ + 1, hj => simp at hj) (fun _ => by show w.heap.size + 4 < _; omega) (fun j hj u hu => by
      match j, hj, hu with
      | 0, hj, hu => simp at hu; subst hu; exact hrepL
      | _ + 1, hj, hu => simp at hj) (by simp only [List.length_singleton]; omega)
  refine wpIn_rangeFunc_Dx (n₀ := 0) (N := (allL [[T]]).length) rfl (by omega) (gf := 89) (lb := #[.pointer (some ⟨w.heap.size + 5, 0, none⟩)]) rfl trivial (enters_of Try.func89 (by kernel_rfl) rfl) (Nat.zero_le _)
    hstop (fun _ => rfl)
    (fun pre W => W.cell? ⟨w.heap.size + 2, 0, none⟩ = some (.map (some (w.heap.size + 1))) ∧ (∃ D, W.ownsMap Try.prog 3 (plainElem Try.prog 3) (w.heap.size + 1) pre.length D ∧ Keys D (once [] (ty.varsL (pre.map (·.T))))) ∧ Below w.heap.size w W ∧ W.heap[w.heap.size + 3]? = some (.cells #[v0, v1, v2, v3] 29))
    (fun _ _ _ => False)
    (fun s A B hs hb => ⟨(hb.cell (p := ⟨w.heap.size + 2, 0, none⟩) (by simp; omega)).trans hs.1, (by obtain ⟨D, h1, h2⟩ := hs.2.1; exact ⟨D, owns_below h1 hb (by omega), h2⟩), hs.2.2.1.trans (hb.mono (by omega)), (hb.block _ (by omega)).trans hs.2.2.2⟩)
    (fun _ _ _ _ hs _ => hs)
    ⟨c2, ⟨.map [], m1, Keys.made⟩, bL, k3⟩
    (fun pre W hi b hb => by
      rcases hb with hb | hb
      · exact (hi.2.2.1.block b (HS.out b hb)).trans (bL.block b (HS.out b hb)).symm
      · rw [hb]; exact hi.2.2.2.trans k3.symm)
    (fun x a' W => ∃ Bx, w.heap.size + 7 < Bx ∧ (W.cell? ⟨Bx, 0, none⟩ = some (.int .i64 x.T.x.1) ∧ W.cell? ⟨Bx, 1, none⟩ = some (.int .i64 x.T.x.2.1) ∧ W.cell? ⟨Bx, 2, none⟩ = some (.string x.T.x.2.2) ∧ W.cell? ⟨Bx, 3, none⟩ = some (.slice x.a x.T.kids.length x.c)) ∧
      a' = { tmps := #[.agg #[v0, v1, v2, v3], .pointer (some ⟨w.heap.size, 0, none⟩), .map none, .pointer (some ⟨w.heap.size + 2, 0, none⟩), .pointer (some ⟨Bx, 0, none⟩), .map (some (w.heap.size + 1)), .agg #[v0, v1, v2, v3], .slice (some ⟨w.heap.size + 3, 0, none⟩) 1 1, .slice (some ⟨w.heap.size + 4, 0, none⟩) 1 1, .func (.func 89) #[] #[.pointer (some ⟨w.heap.size + 5, 0, none⟩)], encT x, undef, undef, undef, undef, undef, undef, undef, undef, undef], defers := [] })
    (fun x a' A B hA hb => by
      obtain ⟨Bx, h1, h2, h3⟩ := hA
      have e : B.heap[Bx]? = A.heap[Bx]? := hb Bx (by omega)
      exact ⟨Bx, h1, ⟨(World.cell?_of_block (w := A) (a := ⟨Bx, 0, none⟩) e).trans h2.1, (World.cell?_of_block (w := A) (a := ⟨Bx, 1, none⟩) e).trans h2.2.1, (World.cell?_of_block (w := A) (a := ⟨Bx, 2, none⟩) e).trans h2.2.2.1, (World.cell?_of_block (w := A) (a := ⟨Bx, 3, none⟩) e).trans h2.2.2.2⟩, h3⟩) ?assign ?body ?done ?stop
  case assign =>
    intro l pre x W K hi hz hK
    simp only [encTs, encT]
    gi_wp2
    obtain ⟨hc, ⟨D, hD, hKs⟩, hB, h3⟩ := hi
    have hb : Below W.heap.size W (W.alloc (.cells #[.int .i64 x.T.x.1, .int .i64 x.T.x.2.1, .string x.T.x.2.2, .slice x.a x.T.kids.length x.c] 29)) := (Below.refl _ _).alloc (Nat.le_refl _) _
    refine hK _ _ (Kept.ofBelow hb (by omega)) ⟨(hb.cell (p := ⟨w.heap.size + 2, 0, none⟩) (by simp; omega)).trans hc, ⟨D, owns_below hD hb (by omega), hKs⟩, hB.trans (hb.mono (by omega)), (hb.block _ (by omega)).trans h3⟩ ⟨W.heap.size, by omega, ⟨?_, ?_, ?_, ?_⟩, rfl⟩
    all_goals simp
  case body =>
    rintro l pre x a' W ⟨hc, ⟨D, hown, hKs⟩, hB, h3⟩ hlen hz ⟨Bx, hBx, ⟨e0, e1, e2, e3⟩, rfl⟩
    have hkey : keyOf Try.prog 3 (.int .i64 x.T.x.2.1) = some (.int .i64 x.T.x.2.1) := keyOf_int_mk Try.underlying3 (wf64 (tpart_ok x))
    have HK : Hid _ := hKs
    have HX : Hid (Tidy D ∧ IsMap D) := ⟨hown.tidy intKey, hown.isMap⟩
    clear hKs
    by_cases hop : x.T.x.1 = 2
    · have hop' : (x.T.x.1 == 2) = true := by simp [hop]
      have HV : Hid (ty.varsL ((pre ++ [x]).map (·.T)) = ty.varsL (pre.map (·.T)) ++ [x.T.x.2.1]) := by
        show _ = _
        rw [List.map_append, List.map_cons, List.map_nil, ty.varsL_yes hop]
      gi_wp2_with (first
        | (gi_at_lookup; refine wpListIn_lookup_own_int _ rfl _ _ 75 rfl 3 3 .i64 intKey Try.underlying75 Try.underlying3 (zeroIntT _) (w.heap.size + 1) pre.length _ rfl hown _ _ rfl hkey ?_; intro c hat hwc)
        | (gi_at_mapUpdate; refine wpListIn_mapUpdate_own _ rfl _ _ _ 75 rfl 3 3 intKey Try.underlying75 _ (w.heap.size + 1) pre.length _ rfl hown (by unfold maxLen; omega) _ _ _ rfl rfl hkey _ [] (plainElem_int Try.underlying3 (wrap64_wf _)) ?_; intro w1 hown1 hgrow1))
      have hb1 : Below (w.heap.size + 1) W w1 := (Below.refl _ _).grown hgrow1 (by omega) (fun j hj => by cases hj; exact Nat.le_refl _)
      have hkp : Kept 0 (w.heap.size + 6) W w1 := ⟨hgrow1.size, fun j hj => absurd hj (Nat.not_lt_zero _), fun j h1 h2 => hgrow1.block j h2 (fun e => by have := Option.some.inj e; omega)⟩
      refine ⟨hkp, ?_, ?_, hB.trans (hb1.mono (by omega)), (hgrow1.block _ (by omega) (fun e => by have := Option.some.inj e; simp at this)).trans h3⟩
      · rw [World.cell?_of_block (w := W) (a := ⟨w.heap.size + 2, 0, none⟩) (hgrow1.block _ (by simp; omega) (fun e => by have := Option.some.inj e; simp at this))]
        exact hc
      · refine ⟨_, by rw [List.length_append]; exact hown1, ?_⟩
        rw [HV.out, once_snoc]
        split
        · rename_i hm
          exact HK.out.again HX.out.1 HX.out.2 hm _
        · rename_i hm
          exact HK.out.put HX.out.1 HX.out.2 hm _
    · have hop' : (x.T.x.1 == 2) = false := by simpa using hop
      have HV : Hid (ty.varsL ((pre ++ [x]).map (·.T)) = ty.varsL (pre.map (·.T))) := by
        show _ = _
        rw [List.map_append, List.map_cons, List.map_nil, ty.varsL_no hop]
      gi_wp2
      exact ⟨Kept.refl _ _ _, hc, ⟨D, hown.mono (by simp), by rw [HV.out]; exact HK.out⟩, hB, h3⟩
  case done =>
    rintro D ys W hD hS ⟨hc, ⟨Dm, hown, hKs⟩, hB, h3⟩ hK
    have hc' : W.cell? ⟨w.heap.size + 1 + 1, 0, none⟩ = some (.map (some (w.heap.size + 1))) := hc
    have hmem : ∀ y, y ∈ once [] (ty.varsL (ys.map (·.T))) ↔ y ∈ ty.varsL (ty.allT T) := fun y => by
      rw [mem_once]
      simp only [List.not_mem_nil, false_or]
      have e : ∀ l l' : List ty.TyD, (∀ t, t ∈ l ↔ t ∈ l') → (y ∈ ty.varsL l ↔ y ∈ ty.varsL l') := fun l l' h => by
        simp only [ty.varsL, List.mem_map, List.mem_filter, h]
      refine e _ _ fun t => ?_
      rw [hS t, hall]
      exact mem_with_all T t
    have HME : Hid _ := hmem
    clear hmem
    gi_wp2
    refine ⟨by simp, .inl ⟨_, _, rfl, run_takeDeferred hK, ?_⟩⟩
    have hp := put_below W (.deferred none) hK hD
    exact ⟨_, results_tmp rfl _ _ _, rfl, hB.trans (hp.mono (by omega)), Dm, _, _, owns_below hown hp (by omega), hKs, HME.out, by have := hp.size; have := hown.lt; omega⟩
  case stop =>
    rintro D c pre W _ _ h _
    exact h.elim

end Go.Proofs.Ytfekbchmgnpkaaa.tys
