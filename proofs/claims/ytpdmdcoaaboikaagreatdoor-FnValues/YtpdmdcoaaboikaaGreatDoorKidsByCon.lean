/-
  The program's kidsByCon, at every list of datas: a new map that tells of each name how many types the first con of it has.
-/
import Derived.Test.YtpdmdcoaaboikaaGreatDoorConsOfIn
import Derived.Test.YtpdmdcoaaboikaaGreatDoorStrMaps
namespace Go.Proofs.YtpdmdcoaaboikaaGreatDoor.data
open Go Go.RowKit Go.Shelf Go.Maps Go.Proofs.YtpdmdcoaaboikaaGreatDoor.rose Go.Proofs.YtpdmdcoaaboikaaGreatDoor.rangeb Go.Proofs.YtpdmdcoaaboikaaGreatDoor
set_option linter.unusedVariables false
set_option linter.unusedSimpArgs false
attribute [local go_sem] Oper.semAt_some

def manyOf (l : List Spot) (s : ByteArray) : Nat := ((l.find? (named s)).map fun y => y.c.2.length).getD 0
/-- The map tells of each name how many types the first con of it has. -/
structure Arity (D : DataW Unit) (l : List Spot) : Prop where
  has : ∀ s, Maps.has D (kl s) = l.any (named s)
  at_ : ∀ s, D.atKey (kl s) (.lit (.int .i64 0)) = .lit (.int .i64 (manyOf l s : Nat))

theorem Arity.made : Arity (.map []) [] := ⟨fun s => by simp [Maps.has], fun s => by simp [DataW.atKey, manyOf]⟩
theorem manyOf_snoc (l : List Spot) (x : Spot) (s : ByteArray) : manyOf (l ++ [x]) s = if l.any (named s) = true then manyOf l s else if named s x = true then x.c.2.length else 0 := by
  unfold manyOf
  rw [List.find?_append]
  cases hf : l.find? (named s) with
  | none =>
    have hn : ¬ l.any (named s) = true := fun q => by
      obtain ⟨y, hy, hyn⟩ := List.any_eq_true.1 q
      exact absurd hyn (List.find?_eq_none.1 hf y hy)
    rw [if_neg hn]
    by_cases hx : named s x = true
    · simp [hx]
    · have : named s x = false := by simpa using hx
      simp [this]
  | some y =>
    have : l.any (named s) = true := List.any_eq_true.2 ⟨y, List.mem_of_find?_eq_some hf, List.find?_some hf⟩
    rw [if_pos this]
    rfl
theorem manyOf_none {l : List Spot} {s : ByteArray} (h : ¬ l.any (named s) = true) : manyOf l s = 0 := by
  unfold manyOf
  rw [List.find?_eq_none.2 fun y hy q => h (List.any_eq_true.2 ⟨y, hy, q⟩)]
  rfl
theorem Arity.keep {D : DataW Unit} {l : List Spot} (h : Arity D l) {x : Spot} (hx : l.any (named x.c.1) = true) : Arity D (l ++ [x]) := by
  have hsame : ∀ s, named s x = true → l.any (named s) = true := fun s hs => by
    obtain ⟨y, hy, hn⟩ := List.any_eq_true.1 hx
    refine List.any_eq_true.2 ⟨y, hy, ?_⟩
    unfold named at hn hs ⊢
    rw [beq_iff_eq] at hn hs ⊢
    exact hn.trans hs
  refine ⟨fun s => ?_, fun s => ?_⟩
  · rw [h.has, List.any_append]
    by_cases hs : named s x = true
    · rw [hsame s hs]; simp
    · have : named s x = false := by simpa using hs
      simp [this]
  · rw [h.at_, manyOf_snoc]
    by_cases ha : l.any (named s) = true
    · rw [if_pos ha]
    · rw [if_neg ha, if_neg fun hs => ha (hsame s hs), manyOf_none ha]
theorem Arity.put {D : DataW Unit} {l : List Spot} (h : Arity D l) (hM : IsMap D) (x : Spot) (hx : ¬ l.any (named x.c.1) = true) : Arity (D.put (kl x.c.1) (.lit (.int .i64 (x.c.2.length : Nat)))) (l ++ [x]) := by
  have hany : ∀ s, (l ++ [x]).any (named s) = (l.any (named s) || named s x) := fun s => by simp
  refine ⟨fun s => ?_, fun s => ?_⟩
  · rw [hany]
    by_cases e : named s x = true
    · rw [← kl_eq (s := x.c.1) (t := s) e, has_put_same hM (kl_key _), e]; simp
    · have e' : named s x = false := by simpa using e
      rw [has_put_other (fun q => kl_ne (s := x.c.1) (t := s) e' q.symm), h.has, e']; simp
  · rw [manyOf_snoc]
    by_cases e : named s x = true
    · have hns : ¬ l.any (named s) = true := fun q => hx (by
        obtain ⟨y, hy, hn⟩ := List.any_eq_true.1 q
        refine List.any_eq_true.2 ⟨y, hy, ?_⟩
        unfold named at hn e ⊢
        rw [beq_iff_eq] at hn e ⊢
        exact hn.trans e.symm)
      rw [← kl_eq (s := x.c.1) (t := s) e, atKey_put_same hM (kl_key _), if_neg hns, if_pos e]
    · have e' : named s x = false := by simpa using e
      rw [atKey_put_other (fun q => kl_ne (s := x.c.1) (t := s) e' q.symm), h.at_, if_neg e]
      by_cases ha : l.any (named s) = true
      · rw [if_pos ha]
      · rw [if_neg ha, manyOf_none ha]

set_option maxRecDepth 100000 in
set_option maxHeartbeats 4000000 in
theorem kidsByCon_any (ks : List DataD) (v : Value) (w : World) (hw : ks.length + wts ks ≤ 1048576) (h : dataSh.slice.rep w (· < w.heap.size) [v] ks) :
    Calls Tryz.prog 17 #[v] w fun e w' => e = .returned (.map (some w.heap.size)) ∧ Below w.heap.size w w' ∧ ∃ D n, w'.ownsMap Tryz.prog 9 (plainElem Tryz.prog 3) w.heap.size n D ∧ Arity D (spots 0 0 ks) := by
  refine (callsIn_wide (n := 5)).1 ?_
  have htl := total_le ks
  have hmm := @run_makeMap Tryz.prog
  have o0 := dataSh.slice.one h v (by simp)
  have HR : Hid _ := h
  clear h
  refine callsIn_of_wp_marks Tryz.func17 rfl trivial ?_ rfl
  simp only [Tryz.ntmps17, List.size_toArray, List.length_cons, List.length_nil, Nat.reduceAdd, Nat.reduceSub, Array.replicate_succ, Array.replicate_zero, List.push_toArray, List.append_toArray, List.nil_append, List.cons_append]
  gi_wp2_with (refine ⟨trivial, ?_⟩; gi_at_call 31; refine (consOf_in Fence.wide _ trivial rfl v _ o0).mono ?_; rintro e w' ⟨rfl, rfl⟩)
  obtain ⟨WL, hWL⟩ : ∃ WL, WL = ((w.alloc (.map #[] 0)).alloc (.cells #[.map (some w.heap.size)] 46)).alloc (.cells #[v] 28) := ⟨_, rfl⟩
  obtain ⟨zL, bL, k0, k1, k2⟩ := three w _ _ _ WL hWL
  have d1 := World.ownsMap_made (H := Unit) w Tryz.prog 9 (plainElem Tryz.prog 3)
  have m1 : WL.ownsMap (H := Unit) Tryz.prog 9 (plainElem Tryz.prog 3) w.heap.size 0 (.map []) := by rw [hWL]; exact (d1.alloc _).alloc _
  clear d1
  rw [← hWL]
  clear hWL
  refine wpIn_rangeFunc_Bx (n₀ := w.heap.size) (N := total ks) rfl (by omega) (gf := 51) (lb := #[.pointer (some ⟨w.heap.size + 2, 0, none⟩)]) rfl trivial (enters_of Tryz.func51 (by kernel_rfl) rfl) (by omega)
    (consOf_stops Fence.wide _ trivial rfl (by omega) (w.heap.size + 2) w.heap.size ks v WL (by omega) (by omega) (blk_cell k2 rfl) (dataSh.slice.below HR.out bL) hw) (fun _ => rfl)
    (fun (pre : List (CPart WL w.heap.size)) W => W.heap[w.heap.size + 1]? = some (.cells #[.map (some w.heap.size)] 46) ∧ (∃ D n, n ≤ pre.length ∧ W.ownsMap Tryz.prog 9 (plainElem Tryz.prog 3) w.heap.size n D ∧ Arity D (pre.map fun (y : CPart WL w.heap.size) => y.s)) ∧ Below w.heap.size w W)
    (fun c (pre : List (CPart WL w.heap.size)) W => False)
    (fun s A B hs hb => ⟨(hb.block _ (by omega)).trans hs.1, (by obtain ⟨D, n, h0, h1, h2⟩ := hs.2.1; exact ⟨D, n, h0, owns_low h1 hb (by omega), h2⟩), hs.2.2.trans (hb.mono (by omega))⟩)
    (fun c s A B hs hb => hs)
    ⟨k1, ⟨_, 0, Nat.le_refl _, m1, Arity.made⟩, bL⟩
    (fun x a' W => ∃ (By : Nat) (t0 t1 t2 t4 t6 t7 t8 t9 t10 t11 t12 t13 t14 t15 t16 t17 t18 t19 t20 t21 t22 t23 t24 t25 t26 t27 t28 : Value), w.heap.size + 4 < By ∧ W.heap[By]? = some (.cells #[.string x.s.c.1, .slice x.a x.s.c.2.length x.c] 86) ∧
      a' = { tmps := #[t0, t1, t2, .pointer (some ⟨w.heap.size + 1, 0, none⟩), t4, .pointer (some ⟨By, 0, none⟩), t6, t7, t8, t9, t10, t11, t12, t13, t14, t15, t16, t17, t18, t19, t20, t21, t22, t23, t24, t25, t26, t27, t28], defers := [] })
    (fun x a' A B hA hb => by
      obtain ⟨By, t0, t1, t2, t4, t6, t7, t8, t9, t10, t11, t12, t13, t14, t15, t16, t17, t18, t19, t20, t21, t22, t23, t24, t25, t26, t27, t28, h2, h4, h5⟩ := hA
      exact ⟨By, t0, t1, t2, t4, t6, t7, t8, t9, t10, t11, t12, t13, t14, t15, t16, t17, t18, t19, t20, t21, t22, t23, t24, t25, t26, t27, t28, h2, (hb By (by omega)).trans h4, h5⟩) ?assign ?body ?done ?stop
  case assign =>
    intro l pre x W K hi hz hK
    simp only [encs, encP, encC]
    gi_wp2
    obtain ⟨hc, ⟨D, n, hn, hD, hCn⟩, hB⟩ := hi
    have hb : Below W.heap.size W (W.alloc (.cells #[.string x.s.c.1, .slice x.a x.s.c.2.length x.c] 86)) := (Below.refl _ _).alloc (Nat.le_refl _) _
    exact hK _ _ (Kept.ofBelow hb (by omega)) ⟨(hb.block _ (by omega)).trans hc, ⟨D, n, hn, owns_low hD hb (by omega), hCn⟩, hB.trans (hb.mono (by omega))⟩ ⟨W.heap.size, _, _, _, _, _, _, _, _, _, _, _, _, _, _, _, _, _, _, _, _, _, _, _, _, _, _, _, by omega, alloc_top _ _, rfl⟩
  case body =>
    rintro l pre x a' W ⟨hc, ⟨D, n, hn, hD, hCn⟩, hB⟩ hlen hz ⟨By, t0, t1, t2, t4, t6, t7, t8, t9, t10, t11, t12, t13, t14, t15, t16, t17, t18, t19, t20, t21, t22, t23, t24, t25, t26, t27, t28, hBy, ey, rfl⟩
    have g0 := blk_cell ey (i := 0) rfl
    have g1 := blk_cell ey (i := 1) rfl
    have m0 := blk_cell hc (i := 0) rfl
    obtain ⟨f0, f1⟩ : x.s.c.1.size ≤ maxLen ∧ (x.s.c.2.length : Int) ≤ 9223372036854775807 := by
      obtain ⟨y0, y1, _, _, hT, hcs, f0, fk⟩ := con.con_open x.rep
      simp only [List.cons.injEq, Value.string.injEq, and_true] at hcs
      refine ⟨by rw [hcs.1]; exact f0, ?_⟩
      obtain ⟨_, _, _, e, h1, h2, -⟩ := fk
      have hl : x.s.c.2.length = y1.length := by rw [hT]
      unfold maxLen at h2
      omega
    have hkey : keyOf Tryz.prog 9 (.string x.s.c.1) = some (kl x.s.c.1) := WideMaps.keyOf_string_mk Tryz.underlying9 f0
    have HC : Hid _ := hc
    have EY : Hid _ := ey
    have HX : Hid (IsMap D) := hD.isMap
    have HCn : Hid (Arity D (pre.map fun (y : CPart WL w.heap.size) => y.s)) := hCn
    have hat := hCn.at_ x.s.c.1
    have hhas := hCn.has x.s.c.1
    obtain ⟨cnt, hcnt⟩ : ∃ cnt : Nat, cnt = manyOf (pre.map fun (y : CPart WL w.heap.size) => y.s) x.s.c.1 := ⟨_, rfl⟩
    rw [← hcnt] at hat
    clear hc ey hCn hcnt
    by_cases hx : (pre.map fun (y : CPart WL w.heap.size) => y.s).any (named x.s.c.1) = true
    · rw [hx] at hhas
      gi_wp2_with (first
        | (gi_at_lookup; refine lookup_ok_knownIn _ rfl _ _ 46 rfl 9 3 strKey Tryz.underlying46 Tryz.underlying3 (zeroInt _) w.heap.size n _ rfl hD _ _ rfl hkey (cnt : Int) hat true hhas ?_))
      refine ⟨Kept.ofBelow (Below.refl _ _) (by omega), HC.out, ⟨D, n, by rw [List.length_append]; omega, hD, ?_⟩, hB⟩
      rw [List.map_append, List.map_cons, List.map_nil]
      exact HCn.out.keep hx
    · have hx' : (pre.map fun (y : CPart WL w.heap.size) => y.s).any (named x.s.c.1) = false := by simpa using hx
      rw [hx'] at hhas
      have hval : plainElem (H := Unit) Tryz.prog 3 (.int .i64 (x.s.c.2.length : Nat)) = some (.lit (.int .i64 (x.s.c.2.length : Nat)), []) := plainElem_int Tryz.underlying3 (wfD (by omega))
      gi_wp2_with (first
        | (gi_at_lookup; refine lookup_ok_knownIn _ rfl _ _ 46 rfl 9 3 strKey Tryz.underlying46 Tryz.underlying3 (zeroInt _) w.heap.size n _ rfl hD _ _ rfl hkey (cnt : Int) hat false hhas ?_)
        | (gi_at_mapUpdate; refine wpListIn_mapUpdate_own _ rfl _ _ _ 46 rfl 9 3 strKey Tryz.underlying46 _ w.heap.size n _ rfl hD (by unfold maxLen; omega) _ _ _ rfl rfl hkey _ [] hval ?_; intro w1 hown1 hgrow1))
      have hb1 : Below w.heap.size W w1 := (Below.refl _ _).grown hgrow1 (by omega) (fun j hj => by cases hj; omega)
      have hkp : Kept w.heap.size WL.heap.size W w1 := ⟨hgrow1.size, fun j hj => hb1.block j hj, fun j h1 h2 => hgrow1.block j h2 (fun e => by have := Option.some.inj e; omega)⟩
      refine ⟨hkp, (hgrow1.block (w.heap.size + 1) (by omega) (fun e => by have := Option.some.inj e; omega)).trans HC.out, ⟨_, n + 1, by rw [List.length_append]; simp; omega, hown1, ?_⟩, hB.trans hb1⟩
      rw [List.map_append, List.map_cons, List.map_nil]
      exact HCn.out.put HX.out x.s hx
  case done =>
    rintro D ys W hD hS ⟨hc, ⟨M, n, -, hM, hA⟩, hB⟩ hK
    rw [hS] at hA
    have m0 := blk_cell hc (i := 0) rfl
    gi_wp2
    refine ⟨by simp, .inl ⟨_, _, rfl, run_takeDeferred hK, ?_⟩⟩
    refine ⟨.map (some w.heap.size), ?_, rfl, hB.trans (put_below _ _ hK (by omega)), M, n, ?_, hA⟩
    · simp [results, Tryz.f17, go_sem]
    · obtain ⟨es, clock, h1, r⟩ := hM
      exact ⟨es, clock, (World.putObj_heap_other (by
        intro e
        subst e
        rw [h1] at hK
        cases hK)).trans h1, r⟩
  case stop =>
    rintro D c pre W hD hpre hf hK
    exact absurd hf (by simp)

end Go.Proofs.YtpdmdcoaaboikaaGreatDoor.data
