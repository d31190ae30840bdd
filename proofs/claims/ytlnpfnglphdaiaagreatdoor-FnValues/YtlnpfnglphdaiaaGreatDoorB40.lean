/-
  The program's kidsByCon, at every list of datas: a new map that tells of each name how many types the first con of it has.
  The program's okValue, at every value and the map of kidsByCon: whether the value is right, its kids aside.
  A map from places to numbers: what a look-up and a store do, where each place lies in a row of cells that nothing froze.
-/
import Derived.Deep.QuietTactic
import Derived.BigQuiet
import Derived.LaidEqlPtr
import Derived.RangeFuncNested
import Derived.RangeFuncBound
import Derived.RangeFuncCalls
import Derived.MapKept
import Derived.Maps.OwnIn
import Derived.Test.YtlnpfnglphdaiaaGreatDoorB1
import Derived.Test.YtlnpfnglphdaiaaGreatDoorB2
import Derived.Test.YtlnpfnglphdaiaaGreatDoorB3
import Derived.Test.YtlnpfnglphdaiaaGreatDoorB4
import Derived.Test.YtlnpfnglphdaiaaGreatDoorB5
import Derived.Test.YtlnpfnglphdaiaaGreatDoorB6
import Derived.Test.YtlnpfnglphdaiaaGreatDoorB7
import Derived.Test.YtlnpfnglphdaiaaGreatDoorB8
import Derived.Test.YtlnpfnglphdaiaaGreatDoorB9
import Derived.Test.YtlnpfnglphdaiaaGreatDoorB10
import Derived.Test.YtlnpfnglphdaiaaGreatDoorB11
import Derived.Test.YtlnpfnglphdaiaaGreatDoorB12
import Derived.Test.YtlnpfnglphdaiaaGreatDoorB13
import Derived.Test.YtlnpfnglphdaiaaGreatDoorB14
import Derived.Test.YtlnpfnglphdaiaaGreatDoorB15
import Derived.Test.YtlnpfnglphdaiaaGreatDoorB16
import Derived.Test.YtlnpfnglphdaiaaGreatDoorB17
import Derived.Test.YtlnpfnglphdaiaaGreatDoorB18
import Derived.Test.YtlnpfnglphdaiaaGreatDoorB19
import Derived.Test.YtlnpfnglphdaiaaGreatDoorB20
import Derived.Test.YtlnpfnglphdaiaaGreatDoorB21
import Derived.Test.YtlnpfnglphdaiaaGreatDoorB22
import Derived.Test.YtlnpfnglphdaiaaGreatDoorB23
import Derived.Test.YtlnpfnglphdaiaaGreatDoorB24
import Derived.Test.YtlnpfnglphdaiaaGreatDoorB25
import Derived.Test.YtlnpfnglphdaiaaGreatDoorB26
import Derived.Test.YtlnpfnglphdaiaaGreatDoorB27
import Derived.Test.YtlnpfnglphdaiaaGreatDoorB28
import Derived.Test.YtlnpfnglphdaiaaGreatDoorB29
import Derived.Test.YtlnpfnglphdaiaaGreatDoorB30
import Derived.Test.YtlnpfnglphdaiaaGreatDoorB31
import Derived.Test.YtlnpfnglphdaiaaGreatDoorB32
import Derived.Test.YtlnpfnglphdaiaaGreatDoorB33
import Derived.Test.YtlnpfnglphdaiaaGreatDoorB34
import Derived.Test.YtlnpfnglphdaiaaGreatDoorB35
import Derived.Test.YtlnpfnglphdaiaaGreatDoorB36
import Derived.Test.YtlnpfnglphdaiaaGreatDoorB37
import Derived.Test.YtlnpfnglphdaiaaGreatDoorB38
import Derived.Test.YtlnpfnglphdaiaaGreatDoorB39
namespace Go.Proofs.YtlnpfnglphdaiaaGreatDoor.data
open Go Go.RowKit Go.Shelf Go.Maps Go.Proofs.YtlnpfnglphdaiaaGreatDoor.rose Go.Proofs.YtlnpfnglphdaiaaGreatDoor.rangeb Go.Proofs.YtlnpfnglphdaiaaGreatDoor
set_option linter.unusedVariables false
set_option linter.unusedSimpArgs false
attribute [local go_sem] Oper.semAt_some

def manyOf (l : List Spot) (s : ByteArray) : Nat := ((l.find? (named s)).map fun y => y.c.2.length).getD 0
/-- The map tells of each name how many types the first con of it has. -/
structure Arity (D : DataW Unit) (l : List Spot) : Prop where
  has : ∀ s, Maps.has D (kl s) = l.any (named s)
  at_ : ∀ s, D.atKey (kl s) (.lit (.int .i64 0)) = .lit (.int .i64 (manyOf l s : Nat))

theorem Arity.made : Arity (.map []) [] := ⟨fun s => by simp [Maps.has], fun s => by simp [DataW.atKey, manyOf]⟩
theorem manyOf_snoc (l : List Spot) (x : Spot) (s : ByteArray) : manyOf (l ++ [x]) s = if l.any (named s) = true then manyOf l s else if named s x = true then x.c.2.length else 0 := by
  unfold manyOf
  rw [List.find?_append]
  cases hf : l.find? (named s) with
  | none =>
    have hn : ¬ l.any (named s) = true := fun q => by
      obtain ⟨y, hy, hyn⟩ := List.any_eq_true.1 q
      exact absurd hyn (List.find?_eq_none.1 hf y hy)
    rw [if_neg hn]
    by_cases hx : named s x = true
    · simp [hx]
    · have : named s x = false := by simpa using hx
      simp [this]
  | some y =>
    have : l.any (named s) = true := List.any_eq_true.2 ⟨y, List.mem_of_find?_eq_some hf, List.find?_some hf⟩
    rw [if_pos this]
    rfl
theorem manyOf_none {l : List Spot} {s : ByteArray} (h : ¬ l.any (named s) = true) : manyOf l s = 0 := by
  unfold manyOf
  rw [List.find?_eq_none.2 fun y hy q => h (List.any_eq_true.2 ⟨y, hy, q⟩)]
  rfl
theorem Arity.keep {D : DataW Unit} {l : List Spot} (h : Arity D l) {x : Spot} (hx : l.any (named x.c.1) = true) : Arity D (l ++ [x]) := by
  have hsame : ∀ s, named s x = true → l.any (named s) = true := fun s hs => by
    obtain ⟨y, hy, hn⟩ := List.any_eq_true.1 hx
    refine List.any_eq_true.2 ⟨y, hy, ?_⟩
    unfold named at hn hs ⊢
    rw [beq_iff_eq] at hn hs ⊢
    exact hn.trans hs
  refine ⟨fun s => ?_, fun s => ?_⟩
  · rw [h.has, List.any_append]
    by_cases hs : named s x = true
    · rw [hsame s hs]; simp
    · have : named s x = false := by simpa using hs
      simp [this]
  · rw [h.at_, manyOf_snoc]
    by_cases ha : l.any (named s) = true
    · rw [if_pos ha]
    · rw [if_neg ha, if_neg fun hs => ha (hsame s hs), manyOf_none ha]
theorem Arity.put {D : DataW Unit} {l : List Spot} (h : Arity D l) (hM : IsMap D) (x : Spot) (hx : ¬ l.any (named x.c.1) = true) : Arity (D.put (kl x.c.1) (.lit (.int .i64 (x.c.2.length : Nat)))) (l ++ [x]) := by
  have hany : ∀ s, (l ++ [x]).any (named s) = (l.any (named s) || named s x) := fun s => by simp
  refine ⟨fun s => ?_, fun s => ?_⟩
  · rw [hany]
    by_cases e : named s x = true
    · rw [← kl_eq (s := x.c.1) (t := s) e, has_put_same hM (kl_key _), e]; simp
    · have e' : named s x = false := by simpa using e
      rw [has_put_other (fun q => kl_ne (s := x.c.1) (t := s) e' q.symm), h.has, e']; simp
  · rw [manyOf_snoc]
    by_cases e : named s x = true
    · have hns : ¬ l.any (named s) = true := fun q => hx (by
        obtain ⟨y, hy, hn⟩ := List.any_eq_true.1 q
        refine List.any_eq_true.2 ⟨y, hy, ?_⟩
        unfold named at hn e ⊢
        rw [beq_iff_eq] at hn e ⊢
        exact hn.trans e.symm)
      rw [← kl_eq (s := x.c.1) (t := s) e, atKey_put_same hM (kl_key _), if_neg hns, if_pos e]
    · have e' : named s x = false := by simpa using e
      rw [atKey_put_other (fun q => kl_ne (s := x.c.1) (t := s) e' q.symm), h.at_, if_neg e]
      by_cases ha : l.any (named s) = true
      · rw [if_pos ha]
      · rw [if_neg ha, manyOf_none ha]

set_option maxRecDepth 100000 in
set_option maxHeartbeats 4000000 in
theorem kidsByCon_any (ks : List DataD) (v : Value) (w : World) (hw : ks.length + wts ks ≤ 1048576) (h : dataSh.slice.rep w (· < w.heap.size) [v] ks) :
    Calls Tryz.prog 17 #[v] w fun e w' => e = .returned (.map (some w.heap.size)) ∧ Below w.heap.size w w' ∧ ∃ D n, w'.ownsMap Tryz.prog 9 (plainElem Tryz.prog 3) w.heap.size n D ∧ Arity D (spots 0 0 ks) := by
  refine (callsIn_wide (n := 5)).1 ?_
  have htl := total_le ks
  have hmm := @run_makeMap Tryz.prog
  have o0 := dataSh.slice.one h v (by simp)
  have HR : Hid _ := h
  clear h
  refine callsIn_of_wp_marks Tryz.func17 rfl trivial ?_ rfl
  simp only [Tryz.ntmps17, List.size_toArray, List.length_cons, List.length_nil, Nat.reduceAdd, Nat.reduceSub, Array.replicate_succ, Array.replicate_zero, List.push_toArray, List.append_toArray, List.nil_append, List.cons_append]
  gi_wp2_with (refine ⟨trivial, ?_⟩; gi_at_call 31; refine (consOf_in Fence.wide _ trivial rfl v _ o0).mono ?_; rintro e w' ⟨rfl, rfl⟩)
  obtain ⟨WL, hWL⟩ : ∃ WL, WL = ((w.alloc (.map #[] 0)).alloc (.cells #[.map (some w.heap.size)] 46)).alloc (.cells #[v] 28) := ⟨_, rfl⟩
  obtain ⟨zL, bL, k0, k1, k2⟩ := three w _ _ _ WL hWL
  have d1 := World.ownsMap_made (H := Unit) w Tryz.prog 9 (plainElem Tryz.prog 3)
  have m1 : WL.ownsMap (H := Unit) Tryz.prog 9 (plainElem Tryz.prog 3) w.heap.size 0 (.map []) := by rw [hWL]; exact (d1.alloc _).alloc _
  clear d1
  rw [← hWL]
  clear hWL
  refine wpIn_rangeFunc_Bx (n₀ := w.heap.size) (N := total ks) rfl (by omega) (gf := 51) (lb := #[.pointer (some ⟨w.heap.size + 2, 0, none⟩)]) rfl trivial (enters_of Tryz.func51 (by kernel_rfl) rfl) (by omega)
    (consOf_stops Fence.wide _ trivial rfl (by omega) (w.heap.size + 2) w.heap.size ks v WL (by omega) (by omega) (blk_cell k2 rfl) (dataSh.slice.below HR.out bL) hw) (fun _ => rfl)
    (fun (pre : List (CPart WL w.heap.size)) W => W.heap[w.heap.size + 1]? = some (.cells #[.map (some w.heap.size)] 46) ∧ (∃ D n, n ≤ pre.length ∧ W.ownsMap Tryz.prog 9 (plainElem Tryz.prog 3) w.heap.size n D ∧ Arity D (pre.map fun (y : CPart WL w.heap.size) => y.s)) ∧ Below w.heap.size w W)
    (fun c (pre : List (CPart WL w.heap.size)) W => False)
    (fun s A B hs hb => ⟨(hb.block _ (by omega)).trans hs.1, (by obtain ⟨D, n, h0, h1, h2⟩ := hs.2.1; exact ⟨D, n, h0, owns_low h1 hb (by omega), h2⟩), hs.2.2.trans (hb.mono (by omega))⟩)
    (fun c s A B hs hb => hs)
    ⟨k1, ⟨_, 0, Nat.le_refl _, m1, Arity.made⟩, bL⟩
    (fun x a' W => ∃ (By : Nat) (t0 t1 t2 t4 t6 t7 t8 t9 t10 t11 t12 t13 t14 t15 t16 t17 t18 t19 t20 t21 t22 t23 t24 t25 t26 t27 t28 : Value), w.heap.size + 4 < By ∧ W.heap[By]? = some (.cells #[.string x.s.c.1, .slice x.a x.s.c.2.length x.c] 86) ∧
      a' = { tmps := #[t0, t1, t2, .pointer (some ⟨w.heap.size + 1, 0, none⟩), t4, .pointer (some ⟨By, 0, none⟩), t6, t7, t8, t9, t10, t11, t12, t13, t14, t15, t16, t17, t18, t19, t20, t21, t22, t23, t24, t25, t26, t27, t28], defers := [] })
    (fun x a' A B hA hb => by
      obtain ⟨By, t0, t1, t2, t4, t6, t7, t8, t9, t10, t11, t12, t13, t14, t15, t16, t17, t18, t19, t20, t21, t22, t23, t24, t25, t26, t27, t28, h2, h4, h5⟩ := hA
      exact ⟨By, t0, t1, t2, t4, t6, t7, t8, t9, t10, t11, t12, t13, t14, t15, t16, t17, t18, t19, t20, t21, t22, t23, t24, t25, t26, t27, t28, h2, (hb By (by omega)).trans h4, h5⟩) ?assign ?body ?done ?stop
  case assign =>
    intro l pre x W K hi hz hK
    simp only [encs, encP, encC]
    gi_wp2
    obtain ⟨hc, ⟨D, n, hn, hD, hCn⟩, hB⟩ := hi
    have hb : Below W.heap.size W (W.alloc (.cells #[.string x.s.c.1, .slice x.a x.s.c.2.length x.c] 86)) := (Below.refl _ _).alloc (Nat.le_refl _) _
    exact hK _ _ (Kept.ofBelow hb (by omega)) ⟨(hb.block _ (by omega)).trans hc, ⟨D, n, hn, owns_low hD hb (by omega), hCn⟩, hB.trans (hb.mono (by omega))⟩ ⟨W.heap.size, _, _, _, _, _, _, _, _, _, _, _, _, _, _, _, _, _, _, _, _, _, _, _, _, _, _, _, by omega, alloc_top _ _, rfl⟩
  case body =>
    rintro l pre x a' W ⟨hc, ⟨D, n, hn, hD, hCn⟩, hB⟩ hlen hz ⟨By, t0, t1, t2, t4, t6, t7, t8, t9, t10, t11, t12, t13, t14, t15, t16, t17, t18, t19, t20, t21, t22, t23, t24, t25, t26, t27, t28, hBy, ey, rfl⟩
    have g0 := blk_cell ey (i := 0) rfl
    have g1 := blk_cell ey (i := 1) rfl
    have m0 := blk_cell hc (i := 0) rfl
    obtain ⟨f0, f1⟩ : x.s.c.1.size ≤ maxLen ∧ (x.s.c.2.length : Int) ≤ 9223372036854775807 := by
      obtain ⟨y0, y1, _, _, hT, hcs, f0, fk⟩ := con.con_open x.rep
      simp only [List.cons.injEq, Value.string.injEq, and_true] at hcs
      refine ⟨by rw [hcs.1]; exact f0, ?_⟩
      obtain ⟨_, _, _, e, h1, h2, -⟩ := fk
      have hl : x.s.c.2.length = y1.length := by rw [hT]
      unfold maxLen at h2
      omega
    have hkey : keyOf Tryz.prog 9 (.string x.s.c.1) = some (kl x.s.c.1) := WideMaps.keyOf_string_mk Tryz.underlying9 f0
    have HC : Hid _ := hc
    have EY : Hid _ := ey
    have HX : Hid (IsMap D) := hD.isMap
    have HCn : Hid (Arity D (pre.map fun (y : CPart WL w.heap.size) => y.s)) := hCn
    have hat := hCn.at_ x.s.c.1
    have hhas := hCn.has x.s.c.1
    obtain ⟨cnt, hcnt⟩ : ∃ cnt : Nat, cnt = manyOf (pre.map fun (y : CPart WL w.heap.size) => y.s) x.s.c.1 := ⟨_, rfl⟩
    rw [← hcnt] at hat
    clear hc ey hCn hcnt
    by_cases hx : (pre.map fun (y : CPart WL w.heap.size) => y.s).any (named x.s.c.1) = true
    · rw [hx] at hhas
      gi_wp2_with (first
        | (gi_at_lookup; refine lookup_ok_knownIn _ rfl _ _ 46 rfl 9 3 strKey Tryz.underlying46 Tryz.underlying3 (zeroInt _) w.heap.size n _ rfl hD _ _ rfl hkey (cnt : Int) hat true hhas ?_))
      refine ⟨Kept.ofBelow (Below.refl _ _) (by omega), HC.out, ⟨D, n, by rw [List.length_append]; omega, hD, ?_⟩, hB⟩
      rw [List.map_append, List.map_cons, List.map_nil]
      exact HCn.out.keep hx
    · have hx' : (pre.map fun (y : CPart WL w.heap.size) => y.s).any (named x.s.c.1) = false := by simpa using hx
      rw [hx'] at hhas
      have hval : plainElem (H := Unit) Tryz.prog 3 (.int .i64 (x.s.c.2.length : Nat)) = some (.lit (.int .i64 (x.s.c.2.length : Nat)), []) := plainElem_int Tryz.underlying3 (wfD (by omega))
      gi_wp2_with (first
        | (gi_at_lookup; refine lookup_ok_knownIn _ rfl _ _ 46 rfl 9 3 strKey Tryz.underlying46 Tryz.underlying3 (zeroInt _) w.heap.size n _ rfl hD _ _ rfl hkey (cnt : Int) hat false hhas ?_)
        | (gi_at_mapUpdate; refine wpListIn_mapUpdate_own _ rfl _ _ _ 46 rfl 9 3 strKey Tryz.underlying46 _ w.heap.size n _ rfl hD (by unfold maxLen; omega) _ _ _ rfl rfl hkey _ [] hval ?_; intro w1 hown1 hgrow1))
      have hb1 : Below w.heap.size W w1 := (Below.refl _ _).grown hgrow1 (by omega) (fun j hj => by cases hj; omega)
      have hkp : Kept w.heap.size WL.heap.size W w1 := ⟨hgrow1.size, fun j hj => hb1.block j hj, fun j h1 h2 => hgrow1.block j h2 (fun e => by have := Option.some.inj e; omega)⟩
      refine ⟨hkp, (hgrow1.block (w.heap.size + 1) (by omega) (fun e => by have := Option.some.inj e; omega)).trans HC.out, ⟨_, n + 1, by rw [List.length_append]; simp; omega, hown1, ?_⟩, hB.trans hb1⟩
      rw [List.map_append, List.map_cons, List.map_nil]
      exact HCn.out.put HX.out x.s hx
  case done =>
    rintro D ys W hD hS ⟨hc, ⟨M, n, -, hM, hA⟩, hB⟩ hK
    rw [hS] at hA
    have m0 := blk_cell hc (i := 0) rfl
    gi_wp2
    refine ⟨by simp, .inl ⟨_, _, rfl, run_takeDeferred hK, ?_⟩⟩
    refine ⟨.map (some w.heap.size), ?_, rfl, hB.trans (put_below _ _ hK (by omega)), M, n, ?_, hA⟩
    · simp [results, Tryz.f17, go_sem]
    · obtain ⟨es, clock, h1, r⟩ := hM
      exact ⟨es, clock, (World.putObj_heap_other (by
        intro e
        subst e
        rw [h1] at hK
        cases hK)).trans h1, r⟩
  case stop =>
    rintro D c pre W hD hpre hf hK
    exact absurd hf (by simp)

end Go.Proofs.YtlnpfnglphdaiaaGreatDoor.data

namespace Go.Proofs.YtlnpfnglphdaiaaGreatDoor.value
open Go Go.RowKit Go.Maps Go.Proofs.YtlnpfnglphdaiaaGreatDoor.rose Go.Proofs.YtlnpfnglphdaiaaGreatDoor
set_option linter.unusedVariables false
set_option linter.unusedSimpArgs false

theorem wordI_yes {n : Int} (h1 : -1073741824 ≤ n) (h2 : n ≤ 1073741823) : wordB n = true := by simp [wordB, h1, h2]
theorem wordI_no {n : Int} (h : ¬ (-1073741824 ≤ n ∧ n ≤ 1073741823)) : wordB n = false := by
  by_cases h1 : -1073741824 ≤ n
  · have : ¬ n ≤ 1073741823 := fun q => h ⟨h1, q⟩
    simp [wordB, h1, this]
  · simp [wordB, h1]
theorem implWordOk (n : Int) (w : World) : Calls Tryz.prog 52 #[.int .i64 n] w fun e w' => e = .returned (.bool (wordB n)) ∧ w' = w := by
  by_cases h1 : -1073741824 ≤ n
  · by_cases h2 : n ≤ 1073741823
    · have E : Hid (true = wordB n) := (wordI_yes h1 h2).symm
      go_enter Tryz.func52, Tryz.ntmps52
      go_wp2
      go_ret
      exact ⟨ret_b E.out, rfl⟩
    · have E : Hid (false = wordB n) := (wordI_no (by omega)).symm
      go_enter Tryz.func52, Tryz.ntmps52
      go_wp2
      go_ret
      exact ⟨ret_b E.out, rfl⟩
  · have E : Hid (false = wordB n) := (wordI_no (by omega)).symm
    go_enter Tryz.func52, Tryz.ntmps52
    go_wp2
    go_ret
    exact ⟨ret_b E.out, rfl⟩

theorem args_iff (ds : List DataD) (s : ByteArray) (m : Nat) : argsOf ds s = some m ↔ (data.spots 0 0 ds).any (data.named s) = true ∧ data.manyOf (data.spots 0 0 ds) s = m := by
  unfold argsOf data.manyOf
  cases hf : (data.spots 0 0 ds).find? (data.named s) with
  | none =>
    have : ¬ (data.spots 0 0 ds).any (data.named s) = true := fun q => by
      obtain ⟨y, hy, hyn⟩ := List.any_eq_true.1 q
      exact absurd hyn (List.find?_eq_none.1 hf y hy)
    simp [this]
  | some y =>
    have : (data.spots 0 0 ds).any (data.named s) = true := List.any_eq_true.2 ⟨y, List.mem_of_find?_eq_some hf, List.find?_some hf⟩
    simp [this]

theorem strI_no {s : ByteArray} (h : ¬ s = ⟨#[]⟩) : s.toList.isEmpty = false := by
  cases hs : s.toList with
  | nil => exact absurd (bytes_ext (by rw [hs, ByteArray.toList_eq])) h
  | cons a l => rfl

/-- A look-up whose answer is known. -/
theorem lookup_ok_known {P : Program} (w : World) {ops : Array Oper} {rest : List Oper} {o : Oper} {a : Act} {Q : Exit → Act → World → Prop}
    (hg : o.guard = none) (m x : Operand) (t : TypeId) (hop : o.op = Op.lookup t m x true)
    (k e : TypeId) (K : Keyed P k) (ht : P.underlying t = some (.map k e)) (he : P.underlying e = some (.int .i64)) (hz : (zeroValue e).run P w = .ok (.int .i64 0) w) (b n : Nat) (D : DataW Unit)
    (hm : a.eval m = .map (some b)) (hown : w.ownsMap P k (plainElem P e) b n D) (key : Value) (kl : Lit) (hx : a.eval x = key) (hkey : keyOf P k key = some kl) (c : Int) (hat : D.atKey kl (.lit (.int .i64 0)) = .lit (.int .i64 c)) (h : Bool) (hh : Maps.has D kl = h)
    (hK : wpList P ops Q rest (a.put o.dst (.tuple #[.int .i64 c, .bool h])) w) :
    wpList P ops Q (o :: rest) a w :=
  wpList_lookup_own_ok_int w hg m x t hop k e .i64 K ht he hz b n D hm hown key kl hx hkey fun c' h' _ => by
    rw [hat] at h'
    injection h' with h'
    injection h' with _ h'
    subst h' hh
    exact hK

theorem okI_1 {ds : List DataD} {n : Int} {s : ByteArray} {vs : List ValueD} : OkL ds (.mk (1, n, s) vs) ↔ wordB n = true ∧ s = ⟨#[]⟩ ∧ vs.length = 0 := by simp [OkL, Rose.x, Rose.kids]
theorem okI_3 {ds : List DataD} {n : Int} {s : ByteArray} {vs : List ValueD} : OkL ds (.mk (3, n, s) vs) ↔ n = 0 ∧ s = ⟨#[]⟩ ∧ vs.length = 0 := by simp [OkL, Rose.x, Rose.kids]
theorem okI_2 {ds : List DataD} {n : Int} {s : ByteArray} {vs : List ValueD} : OkL ds (.mk (2, n, s) vs) ↔ n = 0 ∧ argsOf ds s = some vs.length := by simp [OkL, Rose.x, Rose.kids]
theorem okI_no {ds : List DataD} {k n : Int} {s : ByteArray} {vs : List ValueD} (h1 : ¬ k = 1) (h2 : ¬ k = 2) (h3 : ¬ k = 3) : ¬ OkL ds (.mk (k, n, s) vs) := by simp [OkL, Rose.x, Rose.kids, h1, h2, h3]

/-- Whether it is right, kids aside. -/
noncomputable def locB (ds : List DataD) (V : ValueD) : Bool := @decide (OkL ds V) (Classical.propDecidable _)
theorem locB_true {ks : List DataD} {V : ValueD} (h : OkL ks V) : locB ks V = true := by unfold locB; exact @decide_eq_true _ (Classical.propDecidable _) h
theorem locB_false {ks : List DataD} {V : ValueD} (h : ¬ OkL ks V) : locB ks V = false := by unfold locB; exact @decide_eq_false _ (Classical.propDecidable _) h
theorem locB_iff {ks : List DataD} {V : ValueD} : locB ks V = true ↔ OkL ks V := by
  by_cases h : OkL ks V
  · simp [locB_true h, h]
  · simp [locB_false h, h]

set_option maxRecDepth 100000 in
set_option maxHeartbeats 4000000 in
theorem okValue_any (ds : List DataD) (x0 x1 : Int) (x2 : ByteArray) (ks : List ValueD) (a : Option Addr) (cap : Nat) (mb nm : Nat) (D : DataW Unit) (w : World) (hs : x2.size ≤ maxLen) (hn : (ks.length : Int) ≤ 9223372036854775807)
    (hM : w.ownsMap Tryz.prog 9 (plainElem Tryz.prog 3) mb nm D) (hA : data.Arity D (data.spots 0 0 ds)) :
    Calls Tryz.prog 32 #[.agg #[.int .i64 x0, .int .i64 x1, .string x2, .slice a ks.length cap], .map (some mb)] w fun e w' => e = .returned (.bool (locB ds (.mk (x0, x1, x2) ks))) ∧ Below w.heap.size w w' := by
  have B0 : Hid (Below w.heap.size w (w.alloc (.cells #[.int .i64 x0, .int .i64 x1, .string x2, .slice a ks.length cap] 26))) := (Below.refl _ _).alloc (Nat.le_refl _) _
  by_cases h1 : x0 = 1
  · subst h1
    have HO : Hid (∀ b : Bool, (b = true ↔ wordB x1 = true ∧ x2 = ⟨#[]⟩ ∧ ks.length = 0) → locB ds (.mk (1, x1, x2) ks) = b) := fun b hb => by
      have : locB ds (.mk (1, x1, x2) ks) = true ↔ b = true := locB_iff.trans (okI_1.trans hb.symm)
      cases b <;> simp_all
    have hcall := implWordOk x1 (w.alloc (.cells #[.int .i64 1, .int .i64 x1, .string x2, .slice a ks.length cap] 26))
    obtain ⟨wb, hwb⟩ : ∃ wb, wb = wordB x1 := ⟨_, rfl⟩
    rw [← hwb] at hcall
    have HWB : Hid (wb = wordB x1) := hwb
    clear hwb hM hA
    go_enter Tryz.func32, Tryz.ntmps32
    go_wp2_with fail
    refine hcall.mono ?_
    rintro e w1 ⟨rfl, rfl⟩
    clear hcall
    cases wb with
    | false =>
      have Q : Hid (locB ds (.mk (1, x1, x2) ks) = false) := HO.out false (by rw [← HWB.out]; simp)
      go_wp2
      go_ret
      exact ⟨ret_b Q.out.symm, B0.out⟩
    | true =>
      by_cases h2 : x2 = ⟨#[]⟩
      · subst h2
        by_cases h3 : ks.length = 0
        · have Q : Hid (locB ds (.mk (1, x1, ⟨#[]⟩) ks) = true) := HO.out true (by rw [← HWB.out]; simp [h3])
          have h4 : (ks.length : Int) = 0 := by omega
          go_wp2
          go_ret
          exact ⟨ret_b (by have q := Q.out; first | exact q.symm | (rw [q]; simp [h4]) | (rw [q]; simpa using h3)), (by first | exact B0.out | (have b := B0.out; rw [h3] at b; exact b))⟩
        · have Q : Hid (locB ds (.mk (1, x1, ⟨#[]⟩) ks) = false) := HO.out false (by rw [← HWB.out]; simpa using h3)
          have h4 : ¬ (ks.length : Int) = 0 := by omega
          go_wp2
          go_ret
          exact ⟨ret_b (by have q := Q.out; first | exact q.symm | (rw [q]; simpa using h4) | (rw [q]; simpa using h3)), B0.out⟩
      · have Q : Hid (locB ds (.mk (1, x1, x2) ks) = false) := HO.out false (by rw [← HWB.out]; simp [h2])
        have h4 := strI_no h2
        clear h2
        go_wp2
        go_ret
        exact ⟨ret_b Q.out.symm, B0.out⟩
  by_cases h3 : x0 = 3
  · subst h3
    clear hM hA
    have HO : Hid (∀ b : Bool, (b = true ↔ x1 = 0 ∧ x2 = ⟨#[]⟩ ∧ ks.length = 0) → locB ds (.mk (3, x1, x2) ks) = b) := fun b hb => by
      have : locB ds (.mk (3, x1, x2) ks) = true ↔ b = true := locB_iff.trans (okI_3.trans hb.symm)
      cases b <;> simp_all
    by_cases h0 : x1 = 0
    · subst h0
      by_cases h2 : x2 = ⟨#[]⟩
      · subst h2
        by_cases h3 : ks.length = 0
        · have Q : Hid (locB ds (.mk (3, 0, ⟨#[]⟩) ks) = true) := HO.out true (by simp [h3])
          have h4 : (ks.length : Int) = 0 := by omega
          go_enter Tryz.func32, Tryz.ntmps32
          go_wp2
          go_ret
          exact ⟨ret_b (by have q := Q.out; first | exact q.symm | (rw [q]; simp [h4]) | (rw [q]; simpa using h3)), (by first | exact B0.out | (have b := B0.out; rw [h3] at b; exact b))⟩
        · have Q : Hid (locB ds (.mk (3, 0, ⟨#[]⟩) ks) = false) := HO.out false (by simpa using h3)
          have h4 : ¬ (ks.length : Int) = 0 := by omega
          go_enter Tryz.func32, Tryz.ntmps32
          go_wp2
          go_ret
          exact ⟨ret_b (by have q := Q.out; first | exact q.symm | (rw [q]; simpa using h4) | (rw [q]; simpa using h3)), B0.out⟩
      · have Q : Hid (locB ds (.mk (3, 0, x2) ks) = false) := HO.out false (by simp [h2])
        have h4 := strI_no h2
        clear h2
        go_enter Tryz.func32, Tryz.ntmps32
        go_wp2
        go_ret
        exact ⟨ret_b Q.out.symm, B0.out⟩
    · have Q : Hid (locB ds (.mk (3, x1, x2) ks) = false) := HO.out false (by simp [h0])
      go_enter Tryz.func32, Tryz.ntmps32
      go_wp2
      go_ret
      exact ⟨ret_b Q.out.symm, B0.out⟩
  by_cases h2 : x0 = 2
  case neg =>
    have Q : Hid (locB ds (.mk (x0, x1, x2) ks) = false) := locB_false (okI_no h1 h2 h3)
    clear hM hA
    go_enter Tryz.func32, Tryz.ntmps32
    go_wp2
    go_ret
    exact ⟨ret_b Q.out.symm, B0.out⟩
  subst h2
  clear h1 h3
  have HO : Hid (∀ b : Bool, (b = true ↔ x1 = 0 ∧ argsOf ds x2 = some ks.length) → locB ds (.mk (2, x1, x2) ks) = b) := fun b hb => by
    have : locB ds (.mk (2, x1, x2) ks) = true ↔ b = true := locB_iff.trans (okI_2.trans hb.symm)
    cases b <;> simp_all
  have hkey : keyOf Tryz.prog 9 (.string x2) = some (data.kl x2) := WideMaps.keyOf_string_mk Tryz.underlying9 hs
  have hat := hA.at_ x2
  have hhas := hA.has x2
  have HI : Hid (∀ m, argsOf ds x2 = some m ↔ (data.spots 0 0 ds).any (data.named x2) = true ∧ data.manyOf (data.spots 0 0 ds) x2 = m) := args_iff ds x2
  obtain ⟨cnt, hcnt⟩ : ∃ cnt : Nat, cnt = data.manyOf (data.spots 0 0 ds) x2 := ⟨_, rfl⟩
  obtain ⟨any, hany⟩ : ∃ any, any = (data.spots 0 0 ds).any (data.named x2) := ⟨_, rfl⟩
  rw [← hcnt] at hat HI
  rw [← hany] at hhas HI
  have OW : Hid ((w.alloc (.cells #[.int .i64 2, .int .i64 x1, .string x2, .slice a ks.length cap] 26)).ownsMap Tryz.prog 9 (plainElem Tryz.prog 3) mb nm D) := hM.alloc _
  clear hcnt hany hM hA
  cases any with
  | false =>
    have Q : Hid (locB ds (.mk (2, x1, x2) ks) = false) := HO.out false (by rw [HI.out]; simp)
    go_enter Tryz.func32, Tryz.ntmps32
    go_wp2_with (first | (at_lookup; refine lookup_ok_known _ rfl _ _ 46 rfl 9 3 data.strKey Tryz.underlying46 Tryz.underlying3 (data.zeroInt _) mb nm _ rfl OW.out _ _ rfl hkey (cnt : Int) hat false hhas ?_) | go_in)
    go_ret
    exact ⟨ret_b Q.out.symm, B0.out⟩
  | true =>
    by_cases hl : cnt = ks.length
    · subst hl
      by_cases h0 : x1 = 0
      · subst h0
        have Q : Hid (locB ds (.mk (2, 0, x2) ks) = true) := HO.out true (by rw [HI.out]; simp)
        go_enter Tryz.func32, Tryz.ntmps32
        go_wp2_with (first | (at_lookup; refine lookup_ok_known _ rfl _ _ 46 rfl 9 3 data.strKey Tryz.underlying46 Tryz.underlying3 (data.zeroInt _) mb nm _ rfl OW.out _ _ rfl hkey _ hat true hhas ?_) | go_in)
        go_ret
        exact ⟨ret_b Q.out.symm, B0.out⟩
      · have Q : Hid (locB ds (.mk (2, x1, x2) ks) = false) := HO.out false (by simp [h0])
        have h0' : (x1 == 0) = false := by simpa using h0
        go_enter Tryz.func32, Tryz.ntmps32
        go_wp2_with (first | (at_lookup; refine lookup_ok_known _ rfl _ _ 46 rfl 9 3 data.strKey Tryz.underlying46 Tryz.underlying3 (data.zeroInt _) mb nm _ rfl OW.out _ _ rfl hkey _ hat true hhas ?_) | go_in)
        go_ret
        exact ⟨ret_b (by have q := Q.out; first | exact q.symm | (rw [q]; exact h0') | (rw [q]; simpa using h0)), B0.out⟩
    · have Q : Hid (locB ds (.mk (2, x1, x2) ks) = false) := HO.out false (by rw [HI.out]; simp [hl])
      have hl' : ((cnt : Int) == (ks.length : Int)) = false := by simp; omega
      have hl2 : ¬ (cnt : Int) = (ks.length : Int) := by omega
      go_enter Tryz.func32, Tryz.ntmps32
      go_wp2_with (first | (at_lookup; refine lookup_ok_known _ rfl _ _ 46 rfl 9 3 data.strKey Tryz.underlying46 Tryz.underlying3 (data.zeroInt _) mb nm _ rfl OW.out _ _ rfl hkey _ hat true hhas ?_) | go_in)
      go_ret
      exact ⟨ret_b Q.out.symm, B0.out⟩

end Go.Proofs.YtlnpfnglphdaiaaGreatDoor.value

namespace Go.Proofs.YtlnpfnglphdaiaaGreatDoor.rose
open Go Go.RowKit
set_option linter.unusedVariables false
set_option linter.unusedSimpArgs false

/-- Block b is a map with those entries. -/
def PMap (w : World) (b : Nat) (m : List (Addr × Int)) : Prop :=
  ∃ es clock, w.heap[b]? = some (.map es clock) ∧ es.toList.map (fun e => (e.key, e.val)) = m.map fun p => (Value.pointer (some p.1), Value.int .i64 p.2)

theorem PMap.made (w : World) : PMap (w.alloc (.map #[] 0)) w.heap.size [] := ⟨#[], 0, by show (w.heap.push _)[w.heap.size]? = _; simp, rfl⟩
theorem PMap.on {w w' : World} {b : Nat} {m : List (Addr × Int)} (h : PMap w b m) (hb : w'.heap[b]? = w.heap[b]?) : PMap w' b m := by
  obtain ⟨es, clock, h1, h2⟩ := h
  exact ⟨es, clock, hb.trans h1, h2⟩
theorem PMap.lt {w : World} {b : Nat} {m : List (Addr × Int)} (h : PMap w b m) : b < w.heap.size := by
  obtain ⟨es, clock, h1, -⟩ := h
  exact (Array.getElem?_eq_some_iff.1 h1).1

section
variable {P : Program} {w : World} {k e pe : TypeId}

theorem equal_ptr {i : TypeInfo} (hp : P.underlying k = some (.pointer pe)) (hte : P.info? pe = some i) (hsz : i.size ≠ 0) {a b : Addr} (ha : Plain w a.block) (hb : Plain w b.block) :
    (Op.equal k (.pointer (some a)) (.pointer (some b))).run P w = .ok (decide (a = b)) w := by
  obtain ⟨ca, ta, ha⟩ := ha
  obtain ⟨cb, tb, hb⟩ := hb
  have h : ∀ d : Nat, (Op.equalIn (d + 1) k (.pointer (some a)) (.pointer (some b))).run P w = .ok (decide (a = b)) w := fun d => by
    by_cases hab : a = b
    · subst hab
      simp [Op.equalIn, run_underlying hp, sizeOf, typeInfo, hte, run_sameAddr_same]
    · simp [Op.equalIn, run_underlying hp, sizeOf, typeInfo, hte, hsz, run_sameAddr_other w hab ha hb, hab]
  exact h 9999
theorem check_ptr (b : Bool) (hp : P.underlying k = some (.pointer pe)) (v : Value) : (Instr.checkKey b 10000 k v).run P w = .ok () w := by
  have h : ∀ d : Nat, (Instr.checkKey b (d + 1) k v).run P w = .ok () w := fun d => by
    simp [Instr.checkKey, run_underlying hp]
  exact h 9999

/-- The first entry at that place. -/
def seek (a : Addr) : List (Addr × Int) → Nat → Option (Nat × Int)
  | [], _ => none
  | p :: m, i => if a = p.1 then some (i, p.2) else seek a m (i + 1)

theorem run_seek {i : TypeInfo} (hp : P.underlying k = some (.pointer pe)) (hte : P.info? pe = some i) (hsz : i.size ≠ 0) {a : Addr} (ha : Plain w a.block) : ∀ (es : List MapEntry) (m : List (Addr × Int)) (n : Nat), es.map (fun e => (e.key, e.val)) = m.map (fun p => (Value.pointer (some p.1), Value.int .i64 p.2)) → (∀ p ∈ m, Plain w p.1.block) →
    (Instr.findAsking k (.pointer (some a)) es n).run P w = .ok ((seek a m n).map fun q => (q.1, Value.int .i64 q.2)) w
  | [], [], n, _, _ => by simp [Instr.findAsking, seek]
  | [], p :: m, n, h, _ => by simp at h
  | x :: es, [], n, h, _ => by simp at h
  | x :: es, p :: m, n, h, hm => by
    simp only [List.map_cons, List.cons.injEq, Prod.mk.injEq] at h
    obtain ⟨⟨h1, h2⟩, h3⟩ := h
    have he := equal_ptr (w := w) hp hte hsz ha (hm p (by simp))
    by_cases hap : a = p.1
    · simp [Instr.findAsking, h1, he, seek, hap, h2]
      rw [← hap] at he ⊢
      simp [he]
    · simp [Instr.findAsking, h1, he, seek, hap]
      exact run_seek hp hte hsz ha es m (n + 1) h3 fun q hq => hm q (by simp [hq])

theorem run_find {i : TypeInfo} (hp : P.underlying k = some (.pointer pe)) (hte : P.info? pe = some i) (hsz : i.size ≠ 0) {a : Addr} (ha : Plain w a.block) (es : List MapEntry) (m : List (Addr × Int)) (h : es.map (fun e => (e.key, e.val)) = m.map (fun p => (Value.pointer (some p.1), Value.int .i64 p.2))) (hm : ∀ p ∈ m, Plain w p.1.block) :
    (Instr.findKey k (.pointer (some a)) es).run P w = .ok ((seek a m 0).map fun q => (q.1, Value.int .i64 q.2)) w := by
  match es, m, h with
  | [], [], _ => simp [Instr.findKey, run_underlying hp, Instr.findNow, seek]
  | [], p :: m, h => simp at h
  | x :: es, [], h => simp at h
  | x :: es, p :: m, h =>
    have h1 := run_seek (w := w) hp hte hsz ha (x :: es) (p :: m) 0 h hm
    simp [Instr.findKey, run_underlying hp, Instr.findNow, Instr.sameNow, h1]

theorem seek_mem {a : Addr} : ∀ {m : List (Addr × Int)} {n : Nat} {q : Nat × Int}, seek a m n = some q → (a, q.2) ∈ m ∧ n ≤ q.1 ∧ m[q.1 - n]? = some (a, q.2)
  | [], n, q, h => by simp [seek] at h
  | p :: m, n, q, h => by
    unfold seek at h
    split at h
    · rename_i e
      cases h
      subst e
      simp
    · obtain ⟨h1, h2, h3⟩ := seek_mem h
      refine ⟨by simp [h1], by omega, ?_⟩
      rw [show q.1 - n = (q.1 - (n + 1)) + 1 by omega, List.getElem?_cons_succ]
      exact h3

/-- A LOOK-UP. -/
theorem PMap.look {t : TypeId} {i : TypeInfo} {b : Nat} {m : List (Addr × Int)} (h : PMap w b m) (ht : P.underlying t = some (.map k e)) (hp : P.underlying k = some (.pointer pe)) (hte : P.info? pe = some i) (hsz : i.size ≠ 0) (hz : (zeroValue e).run P w = .ok (.int .i64 0) w) {a : Addr} (ha : Plain w a.block) (hm : ∀ p ∈ m, Plain w p.1.block) :
    ∃ n : Int, (Instr.lookup t (.map (some b)) (.pointer (some a)) false).run P w = .ok (.int .i64 n) w ∧ (n = 0 ∨ (a, n) ∈ m) := by
  obtain ⟨es, clock, h1, h2⟩ := h
  have hf := run_find (w := w) hp hte hsz ha es.toList m h2 hm
  have hg : (getObj b).run P w = .ok (.map es clock) w := by simp [getObj, Sem.run, h1]
  cases hq : seek a m 0 with
  | none =>
    rw [hq] at hf
    refine ⟨0, ?_, .inl rfl⟩
    simp [Instr.lookup, run_underlying ht, hg, check_ptr _ hp, hf, hz]
  | some q =>
    rw [hq] at hf
    refine ⟨q.2, ?_, .inr (seek_mem hq).1⟩
    simp [Instr.lookup, run_underlying ht, hg, check_ptr _ hp, hf]

/-- A STORE. -/
theorem PMap.store {t : TypeId} {i : TypeInfo} {b : Nat} {m : List (Addr × Int)} (h : PMap w b m) (ht : P.underlying t = some (.map k e)) (hp : P.underlying k = some (.pointer pe)) (hte : P.info? pe = some i) (hsz : i.size ≠ 0) {a : Addr} (ha : Plain w a.block) (hm : ∀ p ∈ m, Plain w p.1.block) (n : Int) :
    ∃ w' m', (Instr.mapUpdate t (.map (some b)) (.pointer (some a)) (.int .i64 n)).run P w = .ok () w' ∧ PMap w' b m' ∧ (∀ p ∈ m', p ∈ m ∨ p = (a, n)) ∧ w.grownBy w' (some b) := by
  obtain ⟨es, clock, h1, h2⟩ := h
  have hf := run_find (w := w) hp hte hsz ha es.toList m h2 hm
  have hg : (getObj b).run P w = .ok (.map es clock) w := by simp [getObj, Sem.run, h1]
  have hb : b < w.heap.size := (Array.getElem?_eq_some_iff.1 h1).1
  have hs : ∀ o, (setObj b o).run P w = .ok () (w.putObj b o) := fun o => by simp [setObj, Sem.run, World.putObj, h1]
  cases hq : seek a m 0 with
  | none =>
    rw [hq] at hf
    refine ⟨w.putObj b (.map (es.push { key := .pointer (some a), val := .int .i64 n, born := clock }) (clock + 1)), m ++ [(a, n)], ?_, ⟨_, _, World.putObj_heap_same hb, ?_⟩, ?_, grownBy_putObj' w b _⟩
    · simp [Instr.mapUpdate, run_underlying ht, hg, check_ptr _ hp, hf, hs]
    · simp [h2]
    · intro p hp; simpa using hp
  | some q =>
    rw [hq] at hf
    obtain ⟨hmem, -, hget⟩ := seek_mem hq
    rw [Nat.sub_zero] at hget
    have hql : q.1 < m.length := (List.getElem?_eq_some_iff.1 hget).1
    have hel : es.toList.length = m.length := by have := congrArg List.length h2; simpa using this
    have hes : q.1 < es.size := by simpa using (by rw [← hel] at hql; simpa using hql : q.1 < es.size)
    have hkey : (es[q.1]).key = .pointer (some a) := by
      have := congrArg (fun l => l[q.1]?) h2
      simp only [List.getElem?_map, hget] at this
      rw [List.getElem?_eq_getElem (by simpa using hes)] at this
      simp at this
      exact this.1
    refine ⟨w.putObj b (.map (es.modify q.1 fun e => { e with key := .pointer (some a), val := .int .i64 n }) clock), m.set q.1 (a, n), ?_, ⟨_, _, World.putObj_heap_same hb, ?_⟩, ?_, grownBy_putObj' w b _⟩
    · simp [Instr.mapUpdate, run_underlying ht, hg, check_ptr _ hp, hf, hs, Instr.keyThatStays, hes, hkey, Instr.sameBits]
    · apply List.ext_getElem?
      intro j
      have hj := congrArg (fun l => l[j]?) h2
      simp only [List.getElem?_map] at hj ⊢
      simp only [Array.toList_modify, List.getElem?_modify, List.getElem?_set]
      by_cases e : q.1 = j
      · subst e
        simp [hql, hes]
      · simp [e]
        simpa using hj
    · intro p hp
      rcases List.mem_or_eq_of_mem_set hp with h | h
      · exact .inl h
      · exact .inr h
end

/-! ### At the operation, inside a fence -/
section
variable {F : Fence} {nF : Nat} {P : Program} {ops : Array Oper} {rest : List Oper} {o : Oper} {a : Act} {Q : Exit → Act → World → Prop}

theorem stepIn_plook {w : World} {K : Act → World → Prop} (m x : Operand) (t : TypeId) (hop : o.op = Op.lookup t m x false) (vm vx : Value) (hm : a.eval m = vm) (hx : a.eval x = vx) (v : Value) (hrun : (Instr.lookup t vm vx false).run P w = .ok v w)
    (hK : K (a.put o.dst v) w) : Oper.wpIn F nF P o a w K Q := by
  unfold Oper.wpIn
  refine ⟨by simp [Oper.about, hop], ?_⟩
  rw [Oper.semAt_plain F _ _ (by rw [hop]; intro c hc'; cases hc')]
  simp [execOp, hop, hm, hx, hrun, Result.andThen]
  exact hK
theorem wpListIn_pstore (w : World) (hg : o.guard = none) (m x v : Operand) (t : TypeId) (hop : o.op = Op.mapUpdate t m x v) (vm vx vv : Value) (hm : a.eval m = vm) (hx : a.eval x = vx) (hv : a.eval v = vv) (w' : World) (hrun : (Instr.mapUpdate t vm vx vv).run P w = .ok () w')
    (hK : wpListIn F nF P ops Q rest (a.put o.dst undef) w') : wpListIn F nF P ops Q (o :: rest) a w := by
  refine wpListIn_plain hg fun K' hK' => ?_
  unfold Oper.wpIn
  refine ⟨by simp [Oper.about, hop], ?_⟩
  rw [Oper.semAt_plain F _ _ (by rw [hop]; intro c hc'; cases hc')]
  simp [execOp, hop, hm, hx, hv, hrun, Result.andThen]
  exact hK' _ _ hK
end

end Go.Proofs.YtlnpfnglphdaiaaGreatDoor.rose
