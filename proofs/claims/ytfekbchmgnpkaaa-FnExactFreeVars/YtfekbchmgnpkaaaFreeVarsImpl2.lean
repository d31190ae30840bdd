/-
  The program's FreeVars, at every type in blocks that nothing froze: its vars, ascending, each one time, in new memory; nothing that was there is turned.
-/
import Derived.Test.YtfekbchmgnpkaaaFreeVarsPure
import Derived.Test.YtfekbchmgnpkaaaVarsOf2
import Derived.Test.YtfekbchmgnpkaaaSortShelf
import Derived.Maps.RangeWalk
import Derived.Sort.OwnSortedInts
namespace Go.Proofs.Ytfekbchmgnpkaaa.ints
open Go.RowKit Go.Maps Go.Proofs.Ytfekbchmgnpkaaa.rose Go.Proofs.Ytfekbchmgnpkaaa.keys Go.Proofs.Ytfekbchmgnpkaaa
set_option linter.unusedVariables false
set_option linter.unusedSimpArgs false

theorem wfR {x : Int} (h : (Lit.int .i64 x).wf = true) : InR x := by
  have := bounds_i64 h
  exact ⟨by omega, by omega⟩

theorem nodup_le {a b : List Int} (h : a.Nodup) (hs : ∀ x ∈ a, x ∈ b) : a.length ≤ b.length := by
  induction a generalizing b with
  | nil => simp
  | cons x xs ih =>
    rw [List.nodup_cons] at h
    have hx := hs x (by simp)
    have := ih (b := b.erase x) h.2 fun y hy => (List.mem_erase_of_ne (fun e : y = x => h.1 (e ▸ hy))).2 (hs y (by simp [hy]))
    rw [List.length_erase_of_mem hx] at this
    have : 0 < b.length := List.length_pos_of_mem hx
    simp; omega

set_option maxRecDepth 100000 in
set_option maxHeartbeats 4000000 in
theorem implFreeVars (T : ty.TyD) (cs : List Value) (w : World) (S : Nat → Prop) (hS : ∀ b, S b → b < w.heap.size) (hP : ∀ b, S b → Plain w b) (hw : ty.wt T ≤ 1048576) (h : ty.tySh.rep w S cs T) :
    Calls Try.prog 22 #[.agg cs.toArray] w fun e w' => (∃ v', e = .returned v' ∧ IRow w' w.heap.size v' (vrs T [])) ∧ Below w.heap.size w w' := by
  obtain ⟨ti, hti⟩ := int_info
  have TI : Hid (Try.prog.info? 3 = some ti ∧ ti.zero = some (.int .i64 0) ∧ ti.size = 1 ∧ ti.bytes = 8) := hti
  clear hti
  obtain ⟨v0, v1, v2, v3, rfl⟩ := ty.ty_list h
  have o0 := ty.tySh.one h v0 (by simp)
  have o1 := ty.tySh.one h v1 (by simp)
  have o2 := ty.tySh.one h v2 (by simp)
  have o3 := ty.tySh.one h v3 (by simp)
  have HR : Hid (ty.tySh.rep w S [v0, v1, v2, v3] T) := h
  have HS : Hid (∀ b, S b → b < w.heap.size) := hS
  have HP : Hid (∀ b, S b → Plain w b) := hP
  have HL : Hid ((ty.varsL (ty.allT T)).length ≤ 1048577) := by
    have h1 := ty.all_le T
    have h2 : (ty.varsL (ty.allT T)).length ≤ (ty.allT T).length := by unfold ty.varsL; rw [List.length_map]; exact List.length_filter_le _ _
    show _ ≤ _
    omega
  clear h hS hP
  go_enter Try.func22, Try.ntmps22
  go_wp2_with fail
  have BA : Below w.heap.size w (w.alloc (.cells #[v0, v1, v2, v3] 29)) := (Below.refl _ _).alloc (Nat.le_refl _) _
  refine (tys.varsOf_any T _ _ S (fun b hb => Nat.lt_of_lt_of_le (HS.out b hb) BA.size) (fun b hb => (HP.out b hb).on (BA.block b (HS.out b hb))) hw (ty.tySh.on HR.out fun b hb => BA.block b (HS.out b hb))).mono ?_
  rintro e w3 ⟨rfl, hb, D2, ks2, n2, hD2, hKD2, hks2, hlt3⟩
  have hsz : (w.alloc (.cells #[v0, v1, v2, v3] 29)).heap.size = w.heap.size + 1 := by simp
  rw [hsz] at hD2 hlt3 hb
  have B3 : Hid (Below w.heap.size w w3) := BA.trans (hb.mono (by omega))
  have OD2 : Hid (w3.ownsMap Try.prog 3 (plainElem Try.prog 3) (w.heap.size + 1 + 1) n2 D2) := hD2
  have KD2 : Hid (Keys D2 ks2) := hKD2
  have KS2 : Hid (∀ y, y ∈ ks2 ↔ y ∈ ty.varsL (ty.allT T)) := hks2
  have HL3 : Hid (w.heap.size + 1 + 1 < w3.heap.size) := hlt3
  clear hb hD2 hKD2 hks2 hlt3 BA hsz
  go_wp2_with (first
    | (at_range; refine wpList_range_own _ rfl _ 75 rfl 3 3 tys.intKey Try.underlying75 _ (w.heap.size + 1 + 1) _ _ rfl OD2.out ?_; intro w4 hrg4 hg4 hs4)
    | go_in)
  go_frame
  have B4 : Hid (Below w.heap.size w w4) := B3.out.grown hg4 B3.out.size (fun j hj => by cases hj)
  have R4 : Hid (w4.ranges Try.prog 3 (plainElem Try.prog 3) (w.heap.size + 1 + 1) w3.heap.size n2 D2 _ _) := hrg4
  have Z4 : Hid (w3.heap.size < w4.heap.size) := by show _ < _; omega
  clear hrg4 hs4 hg4 B3
  go_loopw [3] (fun v3 wi => ∃ (left : Lit → Bool) (cnt : Nat) (done : List Int), wi.ranges Try.prog 3 (plainElem Try.prog 3) (w.heap.size + 1 + 1) w3.heap.size n2 D2 left cnt ∧
      Hid ((∀ x : Int, Maps.has D2 (.int .i64 x) = true → left (.int .i64 x) = true ∨ x ∈ done) ∧ (∀ x ∈ done, x ∈ ty.varsL (ty.allT T) ∧ left (.int .i64 x) = false) ∧ done.Nodup ∧ IRow wi w4.heap.size v3 done ∧ Below w.heap.size w wi ∧ w4.heap.size ≤ wi.heap.size))
    (fun _ wi => wi.rangeLeft (w.heap.size + 1 + 1) w3.heap.size)
  case atStart =>
    exact ⟨_, _, [], R4.out, fun x hx => Or.inl hx, by simp, List.nodup_nil, IRow.nil _ _, B4.out, Nat.le_refl _⟩
  case round =>
    obtain ⟨left, cnt, done, hrg, HJ⟩ := hrel
    rename World => wi
    go_wp2_with (first
      | (at_next; refine wpList_next_ranges_ii _ rfl _ rfl 3 3 .i64 .i64 tys.intKey Try.underlying3 Try.underlying3 (w.heap.size + 1 + 1) w3.heap.size _ _ _ _ rfl hrg ?_ ?_)
      | go_in)
    · intro hc0 hl0
      have hfin : Hid ((done.mergeSort fun x y => decide (x ≤ y)) = vrs T []) := sorted_vars HJ.out.2.2.1 fun x => ⟨fun hx => (HJ.out.2.1 x hx).1, fun hx => by
        rcases HJ.out.1 x (by rw [KD2.out.has]; exact decide_eq_true ((KS2.out x).2 hx)) with h2 | h2
        · rw [hl0] at h2; cases h2
        · exact h2⟩
      have IR : Hid (IRow wi w4.heap.size u3 done) := HJ.out.2.2.2.1
      have BI : Hid (Below w.heap.size w wi) := HJ.out.2.2.2.2.1
      have hdl : done.length ≤ 1048577 := by
        have := nodup_le HJ.out.2.2.1 fun x hx => (HJ.out.2.1 x hx).1
        have := HL.out
        omega
      have Z5 : Hid (w.heap.size ≤ w4.heap.size) := B4.out.size
      clear HJ hrg hc0 hl0
      rcases IR.out.1.2 with ⟨rfl, hd0⟩ | ⟨g, cap, cur, rfl, hg1, hg2, hg3, hg4, hg5, hg6⟩
      · have hdn : done = [] := List.eq_nil_of_length_eq_zero hd0
        subst hdn
        have hq : Hid (vrs T [] = []) := by show _ = _; rw [← hfin.out]; simp
        go_wp2_with (go_at_call 50; refine (Try.slices_Sort_int_none none 0 wi).mono ?_; rintro e w6 ⟨rfl, rfl⟩)
        go_ret
        refine ⟨⟨_, rfl, ?_⟩, BI.out⟩
        rw [hq.out]
        exact IRow.nil _ _
      · have hgl : g < wi.heap.size := (Array.getElem?_eq_some_iff.1 hg2).1
        have hH := holds_of_blockI hg2 (by simpa using hg6)
        have IRR : Hid (∀ x ∈ done, InR x) := IR.out.2
        have HB6 : Hid (w4.heap.size ≤ g ∧ wi.heap[g]? = some (.cells cur 3) ∧ done.length ≤ cap ∧ cap ≤ maxLen ∧ cur.size = cap * 1) := ⟨hg1, hg2, hg3, hg4, hg5⟩
        have hcall := Try.slices_Sort_int g 0 cap done wi hH hgl (by omega)
        clear hg1 hg2 hg3 hg4 hg5 hg6 hH IR hgl
        go_wp2_with (go_at_call 50; refine hcall.mono ?_; rintro e w6 ⟨rfl, n6, os6, hw6⟩; have HW6 : Hid (w6 = Sort.grow (Sort.putRow (Value.int .i64) (Sort.ahead wi n6) g 0 (done.mergeSort fun x y => decide (x ≤ y)).toArray) os6) := hw6; clear hw6 hcall)
        go_ret
        obtain ⟨q1, q2, q3, q4, q5⟩ := HB6.out
        have hl6 : (done.mergeSort fun x y => decide (x ≤ y)).length = done.length := List.length_mergeSort _
        have own := ownsRow_sortedI (w := wi) (base := w4.heap.size) (g := g) (cap := cap) (n := n6) (e := 3) (os := os6) (cur := cur) (ss := done) (ts := done.mergeSort fun x y => decide (x ≤ y)) hl6 q1 q2 q3 q4 q5
        have grw := grownBy_sortedI (w := wi) (g := g) (n := n6) (os := os6) (done.mergeSort fun x y => decide (x ≤ y)).toArray
        rw [← HW6.out] at own grw
        refine ⟨⟨_, rfl, ?_⟩, BI.out.grown grw BI.out.size (fun k hk => by cases hk; have := Z5.out; omega)⟩
        rw [← hfin.out]
        refine ⟨?_, fun x hx => IRR.out x ((List.mergeSort_perm done _).mem_iff.1 hx)⟩
        rw [hl6]
        exact own_less own Z5.out
    · intro x c w1 cnt1 hwx hwc hlx hat hrg1 hlt1 hg1 hs1 hen
      have hx2 : x ∈ ty.varsL (ty.allT T) := by
        have h1 := has_true_of_atKey hat
        rw [KD2.out.has] at h1
        exact (KS2.out x).1 (of_decide_eq_true h1)
      have hxd : x ∉ done := fun hx => by have := (HJ.out.2.1 x hx).2; rw [hlx] at this; cases this
      have hI1 : IRow w1 w4.heap.size u3 done := by
        refine ⟨HJ.out.2.2.2.1.1.kept hg1 ?_, HJ.out.2.2.2.1.2⟩
        by_cases he : u3.ownBlock = none
        · exact Or.inl he
        · right
          intro e
          have := HJ.out.2.2.2.1.lt w3.heap.size e
          have := Z4.out
          omega
      have hdl : done.length + 1 ≤ 1048577 := by
        have := nodup_le (a := x :: done) (b := ty.varsL (ty.allT T)) (List.nodup_cons.2 ⟨hxd, HJ.out.2.2.1⟩) (fun y hy => by
          rcases List.mem_cons.1 hy with rfl | hy
          · exact hx2
          · exact (HJ.out.2.1 y hy).1)
        have := HL.out
        simp at *
        omega
      have hs4 : w4.heap.size ≤ w1.heap.size := Nat.le_trans HJ.out.2.2.2.2.2 hg1.size
      have II : Hid (IRow w1 w4.heap.size u3 done) := hI1
      have HX : Hid (InR x) := wfR hwx
      have HD : Hid (x ∉ done ∧ x ∈ ty.varsL (ty.allT T)) := ⟨hxd, hx2⟩
      have RG : Hid (w1.ranges Try.prog 3 (plainElem Try.prog 3) (w.heap.size + 1 + 1) w3.heap.size n2 D2 _ cnt1) := hrg1
      have BW1 : Hid (Below w.heap.size w w1) := HJ.out.2.2.2.2.1.grown hg1 HJ.out.2.2.2.2.1.size (fun j hj => by cases hj; have := B4.out.size; have := HL3.out; omega)
      clear hxd hx2 hI1 hg1 hs1
      go_wp2_with (first
        | (at_builtin; refine wpList_append_own _ rfl (.tmp 12) (.tmp 14) 41 rfl w4.heap.size 3 ti _ 1 8 Try.underlying41 TI.out.1 TI.out.2.1 TI.out.2.2.1 TI.out.2.2.2 rfl (by decide) _ _ _ rfl (II.out.1.alloc _) ⟨w1.heap.size, 0, none⟩ 1 1 [.int .i64 x] rfl rfl (one_cell w1 x) (one_one x) (by unfold maxLen; omega) (by omega) (by simp; omega) ?_; intro v5 w5 o5 g5 n5)
        | go_in)
      have hrow : ∀ k, u3.ownBlock = some k → w4.heap.size ≤ k := fun k hk => (II.out.lt k hk).1
      have hrg5 := (RG.out.kept (World.grownBy_alloc w1 (.cells #[.int .i64 x] 3) none) (by simp) (by simp)).kept g5 (fun e => by have := hrow _ e.symm; have := HL3.out; have := Z4.out; omega) (fun e => by have := hrow _ e.symm; have := Z4.out; omega)
      refine ⟨⟨_, cnt1, done ++ [x], hrg5, fun y hy => ?_, fun y hy => ?_, ?_, ?_, ?_, ?_⟩, ?_⟩
      · by_cases e : y = x
        · exact Or.inr (by simp [e])
        · rcases HJ.out.1 y hy with h1 | h1
          · exact Or.inl (by simp [h1, sameKey_ne (lit_ne e)])
          · exact Or.inr (by simp [h1])
      · rcases List.mem_append.1 hy with h1 | h1
        · refine ⟨(HJ.out.2.1 y h1).1, ?_⟩
          have := (HJ.out.2.1 y h1).2
          simp [this]
        · simp at h1; subst h1
          exact ⟨HD.out.2, by simp [Lit.sameKey]⟩
      · rw [List.nodup_append]
        exact ⟨HJ.out.2.2.1, by simp, fun a ha b hb => by simp at hb; subst hb; intro e; subst e; exact HD.out.1 ha⟩
      · exact IRow.more (by simpa using o5) II.out.2 (by intro y hy; simp at hy; subst hy; exact HX.out)
      · exact (BW1.out.alloc BW1.out.size _).grown g5 (by have := BW1.out.size; simp; omega) (fun k hk => by have := hrow k hk; have := B4.out.size; omega)
      · have := g5.size; simp at this; omega
      · rw [hrg5.left_eq, hrg.left_eq]; exact hlt1

end Go.Proofs.Ytfekbchmgnpkaaa.ints
