/-
  The program's Generic, at every argument in blocks that nothing froze: the vars of a type, ascending, that are in no type of the schemes but as their own; nothing that was there is turned.
-/
import Derived.Test.YtklcjjckelahcaaGenericSpec
import Derived.Test.YtklcjjckelahcaaSortedKeys
import Derived.Maps.RangeWalk
namespace Go.Proofs.Ytklcjjckelahcaa.scheme
open Go.RowKit Go.Shelf Go.Maps Go.Proofs.Ytklcjjckelahcaa.rose Go.Proofs.Ytklcjjckelahcaa.keys Go.Proofs.Ytklcjjckelahcaa
set_option linter.unusedVariables false
set_option linter.unusedSimpArgs false

/-- Where the program stands behind i schemes: the map has the vars that are free in none of these. -/
structure Gi (w wr : World) (mb : Nat) (ks : List SchemeD) (T : ty.TyD) (i : Nat) : Prop where
  bel : Below w.heap.size w wr
  map : ∃ D n L, wr.ownsMap Try.prog 3 (plainElem Try.prog 3) mb n D ∧ Keys D L ∧ ∀ y, y ∈ L ↔ (y ∈ ty.varsL (ty.allT T) ∧ (ks.take i).any (bad y) = false)

theorem nodup_leG {a b : List Int} (h : a.Nodup) (hs : ∀ x ∈ a, x ∈ b) : a.length ≤ b.length := by
  induction a generalizing b with
  | nil => simp
  | cons x xs ih =>
    rw [List.nodup_cons] at h
    have hx := hs x (by simp)
    have := ih (b := b.erase x) h.2 fun y hy => (List.mem_erase_of_ne (fun e : y = x => h.1 (e ▸ hy))).2 (hs y (by simp [hy]))
    rw [List.length_erase_of_mem hx] at this
    have : 0 < b.length := List.length_pos_of_mem hx
    simp; omega

theorem gen_sorted (ks : List SchemeD) (T : ty.TyD) : (gen ks T).Pairwise (· < ·) := (ints.vrs_sorted T [] List.Pairwise.nil).filter _
theorem mem_gen (ks : List SchemeD) (T : ty.TyD) (y : Int) : y ∈ gen ks T ↔ (y ∈ ty.varsL (ty.allT T) ∧ ks.any (bad y) = false) := by
  unfold gen
  rw [List.mem_filter, ints.mem_vrs]
  simp

set_option maxRecDepth 100000 in
set_option maxHeartbeats 8000000 in
theorem implGeneric (ks : List SchemeD) (T : ty.TyD) (v : Value) (cs : List Value) (w : World) (S : Nat → Prop) (hS : ∀ b, S b → b < w.heap.size) (hP : ∀ b, S b → Plain w b) (hw : ty.wt T ≤ 1048576) (hk : ks.length + wts ks ≤ 1048576) (h : schemeSh.slice.rep w S [v] ks) (h' : ty.tySh.rep w S cs T) :
    Calls Try.prog 19 #[v, .agg cs.toArray] w fun e w' => (∃ v', e = .returned v' ∧ ints.intsSp.rep w' (fun b => w.heap.size ≤ b ∧ b < w'.heap.size) [v'] (gen ks T)) ∧ Below w.heap.size w w' := by
  obtain ⟨u0, u1, u2, u3, rfl⟩ := ty.ty_list h'
  have o0 := ty.tySh.one h' u0 (by simp)
  have o1 := ty.tySh.one h' u1 (by simp)
  have o2 := ty.tySh.one h' u2 (by simp)
  have o3 := ty.tySh.one h' u3 (by simp)
  have HT : Hid (ty.tySh.rep w S [u0, u1, u2, u3] T) := h'
  obtain ⟨a, cap, css, rfl, hcap, hmax, hrow, hkk⟩ := schemes_open h
  have hmx : (ks.length : Int) ≤ 9223372036854775807 := by omega
  have HR : Hid (RowAt w S 5 a ks.length css ∧ ∀ i (h : i < ks.length), schemeSh.rep w S (css i) ks[i]) := ⟨hrow, hkk⟩
  have HW : Hid (ks.length + wts ks ≤ 1048576) := hk
  have HS : Hid (∀ b, S b → b < w.heap.size) := hS
  have HP : Hid (∀ b, S b → Plain w b) := hP
  have VA : Hid (∀ (X : ty.TyD) (xs : List Value) (W : World), ty.wt X ≤ 1048576 → ty.tySh.rep w S xs X → Below w.heap.size w W → Calls Try.prog 46 #[.agg xs.toArray] W fun e w' => e = .returned (.map (some (W.heap.size + 1))) ∧ Below W.heap.size W w' ∧ ∃ D ks n, w'.ownsMap Try.prog 3 (plainElem Try.prog 3) (W.heap.size + 1) n D ∧ Keys D ks ∧ (∀ y, y ∈ ks ↔ y ∈ ty.varsL (ty.allT X)) ∧ W.heap.size + 1 < w'.heap.size) :=
    fun X xs W h1 h2 h3 => tys.varsOf_any X xs W S (fun b hb => Nat.lt_of_lt_of_le (HS.out b hb) h3.size) (fun b hb => (HP.out b hb).on (h3.block b (HS.out b hb))) h1 (ty.tySh.on h2 fun b hb => h3.block b (HS.out b hb))
  clear h h' hcap hmax hrow hkk hk hS hP
  have BA : Hid (Below w.heap.size w (w.alloc (.cells #[u0, u1, u2, u3] 36))) := (Below.refl _ _).alloc (Nat.le_refl _) _
  go_enter Try.func19, Try.ntmps19
  go_wp2_with fail
  refine (VA.out T _ _ hw HT.out BA.out).mono ?_
  rintro e w2 ⟨rfl, hb, D, L, n, hD, hKD, hmem, hlt⟩
  simp only [World.size_alloc] at hD hlt ⊢
  have G0 : Hid (Gi w w2 (w.heap.size + 1 + 1) ks T 0) := ⟨BA.out.trans (hb.mono BA.out.size), D, n, L, hD, hKD, fun y => by rw [hmem]; simp⟩
  have HVL : Hid ((ty.varsL (ty.allT T)).length ≤ 1048577) := by
    show _ ≤ _
    have h1 := ty.all_le T
    have h2 : (ty.varsL (ty.allT T)).length ≤ (ty.allT T).length := by unfold ty.varsL; rw [List.length_map]; exact List.length_filter_le _ _
    omega
  clear hb hD hKD hmem hlt BA
  go_wp2
  go_loopw [16] (fun v16 wr => ∃ i : Nat, i ≤ ks.length ∧ v16 = .int .i64 i ∧ Hid (Gi w wr (w.heap.size + 1 + 1) ks T i)) (fun v16 _ => ks.length - (intOf v16).toNat)
  case atStart => exact ⟨0, Nat.zero_le _, rfl, G0⟩
  case round =>
    obtain ⟨i, hi, rfl, HG⟩ := hrel
    obtain ⟨wo, rfl⟩ : ∃ wo, wo = wr := ⟨_, rfl⟩
    clear G0
    by_cases hlt : i < ks.length
    · obtain ⟨b, o, rfl, hSb, hc⟩ := HR.out.1 i hlt
      obtain ⟨x0, a0, c0, x1, t0, t1, t2, t3, hT, hcs, f0, f1⟩ := scheme_open (HR.out.2 i hlt)
      rw [hcs] at hc
      have hbw := HS.out b hSb
      have e0 : wo.cell? ⟨b, o + i * 5, none⟩ = some (.slice a0 x0.length c0) := (HG.out.bel.cell (p := ⟨b, o + i * 5, none⟩) hbw).trans (hc 0 _ rfl)
      have e1 : wo.cell? ⟨b, o + i * 5 + 1, none⟩ = some t0 := (HG.out.bel.cell (p := ⟨b, o + i * 5 + 1, none⟩) hbw).trans (hc 1 _ rfl)
      have e2 : wo.cell? ⟨b, o + i * 5 + 2, none⟩ = some t1 := (HG.out.bel.cell (p := ⟨b, o + i * 5 + 2, none⟩) hbw).trans (hc 2 _ rfl)
      have e3 : wo.cell? ⟨b, o + i * 5 + 3, none⟩ = some t2 := (HG.out.bel.cell (p := ⟨b, o + i * 5 + 3, none⟩) hbw).trans (hc 3 _ rfl)
      have e4 : wo.cell? ⟨b, o + i * 5 + 4, none⟩ = some t3 := (HG.out.bel.cell (p := ⟨b, o + i * 5 + 4, none⟩) hbw).trans (hc 4 _ rfl)
      have ot0 := ty.tySh.one f1 t0 (by simp)
      have ot1 := ty.tySh.one f1 t1 (by simp)
      have ot2 := ty.tySh.one f1 t2 (by simp)
      have ot3 := ty.tySh.one f1 t3 (by simp)
      have so0 := fun (a : Addr) (m : Mode) (w : World) => run_store Try.prog w a t0 m ot0
      have so1 := fun (a : Addr) (m : Mode) (w : World) => run_store Try.prog w a t1 m ot1
      have so2 := fun (a : Addr) (m : Mode) (w : World) => run_store Try.prog w a t2 m ot2
      have so3 := fun (a : Addr) (m : Mode) (w : World) => run_store Try.prog w a t3 m ot3
      have hw1 : ty.wt x1 ≤ 1048576 := by have := wt_mem (List.getElem_mem hlt); rw [hT] at this; simp only [wt] at this; have := HW.out; omega
      have hx0l : x0.length ≤ 1048576 := by have := wt_mem (List.getElem_mem hlt); rw [hT] at this; simp only [wt] at this; have := HW.out; omega
      have F0 : Hid (Sh.int.slice.rep w S [.slice a0 x0.length c0] x0) := f0
      have F1 : Hid (ty.tySh.rep w S [t0, t1, t2, t3] x1) := f1
      have HA : Hid (∀ y, (ks.take (i + 1)).any (bad y) = ((ks.take i).any (bad y) || (bind.hasB x1 y && !decide (y ∈ x0)))) := fun y => by rw [any_take hlt, hT]; rfl
      obtain ⟨D, n, L, hD, hKD, hL⟩ := HG.out.map
      have OD : Hid (wo.ownsMap Try.prog 3 (plainElem Try.prog 3) (w.heap.size + 1 + 1) n D) := hD
      have KD : Hid (Keys D L ∧ ∀ y, y ∈ L ↔ (y ∈ ty.varsL (ty.allT T) ∧ (ks.take i).any (bad y) = false)) := ⟨hKD, hL⟩
      have hmb : w.heap.size + 1 + 1 < wo.heap.size := hD.lt
      have BW : Hid (Below w.heap.size w wo) := HG.out.bel
      have BA : Hid (Below w.heap.size w (wo.alloc (.cells #[.slice a0 x0.length c0, t0, t1, t2, t3] 80))) := BW.out.alloc BW.out.size _
      have OA : Hid ((wo.alloc (.cells #[.slice a0 x0.length c0, t0, t1, t2, t3] 80)).ownsMap Try.prog 3 (plainElem Try.prog 3) (w.heap.size + 1 + 1) n D) := hD.alloc _
      clear hT hcs hc f0 f1 hD hKD hL HG hSb hbw OD
      go_wp2_with fail
      refine (VA.out x1 _ _ hw1 F1.out BA.out).mono ?_
      rintro e w3 ⟨rfl, hb, D1, L1, n1, hD1, hK1, hm1, hlt1⟩
      simp only [World.size_alloc] at hD1 hlt1 ⊢
      have B3 : Hid (Below w.heap.size w w3) := BA.out.trans (hb.mono BA.out.size)
      have O3 : Hid (w3.ownsMap Try.prog 3 (plainElem Try.prog 3) (w.heap.size + 1 + 1) n D) := tys.owns_below OA.out hb OA.out.lt
      have y0 : w3.cell? ⟨wo.heap.size, 0, none⟩ = some (.slice a0 x0.length c0) := (hb.cell (p := ⟨wo.heap.size, 0, none⟩) (by simp)).trans (by simp)
      have O1 : Hid (w3.ownsMap Try.prog 3 (plainElem Try.prog 3) (wo.heap.size + 1 + 1) n1 D1) := hD1
      have K1 : Hid (Keys D1 L1 ∧ ∀ y, y ∈ L1 ↔ y ∈ ty.varsL (ty.allT x1)) := ⟨hK1, hm1⟩
      clear hb hD1 hK1 hm1 OA e0 e1 e2 e3 e4 so0 so1 so2 so3
      obtain ⟨ai, capi, ei, -, hmi, hati⟩ := ints.ints_open (S := S) F0.out
      cases ei
      have HAT : Hid (∀ q (h : q < x0.length), ∃ b o, a0 = some ⟨b, o, none⟩ ∧ S b ∧ w.cell? ⟨b, o + q, none⟩ = some (.int .i64 x0[q]) ∧ -9223372036854775808 ≤ x0[q] ∧ x0[q] ≤ 9223372036854775807) := hati
      clear hati hmi
      go_wp2
      go_loopw [26] (fun v26 wi => ∃ (q : Nat) (Df : DataW Unit) (Lf : List Int), q ≤ x0.length ∧ v26 = .int .i64 q ∧ wi.ownsMap Try.prog 3 (plainElem Try.prog 3) (wo.heap.size + 1 + 1) n1 Df ∧ Hid (Keys Df Lf ∧ (∀ y, y ∈ Lf ↔ (y ∈ ty.varsL (ty.allT x1) ∧ y ∉ x0.take q)) ∧ Below w.heap.size w wi ∧ wi.ownsMap Try.prog 3 (plainElem Try.prog 3) (w.heap.size + 1 + 1) n D)) (fun v26 _ => x0.length - (intOf v26).toNat)
      case atStart => exact ⟨0, D1, L1, Nat.zero_le _, rfl, O1.out, K1.out.1, fun y => by rw [K1.out.2]; simp, B3.out, O3.out⟩
      case round =>
        obtain ⟨q, Df, Lf, hq, rfl, hDf, HJ⟩ := hrel
        rename World => wi
        clear O1 K1 O3 B3
        by_cases hql : q < x0.length
        · obtain ⟨bb, oo, rfl, hSb, hcq, hq1, hq2⟩ := HAT.out q hql
          have ec : wi.cell? ⟨bb, oo + q, none⟩ = some (.int .i64 x0[q]) := (HJ.out.2.2.1.cell (p := ⟨bb, oo + q, none⟩) (HS.out bb hSb)).trans hcq
          have hkey : keyOf Try.prog 3 (.int .i64 x0[q]) = some (.int .i64 x0[q]) := keyOf_int_mk Try.underlying3 (tys.wf64 ⟨hq1, hq2⟩)
          have HTQ : Hid (x0.take (q + 1) = x0.take q ++ [x0[q]]) := List.take_succ_eq_append_getElem hql
          clear hcq hq1 hq2
          generalize x0[q] = xq at ec hkey HTQ
          go_wp2_with (first
            | (at_delete; refine wpList_delete_own _ rfl _ _ 83 3 rfl 3 tys.intKey Try.underlying83 _ (wo.heap.size + 1 + 1) n1 _ rfl hDf _ _ rfl hkey ?_; intro w5 hD5 hturn; go_frame)
            | go_in)
          have hg5 := hturn.grown
          have NX : Hid (Keys (Df.del (.int .i64 xq)) (Lf.filter fun y => !decide (y = xq)) ∧ (∀ y, y ∈ (Lf.filter fun y => !decide (y = xq)) ↔ (y ∈ ty.varsL (ty.allT x1) ∧ y ∉ x0.take (q + 1))) ∧ Below w.heap.size w w5 ∧ w5.ownsMap Try.prog 3 (plainElem Try.prog 3) (w.heap.size + 1 + 1) n D) := by
            refine ⟨HJ.out.1.strike (hDf.tidy tys.intKey) xq, fun y => ?_, HJ.out.2.2.1.grown hg5 HJ.out.2.2.1.size (fun j hj => by cases hj; omega), HJ.out.2.2.2.kept hg5 (fun e => by have := Option.some.inj e; omega)⟩
            rw [List.mem_filter, HJ.out.2.1 y, HTQ.out, List.mem_append]
            simp only [List.mem_singleton, not_or, Bool.not_eq_true', decide_eq_false_iff_not]
            exact and_assoc
          refine ⟨⟨q + 1, _, _, by omega, by go_num, hD5, NX⟩, by simp [intOf]; omega⟩
        · obtain rfl : q = x0.length := by omega
          have HLF : Hid (∀ y, y ∈ Lf ↔ (y ∈ ty.varsL (ty.allT x1) ∧ y ∉ x0)) := fun y => by have := HJ.out.2.1 y; rwa [List.take_length] at this
          have KF : Hid (Keys Df Lf) := HJ.out.1
          have B5 : Hid (Below w.heap.size w wi) := HJ.out.2.2.1
          have O5 : Hid (wi.ownsMap Try.prog 3 (plainElem Try.prog 3) (w.heap.size + 1 + 1) n D) := HJ.out.2.2.2
          have hfl := hDf.lt
          clear HJ
          go_wp2_with (first
            | (at_range; refine wpList_range_own _ rfl _ 83 rfl 3 3 tys.intKey Try.underlying83 _ (wo.heap.size + 1 + 1) _ _ rfl hDf ?_; intro w4 hrg4 hg4 hs4)
            | go_in)
          go_frame
          have B4 : Hid (Below w.heap.size w w4) := B5.out.grown hg4 B5.out.size (fun j hj => by cases hj)
          have O4 : Hid (w4.ownsMap Try.prog 3 (plainElem Try.prog 3) (w.heap.size + 1 + 1) n D) := O5.out.kept hg4 (by simp)
          have R4 : Hid _ := hrg4
          clear hrg4 hg4 O5
          go_loopw [11] (fun _ wj => ∃ (left : Lit → Bool) (cnt : Nat) (done : List Int) (Dg : DataW Unit) (Lg : List Int), wj.ranges Try.prog 3 (plainElem Try.prog 3) (wo.heap.size + 1 + 1) wi.heap.size n1 Df left cnt ∧
              Hid ((∀ x : Int, Maps.has Df (.int .i64 x) = true → left (.int .i64 x) = true ∨ x ∈ done) ∧ (∀ x ∈ done, x ∈ Lf) ∧ Keys Dg Lg ∧ (∀ y, y ∈ Lg ↔ (y ∈ L ∧ y ∉ done)) ∧ Below w.heap.size w wj) ∧ wj.ownsMap Try.prog 3 (plainElem Try.prog 3) (w.heap.size + 1 + 1) n Dg)
            (fun _ wj => wj.rangeLeft (wo.heap.size + 1 + 1) wi.heap.size)
          case atStart => exact ⟨_, _, [], D, L, R4.out, ⟨fun x hx => Or.inl hx, by simp, KD.out.1, fun y => by simp, B4.out⟩, O4.out⟩
          case round =>
            obtain ⟨left, cnt, done, Dg, Lg, hrg, HJ, hDg⟩ := hrel
            rename World => wj
            go_wp2_with (first
              | (at_next; refine wpList_next_ranges_ii _ rfl _ rfl 3 3 .i64 .i64 tys.intKey Try.underlying3 Try.underlying3 (wo.heap.size + 1 + 1) wi.heap.size _ _ _ _ rfl hrg ?_ ?_)
              | go_in)
            · intro hc0 hl0
              have HF : Hid (Gi w wj (w.heap.size + 1 + 1) ks T (i + 1)) := by
                refine ⟨HJ.out.2.2.2.2, Dg, n, Lg, hDg, HJ.out.2.2.1, fun y => ?_⟩
                have hdn : y ∈ done ↔ y ∈ Lf := ⟨HJ.out.2.1 y, fun hy => by
                  rcases HJ.out.1 y (by rw [KF.out.has]; exact decide_eq_true hy) with h2 | h2
                  · rw [hl0] at h2; cases h2
                  · exact h2⟩
                rw [HJ.out.2.2.2.1 y, hdn, KD.out.2 y, HLF.out y, HA.out y]
                unfold bind.hasB
                by_cases q1 : y ∈ ty.varsL (ty.allT x1) <;> by_cases q2 : y ∈ x0 <;> by_cases q3 : (ks.take i).any (bad y) = true <;> simp [q1, q2, q3]
              go_wp2
              go_round
              case rel => exact ⟨i + 1, by omega, by go_num, HF⟩
              case measure => simp [intOf]; omega
            · intro x c w1 cnt1 hwx hwc hlx hat hrg1 hltr hg1 hs1 hen
              have hDg1 := hDg.kept hg1 (fun e => by have := Option.some.inj e; omega)
              have hkey : keyOf Try.prog 3 (.int .i64 x) = some (.int .i64 x) := keyOf_int_mk Try.underlying3 hwx
              go_wp2_with (first
                | (at_delete; refine wpList_delete_own _ rfl _ _ 83 3 rfl 3 tys.intKey Try.underlying83 _ (w.heap.size + 1 + 1) n _ rfl hDg1 _ _ rfl hkey ?_; intro w5 hD5 hturn; go_frame)
                | go_in)
              have hg5 := hturn.grown
              have hrg5 := hrg1.kept hg5 (fun e => by have := Option.some.inj e; omega) (fun e => by have := Option.some.inj e; omega)
              have hx2 : x ∈ Lf := by
                have h1 := has_true_of_atKey hat
                rw [KF.out.has] at h1
                exact of_decide_eq_true h1
              refine ⟨⟨_, cnt1, done ++ [x], _, Lg.filter fun y => !decide (y = x), hrg5, ⟨fun y hy => ?_, fun y hy => ?_, HJ.out.2.2.1.strike (hDg1.tidy tys.intKey) x, fun y => ?_, ?_⟩, hD5⟩, ?_⟩
              · by_cases e : y = x
                · exact Or.inr (by simp [e])
                · rcases HJ.out.1 y hy with h1 | h1
                  · exact Or.inl (by simp [h1, sameKey_ne (lit_ne e)])
                  · exact Or.inr (by simp [h1])
              · rcases List.mem_append.1 hy with h1 | h1
                · exact HJ.out.2.1 y h1
                · simp at h1; subst h1; exact hx2
              · rw [List.mem_filter, HJ.out.2.2.2.1 y, List.mem_append]
                simp only [List.mem_singleton, not_or, Bool.not_eq_true', decide_eq_false_iff_not]
                exact and_assoc
              · exact (HJ.out.2.2.2.2.grown hg1 HJ.out.2.2.2.2.size (fun j hj => by cases hj; have := B5.out.size; omega)).grown hg5 (by have := HJ.out.2.2.2.2.size; omega) (fun j hj => by cases hj; omega)
              · rw [hrg5.left_eq, hrg.left_eq]; exact hltr
    · obtain rfl : i = ks.length := by omega
      obtain ⟨hB, D, n, L, hD, hKD, hL⟩ := HG.out
      rw [List.take_length] at hL
      have hlen : L.length ≤ 1048577 := by
        have h1 : L.length ≤ (ty.varsL (ty.allT T)).length := nodup_leG hKD.nodup fun y hy => ((hL y).1 hy).1
        have := HVL.out
        omega
      have hS := tys.sortedC (w.heap.size + 1 + 1) n D L (gen ks T) wo hD hKD hlen (gen_sorted ks T) fun y => (hL y).trans (mem_gen ks T y).symm
      have HB : Hid (Below w.heap.size w wo) := hB
      clear hB hKD hL HG
      go_wp2_with (first
        | (go_at_call 48; refine (tys.keysC _ _).mono ?_; rintro e w' ⟨rfl, rfl⟩)
        | (go_at_call 47; refine hS.mono ?_; rintro e w4 ⟨⟨vr, rfl, hI⟩, hb⟩))
      go_ret
      exact ⟨⟨vr, rfl, ints.intsSp.mono hI.sp fun b hb => ⟨Nat.le_trans HB.out.size hb.1, hb.2⟩⟩, HB.out.trans (hb.mono HB.out.size)⟩

end Go.Proofs.Ytklcjjckelahcaa.scheme
