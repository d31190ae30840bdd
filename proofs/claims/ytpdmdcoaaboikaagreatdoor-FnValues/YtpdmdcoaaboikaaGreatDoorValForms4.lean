/-
  The program's inside, of a con's form.
-/
import Derived.Test.YtpdmdcoaaboikaaGreatDoorValForms3
namespace Go.Proofs.YtpdmdcoaaboikaaGreatDoor.vt
open Go Go.RowKit Go.Deep Go.Proofs.YtpdmdcoaaboikaaGreatDoor.rose Go.Proofs.YtpdmdcoaaboikaaGreatDoor.value Go.Proofs.YtpdmdcoaaboikaaGreatDoor
set_option linter.unusedVariables false
set_option linter.unusedSimpArgs false

set_option maxRecDepth 100000 in
set_option maxHeartbeats 4000000 in
theorem insideCon_none (s : ByteArray) (w : World) (S : Nat → Prop) (hS : ∀ b, S b → b < w.heap.size) :
    Calls Tryz.prog 50 #[.iface 158 (.agg #[.string s, .slice none 0 0])] w fun e w' => ∃ v', e = .returned v' ∧ FsOwn w' w.heap.size S w'.heap.size v' (joinF (conF s [])) ∧ Below w.heap.size w w' := by
  obtain ⟨ti, hti, hzz⟩ := Option.map_eq_some_iff.1 info_form
  simp only [Prod.mk.injEq] at hzz
  obtain ⟨hz0, hz1, hz2⟩ := hzz
  have TI : Hid (Tryz.prog.info? 70 = some ti ∧ ti.zero = some .nilIface ∧ ti.size = 1 ∧ ti.bytes = 16) := ⟨hti, hz0, hz1, hz2⟩
  have HSTR : Hid (s = str s.data.toList) := str_of s
  clear hti hz0 hz1 hz2
  have hal : Below w.heap.size w (w.alloc (.cells #[.string s, .slice none 0 0] 158)) := (Below.refl _ _).alloc (Nat.le_refl _) _
  have hzw : (w.alloc (.cells #[.string s, .slice none 0 0] 158)).heap.size = w.heap.size + 1 := by simp
  have HV0 : Hid (FsOwn ((w.alloc (.cells #[.string s, .slice none 0 0] 158)).alloc (.cells #[.iface 71 (.string s)] 70)) w.heap.size S w.heap.size (.slice (some ⟨w.heap.size + 1, 0, none⟩) 1 1) [.plain s.data.toList]) := by
    have := FsOwn.one (w := (w.alloc (.cells #[.string s, .slice none 0 0] 158))) (base := w.heap.size) (S := S) (N := w.heap.size) (t := 71) (u := .string s) (f := .plain s.data.toList) (by show _ = _; rw [← HSTR.out]) (by simp) (fun b hb => by have := hS b hb; simp; omega) (by simp)
    rwa [hzw] at this
  have HZ2 : Hid (((w.alloc (.cells #[.string s, .slice none 0 0] 158)).alloc (.cells #[.iface 71 (.string s)] 70)).heap.size = w.heap.size + 2) := by show _ = _; simp
  have HB2 : Hid (Below w.heap.size w ((w.alloc (.cells #[.string s, .slice none 0 0] 158)).alloc (.cells #[.iface 71 (.string s)] 70))) := hal.alloc hal.size _
  obtain ⟨us0, hul0, hrow0, hfs0⟩ := HV0.out
  have HFS0 : Hid _ := hfs0
  have HUL0 : Hid (us0.length = 1) := hul0
  simp only [List.length_cons, List.length_nil, Nat.zero_add] at hrow0
  clear hal hzw hfs0 hul0
  have ta_folded := fun (w : World) => folds_no (x := 70) (v := .agg #[.string s, .slice none 0 0]) folds_conForm Tryz.zeroValue151 w
  have ta_numForm := fun (w : World) => ta_no (P := Tryz.prog) (t := 158) (x := 70) (v := .agg #[.string s, .slice none 0 0]) w Tryz.underlying154 Tryz.zeroValue154 (by decide)
  have ta_nameForm := fun (w : World) => ta_no (P := Tryz.prog) (t := 158) (x := 70) (v := .agg #[.string s, .slice none 0 0]) w Tryz.underlying156 Tryz.zeroValue156 (by decide)
  have ta_conForm := fun (w : World) => ta_yes (P := Tryz.prog) (x := 70) (v := .agg #[.string s, .slice none 0 0]) w Tryz.underlying158
  have HAT : Hid (FsAt ((w.alloc (.cells #[.string s, .slice none 0 0] 158)).alloc (.cells #[.iface 71 (.string s)] 70)) S (w.heap.size + 2) (some ⟨w.heap.size + 1, 0, none⟩) [.plain s.data.toList]) := by
    obtain ⟨a1, c1, e1, _, _, hat⟩ := HV0.out.at (by rw [HZ2.out]; omega)
    simp only [List.length_cons, List.length_nil, Nat.zero_add, Value.slice.injEq, true_and] at e1
    obtain ⟨e1, _⟩ := e1
    subst e1
    rw [HZ2.out] at hat
    exact hat
  go_enter Tryz.func50, Tryz.ntmps50
  go_wp2_with (first
      | (at_builtin; refine wpList_append_own_none rfl _ _ 44 rfl w.heap.size 70 ti 1 Tryz.underlying44 TI.out.1 _ 1 _ rfl hrow0 rfl ?_)
      | fail)
  have hj := joined_any [.plain s.data.toList] (some ⟨w.heap.size + 1, 0, none⟩) 1 ((w.alloc (.cells #[.string s, .slice none 0 0] 158)).alloc (.cells #[.iface 71 (.string s)] 70)) S (fun b hb => by have := hS b hb; rw [HZ2.out]; omega) (by simp) (by rw [HZ2.out]; exact HAT.out)
  refine Calls.mono hj ?_
  rintro e w5 ⟨v5, rfl, h5, hb5⟩
  have F5 : Hid (FsOwn w5 w.heap.size S w5.heap.size v5 (joinF (conF s []))) := by
    obtain ⟨us5, q1, q2, q3⟩ := h5
    refine ⟨us5, q1, ⟨q2.1, ?_⟩, fun i hi hi' => (q3 i hi hi').mono hb5.size⟩
    rcases q2.2 with h | ⟨g, c, cur, r1, r2, r3⟩
    · exact Or.inl h
    · exact Or.inr ⟨g, c, cur, r1, by rw [HZ2.out] at r2; omega, r3⟩
  have B5 : Hid (Below w.heap.size w w5) := HB2.out.trans (hb5.mono (by rw [HZ2.out]; omega))
  clear h5 hb5 hj
  go_wp2
  go_ret
  exact ⟨_, rfl, F5.out, B5.out⟩

set_option maxRecDepth 100000 in
set_option maxHeartbeats 4000000 in
theorem insideCon_some (s : ByteArray) (ks : List ValueD) (ad : Addr) (cap : Nat) (w : World) (S : Nat → Prop) (hS : ∀ b, S b → b < w.heap.size) (hl : ks.length ≤ 1048576) (hf : TFs w S w.heap.size (some ad) ks) :
    Calls Tryz.prog 50 #[.iface 158 (.agg #[.string s, .slice (some ad) ks.length cap])] w fun e w' => ∃ v', e = .returned v' ∧ FsOwn w' w.heap.size S w'.heap.size v' (joinF (conF s ks)) ∧ Below w.heap.size w w' := by
  obtain ⟨us, hul, hcells, hus⟩ := hf.at
  have HUS : Hid _ := hus
  have HUL : Hid (us.length = ks.length) := hul
  have HIN : Hid (0 < ks.length → ad.block < w.heap.size) := fun h => by
    obtain ⟨g', o', cur, u, h1, h0, _⟩ := hf 0 h
    cases h1
    exact h0
  obtain ⟨ti, hti, hzz⟩ := Option.map_eq_some_iff.1 info_form
  simp only [Prod.mk.injEq] at hzz
  obtain ⟨hz0, hz1, hz2⟩ := hzz
  have TI : Hid (Tryz.prog.info? 70 = some ti ∧ ti.zero = some .nilIface ∧ ti.size = 1 ∧ ti.bytes = 16) := ⟨hti, hz0, hz1, hz2⟩
  have HSTR : Hid (s = str s.data.toList) := str_of s
  clear hti hz0 hz1 hz2
  have hal : Below w.heap.size w (w.alloc (.cells #[.string s, .slice (some ad) ks.length cap] 158)) := (Below.refl _ _).alloc (Nat.le_refl _) _
  have hzw : (w.alloc (.cells #[.string s, .slice (some ad) ks.length cap] 158)).heap.size = w.heap.size + 1 := by simp
  have HV0 : Hid (FsOwn ((w.alloc (.cells #[.string s, .slice (some ad) ks.length cap] 158)).alloc (.cells #[.iface 71 (.string s)] 70)) w.heap.size S w.heap.size (.slice (some ⟨w.heap.size + 1, 0, none⟩) 1 1) [.plain s.data.toList]) := by
    have := FsOwn.one (w := (w.alloc (.cells #[.string s, .slice (some ad) ks.length cap] 158))) (base := w.heap.size) (S := S) (N := w.heap.size) (t := 71) (u := .string s) (f := .plain s.data.toList) (by show _ = _; rw [← HSTR.out]) (by simp) (fun b hb => by have := hS b hb; simp; omega) (by simp)
    rwa [hzw] at this
  have HZ2 : Hid (((w.alloc (.cells #[.string s, .slice (some ad) ks.length cap] 158)).alloc (.cells #[.iface 71 (.string s)] 70)).heap.size = w.heap.size + 2) := by show _ = _; simp
  have HB2 : Hid (Below w.heap.size w ((w.alloc (.cells #[.string s, .slice (some ad) ks.length cap] 158)).alloc (.cells #[.iface 71 (.string s)] 70))) := hal.alloc hal.size _
  obtain ⟨us0, hul0, hrow0, hfs0⟩ := HV0.out
  have HFS0 : Hid _ := hfs0
  have HUL0 : Hid (us0.length = 1) := hul0
  simp only [List.length_cons, List.length_nil, Nat.zero_add] at hrow0
  clear hal hzw hfs0 hul0
  have ta_folded := fun (w : World) => folds_no (x := 70) (v := .agg #[.string s, .slice (some ad) ks.length cap]) folds_conForm Tryz.zeroValue151 w
  have ta_numForm := fun (w : World) => ta_no (P := Tryz.prog) (t := 158) (x := 70) (v := .agg #[.string s, .slice (some ad) ks.length cap]) w Tryz.underlying154 Tryz.zeroValue154 (by decide)
  have ta_nameForm := fun (w : World) => ta_no (P := Tryz.prog) (t := 158) (x := 70) (v := .agg #[.string s, .slice (some ad) ks.length cap]) w Tryz.underlying156 Tryz.zeroValue156 (by decide)
  have ta_conForm := fun (w : World) => ta_yes (P := Tryz.prog) (x := 70) (v := .agg #[.string s, .slice (some ad) ks.length cap]) w Tryz.underlying158
  have HC : Hid (∀ j u, us[j]? = some u → ((w.alloc (.cells #[.string s, .slice (some ad) ks.length cap] 158)).alloc (.cells #[.iface 71 (.string s)] 70)).cell? (ad.add j) = some u) := fun j u hj => by
    obtain ⟨g', o', h1, h2⟩ := hcells j u hj
    cases h1
    have hj' : 0 < ks.length := by
      have := (List.getElem?_eq_some_iff.1 hj).1
      omega
    have h3 := (HB2.out.cell (p := ⟨g', o' + j, none⟩) (HIN.out hj')).trans h2
    have h4 : (⟨g', o', none⟩ : Addr).add j = ⟨g', o' + j, none⟩ := by
      unfold Addr.add
      split
      · next h => subst h; rfl
      · rfl
    rw [h4]
    exact h3
  have HO : Hid (∀ u ∈ us, u.oneCell' = true) := fun u hu => by
    obtain ⟨i, hi, rfl⟩ := List.mem_iff_getElem.1 hu
    obtain ⟨cs, h, _⟩ := HUS.out i (by omega) hi
    rw [h]; rfl
  clear hf hus hcells hul
  go_enter Tryz.func50, Tryz.ntmps50
  go_wp2_with (first
      | (at_builtin; go_loud (refine append_many _ rfl _ _ 44 rfl w.heap.size 70 ti _ 16 Tryz.underlying44 TI.out.1 TI.out.2.1 TI.out.2.2.1 TI.out.2.2.2 rfl _ 1 us0 (by decide) rfl hrow0 ad ks.length cap us rfl HUL.out HC.out HO.out (by unfold maxLen; omega) (by omega) (by rw [HZ2.out]; omega) ?_); intro g2 c2 w2 hown2 hgrow2)
      | fail)
  have hb2 : Below w.heap.size w w2 := HB2.out.grown hgrow2 (by rw [HZ2.out]; omega) (fun g hg => by cases hg; exact Nat.le_succ _)
  have hm : ∀ b, S b → w2.heap[b]? = w.heap[b]? := fun b hb => hb2.block b (hS b hb)
  have F2 : FsOwn w2 w.heap.size S w.heap.size (.slice (some ⟨g2, 0, none⟩) (1 + ks.length) c2) (conF s ks) := by
    have hcl : (conF s ks).length = 1 + ks.length := by simp [conF]; omega
    refine ⟨us0 ++ us, by rw [List.length_append, HUL0.out, HUL.out, hcl], by rw [hcl]; exact hown2, fun i hi hi' => ?_⟩
    match i with
    | 0 =>
      rw [List.getElem_append_left (by rw [HUL0.out]; decide)]
      exact HFS0.out 0 (by simp) (by rw [HUL0.out]; decide)
    | i + 1 =>
      rw [List.getElem_append_right (by rw [HUL0.out]; omega)]
      simp only [HUL0.out, Nat.add_sub_cancel, conF, List.getElem_cons_succ, List.getElem_map]
      exact (HUS.out i (by rw [hcl] at hi; omega) (by rw [hcl] at hi; rw [HUL.out]; omega)).on hm
  have HAT : Hid (FsAt w2 S w2.heap.size (some ⟨g2, 0, none⟩) (conF s ks)) := by
    obtain ⟨a1, c1, e1, _, _, hat⟩ := F2.at hb2.size
    simp only [Value.slice.injEq] at e1
    obtain ⟨e1, _⟩ := e1
    subst e1
    exact hat
  have H2 : Hid (Below w.heap.size w w2) := hb2
  have hsz : w.heap.size ≤ w2.heap.size := hb2.size
  clear hb2 hown2 hgrow2 F2 hm hrow0
  have hcl : (conF s ks).length = 1 + ks.length := by simp [conF]; omega
  have hj := joined_any (conF s ks) (some ⟨g2, 0, none⟩) c2 w2 S (fun b hb => Nat.lt_of_lt_of_le (hS b hb) H2.out.size) (by rw [hcl]; omega) HAT.out
  rw [hcl] at hj
  refine Calls.mono hj ?_
  rintro e w5 ⟨v5, rfl, h5, hb5⟩
  have F5 : Hid (FsOwn w5 w.heap.size S w5.heap.size v5 (joinF (conF s ks))) := by
    obtain ⟨us5, q1, q2, q3⟩ := h5
    refine ⟨us5, q1, ⟨q2.1, ?_⟩, fun i hi hi' => (q3 i hi hi').mono hb5.size⟩
    rcases q2.2 with h | ⟨g, c, cur, r1, r2, r3⟩
    · exact Or.inl h
    · exact Or.inr ⟨g, c, cur, r1, by omega, r3⟩
  have B5 : Hid (Below w.heap.size w w5) := H2.out.trans (hb5.mono hsz)
  clear h5 hb5 hj
  go_wp2
  go_ret
  exact ⟨_, rfl, F5.out, B5.out⟩

theorem insideCon (s : ByteArray) (ks : List ValueD) (v : Value) (w : World) (S : Nat → Prop) (hS : ∀ b, S b → b < w.heap.size) (hl : ks.length ≤ 1048576) (h : FV w S w.heap.size v (.con s ks)) :
    Calls Tryz.prog 50 #[v] w fun e w' => ∃ v', e = .returned v' ∧ FsOwn w' w.heap.size S w'.heap.size v' (joinF (conF s ks)) ∧ Below w.heap.size w w' := by
  obtain ⟨a, cap, rfl, hc1, hc2, hs, hna, hf⟩ := h
  cases a with
  | none =>
    obtain rfl := hna rfl
    have hk0 : ks = [] := List.eq_nil_of_length_eq_zero (by omega)
    subst hk0
    exact insideCon_none s w S hS
  | some ad =>
    exact insideCon_some s ks ad cap w S hS hl hf

end Go.Proofs.YtpdmdcoaaboikaaGreatDoor.vt
