/-
  The program's written, at a list of forms of types.
-/
import Derived.Test.YtpdmdcoaaboikaaGreatDoorValWr2
namespace Go.Proofs.YtpdmdcoaaboikaaGreatDoor.vt
open Go Go.RowKit Go.Deep Go.Proofs.YtpdmdcoaaboikaaGreatDoor.rose Go.Proofs.YtpdmdcoaaboikaaGreatDoor.value Go.Proofs.YtpdmdcoaaboikaaGreatDoor
set_option linter.unusedVariables false
set_option linter.unusedSimpArgs false

set_option maxRecDepth 100000 in
theorem info_forms : (Tryz.prog.info? 44).map (fun i => (i.zero, i.size, i.bytes)) = some (some (.slice none 0 0), 1, 24) := by kernel_rfl

set_option maxRecDepth 100000 in
set_option maxHeartbeats 4000000 in
theorem written_any (fs : List Fm) (a : Option Addr) (cap : Nat) (w : World) (ht : Tab w) (S : Nat → Prop) (q : List UInt8) (hS : ∀ b, S b → b < w.heap.size) (hq : fts fs = q) (hql : q.length ≤ 33554432) (hm : msum fs ≤ 33554432) (hc : fs.length ≤ cap) (hcm : cap ≤ maxLen) (hok : ∀ f ∈ fs, okF f) (h : FsAt w S w.heap.size a fs) :
    Calls Tryz.prog 15 #[.slice a fs.length cap] w fun e w' => e = .returned (.string (str q)) ∧ Below w.heap.size w w' := by
  obtain ⟨ti, hti, hzz⟩ := Option.map_eq_some_iff.1 info_forms
  simp only [Prod.mk.injEq] at hzz
  obtain ⟨hz0, hz1, hz2⟩ := hzz
  have TI : Hid (Tryz.prog.info? 44 = some ti ∧ ti.zero = some (.slice none 0 0) ∧ ti.size = 1 ∧ ti.bytes = 24) := ⟨hti, hz0, hz1, hz2⟩
  have HF : Hid (FsAt w S w.heap.size a fs) := h
  have HTB : Hid (Tab w) := ht
  clear ht
  have HQ : Hid (fts fs = q) := hq
  have HM : Hid (msum fs ≤ 33554432) := hm
  have HQL : Hid (q.length ≤ 33554432) := hql
  have HOK : Hid (∀ f ∈ fs, okF f) := hok
  have HCAP : Hid (fs.length ≤ cap ∧ cap ≤ maxLen) := ⟨hc, hcm⟩
  clear hti hz0 hz1 hz2 h hq hm hok hql hc hcm
  go_enter Tryz.func15, Tryz.ntmps15
  go_wp2
  go_loopw [4] (fun v4 wr => Hid (∃ n, Inv w S q 67108864 n v4 wr)) (fun v4 wr => leastOf fun n => Inv w S q 67108864 n v4 wr)
  case atStart =>
    have hb0 : Below w.heap.size w (w.alloc (.cells #[.pointer none, .slice none 0 0] 67)) := (Below.refl _ _).alloc (Nat.le_refl _) _
    have hb : Below w.heap.size w ((w.alloc (.cells #[.pointer none, .slice none 0 0] 67)).alloc (.cells #[.slice a fs.length cap] 44)) := hb0.alloc hb0.size _
    have hsz : (w.alloc (.cells #[.pointer none, .slice none 0 0] 67)).heap.size = w.heap.size + 1 := by simp
    refine ⟨1 + msum fs, [fs], [], by simp [ms], by have := HM.out; omega, ?_, ?_, ?_, ?_, hb, by simp; omega⟩
    · refine StOwn.make (st0 := []) (us0 := []) (ut := .slice a fs.length cap) rfl ⟨rfl, Or.inr ⟨w.heap.size + 1, 1, #[.slice a fs.length cap], rfl, by omega, ?_, Nat.le_refl _, by unfold maxLen; omega, rfl, rfl⟩⟩ (fun i hi => absurd hi (Nat.not_lt_zero _)) ⟨a, cap, rfl, HCAP.out.1, HCAP.out.2, ?_⟩
      · rw [← hsz]; exact alloc_top _ _
      · exact (HF.out.on (Stays.of hS (Nat.le_refl _) hb)).mono hb.size
    · refine Or.inl ⟨Nat.le_refl _, .slice none 0 0, ?_, ⟨rfl, Or.inl ⟨rfl, rfl⟩⟩, by simp [Value.ownBlock]⟩
      rw [Below.heap_alloc _ _ _ (by simp)]
      exact alloc_top _ _
    · simp [rd, HQ.out]
    · intro l hl f hf
      simp only [List.mem_cons, List.mem_nil_iff, or_false] at hl
      subst hl
      exact HOK.out f hf
  case round =>
    obtain ⟨hI, hmin⟩ := leastOf_spec hrel.out
    generalize hn : leastOf (fun n => Inv w S q 67108864 n u4 wr) = n at hI hmin
    obtain ⟨st, out, hst, hnM, hSt, hB, hrd, hokS, hBel, hlt⟩ := hI
    have HN : Hid (leastOf (fun n => Inv w S q 67108864 n u4 wr) = n) := hn
    have HB : Hid (Lib.IsBuilderF 67 5 w.heap.size w.heap.size (Lib.byteCells out) wr) := hB
    have HRD : Hid (out ++ rd st = q) := hrd
    have HOKS : Hid (∀ l ∈ st, ∀ f ∈ l, okF f) := hokS
    have HBEL : Hid (Below w.heap.size w wr) := hBel
    have HMS : Hid (ms st = n) := hst
    clear hn hB hrd hokS hBel hmin hst hrel
    rcases List.eq_nil_or_concat st with rfl | ⟨st0, tp, hst⟩
    · have HOUT : Hid (out = q) := by
        show out = q
        have := HRD.out
        simpa [rd] using this
      obtain ⟨us, hul, hrow, -⟩ := hSt
      have hv : ∃ a0 c0, u4 = .slice a0 0 c0 := by
        rcases hrow.2 with ⟨h, _⟩ | ⟨g, c, cur, h, _⟩
        · exact ⟨_, _, h⟩
        · exact ⟨_, _, h⟩
      obtain ⟨a0, c0, rfl⟩ := hv
      clear hrow hul
      go_wp2_with (first
        | (go_at_call 30; refine (Tryz.Builder_String_any_k w.heap.size w.heap.size out wr HB.out HBEL.out.size).mono ?_; rintro e w5 ⟨rfl, -, hb5, -⟩; have HB5 : Hid _ := hb5; clear hb5)
        | fail)
      go_ret
      exact ⟨congrArg (fun x => Ending.returned (.string (str x))) HOUT.out, HBEL.out.trans HB5.out⟩
    · rw [List.concat_eq_append] at hst
      subst hst
      obtain ⟨g, cp, us0, ut, rfl, hul, hrow, hs0, hst⟩ := hSt.top
      have HS0 : Hid (∀ i (h : i < st0.length) (h' : i < us0.length), SlAt wr S us0[i] st0[i]) := hs0
      have HROW : Hid _ := hrow
      have HUL : Hid (us0.length = st0.length) := hul
      have c0 : wr.cell? ⟨g, st0.length, none⟩ = some ut := (row_cell hrow (by rw [List.getElem?_append_right (by omega)]; simp [hul])).1
      obtain ⟨hgb, hncp, hcpm, hgz, hfr0, curL, hcurL⟩ := row_facts hrow
      have hfr := hfr0 st0.length
      have HCUR : Hid (wr.heap[g]? = some (.cells curL 44 (0, 0))) := hcurL
      obtain ⟨at', ct, rfl, hct, hctm, hfa⟩ := hst
      have HFA : Hid (FsAt wr S wr.heap.size at' tp) := hfa
      have hlen : st0.length ≤ 67108864 := by
        have := ms_len (st0 ++ [tp])
        rw [HMS.out] at this
        simp at this
        omega
      clear hs0 hrow hul hfa hfr0 hcurL hSt
      have HMS2 : Hid (ms st0 + 1 + msum tp = n) := by have := HMS.out; rwa [ms_snoc] at this
      have HRD2 : Hid (out ++ (fts tp ++ rd st0) = q) := by have := HRD.out; rwa [rd_snoc] at this
      cases tp with
      | nil =>
        have c0' : wr.cell? ⟨g, st0.length, none⟩ = some (.slice at' 0 ct) := c0
        have hcl : st0.length ≤ cp := by omega
        clear c0
        go_wp2
        refine round_end HN.out (n' := ms st0) ⟨st0, out, rfl, by have := HMS2.out; omega, StOwn.pop HUL.out HROW.out HS0.out, HB.out, ?_, fun l hl f hf => HOKS.out l (by simp [hl]) f hf, HBEL.out, hlt⟩ (by have := HMS2.out; simp [msum] at this; omega)
        have := HRD2.out
        simpa [fts] using this
      | cons f tp =>
        obtain ⟨gf, o, cur, u, rfl, hgf, hgc, hcc, hfv⟩ := HFA.out 0 (by simp)
        rw [Nat.add_zero] at hcc
        have HFV : Hid (FV wr S wr.heap.size u f) := hfv
        obtain ⟨tu, uu, rfl⟩ := hfv.iface
        simp only [List.length_cons] at c0 hct
        clear hfv hgc
        by_cases hc1 : ct = 1
        · subst hc1
          have htp : tp = [] := List.eq_nil_of_length_eq_zero (by omega)
          subst htp
          simp only [List.length_nil, Nat.zero_add] at c0 hct
          have HNV : Hid (SlAt wr S (.slice (some ⟨gf, o, none⟩) 0 0) []) := ⟨some ⟨gf, o, none⟩, 0, rfl, Nat.le_refl _, Nat.zero_le _, fun i hi => absurd hi (Nat.not_lt_zero _)⟩
          have HP : Hid _ := popped hS HUL.out HROW.out HS0.out HNV.out HB.out HBEL.out
          by_cases hp : ∃ l, f = .plain l
          · obtain ⟨l, rfl⟩ := hp
            have hu : Value.iface tu uu = .iface 71 (.string (str l)) := HFV.out
            cases hu
            have ta_plain := fun (w : World) => ta_yes' (P := Tryz.prog) (x := 70) (v := .string (str l)) w Tryz.underlying71
            have hlz : out.length + l.length ≤ 33554432 := by
              have := HRD2.out
              have h2 := HQL.out
              rw [← this] at h2
              simp [fts, ft] at h2
              omega
            have HW : Hid _ := Tryz.Builder_WriteString_k w.heap.size w.heap.size (Lib.byteCells out) (str l) (wr.setCell ⟨g, st0.length, none⟩ (.slice (some ⟨gf, o, none⟩) 0 0)) HP.out.2.1 (by rw [Lib.byteCells_length, str_size]; omega) HP.out.2.2.1.size
            go_wp2_with (first
              | (go_at_call 28; refine Calls.mono HW.out ?_; rintro e w5 ⟨rfl, hb5, hbel5, hk5⟩; have HB5 : Hid _ := hb5; have HL5 : Hid _ := hbel5; have HK5 : Hid _ := hk5; clear hb5 hbel5 hk5)
              | fail)
            have HE := round_end HN.out (wrote hS HP.out.1 HP.out.2.1 HP.out.2.2.1 (by rw [HP.out.2.2.2.1]; exact hlt) HB5.out HL5.out HK5.out HRD2.out HOKS.out HMS2.out hnM) (by have := HMS2.out; omega)
            go_round
            case rel => exact HE.1
            case measure => exact HE.2
          · have hfit : fits f := ok_fits f (HOKS.out (f :: []) (by simp) f (by simp)) fun l e => hp ⟨l, e⟩
            have htu : tu ≠ 71 := fun e => by
              subst e
              have hfv := HFV.out
              cases f with
              | plain l => exact hp ⟨l, rfl⟩
              | val T => obtain ⟨cs, h, _⟩ := hfv; cases h
              | con s ks => obtain ⟨a, cap, h, _⟩ := hfv; cases h
            have ta_plain := fun (w : World) => ta_no' (P := Tryz.prog) (t := tu) (x := 70) (v := uu) w Tryz.underlying71 Tryz.zeroValue71 htu
            have HPT : Hid _ := parts_any f (.iface tu uu) (wr.setCell ⟨g, st0.length, none⟩ (.slice (some ⟨gf, o, none⟩) 0 0)) (HTB.out.on HP.out.2.2.1) S (fun b hb => by rw [HP.out.2.2.2.1]; exact Nat.lt_trans (hS b hb) hlt) hfit (by rw [HP.out.2.2.2.1]; exact HFV.out.on HP.out.2.2.2.2)
            clear htu hp
            go_wp2_with (first
              | (go_at_call 29
                 refine Calls.mono HPT.out ?_
                 rintro e w2 ⟨v2, rfl, hv2, hb2⟩
                 have H2 : Hid (SlAt w2 S v2 (partsF f)) := SlAt.own hv2 (Nat.le_refl _)
                 have HB2 : Hid (Below (wr.setCell ⟨g, st0.length, none⟩ (.slice (some ⟨gf, o, none⟩) 0 0)).heap.size (wr.setCell ⟨g, st0.length, none⟩ (.slice (some ⟨gf, o, none⟩) 0 0)) w2) := hb2
                 have hsz2 : wr.heap.size ≤ w2.heap.size := by have := hb2.size; rw [HP.out.2.2.2.1] at this; exact this
                 obtain ⟨a2, k2, rfl, -, -, -⟩ := H2.out
                 have hrow1 := row_last HROW.out (.slice (some ⟨gf, o, none⟩) 0 0)
                 have hrow2 : (w2.alloc (.cells #[.slice a2 (partsF f).length k2] 44)).ownsRow w.heap.size 44 1 (.slice (some ⟨g, 0, none⟩) (st0.length + 1) cp) (st0.length + 1) (us0 ++ [.slice (some ⟨gf, o, none⟩) 0 0]) := row_stays hrow1 fun g' hg hlt' => (hb2.alloc hb2.size _).block g' hlt'
                 have HROW1 : Hid _ := hrow1
                 clear hv2 hb2 hrow1)
              | (at_builtin; go_loud (refine append_one _ rfl _ _ 68 rfl w.heap.size 44 ti _ 24 Tryz.underlying68 TI.out.1 TI.out.2.1 TI.out.2.2.1 TI.out.2.2.2 rfl (.slice (some ⟨g, 0, none⟩) (st0.length + 1) cp) (st0.length + 1) _ rfl hrow2 ⟨w2.heap.size, 0, none⟩ 1 (.slice a2 (partsF f).length k2) rfl (cell_one_new _ _ _) rfl (by unfold maxLen; omega) (by omega) (by simp; omega) ?_); intro g3 c3 w3 hown3 hgrow3)
              | fail)
            have HNX : Hid (∃ n', n' < n ∧ Inv w S q 67108864 n' (.slice (some ⟨g3, 0, none⟩) (st0.length + 1 + 1) c3) w3) := pushed hS hfit HUL.out HROW1.out (fun i hi hi' => (HS0.out i hi hi').on HP.out.2.2.2.2 (Nat.le_of_eq (Eq.symm HP.out.2.2.2.1))) (HNV.out.on HP.out.2.2.2.2 (Nat.le_of_eq (Eq.symm HP.out.2.2.2.1))) HP.out.2.1 HP.out.2.2.1 (by rw [HP.out.2.2.2.1]; exact hlt) H2.out HB2.out hown3 hgrow3 HRD2.out HOKS.out HMS2.out hnM
            clear hown3 hgrow3 hrow2
            obtain ⟨n', hn', hI'⟩ := HNX.out
            have HE := round_end HN.out hI' hn'
            go_round
            case rel => exact HE.1
            case measure => exact HE.2
        · have HNV : Hid (SlAt wr S (.slice (some ⟨gf, o + 1, none⟩) tp.length (ct - 1)) tp) := ⟨some ⟨gf, o + 1, none⟩, ct - 1, rfl, by omega, by omega, fun i hi => by
            obtain ⟨g', o', cur', u', e1, r2, r3, r4, r5⟩ := HFA.out (i + 1) (by simp; exact hi)
            cases e1
            exact ⟨gf, o + 1, cur', u', rfl, r2, r3, by rw [show o + 1 + i = o + (i + 1) by omega]; exact r4, r5⟩⟩
          have HP : Hid _ := popped hS HUL.out HROW.out HS0.out HNV.out HB.out HBEL.out
          by_cases hp : ∃ l, f = .plain l
          · obtain ⟨l, rfl⟩ := hp
            have hu : Value.iface tu uu = .iface 71 (.string (str l)) := HFV.out
            cases hu
            have ta_plain := fun (w : World) => ta_yes' (P := Tryz.prog) (x := 70) (v := .string (str l)) w Tryz.underlying71
            have hlz : out.length + l.length ≤ 33554432 := by
              have := HRD2.out
              have h2 := HQL.out
              rw [← this] at h2
              simp [fts, ft] at h2
              omega
            have HW : Hid _ := Tryz.Builder_WriteString_k w.heap.size w.heap.size (Lib.byteCells out) (str l) (wr.setCell ⟨g, st0.length, none⟩ (.slice (some ⟨gf, o + 1, none⟩) tp.length (ct - 1))) HP.out.2.1 (by rw [Lib.byteCells_length, str_size]; omega) HP.out.2.2.1.size
            go_wp2_with (first
              | (go_at_call 28; refine Calls.mono HW.out ?_; rintro e w5 ⟨rfl, hb5, hbel5, hk5⟩; have HB5 : Hid _ := hb5; have HL5 : Hid _ := hbel5; have HK5 : Hid _ := hk5; clear hb5 hbel5 hk5)
              | fail)
            have HE := round_end HN.out (wrote hS HP.out.1 HP.out.2.1 HP.out.2.2.1 (by rw [HP.out.2.2.2.1]; exact hlt) HB5.out HL5.out HK5.out HRD2.out HOKS.out HMS2.out hnM) (by have := HMS2.out; omega)
            go_round
            case rel => exact HE.1
            case measure => exact HE.2
          · have hfit : fits f := ok_fits f (HOKS.out (f :: tp) (by simp) f (by simp)) fun l e => hp ⟨l, e⟩
            have htu : tu ≠ 71 := fun e => by
              subst e
              have hfv := HFV.out
              cases f with
              | plain l => exact hp ⟨l, rfl⟩
              | val T => obtain ⟨cs, h, _⟩ := hfv; cases h
              | con s ks => obtain ⟨a, cap, h, _⟩ := hfv; cases h
            have ta_plain := fun (w : World) => ta_no' (P := Tryz.prog) (t := tu) (x := 70) (v := uu) w Tryz.underlying71 Tryz.zeroValue71 htu
            have HPT : Hid _ := parts_any f (.iface tu uu) (wr.setCell ⟨g, st0.length, none⟩ (.slice (some ⟨gf, o + 1, none⟩) tp.length (ct - 1))) (HTB.out.on HP.out.2.2.1) S (fun b hb => by rw [HP.out.2.2.2.1]; exact Nat.lt_trans (hS b hb) hlt) hfit (by rw [HP.out.2.2.2.1]; exact HFV.out.on HP.out.2.2.2.2)
            clear htu hp
            go_wp2_with (first
              | (go_at_call 29
                 refine Calls.mono HPT.out ?_
                 rintro e w2 ⟨v2, rfl, hv2, hb2⟩
                 have H2 : Hid (SlAt w2 S v2 (partsF f)) := SlAt.own hv2 (Nat.le_refl _)
                 have HB2 : Hid (Below (wr.setCell ⟨g, st0.length, none⟩ (.slice (some ⟨gf, o + 1, none⟩) tp.length (ct - 1))).heap.size (wr.setCell ⟨g, st0.length, none⟩ (.slice (some ⟨gf, o + 1, none⟩) tp.length (ct - 1))) w2) := hb2
                 have hsz2 : wr.heap.size ≤ w2.heap.size := by have := hb2.size; rw [HP.out.2.2.2.1] at this; exact this
                 obtain ⟨a2, k2, rfl, -, -, -⟩ := H2.out
                 have hrow1 := row_last HROW.out (.slice (some ⟨gf, o + 1, none⟩) tp.length (ct - 1))
                 have hrow2 : (w2.alloc (.cells #[.slice a2 (partsF f).length k2] 44)).ownsRow w.heap.size 44 1 (.slice (some ⟨g, 0, none⟩) (st0.length + 1) cp) (st0.length + 1) (us0 ++ [.slice (some ⟨gf, o + 1, none⟩) tp.length (ct - 1)]) := row_stays hrow1 fun g' hg hlt' => (hb2.alloc hb2.size _).block g' hlt'
                 have HROW1 : Hid _ := hrow1
                 clear hv2 hb2 hrow1)
              | (at_builtin; go_loud (refine append_one _ rfl _ _ 68 rfl w.heap.size 44 ti _ 24 Tryz.underlying68 TI.out.1 TI.out.2.1 TI.out.2.2.1 TI.out.2.2.2 rfl (.slice (some ⟨g, 0, none⟩) (st0.length + 1) cp) (st0.length + 1) _ rfl hrow2 ⟨w2.heap.size, 0, none⟩ 1 (.slice a2 (partsF f).length k2) rfl (cell_one_new _ _ _) rfl (by unfold maxLen; omega) (by omega) (by simp; omega) ?_); intro g3 c3 w3 hown3 hgrow3)
              | fail)
            have HNX : Hid (∃ n', n' < n ∧ Inv w S q 67108864 n' (.slice (some ⟨g3, 0, none⟩) (st0.length + 1 + 1) c3) w3) := pushed hS hfit HUL.out HROW1.out (fun i hi hi' => (HS0.out i hi hi').on HP.out.2.2.2.2 (Nat.le_of_eq (Eq.symm HP.out.2.2.2.1))) (HNV.out.on HP.out.2.2.2.2 (Nat.le_of_eq (Eq.symm HP.out.2.2.2.1))) HP.out.2.1 HP.out.2.2.1 (by rw [HP.out.2.2.2.1]; exact hlt) H2.out HB2.out hown3 hgrow3 HRD2.out HOKS.out HMS2.out hnM
            clear hown3 hgrow3 hrow2
            obtain ⟨n', hn', hI'⟩ := HNX.out
            have HE := round_end HN.out hI' hn'
            go_round
            case rel => exact HE.1
            case measure => exact HE.2

end Go.Proofs.YtpdmdcoaaboikaaGreatDoor.vt
