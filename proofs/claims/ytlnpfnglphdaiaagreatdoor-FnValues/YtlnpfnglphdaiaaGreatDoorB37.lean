/-
  The program's written, at a list of forms of types.
  The program's TyText, at every type; nothing that was there is turned.
  The cons of a list of datas, each with its place: how many are ahead of it, in which data, which one of its cons. No program.
  When a value is right: told of trees. No program.
-/
import Derived.Laws.Strings
import Derived.Test.YtlnpfnglphdaiaaGreatDoorB1
import Derived.Test.YtlnpfnglphdaiaaGreatDoorB2
import Derived.Test.YtlnpfnglphdaiaaGreatDoorB3
import Derived.Test.YtlnpfnglphdaiaaGreatDoorB4
import Derived.Test.YtlnpfnglphdaiaaGreatDoorB5
import Derived.Test.YtlnpfnglphdaiaaGreatDoorB6
import Derived.Test.YtlnpfnglphdaiaaGreatDoorB7
import Derived.Test.YtlnpfnglphdaiaaGreatDoorB8
import Derived.Test.YtlnpfnglphdaiaaGreatDoorB9
import Derived.Test.YtlnpfnglphdaiaaGreatDoorB10
import Derived.Test.YtlnpfnglphdaiaaGreatDoorB11
import Derived.Test.YtlnpfnglphdaiaaGreatDoorB12
import Derived.Test.YtlnpfnglphdaiaaGreatDoorB13
import Derived.Test.YtlnpfnglphdaiaaGreatDoorB14
import Derived.Test.YtlnpfnglphdaiaaGreatDoorB15
import Derived.Test.YtlnpfnglphdaiaaGreatDoorB16
import Derived.Test.YtlnpfnglphdaiaaGreatDoorB17
import Derived.Test.YtlnpfnglphdaiaaGreatDoorB18
import Derived.Test.YtlnpfnglphdaiaaGreatDoorB19
import Derived.Test.YtlnpfnglphdaiaaGreatDoorB20
import Derived.Test.YtlnpfnglphdaiaaGreatDoorB21
import Derived.Test.YtlnpfnglphdaiaaGreatDoorB22
import Derived.Test.YtlnpfnglphdaiaaGreatDoorB23
import Derived.Test.YtlnpfnglphdaiaaGreatDoorB24
import Derived.Test.YtlnpfnglphdaiaaGreatDoorB25
import Derived.Test.YtlnpfnglphdaiaaGreatDoorB26
import Derived.Test.YtlnpfnglphdaiaaGreatDoorB27
import Derived.Test.YtlnpfnglphdaiaaGreatDoorB28
import Derived.Test.YtlnpfnglphdaiaaGreatDoorB29
import Derived.Test.YtlnpfnglphdaiaaGreatDoorB30
import Derived.Test.YtlnpfnglphdaiaaGreatDoorB31
import Derived.Test.YtlnpfnglphdaiaaGreatDoorB32
import Derived.Test.YtlnpfnglphdaiaaGreatDoorB33
import Derived.Test.YtlnpfnglphdaiaaGreatDoorB34
import Derived.Test.YtlnpfnglphdaiaaGreatDoorB35
import Derived.Test.YtlnpfnglphdaiaaGreatDoorB36
namespace Go.Proofs.YtlnpfnglphdaiaaGreatDoor.vt
open Go Go.RowKit Go.Deep Go.Proofs.YtlnpfnglphdaiaaGreatDoor.rose Go.Proofs.YtlnpfnglphdaiaaGreatDoor.value Go.Proofs.YtlnpfnglphdaiaaGreatDoor
set_option linter.unusedVariables false
set_option linter.unusedSimpArgs false

set_option maxRecDepth 100000 in
theorem info_forms : (Tryz.prog.info? 44).map (fun i => (i.zero, i.size, i.bytes)) = some (some (.slice none 0 0), 1, 24) := by kernel_rfl

set_option maxRecDepth 100000 in
set_option maxHeartbeats 4000000 in
theorem written_any (fs : List Fm) (a : Option Addr) (cap : Nat) (w : World) (ht : Tab w) (S : Nat → Prop) (q : List UInt8) (hS : ∀ b, S b → b < w.heap.size) (hq : fts fs = q) (hql : q.length ≤ 33554432) (hm : msum fs ≤ 33554432) (hc : fs.length ≤ cap) (hcm : cap ≤ maxLen) (hok : ∀ f ∈ fs, okF f) (h : FsAt w S w.heap.size a fs) :
    Calls Tryz.prog 15 #[.slice a fs.length cap] w fun e w' => e = .returned (.string (str q)) ∧ Below w.heap.size w w' := by
  obtain ⟨ti, hti, hzz⟩ := Option.map_eq_some_iff.1 info_forms
  simp only [Prod.mk.injEq] at hzz
  obtain ⟨hz0, hz1, hz2⟩ := hzz
  have TI : Hid (Tryz.prog.info? 44 = some ti ∧ ti.zero = some (.slice none 0 0) ∧ ti.size = 1 ∧ ti.bytes = 24) := ⟨hti, hz0, hz1, hz2⟩
  have HF : Hid (FsAt w S w.heap.size a fs) := h
  have HTB : Hid (Tab w) := ht
  clear ht
  have HQ : Hid (fts fs = q) := hq
  have HM : Hid (msum fs ≤ 33554432) := hm
  have HQL : Hid (q.length ≤ 33554432) := hql
  have HOK : Hid (∀ f ∈ fs, okF f) := hok
  have HCAP : Hid (fs.length ≤ cap ∧ cap ≤ maxLen) := ⟨hc, hcm⟩
  clear hti hz0 hz1 hz2 h hq hm hok hql hc hcm
  go_enter Tryz.func15, Tryz.ntmps15
  go_wp2
  go_loopw [4] (fun v4 wr => Hid (∃ n, Inv w S q 67108864 n v4 wr)) (fun v4 wr => leastOf fun n => Inv w S q 67108864 n v4 wr)
  case atStart =>
    have hb0 : Below w.heap.size w (w.alloc (.cells #[.pointer none, .slice none 0 0] 67)) := (Below.refl _ _).alloc (Nat.le_refl _) _
    have hb : Below w.heap.size w ((w.alloc (.cells #[.pointer none, .slice none 0 0] 67)).alloc (.cells #[.slice a fs.length cap] 44)) := hb0.alloc hb0.size _
    have hsz : (w.alloc (.cells #[.pointer none, .slice none 0 0] 67)).heap.size = w.heap.size + 1 := by simp
    refine ⟨1 + msum fs, [fs], [], by simp [ms], by have := HM.out; omega, ?_, ?_, ?_, ?_, hb, by simp; omega⟩
    · refine StOwn.make (st0 := []) (us0 := []) (ut := .slice a fs.length cap) rfl ⟨rfl, Or.inr ⟨w.heap.size + 1, 1, #[.slice a fs.length cap], rfl, by omega, ?_, Nat.le_refl _, by unfold maxLen; omega, rfl, rfl⟩⟩ (fun i hi => absurd hi (Nat.not_lt_zero _)) ⟨a, cap, rfl, HCAP.out.1, HCAP.out.2, ?_⟩
      · rw [← hsz]; exact alloc_top _ _
      · exact (HF.out.on (Stays.of hS (Nat.le_refl _) hb)).mono hb.size
    · refine Or.inl ⟨Nat.le_refl _, .slice none 0 0, ?_, ⟨rfl, Or.inl ⟨rfl, rfl⟩⟩, by simp [Value.ownBlock]⟩
      rw [Below.heap_alloc _ _ _ (by simp)]
      exact alloc_top _ _
    · simp [rd, HQ.out]
    · intro l hl f hf
      simp only [List.mem_cons, List.mem_nil_iff, or_false] at hl
      subst hl
      exact HOK.out f hf
  case round =>
    obtain ⟨hI, hmin⟩ := leastOf_spec hrel.out
    generalize hn : leastOf (fun n => Inv w S q 67108864 n u4 wr) = n at hI hmin
    obtain ⟨st, out, hst, hnM, hSt, hB, hrd, hokS, hBel, hlt⟩ := hI
    have HN : Hid (leastOf (fun n => Inv w S q 67108864 n u4 wr) = n) := hn
    have HB : Hid (Lib.IsBuilderF 67 5 w.heap.size w.heap.size (Lib.byteCells out) wr) := hB
    have HRD : Hid (out ++ rd st = q) := hrd
    have HOKS : Hid (∀ l ∈ st, ∀ f ∈ l, okF f) := hokS
    have HBEL : Hid (Below w.heap.size w wr) := hBel
    have HMS : Hid (ms st = n) := hst
    clear hn hB hrd hokS hBel hmin hst hrel
    rcases List.eq_nil_or_concat st with rfl | ⟨st0, tp, hst⟩
    · have HOUT : Hid (out = q) := by
        show out = q
        have := HRD.out
        simpa [rd] using this
      obtain ⟨us, hul, hrow, -⟩ := hSt
      have hv : ∃ a0 c0, u4 = .slice a0 0 c0 := by
        rcases hrow.2 with ⟨h, _⟩ | ⟨g, c, cur, h, _⟩
        · exact ⟨_, _, h⟩
        · exact ⟨_, _, h⟩
      obtain ⟨a0, c0, rfl⟩ := hv
      clear hrow hul
      go_wp2_with (first
        | (go_at_call 30; refine (Tryz.Builder_String_any_k w.heap.size w.heap.size out wr HB.out HBEL.out.size).mono ?_; rintro e w5 ⟨rfl, -, hb5, -⟩; have HB5 : Hid _ := hb5; clear hb5)
        | fail)
      go_ret
      exact ⟨congrArg (fun x => Ending.returned (.string (str x))) HOUT.out, HBEL.out.trans HB5.out⟩
    · rw [List.concat_eq_append] at hst
      subst hst
      obtain ⟨g, cp, us0, ut, rfl, hul, hrow, hs0, hst⟩ := hSt.top
      have HS0 : Hid (∀ i (h : i < st0.length) (h' : i < us0.length), SlAt wr S us0[i] st0[i]) := hs0
      have HROW : Hid _ := hrow
      have HUL : Hid (us0.length = st0.length) := hul
      have c0 : wr.cell? ⟨g, st0.length, none⟩ = some ut := (row_cell hrow (by rw [List.getElem?_append_right (by omega)]; simp [hul])).1
      obtain ⟨hgb, hncp, hcpm, hgz, hfr0, curL, hcurL⟩ := row_facts hrow
      have hfr := hfr0 st0.length
      have HCUR : Hid (wr.heap[g]? = some (.cells curL 44 (0, 0))) := hcurL
      obtain ⟨at', ct, rfl, hct, hctm, hfa⟩ := hst
      have HFA : Hid (FsAt wr S wr.heap.size at' tp) := hfa
      have hlen : st0.length ≤ 67108864 := by
        have := ms_len (st0 ++ [tp])
        rw [HMS.out] at this
        simp at this
        omega
      clear hs0 hrow hul hfa hfr0 hcurL hSt
      have HMS2 : Hid (ms st0 + 1 + msum tp = n) := by have := HMS.out; rwa [ms_snoc] at this
      have HRD2 : Hid (out ++ (fts tp ++ rd st0) = q) := by have := HRD.out; rwa [rd_snoc] at this
      cases tp with
      | nil =>
        have c0' : wr.cell? ⟨g, st0.length, none⟩ = some (.slice at' 0 ct) := c0
        have hcl : st0.length ≤ cp := by omega
        clear c0
        go_wp2
        refine round_end HN.out (n' := ms st0) ⟨st0, out, rfl, by have := HMS2.out; omega, StOwn.pop HUL.out HROW.out HS0.out, HB.out, ?_, fun l hl f hf => HOKS.out l (by simp [hl]) f hf, HBEL.out, hlt⟩ (by have := HMS2.out; simp [msum] at this; omega)
        have := HRD2.out
        simpa [fts] using this
      | cons f tp =>
        obtain ⟨gf, o, cur, u, rfl, hgf, hgc, hcc, hfv⟩ := HFA.out 0 (by simp)
        rw [Nat.add_zero] at hcc
        have HFV : Hid (FV wr S wr.heap.size u f) := hfv
        obtain ⟨tu, uu, rfl⟩ := hfv.iface
        simp only [List.length_cons] at c0 hct
        clear hfv hgc
        by_cases hc1 : ct = 1
        · subst hc1
          have htp : tp = [] := List.eq_nil_of_length_eq_zero (by omega)
          subst htp
          simp only [List.length_nil, Nat.zero_add] at c0 hct
          have HNV : Hid (SlAt wr S (.slice (some ⟨gf, o, none⟩) 0 0) []) := ⟨some ⟨gf, o, none⟩, 0, rfl, Nat.le_refl _, Nat.zero_le _, fun i hi => absurd hi (Nat.not_lt_zero _)⟩
          have HP : Hid _ := popped hS HUL.out HROW.out HS0.out HNV.out HB.out HBEL.out
          by_cases hp : ∃ l, f = .plain l
          · obtain ⟨l, rfl⟩ := hp
            have hu : Value.iface tu uu = .iface 71 (.string (str l)) := HFV.out
            cases hu
            have ta_plain := fun (w : World) => ta_yes' (P := Tryz.prog) (x := 70) (v := .string (str l)) w Tryz.underlying71
            have hlz : out.length + l.length ≤ 33554432 := by
              have := HRD2.out
              have h2 := HQL.out
              rw [← this] at h2
              simp [fts, ft] at h2
              omega
            have HW : Hid _ := Tryz.Builder_WriteString_k w.heap.size w.heap.size (Lib.byteCells out) (str l) (wr.setCell ⟨g, st0.length, none⟩ (.slice (some ⟨gf, o, none⟩) 0 0)) HP.out.2.1 (by rw [Lib.byteCells_length, str_size]; omega) HP.out.2.2.1.size
            go_wp2_with (first
              | (go_at_call 28; refine Calls.mono HW.out ?_; rintro e w5 ⟨rfl, hb5, hbel5, hk5⟩; have HB5 : Hid _ := hb5; have HL5 : Hid _ := hbel5; have HK5 : Hid _ := hk5; clear hb5 hbel5 hk5)
              | fail)
            have HE := round_end HN.out (wrote hS HP.out.1 HP.out.2.1 HP.out.2.2.1 (by rw [HP.out.2.2.2.1]; exact hlt) HB5.out HL5.out HK5.out HRD2.out HOKS.out HMS2.out hnM) (by have := HMS2.out; omega)
            go_round
            case rel => exact HE.1
            case measure => exact HE.2
          · have hfit : fits f := ok_fits f (HOKS.out (f :: []) (by simp) f (by simp)) fun l e => hp ⟨l, e⟩
            have htu : tu ≠ 71 := fun e => by
              subst e
              have hfv := HFV.out
              cases f with
              | plain l => exact hp ⟨l, rfl⟩
              | val T => obtain ⟨cs, h, _⟩ := hfv; cases h
              | con s ks => obtain ⟨a, cap, h, _⟩ := hfv; cases h
            have ta_plain := fun (w : World) => ta_no' (P := Tryz.prog) (t := tu) (x := 70) (v := uu) w Tryz.underlying71 Tryz.zeroValue71 htu
            have HPT : Hid _ := parts_any f (.iface tu uu) (wr.setCell ⟨g, st0.length, none⟩ (.slice (some ⟨gf, o, none⟩) 0 0)) (HTB.out.on HP.out.2.2.1) S (fun b hb => by rw [HP.out.2.2.2.1]; exact Nat.lt_trans (hS b hb) hlt) hfit (by rw [HP.out.2.2.2.1]; exact HFV.out.on HP.out.2.2.2.2)
            clear htu hp
            go_wp2_with (first
              | (go_at_call 29
                 refine Calls.mono HPT.out ?_
                 rintro e w2 ⟨v2, rfl, hv2, hb2⟩
                 have H2 : Hid (SlAt w2 S v2 (partsF f)) := SlAt.own hv2 (Nat.le_refl _)
                 have HB2 : Hid (Below (wr.setCell ⟨g, st0.length, none⟩ (.slice (some ⟨gf, o, none⟩) 0 0)).heap.size (wr.setCell ⟨g, st0.length, none⟩ (.slice (some ⟨gf, o, none⟩) 0 0)) w2) := hb2
                 have hsz2 : wr.heap.size ≤ w2.heap.size := by have := hb2.size; rw [HP.out.2.2.2.1] at this; exact this
                 obtain ⟨a2, k2, rfl, -, -, -⟩ := H2.out
                 have hrow1 := row_last HROW.out (.slice (some ⟨gf, o, none⟩) 0 0)
                 have hrow2 : (w2.alloc (.cells #[.slice a2 (partsF f).length k2] 44)).ownsRow w.heap.size 44 1 (.slice (some ⟨g, 0, none⟩) (st0.length + 1) cp) (st0.length + 1) (us0 ++ [.slice (some ⟨gf, o, none⟩) 0 0]) := row_stays hrow1 fun g' hg hlt' => (hb2.alloc hb2.size _).block g' hlt'
                 have HROW1 : Hid _ := hrow1
                 clear hv2 hb2 hrow1)
              | (at_builtin; go_loud (refine append_one _ rfl _ _ 68 rfl w.heap.size 44 ti _ 24 Tryz.underlying68 TI.out.1 TI.out.2.1 TI.out.2.2.1 TI.out.2.2.2 rfl (.slice (some ⟨g, 0, none⟩) (st0.length + 1) cp) (st0.length + 1) _ rfl hrow2 ⟨w2.heap.size, 0, none⟩ 1 (.slice a2 (partsF f).length k2) rfl (cell_one_new _ _ _) rfl (by unfold maxLen; omega) (by omega) (by simp; omega) ?_); intro g3 c3 w3 hown3 hgrow3)
              | fail)
            have HNX : Hid (∃ n', n' < n ∧ Inv w S q 67108864 n' (.slice (some ⟨g3, 0, none⟩) (st0.length + 1 + 1) c3) w3) := pushed hS hfit HUL.out HROW1.out (fun i hi hi' => (HS0.out i hi hi').on HP.out.2.2.2.2 (Nat.le_of_eq (Eq.symm HP.out.2.2.2.1))) (HNV.out.on HP.out.2.2.2.2 (Nat.le_of_eq (Eq.symm HP.out.2.2.2.1))) HP.out.2.1 HP.out.2.2.1 (by rw [HP.out.2.2.2.1]; exact hlt) H2.out HB2.out hown3 hgrow3 HRD2.out HOKS.out HMS2.out hnM
            clear hown3 hgrow3 hrow2
            obtain ⟨n', hn', hI'⟩ := HNX.out
            have HE := round_end HN.out hI' hn'
            go_round
            case rel => exact HE.1
            case measure => exact HE.2
        · have HNV : Hid (SlAt wr S (.slice (some ⟨gf, o + 1, none⟩) tp.length (ct - 1)) tp) := ⟨some ⟨gf, o + 1, none⟩, ct - 1, rfl, by omega, by omega, fun i hi => by
            obtain ⟨g', o', cur', u', e1, r2, r3, r4, r5⟩ := HFA.out (i + 1) (by simp; exact hi)
            cases e1
            exact ⟨gf, o + 1, cur', u', rfl, r2, r3, by rw [show o + 1 + i = o + (i + 1) by omega]; exact r4, r5⟩⟩
          have HP : Hid _ := popped hS HUL.out HROW.out HS0.out HNV.out HB.out HBEL.out
          by_cases hp : ∃ l, f = .plain l
          · obtain ⟨l, rfl⟩ := hp
            have hu : Value.iface tu uu = .iface 71 (.string (str l)) := HFV.out
            cases hu
            have ta_plain := fun (w : World) => ta_yes' (P := Tryz.prog) (x := 70) (v := .string (str l)) w Tryz.underlying71
            have hlz : out.length + l.length ≤ 33554432 := by
              have := HRD2.out
              have h2 := HQL.out
              rw [← this] at h2
              simp [fts, ft] at h2
              omega
            have HW : Hid _ := Tryz.Builder_WriteString_k w.heap.size w.heap.size (Lib.byteCells out) (str l) (wr.setCell ⟨g, st0.length, none⟩ (.slice (some ⟨gf, o + 1, none⟩) tp.length (ct - 1))) HP.out.2.1 (by rw [Lib.byteCells_length, str_size]; omega) HP.out.2.2.1.size
            go_wp2_with (first
              | (go_at_call 28; refine Calls.mono HW.out ?_; rintro e w5 ⟨rfl, hb5, hbel5, hk5⟩; have HB5 : Hid _ := hb5; have HL5 : Hid _ := hbel5; have HK5 : Hid _ := hk5; clear hb5 hbel5 hk5)
              | fail)
            have HE := round_end HN.out (wrote hS HP.out.1 HP.out.2.1 HP.out.2.2.1 (by rw [HP.out.2.2.2.1]; exact hlt) HB5.out HL5.out HK5.out HRD2.out HOKS.out HMS2.out hnM) (by have := HMS2.out; omega)
            go_round
            case rel => exact HE.1
            case measure => exact HE.2
          · have hfit : fits f := ok_fits f (HOKS.out (f :: tp) (by simp) f (by simp)) fun l e => hp ⟨l, e⟩
            have htu : tu ≠ 71 := fun e => by
              subst e
              have hfv := HFV.out
              cases f with
              | plain l => exact hp ⟨l, rfl⟩
              | val T => obtain ⟨cs, h, _⟩ := hfv; cases h
              | con s ks => obtain ⟨a, cap, h, _⟩ := hfv; cases h
            have ta_plain := fun (w : World) => ta_no' (P := Tryz.prog) (t := tu) (x := 70) (v := uu) w Tryz.underlying71 Tryz.zeroValue71 htu
            have HPT : Hid _ := parts_any f (.iface tu uu) (wr.setCell ⟨g, st0.length, none⟩ (.slice (some ⟨gf, o + 1, none⟩) tp.length (ct - 1))) (HTB.out.on HP.out.2.2.1) S (fun b hb => by rw [HP.out.2.2.2.1]; exact Nat.lt_trans (hS b hb) hlt) hfit (by rw [HP.out.2.2.2.1]; exact HFV.out.on HP.out.2.2.2.2)
            clear htu hp
            go_wp2_with (first
              | (go_at_call 29
                 refine Calls.mono HPT.out ?_
                 rintro e w2 ⟨v2, rfl, hv2, hb2⟩
                 have H2 : Hid (SlAt w2 S v2 (partsF f)) := SlAt.own hv2 (Nat.le_refl _)
                 have HB2 : Hid (Below (wr.setCell ⟨g, st0.length, none⟩ (.slice (some ⟨gf, o + 1, none⟩) tp.length (ct - 1))).heap.size (wr.setCell ⟨g, st0.length, none⟩ (.slice (some ⟨gf, o + 1, none⟩) tp.length (ct - 1))) w2) := hb2
                 have hsz2 : wr.heap.size ≤ w2.heap.size := by have := hb2.size; rw [HP.out.2.2.2.1] at this; exact this
                 obtain ⟨a2, k2, rfl, -, -, -⟩ := H2.out
                 have hrow1 := row_last HROW.out (.slice (some ⟨gf, o + 1, none⟩) tp.length (ct - 1))
                 have hrow2 : (w2.alloc (.cells #[.slice a2 (partsF f).length k2] 44)).ownsRow w.heap.size 44 1 (.slice (some ⟨g, 0, none⟩) (st0.length + 1) cp) (st0.length + 1) (us0 ++ [.slice (some ⟨gf, o + 1, none⟩) tp.length (ct - 1)]) := row_stays hrow1 fun g' hg hlt' => (hb2.alloc hb2.size _).block g' hlt'
                 have HROW1 : Hid _ := hrow1
                 clear hv2 hb2 hrow1)
              | (at_builtin; go_loud (refine append_one _ rfl _ _ 68 rfl w.heap.size 44 ti _ 24 Tryz.underlying68 TI.out.1 TI.out.2.1 TI.out.2.2.1 TI.out.2.2.2 rfl (.slice (some ⟨g, 0, none⟩) (st0.length + 1) cp) (st0.length + 1) _ rfl hrow2 ⟨w2.heap.size, 0, none⟩ 1 (.slice a2 (partsF f).length k2) rfl (cell_one_new _ _ _) rfl (by unfold maxLen; omega) (by omega) (by simp; omega) ?_); intro g3 c3 w3 hown3 hgrow3)
              | fail)
            have HNX : Hid (∃ n', n' < n ∧ Inv w S q 67108864 n' (.slice (some ⟨g3, 0, none⟩) (st0.length + 1 + 1) c3) w3) := pushed hS hfit HUL.out HROW1.out (fun i hi hi' => (HS0.out i hi hi').on HP.out.2.2.2.2 (Nat.le_of_eq (Eq.symm HP.out.2.2.2.1))) (HNV.out.on HP.out.2.2.2.2 (Nat.le_of_eq (Eq.symm HP.out.2.2.2.1))) HP.out.2.1 HP.out.2.2.1 (by rw [HP.out.2.2.2.1]; exact hlt) H2.out HB2.out hown3 hgrow3 HRD2.out HOKS.out HMS2.out hnM
            clear hown3 hgrow3 hrow2
            obtain ⟨n', hn', hI'⟩ := HNX.out
            have HE := round_end HN.out hI' hn'
            go_round
            case rel => exact HE.1
            case measure => exact HE.2

end Go.Proofs.YtlnpfnglphdaiaaGreatDoor.vt

namespace Go.Proofs.YtlnpfnglphdaiaaGreatDoor.vt
open Go Go.RowKit Go.Deep Go.Proofs.YtlnpfnglphdaiaaGreatDoor.rose Go.Proofs.YtlnpfnglphdaiaaGreatDoor.value Go.Proofs.YtlnpfnglphdaiaaGreatDoor
set_option linter.unusedVariables false
set_option linter.unusedSimpArgs false

set_option maxRecDepth 100000 in
set_option maxHeartbeats 4000000 in
theorem implValueText (T : ValueD) (cs : List Value) (w : World) (hw : wt T ≤ 1048576) (ht : Tab w) (h : valueSh.rep w (· < w.heap.size) cs T) :
    Calls Tryz.prog 7 #[.agg cs.toArray] w fun e w' => e = .returned (.string (str (tl T))) ∧ Below w.heap.size w w' := by
  have HR : Hid (valueSh.rep w (· < w.heap.size) cs T) := h
  have HTB : Hid (Tab w) := ht
  clear ht
  obtain ⟨v0, v1, v2, v3, rfl⟩ := value_list h
  have o0 := valueSh.one h v0 (by simp)
  have o1 := valueSh.one h v1 (by simp)
  have o2 := valueSh.one h v2 (by simp)
  have o3 := valueSh.one h v3 (by simp)
  clear h
  have HW : Hid (∀ w1 : World, Below w.heap.size w w1 → Calls Tryz.prog 15 #[.slice (some ⟨w1.heap.size, 0, none⟩) 1 1] (w1.alloc (.cells #[.iface 43 (.agg #[v0, v1, v2, v3])] 70)) fun e w' => e = .returned (.string (str (tl T))) ∧ Below w.heap.size w1 w') := fun w1 hb1 => by
    have hb2 : Below w1.heap.size w1 (w1.alloc (.cells #[.iface 43 (.agg #[v0, v1, v2, v3])] 70)) := (Below.refl _ _).alloc (Nat.le_refl _) _
    have hT : TF w1 (· < w.heap.size) (.iface 43 (.agg #[v0, v1, v2, v3])) T := ⟨[v0, v1, v2, v3], rfl, valueSh.on HR.out fun b hb => hb1.block b hb⟩
    have hO := FsOwn.one (base := w.heap.size) (S := (· < w.heap.size)) (N := w1.heap.size) (f := .val T) hT hb1.size (fun b hb => Nat.lt_of_lt_of_le hb hb1.size) (Nat.le_refl _)
    obtain ⟨a, cap, e1, hc, hcm, hat⟩ := hO.at (by simp)
    simp only [List.length_cons, List.length_nil, Nat.zero_add, Value.slice.injEq, true_and] at e1
    obtain ⟨e1, e2⟩ := e1
    subst e1 e2
    have := tl_le T
    have := mt_le T
    refine (written_any [.val T] (some ⟨w1.heap.size, 0, none⟩) 1 _ (HTB.out.on (hb1.trans (hb2.mono hb1.size))) (· < w.heap.size) (tl T) (fun b hb => Nat.lt_of_lt_of_le hb (Nat.le_trans hb1.size hb2.size)) (by simp [fts, ft]) (by omega) (by simp [msum, mu]; omega) hc hcm (fun f hf => by simp at hf; subst hf; exact hw) hat).mono ?_
    rintro e w' ⟨rfl, hb⟩
    exact ⟨rfl, (hb2.mono hb1.size).trans (hb.mono (Nat.le_trans hb1.size hb2.size))⟩
  go_enter Tryz.func7, Tryz.ntmps7
  go_wp2_with fail
  have hal : Below w.heap.size w (w.alloc (.cells #[v0, v1, v2, v3] 26)) := (Below.refl _ _).alloc (Nat.le_refl _) _
  have hc := HW.out _ hal
  rw [show (w.alloc (.cells #[v0, v1, v2, v3] 26)).heap.size = w.heap.size + 1 by simp] at hc
  refine Calls.mono hc ?_
  rintro e w2 ⟨rfl, hb2⟩
  have HB : Hid (Below w.heap.size w w2) := hal.trans hb2
  clear hc hb2 hal
  go_wp2
  go_ret
  exact ⟨rfl, HB.out⟩

end Go.Proofs.YtlnpfnglphdaiaaGreatDoor.vt

namespace Go.Proofs.YtlnpfnglphdaiaaGreatDoor.data
open Go.RowKit Go.Proofs.YtlnpfnglphdaiaaGreatDoor.rose Go.Proofs.YtlnpfnglphdaiaaGreatDoor
set_option linter.unusedVariables false

/-- A con and where it stands. -/
structure Spot where
  tag : Nat
  i : Nat
  j : Nat
  c : con.ConD

def spotsC (t i j : Nat) : List con.ConD → List Spot
  | [] => []
  | c :: cs => ⟨t, i, j, c⟩ :: spotsC (t + 1) i (j + 1) cs
def spots (t i : Nat) : List DataD → List Spot
  | [] => []
  | d :: ds => spotsC t i 0 d.2.2 ++ spots (t + d.2.2.length) (i + 1) ds
def total : List DataD → Nat
  | [] => 0
  | d :: ds => d.2.2.length + total ds

theorem spotsC_append (t i j : Nat) (xs ys : List con.ConD) : spotsC t i j (xs ++ ys) = spotsC t i j xs ++ spotsC (t + xs.length) i (j + xs.length) ys := by
  induction xs generalizing t j with
  | nil => simp [spotsC]
  | cons x xs ih => simp [spotsC, ih]; congr 1 <;> omega
theorem spots_append (t i : Nat) (xs ys : List DataD) : spots t i (xs ++ ys) = spots t i xs ++ spots (t + total xs) (i + xs.length) ys := by
  induction xs generalizing t i with
  | nil => simp [spots, total]
  | cons x xs ih => simp [spots, total, ih, Nat.add_assoc]; congr 1; omega
theorem spotsC_length (t i j : Nat) (xs : List con.ConD) : (spotsC t i j xs).length = xs.length := by
  induction xs generalizing t j with
  | nil => rfl
  | cons x xs ih => simp [spotsC, ih]
theorem spots_length (t i : Nat) (xs : List DataD) : (spots t i xs).length = total xs := by
  induction xs generalizing t i with
  | nil => rfl
  | cons x xs ih => simp [spots, total, ih, spotsC_length]
theorem total_append (xs ys : List DataD) : total (xs ++ ys) = total xs + total ys := by
  induction xs with
  | nil => simp [total]
  | cons x xs ih => simp [total, ih]; omega
theorem total_le (xs : List DataD) : total xs ≤ wts xs := by
  induction xs with
  | nil => simp [total]
  | cons x xs ih =>
    obtain ⟨x0, x1, x2⟩ := x
    simp [total, wts, wt]; omega
theorem total_take {ks : List DataD} {i : Nat} (h : i < ks.length) : total (ks.take (i + 1)) = total (ks.take i) + ks[i].2.2.length := by
  rw [List.take_succ_eq_append_getElem h, total_append]; simp [total]
theorem total_take_le (ks : List DataD) (i : Nat) : total (ks.take i) ≤ total ks := by
  induction ks generalizing i with
  | nil => simp [total]
  | cons k ks ih =>
    cases i with
    | zero => simp [total]
    | succ i => simp [total]; exact ih i

/-- Those ahead of con j of data i. -/
def ahead (ks : List DataD) (i j : Nat) : List Spot := spots 0 0 (ks.take i) ++ spotsC (total (ks.take i)) i 0 (((ks[i]?.map (·.2.2)).getD []).take j)

theorem ahead_zero (ks : List DataD) (i : Nat) : ahead ks i 0 = spots 0 0 (ks.take i) := by simp [ahead, spotsC]
theorem ahead_start (ks : List DataD) : ahead ks 0 0 = [] := by simp [ahead, spots, spotsC]
theorem ahead_step {ks : List DataD} {i j : Nat} (hi : i < ks.length) (hj : j < ks[i].2.2.length) : ahead ks i (j + 1) = ahead ks i j ++ [⟨total (ks.take i) + j, i, j, ks[i].2.2[j]⟩] := by
  unfold ahead
  rw [List.getElem?_eq_getElem hi]
  simp only [Option.map_some, Option.getD_some]
  rw [List.take_succ_eq_append_getElem hj, spotsC_append]
  simp [spotsC, Nat.min_eq_left (Nat.le_of_lt hj)]
theorem ahead_next {ks : List DataD} {i : Nat} (hi : i < ks.length) : ahead ks i ks[i].2.2.length = ahead ks (i + 1) 0 := by
  rw [ahead_zero]
  unfold ahead
  rw [List.getElem?_eq_getElem hi]
  simp only [Option.map_some, Option.getD_some, List.take_length]
  rw [List.take_succ_eq_append_getElem hi, spots_append]
  simp [spots, Nat.min_eq_left (Nat.le_of_lt hi)]
theorem ahead_end (ks : List DataD) : ahead ks ks.length 0 = spots 0 0 ks := by rw [ahead_zero, List.take_length]
theorem ahead_pre (ks : List DataD) (i : Nat) : ahead ks i 0 <+: spots 0 0 ks := by
  rw [ahead_zero]
  conv => rhs; rw [← List.take_append_drop i ks, spots_append]
  exact List.prefix_append _ _
theorem ahead_prefix {ks : List DataD} {i j : Nat} (hi : i < ks.length) (hj : j ≤ ks[i].2.2.length) : ahead ks i j <+: spots 0 0 ks := by
  refine List.IsPrefix.trans ?_ (ahead_pre ks (i + 1))
  rw [← ahead_next hi]
  unfold ahead
  rw [List.getElem?_eq_getElem hi]
  simp only [Option.map_some, Option.getD_some, List.take_length]
  rw [List.prefix_append_right_inj]
  conv => rhs; rw [← List.take_append_drop j ks[i].2.2, spotsC_append]
  exact List.prefix_append _ _
theorem ahead_length {ks : List DataD} {i j : Nat} (hi : i < ks.length) (hj : j ≤ ks[i].2.2.length) : (ahead ks i j).length = total (ks.take i) + j := by
  unfold ahead
  rw [List.getElem?_eq_getElem hi]
  simp [spots_length, spotsC_length, Nat.min_eq_left hj]

/-- The first spot that is so. -/
theorem find_pre {l pre : List Spot} {x : Spot} {p : Spot → Bool} (h : pre ++ [x] <+: l) (hn : ∀ y ∈ pre, p y = false) (hx : p x = true) : l.find? p = some x := by
  obtain ⟨r, rfl⟩ := h
  rw [List.append_assoc, List.find?_append, List.find?_eq_none.2 (by simpa using hn)]
  simp [hx]
theorem find_no {l : List Spot} {p : Spot → Bool} (h : ∀ y ∈ l, p y = false) : l.find? p = none := List.find?_eq_none.2 (by simpa using h)

def named (name : ByteArray) (s : Spot) : Bool := s.c.1.toList == name.toList
def tagged (tag : Int) (s : Spot) : Bool := decide ((s.tag : Int) = tag)

def place (s : Option Spot) : Int × Int × Int := match s with
  | some s => ((s.tag : Int), (s.i : Int), (s.j : Int))
  | none => (-1, -1, -1)
def placeB (ks : List DataD) (name : ByteArray) : Int × Int × Int := place ((spots 0 0 ks).find? (named name))
def tagB (ks : List DataD) (tag : Int) : Int × Int × Int := place ((spots 0 0 ks).find? (tagged tag))

theorem spotsC_tag {t i j : Nat} {xs : List con.ConD} {s : Spot} (h : s ∈ spotsC t i j xs) : t ≤ s.tag ∧ s.tag < t + xs.length := by
  induction xs generalizing t j with
  | nil => simp [spotsC] at h
  | cons x xs ih =>
    simp only [spotsC, List.mem_cons] at h
    rcases h with rfl | h
    · simp
    · have := ih h; simp; omega
theorem spots_tag {t i : Nat} {xs : List DataD} {s : Spot} (h : s ∈ spots t i xs) : t ≤ s.tag ∧ s.tag < t + total xs := by
  induction xs generalizing t i with
  | nil => simp [spots] at h
  | cons x xs ih =>
    simp only [spots, List.mem_append] at h
    rcases h with h | h
    · have := spotsC_tag h; simp [total]; omega
    · have := ih h; simp [total]; omega
/-- A tag that is within data i's. -/
theorem tag_at {ks : List DataD} {i : Nat} (hi : i < ks.length) {tag : Int} (h1 : (total (ks.take i) : Int) ≤ tag) (h2 : tag - total (ks.take i) < ks[i].2.2.length) : tagB ks tag = (tag, (i : Int), tag - total (ks.take i)) := by
  obtain ⟨j, rfl⟩ : ∃ j : Nat, tag = ((total (ks.take i) + j : Nat) : Int) := ⟨(tag - total (ks.take i)).toNat, by omega⟩
  have hj : j < ks[i].2.2.length := by omega
  have hp : ahead ks i j ++ [⟨total (ks.take i) + j, i, j, ks[i].2.2[j]⟩] <+: spots 0 0 ks := by rw [← ahead_step hi hj]; exact ahead_prefix hi hj
  unfold tagB
  rw [find_pre (x := ⟨total (ks.take i) + j, i, j, ks[i].2.2[j]⟩) hp]
  · simp [place]; omega
  · intro y hy
    unfold tagged
    rw [decide_eq_false]
    unfold ahead at hy
    rw [List.getElem?_eq_getElem hi] at hy
    simp only [Option.map_some, Option.getD_some, List.mem_append] at hy
    rcases hy with hy | hy
    · have := spots_tag hy; omega
    · have := spotsC_tag hy
      rw [List.length_take, Nat.min_eq_left (Nat.le_of_lt hj)] at this
      omega
  · simp [tagged]
theorem tag_none {ks : List DataD} {tag : Int} (h : tag < 0 ∨ (total ks : Int) ≤ tag) : tagB ks tag = (-1, -1, -1) := by
  unfold tagB
  rw [find_no]
  · rfl
  · intro y hy
    have := spots_tag hy
    simp [tagged]; omega

end Go.Proofs.YtlnpfnglphdaiaaGreatDoor.data

namespace Go.Proofs.YtlnpfnglphdaiaaGreatDoor.value
open Go Go.RowKit Go.Proofs.YtlnpfnglphdaiaaGreatDoor.rose Go.Proofs.YtlnpfnglphdaiaaGreatDoor
set_option linter.unusedVariables false

abbrev DataD := data.DataD

theorem spotsC_at {t i j : Nat} {xs : List con.ConD} {s : data.Spot} (h : s ∈ data.spotsC t i j xs) : s.i = i ∧ j ≤ s.j ∧ xs[s.j - j]? = some s.c := by
  induction xs generalizing t j with
  | nil => simp [data.spotsC] at h
  | cons x xs ih =>
    simp only [data.spotsC, List.mem_cons] at h
    rcases h with rfl | h
    · simp
    · obtain ⟨h1, h2, h3⟩ := ih h
      refine ⟨h1, by omega, ?_⟩
      rw [show s.j - j = (s.j - (j + 1)) + 1 by omega, List.getElem?_cons_succ]
      exact h3
theorem spots_at {t i : Nat} {xs : List DataD} {s : data.Spot} (h : s ∈ data.spots t i xs) : i ≤ s.i ∧ ∃ d, xs[s.i - i]? = some d ∧ d.2.2[s.j]? = some s.c := by
  induction xs generalizing t i with
  | nil => simp [data.spots] at h
  | cons x xs ih =>
    simp only [data.spots, List.mem_append] at h
    rcases h with h | h
    · obtain ⟨h1, h2, h3⟩ := spotsC_at h
      exact ⟨by omega, x, by simp [h1], by simpa using h3⟩
    · obtain ⟨h1, d, h2, h3⟩ := ih h
      refine ⟨by omega, d, ?_, h3⟩
      rw [show s.i - i = (s.i - (i + 1)) + 1 by omega, List.getElem?_cons_succ]
      exact h2

/-- How many types the first con of that name has. -/
def argsOf (ks : List DataD) (s : ByteArray) : Option Nat := ((data.spots 0 0 ks).find? (data.named s)).map fun y => y.c.2.length

def wordB (n : Int) : Bool := decide (-1073741824 ≤ n) && decide (n ≤ 1073741823)

/-- A value is right, its kids aside. -/
def OkL (ks : List DataD) (V : ValueD) : Prop :=
  (V.x.1 = 1 ∧ wordB V.x.2.1 = true ∧ V.x.2.2 = ⟨#[]⟩ ∧ V.kids.length = 0) ∨ (V.x.1 = 3 ∧ V.x.2.1 = 0 ∧ V.x.2.2 = ⟨#[]⟩ ∧ V.kids.length = 0) ∨ (V.x.1 = 2 ∧ V.x.2.1 = 0 ∧ argsOf ks V.x.2.2 = some V.kids.length)

mutual
/-- A value is right, however deep. -/
def OkP (ks : List DataD) : ValueD → Prop
  | .mk x vs => OkL ks (.mk x vs) ∧ OkS ks vs
def OkS (ks : List DataD) : List ValueD → Prop
  | [] => True
  | v :: vs => OkP ks v ∧ OkS ks vs
end
theorem okS_iff {ks : List DataD} {vs : List ValueD} : OkS ks vs ↔ ∀ v ∈ vs, OkP ks v := by
  induction vs with
  | nil => simp [OkS]
  | cons v vs ih => simp [OkS, ih]
theorem okP_iff {ks : List DataD} {V : ValueD} : OkP ks V ↔ OkL ks V ∧ ∀ v ∈ V.kids, OkP ks v := by
  cases V with
  | mk x vs => rw [OkP, okS_iff]; exact Iff.rfl

mutual
/-- How deep it is. -/
def dp : ValueD → Nat
  | .mk _ ks => dps ks + 1
def dps : List ValueD → Nat
  | [] => 0
  | k :: ks => max (dp k) (dps ks)
end
theorem dps_take {ks : List ValueD} {i : Nat} (h : i < ks.length) : dps (ks.take (i + 1)) = max (dps (ks.take i)) (dp ks[i]) := by
  induction ks generalizing i with
  | nil => simp at h
  | cons k ks ih =>
    cases i with
    | zero => simp [dps]
    | succ i => simp [dps, ih (by simpa using h)]
theorem dps_le {ks : List ValueD} {d : Nat} : dps ks ≤ d ↔ ∀ k ∈ ks, dp k ≤ d := by
  induction ks with
  | nil => simp [dps]
  | cons k ks ih => simp [dps, Nat.max_le, ih]
theorem dp_kids (V : ValueD) : dp V = dps V.kids + 1 := by cases V; rfl
theorem dp_kid {V v : ValueD} (h : v ∈ V.kids) : dp v + 1 ≤ dp V := by
  rw [dp_kids V]
  have := dps_le.1 (Nat.le_refl (dps V.kids)) v h
  omega
theorem dp_pos (V : ValueD) : 0 < dp V := by cases V; simp [dp]
theorem dp_le (T : ValueD) : dp T ≤ wt T + 1 := by
  induction T using ind with
  | h x ks ih =>
    have : dps ks ≤ ks.length + wts ks := by
      clear x
      induction ks with
      | nil => simp [dps]
      | cons k ks ih2 =>
        have h1 := ih k (by simp)
        have h2 := ih2 (fun q hq => ih q (by simp [hq]))
        simp [dps, wts]; omega
    obtain ⟨x0, x1, x2⟩ := x
    simp [dp, wt]; omega

mutual
/-- It and all that is within it. -/
def allT : ValueD → List ValueD
  | .mk x ks => .mk x ks :: allS ks
def allS : List ValueD → List ValueD
  | [] => []
  | k :: ks => allT k ++ allS ks
end
theorem allS_append (xs ys : List ValueD) : allS (xs ++ ys) = allS xs ++ allS ys := by
  induction xs with
  | nil => simp [allS]
  | cons k ks ih => simp [allS, ih]
theorem all_le (T : ValueD) : (allT T).length ≤ wt T + 1 := by
  induction T using ind with
  | h x ks ih =>
    obtain ⟨x0, x1, x2⟩ := x
    have : (allS ks).length ≤ ks.length + wts ks := by
      clear x0 x1 x2
      induction ks with
      | nil => simp [allS]
      | cons k ks ih2 =>
        have h1 := ih k (by simp)
        have h2 := ih2 fun q hq => ih q (by simp [hq])
        simp [allS, wts]
        omega
    simp [allT, wt]
    omega
theorem allT_kids (V : ValueD) : (allT V).length = (allS V.kids).length + 1 := by cases V; simp [allT, Rose.kids]
theorem len_all (l : List ValueD) : l.length ≤ (allS l).length := by
  induction l with
  | nil => simp [allS]
  | cons k ks ih => cases k with | mk x q => simp [allS, allT]; omega

noncomputable def okB (ks : List DataD) (V : ValueD) : Bool := @decide (OkP ks V) (Classical.propDecidable _)
theorem okB_true {ks : List DataD} {V : ValueD} (h : OkP ks V) : okB ks V = true := by unfold okB; exact @decide_eq_true _ (Classical.propDecidable _) h
theorem okB_false {ks : List DataD} {V : ValueD} (h : ¬ OkP ks V) : okB ks V = false := by unfold okB; exact @decide_eq_false _ (Classical.propDecidable _) h
theorem okB_iff {ks : List DataD} {V : ValueD} : okB ks V = true ↔ OkP ks V := by
  by_cases h : OkP ks V
  · simp [okB_true h, h]
  · simp [okB_false h, h]
theorem ret_b {a b : Bool} (h : a = b) : Ending.returned (.bool a) = Ending.returned (.bool b) := by rw [h]

/-- What ValueOk says. -/
noncomputable def rightB (ks : List DataD) (V : ValueD) : Bool := decide (dp V ≤ 200) && okB ks V

theorem bytes_ext {a b : ByteArray} (h : a.toList = b.toList) : a = b := by
  rw [ByteArray.toList_eq, ByteArray.toList_eq] at h
  obtain ⟨⟨x⟩⟩ := a
  obtain ⟨⟨y⟩⟩ := b
  simp at h
  rw [h]

end Go.Proofs.YtlnpfnglphdaiaaGreatDoor.value
