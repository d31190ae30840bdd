/-
  The model's Depths and Verify, at every list of functions; nothing that was there is turned.
  The model's Verify, at every list of functions; nothing that was there is turned.
  The model's words of a heap (chapter 17): what they answer; nothing is turned.
  The model's HeapNew, at every number; nothing that was there is turned.
-/
import Derived.Deep.RegionLaw
import Derived.Deep.LoopGhost
import Derived.Deep.QuietTactic
import Derived.BigQuiet
import Derived.WalkSmall
import Derived.Laws.MakeOwn
import Derived.Deep.OwnRows
import Derived.Test.YtjibmpebebephaaGreatDoorC1
import Derived.Test.YtjibmpebebephaaGreatDoorC2
import Derived.Test.YtjibmpebebephaaGreatDoorC3
import Derived.Test.YtjibmpebebephaaGreatDoorC4
import Derived.Test.YtjibmpebebephaaGreatDoorC5
import Derived.Test.YtjibmpebebephaaGreatDoorC6
import Derived.Test.YtjibmpebebephaaGreatDoorC7
import Derived.Test.YtjibmpebebephaaGreatDoorC8
import Derived.Test.YtjibmpebebephaaGreatDoorC9
import Derived.Test.YtjibmpebebephaaGreatDoorC10
import Derived.Test.YtjibmpebebephaaGreatDoorC11
import Derived.Test.YtjibmpebebephaaGreatDoorC12
import Derived.Test.YtjibmpebebephaaGreatDoorC13
import Derived.Test.YtjibmpebebephaaGreatDoorC14
namespace Go.Proofs.YtjibmpebebephaaGreatDoor.fun
open Go Go.RowKit Go.Deep Go.Proofs.YtjibmpebebephaaGreatDoor.rose Go.Proofs.YtjibmpebebephaaGreatDoor Go.Proofs.YtjibmpebebephaaGreatDoor.ints
set_option linter.unusedVariables false
set_option linter.unusedSimpArgs false

theorem funsB_parts {ks : List FunD} (h : funsB ks = true) {j : Nat} (hj : j < ks.length) : inB ks[j].1 0 20 = true ∧ inB ks[j].2.length 1 3000 = true ∧ ∀ q (hq : q < ks[j].2.length), opB ks j ks[j] ks[j].2[q].1 ks[j].2[q].2.1 ks[j].2[q].2.2 = true := by
  unfold funsB at h
  simp only [Bool.and_eq_true] at h
  have h2 := List.all_eq_true.1 h.2 j (List.mem_range.2 hj)
  rw [List.getElem?_eq_getElem hj] at h2
  have h3 : funB ks j ks[j] = true := h2
  unfold funB at h3
  simp only [Bool.and_eq_true] at h3
  refine ⟨h3.1.1.1, h3.1.1.2, fun q hq => ?_⟩
  exact List.all_eq_true.1 h3.1.2 _ (List.getElem_mem hq)
theorem funsB_free_in {ks : List FunD} (h : funsB ks = true) (n : Int) : 0 ≤ freeAt ks n ∧ freeAt ks n ≤ 20 := by
  unfold freeAt
  rcases Nat.lt_or_ge n.toNat ks.length with q | q
  · rw [List.getElem?_eq_getElem q]
    exact inB_yes (funsB_parts h q).1
  · rw [List.getElem?_eq_none q]; decide

theorem irow_lit (w : World) {base : Nat} (h : base ≤ w.heap.size) : IRow (w.alloc (.cells #[] 3)) base (.slice (some ⟨w.heap.size, 0, none⟩) 0 0) [] :=
  ⟨World.ownsRow_lit w #[] 0 h (Nat.zero_le _) rfl, fun x hx => by cases hx⟩
theorem irow_base {w : World} {base base' : Nat} {v : Value} {l : List Int} (h : IRow w base v l) (hb : base' ≤ base) : IRow w base' v l := ⟨own_base h.1 hb, h.2⟩
theorem ret_two {v v' : Value} {a b : Bool} (h1 : v = v') (h2 : a = b) : Ending.returned (.tuple #[v, .bool a]) = Ending.returned (.tuple #[v', .bool b]) := by rw [h1, h2]

/-- What was found has grown by one. -/
theorem WK.push {w w3 : World} {g : Nat} {vd vt : Value} {D T : List Int} {ok : Bool} {x : Int} {a3 : Option Addr} {c3 : Nat} {X : Obj} (h : WK w g vd vt D T ok) (hx : InR x)
    (o3 : w3.ownsRow (g + 1) 3 1 (.slice a3 (D.length + 1) c3) (D.length + 1) (D.map (Value.int .i64) ++ [.int .i64 x])) (g3 : (w.alloc X).grownBy w3 vd.ownBlock)
    (e3 : (Value.slice a3 (D.length + 1) c3).ownBlock = vd.ownBlock ∨ (Value.slice a3 (D.length + 1) c3).ownBlock = some (w.alloc X).heap.size) :
    WK (w3.setCell ⟨g, 0, none⟩ (.slice a3 (D.length + 1) c3)) g (.slice a3 (D.length + 1) c3) vt (D ++ [x]) T ok ∧ Below g w (w3.setCell ⟨g, 0, none⟩ (.slice a3 (D.length + 1) c3)) := by
  have hg := h.lt
  have hZ : (w.alloc X).heap.size = w.heap.size + 1 := by simp
  have hd := fun k hk => h.rd.lt k hk
  have ht := fun k hk => h.rt.lt k hk
  have hG3 : w3.heap[g]? = some (.cells #[vd, vt, .bool ok] 136) := (g3.block g (by omega) (fun e => by have := (hd g e.symm).1; omega)).trans ((Below.heap_alloc _ _ _ hg).trans h.blk)
  refine ⟨⟨by simp [World.setCell, Array.getElem?_modify, hG3], ?_, ?_, ?_⟩, ?_⟩
  · refine irow_same (w := w3) ⟨?_, fun y hy => ?_⟩ fun k hk => Below.heap_setCell _ _ _ _ ?_
    · rw [List.length_append, List.length_singleton, List.map_append]; exact o3
    · rcases List.mem_append.1 hy with hy | hy
      · exact h.rd.2 y hy
      · simp only [List.mem_singleton] at hy; subst hy; exact hx
    · show k ≠ g
      rcases e3 with e | e
      · rw [e] at hk; have := (hd k hk).1; omega
      · rw [e] at hk; simp only [Option.some.injEq] at hk; omega
  · refine irow_same h.rt fun k hk => ?_
    have := ht k hk
    rw [Below.heap_setCell _ _ _ _ (by show k ≠ g; omega)]
    exact (g3.block k (by omega) (fun e => h.ap k e.symm hk)).trans (Below.heap_alloc _ _ _ (by omega))
  · intro k hk hk2
    rcases e3 with e | e
    · exact h.ap k (by rw [← e]; exact hk) hk2
    · rw [e] at hk; simp only [Option.some.injEq] at hk; have := (ht k hk2).2; omega
  · refine Below.setCell ?_ (by simp) _
    exact ((Below.refl g w).alloc (by omega) _).grown g3 (by omega) (fun k hk => by have := (hd k hk).1; omega)

/-- What is to do is another row. -/
theorem WK.other {w w3 : World} {g : Nat} {vd vt v3 : Value} {D T T' : List Int} {ok : Bool} (h : WK w g vd vt D T ok) (hb : Below w.heap.size w w3) (h3 : IRow w3 w.heap.size v3 T') : WK (w3.setCell ⟨g, 1, none⟩ v3) g vd v3 D T' ok ∧ Below g w (w3.setCell ⟨g, 1, none⟩ v3) := by
  have hg := h.lt
  have hG3 := (hb.block g hg).trans h.blk
  refine ⟨⟨by simp [World.setCell, Array.getElem?_modify, hG3], ?_, ?_, ?_⟩, (hb.mono (by omega)).setCell (by simp) _⟩
  · refine irow_same (h.rd.keep hb) fun k hk => Below.heap_setCell _ _ _ _ ?_
    have := h.rd.lt k hk; show k ≠ g; omega
  · refine irow_base (irow_same h3 fun k hk => Below.heap_setCell _ _ _ _ ?_) (by omega)
    have := h3.lt k hk; show k ≠ g; omega
  · intro k hk hk2
    have := h.rd.lt k hk
    have := h3.lt k hk2
    omega

theorem infoW : (Tryz.prog.info? 136).map (fun i => (i.zero, i.size, i.bytes)) = some (some (.agg #[.slice none 0 0, .slice none 0 0, .bool false]), 3, 56) := by kernel_rfl

set_option maxRecDepth 100000 in
set_option maxHeartbeats 16000000 in
theorem specDepths (ks : List FunD) (i : Int) (v : Value) (w : World) (hw : ks.length + wts ks ≤ 1048576) (hi : InR i) (h : funSh.slice.rep w (· < w.heap.size) [v] ks) :
    Calls Tryz.prog 71 #[v, .int .i64 i] w fun e w' => (∃ v', e = .returned (.tuple #[v', .bool (depthsF ks i).2]) ∧ IRow w' w.heap.size v' (depthsF ks i).1) ∧ Below w.heap.size w w' := by
  obtain ⟨a, cap, css, rfl, hcap, hmax, hrow, hk⟩ := funs_open h
  have HR : Hid (RowAt w (· < w.heap.size) 2 a ks.length css ∧ ∀ i (h : i < ks.length), funSh.rep w (· < w.heap.size) (css i) ks[i]) := ⟨hrow, hk⟩
  have hmx : (ks.length : Int) ≤ 9223372036854775807 := by omega
  have hcall := specFunsOk ks _ w hw h
  have hi1 : -9223372036854775808 ≤ i := hi.1
  have hi2 : i ≤ 9223372036854775807 := hi.2
  obtain ⟨r, hr⟩ : ∃ r, r = depthsF ks i := ⟨_, rfl⟩
  rw [← hr]
  have HQ : Hid (r = depthsF ks i) := hr
  clear h hcap hmax hrow hk hw hr hi
  rcases q1 : funsB ks with _ | _
  · have HF : Hid (r = ([], false)) := by show _ = _; rw [HQ.out]; exact depthsF_off (.inl q1)
    rw [q1] at hcall
    clear q1
    go_enter Tryz.func71, Tryz.ntmps71
    go_wp2_with fail
    refine hcall.mono ?_
    rintro e w1 ⟨rfl, hb⟩
    clear hcall
    go_wp2
    go_ret2
    rw [HF.out]
    exact ⟨⟨_, rfl, irow_lit w1 hb.size⟩, hb.alloc hb.size _⟩
  · rw [q1] at hcall
    have Q1 : Hid (funsB ks = true) := q1
    clear q1
    rcases q2 : inB i 0 ((ks.length : Int) - 1) with _ | _
    · have HF : Hid (r = ([], false)) := by
        show _ = _; rw [HQ.out]
        have := inB_no q2
        exact depthsF_off (by omega)
      go_enter Tryz.func71, Tryz.ntmps71
      go_wp2_with fail
      refine hcall.mono ?_
      rintro e w1 ⟨rfl, hb⟩
      clear hcall
      go_wp2_with (go_at_call 23; refine (in_is (by assumption)).mono ?_; rintro e w' ⟨rfl, hx⟩; subst w')
      go_ret2
      rw [HF.out]
      exact ⟨⟨_, rfl, irow_lit w1 hb.size⟩, hb.alloc hb.size _⟩
    · have q3 := inB_yes q2
      obtain ⟨ii, rfl⟩ : ∃ ii : Nat, i = ii := ⟨i.toNat, by omega⟩
      have hlt : ii < ks.length := by omega
      have hltI : (ii : Int) < (ks.length : Int) := by omega
      obtain ⟨b, o, rfl, hS, hc⟩ := HR.out.1 ii hlt
      obtain ⟨y0, os, a2, c2, hT, hcs, g0, hrep⟩ := fun_open (HR.out.2 ii hlt)
      rw [hcs] at hc
      have d1 : w.cell? ⟨b, o + ii * 2 + 1, none⟩ = some (.slice a2 os.length c2) := hc 1 _ rfl
      have HP := funsB_parts Q1.out hlt
      have hos : ks[ii].2 = os := by rw [hT]
      have hl1 : 1 ≤ os.length ∧ os.length ≤ 3000 := by have := inB_yes HP.2.1; rw [hos] at this; omega
      have HO : Hid (∀ q (hq : q < os.length), opB ks ii ks[ii] os[q].1 os[q].2.1 os[q].2.2 = true) := fun q hq => by
        have := HP.2.2 q (by rw [hos]; exact hq)
        simpa only [hos] using this
      have HOS : Hid (op.opSh.slice.rep w (· < w.heap.size) [.slice a2 os.length c2] os) := hrep
      have HD : Hid (b < w.heap.size ∧ w.cell? ⟨b, o + ii * 2 + 1, none⟩ = some (.slice a2 os.length c2)) := ⟨hS, d1⟩
      have HBAD : Hid (¬ Good os → r = ([], false)) := fun hg => by rw [HQ.out]; exact depthsF_bad hlt (by rw [hos]; exact hg)
      have HGOOD : Hid (Good os → r = (dOf os, true)) := fun hg => by rw [HQ.out, depthsF_good hlt Q1.out (by rw [hos]; exact hg), hos]
      obtain ⟨ti, hti, hz0, hz1, hz2⟩ := int_info
      have TI : Hid (Tryz.prog.info? 3 = some ti ∧ ti.zero = some (.int .i64 0) ∧ ti.size = 1 ∧ ti.bytes = 8) := ⟨hti, hz0, hz1, hz2⟩
      have hmo : (os.length : Int) ≤ 9223372036854775807 := by omega
      clear hc hcs hT hrep HP hos d1 hti hz0 hz1 hz2 q3 hi1 hi2
      go_enter Tryz.func71, Tryz.ntmps71
      go_wp2_with fail
      refine hcall.mono ?_
      rintro e w1 ⟨rfl, hb⟩
      have B1 : Hid (Below w.heap.size w w1) := hb
      clear hcall hb
      go_wp2_with (go_at_call 23; refine (in_is (by assumption)).mono ?_; rintro e w' ⟨rfl, hx⟩; subst w')
      go_loopw [7] (fun v7 wr => ∃ (k : Nat) (vd : Value), k ≤ os.length ∧ v7 = .int .i64 k ∧ Hid (WK wr w1.heap.size vd (.slice none 0 0) (List.replicate k (-1)) [] true ∧ Below w1.heap.size w1 wr)) (fun v7 _ => os.length - (intOf v7).toNat)
      case atStart => exact ⟨0, .slice none 0 0, Nat.zero_le _, rfl, ⟨⟨alloc_top _ _, IRow.nil _ _, IRow.nil _ _, fun q h => by cases h⟩, (Below.refl _ _).alloc (Nat.le_refl _) _⟩⟩
      case round =>
        obtain ⟨k, vd, hk, rfl, HK⟩ := hrel
        have BW : Hid (Below w.heap.size w wr) := B1.out.trans (HK.out.2.mono B1.out.size)
        have e1 : wr.cell? ⟨b, o + ii * 2 + 1, none⟩ = some (.slice a2 os.length c2) := (BW.out.cell (p := ⟨b, o + ii * 2 + 1, none⟩) HD.out.1).trans HD.out.2
        have k0 : wr.cell? ⟨w1.heap.size, 0, none⟩ = some vd := blk_cellW (i := 0) HK.out.1.blk rfl
        by_cases hlk : k < os.length
        · obtain ⟨av, cv, hv⟩ := own_form HK.out.1.rd.1
          have HV : Hid (vd = .slice av (List.replicate k (-1)).length cv) := hv
          have RD : Hid ((wr.alloc (.cells #[.int .i64 (-1)] 3)).ownsRow (w1.heap.size + 1) 3 1 vd (List.replicate k (-1)).length ((List.replicate k (-1)).map (Value.int .i64))) := (HK.out.1.rd.keep ((Below.refl _ _).alloc (Nat.le_refl _) _)).1
          have ZW : Hid (w1.heap.size < wr.heap.size) := HK.out.1.lt
          have LR : Hid ((List.replicate k (-1 : Int)).length = k) := List.length_replicate
          clear hv
          go_wp2_with (first
            | (at_builtin; refine wpList_append_own_at _ rfl (.tmp 37) (.tmp 38) 23 rfl (w1.heap.size + 1) 3 ti _ 1 8 Tryz.underlying23 TI.out.1 TI.out.2.1 TI.out.2.2.1 TI.out.2.2.2 rfl (by decide) vd _ _ rfl RD.out ⟨wr.heap.size, 0, none⟩ 1 1 [.int .i64 (-1)] rfl rfl (new_cell _ _ _) (by simp; rfl) (by have := LR.out; unfold maxLen; omega) (by have := LR.out; omega) (by have := ZW.out; simp; omega) ?_; intro v3 w3 o3 g3 n3 a3
               obtain ⟨a3', c3', rfl⟩ := own_form o3
               have hNX := HK.out.1.push (x := -1) (by unfold InR; omega) o3 g3 a3
               simp only [List.length_replicate] at hNX
               have NX : Hid _ := hNX
               have hG3 : w3.heap[w1.heap.size]? = some (.cells #[vd, .slice none 0 0, .bool true] 136) := (g3.block w1.heap.size (by have := ZW.out; simp; omega) (fun e => by have := (HK.out.1.rd.lt _ e.symm).1; omega)).trans ((Below.heap_alloc _ _ _ ZW.out).trans HK.out.1.blk)
               have y0 : w3.cell? ⟨w1.heap.size, 0, none⟩ = some vd := blk_cellW (i := 0) hG3 rfl
               have y1 : w3.frozen? ⟨w1.heap.size, 0, none⟩ = false := blk_freeW (i := 0) hG3
               clear hNX hG3 o3 g3 n3 a3)
            | go_in)
          go_round
          case rel => exact ⟨k + 1, _, by omega, by go_num, ⟨by have := NX.out.1; rw [show List.replicate k (-1 : Int) ++ [-1] = List.replicate (k + 1) (-1) from (List.replicate_succ').symm] at this; exact this, HK.out.2.trans NX.out.2⟩⟩
          case measure => simp [intOf]; omega
        · obtain rfl : k = os.length := by omega
          have hcall2 : Calls Tryz.prog 98 #[.pointer (some ⟨w1.heap.size, 0, none⟩), .int .i64 0, .int .i64 1] wr fun e w' => e = .returned (.tuple #[]) ∧ (∃ vd' vt', WK w' w1.heap.size vd' vt' ((List.replicate os.length (-1)).set 0 1) [0] true) ∧ Below w1.heap.size wr w' := by
            have := l15Go_any wr w1.heap.size vd (.slice none 0 0) (List.replicate os.length (-1)) [] true 0 1 HK.out.1 (by simp; omega) (by simp) (by omega) (by omega)
            rw [go_first (by omega)] at this
            exact this
          go_wp2_with fail
          refine hcall2.mono ?_
          rintro e w2 ⟨rfl, ⟨vd2, vt2, hk2⟩, hb2⟩
          have I2 : Hid (WK w2 w1.heap.size vd2 vt2 ((List.replicate os.length (-1)).set 0 1) [0] true ∧ Below w1.heap.size w1 w2) := ⟨hk2, HK.out.2.trans hb2⟩
          clear hk2 hb2 hcall2 HK BW
          go_wp2
          go_loopg [8] (dmu ((List.replicate os.length (-1)).set 0 1) [0]) (fun gk _ wr => ∃ (vd vt : Value) (D T : List Int) (ok : Bool), gk = dmu D T ∧ Hid (WK wr w1.heap.size vd vt D T ok ∧ GInv os D T ok (fun _ => False) ∧ Below w1.heap.size w1 wr ∧ dmu D T ≤ 2 * os.length + 1))
          case atStart => exact ⟨vd2, vt2, _, [0], true, rfl, I2.out.1, GInv.start (by omega), I2.out.2, dmu_start _⟩
          case round =>
            obtain ⟨vd, vt, D, T, ok, hgk, HK⟩ := hrel
            have BW : Hid (Below w.heap.size w wr) := B1.out.trans (HK.out.2.2.1.mono B1.out.size)
            have c0 : wr.cell? ⟨w1.heap.size, 0, none⟩ = some vd := blk_cellW (i := 0) HK.out.1.blk rfl
            have c1 : wr.cell? ⟨w1.heap.size, 1, none⟩ = some vt := blk_cellW (i := 1) HK.out.1.blk rfl
            have c2' : wr.cell? ⟨w1.heap.size, 2, none⟩ = some (.bool ok) := blk_cellW (i := 2) HK.out.1.blk rfl
            cases ok with
            | false =>
              have HF : Hid (r = ([], false)) := HBAD.out (HK.out.2.1.bad rfl)
              go_wp2
              go_ret2
              rw [HF.out]
              exact ⟨⟨_, rfl, irow_lit wr BW.out.size⟩, BW.out.alloc BW.out.size _⟩
            | true =>
              obtain ⟨at_, ct, hvt⟩ := own_form HK.out.1.rt.1
              rcases List.eq_nil_or_concat T with hT0 | ⟨T', t, hT1⟩
              · subst hT0
                have HE := HK.out.2.1.fin
                have HF : Hid (r = (D, true)) := by show _ = _; rw [HGOOD.out HE.1, HE.2]
                subst hvt
                go_wp2
                go_ret2
                rw [HF.out]
                exact ⟨⟨_, rfl, irow_base HK.out.1.rd (by have := B1.out.size; omega)⟩, BW.out⟩
              · subst hT1
                rw [List.concat_eq_append] at *
                obtain ⟨n, en, -, -⟩ := HK.out.2.1.todo t (List.mem_append_right _ (List.mem_singleton.2 rfl))
                subst en
                have HPP : Hid _ := HK.out.2.1.pop
                rcases HK.out.1.rt.open with ⟨h1, h2⟩ | ⟨q, cap, hvq, hq1, hq2, hq3, hq4, hqc, cur, tq, hqb⟩
                · simp at h2
                · have hTl : (T' ++ [(n : Int)]).length = T'.length + 1 := by simp
                  have hTb : T'.length ≤ 6001 := by
                    have h1 := HK.out.2.2.2
                    unfold dmu at h1
                    rw [hTl] at h1
                    omega
                  have f0 : wr.cell? ⟨q, T'.length, none⟩ = some (.int .i64 n) := by
                    have := hqc T'.length (by rw [hTl]; omega)
                    simpa using this
                  have f0' : wr.drew.cell? ⟨q, T'.length, none⟩ = some (.int .i64 n) := f0
                  rw [hTl] at hvq
                  subst hvq
                  have NW : Hid (∀ w' : World, Below wr.heap.size wr w' → ∀ j u, (T'.map (Value.int .i64))[j]? = some u → w'.cell? ((⟨q, 0, none⟩ : Addr).add j) = some u) := fun w' hb' j u hu => by
                    rw [add_plain, Nat.zero_add, hb'.cell (p := ⟨q, j, none⟩) hq2]
                    rw [List.getElem?_map] at hu
                    obtain ⟨y, hy, rfl⟩ := Option.map_eq_some_iff.1 hu
                    obtain ⟨h1, rfl⟩ := List.getElem?_eq_some_iff.1 hy
                    have := hqc j (by rw [hTl]; omega)
                    rw [List.getElem_append_left h1] at this
                    exact this
                  have c1d : wr.drew.cell? ⟨w1.heap.size, 1, none⟩ = some (.slice (some ⟨q, 0, none⟩) (T'.length + 1) cap) := c1
                  have HMU : Hid (gk = dmu D (T' ++ [(n : Int)]) ∧ dmu D (T' ++ [(n : Int)]) ≤ 2 * os.length + 1) := ⟨hgk, HK.out.2.2.2⟩
                  have HQC : Hid (T'.length + 1 ≤ cap ∧ cap ≤ maxLen) := ⟨by rw [hTl] at hq3; exact hq3, hq4⟩
                  clear hqc hqb hq1 hq2 hq3 hq4 hgk hTl hvt
                  go_wp2
                  go_quiet (fail)
                  obtain ⟨WA, hWA⟩ : ∃ WA, WA = wr.drewN nq := ⟨_, rfl⟩
                  have BA : Below wr.heap.size wr WA := by rw [hWA]; exact ⟨rfl, rfl, rfl, Nat.le_refl _, fun _ _ => rfl⟩
                  have ZA : WA.heap.size = wr.heap.size := by rw [hWA]; rfl
                  rw [← hWA]
                  have KA : Hid (WK WA w1.heap.size vd (.slice (some ⟨q, 0, none⟩) (T'.length + 1) cap) D (T' ++ [(n : Int)]) true ∧ Below w1.heap.size w1 WA) := ⟨HK.out.1.on BA, HK.out.2.2.1.trans (BA.mono (by have := HK.out.2.2.1.size; omega))⟩
                  have NA : Hid (∀ j u, (T'.map (Value.int .i64))[j]? = some u → (WA.alloc (.cells #[] 3)).drew.cell? ((⟨q, 0, none⟩ : Addr).add j) = some u) := NW.out _ (BA.alloc (by omega) _).drew
                  have a1 : WA.cell? ⟨w1.heap.size, 1, none⟩ = some (.slice (some ⟨q, 0, none⟩) (T'.length + 1) cap) := blk_cellW (i := 1) KA.out.1.blk rfl
                  have a1' : (WA.alloc (.cells #[] 3)).cell? ⟨w1.heap.size, 1, none⟩ = some (.slice (some ⟨q, 0, none⟩) (T'.length + 1) cap) := (((Below.refl _ WA).alloc (Nat.le_refl _) _).cell (p := ⟨w1.heap.size, 1, none⟩) KA.out.1.lt).trans a1
                  have hwr : IntKind.i64.wrap (T'.length : Int) = (T'.length : Int) := by rw [IntKind.wrap_i64]; omega
                  have hcp : (T'.length : Int) ≤ (cap : Int) := by have := HQC.out.1; omega
                  have L0 : Hid ((WA.alloc (.cells #[] 3)).drew.ownsRow WA.heap.size 3 1 (.slice (some ⟨WA.heap.size, 0, none⟩) 0 0) 0 []) := World.ownsRow_lit WA #[] 0 (Nat.le_refl _) (Nat.zero_le _) rfl
                  have O1 : Hid (∀ u ∈ T'.map (Value.int .i64), u.oneCell' = true) := fun u hu => by
                    obtain ⟨y, _, rfl⟩ := List.mem_map.1 hu; rfl
                  have LM : Hid ((T'.map (Value.int .i64)).length = T'.length * 1) := by show _ = _; simp
                  clear hWA BA ZA c0 c1 c1d c2' f0 f0' HK BW NW
                  go_wp2
                  go_region_law
                    (refine step_append_own rfl (.tmp 69) (.tmp 80) 23 rfl WA.heap.size 3 ti _ 1 8 Tryz.underlying23 TI.out.1 TI.out.2.1 TI.out.2.2.1 TI.out.2.2.2 rfl (by decide) (.slice (some ⟨WA.heap.size, 0, none⟩) 0 0) 0 [] (by simp [Act.eval, Act.put]) L0.out ⟨q, 0, none⟩ T'.length cap (T'.map (Value.int .i64)) (by simp [Act.eval, Act.put]) LM.out NA.out O1.out (by unfold maxLen; omega) (by omega) (by simp) ?_; intro ua ul uc w3 hown3 hgrow3 hat3
                     have hB3 : Below WA.heap.size WA w3 := ((Below.refl _ WA).alloc (Nat.le_refl _) _).drew.grown hgrow3 (by simp) (fun k hk => by cases hk; exact Nat.le_refl _)
                     have hG3 := (hB3.block _ KA.out.1.lt).trans KA.out.1.blk
                     have y0 : w3.cell? ⟨w1.heap.size, 1, none⟩ = some (.slice (some ⟨q, 0, none⟩) (T'.length + 1) cap) := blk_cellW (i := 1) hG3 rfl
                     have y1 : w3.frozen? ⟨w1.heap.size, 1, none⟩ = false := blk_freeW (i := 1) hG3)
                  all_goals
                    have I3 : IRow w3 WA.heap.size (.slice ua ul uc) T' := ⟨by have := hown3; simp only [Nat.zero_add, List.nil_append] at this; exact this, fun x hx => KA.out.1.rt.2 x (List.mem_append_left _ hx)⟩
                    have hO := KA.out.1.other hB3 I3
                    obtain ⟨WC, hWC⟩ : ∃ WC, WC = w3.setCell ⟨w1.heap.size, 1, none⟩ (.slice ua ul uc) := ⟨_, rfl⟩
                    rw [← hWC] at hO ⊢
                    have KC : Hid (WK WC w1.heap.size vd (.slice ua ul uc) D T' true ∧ Below w1.heap.size w1 WC) := ⟨hO.1, KA.out.2.trans hO.2⟩
                    have BC : Hid (Below w.heap.size w WC) := B1.out.trans (KC.out.2.mono B1.out.size)
                    have e1 : WC.cell? ⟨b, o + ii * 2 + 1, none⟩ = some (.slice a2 os.length c2) := (BC.out.cell (p := ⟨b, o + ii * 2 + 1, none⟩) HD.out.1).trans HD.out.2
                    have hno : n < os.length := by have h1 := HPP.out.2.1; have h2 := HPP.out.1.len; omega
                    have hrg : 1 ≤ D.getD n 0 ∧ D.getD n 0 ≤ 60 := by
                      have h1 := HPP.out.1.met n HPP.out.2.1 HPP.out.2.2.1
                      have h2 := h1.pos
                      have h3 := HPP.out.1.rng _ (List.getElem_mem HPP.out.2.1)
                      rw [← getD_get HPP.out.2.1] at h3
                      exact ⟨h2, h3.2⟩
                    have HONE := GInv.one HPP.out.1 HPP.out.2.1 hno HPP.out.2.2.1 (leads_pos (HO.out n hno))
                    have hcall3 := l15One_any WC w1.heap.size vd (.slice ua ul uc) D T' true n os a2 c2 KC.out.1 (by have := HPP.out.1.len; omega) (by omega) hno HPP.out.1.len hrg (op.opSh.slice.mono (op.opSh.slice.below HOS.out BC.out) fun b hlt => Nat.lt_of_lt_of_le hlt B1.out.size) (takes_pos (funsB_free_in Q1.out) (HO.out n hno)) (leads_pos (HO.out n hno))
                    generalize hst : oneF D T' true n os[n] = st at HONE hcall3
                    obtain ⟨D3, T3, ok3⟩ := st
                    have HN : Hid _ := HONE
                    have HNU : Hid (dmu D T' + 1 = dmu D (T' ++ [(n : Int)])) := HPP.out.2.2.2
                    clear hO hWC hown3 hgrow3 hat3 hB3 hG3 y0 y1 I3 a1 a1' hst HONE hrg
                    go_wp2_with fail
                    refine hcall3.mono ?_
                    rintro e w4 ⟨rfl, ⟨vd4, vt4, hk4⟩, hb4⟩
                    have I4 : Hid (WK w4 w1.heap.size vd4 vt4 D3 T3 ok3 ∧ Below w1.heap.size w1 w4) := ⟨hk4, KC.out.2.trans hb4⟩
                    clear hk4 hb4 hcall3
                    go_wp2
                    go_roundg (dmu D3 T3)
                    case rel => exact ⟨vd4, vt4, D3, T3, ok3, rfl, I4.out.1, HN.out.1, I4.out.2, by have h1 := HN.out.2; have h2 := HNU.out; have h3 := HMU.out; omega⟩
                    case measure => have h1 := HN.out.2; have h2 := HNU.out; have h3 := HMU.out; omega

end Go.Proofs.YtjibmpebebephaaGreatDoor.fun

namespace Go.Proofs.YtjibmpebebephaaGreatDoor.fun
open Go Go.RowKit Go.Proofs.YtjibmpebebephaaGreatDoor.rose Go.Proofs.YtjibmpebebephaaGreatDoor Go.Proofs.YtjibmpebebephaaGreatDoor.ints
set_option linter.unusedVariables false
set_option linter.unusedSimpArgs false

/-- Whether all are verified. -/
noncomputable def verifyF (ks : List FunD) : Bool := funsB ks && (List.range ks.length).all fun (j : Nat) => (depthsF ks (j : Int)).2
theorem verifyF_no {ks : List FunD} {j : Nat} (hj : j < ks.length) (h : (depthsF ks (j : Int)).2 = false) : verifyF ks = false := by
  unfold verifyF
  have : ((List.range ks.length).all fun (j : Nat) => (depthsF ks (j : Int)).2) = false := by
    rw [List.all_eq_false]
    exact ⟨j, List.mem_range.2 hj, by simp [h]⟩
  rw [this]; simp
theorem verifyF_yes {ks : List FunD} (h : ∀ j, j < ks.length → (depthsF ks (j : Int)).2 = true) : verifyF ks = funsB ks := by
  unfold verifyF
  have : ((List.range ks.length).all fun (j : Nat) => (depthsF ks (j : Int)).2) = true := by
    rw [List.all_eq_true]
    intro j hj
    exact h j (List.mem_range.1 hj)
  rw [this]; simp

set_option maxRecDepth 100000 in
set_option maxHeartbeats 4000000 in
theorem specVerify (ks : List FunD) (v : Value) (w : World) (hw : ks.length + wts ks ≤ 1048576) (h : funSh.slice.rep w (· < w.heap.size) [v] ks) :
    Calls Tryz.prog 40 #[v] w fun e w' => e = .returned (.bool (verifyF ks)) ∧ Below w.heap.size w w' := by
  have SL : Hid (∀ w' : World, Below w.heap.size w w' → funSh.slice.rep w' (· < w'.heap.size) [v] ks) := fun w' hb => funSh.slice.mono (funSh.slice.below h hb) fun b hlt => Nat.lt_of_lt_of_le hlt hb.size
  have HW : Hid (ks.length + wts ks ≤ 1048576) := hw
  have hmx : (ks.length : Int) ≤ 9223372036854775807 := by omega
  obtain ⟨a, cap, css, rfl, hcap, hmax, hrow, hk⟩ := funs_open h
  clear h hcap hmax hrow hk hw
  obtain ⟨q, hq⟩ : ∃ q, q = verifyF ks := ⟨_, rfl⟩
  rw [← hq]
  have HQ : Hid (q = verifyF ks) := hq
  clear hq
  go_enter Tryz.func40, Tryz.ntmps40
  go_wp2
  go_loopw [3] (fun v3 wr => ∃ i : Nat, i ≤ ks.length ∧ v3 = .int .i64 i ∧ Hid (∀ j, j < i → (depthsF ks (j : Int)).2 = true) ∧ Hid (Below w.heap.size w wr)) (fun v3 _ => ks.length - (intOf v3).toNat)
  case atStart => exact ⟨0, Nat.zero_le _, rfl, fun j hj => absurd hj (Nat.not_lt_zero _), Below.refl _ _⟩
  case round =>
    obtain ⟨i, hi, rfl, HA, HB⟩ := hrel
    by_cases hlt : i < ks.length
    · have hcall := specDepths ks i _ wr HW.out (by unfold InR; omega) (SL.out _ HB.out)
      rcases q4 : (depthsF ks (i : Int)).2 with _ | _
      · have HQ2 : Hid (q = false) := by show _ = _; rw [HQ.out]; exact verifyF_no hlt q4
        rw [q4] at hcall
        clear q4
        go_wp2_with fail
        refine hcall.mono ?_
        rintro e w4 ⟨⟨v4, rfl, -⟩, hb4⟩
        have B4 : Hid (Below w.heap.size w w4) := HB.out.trans (hb4.mono HB.out.size)
        clear hb4 hcall
        go_wp2
        go_ret
        exact ⟨ret_boolF HQ2.out.symm, B4.out⟩
      · have HA3 : Hid (∀ j, j < i + 1 → (depthsF ks (j : Int)).2 = true) := fun j h1 => by
          by_cases e : j = i
          · subst e; exact q4
          · exact HA.out j (by omega)
        rw [q4] at hcall
        clear q4
        go_wp2_with fail
        refine hcall.mono ?_
        rintro e w4 ⟨⟨v4, rfl, -⟩, hb4⟩
        have B4 : Hid (Below w.heap.size w w4) := HB.out.trans (hb4.mono HB.out.size)
        clear hb4 hcall
        go_wp2
        go_round
        case rel => exact ⟨i + 1, by omega, by go_num, HA3, B4⟩
        case measure => simp [intOf]; omega
    · obtain rfl : i = ks.length := by omega
      have HQ2 : Hid (q = funsB ks) := by show _ = _; rw [HQ.out]; exact verifyF_yes HA.out
      have hcall := specFunsOk ks _ wr HW.out (SL.out _ HB.out)
      go_wp2_with fail
      refine hcall.mono ?_
      rintro e w4 ⟨rfl, hb4⟩
      have B4 : Hid (Below w.heap.size w w4) := HB.out.trans (hb4.mono HB.out.size)
      clear hb4 hcall
      go_wp2
      go_ret
      exact ⟨ret_boolF HQ2.out.symm, B4.out⟩

end Go.Proofs.YtjibmpebebephaaGreatDoor.fun

namespace Go.Proofs.YtjibmpebebephaaGreatDoor.words
open Go Go.RowKit Go.Proofs.YtjibmpebebephaaGreatDoor Go.Proofs.YtjibmpebebephaaGreatDoor.fun
set_option linter.unusedVariables false
set_option linter.unusedSimpArgs false

def intWordF (n : Int) : Int := if inB n (-1073741824) 1073741823 then 2 * n + 1 else 1
def refWordF (p : Int) : Int := if inB p 0 6000 then 2 * p else 0
def isRefF (x : Int) : Bool := decide (x % 2 = 0)
def halfF (x : Int) : Int := x / 2

theorem ret_i {a b : Int} (h : a = b) : Ending.returned (.int .i64 a) = Ending.returned (.int .i64 b) := by rw [h]
theorem ret_b {a b : Bool} (h : a = b) : Ending.returned (.bool a) = Ending.returned (.bool b) := by rw [h]
theorem and_one (n : Int) : bits .and .i64 n 1 = n % 2 := by
  have h1 : (BitVec.ofInt 64 1).toNat = 2 ^ 1 - 1 := by decide
  have key : (BitVec.ofInt 64 n &&& BitVec.ofInt 64 1).toNat = (n % ((2 ^ 64 : Nat) : Int)).toNat % 2 ^ 1 := by
    rw [BitVec.toNat_and, BitVec.toNat_ofInt, h1, Nat.and_two_pow_sub_one_eq_mod]
  have e : bits .and .i64 n 1 = IntKind.i64.wrap ((BitVec.ofInt 64 n &&& BitVec.ofInt 64 1).toNat : Nat) := rfl
  rw [e, key, IntKind.wrap_i64]
  omega
theorem and_63 (n : Int) : bits .and .i64 n 63 = n % 64 := by
  have h1 : (BitVec.ofInt 64 63).toNat = 2 ^ 6 - 1 := by decide
  have key : (BitVec.ofInt 64 n &&& BitVec.ofInt 64 63).toNat = (n % ((2 ^ 64 : Nat) : Int)).toNat % 2 ^ 6 := by
    rw [BitVec.toNat_and, BitVec.toNat_ofInt, h1, Nat.and_two_pow_sub_one_eq_mod]
  have e : bits .and .i64 n 63 = IntKind.i64.wrap ((BitVec.ofInt 64 n &&& BitVec.ofInt 64 63).toNat : Nat) := rfl
  rw [e, key, IntKind.wrap_i64]
  omega

set_option maxHeartbeats 1000000 in
theorem word_is {n : Int} {b : Bool} {w : World} (h : inB n (-1073741824) 1073741823 = b) :
    Calls Tryz.prog 26 #[.int .i64 n] w fun e w' => e = .returned (.bool b) ∧ w' = w := by
  go_enter Tryz.func26, Tryz.ntmps26
  go_wp2_with (go_at_call 23; refine (in_is h).mono ?_; rintro e w' ⟨rfl, hx⟩; subst w')
  go_ret
  exact ⟨rfl, rfl⟩

end Go.Proofs.YtjibmpebebephaaGreatDoor.words

namespace Go.Proofs.YtjibmpebebephaaGreatDoor.heap
open Go Go.RowKit Go.Proofs.YtjibmpebebephaaGreatDoor.rose Go.Proofs.YtjibmpebebephaaGreatDoor Go.Proofs.YtjibmpebebephaaGreatDoor.fun Go.Proofs.YtjibmpebebephaaGreatDoor.ints
set_option linter.unusedVariables false
set_option linter.unusedSimpArgs false

/-- A new heap: nothing is in use. -/
def newF (n : Int) : HeapD × Bool := if inB n 1 3000 then ((List.replicate (2 * n).toNat 0, n, 0, 0), true) else (([], 0, 0, 0), false)

theorem infoN_int : (Tryz.prog.info? 3).map (fun i => (i.zero, i.size, i.bytes)) = some (some (.int .i64 0), 1, 8) := by kernel_rfl
theorem make_ints (n : Nat) (h : n ≤ 1048576) (w : World) : (Instr.makeSlice 23 (.int .i64 (n : Int)) (.int .i64 (n : Int))).run Tryz.prog w = .ok (.slice (some ⟨w.heap.size, 0, none⟩) n n)
    (w.alloc (.cells (madeCells #[.int .i64 0] (n * 1)) 3)) := by
  obtain ⟨i, hi, hzz⟩ := Option.map_eq_some_iff.1 infoN_int
  simp only [Prod.mk.injEq] at hzz
  obtain ⟨hz, hs, hb⟩ := hzz
  have := run_make (P := Tryz.prog) w 23 3 i _ Tryz.underlying23 hi hz .i64 .i64 n n (by omega) (by omega) (by rw [hb]; omega) (by omega)
  simpa [hs, Value.cells] using this
theorem made_row (n : Nat) (h : n ≤ 1048576) (w : World) {base : Nat} (hb : base ≤ w.heap.size) : IRow (w.alloc (.cells (madeCells #[.int .i64 0] (n * 1)) 3)) base (.slice (some ⟨w.heap.size, 0, none⟩) n n) (List.replicate n 0) := by
  refine ⟨⟨by simp, Or.inr ⟨w.heap.size, n, madeCells #[.int .i64 0] (n * 1), by simp, hb, alloc_top _ _, by simp, by unfold maxLen; omega, by simp [madeCells], ?_⟩⟩, fun x hx => ?_⟩
  · simp [madeCells]
    rw [List.take_of_length_le (by simp)]
    refine List.eq_replicate_iff.2 ⟨by simp, fun b hb => ?_⟩
    obtain ⟨x, -, rfl⟩ := List.mem_map.1 hb
    rw [Nat.mod_one]
    rfl
  · rw [List.mem_replicate] at hx; unfold InR; omega

set_option maxHeartbeats 2000000 in
theorem specHeapNew (n : Int) (w : World) (h1 : -9223372036854775808 ≤ n) (h2 : n ≤ 9223372036854775807) :
    Calls Tryz.prog 39 #[.int .i64 n] w fun e w' => (∃ cs', e = .returned (.tuple #[.agg cs'.toArray, .bool (newF n).2]) ∧ heapSp.rep w' (fun b => w.heap.size ≤ b ∧ b < w'.heap.size) cs' (newF n).1) ∧ Below w.heap.size w w' := by
  rcases q : inB n 1 3000 with _ | _
  · have HQ : Hid (newF n = (([], 0, 0, 0), false)) := by show _ = _; unfold newF; rw [q]; rfl
    go_enter Tryz.func39, Tryz.ntmps39
    go_wp2_with (go_at_call 23; refine (in_is q).mono ?_; rintro e w' ⟨rfl, hx⟩; subst w')
    refine bodyPost_ret (v := .tuple #[.agg #[.slice none 0 0, .int .i64 0, .int .i64 0, .int .i64 0], .bool false]) (by simp [results, Tryz.f39, go_sem]) rfl ?_
    rw [HQ.out]
    refine ⟨⟨[.slice none 0 0, .int .i64 0, .int .i64 0, .int .i64 0], rfl, heapp_shutv (IRow.nil _ w.heap.size).sp (by omega) (by omega) (by omega)⟩, ?_⟩
    exact (Below.refl _ _).alloc (Nat.le_refl _) _
  · have q1 := inB_yes q
    obtain ⟨m, rfl⟩ : ∃ m : Nat, n = m := ⟨n.toNat, by omega⟩
    have HQ : Hid (newF m = ((List.replicate (2 * m) 0, (m : Int), 0, 0), true)) := by
      show _ = _; unfold newF; rw [q]; simp only [if_true]
      rw [show (2 * (m : Int)).toNat = 2 * m by omega]
    have hmk := make_ints (2 * m) (by omega)
    have hcast : ((2 * m : Nat) : Int) = 2 * (m : Int) := by omega
    rw [hcast] at hmk
    go_enter Tryz.func39, Tryz.ntmps39
    go_wp2_with (go_at_call 23; refine (in_is q).mono ?_; rintro e w' ⟨rfl, hx⟩; subst w')
    refine bodyPost_ret (v := .tuple #[.agg #[.slice (some ⟨w.heap.size + 1, 0, none⟩) (2 * m) (2 * m), .int .i64 m, .int .i64 0, .int .i64 0], .bool true]) (by simp [results, Tryz.f39, go_sem]) rfl ?_
    rw [HQ.out]
    have hr := made_row (2 * m) (by omega) (w.alloc (.cells #[.slice (some ⟨w.heap.size + 1, 0, none⟩) (2 * m) (2 * m), .int .i64 m, .int .i64 0, .int .i64 0] 32)) (base := w.heap.size) (by simp)
    rw [World.size_alloc, Nat.mul_one] at hr
    exact ⟨⟨[.slice (some ⟨w.heap.size + 1, 0, none⟩) (2 * m) (2 * m), .int .i64 m, .int .i64 0, .int .i64 0], rfl, heapp_shutv hr.sp (by omega) (by omega) (by omega)⟩, ((Below.refl _ _).alloc (Nat.le_refl _) _).alloc (by simp) _⟩

end Go.Proofs.YtjibmpebebephaaGreatDoor.heap
