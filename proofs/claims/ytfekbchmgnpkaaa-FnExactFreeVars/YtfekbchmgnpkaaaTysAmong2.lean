/-
  The program's iterator over types in lists, walked.
-/
import Derived.Test.YtfekbchmgnpkaaaTysAmong1
namespace Go.Proofs.Ytfekbchmgnpkaaa.tys
open Go.RowKit Go.Shelf Go.Proofs.Ytfekbchmgnpkaaa.rose Go.Proofs.Ytfekbchmgnpkaaa.rangeb Go.Proofs.Ytfekbchmgnpkaaa
set_option linter.unusedVariables false
set_option linter.unusedSimpArgs false
attribute [local go_sem] Oper.semAt_some

theorem blk_cellT {w : World} {b i : Nat} {cur : Array Value} {t : TypeId} {v : Value} (h : w.heap[b]? = some (.cells cur t)) (hi : cur[i]? = some v) : w.cell? ⟨b, i, none⟩ = some v := by simp [World.cell?, h, hi]

set_option maxRecDepth 100000 in
set_option maxHeartbeats 4000000 in
theorem tysAmong_stopsG (n : Nat) (hn : 2 ≤ n) (Bt : Nat) (S : Nat → Prop) (ls : List (List ty.TyD)) (la : Option Addr) (ll lc : Nat) (vs : List Value) (w : World) (hB : Bt < w.heap.size) (hSw : ∀ b, S b → b < w.heap.size) (hP : ∀ b, S b → Plain w b)
    (hc : w.cell? ⟨Bt, 0, none⟩ = some (.slice la ll lc)) (hvl : vs.length = ls.length) (hcl0 : ∀ W, Below w.heap.size w W → Calls Try.prog 90 #[.slice la ll lc] W fun e w' => (∃ a' l' c', e = .returned (.slice a' l' c') ∧ w'.ownsRow W.heap.size 27 1 (.slice a' l' c') ls.length vs) ∧ Below W.heap.size W w') (hrep : ∀ j (h : j < ls.length) u, vs[j]? = some u → ty.tySh.slice.rep w S [u] ls[j]) (hw : (allL ls).length + ls.length ≤ 2097152) :
    SeqD Fence.wide n Try.prog 89 #[.pointer (some ⟨Bt, 0, none⟩)] (encTs (w := w) (S := S)) 0 S (fun xs => ∀ t, t ∈ xs.map (fun (y : TPart w S) => y.T) ↔ t ∈ allL ls) (fun pre => ∀ t ∈ pre.map (fun (y : TPart w S) => y.T), t ∈ allL ls) (allL ls).length w := by
  intro l J Jx W hW hJ hJx hlow hY h0
  have hmm := @run_makeMap Try.prog
  obtain ⟨ti, hti, hzz⟩ := Option.map_eq_some_iff.1 info_list
  simp only [Prod.mk.injEq] at hzz
  obtain ⟨hz0, hz1, hz2⟩ := hzz
  have TI : Hid (Try.prog.info? 27 = some ti ∧ ti.zero = some (.slice none 0 0) ∧ ti.size = 1 ∧ ti.bytes = 24) := ⟨hti, hz0, hz1, hz2⟩
  clear hti hz0 hz1 hz2
  have c0 : W.cell? ⟨Bt, 0, none⟩ = some (.slice la ll lc) := (hW.cell (p := ⟨Bt, 0, none⟩) hB).trans hc
  have hcl := hcl0 W hW
  have hclI := fun k => (callsIn_wide (n := k)).2 hcl
  have HLOW : Hid (∀ pre W1, J pre W1 → ∀ b, S b → W1.heap[b]? = w.heap[b]?) := hlow
  have HJ : Hid (Of W.heap.size J) := hJ
  have HJX : Hid (Of W.heap.size Jx) := hJx
  have HY : Hid _ := hY
  have H0 : Hid (J [] W) := h0
  have HP : Hid (∀ b, S b → Plain w b) := hP
  have HREP : Hid (∀ j (h : j < ls.length) u, vs[j]? = some u → ty.tySh.slice.rep w S [u] ls[j]) := hrep
  clear hY hJ hJx hrep hc h0 hP hlow hcl hcl0
  have hfC : Fence.wide.fn 90 := trivial
  obtain ⟨n', rfl⟩ : ∃ n', n = n' + 2 := ⟨n - 2, by omega⟩
  refine callsIn_of_wp Try.func89 rfl trivial ?_ rfl
  simp only [Try.ntmps89, List.size_toArray, List.length_cons, List.length_nil, Nat.reduceAdd, Nat.reduceSub, Array.replicate_succ, Array.replicate_zero, List.push_toArray, List.append_toArray, List.nil_append, List.cons_append]
  gi_wp2_with (gi_at_call 90; refine (hclI _).mono ?_; rintro e w1 ⟨⟨ua, ul, uc, rfl, hown1⟩, hb1⟩)
  have M0 : Mid w S ls J W.heap.size w1.heap.size (w1.alloc (.map #[] 0)) (.slice ua ul uc) [] (vs.zip ls) [] none 0 := by
    have hb : Below w1.heap.size w1 (w1.alloc (.map #[] 0)) := (Below.refl _ _).alloc (Nat.le_refl _) _
    have hz : (vs.zip ls).length = ls.length := by rw [List.length_zip]; omega
    have hm1 : (vs.zip ls).map (fun e => e.1) = vs := by rw [List.map_fst_zip (by omega)]
    have hm2 : (vs.zip ls).map (fun e => e.2) = ls := by rw [List.map_snd_zip (by omega)]
    refine ⟨?_, HJ.out _ _ _ (HJ.out _ _ _ H0.out hb1) (hb.mono hb1.size), ⟨hb1.size, by simp⟩, fun e => ?_, PMap.made _, fun e he => ?_, ?_, fun p hp => (by cases hp), ?_⟩
    · rw [hz, hm1]
      exact row_on hown1 fun g _ hlt => hb.block g hlt
    · rcases hown1.2 with ⟨h, _⟩ | ⟨q, cp, cr, h1, h2, h3, _⟩
      · rw [h] at e; cases e
      · rw [h1] at e
        simp only [Value.ownBlock, Option.some.injEq] at e
        have := (Array.getElem?_eq_some_iff.1 h3).1
        omega
    · obtain ⟨j, hj, e1⟩ := List.mem_iff_getElem.1 he
      rw [hz] at hj
      rw [List.getElem_zip] at e1
      subst e1
      exact HREP.out j hj _ (by rw [List.getElem?_eq_getElem (by omega)])
    · rw [hm2, List.map_nil]; exact Pend.start ls
    · rw [hm2, inside_all]; simp
  have MM : Hid _ := M0
  have HWE : Hid (weigh ((vs.zip ls).map fun e => e.2) ≤ 2097152) := by
    show _ ≤ _
    rw [List.map_snd_zip (by omega), weigh_eq, inside_all]; exact hw
  clear M0 hown1 hb1 hclI c0
  gi_wp2
  obtain ⟨M, hM⟩ : ∃ M, M = w1.heap.size := ⟨_, rfl⟩
  rw [← hM] at MM ⊢
  clear hM
  gi_loopg [3] (weigh ((vs.zip ls).map fun e => e.2)) (fun k v3 wr => ∃ (pre : List (TPart w S)) (st : List (Value × List ty.TyD)) (m : List (Addr × Int)), k = weigh (st.map fun e => e.2) ∧ k ≤ 2097152 ∧ Hid (Mid w S ls J W.heap.size M wr v3 pre st m none 0))
  case atStart => exact ⟨[], _, [], rfl, HWE.out, MM⟩
  case round =>
    obtain ⟨pre, st, m, hk, hkb, HI⟩ := hrel
    clear MM
    rcases List.eq_nil_or_concat st with hst | ⟨st', ⟨e0, ts⟩, hst⟩
    · subst hst
      obtain ⟨va, vc, hv⟩ : ∃ va vc, u3 = .slice va 0 vc := by
        rcases HI.out.row.2 with ⟨h, _⟩ | ⟨g, cap, cur, h, _⟩
        · exact ⟨_, _, h⟩
        · exact ⟨_, _, h⟩
      subst hv
      gi_wp2
      go_end0
      exact ⟨⟨_, rfl⟩, .inl ⟨pre, fun t => HI.out.pend.done t, HI.out.held⟩⟩
    · rw [List.concat_eq_append] at hst
      subst hst
      have hrow := HI.out.row
      rw [List.length_append, List.length_singleton, List.map_append] at hrow
      obtain ⟨g, cap, hv, hg, hcp⟩ : ∃ g cap, u3 = .slice (some ⟨g, 0, none⟩) (st'.length + 1) cap ∧ W.heap.size ≤ g ∧ cap ≤ maxLen := by
        rcases hrow.2 with ⟨_, h⟩ | ⟨g, cap, cur, h1, h2, h3, h4, h5, _⟩
        · simp at h
        · exact ⟨g, cap, h1, h2, h5⟩
      subst hv
      have hrt := HI.out.reps (e0, ts) (by simp)
      obtain ⟨a, c, he0⟩ := slice_cells hrt
      simp only [List.cons.injEq, and_true] at he0
      subst he0
      have e1 : wr.cell? ⟨g, st'.length, none⟩ = some (.slice a ts.length c) := row_cell hrow (by rw [List.getElem?_append_right (by simp)]; simp)
      have HRT : Hid (ty.tySh.slice.rep w S [.slice a ts.length c] ts) := hrt
      have hkw : gk = weigh (st'.map fun e => e.2) + ((withS ts).length + 1) := by
        rw [hk, List.map_append, weigh_append]; simp [weigh]
      have hjl : st'.length ≤ 2097152 := by
        have := length_le_weigh (st'.map fun e => e.2)
        rw [List.length_map] at this
        omega
      have htl2 : ts.length ≤ 2097152 := by
        have : ts.length ≤ (withS ts).length := by
          clear hkw hrt HRT e1 hrow HI hk
          induction ts with
          | nil => simp
          | cons t ts ih => rw [withS, List.length_append, withT_eq]; simp; omega
        omega
      obtain ⟨M1, M2⟩ := Mid.pop HI.out
      obtain ⟨j, hj⟩ : ∃ j, j = st'.length := ⟨_, rfl⟩
      have HJL : Hid (j = st'.length) := hj
      have HKW : Hid (gk = weigh (st'.map fun e => e.2) + ((withS ts).length + 1)) := hkw
      rw [← hj] at e1 M1 hjl ⊢
      have HM2 : Hid _ := M2
      have hcj : j ≤ cap := by
        rcases hrow.2 with ⟨h, _⟩ | ⟨g', cap', cur, h1, h2, h3, h4, _⟩
        · cases h
        · cases h1; omega
      have HMET : Hid (∀ p ∈ m, ∃ ts' c', ty.tySh.slice.rep w S [.slice (some p.1) ts'.length c'] ts' ∧ (ts'.length : Int) = p.2 ∧ ∀ t ∈ ts', t ∈ pre.map fun y => y.T) := fun p hp => by
        obtain ⟨-, ts', c', q3, q4, q5⟩ := HI.out.met p hp
        exact ⟨ts', c', q3, q4, q5.elim id fun h => by cases h⟩
      clear hj hkw hk M2 hrow HI hrt
      cases hts : ts with
      | nil =>
        subst hts
        have HM1 : Hid _ := M1
        clear M1
        gi_wp2
        gi_roundg (weigh (st'.map fun e => e.2))
        case rel => exact ⟨pre, st', m, rfl, by have := HKW.out; omega, HM1.out.skip (by simp)⟩
        case measure => have := HKW.out; omega
      | cons t0 tr =>
        have hpos : 0 < ts.length := by rw [hts]; simp
        clear hts
        have hdone : ∀ {a : Option Addr}, ty.tySh.slice.rep w S [.slice a ts.length c] ts → ∃ b o, a = some ⟨b, o, none⟩ ∧ S b := fun h => by
          obtain ⟨a1, c1, css, ea, -, -, hrow, -⟩ := ty.tys_open h
          simp only [Value.slice.injEq, true_and] at ea
          obtain ⟨b, o, e, hSb, -⟩ := hrow 0 hpos
          exact ⟨b, o, by rw [ea.1, e], hSb⟩
        obtain ⟨b, o, rfl, hSb⟩ := hdone HRT.out
        clear hdone
        obtain ⟨ti2, hti2, hsz2⟩ := Option.map_eq_some_iff.1 info_tyD
        have hsz3 : ti2.size ≠ 0 := by rw [hsz2]; decide
        have hpl : ∀ q, S q → Plain wr q := fun q hq => (HP.out q hq).on (HLOW.out _ _ M1.held q hq)
        obtain ⟨nn, hlook, hnn⟩ := M1.map.look (P := Try.prog) (a := ⟨b, o, none⟩) (t := 130) Try.underlying130 Try.underlying131 hti2 hsz3 (zeroIntT _) (hpl b hSb) (fun p hp => hpl _ (M1.met p hp).1)
        have hne1 : (((ts.length : Nat) : Int) == 0) = false := by simp; intro h; rw [h] at hpos; simp at hpos
        by_cases hle : (ts.length : Int) ≤ nn
        · have HM1 : Hid (Mid w S ls J W.heap.size M wr (.slice (some ⟨g, 0, none⟩) j cap) pre st' m none 0) := by
            refine Mid.skip M1 fun t ht => ?_
            rcases hnn with h | h
            · omega
            · obtain ⟨ts', c', q3, q4, q5⟩ := HMET.out _ h
              simp only at q4
              have e := sole.take HRT.out q3 (by omega)
              rw [e] at ht
              exact q5 t (List.mem_of_mem_take ht)
          clear M1 hnn
          gi_wp2
          gi_roundg (weigh (st'.map fun e => e.2))
          case rel => exact ⟨pre, st', m, rfl, by have := HKW.out; omega, HM1⟩
          case measure => have := HKW.out; omega
        · obtain ⟨w2, m', hst, hm', hmm', hg'⟩ := M1.map.store (P := Try.prog) (a := ⟨b, o, none⟩) (t := 130) Try.underlying130 Try.underlying131 hti2 hsz3 (hpl b hSb) (fun p hp => hpl _ (M1.met p hp).1) (ts.length : Int)
          have HM2' : Hid (Mid w S ls J W.heap.size M w2 (.slice (some ⟨g, 0, none⟩) j cap) pre st' m' (some ts) (withS ts).length) := M1.store HJ.out (a := ⟨b, o, none⟩) hSb HRT.out hg' hm' hmm'
          clear M1 hnn hm' hmm' hg' hpl
          gi_wp2
          obtain ⟨G, HG⟩ : ∃ G, Hid (G = gk) := ⟨_, rfl⟩
          have HG0 : Hid (weigh (st'.map fun e => e.2) + (withS (ts.drop 0)).length + 1 = G) := by
            show _ = _
            rw [HG.out, HKW.out, List.drop_zero]; omega
          have HG1 : Hid (G ≤ 2097152) := by show _ ≤ _; rw [HG.out]; exact hkb
          clear hlook hst HKW hkb
          rename World => wo
          gi_loopg [3, 44] (ts.length) (fun k v3 v44 wi => ∃ (q : Nat) (pre1 : List (TPart w S)) (st1 : List (Value × List ty.TyD)), k + q = ts.length ∧ v44 = .int .i64 q ∧ Hid (Mid w S ls J W.heap.size M wi v3 pre1 st1 m' (some ts) (withS (ts.drop q)).length ∧ weigh (st1.map fun e => e.2) + (withS (ts.drop q)).length + 1 = G ∧ ∀ t ∈ ts.take q, t ∈ pre1.map fun y => y.T))
          case atStart => exact ⟨0, pre, st', rfl, rfl, HM2'.out, HG0.out, by simp⟩
          case round =>
            obtain ⟨q, pre1, st1, hkq, rfl, HI⟩ := hrel
            rename World => wi
            clear HM2'
            by_cases hlq : q < ts.length
            · obtain ⟨M3, hwe, htk⟩ := HI.out
              obtain ⟨a1, c1, css, ea, -, -, hrow, hkk⟩ := ty.tys_open HRT.out
              simp only [Value.slice.injEq, true_and] at ea
              obtain ⟨ea1, ea2⟩ := ea
              subst ea1 ea2
              obtain ⟨b', o', eb, hSb', hc⟩ := hrow q hlq
              simp only [Option.some.injEq, Addr.mk.injEq, and_true] at eb
              obtain ⟨eb1, eb2⟩ := eb
              subst eb1 eb2
              have hrq := hkk q hlq
              obtain ⟨x0, x1, x2, kids, ak, ck, hT, hcs, f0, f1, f2, fk⟩ := ty.ty_open hrq
              rw [hcs] at hc hrq
              have blk := HLOW.out _ _ M3.held b hSb'
              have e0 : wi.cell? ⟨b, o + q * 4, none⟩ = some (.int .i64 x0) := (World.cell?_of_block (w := w) (a := ⟨b, o + q * 4, none⟩) blk).trans (hc 0 _ rfl)
              have e1 : wi.cell? ⟨b, o + q * 4 + 1, none⟩ = some (.int .i64 x1) := (World.cell?_of_block (w := w) (a := ⟨b, o + q * 4 + 1, none⟩) blk).trans (hc 1 _ rfl)
              have e2 : wi.cell? ⟨b, o + q * 4 + 2, none⟩ = some (.string x2) := (World.cell?_of_block (w := w) (a := ⟨b, o + q * 4 + 2, none⟩) blk).trans (hc 2 _ rfl)
              have e3 : wi.cell? ⟨b, o + q * 4 + 3, none⟩ = some (.slice ak kids.length ck) := (World.cell?_of_block (w := w) (a := ⟨b, o + q * 4 + 3, none⟩) blk).trans (hc 3 _ rfl)
              obtain ⟨x, hxT, hxe⟩ : ∃ x : TPart w S, x.T = .mk (x0, x1, x2) kids ∧ encTs x = #[.agg #[.int .i64 x0, .int .i64 x1, .string x2, .slice ak kids.length ck]] := ⟨⟨.mk (x0, x1, x2) kids, ak, ck, by rw [hT] at hrq; exact hrq⟩, rfl, rfl⟩
              have HX : Hid (x.T = .mk (x0, x1, x2) kids) := hxT
              have HXt : Hid (x.T ∈ ts) := by show _ ∈ _; rw [hxT, ← hT]; exact List.getElem_mem hlq
              have hdr := withS_drop hlq
              rw [hT] at hdr
              simp only [Rose.kids] at hdr
              have HDR : Hid ((withS (ts.drop q)).length = (withS (ts.drop (q + 1))).length + ((withS x.T.kids).length + 1)) := by show _ = _; rw [hdr, hxT]; simp only [Rose.kids]; omega
              have HTK : Hid (∀ t ∈ ts.take (q + 1), t ∈ (pre1 ++ [x]).map fun y => y.T) := fun t ht => by
                rw [List.take_succ_eq_append_getElem hlq] at ht
                rw [List.map_append]
                rcases List.mem_append.1 ht with h | h
                · exact List.mem_append.2 (.inl (htk t h))
                · simp at h
                  refine List.mem_append.2 (.inr ?_)
                  rw [h, hT]
                  simp [hxT]
              have HM3 : Hid (Mid w S ls J W.heap.size M wi u3 pre1 st1 m' (some ts) (withS (ts.drop q)).length) := M3
              have HWE2 : Hid (weigh (st1.map fun e => e.2) + (withS (ts.drop q)).length + 1 = G) := hwe
              have FK : Hid (ty.tySh.slice.rep w S [.slice ak kids.length ck] kids) := fk
              have hzi : W.heap.size ≤ M ∧ M < wi.heap.size := M3.size
              have hJ1 : J pre1 (wi.alloc (.cells #[.int .i64 x0, .int .i64 x1, .string x2, .slice ak kids.length ck] 29)) := HJ.out _ _ _ M3.held ((Below.refl _ _).alloc (by omega) _)
              obtain ⟨fn, tmps, assign, body, hy, hR⟩ := HY.out pre1 x _ hJ1 (by have := M3.cnt; omega)
              rw [hxe] at hy
              clear hJ1 M3 hwe htk hrow hkk hrq hcs hc blk hxT hxe hdr hT fk HI
              gi_wp2
              refine hR.mono ?_
              rintro e W3 (⟨rfl, hJ3, hk3⟩ | ⟨rfl, hJx3, hk3⟩)
              · have ha3 : ∀ k, k < wi.heap.size → (wi.alloc (.cells #[.int .i64 x0, .int .i64 x1, .string x2, .slice ak kids.length ck] 29)).heap[k]? = wi.heap[k]? := fun k hk => Below.heap_alloc _ _ _ hk
                have hhi : ∀ k, W.heap.size ≤ k → k < wi.heap.size → W3.heap[k]? = wi.heap[k]? := fun k h1 h2 => (hk3.high k h1 (by simp; omega)).trans (ha3 k h2)
                have hz3 : wi.heap.size + 1 ≤ W3.heap.size := by have := hk3.size; simp at this; omega
                have B3 : W3.cell? ⟨wi.heap.size, 3, none⟩ = some (.slice ak kids.length ck) := by
                  rw [World.cell?_of_block (w := wi.alloc _) (a := ⟨wi.heap.size, 3, none⟩) (hk3.high wi.heap.size (by omega) (by simp))]
                  simp
                have HOB : Hid (∀ g, u3.ownBlock = some g → W.heap.size ≤ g ∧ g ≠ M ∧ g < wi.heap.size) := fun g hg => by
                  rcases HM3.out.row.2 with ⟨h, _⟩ | ⟨g', cap, cur, h1, h, hcur, _⟩
                  · rw [h] at hg; cases hg
                  · have hg' := hg
                    rw [h1] at hg
                    simp only [Value.ownBlock, Option.some.injEq] at hg
                    subst hg
                    exact ⟨h, fun e => HM3.out.own (by rw [← e]; exact hg'), (Array.getElem?_eq_some_iff.1 hcur).1⟩
                have hst1 : st1.length ≤ 2097152 := by
                  have h1 := length_le_weigh (st1.map fun e => e.2)
                  rw [List.length_map] at h1
                  have := HWE2.out
                  have := HG1.out
                  omega
                have h2a : (W3.alloc (.cells #[.slice ak kids.length ck] 27)).ownsRow W.heap.size 27 1 u3 st1.length (st1.map fun e => e.1) := row_on HM3.out.row fun g hg hlt => (Below.heap_alloc _ _ _ (by omega)).trans (hhi g hg hlt)
                have HK3 : Hid _ := hk3
                have HJ3 : Hid _ := hJ3
                have HHI : Hid (∀ k, W.heap.size ≤ k → k < wi.heap.size → W3.heap[k]? = wi.heap[k]?) := hhi
                clear hk3 hJ3 hhi ha3 hR hy e0 e1 e2 e3
                gi_wp2_with (gi_at_builtin; refine append_oneIn2 _ rfl _ _ 111 rfl W.heap.size 27 ti _ 24 Try.underlying111 TI.out.1 TI.out.2.1 TI.out.2.2.1 TI.out.2.2.2 rfl u3 st1.length _ rfl h2a ⟨W3.heap.size, 0, none⟩ 1 (.slice ak kids.length ck) rfl (cell_one_new _ _ _) rfl (by unfold maxLen; omega) (by omega) (by simp; omega) ?_; intro ua4 ul4 uc4 w4 hown4 hgrow4 hat4)
                have hM4 : Mid w S ls J W.heap.size M w4 (.slice ua4 ul4 uc4) (pre1 ++ [x]) (st1 ++ [(.slice ak kids.length ck, x.T.kids)]) m' (some ts) (withS (ts.drop (q + 1))).length := by
                  have hM3 := HM3.out
                  rw [HDR.out] at hM3
                  have hal : Below W3.heap.size W3 (W3.alloc (.cells #[.slice ak kids.length ck] 27)) := (Below.refl _ _).alloc (Nat.le_refl _) _
                  refine Mid.push hM3 HXt.out HM2.out hown4 ?_ ?_ ?_ (fun e => ?_) ?_
                  · refine HJ.out _ _ _ HJ3.out ?_
                    exact (hal.mono (by omega)).grown hgrow4 (by simp; omega) (fun g hg => (HOB.out _ hg).1)
                  · exact Nat.le_trans (Nat.le_trans (by omega) hal.size) hgrow4.size
                  · rw [hgrow4.block M (by simp; omega) (fun e => (HOB.out _ e.symm).2.1 rfl), hal.block M (by omega)]
                    exact HHI.out M hzi.1 hzi.2
                  · rcases hat4 with h | h
                    · exact HM3.out.own (h.symm.trans e)
                    · rw [h] at e; simp only [World.size_alloc, Option.some.injEq] at e; omega
                  · rw [HX.out]; exact FK.out
                have HM4 : Hid _ := hM4
                have HW4 : Hid (weigh ((st1 ++ [(Value.slice ak kids.length ck, x.T.kids)]).map fun e => e.2) + (withS (ts.drop (q + 1))).length + 1 = G) := by
                  show _ = _
                  have h1 := HWE2.out
                  rw [HDR.out] at h1
                  rw [List.map_append, weigh_append]
                  simp [weigh]
                  omega
                clear hM4
                gi_roundg (ts.length - (q + 1))
                case rel => exact ⟨q + 1, _, _, by omega, by go_num, HM4.out, HW4.out, HTK.out⟩
                case measure => omega
              · have HSUB : Hid (∀ t ∈ (pre1 ++ [x]).map (fun y => y.T), t ∈ allL ls) := fun t ht => by
                  rw [List.map_append] at ht
                  rcases List.mem_append.1 ht with h | h
                  · exact HM3.out.pend.sub t h
                  · simp at h; subst h; exact HM2.out _ (roots_mem HXt.out)
                have HJX3 : Hid (Jx (pre1 ++ [x]) W3) := hJx3
                clear hk3 hR hy hJx3
                gi_wp2
                refine bodyPost_ret (results_none rfl _ _ _) rfl ?_
                exact ⟨⟨_, rfl⟩, .inr ⟨pre1 ++ [x], HSUB.out, HJX3.out⟩⟩
            · obtain rfl : q = ts.length := by omega
              obtain ⟨M3, hwe, htk⟩ := HI.out
              rw [List.take_length] at htk
              rw [List.drop_length] at hwe
              have HM4 : Hid (Mid w S ls J W.heap.size M wi u3 pre1 st1 m' none 0) := M3.skip htk
              have HW4 : Hid (weigh (st1.map fun e => e.2) < G) := by show _ < _; omega
              clear M3 hwe htk HI
              gi_wp2
              gi_roundg (weigh (st1.map fun e => e.2))
              case rel => exact ⟨pre1, st1, m', rfl, by have := HW4.out; have := HG1.out; omega, HM4⟩
              case measure => have := HW4.out; have := HG.out; omega

theorem clones {w : World} {S : Nat → Prop} {ls : List (List ty.TyD)} {ad : Addr} {cc : Nat} {vs : List Value} (hvl : vs.length = ls.length) (hcell : ∀ j u, vs[j]? = some u → w.cell? (ad.add j) = some u) (hadb : vs ≠ [] → ad.block < w.heap.size) (hone : ∀ u ∈ vs, u.oneCell' = true) (hn : ls.length ≤ 2097152) (W : World) (hW : Below w.heap.size w W) :
    Calls Try.prog 90 #[.slice (some ad) ls.length cc] W fun e w' => (∃ a' l' c', e = .returned (.slice a' l' c') ∧ w'.ownsRow W.heap.size 27 1 (.slice a' l' c') ls.length vs) ∧ Below W.heap.size W w' := by
  have hblk : ∀ j, (ad.add j).block = ad.block := fun j => by unfold Addr.add; split <;> rfl
  exact clone_any ad ls.length cc vs W hvl (fun j u hj => (World.cell?_of_block (w := w) (a := ad.add j) (hW.block _ (by rw [hblk]; exact hadb (fun e => by rw [e] at hj; simp at hj)))).trans (hcell j u hj)) (fun h => Nat.lt_of_lt_of_le (hadb h) hW.size) hone hn

theorem ones {w : World} {S : Nat → Prop} {ls : List (List ty.TyD)} {vs : List Value} (hvl : vs.length = ls.length) (hrep : ∀ j (h : j < ls.length) u, vs[j]? = some u → ty.tySh.slice.rep w S [u] ls[j]) : ∀ u ∈ vs, u.oneCell' = true := fun u hu => by
  obtain ⟨j, hj, e⟩ := List.mem_iff_getElem.1 hu
  exact ty.tySh.slice.one (hrep j (by omega) u (by rw [List.getElem?_eq_getElem hj, e])) u (by simp)

theorem tysAmong_stops (n : Nat) (hn : 2 ≤ n) (Bt : Nat) (S : Nat → Prop) (ls : List (List ty.TyD)) (ad : Addr) (cc : Nat) (vs : List Value) (w : World) (hB : Bt < w.heap.size) (hSw : ∀ b, S b → b < w.heap.size) (hP : ∀ b, S b → Plain w b)
    (hc : w.cell? ⟨Bt, 0, none⟩ = some (.slice (some ad) ls.length cc)) (hvl : vs.length = ls.length) (hcell : ∀ j u, vs[j]? = some u → w.cell? (ad.add j) = some u) (hadb : vs ≠ [] → ad.block < w.heap.size) (hrep : ∀ j (h : j < ls.length) u, vs[j]? = some u → ty.tySh.slice.rep w S [u] ls[j]) (hw : (allL ls).length + ls.length ≤ 2097152) :
    SeqD Fence.wide n Try.prog 89 #[.pointer (some ⟨Bt, 0, none⟩)] (encTs (w := w) (S := S)) 0 S (fun xs => ∀ t, t ∈ xs.map (fun (y : TPart w S) => y.T) ↔ t ∈ allL ls) (fun pre => ∀ t ∈ pre.map (fun (y : TPart w S) => y.T), t ∈ allL ls) (allL ls).length w :=
  tysAmong_stopsG n hn Bt S ls (some ad) ls.length cc vs w hB hSw hP hc hvl (clones (S := S) hvl hcell hadb (ones hvl hrep) (by omega)) hrep hw

set_option maxRecDepth 100000 in
/-- slices.Clone of no slice. -/
theorem clone_nil (w : World) :
    Calls Try.prog 90 #[.slice none 0 0] w fun e w' => (∃ a' l' c', e = .returned (.slice a' l' c') ∧ w'.ownsRow w.heap.size 27 1 (.slice a' l' c') 0 []) ∧ Below w.heap.size w w' := by
  have hcmp : (binOp BinOp.eql 111 (.slice none 0 0) (.slice none 0 0)).run Try.prog w = .ok (.bool true) w := by kernel_rfl
  go_enter Try.func90, Try.ntmps90
  go_wp2
  go_ret
  exact ⟨⟨_, _, _, rfl, World.ownsRow_nil _ _ _ _⟩, Below.refl _ _⟩

end Go.Proofs.Ytfekbchmgnpkaaa.tys
