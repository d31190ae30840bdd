/-
  The model's FunsBytes, at every list of functions; nothing that was there is turned.
-/
import Derived.Test.YtlfchmmkaflglaaDoorFunsBytesDefs
import Derived.Test.YtlfchmmkaflglaaDoorPutNumSpec
import Derived.Test.YtlfchmmkaflglaaDoorFunsSpec
namespace Go.Proofs.YtlfchmmkaflglaaDoor.fun
open Go Go.RowKit Go.Proofs.YtlfchmmkaflglaaDoor.rose Go.Proofs.YtlfchmmkaflglaaDoor Go.Proofs.YtlfchmmkaflglaaDoor.byts
set_option linter.unusedVariables false
set_option linter.unusedSimpArgs false

/-- PutNum of a number that has bytes. -/
theorem put_some (x : Nat) (w : World) (hx : x ≤ 2147483647) :
    Calls Tryd.prog 20 #[.int .i64 x] w fun e w' => (∃ g c, e = .returned (.slice (some ⟨g, 0, none⟩) (vint x).length c) ∧ ∀ j u, ((vint x).map (Value.int .u8))[j]? = some u → w'.cell? ((⟨g, 0, none⟩ : Addr).add j) = some u) ∧ Below w.heap.size w w' := by
  refine (specPutNum x w (by omega) (by omega)).mono fun e w' ⟨⟨v', he, hr⟩, hb⟩ => ⟨?_, hb⟩
  have hq : putB (x : Int) = vint x := by unfold putB; rw [if_pos (by simp [inB]; omega)]; simp
  rw [hq] at hr
  rcases hr.open with ⟨-, h0⟩ | ⟨g, cap, rfl, h2, h3, h4, h5, h6, -⟩
  · have := vint_pos x; rw [h0] at this; simp at this
  · refine ⟨g, cap, he, fun j u hu => ?_⟩
    rw [add_plain, Nat.zero_add]
    rw [List.getElem?_map] at hu
    obtain ⟨y, hy, rfl⟩ := Option.map_eq_some_iff.1 hu
    obtain ⟨h7, rfl⟩ := List.getElem?_eq_some_iff.1 hy
    exact h6 j h7
theorem bytes_one (l : List Int) : ∀ u ∈ l.map (Value.int .u8), u.oneCell' = true := fun u hu => by obtain ⟨y, _, rfl⟩ := List.mem_map.1 hu; rfl

/-- What has been written so far. -/
structure OB (w wr : World) (v : Value) (l : List Int) : Prop where
  row : BRow wr w.heap.size v l
  bel : Below w.heap.size w wr
theorem OB.on {w wr w1 : World} {v : Value} {l : List Int} (h : OB w wr v l) (hb : Below wr.heap.size wr w1) : OB w w1 v l := ⟨h.row.keep hb, h.bel.trans (hb.mono h.bel.size)⟩
theorem OB.app {w w1 w4 : World} {v : Value} {a4 : Option Addr} {c4 m : Nat} {l x : List Int} (h : OB w w1 v l) (hm : x.length = m) (o4 : w4.ownsRow w.heap.size 5 1 (.slice a4 (l.length + m) c4) (l.length + m) (l.map (Value.int .u8) ++ x.map (Value.int .u8))) (g4 : w1.grownBy w4 v.ownBlock) (hx : ∀ y ∈ x, InB8 y) :
    OB w w4 (.slice a4 (l ++ x).length c4) (l ++ x) := by
  refine ⟨⟨?_, fun y hy => ?_⟩, h.bel.grown g4 h.bel.size fun k hk => (h.row.lt k hk).1⟩
  · rw [List.length_append, List.map_append, hm]; exact o4
  · rcases List.mem_append.1 hy with hy | hy
    · exact h.row.2 y hy
    · exact hx y hy
/-- A place in a block of its own. -/
structure PB (w wr : World) (ob : Nat) (c n m : Int) (v : Value) : Prop where
  blk : wr.heap[ob]? = some (.cells #[.int .i64 c, .int .i64 n, .int .i64 m] 47)
  own : v.ownBlock ≠ some ob
theorem PB.lt {w wr : World} {ob : Nat} {c n m : Int} {v : Value} (h : PB w wr ob c n m v) : ob < wr.heap.size := (Array.getElem?_eq_some_iff.1 h.blk).1
theorem PB.on {w wr w1 : World} {ob : Nat} {c n m : Int} {v : Value} (h : PB w wr ob c n m v) (hb : Below wr.heap.size wr w1) : PB w w1 ob c n m v := ⟨(hb.block _ h.lt).trans h.blk, h.own⟩
theorem PB.app {w w1 w4 : World} {ob : Nat} {c n m : Int} {v v4 : Value} (h : PB w w1 ob c n m v) (g4 : w1.grownBy w4 v.ownBlock) (e4 : v4.ownBlock = v.ownBlock ∨ v4.ownBlock = some w1.heap.size) : PB w w4 ob c n m v4 := by
  refine ⟨(g4.block ob h.lt fun e => h.own e.symm).trans h.blk, fun e => ?_⟩
  rcases e4 with q | q
  · exact h.own (q.symm.trans e)
  · rw [q] at e; simp only [Option.some.injEq] at e; have := h.lt; omega
theorem PB.cell {w wr : World} {ob : Nat} {c n m : Int} {v : Value} (h : PB w wr ob c n m v) (j : Nat) {u : Value} (hj : #[Value.int .i64 c, .int .i64 n, .int .i64 m][j]? = some u) : wr.cell? ⟨ob, j, none⟩ = some u := by simp [World.cell?, h.blk, hj]

set_option maxRecDepth 100000 in
set_option maxHeartbeats 16000000 in
theorem specFunsBytes (ks : List FunD) (v : Value) (w : World) (hw : ks.length + wts ks ≤ 1048576) (h : funSh.slice.rep w (· < w.heap.size) [v] ks) :
    Calls Tryd.prog 6 #[v] w fun e w' => (∃ v', e = .returned v' ∧ BRow w' w.heap.size v' (fbytes ks)) ∧ Below w.heap.size w w' := by
  obtain ⟨a, cap, css, rfl, hcap, hmax, hrow, hk⟩ := funs_open h
  have HR : Hid (RowAt w (· < w.heap.size) 2 a ks.length css ∧ ∀ i (h : i < ks.length), funSh.rep w (· < w.heap.size) (css i) ks[i]) := ⟨hrow, hk⟩
  have hcall := specFunsOk ks _ w hw h
  obtain ⟨ti, hti, hz0, hz1, hz2⟩ := byte_info
  have TI : Hid (Tryd.prog.info? 5 = some ti ∧ ti.zero = some (.int .u8 0) ∧ ti.size = 1 ∧ ti.bytes = 1) := ⟨hti, hz0, hz1, hz2⟩
  have hmx : (ks.length : Int) ≤ 9223372036854775807 := by omega
  clear h hcap hmax hrow hk hw hti hz0 hz1 hz2
  rcases q1 : funsB ks with _ | _
  · have HF : Hid (fbytes ks = []) := by show _ = _; unfold fbytes; rw [q1]; rfl
    rw [q1] at hcall
    clear q1
    go_enter Tryd.func6, Tryd.ntmps6
    go_wp2_with fail
    refine hcall.mono ?_
    rintro e w1 ⟨rfl, hb⟩
    clear hcall
    go_wp2
    go_ret
    rw [HF.out]
    exact ⟨⟨_, rfl, brow_lit w1 hb.size⟩, hb.alloc hb.size _⟩
  · rw [q1] at hcall
    have Q1 : Hid (funsB ks = true) := q1
    have h60 := funs_len q1
    clear q1
    go_enter Tryd.func6, Tryd.ntmps6
    go_wp2_with fail
    refine hcall.mono ?_
    rintro e w1 ⟨rfl, hb⟩
    have B1 : Hid (Below w.heap.size w w1) := hb
    clear hcall hb
    have hcall2 := specPutNum (ks.length : Int) w1 (by omega) (by omega)
    go_wp2_with fail
    refine hcall2.mono ?_
    rintro e w2 ⟨⟨v2, rfl, hr2⟩, hb2⟩
    obtain ⟨a2, c2, hv2⟩ := own_form hr2.1
    subst hv2
    have I2 : Hid (OB w w2 (.slice a2 (putB (ks.length : Int)).length c2) (putB (ks.length : Int))) := ⟨⟨own_base hr2.1 B1.out.size, hr2.2⟩, B1.out.trans (hb2.mono B1.out.size)⟩
    clear hr2 hb2 hcall2
    go_wp2
    go_loopw [3, 4] (fun v3 v4 wr => ∃ (i : Nat) (l : List Int) (av : Option Addr) (cv : Nat), i ≤ ks.length ∧ v4 = .int .i64 i ∧ v3 = .slice av l.length cv ∧ l.length ≤ 5 + 45010 * i ∧ Hid (OB w wr (.slice av l.length cv) l ∧ l = putB ks.length ++ (ks.take i).flatMap funBytes)) (fun _ v4 _ => ks.length - (intOf v4).toNat)
    case atStart => exact ⟨0, putB (ks.length : Int), a2, c2, Nat.zero_le _, rfl, rfl, by have := putB_len (ks.length : Int); omega, I2.out, by simp⟩
    case round =>
      obtain ⟨i, l, av, cv, hi, rfl, rfl, hll, HL⟩ := hrel
      by_cases hlt : i < ks.length
      · obtain ⟨b, o, rfl, hS, hc⟩ := HR.out.1 i hlt
        obtain ⟨y0, os, a5, c5, hT, hcs, g0, hrep⟩ := fun_open (HR.out.2 i hlt)
        rw [hcs] at hc
        have HFP := fun_parts Q1.out hlt
        rw [hT] at HFP
        dsimp only at HFP
        obtain ⟨⟨f1, f2⟩, ⟨f3, f4⟩, hops⟩ := HFP
        obtain ⟨yn, rfl⟩ : ∃ yn : Nat, y0 = yn := ⟨y0.toNat, by omega⟩
        have HOPS : Hid _ := hops
        have HC0 : Hid (b < w.heap.size ∧ w.cell? ⟨b, o + i * 2, none⟩ = some (.int .i64 yn) ∧ w.cell? ⟨b, o + i * 2 + 1, none⟩ = some (.slice a5 os.length c5)) := ⟨hS, hc 0 _ rfl, hc 1 _ rfl⟩
        obtain ⟨a6, c6, css6, e6, hcap6, hmax6, hrow6, hk6⟩ := op.ops_open hrep
        cases e6
        have HO : Hid (RowAt w (· < w.heap.size) 3 a5 os.length css6 ∧ ∀ i (h : i < os.length), op.opSh.rep w (· < w.heap.size) (css6 i) os[i]) := ⟨hrow6, hk6⟩
        have HT : Hid (ks[i] = ((yn : Int), os)) := hT
        have hmo : (os.length : Int) ≤ 9223372036854775807 := by omega
        clear hc hcs hT hrep hrow6 hk6 hcap6 hmax6 hops hS g0
        have e0 : wr.cell? ⟨b, o + i * 2, none⟩ = some (.int .i64 yn) := (HL.out.1.bel.cell (p := ⟨b, o + i * 2, none⟩) HC0.out.1).trans HC0.out.2.1
        go_wp2_with fail
        refine (put_some (yn) wr (by omega)).mono ?_
        rintro e w1a ⟨⟨g1, c1p, rfl, hx1⟩, hb1⟩
        have O1a : Hid (OB w w1a (.slice av l.length cv) l) := HL.out.1.on hb1
        have NX1 : Hid _ := hx1
        have ZA1 : Hid (w.heap.size ≤ w1a.heap.size) := O1a.out.bel.size
        have LV1 : Hid ((vint (yn)).length ≤ 5 ∧ ((vint (yn)).map (Value.int .u8)).length = (vint (yn)).length * 1) := ⟨vint_len (k := 5) (by omega) (by omega), by simp⟩
        clear hb1 hx1 e0
        go_wp2_with (first
          | (at_builtin; refine wpList_append_own_at _ rfl (.tmp 20) (.tmp 26) 24 rfl w.heap.size 5 ti _ 1 1 Tryd.underlying24 TI.out.1 TI.out.2.1 TI.out.2.2.1 TI.out.2.2.2 rfl (by decide) (.slice av l.length cv) _ _ rfl O1a.out.row.1 ⟨g1, 0, none⟩ (vint (yn)).length c1p ((vint (yn)).map (Value.int .u8)) rfl LV1.out.2 NX1.out (bytes_one _) (by have := LV1.out.1; unfold maxLen; omega) (by have := LV1.out.1; omega) ZA1.out ?_; intro v1z w1b o1 g1z n1 a1z
             obtain ⟨a1v, c1v, rfl⟩ := own_form o1
             obtain ⟨l1, hl1⟩ : ∃ z, z = l ++ vint (yn) := ⟨_, rfl⟩
             have hq1 : l.length + (vint (yn)).length = l1.length := by rw [hl1, List.length_append]
             have O1b : Hid (OB w w1b (.slice a1v l1.length c1v) l1) := by have := O1a.out.app rfl o1 g1z (vint_in _); rw [← hl1] at this; exact this
             have HE1 : Hid (l1 = l ++ vint (yn)) := hl1
             have hb1l : l1.length ≤ l.length + 5 := by have := LV1.out.1; omega
             rw [hq1] at a1z ⊢
             have e1 : w1b.cell? ⟨b, o + i * 2 + 1, none⟩ = some (.slice a5 os.length c5) := (O1b.out.bel.cell (p := ⟨b, o + i * 2 + 1, none⟩) HC0.out.1).trans HC0.out.2.2
             clear o1 g1z n1 a1z O1a NX1 ZA1 hl1 hq1))
        go_wp2_with fail
        refine (put_some (os.length) w1b (by omega)).mono ?_
        rintro e w2a ⟨⟨g2, c2p, rfl, hx2⟩, hb2⟩
        have O2a : Hid (OB w w2a (.slice a1v l1.length c1v) l1) := O1b.out.on hb2
        have NX2 : Hid _ := hx2
        have ZA2 : Hid (w.heap.size ≤ w2a.heap.size) := O2a.out.bel.size
        have LV2 : Hid ((vint (os.length)).length ≤ 5 ∧ ((vint (os.length)).map (Value.int .u8)).length = (vint (os.length)).length * 1) := ⟨vint_len (k := 5) (by omega) (by omega), by simp⟩
        clear hb2 hx2 e1
        go_wp2_with (first
          | (at_builtin; refine wpList_append_own_at _ rfl (.tmp 28) (.tmp 35) 24 rfl w.heap.size 5 ti _ 1 1 Tryd.underlying24 TI.out.1 TI.out.2.1 TI.out.2.2.1 TI.out.2.2.2 rfl (by decide) (.slice a1v l1.length c1v) _ _ rfl O2a.out.row.1 ⟨g2, 0, none⟩ (vint (os.length)).length c2p ((vint (os.length)).map (Value.int .u8)) rfl LV2.out.2 NX2.out (bytes_one _) (by have := LV2.out.1; unfold maxLen; omega) (by have := LV2.out.1; omega) ZA2.out ?_; intro v2z w2b o2 g2z n2 a2z
             obtain ⟨a2v, c2v, rfl⟩ := own_form o2
             obtain ⟨l2, hl2⟩ : ∃ z, z = l1 ++ vint (os.length) := ⟨_, rfl⟩
             have hq2 : l1.length + (vint (os.length)).length = l2.length := by rw [hl2, List.length_append]
             have O2b : Hid (OB w w2b (.slice a2v l2.length c2v) l2) := by have := O2a.out.app rfl o2 g2z (vint_in _); rw [← hl2] at this; exact this
             have HE2 : Hid (l2 = l1 ++ vint (os.length)) := hl2
             have hb2l : l2.length ≤ l1.length + 5 := by have := LV2.out.1; omega
             rw [hq2] at a2z ⊢
             clear o2 g2z n2 a2z O2a NX2 ZA2 hl2 hq2))
        have hLl : l2.length ≤ 5 + 45010 * i + 10 := by omega
        go_loopw [3, 5] (fun v3 v5 wi => ∃ (q : Nat) (M : List Int) (au : Option Addr) (cu : Nat), q ≤ os.length ∧ v5 = .int .i64 q ∧ v3 = .slice au M.length cu ∧ M.length ≤ 5 + 45010 * i + 10 + 15 * q ∧ Hid (OB w wi (.slice au M.length cu) M ∧ M = l2 ++ (os.take q).flatMap opBytes)) (fun _ v5 _ => os.length - (intOf v5).toNat)
        case atStart => exact ⟨0, l2, a2v, c2v, Nat.zero_le _, rfl, rfl, by omega, O2b.out, by simp⟩
        case round =>
          obtain ⟨q, M, au, cu, hq, rfl, rfl, hml, HM⟩ := hrel
          have e2 : wr.cell? ⟨b, o + i * 2 + 1, none⟩ = some (.slice a5 os.length c5) := (HM.out.1.bel.cell (p := ⟨b, o + i * 2 + 1, none⟩) HC0.out.1).trans HC0.out.2.2
          by_cases hlq : q < os.length
          · obtain ⟨b3, o3, rfl, hS3, hc3⟩ := HO.out.1 q hlq
            obtain ⟨c, n, m, hT3, hcs3, gc, gn, gm⟩ := op.op_open (HO.out.2 q hlq)
            rw [hcs3] at hc3
            have u0 := (HM.out.1.bel.cell (p := ⟨b3, o3 + q * 3, none⟩) hS3).trans (hc3 0 _ rfl)
            have u1 : wr.cell? ⟨b3, o3 + q * 3 + 1, none⟩ = some (.int .i64 n) := (HM.out.1.bel.cell (p := ⟨b3, o3 + q * 3 + 1, none⟩) hS3).trans (hc3 1 _ rfl)
            have u2 : wr.cell? ⟨b3, o3 + q * 3 + 2, none⟩ = some (.int .i64 m) := (HM.out.1.bel.cell (p := ⟨b3, o3 + q * 3 + 2, none⟩) hS3).trans (hc3 2 _ rfl)
            have HB := HOPS.out q hlq
            rw [hT3] at HB
            dsimp only at HB
            obtain ⟨⟨k1, k2⟩, ⟨k3, k4⟩, k5, k6⟩ := HB
            obtain ⟨cn, rfl⟩ : ∃ z : Nat, c = z := ⟨c.toNat, by omega⟩
            obtain ⟨mn, rfl⟩ : ∃ z : Nat, m = z := ⟨m.toNat, by omega⟩
            obtain ⟨nn, hnn⟩ : ∃ z : Nat, (z : Int) = n + 1073741824 := ⟨(n + 1073741824).toNat, by omega⟩
            have HT3 : Hid (os[q] = ((cn : Int), n, (mn : Int))) := hT3
            have HNN : Hid ((nn : Int) = n + 1073741824) := hnn
            have hnn2 : n + 1073741824 = (nn : Int) := hnn.symm
            have qI : (q : Int) < (os.length : Int) := by omega
            have O0 : Hid (OB w (wr.alloc (.cells #[.int .i64 cn, .int .i64 n, .int .i64 mn] 47)) (.slice au M.length cu) M) := HM.out.1.on ((Below.refl _ _).alloc (Nat.le_refl _) _)
            have P0 : Hid (PB w (wr.alloc (.cells #[.int .i64 cn, .int .i64 n, .int .i64 mn] 47)) wr.heap.size cn n mn (.slice au M.length cu)) := ⟨alloc_top _ _, fun e => by have := (HM.out.1.row.lt _ e).2; omega⟩
            clear hc3 hcs3 hT3 hS3 gc gn gm hnn
            go_wp2_with fail
            refine (put_some (cn) _ (by omega)).mono ?_
            rintro e w3a ⟨⟨g3, c3p, rfl, hx3⟩, hb3⟩
            have O3a : Hid (OB w w3a (.slice au M.length cu) M) := O0.out.on hb3
            have P3a : Hid (PB w w3a wr.heap.size cn n mn (.slice au M.length cu)) := P0.out.on hb3
            have NX3 : Hid _ := hx3
            have ZA3 : Hid (w.heap.size ≤ w3a.heap.size) := O3a.out.bel.size
            have LV3 : Hid ((vint (cn)).length ≤ 5 ∧ ((vint (cn)).map (Value.int .u8)).length = (vint (cn)).length * 1) := ⟨vint_len (k := 5) (by omega) (by omega), by simp⟩
            clear hb3 hx3 u0 u1 u2
            go_wp2_with (first
              | (at_builtin; refine wpList_append_own_at _ rfl (.tmp 55) (.tmp 58) 24 rfl w.heap.size 5 ti _ 1 1 Tryd.underlying24 TI.out.1 TI.out.2.1 TI.out.2.2.1 TI.out.2.2.2 rfl (by decide) (.slice au M.length cu) _ _ rfl O3a.out.row.1 ⟨g3, 0, none⟩ (vint (cn)).length c3p ((vint (cn)).map (Value.int .u8)) rfl LV3.out.2 NX3.out (bytes_one _) (by have := LV3.out.1; unfold maxLen; omega) (by have := LV3.out.1; omega) ZA3.out ?_; intro v3z w3b o3 g3z n3 a3z
                 obtain ⟨a3v, c3v, rfl⟩ := own_form o3
                 obtain ⟨l3, hl3⟩ : ∃ z, z = M ++ vint (cn) := ⟨_, rfl⟩
                 have hq3 : M.length + (vint (cn)).length = l3.length := by rw [hl3, List.length_append]
                 have O3b : Hid (OB w w3b (.slice a3v l3.length c3v) l3) := by have := O3a.out.app rfl o3 g3z (vint_in _); rw [← hl3] at this; exact this
                 have HE3 : Hid (l3 = M ++ vint (cn)) := hl3
                 have hb3l : l3.length ≤ M.length + 5 := by have := LV3.out.1; omega
                 rw [hq3] at a3z ⊢
                 have P3b : Hid (PB w w3b wr.heap.size cn n mn (.slice a3v l3.length c3v)) := P3a.out.app g3z a3z
                 have x1 : w3b.cell? ⟨wr.heap.size, 1, none⟩ = some (.int .i64 n) := P3b.out.cell 1 rfl
                 clear o3 g3z n3 a3z O3a NX3 ZA3 hl3 hq3 P3a))
            go_wp2_with fail
            try rw [hnn2]
            refine (put_some (nn) _ (by omega)).mono ?_
            rintro e w4a ⟨⟨g4, c4p, rfl, hx4⟩, hb4⟩
            have O4a : Hid (OB w w4a (.slice a3v l3.length c3v) l3) := O3b.out.on hb4
            have P4a : Hid (PB w w4a wr.heap.size cn n mn (.slice a3v l3.length c3v)) := P3b.out.on hb4
            have NX4 : Hid _ := hx4
            have ZA4 : Hid (w.heap.size ≤ w4a.heap.size) := O4a.out.bel.size
            have LV4 : Hid ((vint (nn)).length ≤ 5 ∧ ((vint (nn)).map (Value.int .u8)).length = (vint (nn)).length * 1) := ⟨vint_len (k := 5) (by omega) (by omega), by simp⟩
            clear hb4 hx4 x1
            go_wp2_with (first
              | (at_builtin; refine wpList_append_own_at _ rfl (.tmp 60) (.tmp 64) 24 rfl w.heap.size 5 ti _ 1 1 Tryd.underlying24 TI.out.1 TI.out.2.1 TI.out.2.2.1 TI.out.2.2.2 rfl (by decide) (.slice a3v l3.length c3v) _ _ rfl O4a.out.row.1 ⟨g4, 0, none⟩ (vint (nn)).length c4p ((vint (nn)).map (Value.int .u8)) rfl LV4.out.2 NX4.out (bytes_one _) (by have := LV4.out.1; unfold maxLen; omega) (by have := LV4.out.1; omega) ZA4.out ?_; intro v4z w4b o4 g4z n4 a4z
                 obtain ⟨a4v, c4v, rfl⟩ := own_form o4
                 obtain ⟨l4, hl4⟩ : ∃ z, z = l3 ++ vint (nn) := ⟨_, rfl⟩
                 have hq4 : l3.length + (vint (nn)).length = l4.length := by rw [hl4, List.length_append]
                 have O4b : Hid (OB w w4b (.slice a4v l4.length c4v) l4) := by have := O4a.out.app rfl o4 g4z (vint_in _); rw [← hl4] at this; exact this
                 have HE4 : Hid (l4 = l3 ++ vint (nn)) := hl4
                 have hb4l : l4.length ≤ l3.length + 5 := by have := LV4.out.1; omega
                 rw [hq4] at a4z ⊢
                 have P4b : Hid (PB w w4b wr.heap.size cn n mn (.slice a4v l4.length c4v)) := P4a.out.app g4z a4z
                 have x2 : w4b.cell? ⟨wr.heap.size, 2, none⟩ = some (.int .i64 mn) := P4b.out.cell 2 rfl
                 clear o4 g4z n4 a4z O4a NX4 ZA4 hl4 hq4 P4a))
            go_wp2_with fail
            refine (put_some (mn) _ (by omega)).mono ?_
            rintro e w5a ⟨⟨g5, c5p, rfl, hx5⟩, hb5⟩
            have O5a : Hid (OB w w5a (.slice a4v l4.length c4v) l4) := O4b.out.on hb5
            have P5a : Hid (PB w w5a wr.heap.size cn n mn (.slice a4v l4.length c4v)) := P4b.out.on hb5
            have NX5 : Hid _ := hx5
            have ZA5 : Hid (w.heap.size ≤ w5a.heap.size) := O5a.out.bel.size
            have LV5 : Hid ((vint (mn)).length ≤ 5 ∧ ((vint (mn)).map (Value.int .u8)).length = (vint (mn)).length * 1) := ⟨vint_len (k := 5) (by omega) (by omega), by simp⟩
            clear hb5 hx5 x2
            go_wp2_with (first
              | (at_builtin; refine wpList_append_own_at _ rfl (.tmp 66) (.tmp 69) 24 rfl w.heap.size 5 ti _ 1 1 Tryd.underlying24 TI.out.1 TI.out.2.1 TI.out.2.2.1 TI.out.2.2.2 rfl (by decide) (.slice a4v l4.length c4v) _ _ rfl O5a.out.row.1 ⟨g5, 0, none⟩ (vint (mn)).length c5p ((vint (mn)).map (Value.int .u8)) rfl LV5.out.2 NX5.out (bytes_one _) (by have := LV5.out.1; unfold maxLen; omega) (by have := LV5.out.1; omega) ZA5.out ?_; intro v5z w5b o5 g5z n5 a5z
                 obtain ⟨a5v, c5v, rfl⟩ := own_form o5
                 obtain ⟨l5, hl5⟩ : ∃ z, z = l4 ++ vint (mn) := ⟨_, rfl⟩
                 have hq5 : l4.length + (vint (mn)).length = l5.length := by rw [hl5, List.length_append]
                 have O5b : Hid (OB w w5b (.slice a5v l5.length c5v) l5) := by have := O5a.out.app rfl o5 g5z (vint_in _); rw [← hl5] at this; exact this
                 have HE5 : Hid (l5 = l4 ++ vint (mn)) := hl5
                 have hb5l : l5.length ≤ l4.length + 5 := by have := LV5.out.1; omega
                 rw [hq5] at a5z ⊢
                 have P5b : Hid (PB w w5b wr.heap.size cn n mn (.slice a5v l5.length c5v)) := P5a.out.app g5z a5z
                 clear o5 g5z n5 a5z O5a NX5 ZA5 hl5 hq5 P5a))
            have hMe : l5 = l2 ++ (os.take (q + 1)).flatMap opBytes := by
              rw [List.take_succ_eq_append_getElem hlq, List.flatMap_append, HE5.out, HE4.out, HE3.out, HM.out.2, HT3.out]
              simp only [List.flatMap_cons, List.flatMap_nil, List.append_nil]
              rw [opBytes_is (by omega) HNN.out (by omega) (by omega)]
              simp only [List.append_assoc]
            have hMl : l5.length ≤ 5 + 45010 * i + 10 + 15 * (q + 1) := by omega
            have HME : Hid (l5 = l2 ++ (os.take (q + 1)).flatMap opBytes) := hMe
            clear hMe
            go_round
            case rel => exact ⟨q + 1, l5, a5v, c5v, by omega, by go_num, rfl, hMl, O5b.out, HME.out⟩
            case measure => simp [intOf]; omega
          · obtain rfl : q = os.length := by omega
            have hMe : M = putB ks.length ++ (ks.take (i + 1)).flatMap funBytes := by
              rw [List.take_succ_eq_append_getElem hlt, List.flatMap_append, HM.out.2, List.take_length, HE2.out, HE1.out, HL.out.2, HT.out]
              simp only [List.flatMap_cons, List.flatMap_nil, List.append_nil]
              rw [funBytes_is (by omega) (by omega)]
              simp only [List.append_assoc]
            have HME : Hid (M = putB ks.length ++ (ks.take (i + 1)).flatMap funBytes) := hMe
            clear hMe
            go_wp2
            go_round
            case rel => exact ⟨i + 1, M, au, cu, by omega, by go_num, rfl, by omega, HM.out.1, HME.out⟩
            case measure => simp [intOf]; omega
      · obtain rfl : i = ks.length := by omega
        have HE : Hid (l = fbytes ks) := by show _ = _; rw [HL.out.2, List.take_length]; unfold fbytes; rw [Q1.out]; rfl
        go_wp2
        go_ret
        rw [← HE.out]
        exact ⟨⟨_, rfl, HL.out.1.row⟩, HL.out.1.bel⟩

end Go.Proofs.YtlfchmmkaflglaaDoor.fun
