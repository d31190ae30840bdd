/-
  The program's FunsBytes, at every list of functions; nothing that was there is turned.
-/
import Derived.Test.YtlfchmmkaflglaaDoorFunsBytesSpec
import Derived.Test.YtlfchmmkaflglaaDoorPutNums
import Derived.Test.YtlfchmmkaflglaaDoorFunsImpl
namespace Go.Proofs.YtlfchmmkaflglaaDoor.fun
open Go Go.RowKit Go.Proofs.YtlfchmmkaflglaaDoor.rose Go.Proofs.YtlfchmmkaflglaaDoor Go.Proofs.YtlfchmmkaflglaaDoor.byts
set_option linter.unusedVariables false
set_option linter.unusedSimpArgs false

/-- Numbers in a block of their own are written behind what has been written so far. -/
theorem put_ob {w W0 : World} {ab : Option Addr} {cb : Nat} {l : List Int} (h : OB w W0 (.slice ab l.length cb) l) (xs : List Nat) (hx : ∀ i (h : i < xs.length), xs[i] ≤ 2147483647) (hxl : xs.length ≤ 3) (hl : l.length ≤ 100000000) :
    Calls Tryd.prog 23 #[.slice ab l.length cb, .slice (some ⟨W0.heap.size, 0, none⟩) xs.length xs.length] (W0.alloc (.cells (xs.map fun x => Value.int .i64 (x : Nat)).toArray 3)) fun e w' => ∃ a' c' L, L = l ++ xs.flatMap vint ∧ e = .returned (.slice a' L.length c') ∧ OB w w' (.slice a' L.length c') L ∧ ∀ k, k < W0.heap.size → (Value.slice ab l.length cb).ownBlock ≠ some k → w'.heap[k]? = W0.heap[k]? := by
  have hb : Below W0.heap.size W0 (W0.alloc (.cells (xs.map fun x => Value.int .i64 (x : Nat)).toArray 3)) := (Below.refl _ _).alloc (Nat.le_refl _) _
  have h1 := h.on hb
  have hc : ∀ i (h : i < xs.length), (W0.alloc (.cells (xs.map fun x => Value.int .i64 (x : Nat)).toArray 3)).cell? ⟨W0.heap.size, i, none⟩ = some (.int .i64 (xs[i] : Nat)) := fun i hi => by
    have := alloc_top W0 (.cells (xs.map fun x => Value.int .i64 (x : Nat)).toArray 3)
    simp only [World.cell?, this]
    simp [hi]
  refine (putNums_any w.heap.size W0.heap.size l xs ab cb _ h1.bel.size h1.row (by simp) (fun e => by have := (h.row.lt _ e).2; omega) hc hx hxl hl).mono fun e w' ⟨a', c', he, hN⟩ => ?_
  refine ⟨a', c', _, rfl, he, ⟨hN.row, h1.bel.grown hN.grw h1.bel.size fun k hk => (h.row.lt k hk).1⟩, fun k hk hn => ?_⟩
  exact (hN.grw.block k (Nat.lt_of_lt_of_le hk hb.size) fun e => hn e.symm).trans (hb.block k hk)

set_option maxRecDepth 100000 in
set_option maxHeartbeats 16000000 in
theorem implFunsBytes (ks : List FunD) (v : Value) (w : World) (hw : ks.length + wts ks ≤ 1048576) (hN : Names w) (h : funSh.slice.rep w (· < w.heap.size) [v] ks) :
    Calls Tryd.prog 8 #[v] w fun e w' => (∃ v', e = .returned v' ∧ BRow w' w.heap.size v' (fbytes ks)) ∧ Below w.heap.size w w' := by
  obtain ⟨a, cap, css, rfl, hcap, hmax, hrow, hk⟩ := funs_open h
  have HR : Hid (RowAt w (· < w.heap.size) 2 a ks.length css ∧ ∀ i (h : i < ks.length), funSh.rep w (· < w.heap.size) (css i) ks[i]) := ⟨hrow, hk⟩
  have hcall := implFunsOk ks _ w hw hN h
  have hmx : (ks.length : Int) ≤ 9223372036854775807 := by omega
  clear h hcap hmax hrow hk hw hN
  rcases q1 : funsB ks with _ | _
  · have HF : Hid (fbytes ks = []) := by show _ = _; unfold fbytes; rw [q1]; rfl
    rw [q1] at hcall
    clear q1
    go_enter Tryd.func8, Tryd.ntmps8
    go_wp2_with fail
    refine hcall.mono ?_
    rintro e w1 ⟨rfl, hb⟩
    clear hcall
    go_wp2
    go_ret
    rw [HF.out]
    exact ⟨⟨_, rfl, BRow.nil _ _⟩, hb⟩
  · rw [q1] at hcall
    have Q1 : Hid (funsB ks = true) := q1
    have h60 := funs_len q1
    clear q1
    go_enter Tryd.func8, Tryd.ntmps8
    go_wp2_with fail
    refine hcall.mono ?_
    rintro e w1 ⟨rfl, hb⟩
    have I1 : Hid (OB w w1 (.slice none ([] : List Int).length 0) []) := ⟨BRow.nil _ _, hb⟩
    clear hcall hb
    have hcall2 := put_ob I1.out [ks.length] (fun i hi => match i, hi with | 0, _ => by show ks.length ≤ _; omega) (by simp) (by simp)
    go_wp2_with fail
    refine hcall2.mono ?_
    rintro e w2 ⟨a2, c2, L2, hL2, rfl, hO2, -⟩
    have I2 : Hid (OB w w2 (.slice a2 L2.length c2) L2 ∧ L2 = putB ks.length) := ⟨hO2, by rw [hL2, putB_nat (by omega)]; simp⟩
    have hl2 : L2.length ≤ 5 := by rw [I2.out.2]; exact putB_len _
    clear hL2 hO2 hcall2 I1
    go_wp2
    go_loopw [3, 17] (fun v3 v17 wr => ∃ (i : Nat) (l : List Int) (av : Option Addr) (cv : Nat), i ≤ ks.length ∧ v17 = .int .i64 i ∧ v3 = .slice av l.length cv ∧ l.length ≤ 5 + 45010 * i ∧ Hid (OB w wr (.slice av l.length cv) l ∧ l = putB ks.length ++ (ks.take i).flatMap funBytes)) (fun _ v17 _ => ks.length - (intOf v17).toNat)
    case atStart => exact ⟨0, L2, a2, c2, Nat.zero_le _, rfl, rfl, by omega, I2.out.1, by rw [I2.out.2]; simp⟩
    case round =>
      obtain ⟨i, l, av, cv, hi, rfl, rfl, hll, HL⟩ := hrel
      by_cases hlt : i < ks.length
      · obtain ⟨b, o, rfl, hS, hc⟩ := HR.out.1 i hlt
        obtain ⟨y0, os, a5, c5, hT, hcs, g0, hrep⟩ := fun_open (HR.out.2 i hlt)
        rw [hcs] at hc
        have HFP := fun_parts Q1.out hlt
        rw [hT] at HFP
        dsimp only at HFP
        obtain ⟨⟨f1, f2⟩, ⟨f3, f4⟩, hops⟩ := HFP
        obtain ⟨yn, rfl⟩ : ∃ yn : Nat, y0 = yn := ⟨y0.toNat, by omega⟩
        have HOPS : Hid _ := hops
        obtain ⟨a6, c6, css6, e6, hcap6, hmax6, hrow6, hk6⟩ := op.ops_open hrep
        cases e6
        have HO : Hid (RowAt w (· < w.heap.size) 3 a5 os.length css6 ∧ ∀ i (h : i < os.length), op.opSh.rep w (· < w.heap.size) (css6 i) os[i]) := ⟨hrow6, hk6⟩
        have HT : Hid (ks[i] = ((yn : Int), os)) := hT
        have hmo : (os.length : Int) ≤ 9223372036854775807 := by omega
        have e0 : wr.cell? ⟨b, o + i * 2, none⟩ = some (.int .i64 yn) := (HL.out.1.bel.cell (p := ⟨b, o + i * 2, none⟩) hS).trans (hc 0 _ rfl)
        have e1 : wr.cell? ⟨b, o + i * 2 + 1, none⟩ = some (.slice a5 os.length c5) := (HL.out.1.bel.cell (p := ⟨b, o + i * 2 + 1, none⟩) hS).trans (hc 1 _ rfl)
        clear hc hcs hT hrep hrow6 hk6 hcap6 hmax6 hops hS g0
        have O1 : Hid (OB w (wr.alloc (.cells #[.int .i64 yn, .slice a5 os.length c5] 45)) (.slice av l.length cv) l) := HL.out.1.on ((Below.refl _ _).alloc (Nat.le_refl _) _)
        have NE1 : Hid ((Value.slice av l.length cv).ownBlock ≠ some wr.heap.size) := fun e => by have := (HL.out.1.row.lt _ e).2; omega
        have hcall3 := put_ob O1.out [yn, os.length] (fun i hi => match i, hi with | 0, _ => by show yn ≤ _; omega
                                                                                   | 1, _ => by show os.length ≤ _; omega) (by simp) (by omega)
        simp only [World.size_alloc] at hcall3
        go_wp2_with fail
        refine hcall3.mono ?_
        rintro e w3 ⟨a2v, c2v, l2, hL3, rfl, hO3, hK3⟩
        have O2b : Hid (OB w w3 (.slice a2v l2.length c2v) l2) := hO3
        have HE2 : Hid (l2 = l ++ (vint yn ++ vint os.length)) := by show _ = _; rw [hL3]; simp
        have hb2l : l2.length ≤ l.length + 10 := by
          have h1 := vint_len (n := yn) (k := 5) (by omega) (by omega)
          have h2 := vint_len (n := os.length) (k := 5) (by omega) (by omega)
          rw [HE2.out]; simp only [List.length_append]; omega
        have d1 : w3.cell? ⟨wr.heap.size, 1, none⟩ = some (.slice a5 os.length c5) := by
          have h1 := hK3 wr.heap.size (by omega) NE1.out
          rw [World.cell?_of_block (a := ⟨wr.heap.size, 1, none⟩) h1]
          simp
        clear hcall3 hL3 hO3 hK3 e0 e1 O1 NE1
        go_wp2
        have hLl : l2.length ≤ 5 + 45010 * i + 10 := by omega
        go_loopw [3, 32] (fun v3 v32 wi => ∃ (q : Nat) (M : List Int) (au : Option Addr) (cu : Nat), q ≤ os.length ∧ v32 = .int .i64 q ∧ v3 = .slice au M.length cu ∧ M.length ≤ 5 + 45010 * i + 10 + 15 * q ∧ Hid (OB w wi (.slice au M.length cu) M ∧ M = l2 ++ (os.take q).flatMap opBytes)) (fun _ v32 _ => os.length - (intOf v32).toNat)
        case atStart => exact ⟨0, l2, a2v, c2v, Nat.zero_le _, rfl, rfl, by omega, O2b.out, by simp⟩
        case round =>
          obtain ⟨q, M, au, cu, hq, rfl, rfl, hml, HM⟩ := hrel
          by_cases hlq : q < os.length
          · obtain ⟨b3, o3, rfl, hS3, hc3⟩ := HO.out.1 q hlq
            obtain ⟨c, n, m, hT3, hcs3, gc, gn, gm⟩ := op.op_open (HO.out.2 q hlq)
            rw [hcs3] at hc3
            have u0 := (HM.out.1.bel.cell (p := ⟨b3, o3 + q * 3, none⟩) hS3).trans (hc3 0 _ rfl)
            have u1 : wr.cell? ⟨b3, o3 + q * 3 + 1, none⟩ = some (.int .i64 n) := (HM.out.1.bel.cell (p := ⟨b3, o3 + q * 3 + 1, none⟩) hS3).trans (hc3 1 _ rfl)
            have u2 : wr.cell? ⟨b3, o3 + q * 3 + 2, none⟩ = some (.int .i64 m) := (HM.out.1.bel.cell (p := ⟨b3, o3 + q * 3 + 2, none⟩) hS3).trans (hc3 2 _ rfl)
            have HB := HOPS.out q hlq
            rw [hT3] at HB
            dsimp only at HB
            obtain ⟨⟨k1, k2⟩, ⟨k3, k4⟩, k5, k6⟩ := HB
            obtain ⟨cn, rfl⟩ : ∃ z : Nat, c = z := ⟨c.toNat, by omega⟩
            obtain ⟨mn, rfl⟩ : ∃ z : Nat, m = z := ⟨m.toNat, by omega⟩
            obtain ⟨nn, hnn⟩ : ∃ z : Nat, (z : Int) = n + 1073741824 := ⟨(n + 1073741824).toNat, by omega⟩
            have HT3 : Hid (os[q] = ((cn : Int), n, (mn : Int))) := hT3
            have HNN : Hid ((nn : Int) = n + 1073741824) := hnn
            have hnn2 : IntKind.i64.wrap (n - -1073741824) = (nn : Int) := by rw [IntKind.wrap_i64]; omega
            have hnn3 : n + 1073741824 = (nn : Int) := hnn.symm
            have qI : (q : Int) < (os.length : Int) := by omega
            have O0 : Hid (OB w (wr.alloc (.cells #[.int .i64 cn, .int .i64 n, .int .i64 mn] 47)) (.slice au M.length cu) M) := HM.out.1.on ((Below.refl _ _).alloc (Nat.le_refl _) _)
            have hcall4 := put_ob O0.out [cn, nn, mn] (fun i hi => match i, hi with | 0, _ => by show cn ≤ _; omega
                                                                                    | 1, _ => by show nn ≤ _; omega
                                                                                    | 2, _ => by show mn ≤ _; omega) (by simp) (by omega)
            simp only [World.size_alloc] at hcall4
            clear hc3 hcs3 hT3 hS3 gc gn gm hnn
            go_wp2_with fail
            refine hcall4.mono ?_
            rintro e w4 ⟨a5v, c5v, l5, hL5, rfl, hO5, -⟩
            have HME : Hid (l5 = l2 ++ (os.take (q + 1)).flatMap opBytes) := by
              show _ = _
              rw [List.take_succ_eq_append_getElem hlq, List.flatMap_append, hL5, HM.out.2, HT3.out]
              simp only [List.flatMap_cons, List.flatMap_nil, List.append_nil]
              rw [opBytes_is (by omega) HNN.out (by omega) (by omega)]
              simp only [List.append_assoc]
            have hMl : l5.length ≤ 5 + 45010 * i + 10 + 15 * (q + 1) := by
              have h1 := vint_len (n := cn) (k := 5) (by omega) (by omega)
              have h2 := vint_len (n := nn) (k := 5) (by omega) (by omega)
              have h3 := vint_len (n := mn) (k := 5) (by omega) (by omega)
              rw [hL5]; simp only [List.flatMap_cons, List.flatMap_nil, List.append_nil, List.length_append]; omega
            have O5 : Hid (OB w w4 (.slice a5v l5.length c5v) l5) := hO5
            clear hL5 hO5 hcall4
            go_wp2
            go_round
            case rel => exact ⟨q + 1, l5, a5v, c5v, by omega, by go_num, rfl, hMl, O5.out, HME.out⟩
            case measure => simp [intOf]; omega
          · obtain rfl : q = os.length := by omega
            have hMe : M = putB ks.length ++ (ks.take (i + 1)).flatMap funBytes := by
              rw [List.take_succ_eq_append_getElem hlt, List.flatMap_append, HM.out.2, List.take_length, HE2.out, HL.out.2, HT.out]
              simp only [List.flatMap_cons, List.flatMap_nil, List.append_nil]
              rw [funBytes_is (by omega) (by omega)]
              simp only [List.append_assoc]
            have HME : Hid (M = putB ks.length ++ (ks.take (i + 1)).flatMap funBytes) := hMe
            clear hMe
            go_wp2
            go_round
            case rel => exact ⟨i + 1, M, au, cu, by omega, by go_num, rfl, by omega, HM.out.1, HME.out⟩
            case measure => simp [intOf]; omega
      · obtain rfl : i = ks.length := by omega
        have HE : Hid (l = fbytes ks) := by show _ = _; rw [HL.out.2, List.take_length]; unfold fbytes; rw [Q1.out]; rfl
        go_wp2
        go_ret
        rw [← HE.out]
        exact ⟨⟨_, rfl, HL.out.1.row⟩, HL.out.1.bel⟩

end Go.Proofs.YtlfchmmkaflglaaDoor.fun
