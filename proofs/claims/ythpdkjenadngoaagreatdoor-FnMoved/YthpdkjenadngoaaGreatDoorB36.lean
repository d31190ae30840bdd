/-
  The model's Shape, at every heap and list of roots; nothing that was there is turned.
  The program's HeapOk, at every heap; nothing that was there is turned.
  How many words of the half are left (left).
  The program's Room, at every heap; nothing that was there is turned.
-/
import Derived.Deep.RegionHeld3
import Derived.Defers
import Derived.Test.YthpdkjenadngoaaGreatDoorB1
import Derived.Test.YthpdkjenadngoaaGreatDoorB2
import Derived.Test.YthpdkjenadngoaaGreatDoorB3
import Derived.Test.YthpdkjenadngoaaGreatDoorB4
import Derived.Test.YthpdkjenadngoaaGreatDoorB5
import Derived.Test.YthpdkjenadngoaaGreatDoorB6
import Derived.Test.YthpdkjenadngoaaGreatDoorB7
import Derived.Test.YthpdkjenadngoaaGreatDoorB8
import Derived.Test.YthpdkjenadngoaaGreatDoorB9
import Derived.Test.YthpdkjenadngoaaGreatDoorB10
import Derived.Test.YthpdkjenadngoaaGreatDoorB11
import Derived.Test.YthpdkjenadngoaaGreatDoorB12
import Derived.Test.YthpdkjenadngoaaGreatDoorB13
import Derived.Test.YthpdkjenadngoaaGreatDoorB14
import Derived.Test.YthpdkjenadngoaaGreatDoorB15
import Derived.Test.YthpdkjenadngoaaGreatDoorB16
import Derived.Test.YthpdkjenadngoaaGreatDoorB17
import Derived.Test.YthpdkjenadngoaaGreatDoorB18
import Derived.Test.YthpdkjenadngoaaGreatDoorB19
import Derived.Test.YthpdkjenadngoaaGreatDoorB20
import Derived.Test.YthpdkjenadngoaaGreatDoorB21
import Derived.Test.YthpdkjenadngoaaGreatDoorB22
import Derived.Test.YthpdkjenadngoaaGreatDoorB23
import Derived.Test.YthpdkjenadngoaaGreatDoorB24
import Derived.Test.YthpdkjenadngoaaGreatDoorB25
import Derived.Test.YthpdkjenadngoaaGreatDoorB26
import Derived.Test.YthpdkjenadngoaaGreatDoorB27
import Derived.Test.YthpdkjenadngoaaGreatDoorB28
import Derived.Test.YthpdkjenadngoaaGreatDoorB29
import Derived.Test.YthpdkjenadngoaaGreatDoorB30
import Derived.Test.YthpdkjenadngoaaGreatDoorB31
import Derived.Test.YthpdkjenadngoaaGreatDoorB32
import Derived.Test.YthpdkjenadngoaaGreatDoorB33
import Derived.Test.YthpdkjenadngoaaGreatDoorB34
import Derived.Test.YthpdkjenadngoaaGreatDoorB35
namespace Go.Proofs.YthpdkjenadngoaaGreatDoor.heap
open Go Go.RowKit Go.Proofs.YthpdkjenadngoaaGreatDoor.rose Go.Proofs.YthpdkjenadngoaaGreatDoor Go.Proofs.YthpdkjenadngoaaGreatDoor.fun Go.Proofs.YthpdkjenadngoaaGreatDoor.words Go.Proofs.YthpdkjenadngoaaGreatDoor.ints
set_option linter.unusedVariables false
set_option linter.unusedSimpArgs false

theorem wordsTx_more {O : List Int} {s : ByteArray} {xs : List Int} {i : Nat} (h : i < xs.length) : wordsTx O s (xs.take (i + 1)) = wordsTx O s (xs.take i) ++ wordTx O xs[i] := by rw [List.take_succ_eq_append_getElem h, wordsTx_push]
theorem blocks_more {W O : List Int} {s : ByteArray} {xs : List Int} {i : Nat} (h : i < xs.length) : (xs.take (i + 1)).foldl (blockTx W O) s = blockTx W O ((xs.take i).foldl (blockTx W O) s) xs[i] := by rw [List.take_succ_eq_append_getElem h, List.foldl_append]; rfl

theorem tag_range (x : Int) (h1 : -9223372036854775808 ≤ x) (h2 : x ≤ 9223372036854775807) : -9223372036854775808 ≤ tagF x ∧ tagF x ≤ 9223372036854775807 := by
  unfold tagF
  by_cases h : 0 ≤ x / 2 / 2
  · rw [Int.tdiv_eq_ediv_of_nonneg h]; omega
  · obtain ⟨n, hn, hn0⟩ : ∃ n : Int, x / 2 / 2 = -n ∧ 0 ≤ n := ⟨-(x / 2 / 2), by omega, by omega⟩
    rw [hn, Int.neg_tdiv, Int.tdiv_eq_ediv_of_nonneg hn0]; omega

set_option maxRecDepth 100000 in
set_option maxHeartbeats 16000000 in
theorem specShape (T : HeapD) (rs : List Int) (cs : List Value) (v : Value) (w : World) (hrl : rs.length ≤ 1048576) (h : heapSh.rep w (· < w.heap.size) cs T) (hv : intsSh.rep w (· < w.heap.size) [v] rs) :
    Calls Tryz.prog 15 #[.agg cs.toArray, v] w fun e w' => e = .returned (.string (shapeF T rs)) ∧ Below w.heap.size w w' := by
  have AH : Hid (∀ w' : World, Below w.heap.size w w' → heapSh.rep w' (· < w'.heap.size) cs T) := fun w' hb => heapSh.mono (heapSh.below h hb) fun b hlt => Nat.lt_of_lt_of_le hlt hb.size
  have AV : Hid (∀ w' : World, Below w.heap.size w w' → intsSh.rep w' (· < w'.heap.size) [v] rs) := fun w' hb => intsSh.mono (intsSh.below hv hb) fun b hlt => Nat.lt_of_lt_of_le hlt hb.size
  obtain ⟨W, a0, c0, half, base, next, rfl, rfl, f0, f1, f2, f3⟩ := heap_open h
  obtain ⟨aw, cw, ew, -, -, hatw⟩ := ints_open f0
  cases ew
  have HAW : Hid _ := hatw
  obtain ⟨ar, cr, rfl, hcap, hmax, hat⟩ := ints_open hv
  have HAR : Hid _ := hat
  have A0 : Hid (ArgK w (w.alloc (.cells #[.slice a0 W.length c0, .int .i64 half, .int .i64 base, .int .i64 next] 26)) [.slice a0 W.length c0, .int .i64 half, .int .i64 base, .int .i64 next] 26) := ArgK.new _ _ _ rfl
  have hcall := specRight (W, half, base, next) rs _ _ _ (AH.out _ A0.out.bel) (AV.out _ A0.out.bel)
  obtain ⟨r, hr⟩ : ∃ r, r = shapeF (W, half, base, next) rs := ⟨_, rfl⟩
  have HR : Hid (r = shapeF (W, half, base, next) rs) := hr
  rw [← hr]
  clear h hv f0 hr hcap hmax hat hatw f1 f2 f3
  rcases q1 : rightB (W, half, base, next) rs with _ | _
  · have HF : Hid (r = ⟨#[]⟩) := by show _ = _; rw [HR.out]; unfold shapeF; rw [q1]; rfl
    rw [q1] at hcall
    clear q1
    go_enter Tryz.func15, Tryz.ntmps15
    go_wp2_with fail
    refine hcall.mono ?_
    rintro e w1 ⟨rfl, hb⟩
    have A1 := A0.out.on hb
    clear hcall hb
    go_wp2
    go_ret
    exact ⟨ret_s HF.out.symm, A1.bel⟩
  rw [q1] at hcall
  have Q1 : Hid (rightB (W, half, base, next) rs = true) := q1
  have hbT := (right_is q1).1
  have HBT : Hid (heapB (W, half, base, next) = true) := hbT
  clear q1 hbT
  go_enter Tryz.func15, Tryz.ntmps15
  go_wp2_with fail
  refine hcall.mono ?_
  rintro e w1 ⟨rfl, hb⟩
  have A1 : Hid (ArgK w w1 [.slice a0 W.length c0, .int .i64 half, .int .i64 base, .int .i64 next] 26) := A0.out.on hb
  have hcall2 := specOrder (W, half, base, next) rs _ _ w1 Q1.out hrl (AH.out _ A1.out.bel) (AV.out _ A1.out.bel)
  have k0 : w1.cell? ⟨w.heap.size, 0, none⟩ = some (.slice a0 W.length c0) := A1.out.cell 0 rfl
  have k1 : w1.cell? ⟨w.heap.size, 1, none⟩ = some (.int .i64 half) := A1.out.cell 1 rfl
  have k2 : w1.cell? ⟨w.heap.size, 2, none⟩ = some (.int .i64 base) := A1.out.cell 2 rfl
  have k3 : w1.cell? ⟨w.heap.size, 3, none⟩ = some (.int .i64 next) := A1.out.cell 3 rfl
  clear hcall hb
  obtain ⟨l, hl⟩ : ∃ l, l = orderF (W, half, base, next) rs := ⟨_, rfl⟩
  have HF : Hid (r = l.foldl (blockTx W l) (wordsTx l ⟨#[]⟩ rs ++ ⟨#[10]⟩)) := by show _ = _; rw [HR.out]; unfold shapeF; rw [Q1.out, ← hl]; rfl
  have hll : l.length ≤ 6000 := by rw [hl]; exact order_len Q1.out
  have HLP : Hid (∀ x ∈ l, ∃ z : Nat, x = z ∧ z + (manyF (W.getD z 0)).toNat < W.length) := fun x hx => place_in HBT.out (by rw [hl] at hx; exact (order_inv Q1.out).sub x hx)
  rw [← hl] at hcall2
  clear hl
  go_wp2_with fail
  refine hcall2.mono ?_
  rintro e w2 ⟨⟨v2, rfl, hr2⟩, hb2⟩
  have A2 : Hid (ArgK w w2 [.slice a0 W.length c0, .int .i64 half, .int .i64 base, .int .i64 next] 26) := A1.out.on hb2
  obtain ⟨ao, co, hv2⟩ := own_form hr2.1
  subst hv2
  have HO : Hid (IRow w2 w1.heap.size (.slice ao l.length co) l) := hr2
  have hw6 : W.length ≤ 6000 := (places_len HBT.out).2
  have HLO : Hid (l.length ≤ 1048576) := by show _ ≤ _; omega
  have HWD : Hid (∀ wr : World, Below w2.heap.size w2 wr → ∀ x, -9223372036854775808 ≤ x → x ≤ 9223372036854775807 → Calls Tryz.prog 33 #[.int .i64 x, .slice ao l.length co] wr fun e w' => e = .returned (.string (wordTx l x)) ∧ Below wr.heap.size wr w') := fun wr hB x x1 x2 =>
    word18_is x l ao co wr x1 x2 HLO.out (intsSh.mono (intsp_rep (HO.out.keep hB).sp) fun b hb' => hb'.2)
  have B0 : Hid (Below w2.heap.size w2 w2) := Below.refl _ _
  have hrI : (rs.length : Int) ≤ 1048576 := by omega
  have hlI : (l.length : Int) ≤ 6000 := by omega
  clear hcall2 hr2 hb2 k0 k1 k2 k3
  go_wp2
  go_loopw [6, 7] (fun v6 v7 wr => ∃ (i : Nat) (s : ByteArray), i ≤ rs.length ∧ v7 = .int .i64 i ∧ v6 = .string s ∧ Hid (s = wordsTx l ⟨#[]⟩ (rs.take i)) ∧ Hid (s.size ≤ 23 * i) ∧ Hid (Below w2.heap.size w2 wr)) (fun _ v7 _ => rs.length + 1 - (intOf v7).toNat)
  case atStart => exact ⟨0, ⟨#[]⟩, Nat.zero_le _, rfl, rfl, rfl, Nat.le_refl _, B0⟩
  case round =>
    obtain ⟨i, s, hi, rfl, rfl, HS, HZ, HB⟩ := hrel
    by_cases hlt : i < rs.length
    · obtain ⟨b, o, rfl, hSb, hc, r1, r2⟩ := HAR.out i hlt
      have hww : Below w.heap.size w wr := A2.out.bel.trans (HB.out.mono A2.out.bel.size)
      have ck : wr.cell? ⟨b, o + i, none⟩ = some (.int .i64 rs[i]) := (hww.cell (p := ⟨b, o + i, none⟩) hSb).trans hc
      obtain ⟨x, hx⟩ : ∃ x, x = rs[i] := ⟨_, rfl⟩
      rw [← hx] at ck r1 r2
      have hS2 := wordsTx_more (O := l) (s := ⟨#[]⟩) hlt
      rw [← HS.out, ← hx] at hS2
      have hz := wordTx_le l x r1 r2 HLO.out
      have hwd := HWD.out wr HB.out x r1 r2
      obtain ⟨t, ht⟩ : ∃ t, t = wordTx l x := ⟨_, rfl⟩
      rw [← ht] at hS2 hz hwd
      have HS2 : Hid (wordsTx l ⟨#[]⟩ (rs.take (i + 1)) = s ++ t) := hS2
      have hsz := HZ.out
      have hsz2 : s.size ≤ 24117248 := by omega
      have z0 : ¬ (9223372036854775807 < s.size + t.size) := by omega
      have HZ2 : Hid ((s ++ t).size ≤ 23 * (i + 1)) := by show _ ≤ _; rw [size_app]; omega
      have i0 : (0 : Int) ≤ (i : Int) := by omega
      have i1 : (i : Int) < (rs.length : Int) := by omega
      clear hc hx ht hS2 hww hsz
      go_wp2_with (first
        | (go_at_call 33; refine hwd.mono ?_; rintro e w3 ⟨rfl, hB3⟩))
      have HB3 : Hid (Below w2.heap.size w2 w3) := HB.out.trans (hB3.mono HB.out.size)
      go_round
      case rel => exact ⟨i + 1, s ++ t, by omega, by go_num, rfl, HS2.out.symm, HZ2, HB3⟩
      case measure => simp [intOf]; omega
    · have hil : i = rs.length := by omega
      have hnl : ¬ (i : Int) < (rs.length : Int) := by omega
      have HS0 : Hid (s = wordsTx l ⟨#[]⟩ rs) := by show _ = _; rw [HS.out, hil, List.take_length]
      have hsz := HZ.out
      have hsz2 : s.size ≤ 24117248 := by omega
      have z0 : ¬ (9223372036854775807 < s.size + 1) := by omega
      obtain ⟨s0, hs0⟩ : ∃ s0, s0 = s ++ (⟨#[10]⟩ : ByteArray) := ⟨_, rfl⟩
      have HS1 : Hid (s0 = wordsTx l ⟨#[]⟩ rs ++ ⟨#[10]⟩) := by show _ = _; rw [hs0, HS0.out]
      have HZ1 : Hid (s0.size ≤ 24117249) := by show _ ≤ _; rw [hs0, size_app]; have : (⟨#[10]⟩ : ByteArray).size = 1 := rfl; omega
      have HS0E : Hid (s ++ (⟨#[10]⟩ : ByteArray) = s0) := hs0.symm
      clear hs0 hsz
      obtain ⟨wo, hwo⟩ : ∃ wo, wo = wr := ⟨_, rfl⟩
      subst hwo
      go_wp2
      go_loopw [6, 8] (fun v6 v8 wr => ∃ (k : Nat) (s : ByteArray), k ≤ l.length ∧ v8 = .int .i64 k ∧ v6 = .string s ∧ Hid (s = (l.take k).foldl (blockTx W l) s0) ∧ Hid (s.size ≤ 24117249 + 1500 * k) ∧ Hid (Below w2.heap.size w2 wr)) (fun _ v8 _ => l.length + 1 - (intOf v8).toNat)
      case atStart => exact ⟨0, s0, Nat.zero_le _, rfl, by rw [HS0E.out], rfl, HZ1, HB⟩
      case round =>
        obtain ⟨k, s, hk, rfl, rfl, HS, HZ, HB⟩ := hrel
        by_cases hlt : k < l.length
        · obtain ⟨z, hzx, hzm⟩ := HLP.out l[k] (List.getElem_mem hlt)
          have hzl : z < W.length := by omega
          rcases HO.out.open with ⟨-, h0⟩ | ⟨g, cp, hv, -, hg2, -, -, hcl, -⟩
          · rw [h0] at hlt; simp at hlt
          obtain ⟨rfl, rfl⟩ : ao = some ⟨g, 0, none⟩ ∧ co = cp := by simp only [Value.slice.injEq] at hv; exact ⟨hv.1, hv.2.2⟩
          obtain ⟨b, o, rfl, hSb, hc, r1, r2⟩ := HAW.out z hzl
          have hww : Below w.heap.size w wr := A2.out.bel.trans (HB.out.mono A2.out.bel.size)
          have k0 : wr.cell? ⟨w.heap.size, 0, none⟩ = some (.slice (some ⟨b, o, none⟩) W.length c0) := (A2.out.on HB.out).cell 0 rfl
          have ek : wr.cell? ⟨g, k, none⟩ = some (.int .i64 z) := by rw [← hzx]; exact (HB.out.cell (p := ⟨g, k, none⟩) hg2).trans (hcl k hlt)
          have ew : wr.cell? ⟨b, o + z, none⟩ = some (.int .i64 W[z]) := (hww.cell (p := ⟨b, o + z, none⟩) hSb).trans hc
          have hgd := getD_at hzl
          obtain ⟨x, hx⟩ : ∃ x, x = W[z] := ⟨_, rfl⟩
          rw [← hx] at ew hgd r1 r2
          have hm := many_in x
          obtain ⟨mn, hmn⟩ : ∃ t : Nat, (t : Int) = manyF x := ⟨(manyF x).toNat, by omega⟩
          have HMN : Hid ((manyF (W.getD z 0)).toNat = mn) := by show _ = _; rw [hgd]; omega
          have hmn63 : mn ≤ 63 := by omega
          have hzmn : z + mn < W.length := by rw [HMN.out] at hzm; exact hzm
          have OF : Hid (∀ W' : World, Calls Tryz.prog 34 #[.int .i64 x] W' fun e w' => e = .returned (.tuple #[.bool (funF x), .int .i64 (tagF x), .int .i64 mn]) ∧ w' = W') := fun W' => by rw [hmn]; exact of_is x W' r1 r2
          have hs2 := blocks_more (W := W) (O := l) (s := s0) hlt
          rw [← HS.out, hzx] at hs2
          have HS2 : Hid ((l.take (k + 1)).foldl (blockTx W l) s0 = wordsTx l (s ++ (if funF x then ⟨#[102, 117, 110]⟩ else ⟨#[99, 111, 110]⟩) ++ ⟨#[32]⟩ ++ dg (tagF x)) (kidsL W z) ++ ⟨#[10]⟩) := by
            show _ = _; rw [hs2]; unfold blockTx; rw [Int.toNat_natCast, hgd]
          have htg := tag_range x r1 r2
          have hd := dg_le (tagF x) htg.1 htg.2
          have hcd := fun V => digitsB (tagF x) V htg.1 htg.2
          obtain ⟨d, hdd⟩ : ∃ d, d = dg (tagF x) := ⟨_, rfl⟩
          rw [← hdd] at hd HS2
          simp only [← hdd] at hcd
          have HCD : Hid _ := hcd
          have hsz2 : s.size ≤ 33117249 := by have := HZ.out; omega
          have zI : (z : Int) < (W.length : Int) := by omega
          have z0I : (0 : Int) ≤ (z : Int) := by omega
          have kI : (k : Int) < (l.length : Int) := by omega
          have k0I : (0 : Int) ≤ (k : Int) := by omega
          have LKZ : Hid (l[k] = (z : Int)) := hzx
          obtain ⟨wq, hwq⟩ : ∃ wq, wq = wr := ⟨_, rfl⟩
          subst hwq
          clear hc hx hgd hm hmn hs2 hzx hzm hcd hdd htg hww hv hg2 hcl
          go_wp2
          go_quiet ((go_at_call 34; exact Calls.quiet_of_same (OF.out _)))
          rcases qf : funF x with _ | _
          · rw [qf] at HS2
            clear qf
            obtain ⟨s1, hs1⟩ : ∃ s1 : ByteArray, s1 = s ++ ⟨#[99, 111, 110]⟩ ++ ⟨#[32]⟩ ++ d := ⟨_, rfl⟩
            have HS1K : Hid (s ++ ⟨#[99, 111, 110]⟩ ++ (⟨#[32]⟩ : ByteArray) ++ d = s1) := hs1.symm
            have HZ1K : Hid (s1.size ≤ s.size + 25) := by show _ ≤ _; rw [hs1, size_app, size_app, size_app]; have e1 : (⟨#[99, 111, 110]⟩ : ByteArray).size = 3 := rfl; have e2 : (⟨#[32]⟩ : ByteArray).size = 1 := rfl; omega
            have HS3 : Hid ((l.take (k + 1)).foldl (blockTx W l) s0 = wordsTx l s1 (kidsL W z) ++ ⟨#[10]⟩) := by show _ = _; rw [HS2.out, hs1]; rfl
            have z1 : ¬ (9223372036854775807 < s.size + 3) := by omega
            have z2 : ¬ (9223372036854775807 < s.size + 3 + 1) := by omega
            have z3 : ¬ (9223372036854775807 < s.size + 3 + 1 + d.size) := by omega
            clear hs1
            go_wp2_with (first
              | (go_at_call 35; refine (HCD.out _).mono ?_; rintro e w3 ⟨rfl, hB3⟩))
            have HB3 : Hid (Below w2.heap.size w2 w3) := drewN_below HB.out nq |>.trans (hB3.mono HB.out.size)
            clear hB3 OF k0 ek ew
            go_loopw [6, 12] (fun v6 v12 wr => ∃ (m : Nat) (t : ByteArray), 1 ≤ m ∧ m ≤ mn + 1 ∧ v12 = .int .i64 m ∧ v6 = .string t ∧ Hid (t = wordsTx l s1 ((kidsL W z).take (m - 1))) ∧ Hid (t.size ≤ s1.size + 23 * m) ∧ Hid (Below w2.heap.size w2 wr)) (fun _ v12 _ => mn + 2 - (intOf v12).toNat)
            case atStart => exact ⟨1, s1, Nat.le_refl _, by omega, rfl, by rw [HS1K.out], rfl, Nat.le_add_right _ _, HB3⟩
            case round =>
              obtain ⟨m, t, hm1, hm2, rfl, rfl, HTS, HTZ, HWB⟩ := hrel
              have hs1z := HZ1K.out
              have htz := HTZ.out
              have htz2 : t.size ≤ 33120000 := by omega
              by_cases hmk : m ≤ mn
              · have hzm1 : z + m < W.length := by omega
                obtain ⟨b', o', hbo, hSb', hc, r1', r2'⟩ := HAW.out (z + m) hzm1
                cases hbo
                rcases HO.out.open with ⟨h0, -⟩ | ⟨g', cp', hv, -, hg2, -, -, hcl, -⟩
                · cases h0
                cases hv
                obtain ⟨zz, hzz, -⟩ := HLP.out l[k] (List.getElem_mem hlt)
                have hkz : l[k] = (z : Int) := LKZ.out
                have hww : Below w.heap.size w wr := A2.out.bel.trans (HWB.out.mono A2.out.bel.size)
                have k0 : wr.cell? ⟨w.heap.size, 0, none⟩ = some (.slice (some ⟨b, o, none⟩) W.length c0) := (A2.out.on HWB.out).cell 0 rfl
                have ek : wr.cell? ⟨g, k, none⟩ = some (.int .i64 z) := by rw [← hkz]; exact (HWB.out.cell (p := ⟨g, k, none⟩) hg2).trans (hcl k hlt)
                have ey : wr.cell? ⟨b, o + (z + m), none⟩ = some (.int .i64 W[z + m]) := (hww.cell (p := ⟨b, o + (z + m), none⟩) hSb').trans hc
                obtain ⟨y, hy⟩ : ∃ y, y = W[z + m] := ⟨_, rfl⟩
                rw [← hy] at ey r1' r2'
                have hky : (kidsL W z)[m - 1]'(by rw [kidsL_len, HMN.out]; omega) = y := by
                  rw [kidsL_get]; unfold kidAt; rw [show z + 1 + (m - 1) = z + m by omega, getD_at hzm1, hy]
                have hts := wordsTx_more (O := l) (s := s1) (xs := kidsL W z) (i := m - 1) (by rw [kidsL_len, HMN.out]; omega)
                rw [hky, ← HTS.out, show m - 1 + 1 = m + 1 - 1 by omega] at hts
                have hz := wordTx_le l y r1' r2' HLO.out
                have hwd := HWD.out wr.drew HWB.out.drew y r1' r2'
                obtain ⟨u, hu⟩ : ∃ u, u = wordTx l y := ⟨_, rfl⟩
                rw [← hu] at hts hz hwd
                have HTS2 : Hid (wordsTx l s1 ((kidsL W z).take (m + 1 - 1)) = t ++ u) := hts
                have HTZ2 : Hid ((t ++ u).size ≤ s1.size + 23 * (m + 1)) := by show _ ≤ _; rw [size_app]; omega
                have z5 : ¬ (9223372036854775807 < t.size + u.size) := by omega
                have mI : IntKind.i64.wrap ((z : Int) + (m : Int)) = (z : Int) + (m : Int) := by rw [IntKind.wrap_i64]; omega
                have zmI : (z : Int) + (m : Int) < (W.length : Int) := by omega
                have zm0 : (0 : Int) ≤ (z : Int) + (m : Int) := by omega
                have hzt : ((z : Int) + (m : Int)).toNat = z + m := by omega
                have hn0 : w.heap.size < wr.heap.size := Nat.lt_of_lt_of_le A2.out.lt HWB.out.size
                have hng : g < wr.heap.size := Nat.lt_of_lt_of_le hg2 HWB.out.size
                have hnb : b < wr.heap.size := Nat.lt_of_lt_of_le (show b < w.heap.size from hSb') hww.size
                have k0n : wr.drew.cell? ⟨w.heap.size, 0, none⟩ = some (.slice (some ⟨b, o, none⟩) W.length c0) := k0
                have ekn : wr.drew.cell? ⟨g, k, none⟩ = some (.int .i64 z) := ek
                have eyn : wr.drew.cell? ⟨b, o + (z + m), none⟩ = some (.int .i64 y) := ey
                clear hc hy hu hts hww hcl hzz hkz hky hs1z htz
                go_wp2
                go_region_held3 (fun X => X.cell? ⟨w.heap.size, 0, none⟩ = some (.slice (some ⟨b, o, none⟩) W.length c0) ∧ X.cell? ⟨g, k, none⟩ = some (.int .i64 z) ∧ X.cell? ⟨b, o + (z + m), none⟩ = some (.int .i64 y))
                  (exact ⟨(by first | with_reducible exact k0 | with_reducible exact k0n), (by first | with_reducible exact ek | with_reducible exact ekn), (by first | with_reducible exact ey | with_reducible exact eyn)⟩)
                  (first
                    | (go_at_call 33; refine hwd.mono ?_; rintro e w4 ⟨rfl, hB4⟩
                       have HB4 : Hid (Below w2.heap.size w2 w4) := HWB.out.drew.trans (hB4.mono (show w2.heap.size ≤ wr.drew.heap.size from HWB.out.size))
                       replace k0 : w4.cell? ⟨w.heap.size, 0, none⟩ = some (.slice (some ⟨b, o, none⟩) W.length c0) := (hB4.cell (p := ⟨w.heap.size, 0, none⟩) (show _ < wr.drew.heap.size from hn0)).trans k0n
                       replace ek : w4.cell? ⟨g, k, none⟩ = some (.int .i64 z) := (hB4.cell (p := ⟨g, k, none⟩) (show _ < wr.drew.heap.size from hng)).trans ekn
                       replace ey : w4.cell? ⟨b, o + (z + m), none⟩ = some (.int .i64 y) := (hB4.cell (p := ⟨b, o + (z + m), none⟩) (show _ < wr.drew.heap.size from hnb)).trans eyn
                       clear hB4))
                go_wp2
                go_round
                case rel => exact ⟨m + 1, t ++ u, by omega, by omega, by go_num, rfl, HTS2.out.symm, HTZ2, HB4⟩
                case measure => simp [intOf]; omega
              · have hmm : m = mn + 1 := by omega
                have hnl : ¬ (m : Int) ≤ (mn : Int) := by omega
                have HTF : Hid (t ++ (⟨#[10]⟩ : ByteArray) = (l.take (k + 1)).foldl (blockTx W l) s0) := by
                  show _ = _
                  rw [HS3.out, HTS.out, List.take_of_length_le (by rw [kidsL_len, HMN.out]; omega)]
                have HTZ2 : Hid ((t ++ (⟨#[10]⟩ : ByteArray)).size ≤ 24117249 + 1500 * (k + 1)) := by
                  show _ ≤ _; rw [size_app]; have e1 : (⟨#[10]⟩ : ByteArray).size = 1 := rfl; have := HZ.out; omega
                have z5 : ¬ (9223372036854775807 < t.size + 1) := by omega
                clear hs1z htz
                go_wp2
                go_round
                case rel => exact ⟨k + 1, t ++ (⟨#[10]⟩ : ByteArray), by omega, by go_num, rfl, HTF, HTZ2, HWB⟩
                case measure => simp [intOf]; omega
          · rw [qf] at HS2
            clear qf
            obtain ⟨s1, hs1⟩ : ∃ s1 : ByteArray, s1 = s ++ ⟨#[102, 117, 110]⟩ ++ ⟨#[32]⟩ ++ d := ⟨_, rfl⟩
            have HS1K : Hid (s ++ ⟨#[102, 117, 110]⟩ ++ (⟨#[32]⟩ : ByteArray) ++ d = s1) := hs1.symm
            have HZ1K : Hid (s1.size ≤ s.size + 25) := by show _ ≤ _; rw [hs1, size_app, size_app, size_app]; have e1 : (⟨#[102, 117, 110]⟩ : ByteArray).size = 3 := rfl; have e2 : (⟨#[32]⟩ : ByteArray).size = 1 := rfl; omega
            have HS3 : Hid ((l.take (k + 1)).foldl (blockTx W l) s0 = wordsTx l s1 (kidsL W z) ++ ⟨#[10]⟩) := by show _ = _; rw [HS2.out, hs1]; rfl
            have z1 : ¬ (9223372036854775807 < s.size + 3) := by omega
            have z2 : ¬ (9223372036854775807 < s.size + 3 + 1) := by omega
            have z3 : ¬ (9223372036854775807 < s.size + 3 + 1 + d.size) := by omega
            clear hs1
            go_wp2_with (first
              | (go_at_call 35; refine (HCD.out _).mono ?_; rintro e w3 ⟨rfl, hB3⟩))
            have HB3 : Hid (Below w2.heap.size w2 w3) := drewN_below HB.out nq |>.trans (hB3.mono HB.out.size)
            clear hB3 OF k0 ek ew
            go_loopw [6, 12] (fun v6 v12 wr => ∃ (m : Nat) (t : ByteArray), 1 ≤ m ∧ m ≤ mn + 1 ∧ v12 = .int .i64 m ∧ v6 = .string t ∧ Hid (t = wordsTx l s1 ((kidsL W z).take (m - 1))) ∧ Hid (t.size ≤ s1.size + 23 * m) ∧ Hid (Below w2.heap.size w2 wr)) (fun _ v12 _ => mn + 2 - (intOf v12).toNat)
            case atStart => exact ⟨1, s1, Nat.le_refl _, by omega, rfl, by rw [HS1K.out], rfl, Nat.le_add_right _ _, HB3⟩
            case round =>
              obtain ⟨m, t, hm1, hm2, rfl, rfl, HTS, HTZ, HWB⟩ := hrel
              have hs1z := HZ1K.out
              have htz := HTZ.out
              have htz2 : t.size ≤ 33120000 := by omega
              by_cases hmk : m ≤ mn
              · have hzm1 : z + m < W.length := by omega
                obtain ⟨b', o', hbo, hSb', hc, r1', r2'⟩ := HAW.out (z + m) hzm1
                cases hbo
                rcases HO.out.open with ⟨h0, -⟩ | ⟨g', cp', hv, -, hg2, -, -, hcl, -⟩
                · cases h0
                cases hv
                obtain ⟨zz, hzz, -⟩ := HLP.out l[k] (List.getElem_mem hlt)
                have hkz : l[k] = (z : Int) := LKZ.out
                have hww : Below w.heap.size w wr := A2.out.bel.trans (HWB.out.mono A2.out.bel.size)
                have k0 : wr.cell? ⟨w.heap.size, 0, none⟩ = some (.slice (some ⟨b, o, none⟩) W.length c0) := (A2.out.on HWB.out).cell 0 rfl
                have ek : wr.cell? ⟨g, k, none⟩ = some (.int .i64 z) := by rw [← hkz]; exact (HWB.out.cell (p := ⟨g, k, none⟩) hg2).trans (hcl k hlt)
                have ey : wr.cell? ⟨b, o + (z + m), none⟩ = some (.int .i64 W[z + m]) := (hww.cell (p := ⟨b, o + (z + m), none⟩) hSb').trans hc
                obtain ⟨y, hy⟩ : ∃ y, y = W[z + m] := ⟨_, rfl⟩
                rw [← hy] at ey r1' r2'
                have hky : (kidsL W z)[m - 1]'(by rw [kidsL_len, HMN.out]; omega) = y := by
                  rw [kidsL_get]; unfold kidAt; rw [show z + 1 + (m - 1) = z + m by omega, getD_at hzm1, hy]
                have hts := wordsTx_more (O := l) (s := s1) (xs := kidsL W z) (i := m - 1) (by rw [kidsL_len, HMN.out]; omega)
                rw [hky, ← HTS.out, show m - 1 + 1 = m + 1 - 1 by omega] at hts
                have hz := wordTx_le l y r1' r2' HLO.out
                have hwd := HWD.out wr.drew HWB.out.drew y r1' r2'
                obtain ⟨u, hu⟩ : ∃ u, u = wordTx l y := ⟨_, rfl⟩
                rw [← hu] at hts hz hwd
                have HTS2 : Hid (wordsTx l s1 ((kidsL W z).take (m + 1 - 1)) = t ++ u) := hts
                have HTZ2 : Hid ((t ++ u).size ≤ s1.size + 23 * (m + 1)) := by show _ ≤ _; rw [size_app]; omega
                have z5 : ¬ (9223372036854775807 < t.size + u.size) := by omega
                have mI : IntKind.i64.wrap ((z : Int) + (m : Int)) = (z : Int) + (m : Int) := by rw [IntKind.wrap_i64]; omega
                have zmI : (z : Int) + (m : Int) < (W.length : Int) := by omega
                have zm0 : (0 : Int) ≤ (z : Int) + (m : Int) := by omega
                have hzt : ((z : Int) + (m : Int)).toNat = z + m := by omega
                have hn0 : w.heap.size < wr.heap.size := Nat.lt_of_lt_of_le A2.out.lt HWB.out.size
                have hng : g < wr.heap.size := Nat.lt_of_lt_of_le hg2 HWB.out.size
                have hnb : b < wr.heap.size := Nat.lt_of_lt_of_le (show b < w.heap.size from hSb') hww.size
                have k0n : wr.drew.cell? ⟨w.heap.size, 0, none⟩ = some (.slice (some ⟨b, o, none⟩) W.length c0) := k0
                have ekn : wr.drew.cell? ⟨g, k, none⟩ = some (.int .i64 z) := ek
                have eyn : wr.drew.cell? ⟨b, o + (z + m), none⟩ = some (.int .i64 y) := ey
                clear hc hy hu hts hww hcl hzz hkz hky hs1z htz
                go_wp2
                go_region_held3 (fun X => X.cell? ⟨w.heap.size, 0, none⟩ = some (.slice (some ⟨b, o, none⟩) W.length c0) ∧ X.cell? ⟨g, k, none⟩ = some (.int .i64 z) ∧ X.cell? ⟨b, o + (z + m), none⟩ = some (.int .i64 y))
                  (exact ⟨(by first | with_reducible exact k0 | with_reducible exact k0n), (by first | with_reducible exact ek | with_reducible exact ekn), (by first | with_reducible exact ey | with_reducible exact eyn)⟩)
                  (first
                    | (go_at_call 33; refine hwd.mono ?_; rintro e w4 ⟨rfl, hB4⟩
                       have HB4 : Hid (Below w2.heap.size w2 w4) := HWB.out.drew.trans (hB4.mono (show w2.heap.size ≤ wr.drew.heap.size from HWB.out.size))
                       replace k0 : w4.cell? ⟨w.heap.size, 0, none⟩ = some (.slice (some ⟨b, o, none⟩) W.length c0) := (hB4.cell (p := ⟨w.heap.size, 0, none⟩) (show _ < wr.drew.heap.size from hn0)).trans k0n
                       replace ek : w4.cell? ⟨g, k, none⟩ = some (.int .i64 z) := (hB4.cell (p := ⟨g, k, none⟩) (show _ < wr.drew.heap.size from hng)).trans ekn
                       replace ey : w4.cell? ⟨b, o + (z + m), none⟩ = some (.int .i64 y) := (hB4.cell (p := ⟨b, o + (z + m), none⟩) (show _ < wr.drew.heap.size from hnb)).trans eyn
                       clear hB4))
                go_wp2
                go_round
                case rel => exact ⟨m + 1, t ++ u, by omega, by omega, by go_num, rfl, HTS2.out.symm, HTZ2, HB4⟩
                case measure => simp [intOf]; omega
              · have hmm : m = mn + 1 := by omega
                have hnl : ¬ (m : Int) ≤ (mn : Int) := by omega
                have HTF : Hid (t ++ (⟨#[10]⟩ : ByteArray) = (l.take (k + 1)).foldl (blockTx W l) s0) := by
                  show _ = _
                  rw [HS3.out, HTS.out, List.take_of_length_le (by rw [kidsL_len, HMN.out]; omega)]
                have HTZ2 : Hid ((t ++ (⟨#[10]⟩ : ByteArray)).size ≤ 24117249 + 1500 * (k + 1)) := by
                  show _ ≤ _; rw [size_app]; have e1 : (⟨#[10]⟩ : ByteArray).size = 1 := rfl; have := HZ.out; omega
                have z5 : ¬ (9223372036854775807 < t.size + 1) := by omega
                clear hs1z htz
                go_wp2
                go_round
                case rel => exact ⟨k + 1, t ++ (⟨#[10]⟩ : ByteArray), by omega, by go_num, rfl, HTF, HTZ2, HWB⟩
                case measure => simp [intOf]; omega
        · have hkl : k = l.length := by omega
          have hnl : ¬ (k : Int) < (l.length : Int) := by omega
          have HFF : Hid (r = s) := by show _ = _; rw [HF.out, HS.out, hkl, List.take_length, HS1.out]
          go_wp2
          go_ret
          exact ⟨ret_s HFF.out.symm, A2.out.bel.trans (HB.out.mono A2.out.bel.size)⟩

end Go.Proofs.YthpdkjenadngoaaGreatDoor.heap

namespace Go.Proofs.YthpdkjenadngoaaGreatDoor.heap
open Go Go.RowKit Go.Proofs.YthpdkjenadngoaaGreatDoor.rose Go.Proofs.YthpdkjenadngoaaGreatDoor Go.Proofs.YthpdkjenadngoaaGreatDoor.fun Go.Proofs.YthpdkjenadngoaaGreatDoor.words Go.Proofs.YthpdkjenadngoaaGreatDoor.ints
set_option linter.unusedVariables false
set_option linter.unusedSimpArgs false

set_option maxHeartbeats 2000000 in
theorem implHeapOk (T : HeapD) (cs : List Value) (w : World) (hw : (wt T) ≤ 1048576) (h : heapSh.rep w (· < w.heap.size) cs T) :
    Calls Tryz.prog 17 #[.agg cs.toArray] w fun e w' => e = .returned (.bool (heapB T)) ∧ Below w.heap.size w w' := by
  obtain ⟨W, a0, c0, half, base, next, rfl, rfl, f0, f1, f2, f3⟩ := heap_open h
  have A0 : Hid (ArgK w (w.alloc (.cells #[.slice a0 W.length c0, .int .i64 half, .int .i64 base, .int .i64 next] 26)) [.slice a0 W.length c0, .int .i64 half, .int .i64 base, .int .i64 next] 26) := ArgK.new _ _ _ rfl
  have hcall := hold_is W a0 c0 half base next _ (heapSh.mono (heapSh.below h A0.out.bel) fun b hlt => Nat.lt_of_lt_of_le hlt A0.out.bel.size)
  clear h f0 f1 f2 f3 hw
  rcases q : heapB (W, half, base, next) with _ | _
  · go_enter Tryz.func17, Tryz.ntmps17
    go_wp2_with fail
    refine hcall.mono ?_
    rintro e w1 ⟨ho, hb⟩
    obtain ⟨p, rfl⟩ := ho.1 q
    have A1 := A0.out.on hb
    clear hcall hb ho
    go_wp2
    go_ret
    exact ⟨rfl, A1.bel⟩
  · go_enter Tryz.func17, Tryz.ntmps17
    go_wp2_with fail
    refine hcall.mono ?_
    rintro e w1 ⟨ho, hb⟩
    obtain ⟨hb', hm, hf, bs, nx, M, -, -, -, rfl, -, -⟩ := ho.2 q
    have A1 := A0.out.on hb
    clear hcall hb ho
    go_wp2
    go_ret
    exact ⟨rfl, A1.bel⟩

end Go.Proofs.YthpdkjenadngoaaGreatDoor.heap

namespace Go.Proofs.YthpdkjenadngoaaGreatDoor.heap
open Go Go.RowKit Go.Proofs.YthpdkjenadngoaaGreatDoor.rose Go.Proofs.YthpdkjenadngoaaGreatDoor Go.Proofs.YthpdkjenadngoaaGreatDoor.fun Go.Proofs.YthpdkjenadngoaaGreatDoor.words Go.Proofs.YthpdkjenadngoaaGreatDoor.ints
set_option linter.unusedVariables false
set_option linter.unusedSimpArgs false

set_option maxHeartbeats 2000000 in
theorem left_is {B hb hm : Nat} {wv : Value} {W : List Int} {half base next : Nat} {lk : Int} {M : List Bool} {w : World} (h : HH B hb hm wv W half base next lk M w) :
    Calls Tryz.prog 70 #[.pointer (some ⟨hb, 0, none⟩)] w fun e w' => e = .returned (.int .i64 ((base : Int) + half - next)) ∧ ∃ n, w' = w.drewN n := by
  have hs := h.siz
  have c4 := h.c4
  have c5 := h.c5
  go_enter Tryz.func70, Tryz.ntmps70
  go_wp2
  go_quiet ((go_at_call 47; exact Calls.quiet_of (base_is (h.drewN _))))
  go_wp2
  go_ret
  exact ⟨rfl, ⟨_, rfl⟩⟩

end Go.Proofs.YthpdkjenadngoaaGreatDoor.heap

namespace Go.Proofs.YthpdkjenadngoaaGreatDoor.heap
open Go Go.RowKit Go.Proofs.YthpdkjenadngoaaGreatDoor.rose Go.Proofs.YthpdkjenadngoaaGreatDoor Go.Proofs.YthpdkjenadngoaaGreatDoor.fun Go.Proofs.YthpdkjenadngoaaGreatDoor.words Go.Proofs.YthpdkjenadngoaaGreatDoor.ints
set_option linter.unusedVariables false
set_option linter.unusedSimpArgs false

set_option maxHeartbeats 4000000 in
theorem room_is {B hb hm : Nat} {wv : Value} {W : List Int} {half base next : Nat} {M : List Bool} {w : World} (h : HH B hb hm wv W half base next 0 M w) :
    Calls Tryz.prog 38 #[.pointer (some ⟨hb, 0, none⟩)] w fun e w' => e = .returned (.int .i64 ((base : Int) + half - next)) ∧ HH B hb hm wv W half base next 0 M w' ∧ Below B w w' := by
  have c0 := h.c0
  have z0 := h.frz 0
  have H1 : Hid (HH B hb hm wv W half base next 1 M (w.setCell ⟨hb, 0, none⟩ (.int .i32 1))) := h.lockw 1
  have B1 : Hid (Below B w (w.setCell ⟨hb, 0, none⟩ (.int .i32 1))) := (Below.refl _ _).setCell h.lo.1 _
  have LO : Hid (B ≤ hb) := h.lo.1
  have hcall := left_is H1.out
  clear h
  go_enter_defers Tryz.func38, Tryz.ntmps38
  go_wp2_with (go_at_call 43; refine (Go.MuLone.lock_free lock.muLib ⟨hb, 0, none⟩ _ c0 z0).mono ?_; rintro e w' ⟨rfl, rfl⟩)
  refine hcall.mono ?_
  rintro e w2 ⟨rfl, n, rfl⟩
  go_wp2
  refine leaves_cons (f := 44) (args := #[.pointer (some ⟨hb, 0, none⟩)]) (by simp) (by simp [go_sem]) ?_
  refine (Go.MuLone.unlock_deferred lock.muLib ⟨hb, 0, none⟩ .returning _ (H1.out.drewN n).c0 ((H1.out.drewN n).frz 0)).mono ?_
  rintro e u' w'' ⟨rfl, rfl, rfl⟩
  exact ⟨_, results_tmp rfl _ _ _, rfl, (H1.out.drewN n).lockw 0, (drewN_bel B1.out n).setCell LO.out _⟩

set_option maxHeartbeats 2000000 in
theorem implRoom (T : HeapD) (cs : List Value) (w : World) (hw : (wt T) ≤ 1048576) (h : heapSh.rep w (· < w.heap.size) cs T) :
    Calls Tryz.prog 18 #[.agg cs.toArray] w fun e w' => e = .returned (.int .i64 (roomF T)) ∧ Below w.heap.size w w' := by
  obtain ⟨W, a0, c0, half, base, next, rfl, rfl, f0, f1, f2, f3⟩ := heap_open h
  have A0 : Hid (ArgK w (w.alloc (.cells #[.slice a0 W.length c0, .int .i64 half, .int .i64 base, .int .i64 next] 26)) [.slice a0 W.length c0, .int .i64 half, .int .i64 base, .int .i64 next] 26) := ArgK.new _ _ _ rfl
  have hcall := hold_is W a0 c0 half base next _ (heapSh.mono (heapSh.below h A0.out.bel) fun b hlt => Nat.lt_of_lt_of_le hlt A0.out.bel.size)
  have hz : w.heap.size ≤ (w.alloc (.cells #[.slice a0 W.length c0, .int .i64 half, .int .i64 base, .int .i64 next] 26)).heap.size := A0.out.bel.size
  clear h f0 f1 f2 f3 hw
  rcases q : heapB (W, half, base, next) with _ | _
  · have HF : Hid (roomF (W, half, base, next) = 0) := by show _ = _; unfold roomF; rw [q]; rfl
    go_enter Tryz.func18, Tryz.ntmps18
    go_wp2_with fail
    refine hcall.mono ?_
    rintro e w1 ⟨ho, hb⟩
    obtain ⟨p, rfl⟩ := ho.1 q
    have A1 := A0.out.on hb
    clear hcall hb ho
    go_wp2
    go_ret
    exact ⟨ret_i HF.out.symm, A1.bel⟩
  · have HF : Hid (roomF (W, half, base, next) = base + half - next) := by show _ = _; unfold roomF; rw [q]; rfl
    go_enter Tryz.func18, Tryz.ntmps18
    go_wp2_with fail
    refine hcall.mono ?_
    rintro e w1 ⟨ho, hb⟩
    obtain ⟨hb', hm, hf, bs, nx, M, e1, e2, e3, rfl, hH, -⟩ := ho.2 q
    have A1 := A0.out.on hb
    have HZ : Hid (w.heap.size ≤ (w.alloc (.cells #[.slice a0 W.length c0, .int .i64 half, .int .i64 base, .int .i64 next] 26)).heap.size) := hz
    have hc2 := room_is hH
    subst e1 e2 e3
    clear hcall hb ho hH hz
    go_wp2_with fail
    refine hc2.mono ?_
    rintro e w2 ⟨rfl, -, hb2⟩
    go_wp2
    go_ret
    exact ⟨ret_i HF.out.symm, A1.bel.trans (hb2.mono HZ.out)⟩

end Go.Proofs.YthpdkjenadngoaaGreatDoor.heap
