/-
  Deep, the model's and the program's: both tell how many nodes of a tree are within each other; nothing that was there is turned.
-/
import Derived.Test.YtkojogfljnnfhabNodeSz
import Derived.Laws.AppendOwnNone
import Derived.Laws.AppendOwn
namespace Go.Proofs.Ytkojogfljnnfhab.node
open Go.RowKit Go.Proofs.Ytkojogfljnnfhab.rose
set_option linter.unusedVariables false

mutual
/-- How deep a tree is. -/
def dp : Nd → Nat
  | .mk _ ks => dps ks + 1
def dps : List Nd → Nat
  | [] => 0
  | k :: ks => max (dp k) (dps ks)
end

theorem dps_take {ks : List Nd} {i : Nat} (h : i < ks.length) : dps (ks.take (i + 1)) = max (dps (ks.take i)) (dp ks[i]) := by
  induction ks generalizing i with
  | nil => simp at h
  | cons k ks ih =>
    cases i with
    | zero => simp [dps]
    | succ i => simp [dps, ih (by simpa using h)]
theorem dp_le (T : Nd) : dp T ≤ wt T + 1 := by
  induction T using ind with
  | h x ks ih =>
    have : dps ks ≤ ks.length + wts ks := by
      induction ks with
      | nil => simp [dps]
      | cons k ks ih2 =>
        have h1 := ih k (by simp)
        have h2 := ih2 (fun q hq => ih q (by simp [hq]))
        simp [dps, wts]; omega
    simp [dp, wt]; omega

/-- The storey below. -/
def below (L : List Nd) : List Nd := L.flatMap Rose.kids

theorem dps_append (a b : List Nd) : dps (a ++ b) = max (dps a) (dps b) := by
  induction a with
  | nil => simp [dps]
  | cons k a ih => simp [dps, ih]
theorem dps_below {L : List Nd} (h : L ≠ []) : dps L = dps (below L) + 1 := by
  induction L with
  | nil => exact absurd rfl h
  | cons k L ih =>
    cases k with
    | mk x ks =>
      by_cases hL : L = []
      · subst hL; simp [dps, dp, below, Rose.kids]
      · rw [dps, ih hL]; simp [dp, below, Rose.kids, dps_append]
theorem wts_append (a b : List Nd) : wts (a ++ b) = wts a + wts b := by
  induction a with
  | nil => simp [wts]
  | cons k a ih => simp [wts, ih]; omega
theorem wts_below (L : List Nd) : (below L).length + wts (below L) ≤ wts L := by
  induction L with
  | nil => simp [below, wts]
  | cons k L ih =>
    cases k with
    | mk x ks =>
      have e : below (Rose.mk x ks :: L) = ks ++ below L := by simp [below, Rose.kids]
      rw [e, List.length_append, wts_append, wts, wt]
      omega

def DpSays (T : Nd) : Prop := ∀ cs w, wt T ≤ 1048576 → ndSh.rep w (· < w.heap.size) cs T →
  Calls Try.prog 11 #[.agg cs.toArray] w fun e w' => e = .returned (.int .i64 (dp T : Nat)) ∧ Below w.heap.size w w'

theorem max_any (x y : Nat) (hx : x ≤ 2000000) (hy : y ≤ 2000000) (w : World) : Calls Try.prog 26 #[.int .i64 (x : Nat), .int .i64 (y : Nat)] w fun e w' => e = .returned (.int .i64 ((max x y : Nat) : Int)) ∧ w' = w := by
  by_cases h : (x : Int) > y
  · go_enter Try.func26, Try.ntmps26
    go_wp2
    go_ret
    exact ⟨by rw [show max x y = x by omega]; rfl, rfl⟩
  · go_enter Try.func26, Try.ntmps26
    go_wp2
    go_ret
    exact ⟨by rw [show max x y = y by omega]; rfl, rfl⟩

set_option maxHeartbeats 1000000 in
theorem spec_any (T : Nd) : DpSays T := by
  induction T using ind with
  | h x ks ih =>
    intro cs w hw h
    obtain ⟨op, n, s, t, a, cap, ks', hT, rfl, hs, ht, hk⟩ := nd_open h
    cases hT
    clear h
    obtain ⟨a1, cap1, css, e, hcap, hmax, hrow, hk2⟩ := nds_open hk
    cases e
    have hle := dp_le (.mk (op, n, s, t) ks)
    have hws : wts ks ≤ 1048576 ∧ ks.length ≤ 1048576 ∧ dps ks ≤ 1048576 := by simp [wt, dp] at hw hle; omega
    obtain ⟨hws, hkl, hds⟩ := hws
    have IH : Hid (∀ k ∈ ks, DpSays k) := ih
    have HR : Hid (RowAt w (· < w.heap.size) 5 a ks.length css ∧ ∀ i (h : i < ks.length), ndSh.rep w (· < w.heap.size) (css i) ks[i]) := ⟨hrow, hk2⟩
    clear ih hrow hk2 hk hcap hmax hw hle
    go_enter Try.func11, Try.ntmps11
    go_wp2
    have T1 : Hid ((w.alloc (.cells #[.int .i64 op, .int .i64 n, .string s, .string t, .slice a ks.length cap] 33)).cell? ⟨w.heap.size, 4, none⟩ = some (.slice a ks.length cap)) := by
      show _ = _
      simp
    have B0 : Hid (Below w.heap.size w (w.alloc (.cells #[.int .i64 op, .int .i64 n, .string s, .string t, .slice a ks.length cap] 33))) := (Below.refl _ _).alloc (Nat.le_refl _) _
    have Z0 : Hid ((w.alloc (.cells #[.int .i64 op, .int .i64 n, .string s, .string t, .slice a ks.length cap] 33)).heap.size = w.heap.size + 1) := by show _ = _; simp
    generalize w.alloc (.cells #[.int .i64 op, .int .i64 n, .string s, .string t, .slice a ks.length cap] 33) = w0 at T1 B0 Z0 ⊢
    go_loopw [3, 4] (fun v3 v4 wr => ∃ i : Nat, i ≤ ks.length ∧ v4 = .int .i64 i ∧ v3 = .int .i64 (dps (ks.take i) : Nat) ∧ Hid (Below w0.heap.size w0 wr)) (fun _ v4 _ => ks.length - (intOf v4).toNat)
    case atStart => exact ⟨0, Nat.zero_le _, rfl, by simp [dps], Below.refl _ _⟩
    case round =>
      obtain ⟨i, hi, rfl, rfl, HB⟩ := hrel
      have c4 : wr.cell? ⟨w.heap.size, 4, none⟩ = some (.slice a ks.length cap) := (HB.out.cell (p := ⟨w.heap.size, 4, none⟩) (by simp [Z0.out])).trans T1.out
      by_cases hlt : i < ks.length
      · obtain ⟨b, o, rfl, hS, hc⟩ := HR.out.1 i hlt
        have hrep := HR.out.2 i hlt
        have BW : Below w.heap.size w wr := B0.out.trans (HB.out.mono (by rw [Z0.out]; omega))
        obtain ⟨v0, v1, v2, v3, v4, hcs, c0, c1, c2, c3, c4'⟩ := nd_cells hrep hc
        have e0 := (BW.cell (p := ⟨b, o + i * 5, none⟩) hS).trans c0
        have e1 := (BW.cell (p := ⟨b, o + i * 5 + 1, none⟩) hS).trans c1
        have e2 := (BW.cell (p := ⟨b, o + i * 5 + 2, none⟩) hS).trans c2
        have e3 := (BW.cell (p := ⟨b, o + i * 5 + 3, none⟩) hS).trans c3
        have e4 := (BW.cell (p := ⟨b, o + i * 5 + 4, none⟩) hS).trans c4'
        rw [hcs] at hrep
        clear c0 c1 c2 c3 c4' hc hcs
        have hR := ndSh.mono (ndSh.below hrep BW) (S' := (· < wr.heap.size)) (fun b hb => Nat.lt_of_lt_of_le hb BW.size)
        have hwt : wt ks[i] ≤ 1048576 := by have := wts_take hlt; have := wts_take_le ks (i + 1); omega
        have hcall := IH.out ks[i] (List.getElem_mem hlt) [v0, v1, v2, v3, v4] wr hwt hR
        have D1 : Hid (dps (ks.take (i + 1)) = max (dps (ks.take i)) (dp ks[i])) := dps_take hlt
        have hx1 : dps (ks.take i) ≤ 2000000 := by
          have : dps ks = max (dps (ks.take i)) (dps (ks.drop i)) := by rw [← dps_append, List.take_append_drop]
          omega
        have hx2 : dp ks[i] ≤ 2000000 := by have := dp_le ks[i]; omega
        clear hrep hR BW hwt
        go_wp2_with fail
        refine hcall.mono ?_
        clear hcall
        rintro e w1 ⟨rfl, hb⟩
        have B1 : Hid (Below w0.heap.size w0 w1) := HB.out.trans (hb.mono HB.out.size)
        clear hb HB
        go_wp2_with fail
        refine (max_any _ _ hx1 hx2 _).mono ?_
        rintro e w2 ⟨rfl, rfl⟩
        rw [← D1.out]
        go_wp2
        go_round
        case rel => exact ⟨i + 1, by omega, by go_num, rfl, B1⟩
        case measure => simp [intOf]; omega
      · obtain rfl : i = ks.length := by omega
        rw [List.take_length]
        go_wp2
        go_ret
        exact ⟨by simp [dp], B0.out.trans (HB.out.mono (by rw [Z0.out]; omega))⟩

theorem info_nd : (Try.prog.info? 33).map (fun i => (i.zero, i.size, i.bytes)) = some (some (.agg #[.int .i64 0, .int .i64 0, .string ⟨#[]⟩, .string ⟨#[]⟩, .slice none 0 0]), 5, 72) := by kernel_rfl

theorem below_take {L : List Nd} {i : Nat} (h : i < L.length) : below (L.take (i + 1)) = below (L.take i) ++ L[i].kids := by
  unfold below
  rw [List.take_succ_eq_append_getElem h, List.flatMap_append]
  simp
theorem below_take_le (L : List Nd) (i : Nat) : (below (L.take i)).length ≤ (below L).length := by
  have : below L = below (L.take i) ++ below (L.drop i) := by simp only [below]; rw [← List.flatMap_append, List.take_append_drop]
  rw [this]; simp

/-- WHAT THE OUTER LOOP KNOWS of a storey. -/
def Storey (w wr : World) (v : Value) (L : List Nd) : Prop := ndSh.slice.rep wr (· < wr.heap.size) [v] L ∧ Below w.heap.size w wr ∧ L.length + wts L ≤ 1048576

set_option maxHeartbeats 2000000 in
theorem impl_any (T : Nd) (cs : List Value) (w : World) (hw : wt T ≤ 1048576) (h : ndSh.rep w (· < w.heap.size) cs T) :
    Calls Try.prog 13 #[.agg cs.toArray] w fun e w' => e = .returned (.int .i64 (dp T : Nat)) ∧ Below w.heap.size w w' := by
  obtain ⟨op, n, s, t, a, cap, ks, rfl, rfl, hs, ht, hk⟩ := nd_open h
  clear h
  have hdp : dp (.mk (op, n, s, t) ks) = dps ks + 1 := by simp [dp]
  have hle := dp_le (.mk (op, n, s, t) ks)
  have hdl : dps ks + 1 ≤ 2000000 := by omega
  have hws : ks.length + wts ks ≤ 1048576 := by simp [wt] at hw; omega
  rw [hdp]
  clear hdp hle hw
  obtain ⟨ti, hti, hzz⟩ := Option.map_eq_some_iff.1 info_nd
  simp only [Prod.mk.injEq] at hzz
  obtain ⟨hz0, hz1, hz2⟩ := hzz
  have TI : Hid (Try.prog.info? 33 = some ti ∧ ti.zero = some (.agg #[.int .i64 0, .int .i64 0, .string ⟨#[]⟩, .string ⟨#[]⟩, .slice none 0 0]) ∧ ti.size = 5 ∧ ti.bytes = 72) := ⟨hti, hz0, hz1, hz2⟩
  clear hti hz0 hz1 hz2
  have S0 : Hid (Storey w (w.alloc (.cells #[.int .i64 op, .int .i64 n, .string s, .string t, .slice a ks.length cap] 33)) (.slice a ks.length cap) ks) :=
    ⟨ndSh.slice.mono (ndSh.slice.below hk ((Below.refl _ _).alloc (Nat.le_refl _) _)) fun b hb => by simp; omega, (Below.refl _ _).alloc (Nat.le_refl _) _, hws⟩
  clear hk hs ht
  go_enter Try.func13, Try.ntmps13
  go_wp2
  generalize w.alloc (.cells #[.int .i64 op, .int .i64 n, .string s, .string t, .slice a ks.length cap] 33) = w0 at S0 ⊢
  go_loopw [3, 4] (fun v3 v4 wr => ∃ (d : Nat) (a : Option Addr) (cap : Nat) (L : List Nd), v3 = .int .i64 (d : Nat) ∧ v4 = .slice a L.length cap ∧ d + dps L = dps ks + 1 ∧ Hid (Storey w wr (.slice a L.length cap) L)) (fun v3 _ _ => dps ks + 1 - (intOf v3).toNat)
  case atStart => exact ⟨1, a, cap, ks, rfl, rfl, by omega, S0⟩
  case round =>
    obtain ⟨d, a, cap, L, rfl, rfl, hd, HS⟩ := hrel
    by_cases hL : L = []
    · subst hL
      have hd' : d = dps ks + 1 := by simpa [dps] using hd
      subst hd'
      go_wp2
      go_ret
      exact ⟨rfl, HS.out.2.1⟩
    · have hLl : 0 < L.length := List.length_pos_iff.2 hL
      have t1 : decide (0 < (L.length : Int)) = true := by simp; omega
      have t2 : decide ((L.length : Int) > 0) = true := by simp; omega
      go_wp2
      have O0 : Hid (Own ndSh 33 wr wr.heap.size (· < wr.heap.size) (.slice none 0 0) (below (L.take 0))) := by
        have := Own.nil ndSh 33 wr wr.heap.size (· < wr.heap.size)
        simpa [Hid, below] using this
      rename World => wo
      go_loopw [5, 17] (fun v5 v17 wi => ∃ j : Nat, j ≤ L.length ∧ v17 = .int .i64 j ∧ Hid (Own ndSh 33 wi wo.heap.size (· < wo.heap.size) v5 (below (L.take j)) ∧ Below wo.heap.size wo wi)) (fun _ v17 _ => L.length - (intOf v17).toNat)
      case atStart => exact ⟨0, Nat.zero_le _, rfl, O0.out, Below.refl _ _⟩
      case round =>
        obtain ⟨j, hj, rfl, HO⟩ := hrel
        have hLm : L.length ≤ 1048576 := by have := HS.out.2.2; omega
        by_cases hlt : j < L.length
        · obtain ⟨a1, cap1, css, e, -, -, hrow, hk2⟩ := nds_open HS.out.1
          cases e
          obtain ⟨b, o, rfl, hS, hc⟩ := hrow j hlt
          have hrep := hk2 j hlt
          obtain ⟨op', n', s', t', ak, capk, ks', hT, hcs, -, -, hkk⟩ := nd_open hrep
          rw [hcs] at hc
          have BI := HO.out.2
          have e0 := (BI.cell (p := ⟨b, o + j * 5, none⟩) hS).trans (hc 0 _ rfl)
          have e1 := (BI.cell (p := ⟨b, o + j * 5 + 1, none⟩) hS).trans (hc 1 _ rfl)
          have e2 := (BI.cell (p := ⟨b, o + j * 5 + 2, none⟩) hS).trans (hc 2 _ rfl)
          have e3 := (BI.cell (p := ⟨b, o + j * 5 + 3, none⟩) hS).trans (hc 3 _ rfl)
          have e4 := (BI.cell (p := ⟨b, o + j * 5 + 4, none⟩) hS).trans (hc 4 _ rfl)
          have hbt : below (L.take (j + 1)) = below (L.take j) ++ ks' := by rw [below_take hlt, hT]; rfl
          have hbl : (below (L.take j)).length + ks'.length ≤ 1048576 := by
            have h1 := below_take_le L (j + 1)
            rw [hbt, List.length_append] at h1
            have h2 := wts_below L
            have h3 := HS.out.2.2
            omega
          have KK : Hid (ndSh.slice.rep wo (· < wo.heap.size) [.slice ak ks'.length capk] ks') := hkk
          have HT : Hid (below (L.take (j + 1)) = below (L.take j) ++ ks') := hbt
          have HL : Hid ((below (L.take j)).length + ks'.length ≤ 1048576) := hbl
          have HO2 : Hid (Own ndSh 33 (wr.alloc (.cells #[.int .i64 op', .int .i64 n', .string s', .string t', .slice ak ks'.length capk] 33)) wo.heap.size (· < wo.heap.size) u5 (below (L.take j))) :=
            HO.out.1.on fun q hq => Below.heap_alloc _ _ _ (by have := BI.size; omega)
          have HB2 : Hid (Below wo.heap.size wo (wr.alloc (.cells #[.int .i64 op', .int .i64 n', .string s', .string t', .slice ak ks'.length capk] 33))) := BI.alloc BI.size _
          clear hc hrep hT hcs hkk hbt hbl hrow hk2 BI HO
          cases ak with
          | none =>
            obtain ⟨h1, rfl, rfl⟩ := nds_none KK.out
            go_wp2_with (at_builtin; refine wpList_append_own_none rfl (.tmp 21) (.tmp 23) 31 rfl wo.heap.size 33 ti 5 Try.underlying31 TI.out.1 _ _ _ rfl HO2.out.choose_spec.1 rfl ?_)
            go_round
            case rel => exact ⟨j + 1, by omega, by go_num, by rw [HT.out, List.append_nil]; exact HO2.out, HB2.out⟩
            case measure => simp [intOf]; omega
          | some ad =>
            obtain ⟨a1, cap1, css2, e, -, -, hrow, hk2⟩ := nds_open KK.out
            cases e
            have NW : Hid (∀ q u, (flat css2 ks'.length)[q]? = some u → (wr.alloc (.cells #[.int .i64 op', .int .i64 n', .string s', .string t', .slice (some ad) ks'.length capk] 33)).cell? (ad.add q) = some u) := by
              intro q u hq
              by_cases h0 : ks'.length = 0
              · rw [h0] at hq; simp [flat] at hq
              · obtain ⟨b2, o2, e2, hS2, _⟩ := hrow 0 (by omega)
                cases e2
                have := flat_row (fun i hi => ndSh.len (hk2 i hi)) hrow q u hq
                rw [add_plain, HB2.out.cell (p := ⟨b2, o2 + q, none⟩) hS2]
                exact this
            have LN : Hid ((flat css2 ks'.length).length = ks'.length * 5) := flat_length fun i hi => ndSh.len (hk2 i hi)
            have ON : Hid (∀ u ∈ flat css2 ks'.length, u.oneCell' = true) := by
              intro u hu
              obtain ⟨i, hi, hu⟩ := List.mem_flatMap.1 hu
              exact ndSh.one (hk2 i (List.mem_range.1 hi)) u hu
            have RP : Hid (∀ i (h : i < ks'.length), ndSh.rep (wr.alloc (.cells #[.int .i64 op', .int .i64 n', .string s', .string t', .slice (some ad) ks'.length capk] 33)) (· < wo.heap.size) (css2 i) ks'[i]) := fun i hi => ndSh.below (hk2 i hi) HB2.out
            have HC := HO2.out.choose_spec
            generalize HO2.out.choose = css1 at HC
            obtain ⟨hc1, hc2⟩ := HC
            have C1 : Hid _ := hc1
            have C2 : Hid _ := hc2
            clear hc1 hc2 hrow hk2
            go_wp2_with (at_builtin; refine wpList_append_own _ rfl (.tmp 21) (.tmp 23) 31 rfl wo.heap.size 33 ti _ 5 72 Try.underlying31 TI.out.1 TI.out.2.1 TI.out.2.2.1 TI.out.2.2.2 rfl (by decide) _ _ _ rfl C1.out ad ks'.length capk _ rfl LN.out NW.out ON.out (by have := HL.out; unfold maxLen; omega) (by have := HL.out; omega) (by have := HB2.out.size; omega) ?_; intro v' w' hown' hgrow hnil)
            have hg : (wr.alloc (.cells #[.int .i64 op', .int .i64 n', .string s', .string t', .slice (some ad) ks'.length capk] 33)).grownBy w' u5.ownBlock := hgrow
            have hsz : wo.heap.size ≤ (wr.alloc (.cells #[.int .i64 op', .int .i64 n', .string s', .string t', .slice (some ad) ks'.length capk] 33)).heap.size := HB2.out.size
            have OF : Hid (Own ndSh 33 w' wo.heap.size (· < wo.heap.size) v' (below (L.take j) ++ ks')) := Own.more (A := ndSh) (css := css1) (css2 := css2) C1.out C2.out RP.out (fun _ h => h) hsz hown' hg
            have BF : Hid (Below wo.heap.size wo w') := HB2.out.grown hg hsz fun k hk => by
              rcases C1.out.2 with ⟨e, _⟩ | ⟨g, c, cur, e, hle, _⟩
              · rw [e] at hk; cases hk
              · rw [e] at hk; cases hk; exact hle
            clear hgrow hnil hg hsz
            go_round
            case rel => exact ⟨j + 1, by omega, by go_num, by rw [HT.out]; exact OF.out, BF.out⟩
            case measure => simp [intOf]; omega
        · obtain rfl : j = L.length := by omega
          have OF := HO.out.1
          rw [List.take_length] at OF
          have hsl := OF.slice (by decide)
          obtain ⟨a2, cap2, css, hv5, -⟩ := nds_open hsl
          subst hv5
          have hdb := dps_below hL
          have hwb := wts_below L
          have hsz := HO.out.2.size
          have SF : Hid (Storey w wr (.slice a2 (below L).length cap2) (below L)) :=
            ⟨ndSh.slice.mono hsl fun b hb => by rcases hb with h | h <;> omega, HS.out.2.1.trans (HO.out.2.mono HS.out.2.1.size), by have := HS.out.2.2; omega⟩
          clear OF hsl HO hsz
          go_wp2
          go_round
          case rel => exact ⟨d + 1, a2, cap2, below L, by go_num, rfl, by omega, SF⟩
          case measure => simp [intOf]; omega

end Go.Proofs.Ytkojogfljnnfhab.node
