/-
  The model's ValueOk, at every list of datas and value; nothing that was there is turned.
-/
import Derived.Test.YtpdmdcoaaboikaaGreatDoorValueOkDefs
import Derived.Test.YtpdmdcoaaboikaaGreatDoorSpecConOf
import Derived.WalkKit
import Derived.WalkLawsBesides
import Derived.Deep.QuietTactic
import Derived.BigQuiet
namespace Go.Proofs.YtpdmdcoaaboikaaGreatDoor.value
open Go Go.RowKit Go.Proofs.YtpdmdcoaaboikaaGreatDoor.rose Go.Proofs.YtpdmdcoaaboikaaGreatDoor
set_option linter.unusedVariables false
set_option linter.unusedSimpArgs false

theorem wordB_yes {n : Int} (h1 : -1073741824 ≤ n) (h2 : n ≤ 1073741823) : wordB n = true := by simp [wordB, h1, h2]
theorem wordB_no {n : Int} (h : ¬ (-1073741824 ≤ n ∧ n ≤ 1073741823)) : wordB n = false := by
  by_cases h1 : -1073741824 ≤ n
  · have : ¬ n ≤ 1073741823 := fun q => h ⟨h1, q⟩
    simp [wordB, h1, this]
  · simp [wordB, h1]

theorem specWordOk (n : Int) (w : World) : Calls Tryz.prog 34 #[.int .i64 n] w fun e w' => e = .returned (.bool (wordB n)) ∧ w' = w := by
  by_cases h1 : -1073741824 ≤ n
  · by_cases h2 : n ≤ 1073741823
    · have E : Hid (true = wordB n) := (wordB_yes h1 h2).symm
      go_enter Tryz.func34, Tryz.ntmps34
      go_wp2
      go_ret
      exact ⟨ret_b E.out, rfl⟩
    · have E : Hid (false = wordB n) := (wordB_no (by omega)).symm
      go_enter Tryz.func34, Tryz.ntmps34
      go_wp2
      go_ret
      exact ⟨ret_b E.out, rfl⟩
  · have E : Hid (false = wordB n) := (wordB_no (by omega)).symm
    go_enter Tryz.func34, Tryz.ntmps34
    go_wp2
    go_ret
    exact ⟨ret_b E.out, rfl⟩

theorem max_any (x y : Nat) (hx : x ≤ 2000000) (hy : y ≤ 2000000) (w : World) : Calls Tryz.prog 33 #[.int .i64 (x : Nat), .int .i64 (y : Nat)] w fun e w' => e = .returned (.int .i64 ((max x y : Nat) : Int)) ∧ w' = w := by
  by_cases h : (x : Int) > y
  · go_enter Tryz.func33, Tryz.ntmps33
    go_wp2
    go_ret
    exact ⟨by rw [show max x y = x by omega]; rfl, rfl⟩
  · go_enter Tryz.func33, Tryz.ntmps33
    go_wp2
    go_ret
    exact ⟨by rw [show max x y = y by omega]; rfl, rfl⟩

theorem dps_take_le (ks : List ValueD) (i : Nat) : dps (ks.take i) ≤ dps ks := dps_le.2 fun k hk => dps_le.1 (Nat.le_refl _) k (List.mem_of_mem_take hk)

def DpSays (T : ValueD) : Prop := ∀ cs w, wt T ≤ 1048576 → valueSh.rep w (· < w.heap.size) cs T →
  Calls Tryz.prog 19 #[.agg cs.toArray] w fun e w' => e = .returned (.int .i64 (dp T : Nat)) ∧ Below w.heap.size w w'

set_option maxHeartbeats 1000000 in
theorem deep_any (T : ValueD) : DpSays T := by
  induction T using ind with
  | h x ks ih =>
    intro cs w hw h
    obtain ⟨op, n, s, ks', a, cap, hT, rfl, -, -, -, hk⟩ := value_open h
    cases hT
    clear h
    obtain ⟨a1, cap1, css, e, hcap, hmax, hrow, hk2⟩ := values_open hk
    cases e
    have hle := dp_le (.mk (op, n, s) ks)
    have hws : wts ks ≤ 1048576 ∧ ks.length ≤ 1048576 ∧ dps ks ≤ 1048576 := by simp [wt, dp] at hw hle; omega
    obtain ⟨hws, hkl, hds⟩ := hws
    have IH : Hid (∀ k ∈ ks, DpSays k) := ih
    have HR : Hid (RowAt w (· < w.heap.size) 4 a ks.length css ∧ ∀ i (h : i < ks.length), valueSh.rep w (· < w.heap.size) (css i) ks[i]) := ⟨hrow, hk2⟩
    clear ih hrow hk2 hk hcap hmax hw hle
    go_enter Tryz.func19, Tryz.ntmps19
    go_wp2
    have T1 : Hid ((w.alloc (.cells #[.int .i64 op, .int .i64 n, .string s, .slice a ks.length cap] 26)).cell? ⟨w.heap.size, 3, none⟩ = some (.slice a ks.length cap)) := by
      show _ = _
      simp
    have B0 : Hid (Below w.heap.size w (w.alloc (.cells #[.int .i64 op, .int .i64 n, .string s, .slice a ks.length cap] 26))) := (Below.refl _ _).alloc (Nat.le_refl _) _
    have Z0 : Hid ((w.alloc (.cells #[.int .i64 op, .int .i64 n, .string s, .slice a ks.length cap] 26)).heap.size = w.heap.size + 1) := by show _ = _; simp
    generalize w.alloc (.cells #[.int .i64 op, .int .i64 n, .string s, .slice a ks.length cap] 26) = w0 at T1 B0 Z0 ⊢
    go_loopw [3, 4] (fun v3 v4 wr => ∃ i : Nat, i ≤ ks.length ∧ v4 = .int .i64 i ∧ v3 = .int .i64 (dps (ks.take i) : Nat) ∧ Hid (Below w0.heap.size w0 wr)) (fun _ v4 _ => ks.length - (intOf v4).toNat)
    case atStart => exact ⟨0, Nat.zero_le _, rfl, by simp [dps], Below.refl _ _⟩
    case round =>
      obtain ⟨i, hi, rfl, rfl, HB⟩ := hrel
      have c4 : wr.cell? ⟨w.heap.size, 3, none⟩ = some (.slice a ks.length cap) := (HB.out.cell (p := ⟨w.heap.size, 3, none⟩) (by simp [Z0.out])).trans T1.out
      by_cases hlt : i < ks.length
      · obtain ⟨b, o, rfl, hS, hc⟩ := HR.out.1 i hlt
        have hrep := HR.out.2 i hlt
        have BW : Below w.heap.size w wr := B0.out.trans (HB.out.mono (by rw [Z0.out]; omega))
        obtain ⟨v0, v1, v2, v3, hcs, c0, c1, c2, c3⟩ := value_cells hrep hc
        have e0 := (BW.cell (p := ⟨b, o + i * 4, none⟩) hS).trans c0
        have e1 := (BW.cell (p := ⟨b, o + i * 4 + 1, none⟩) hS).trans c1
        have e2 := (BW.cell (p := ⟨b, o + i * 4 + 2, none⟩) hS).trans c2
        have e3 := (BW.cell (p := ⟨b, o + i * 4 + 3, none⟩) hS).trans c3
        rw [hcs] at hrep
        clear c0 c1 c2 c3 hc hcs
        have hR := valueSh.mono (valueSh.below hrep BW) (S' := (· < wr.heap.size)) (fun b hb => Nat.lt_of_lt_of_le hb BW.size)
        have hwt : wt ks[i] ≤ 1048576 := by have := wts_take hlt; have := wts_take_le ks (i + 1); omega
        have hcall := IH.out ks[i] (List.getElem_mem hlt) [v0, v1, v2, v3] wr hwt hR
        have D1 : Hid (dps (ks.take (i + 1)) = max (dps (ks.take i)) (dp ks[i])) := dps_take hlt
        have hx1 : dps (ks.take i) ≤ 2000000 := by have := dps_take_le ks i; omega
        have hx2 : dp ks[i] ≤ 2000000 := by have := dp_le ks[i]; omega
        clear hrep hR BW hwt
        go_wp2_with fail
        refine hcall.mono ?_
        clear hcall
        rintro e w1 ⟨rfl, hb⟩
        have B1 : Hid (Below w0.heap.size w0 w1) := HB.out.trans (hb.mono HB.out.size)
        clear hb HB
        go_wp2_with fail
        refine (max_any _ _ hx1 hx2 _).mono ?_
        rintro e w2 ⟨rfl, rfl⟩
        rw [← D1.out]
        go_wp2
        go_round
        case rel => exact ⟨i + 1, by omega, by go_num, rfl, B1⟩
        case measure => simp [intOf]; omega
      · obtain rfl : i = ks.length := by omega
        rw [List.take_length]
        go_wp2
        go_ret
        refine ⟨?_, B0.out.trans (HB.out.mono (by rw [Z0.out]; omega))⟩
        show Ending.returned (.int .i64 ((dps ks : Nat) + 1 : Int)) = _
        rfl

end Go.Proofs.YtpdmdcoaaboikaaGreatDoor.value
