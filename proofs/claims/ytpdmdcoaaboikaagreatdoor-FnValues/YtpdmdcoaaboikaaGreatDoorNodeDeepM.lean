/-
  The model's Deep: how many nodes of a tree are within each other; nothing that was there is turned.
-/
import Derived.Test.YtpdmdcoaaboikaaGreatDoorNodeSh
import Derived.Test.YtpdmdcoaaboikaaGreatDoorChecked
import Derived.WalkKit
import Derived.WalkLawsBesides
import Derived.Deep.QuietTactic
import Derived.BigQuiet
import Derived.Laws.AppendOwnNone
import Derived.Laws.AppendOwn
namespace Go.Proofs.YtpdmdcoaaboikaaGreatDoor.node
open Go.RowKit Go.Proofs.YtpdmdcoaaboikaaGreatDoor.rose
set_option linter.unusedVariables false

mutual
/-- How deep a tree is. -/
def dp : Nd → Nat
  | .mk _ ks => dps ks + 1
def dps : List Nd → Nat
  | [] => 0
  | k :: ks => max (dp k) (dps ks)
end

theorem dps_take {ks : List Nd} {i : Nat} (h : i < ks.length) : dps (ks.take (i + 1)) = max (dps (ks.take i)) (dp ks[i]) := by
  induction ks generalizing i with
  | nil => simp at h
  | cons k ks ih =>
    cases i with
    | zero => simp [dps]
    | succ i => simp [dps, ih (by simpa using h)]
theorem dp_le (T : Nd) : dp T ≤ wt T + 1 := by
  induction T using ind with
  | h x ks ih =>
    have : dps ks ≤ ks.length + wts ks := by
      induction ks with
      | nil => simp [dps]
      | cons k ks ih2 =>
        have h1 := ih k (by simp)
        have h2 := ih2 (fun q hq => ih q (by simp [hq]))
        simp [dps, wts]; omega
    simp [dp, wt]; omega

/-- The storey below. -/
def below (L : List Nd) : List Nd := L.flatMap Rose.kids

theorem dps_append (a b : List Nd) : dps (a ++ b) = max (dps a) (dps b) := by
  induction a with
  | nil => simp [dps]
  | cons k a ih => simp [dps, ih]
theorem dps_below {L : List Nd} (h : L ≠ []) : dps L = dps (below L) + 1 := by
  induction L with
  | nil => exact absurd rfl h
  | cons k L ih =>
    cases k with
    | mk x ks =>
      by_cases hL : L = []
      · subst hL; simp [dps, dp, below, Rose.kids]
      · rw [dps, ih hL]; simp [dp, below, Rose.kids, dps_append]
theorem wts_append (a b : List Nd) : wts (a ++ b) = wts a + wts b := by
  induction a with
  | nil => simp [wts]
  | cons k a ih => simp [wts, ih]; omega
theorem wts_below (L : List Nd) : (below L).length + wts (below L) ≤ wts L := by
  induction L with
  | nil => simp [below, wts]
  | cons k L ih =>
    cases k with
    | mk x ks =>
      have e : below (Rose.mk x ks :: L) = ks ++ below L := by simp [below, Rose.kids]
      rw [e, List.length_append, wts_append, wts, wt]
      omega

def DpSays (T : Nd) : Prop := ∀ cs w, wt T ≤ 1048576 → ndSh.rep w (· < w.heap.size) cs T →
  Calls Tryz.prog 71 #[.agg cs.toArray] w fun e w' => e = .returned (.int .i64 (dp T : Nat)) ∧ Below w.heap.size w w'

theorem max_any (x y : Nat) (hx : x ≤ 2000000) (hy : y ≤ 2000000) (w : World) : Calls Tryz.prog 33 #[.int .i64 (x : Nat), .int .i64 (y : Nat)] w fun e w' => e = .returned (.int .i64 ((max x y : Nat) : Int)) ∧ w' = w := by
  by_cases h : (x : Int) > y
  · go_enter Tryz.func33, Tryz.ntmps33
    go_wp2
    go_ret
    exact ⟨by rw [show max x y = x by omega]; rfl, rfl⟩
  · go_enter Tryz.func33, Tryz.ntmps33
    go_wp2
    go_ret
    exact ⟨by rw [show max x y = y by omega]; rfl, rfl⟩

set_option maxHeartbeats 1000000 in
theorem spec_any (T : Nd) : DpSays T := by
  induction T using ind with
  | h x ks ih =>
    intro cs w hw h
    obtain ⟨op, n, s, t, a, cap, ks', hT, rfl, hs, ht, hk⟩ := nd_open h
    cases hT
    clear h
    obtain ⟨a1, cap1, css, e, hcap, hmax, hrow, hk2⟩ := nds_open hk
    cases e
    have hle := dp_le (.mk (op, n, s, t) ks)
    have hws : wts ks ≤ 1048576 ∧ ks.length ≤ 1048576 ∧ dps ks ≤ 1048576 := by simp [wt, dp] at hw hle; omega
    obtain ⟨hws, hkl, hds⟩ := hws
    have IH : Hid (∀ k ∈ ks, DpSays k) := ih
    have HR : Hid (RowAt w (· < w.heap.size) 5 a ks.length css ∧ ∀ i (h : i < ks.length), ndSh.rep w (· < w.heap.size) (css i) ks[i]) := ⟨hrow, hk2⟩
    clear ih hrow hk2 hk hcap hmax hw hle
    go_enter Tryz.func71, Tryz.ntmps71
    go_wp2
    have T1 : Hid ((w.alloc (.cells #[.int .i64 op, .int .i64 n, .string s, .string t, .slice a ks.length cap] 36)).cell? ⟨w.heap.size, 4, none⟩ = some (.slice a ks.length cap)) := by
      show _ = _
      simp
    have B0 : Hid (Below w.heap.size w (w.alloc (.cells #[.int .i64 op, .int .i64 n, .string s, .string t, .slice a ks.length cap] 36))) := (Below.refl _ _).alloc (Nat.le_refl _) _
    have Z0 : Hid ((w.alloc (.cells #[.int .i64 op, .int .i64 n, .string s, .string t, .slice a ks.length cap] 36)).heap.size = w.heap.size + 1) := by show _ = _; simp
    generalize w.alloc (.cells #[.int .i64 op, .int .i64 n, .string s, .string t, .slice a ks.length cap] 36) = w0 at T1 B0 Z0 ⊢
    go_loopw [3, 4] (fun v3 v4 wr => ∃ i : Nat, i ≤ ks.length ∧ v4 = .int .i64 i ∧ v3 = .int .i64 (dps (ks.take i) : Nat) ∧ Hid (Below w0.heap.size w0 wr)) (fun _ v4 _ => ks.length - (intOf v4).toNat)
    case atStart => exact ⟨0, Nat.zero_le _, rfl, by simp [dps], Below.refl _ _⟩
    case round =>
      obtain ⟨i, hi, rfl, rfl, HB⟩ := hrel
      have c4 : wr.cell? ⟨w.heap.size, 4, none⟩ = some (.slice a ks.length cap) := (HB.out.cell (p := ⟨w.heap.size, 4, none⟩) (by simp [Z0.out])).trans T1.out
      by_cases hlt : i < ks.length
      · obtain ⟨b, o, rfl, hS, hc⟩ := HR.out.1 i hlt
        have hrep := HR.out.2 i hlt
        have BW : Below w.heap.size w wr := B0.out.trans (HB.out.mono (by rw [Z0.out]; omega))
        obtain ⟨v0, v1, v2, v3, v4, hcs, c0, c1, c2, c3, c4'⟩ := nd_cells hrep hc
        have e0 := (BW.cell (p := ⟨b, o + i * 5, none⟩) hS).trans c0
        have e1 := (BW.cell (p := ⟨b, o + i * 5 + 1, none⟩) hS).trans c1
        have e2 := (BW.cell (p := ⟨b, o + i * 5 + 2, none⟩) hS).trans c2
        have e3 := (BW.cell (p := ⟨b, o + i * 5 + 3, none⟩) hS).trans c3
        have e4 := (BW.cell (p := ⟨b, o + i * 5 + 4, none⟩) hS).trans c4'
        rw [hcs] at hrep
        clear c0 c1 c2 c3 c4' hc hcs
        have hR := ndSh.mono (ndSh.below hrep BW) (S' := (· < wr.heap.size)) (fun b hb => Nat.lt_of_lt_of_le hb BW.size)
        have hwt : wt ks[i] ≤ 1048576 := by have := wts_take hlt; have := wts_take_le ks (i + 1); omega
        have hcall := IH.out ks[i] (List.getElem_mem hlt) [v0, v1, v2, v3, v4] wr hwt hR
        have D1 : Hid (dps (ks.take (i + 1)) = max (dps (ks.take i)) (dp ks[i])) := dps_take hlt
        have hx1 : dps (ks.take i) ≤ 2000000 := by
          have : dps ks = max (dps (ks.take i)) (dps (ks.drop i)) := by rw [← dps_append, List.take_append_drop]
          omega
        have hx2 : dp ks[i] ≤ 2000000 := by have := dp_le ks[i]; omega
        clear hrep hR BW hwt
        go_wp2_with fail
        refine hcall.mono ?_
        clear hcall
        rintro e w1 ⟨rfl, hb⟩
        have B1 : Hid (Below w0.heap.size w0 w1) := HB.out.trans (hb.mono HB.out.size)
        clear hb HB
        go_wp2_with fail
        refine (max_any _ _ hx1 hx2 _).mono ?_
        rintro e w2 ⟨rfl, rfl⟩
        rw [← D1.out]
        go_wp2
        go_round
        case rel => exact ⟨i + 1, by omega, by go_num, rfl, B1⟩
        case measure => simp [intOf]; omega
      · obtain rfl : i = ks.length := by omega
        rw [List.take_length]
        go_wp2
        go_ret
        exact ⟨by simp [dp], B0.out.trans (HB.out.mono (by rw [Z0.out]; omega))⟩

end Go.Proofs.YtpdmdcoaaboikaaGreatDoor.node
