/-
  The model's IrSize, at every tree: how many are within it; nothing that was there is turned.
-/
import Derived.Test.YtndlhmpglpehcaaIrPure
namespace Go.Proofs.Ytndlhmpglpehcaa.ir
open Go.RowKit Go.Proofs.Ytndlhmpglpehcaa.rose Go.Proofs.Ytndlhmpglpehcaa
set_option linter.unusedVariables false
set_option linter.unusedSimpArgs false

def SizeSays (T : IrD) : Prop := ∀ cs w, wt T ≤ 1048576 → irSh.rep w (· < w.heap.size) cs T →
  Calls Try.prog 5 #[.agg cs.toArray] w fun e w' => e = .returned (.int .i64 (cnt T : Nat)) ∧ Below w.heap.size w w'

set_option maxHeartbeats 1000000 in
theorem specIrSize (T : IrD) : SizeSays T := by
  induction T using ind with
  | h x ks ih =>
    intro cs w hw h
    obtain ⟨op, n, ks', a, cap, hT, rfl, f0, f1, hk⟩ := ir_open h
    cases hT
    clear h
    obtain ⟨a1, cap1, css, e, hcap, hmax, hrow, hk2⟩ := irs_open hk
    cases e
    have hle := cnt_le (.mk (op, n) ks)
    have hws : wts ks ≤ 1048576 ∧ ks.length ≤ 1048576 ∧ cnts ks ≤ 1048576 := by simp [wt, cnt] at hw hle; omega
    obtain ⟨hws, hkl, hds⟩ := hws
    have IH : Hid (∀ k ∈ ks, SizeSays k) := ih
    have HR : Hid (RowAt w (· < w.heap.size) 3 a ks.length css ∧ ∀ i (h : i < ks.length), irSh.rep w (· < w.heap.size) (css i) ks[i]) := ⟨hrow, hk2⟩
    clear ih hrow hk2 hk hcap hmax hw hle f0 f1
    go_enter Try.func5, Try.ntmps5
    go_wp2
    have T1 : Hid ((w.alloc (.cells #[.int .i64 op, .int .i64 n, .slice a ks.length cap] 29)).cell? ⟨w.heap.size, 2, none⟩ = some (.slice a ks.length cap)) := by
      show _ = _
      simp
    have B0 : Hid (Below w.heap.size w (w.alloc (.cells #[.int .i64 op, .int .i64 n, .slice a ks.length cap] 29))) := (Below.refl _ _).alloc (Nat.le_refl _) _
    have Z0 : Hid ((w.alloc (.cells #[.int .i64 op, .int .i64 n, .slice a ks.length cap] 29)).heap.size = w.heap.size + 1) := by show _ = _; simp
    generalize w.alloc (.cells #[.int .i64 op, .int .i64 n, .slice a ks.length cap] 29) = w0 at T1 B0 Z0 ⊢
    go_loopw [3, 4] (fun v3 v4 wr => ∃ i : Nat, i ≤ ks.length ∧ v4 = .int .i64 i ∧ v3 = .int .i64 ((cnts (ks.take i) + 1 : Nat) : Int) ∧ Hid (Below w0.heap.size w0 wr)) (fun _ v4 _ => ks.length - (intOf v4).toNat)
    case atStart => exact ⟨0, Nat.zero_le _, rfl, by simp [cnts], Below.refl _ _⟩
    case round =>
      obtain ⟨i, hi, rfl, rfl, HB⟩ := hrel
      have c4 : wr.cell? ⟨w.heap.size, 2, none⟩ = some (.slice a ks.length cap) := (HB.out.cell (p := ⟨w.heap.size, 2, none⟩) (by simp [Z0.out])).trans T1.out
      by_cases hlt : i < ks.length
      · obtain ⟨b, o, rfl, hS, hc⟩ := HR.out.1 i hlt
        have hrep := HR.out.2 i hlt
        have BW : Below w.heap.size w wr := B0.out.trans (HB.out.mono (by rw [Z0.out]; omega))
        obtain ⟨v0, v1, v2, hcs, c0, c1, c2⟩ := ir_cells hrep hc
        have e0 := (BW.cell (p := ⟨b, o + i * 3, none⟩) hS).trans c0
        have e1 := (BW.cell (p := ⟨b, o + i * 3 + 1, none⟩) hS).trans c1
        have e2 := (BW.cell (p := ⟨b, o + i * 3 + 2, none⟩) hS).trans c2
        rw [hcs] at hrep
        clear c0 c1 c2 hc hcs
        have hR := irSh.mono (irSh.below hrep BW) (S' := (· < wr.heap.size)) (fun b hb => Nat.lt_of_lt_of_le hb BW.size)
        have hwi : wt ks[i] ≤ 1048576 := by have := wt_mem (List.getElem_mem hlt); omega
        have D1 : Hid (cnts (ks.take (i + 1)) = cnts (ks.take i) + cnt ks[i]) := cnts_take hlt
        have D2 : cnts (ks.take (i + 1)) ≤ 1048576 := by have := cnts_take_le ks (i + 1); omega
        have hcall := IH.out ks[i] (List.getElem_mem hlt) [v0, v1, v2] wr hwi hR
        clear hR hrep BW
        go_wp2_with fail
        refine hcall.mono ?_
        clear hcall
        rintro e w1 ⟨rfl, hb⟩
        have B1 : Hid (Below w0.heap.size w0 w1) := HB.out.trans (hb.mono HB.out.size)
        clear hb HB c4 e0 e1 e2
        have D3 : Hid (((cnts (ks.take i) + 1 : Nat) : Int) + (cnt ks[i] : Nat) = ((cnts (ks.take (i + 1)) + 1 : Nat) : Int)) := by show _ = _; rw [D1.out]; omega
        have D4 : ((cnts (ks.take i) + 1 : Nat) : Int) + (cnt ks[i] : Nat) ≤ 1048577 := by rw [D3.out]; omega
        obtain ⟨m1, hm1⟩ : ∃ m : Nat, m = cnts (ks.take i) + 1 := ⟨_, rfl⟩
        obtain ⟨m2, hm2⟩ : ∃ m : Nat, m = cnt ks[i] := ⟨_, rfl⟩
        have HM : Hid (((m1 : Nat) : Int) + (m2 : Nat) = ((cnts (ks.take (i + 1)) + 1 : Nat) : Int)) := by rw [hm1, hm2]; exact D3.out
        rw [← hm1, ← hm2] at D4 ⊢
        clear D3 hm1 hm2 D1 D2
        go_wp2
        go_round
        case rel => exact ⟨i + 1, by omega, by go_num, by rw [HM.out], B1⟩
        case measure => simp [intOf]; omega
      · obtain rfl : i = ks.length := by omega
        rw [List.take_length]
        go_wp2
        go_ret
        exact ⟨by simp [cnt]; omega, B0.out.trans (HB.out.mono (by rw [Z0.out]; omega))⟩

end Go.Proofs.Ytndlhmpglpehcaa.ir
