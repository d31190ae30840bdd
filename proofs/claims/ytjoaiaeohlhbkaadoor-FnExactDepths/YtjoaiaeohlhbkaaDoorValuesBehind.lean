/-
  The program's valuesBehind, at every place that is right.
-/
import Derived.Test.YtjoaiaeohlhbkaaDoorDepthsDefs
import Derived.Test.YtjoaiaeohlhbkaaDoorEffectImpl
import Derived.WalkSmall
namespace Go.Proofs.YtjoaiaeohlhbkaaDoor.fun
open Go Go.RowKit Go.Proofs.YtjoaiaeohlhbkaaDoor.rose Go.Proofs.YtjoaiaeohlhbkaaDoor
set_option linter.unusedVariables false
set_option linter.unusedSimpArgs false

/-- What is behind a place: so many, and whether that may be. -/
def behindB (o : op.OpD) (d : Int) : Bool := fineB o d && decide (nextD o d ≤ 60)
theorem fine_of {c n m d : Int} : fineB (c, n, m) d = (decide (takesB c m < d) && !(decide (c = 2) && decide (d ≤ n)) && !(decide (c = 7) && !decide (d = 2))) := rfl

set_option maxRecDepth 100000 in
set_option maxHeartbeats 8000000 in
theorem valuesBehind_any (c n m d : Int) (w : World) (h0 : 1 ≤ d ∧ d ≤ 60) (htk : 0 ≤ takesB c m ∧ takesB c m ≤ 20) :
    Calls Tryd.prog 30 #[.agg #[.int .i64 c, .int .i64 n, .int .i64 m], .int .i64 d] w fun e w' => (∃ y, e = .returned (.tuple #[.int .i64 y, .bool (behindB (c, n, m) d)]) ∧ (fineB (c, n, m) d = true → y = nextD (c, n, m) d)) ∧ Below w.heap.size w w' := by
  obtain ⟨k, hk⟩ : ∃ k, k = takesB c m := ⟨_, rfl⟩
  obtain ⟨p, hpu⟩ : ∃ p, p = putsB c := ⟨_, rfl⟩
  have pb : 0 ≤ p ∧ p ≤ 1 := by rw [hpu]; exact puts_pos c
  rw [← hk] at htk
  have HK : Hid (takesB c m = k ∧ putsB c = p) := ⟨hk.symm, hpu.symm⟩
  have BA : Below w.heap.size w (w.alloc (.cells #[.int .i64 c, .int .i64 n, .int .i64 m] 56)) := (Below.refl _ _).alloc (Nat.le_refl _) _
  have hcall := implEffect c n m (w.alloc (.cells #[.int .i64 c, .int .i64 n, .int .i64 m] 56))
  rw [HK.out.1, HK.out.2] at hcall
  have HBA : Hid (Below w.heap.size w (w.alloc (.cells #[.int .i64 c, .int .i64 n, .int .i64 m] 56))) := BA
  have FT : Hid (fineB (c, n, m) d = (decide (k < d) && !(decide (c = 2) && decide (d ≤ n)) && !(decide (c = 7) && !decide (d = 2)))) := by show _ = _; rw [fine_of, HK.out.1]
  have NX : Hid (nextD (c, n, m) d = d - k + p) := by show d - takesB c m + putsB c = _; rw [HK.out.1, HK.out.2]
  have BF : Hid (fineB (c, n, m) d = false → behindB (c, n, m) d = false) := fun h => by unfold behindB; rw [h]; rfl
  have BT : Hid (fineB (c, n, m) d = true → behindB (c, n, m) d = decide (d - k + p ≤ 60)) := fun h => by unfold behindB; rw [h, NX.out]; rfl
  obtain ⟨r, hr⟩ : ∃ r, r = behindB (c, n, m) d := ⟨_, rfl⟩
  have HR : Hid (r = behindB (c, n, m) d) := hr
  obtain ⟨f, hf⟩ : ∃ f, f = fineB (c, n, m) d := ⟨_, rfl⟩
  have HFI : Hid (f = fineB (c, n, m) d) := hf
  rw [← hr, ← hf]
  obtain ⟨x, hx⟩ : ∃ x, x = nextD (c, n, m) d := ⟨_, rfl⟩
  have HX : Hid (x = d - k + p) := by show _ = _; rw [hx, NX.out]
  rw [← hx]
  clear hk hpu BA hr hf hx
  go_enter Tryd.func30, Tryd.ntmps30
  go_wp2_with fail
  refine hcall.mono ?_
  rintro e w1 ⟨rfl, hb⟩
  have B1 : Hid (Below w.heap.size w w1) := HBA.out.trans (hb.mono HBA.out.size)
  have z1 : w.heap.size < (w.alloc (.cells #[.int .i64 c, .int .i64 n, .int .i64 m] 56)).heap.size := by simp
  have x0 : w1.cell? ⟨w.heap.size, 0, none⟩ = some (.int .i64 c) := (hb.cell (p := ⟨w.heap.size, 0, none⟩) z1).trans (by simp)
  have x1 : w1.cell? ⟨w.heap.size, 1, none⟩ = some (.int .i64 n) := (hb.cell (p := ⟨w.heap.size, 1, none⟩) z1).trans (by simp)
  clear hcall hb z1 HBA
  by_cases hk1 : d - 1 < k
  · have t0 : decide (d - 1 < k) = true := by simpa using hk1
    have HF : Hid (fineB (c, n, m) d = false) := by show _ = _; rw [FT.out, show decide (k < d) = false by simp; omega]; rfl
    go_wp2
    go_ret2
    exact ⟨⟨0, by show Ending.returned (.tuple #[.int .i64 0, .bool false]) = _; rw [HR.out, BF.out HF.out], fun h => by rw [HFI.out, HF.out] at h; cases h⟩, B1.out⟩
  · have t0 : decide (d - 1 < k) = false := by simpa using hk1
    have FK : Hid (decide (k < d) = true) := by show _ = _; simp; omega
    have db : d - k + p ≤ 100 ∧ 1 ≤ d - k + p := by omega
    have eX : d + (p - k) = d - k + p := by omega
    clear hk1
    by_cases hc2 : c = 2
    · subst hc2
      by_cases hn : d ≤ n
      · have t1 : decide (d ≤ n) = true := by simpa using hn
        have HF : Hid (fineB (2, n, m) d = false) := by show _ = _; rw [FT.out, t1]; simp
        go_wp2
        go_ret2
        exact ⟨⟨0, by show Ending.returned (.tuple #[.int .i64 0, .bool false]) = _; rw [HR.out, BF.out HF.out], fun h => by rw [HFI.out, HF.out] at h; cases h⟩, B1.out⟩
      · have t1 : decide (d ≤ n) = false := by simpa using hn
        have HF : Hid (fineB (2, n, m) d = true) := by show _ = _; rw [FT.out, FK.out]; rw [t1]; simp
        go_wp2
        go_ret2
        exact ⟨⟨d - k + p, by show Ending.returned (.tuple #[.int .i64 (d - k + p), .bool (decide (d - k + p ≤ 60))]) = _; rw [HR.out, BT.out HF.out], fun h => HX.out.symm⟩, B1.out⟩
    · have n2 : (c == 2) = false := by simpa using hc2
      by_cases hc7 : c = 7
      · subst hc7
        by_cases hd2 : d = 2
        · subst hd2
          have t0' : decide ((1 : Int) < k) = false := by simpa using t0
          have HF : Hid (fineB (7, n, m) 2 = true) := by show _ = _; rw [FT.out, FK.out]; simp
          go_wp2
          go_ret2
          exact ⟨⟨2 - k + p, by show Ending.returned (.tuple #[.int .i64 (2 - k + p), .bool (decide (2 - k + p ≤ 60))]) = _; rw [HR.out, BT.out HF.out], fun h => HX.out.symm⟩, B1.out⟩
        · have t2 : (d != 2) = true := by simpa using hd2
          have HF : Hid (fineB (7, n, m) d = false) := by show _ = _; rw [FT.out]; simp [hd2]
          go_wp2
          go_ret2
          exact ⟨⟨0, by show Ending.returned (.tuple #[.int .i64 0, .bool false]) = _; rw [HR.out, BF.out HF.out], fun h => by rw [HFI.out, HF.out] at h; cases h⟩, B1.out⟩
      · have n7 : (c == 7) = false := by simpa using hc7
        have HF : Hid (fineB (c, n, m) d = true) := by show _ = _; rw [FT.out, FK.out]; simp [hc2, hc7]
        go_wp2
        go_ret2
        exact ⟨⟨d - k + p, by show Ending.returned (.tuple #[.int .i64 (d - k + p), .bool (decide (d - k + p ≤ 60))]) = _; rw [HR.out, BT.out HF.out], fun h => HX.out.symm⟩, B1.out⟩

end Go.Proofs.YtjoaiaeohlhbkaaDoor.fun
