/-
  The law's look at the marks in one Value: where its kids are what was marked, it tells how far it came; nothing that was there is turned.
-/
import Derived.Test.YtdfpihnddclccaaValueHeld
import Derived.Test.YtdfpihnddclccaaValueMarkT
namespace Go.Proofs.Ytdfpihnddclccaa.value
open Go.RowKit Go.Proofs.Ytdfpihnddclccaa.rose Go.Proofs.Ytdfpihnddclccaa
set_option linter.unusedVariables false

set_option maxHeartbeats 1000000 in
theorem heldT_any (T : ValueD) (cs : List Value) (w : World) (k : Int) (hk1 : 1 ≤ k) (hk2 : k + (cntT T : Nat) ≤ 1152921504606846976) (h : valueSh.rep w (· < w.heap.size) cs (mkT k T)) :
    Calls Try.prog 13 #[.agg cs.toArray, .int .i64 k] w fun e w' => e = .returned (.int .i64 (k + (cntT T : Nat))) ∧ Below w.heap.size w w' := by
  obtain ⟨⟨x0, x1, x2⟩, x4⟩ := T
  obtain ⟨op, n, s, ks, a, cap, hT, rfl, hs, ht, hu, hk⟩ := value_open h
  simp only [mkT, Rose.mk.injEq] at hT
  obtain ⟨-, hks⟩ := hT
  subst hks
  have hct : cntT (.mk (x0, x1, x2) x4) = cnts x4 := rfl
  rw [hct] at hk2 ⊢
  clear h hct hs ht hu
  have BA : Hid (Below w.heap.size w (w.alloc (.cells #[.int .i64 op, .int .i64 n, .string s, .slice a (mks k x4).length cap] 29))) := (Below.refl _ _).alloc (Nat.le_refl _) _
  have HK : Hid (valueSh.slice.rep w (· < w.heap.size) [.slice a (mks k x4).length cap] (mks k x4)) := hk
  have t0 : decide (k + (cnts x4 : Nat) < 0) = false := by simp; omega
  clear hk
  go_enter Try.func13, Try.ntmps13
  go_wp2_with fail
  refine (heldS_any x4 _ _ k hk1 hk2 (valueSh.slice.mono (valueSh.slice.below HK.out BA.out) fun q hq => Nat.lt_of_lt_of_le hq BA.out.size)).mono ?_
  rintro e w1 ⟨rfl, hb⟩
  have B1 : Hid (Below w.heap.size w w1) := BA.out.trans (hb.mono BA.out.size)
  clear hb
  go_wp2
  go_ret
  exact ⟨rfl, B1.out⟩

end Go.Proofs.Ytdfpihnddclccaa.value
