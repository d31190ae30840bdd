/-
  The law's look at the marks in one Node: where its kids are what was marked, it tells how far it came; nothing that was there is turned.
-/
import Derived.Test.YtklcjjckelahcaaNodeHeld
import Derived.Test.YtklcjjckelahcaaNodeMarkT
namespace Go.Proofs.Ytklcjjckelahcaa.node
open Go.RowKit Go.Proofs.Ytklcjjckelahcaa.rose Go.Proofs.Ytklcjjckelahcaa
set_option linter.unusedVariables false

set_option maxHeartbeats 1000000 in
theorem heldT_any (T : Nd) (cs : List Value) (w : World) (k : Int) (hk1 : 1 ≤ k) (hk2 : k + (cntT T : Nat) ≤ 1152921504606846976) (h : ndSh.rep w (· < w.heap.size) cs (mkT k T)) :
    Calls Try.prog 13 #[.agg cs.toArray, .int .i64 k] w fun e w' => e = .returned (.int .i64 (k + (cntT T : Nat))) ∧ Below w.heap.size w w' := by
  obtain ⟨⟨x0, x1, x2, x3⟩, x4⟩ := T
  obtain ⟨op, n, s, t, a, cap, ks, hT, rfl, hs, ht, hk⟩ := nd_open h
  simp only [mkT, Rose.mk.injEq] at hT
  obtain ⟨-, hks⟩ := hT
  subst hks
  have hct : cntT (.mk (x0, x1, x2, x3) x4) = cnts x4 := rfl
  rw [hct] at hk2 ⊢
  clear h hct hs ht
  have BA : Hid (Below w.heap.size w (w.alloc (.cells #[.int .i64 op, .int .i64 n, .string s, .string t, .slice a (mks k x4).length cap] 32))) := (Below.refl _ _).alloc (Nat.le_refl _) _
  have HK : Hid (ndSh.slice.rep w (· < w.heap.size) [.slice a (mks k x4).length cap] (mks k x4)) := hk
  have t0 : decide (k + (cnts x4 : Nat) < 0) = false := by simp; omega
  clear hk
  go_enter Try.func13, Try.ntmps13
  go_wp2_with fail
  refine (heldS_any x4 _ _ k hk1 hk2 (ndSh.slice.mono (ndSh.slice.below HK.out BA.out) fun q hq => Nat.lt_of_lt_of_le hq BA.out.size)).mono ?_
  rintro e w1 ⟨rfl, hb⟩
  have B1 : Hid (Below w.heap.size w w1) := BA.out.trans (hb.mono BA.out.size)
  clear hb
  go_wp2
  go_ret
  exact ⟨rfl, B1.out⟩

end Go.Proofs.Ytklcjjckelahcaa.node
