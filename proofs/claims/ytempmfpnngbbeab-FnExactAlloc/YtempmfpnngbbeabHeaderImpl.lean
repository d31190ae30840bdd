/-
  The program's header: headerOf, ok, size, word; nothing that was there is turned.
-/
import Derived.Test.YtempmfpnngbbeabHeapDefs
import Derived.Test.YtempmfpnngbbeabWordsSpec
import Derived.Test.YtempmfpnngbbeabWordImpl
import Derived.OwnWalk
namespace Go.Proofs.Ytempmfpnngbbeab.heap
open Go Go.RowKit Go.Proofs.Ytempmfpnngbbeab Go.Proofs.Ytempmfpnngbbeab.fun Go.Proofs.Ytempmfpnngbbeab.words
set_option linter.unusedVariables false
set_option linter.unusedSimpArgs false

/-- The tag as a shift tells it, which is cut downwards. -/
def tagS (x : Int) : Int := x / 2 / 2 / 64
def okHdr (tag many : Int) : Bool := decide (0 ≤ tag) && decide (tag ≤ 3000) && decide (many ≤ 20)

set_option maxHeartbeats 2000000 in
theorem headerOf_is (x : Int) (w : World) (h1 : -9223372036854775808 ≤ x) (h2 : x ≤ 9223372036854775807) :
    Calls Try.prog 48 #[.int .i64 x] w fun e w' => e = .returned (.agg #[.bool (funF x), .int .i64 (tagS x), .int .i64 (manyF x)]) ∧ Below w.heap.size w w' := by
  have ha := and_one (x / 2)
  have hb := and_63 (x / 2 / 2)
  have hf : (x / 2 % 2 == 1) = funF x := by unfold funF; rw [Bool.eq_iff_iff]; simp
  go_enter Try.func48, Try.ntmps48
  go_wp2
  refine bodyPost_ret (v := .agg #[.bool (funF x), .int .i64 (tagS x), .int .i64 (manyF x)]) (by simp [results, Try.f48, go_sem, tagS, manyF, hf]) rfl ?_
  refine ⟨rfl, ?_⟩
  exact (Below.refl _ _).alloc (Nat.le_refl _) _

set_option maxHeartbeats 2000000 in
theorem hdrOk_is (f : Bool) (tag many : Int) (w : World) :
    Calls Try.prog 51 #[.agg #[.bool f, .int .i64 tag, .int .i64 many]] w fun e w' => e = .returned (.bool (okHdr tag many)) ∧ Below w.heap.size w w' := by
  have BA : Hid (Below w.heap.size w (w.alloc (.cells #[.bool f, .int .i64 tag, .int .i64 many] 52))) := (Below.refl _ _).alloc (Nat.le_refl _) _
  rcases q1 : decide (0 ≤ tag) with _ | _
  · have HQ : Hid (okHdr tag many = false) := by show _ = _; unfold okHdr; rw [q1]; rfl
    go_enter Try.func51, Try.ntmps51
    go_wp2
    go_ret
    exact ⟨ret_b HQ.out.symm, BA.out⟩
  rcases q2 : decide (tag ≤ 3000) with _ | _
  · have HQ : Hid (okHdr tag many = false) := by show _ = _; unfold okHdr; rw [q1, q2]; rfl
    go_enter Try.func51, Try.ntmps51
    go_wp2
    go_ret
    exact ⟨ret_b HQ.out.symm, BA.out⟩
  rcases q3 : decide (many ≤ 20) with _ | _
  · have HQ : Hid (okHdr tag many = false) := by show _ = _; unfold okHdr; rw [q1, q2, q3]; rfl
    go_enter Try.func51, Try.ntmps51
    go_wp2
    go_ret
    exact ⟨ret_b HQ.out.symm, BA.out⟩
  · have HQ : Hid (okHdr tag many = true) := by show _ = _; unfold okHdr; rw [q1, q2, q3]; rfl
    go_enter Try.func51, Try.ntmps51
    go_wp2
    go_ret
    exact ⟨ret_b HQ.out.symm, BA.out⟩

set_option maxHeartbeats 2000000 in
theorem hdrSize_is (f : Bool) (tag many : Int) (w : World) (h1 : 0 ≤ many) (h2 : many ≤ 1048576) :
    Calls Try.prog 52 #[.agg #[.bool f, .int .i64 tag, .int .i64 many]] w fun e w' => e = .returned (.int .i64 (1 + many)) ∧ Below w.heap.size w w' := by
  go_enter Try.func52, Try.ntmps52
  go_wp2
  go_ret
  exact ⟨rfl, (Below.refl _ _).alloc (Nat.le_refl _) _⟩

set_option maxHeartbeats 4000000 in
theorem hdrWord_is (f : Bool) (tag many : Int) (w : World) (h0 : 0 ≤ tag) (h3 : tag ≤ 3000) (h1 : 0 ≤ many) (h2 : many ≤ 20) :
    Calls Try.prog 55 #[.agg #[.bool f, .int .i64 tag, .int .i64 many]] w fun e w' => e = .returned (.int .i64 (2 * (2 * (64 * tag + many) + (if f then 1 else 0)) + 1)) ∧ Below w.heap.size w w' := by
  have BA : Hid (Below w.heap.size w (w.alloc (.cells #[.bool f, .int .i64 tag, .int .i64 many] 52))) := (Below.refl _ _).alloc (Nat.le_refl _) _
  cases f
  · have hw : inB (2 * (tag * 64 + many)) (-1073741824) 1073741823 = true := by unfold inB; simp; omega
    go_enter Try.func55, Try.ntmps55
    go_wp2_with (go_at_call 66; go_in)
    go_wp2_with (go_at_call 69; refine (wordI_is hw).mono ?_; rintro e w' ⟨rfl, hx⟩; subst w')
    go_ret
    exact ⟨ret_i (by simp; omega), BA.out⟩
  · have hw : inB (2 * (tag * 64 + many) + 1) (-1073741824) 1073741823 = true := by unfold inB; simp; omega
    go_enter Try.func55, Try.ntmps55
    go_wp2_with (go_at_call 66; go_in)
    go_wp2_with (go_at_call 69; refine (wordI_is hw).mono ?_; rintro e w' ⟨rfl, hx⟩; subst w')
    go_ret
    exact ⟨ret_i (by simp; omega), BA.out⟩

end Go.Proofs.Ytempmfpnngbbeab.heap
