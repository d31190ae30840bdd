/-
  The law's marks in one Node: its slices are marked, nothing else is turned.
-/
import Derived.Test.YtklcjjckelahcaaNodeMark
namespace Go.Proofs.Ytklcjjckelahcaa.node
open Go.RowKit Go.Proofs.Ytklcjjckelahcaa.rose Go.Proofs.Ytklcjjckelahcaa
set_option linter.unusedVariables false

/-- How many marks the slices of one take. -/
def cntT : Nd → Nat
  | .mk (x0, x1, x2, x3) x4 => cnts x4

def mkT (k : Int) : Nd → Nd
  | .mk (x0, x1, x2, x3) x4 => .mk (x0, x1, x2, x3) (mks k x4)

set_option maxHeartbeats 2000000 in
theorem markT_any (T : Nd) (cs : List Value) (w : World) (k : Int) (S : Nat → Prop) (hk1 : 1 ≤ k) (hk2 : k + (cntT T : Nat) ≤ 1152921504606846976) (hS : ∀ b, S b → b < w.heap.size) (h : ndSp.rep w S cs T) :
    Calls Try.prog 12 #[.agg cs.toArray, .int .i64 k] w fun e w' => e = .returned (.int .i64 (k + (cntT T : Nat))) ∧ Only S w w' ∧ ndSp.rep w' S cs (mkT k T) := by
  obtain ⟨x0, x1, x2, x3, x4, a4, c4, rfl, rfl, f0, f1, f2, f3, f4⟩ := ndp_open h
  have HSB := ndSp.one h
  clear h HSB
  have HS : Hid (∀ b, S b → b < w.heap.size) := hS
  clear hS
  have hct : cntT (.mk (x0, x1, x2, x3) x4) = cnts x4 := rfl
  rw [hct] at hk2 ⊢
  clear hct
  have BA : Hid (Below w.heap.size w (w.alloc (.cells #[.int .i64 x0, .int .i64 x1, .string x2, .string x3, .slice a4 x4.length c4] 32))) := (Below.refl _ _).alloc (Nat.le_refl _) _
  have R0_4 : Hid (ndSp.sslice.rep w S [.slice a4 x4.length c4] x4) := f4
  have HF : Hid ((-9223372036854775808 ≤ x0 ∧ x0 ≤ 9223372036854775807) ∧ (-9223372036854775808 ≤ x1 ∧ x1 ≤ 9223372036854775807) ∧ (x2.size ≤ maxLen) ∧ (x3.size ≤ maxLen)) := ⟨f0, f1, f2, f3⟩
  clear f0 f1 f2 f3 f4
  go_enter Try.func12, Try.ntmps12
  go_wp2_with fail
  refine (markS_any x4 _ _ (k) S (by omega) (by omega) (fun b hb => Nat.lt_of_lt_of_le (HS.out b ((fun b h => h) b hb)) BA.out.size) (ndSp.sslice.on R0_4.out fun b hb => BA.out.block b (HS.out b ((fun b h => h) b hb)))).mono ?_
  rintro e w1 ⟨rfl, hr, ho⟩
  have O1 : Hid (Only S (w.alloc (.cells #[.int .i64 x0, .int .i64 x1, .string x2, .string x3, .slice a4 x4.length c4] 32)) w1) := ho.mono fun b _ hb => (fun b h => h) b hb
  have RF : Hid _ := hr
  clear ho hr
  have hx : k + (cnts x4 : Nat) = k + ((cnts x4 : Nat) : Int) := by omega
  clear hx
  go_wp2
  go_ret
  exact ⟨rfl, (Only.ofBelow BA.out).trans O1.out, ndp_shutv HF.out.1 HF.out.2.1 HF.out.2.2.1 HF.out.2.2.2 RF.out⟩

end Go.Proofs.Ytklcjjckelahcaa.node
