/-
  The law's marks in one Value: its slices are marked, nothing else is turned.
-/
import Derived.Test.YtdfpihnddclccaaValueMark
namespace Go.Proofs.Ytdfpihnddclccaa.value
open Go.RowKit Go.Proofs.Ytdfpihnddclccaa.rose Go.Proofs.Ytdfpihnddclccaa
set_option linter.unusedVariables false

/-- How many marks the slices of one take. -/
def cntT : ValueD → Nat
  | .mk (x0, x1, x2) x3 => cnts x3

def mkT (k : Int) : ValueD → ValueD
  | .mk (x0, x1, x2) x3 => .mk (x0, x1, x2) (mks k x3)

set_option maxHeartbeats 2000000 in
theorem markT_any (T : ValueD) (cs : List Value) (w : World) (k : Int) (S : Nat → Prop) (hk1 : 1 ≤ k) (hk2 : k + (cntT T : Nat) ≤ 1152921504606846976) (hS : ∀ b, S b → b < w.heap.size) (h : valueSp.rep w S cs T) :
    Calls Try.prog 11 #[.agg cs.toArray, .int .i64 k] w fun e w' => e = .returned (.int .i64 (k + (cntT T : Nat))) ∧ Only S w w' ∧ valueSp.rep w' S cs (mkT k T) := by
  obtain ⟨x0, x1, x2, x3, a3, c3, rfl, rfl, f0, f1, f2, f3⟩ := valuep_open h
  have HSB := valueSp.one h
  clear h HSB
  have HS : Hid (∀ b, S b → b < w.heap.size) := hS
  clear hS
  have hct : cntT (.mk (x0, x1, x2) x3) = cnts x3 := rfl
  rw [hct] at hk2 ⊢
  clear hct
  have BA : Hid (Below w.heap.size w (w.alloc (.cells #[.int .i64 x0, .int .i64 x1, .string x2, .slice a3 x3.length c3] 29))) := (Below.refl _ _).alloc (Nat.le_refl _) _
  have R0_3 : Hid (valueSp.sslice.rep w S [.slice a3 x3.length c3] x3) := f3
  have HF : Hid ((-9223372036854775808 ≤ x0 ∧ x0 ≤ 9223372036854775807) ∧ (-9223372036854775808 ≤ x1 ∧ x1 ≤ 9223372036854775807) ∧ (x2.size ≤ maxLen)) := ⟨f0, f1, f2⟩
  clear f0 f1 f2 f3
  go_enter Try.func11, Try.ntmps11
  go_wp2_with fail
  refine (markS_any x3 _ _ (k) S (by omega) (by omega) (fun b hb => Nat.lt_of_lt_of_le (HS.out b ((fun b h => h) b hb)) BA.out.size) (valueSp.sslice.on R0_3.out fun b hb => BA.out.block b (HS.out b ((fun b h => h) b hb)))).mono ?_
  rintro e w1 ⟨rfl, hr, ho⟩
  have O1 : Hid (Only S (w.alloc (.cells #[.int .i64 x0, .int .i64 x1, .string x2, .slice a3 x3.length c3] 29)) w1) := ho.mono fun b _ hb => (fun b h => h) b hb
  have RF : Hid _ := hr
  clear ho hr
  have hx : k + (cnts x3 : Nat) = k + ((cnts x3 : Nat) : Int) := by omega
  clear hx
  go_wp2
  go_ret
  exact ⟨rfl, (Only.ofBelow BA.out).trans O1.out, valuep_shutv HF.out.1 HF.out.2.1 HF.out.2.2 RF.out⟩

end Go.Proofs.Ytdfpihnddclccaa.value
