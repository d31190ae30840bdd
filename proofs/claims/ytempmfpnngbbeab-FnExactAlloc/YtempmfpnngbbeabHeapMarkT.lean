/-
  The law's marks in one Heap: its slices are marked, nothing else is turned.
-/
import Derived.Test.YtempmfpnngbbeabHeapSp
import Derived.Test.YtempmfpnngbbeabIntsMk
namespace Go.Proofs.Ytempmfpnngbbeab.heap
open Go.RowKit Go.Proofs.Ytempmfpnngbbeab.rose Go.Proofs.Ytempmfpnngbbeab
set_option linter.unusedVariables false

/-- How many marks the slices of one take. -/
def cntT : HeapD → Nat
  | (x0, x1, x2, x3) => x0.length

def mkT (k : Int) : HeapD → HeapD
  | (x0, x1, x2, x3) => (ints.mks k x0, x1, x2, x3)

set_option maxHeartbeats 2000000 in
theorem markT_any (T : HeapD) (cs : List Value) (w : World) (k : Int) (S : Nat → Prop) (hk1 : 1 ≤ k) (hk2 : k + (cntT T : Nat) ≤ 1152921504606846976) (hS : ∀ b, S b → b < w.heap.size) (h : heapSp.rep w S cs T) :
    Calls Try.prog 15 #[.agg cs.toArray, .int .i64 k] w fun e w' => e = .returned (.int .i64 (k + (cntT T : Nat))) ∧ Only S w w' ∧ heapSp.rep w' S cs (mkT k T) := by
  obtain ⟨x0, a0, c0, x1, x2, x3, rfl, rfl, f0, f1, f2, f3⟩ := heapp_open h
  have HSB := heapSp.one h
  clear h HSB
  have HS : Hid (∀ b, S b → b < w.heap.size) := hS
  clear hS
  have hct : cntT ((x0, x1, x2, x3)) = x0.length := rfl
  rw [hct] at hk2 ⊢
  clear hct
  have BA : Hid (Below w.heap.size w (w.alloc (.cells #[.slice a0 x0.length c0, .int .i64 x1, .int .i64 x2, .int .i64 x3] 27))) := (Below.refl _ _).alloc (Nat.le_refl _) _
  have R0_0 : Hid (Sh.int.sslice.rep w S [.slice a0 x0.length c0] x0) := f0
  have FR : Hid ((-9223372036854775808 ≤ x1 ∧ x1 ≤ 9223372036854775807) ∧ (-9223372036854775808 ≤ x2 ∧ x2 ≤ 9223372036854775807) ∧ (-9223372036854775808 ≤ x3 ∧ x3 ≤ 9223372036854775807)) := ⟨f1, f2, f3⟩
  clear f0 f1 f2 f3
  go_enter Try.func15, Try.ntmps15
  go_wp2_with fail
  refine (ints.mark_any x0 _ _ (k) S (by omega) (by omega) (fun b hb => Nat.lt_of_lt_of_le (HS.out b ((fun b h => h) b hb)) BA.out.size) (Sh.int.sslice.on R0_0.out fun b hb => BA.out.block b (HS.out b ((fun b h => h) b hb)))).mono ?_
  rintro e w1 ⟨rfl, hr, ho⟩
  have O1 : Hid (Only S (w.alloc (.cells #[.slice a0 x0.length c0, .int .i64 x1, .int .i64 x2, .int .i64 x3] 27)) w1) := ho.mono fun b _ hb => (fun b h => h) b hb
  have R1 : Hid (Sh.int.sslice.rep w1 S [.slice a0 x0.length c0] (ints.mks k x0)) := hr
  clear ho hr
  have hx : k + (x0.length : Nat) = k + ((x0.length : Nat) : Int) := by omega
  clear hx
  go_wp2
  go_ret
  exact ⟨rfl, (Only.ofBelow BA.out).trans O1.out, heapp_shutv R1.out FR.out.1 FR.out.2.1 FR.out.2.2⟩

end Go.Proofs.Ytempmfpnngbbeab.heap
