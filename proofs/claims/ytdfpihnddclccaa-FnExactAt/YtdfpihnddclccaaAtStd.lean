/-
  The model's and the program's At, as the law's frame asks for them.
-/
import Derived.Test.YtdfpihnddclccaaAtSpec
import Derived.Test.YtdfpihnddclccaaAtImpl
import Derived.Test.YtdfpihnddclccaaValueBound
namespace Go.Proofs.Ytdfpihnddclccaa.value
open Go.RowKit Go.Proofs.Ytdfpihnddclccaa.rose Go.Proofs.Ytdfpihnddclccaa
set_option linter.unusedVariables false

theorem specAt_std (T : ValueD) (ks : List Int) (cs : List Value) (v : Value) (w : World) (hw : (wt T) ≤ 1048576) (hl : ks.length ≤ 1048576) (h : valueSh.rep w (· < w.heap.size) cs T) (h' : ints.intsSh.rep w (· < w.heap.size) [v] ks) :
    Calls Try.prog 5 #[.agg cs.toArray, v] w fun e w' => (∃ cs', e = .returned (.tuple #[.agg cs'.toArray, .bool (atD ks T).2]) ∧ valueSp.rep w' (fun b => w.heap.size ≤ b ∧ b < w'.heap.size) cs' (atD ks T).1) ∧ Below w.heap.size w w' := specAt T ks v cs w hw h h'
theorem implAt_std (T : ValueD) (ks : List Int) (cs : List Value) (v : Value) (w : World) (hw : (wt T) ≤ 1048576) (hl : ks.length ≤ 1048576) (h : valueSh.rep w (· < w.heap.size) cs T) (h' : ints.intsSh.rep w (· < w.heap.size) [v] ks) :
    Calls Try.prog 8 #[.agg cs.toArray, v] w fun e w' => (∃ cs', e = .returned (.tuple #[.agg cs'.toArray, .bool (atD ks T).2]) ∧ valueSp.rep w' (fun b => w.heap.size ≤ b ∧ b < w'.heap.size) cs' (atD ks T).1) ∧ Below w.heap.size w w' := implAt T ks v cs w hw h h'
theorem at_bound (T : ValueD) (ks : List Int) (hw : wt T ≤ 1048576) : cntT (atD ks T).1 ≤ 1073741824 := cntT_le _ (Nat.le_trans (wt_at ks T) hw)

end Go.Proofs.Ytdfpihnddclccaa.value
