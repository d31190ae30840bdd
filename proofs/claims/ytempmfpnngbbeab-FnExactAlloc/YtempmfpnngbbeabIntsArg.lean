/-
  A slice of ints that came in lies in memory as its cells.
-/
import Derived.Test.YtempmfpnngbbeabChecked
import Derived.Test.YtempmfpnngbbeabRose
import Derived.ProofKit
import Derived.OpenShut
namespace Go.Proofs.Ytempmfpnngbbeab
open Go.RowKit Go.ChangeShapes Go.WideShapes Go.Proofs.Ytempmfpnngbbeab.rose
set_option maxRecDepth 100000

theorem cells_int : Try.prog.cellsOf 3 = 1 := by kernel_rfl
theorem opens_ints {H : Type} {enc : TypeId × Value → H} {w : World} {spare : Nat → Bool} {held : Bool} (n : Nat) : OpensAt enc Try.prog w spare held n Sh.int.slice 22 := fun fuel cs x hf h => opens_slice (A := Sh.int) (n := n) Try.underlying22 cells_int (by decide) (opens_int Try.underlying3 n) fuel cs x (by omega) h

end Go.Proofs.Ytempmfpnngbbeab
