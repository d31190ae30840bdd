/-
  A slice of bytes that came in lies in memory as its cells.
-/
import Derived.Test.YtlfchmmkaflglaaDoorChecked
import Derived.Test.YtlfchmmkaflglaaDoorBytesMk
import Derived.ProofKit
import Derived.OpenShut
namespace Go.Proofs.YtlfchmmkaflglaaDoor
open Go.RowKit Go.ChangeShapes Go.WideShapes Go.Proofs.YtlfchmmkaflglaaDoor.rose
set_option maxRecDepth 100000

theorem cells_byte : Tryd.prog.cellsOf 5 = 1 := by kernel_rfl
theorem opens_byte {H : Type} {enc : TypeId × Value → H} {w : World} {spare : Nat → Bool} {held : Bool} (n : Nat) : OpensAt enc Tryd.prog w spare held n Sh.byte 5 := fun fuel cs x _ h => by
  obtain ⟨m, rfl, -, hw⟩ := DataW.trod_int Tryd.underlying5 h
  have := bounds_u8 hw
  exact ⟨m, rfl, by omega, by omega⟩
theorem opens_bytes {H : Type} {enc : TypeId × Value → H} {w : World} {spare : Nat → Bool} {held : Bool} (n : Nat) : OpensAt enc Tryd.prog w spare held n Sh.byte.slice 24 := fun fuel cs x hf h => opens_slice (A := Sh.byte) (n := n) Tryd.underlying24 cells_byte (by decide) (opens_byte n) fuel cs x (by omega) h

end Go.Proofs.YtlfchmmkaflglaaDoor
