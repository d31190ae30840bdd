/-
  The law's comparison of slices of ints.
-/
import Derived.Test.YtklcjjckelahcaaIntsSz
import Derived.Test.YtklcjjckelahcaaInts
namespace Go.Proofs.Ytklcjjckelahcaa.ints
open Go.RowKit Go.Proofs.Ytklcjjckelahcaa.rose Go.Proofs.Ytklcjjckelahcaa

theorem eqS_any (ks : List Int) (v1 v2 : Value) (w : World) (h : Sh.int.slice.rep w (· < w.heap.size) [v1] ks) (h' : Sh.int.slice.rep w (· < w.heap.size) [v2] ks) :
    Calls Try.prog 20 #[v1, v2] w fun e w' => e = .returned (.bool true) ∧ Below w.heap.size w w' := eq_any ks v1 v2 w h h'

end Go.Proofs.Ytklcjjckelahcaa.ints
