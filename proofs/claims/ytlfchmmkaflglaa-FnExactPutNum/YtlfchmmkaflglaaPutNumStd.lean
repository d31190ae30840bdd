/-
  The model's and the program's PutNum, as the law's frame asks for them.
-/
import Derived.Test.YtlfchmmkaflglaaPutNumSpec
import Derived.Test.YtlfchmmkaflglaaPutNumImpl
namespace Go.Proofs.Ytlfchmmkaflglaa.byts
open Go Go.RowKit Go.Proofs.Ytlfchmmkaflglaa.rose Go.Proofs.Ytlfchmmkaflglaa
set_option linter.unusedVariables false

theorem specPutNum_std (n : Int) (w : World) (h1 : -9223372036854775808 ≤ n) (h2 : n ≤ 9223372036854775807) :
    Calls Try.prog 5 #[.int .i64 n] w fun e w' => (∃ v', e = .returned v' ∧ bytesSp.rep w' (fun b => w.heap.size ≤ b ∧ b < w'.heap.size) [v'] (putB n)) ∧ Below w.heap.size w w' :=
  (specPutNum n w h1 h2).mono fun e w' ⟨⟨v', he, hr⟩, hb⟩ => ⟨⟨v', he, hr.sp⟩, hb⟩
theorem implPutNum_std (n : Int) (w : World) (h1 : -9223372036854775808 ≤ n) (h2 : n ≤ 9223372036854775807) :
    Calls Try.prog 6 #[.int .i64 n] w fun e w' => (∃ v', e = .returned v' ∧ bytesSp.rep w' (fun b => w.heap.size ≤ b ∧ b < w'.heap.size) [v'] (putB n)) ∧ Below w.heap.size w w' :=
  (implPutNum n w h1 h2).mono fun e w' ⟨⟨v', he, hr⟩, hb⟩ => ⟨⟨v', he, hr.sp⟩, hb⟩
theorem putB_bound (n : Int) : (putB n).length ≤ 1073741824 := by have := putB_len n; omega

end Go.Proofs.Ytlfchmmkaflglaa.byts
