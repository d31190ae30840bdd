/-
  The model's Parse at any text: a program in new memory, of a bounded weight; and the datas that its laws draw with.
-/
import Derived.Test.YtpdmdcoaaboikaaGreatDoorParseTop
import Derived.Test.YtpdmdcoaaboikaaGreatDoorParseTie
import Derived.Test.YtpdmdcoaaboikaaGreatDoorProgTidySpec
namespace Go.Proofs.YtpdmdcoaaboikaaGreatDoor.tok
open Go Go.RowKit Go.Deep Go.Proofs.YtpdmdcoaaboikaaGreatDoor.rose Go.Proofs.YtpdmdcoaaboikaaGreatDoor
set_option linter.unusedVariables false

theorem parse_any (s : ByteArray) (w : World) (hs : s.size ≤ maxLen) : Calls Tryz.prog 27 #[.string s] w (ParseSays w) :=
  parse_of (fun E w at_ bad h => e_any E w at_ bad h trivial) prog.progOkB (fun p cs w hw h => prog.spec_any p cs w hw h) s w hs

end Go.Proofs.YtpdmdcoaaboikaaGreatDoor.tok
