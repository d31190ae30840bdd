/-
  DERIVED. GIVEN WITH THE SEED: THE CARDS: each row of YtedjgepnhoilaaaDoorRows.lean that lists a variable, with what it lists TIED to the program's text (the seventh form; the later family's looks); each row that meets fmt, with fmt's text TOLD by the authors' own Lean function (tested against real Go, not proved from fmt's source: count such statements apart). THE CARD IS WHAT COUNTS. Prove the row's statement (the work); the ties are given (YtedjgepnhoilaaaDoorTie.lean); close each card by the builder's one call (the guide's Derived/Test/ToyasCard.lean, 'card_holds'). Laid BY PROGRAM, IN A SANDBOX (cutbox-door.mjs). By AI agents, Wed Nov 11 2026. No macro, syntax, notation, axiom, sorry.
-/
import Derived.Test.YtedjgepnhoilaaaDoorRows
import GoSem.ClaimSeven
namespace Go.Proofs.YtedjgepnhoilaaaDoor
namespace Rows

/-- THE TIED CARD OF 'laws.FnExactFunsOk'. -/
def fnExactFunsOkCard : Claim7 := { stood := { row := fnExactFunsOkRow, standIns := [], harness := (true, "5965257fa018fc33d016f6c8fdee2a82b0805c9993ceba23b98805117621bcbe"), looks := false }, kinds := [], alts := [], laidByText := true, laidKinds := [.data], laidTests := true, laidLooks := .later }
def FnExactFunsOkCardSaid : Prop := Claim7.holds Tryd.pinned (.plain (OpenSpec.ofChange fnExactFunsOkSpec)) fnExactFunsOkCard

/-- THE SECOND FORM's CARD OF 'laws.FnExactFunsOk'. -/
def fnExactFunsOkUptoCard : Claim7 := { stood := { row := fnExactFunsOkUptoRow, standIns := [], harness := (true, "5965257fa018fc33d016f6c8fdee2a82b0805c9993ceba23b98805117621bcbe"), looks := false }, kinds := [], alts := [], laidByText := true, laidKinds := [.data], laidTests := true, laidLooks := .later }
def FnExactFunsOkUptoCardSaid : Prop := Claim7.holds Tryd.pinned (.plain (OpenSpec.upto fnExactFunsOkSpec)) fnExactFunsOkUptoCard
end Rows
end Go.Proofs.YtedjgepnhoilaaaDoor
