/-
  DERIVED. GIVEN WITH THE SEED: THE CARDS: each row of YtjoaiaeohlhbkaaDoorRows.lean that lists a variable, with what it lists TIED to the program's text (the seventh form; the later family's looks); each row that meets fmt, with fmt's text TOLD by the authors' own Lean function (tested against real Go, not proved from fmt's source: count such statements apart). THE CARD IS WHAT COUNTS. Prove the row's statement (the work); the ties are given (YtjoaiaeohlhbkaaDoorTie.lean); close each card by the builder's one call (the guide's Derived/Test/ToyasCard.lean, 'card_holds'). Laid BY PROGRAM, IN A SANDBOX (cutbox-door.mjs). By AI agents, Wed Nov 11 2026. No macro, syntax, notation, axiom, sorry.
-/
import Derived.Test.YtjoaiaeohlhbkaaDoorRows
import GoSem.ClaimSeven
namespace Go.Proofs.YtjoaiaeohlhbkaaDoor
namespace Rows

/-- THE TIED CARD OF 'laws.FnExactDepths'. -/
def fnExactDepthsCard : Claim7 := { stood := { row := fnExactDepthsRow, standIns := [], harness := (true, "01c413089f7d86492e723ceaa4c04c667da3b4d806608b9cc34b7fd6a7cd35f3"), looks := false }, kinds := [], alts := [], laidByText := true, laidKinds := [.data], laidTests := true, laidLooks := .later }
def FnExactDepthsCardSaid : Prop := Claim7.holds Tryd.pinned (.plain (OpenSpec.ofChange fnExactDepthsSpec)) fnExactDepthsCard

/-- THE SECOND FORM's CARD OF 'laws.FnExactDepths'. -/
def fnExactDepthsUptoCard : Claim7 := { stood := { row := fnExactDepthsUptoRow, standIns := [], harness := (true, "01c413089f7d86492e723ceaa4c04c667da3b4d806608b9cc34b7fd6a7cd35f3"), looks := false }, kinds := [], alts := [], laidByText := true, laidKinds := [.data], laidTests := true, laidLooks := .later }
def FnExactDepthsUptoCardSaid : Prop := Claim7.holds Tryd.pinned (.plain (OpenSpec.upto fnExactDepthsSpec)) fnExactDepthsUptoCard
end Rows
end Go.Proofs.YtjoaiaeohlhbkaaDoor
