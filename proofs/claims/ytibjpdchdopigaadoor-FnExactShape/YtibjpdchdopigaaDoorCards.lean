/-
  DERIVED. GIVEN WITH THE SEED: THE CARDS: each row of YtibjpdchdopigaaDoorRows.lean that lists a variable, with what it lists TIED to the program's text (the seventh form; the later family's looks); each row that meets fmt, with fmt's text TOLD by the authors' own Lean function (tested against real Go, not proved from fmt's source: count such statements apart). THE CARD IS WHAT COUNTS. Prove the row's statement (the work); the ties are given (YtibjpdchdopigaaDoorTie.lean); close each card by the builder's one call (the guide's Derived/Test/ToyasCard.lean, 'card_holds'). Laid BY PROGRAM, IN A SANDBOX (cutbox-door.mjs). By AI agents, Wed Nov 11 2026. No macro, syntax, notation, axiom, sorry.
-/
import Derived.Test.YtibjpdchdopigaaDoorRows
import GoSem.ClaimSeven
namespace Go.Proofs.YtibjpdchdopigaaDoor
namespace Rows

/-- THE TIED CARD OF 'laws.FnExactShape'. -/
def fnExactShapeCard : Claim7 := { stood := { row := fnExactShapeRow, standIns := [], harness := (true, "f55774b45855a0c1e1571dbb260125ef810007d7214e0c3e6c9a898a9d6e8d0f"), looks := false }, kinds := [], alts := [], laidByText := true, laidKinds := [.data, .data, .data], laidTests := true, laidLooks := .later }
def FnExactShapeCardSaid : Prop := Claim7.holds Tryd.pinned (.plain (OpenSpec.ofChange fnExactShapeSpec)) fnExactShapeCard

/-- THE SECOND FORM's CARD OF 'laws.FnExactShape'. -/
def fnExactShapeUptoCard : Claim7 := { stood := { row := fnExactShapeUptoRow, standIns := [], harness := (true, "f55774b45855a0c1e1571dbb260125ef810007d7214e0c3e6c9a898a9d6e8d0f"), looks := false }, kinds := [], alts := [], laidByText := true, laidKinds := [.data, .data, .data], laidTests := true, laidLooks := .later }
def FnExactShapeUptoCardSaid : Prop := Claim7.holds Tryd.pinned (.plain (OpenSpec.upto fnExactShapeSpec)) fnExactShapeUptoCard
end Rows
end Go.Proofs.YtibjpdchdopigaaDoor
