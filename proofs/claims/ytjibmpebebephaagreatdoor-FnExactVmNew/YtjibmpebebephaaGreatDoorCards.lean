/-
  DERIVED. GIVEN WITH THE SEED: THE CARDS: each row of YtjibmpebebephaaGreatDoorRows.lean that lists a variable, with what it lists TIED to the program's text (the seventh form; the later family's looks); each row that meets fmt, with fmt's text TOLD by the authors' own Lean function (tested against real Go, not proved from fmt's source: count such statements apart). THE CARD IS WHAT COUNTS. Prove the row's statement (the work); the ties are given (YtjibmpebebephaaGreatDoorTie.lean); close each card by the builder's one call (the guide's Derived/Test/ToyasCard.lean, 'card_holds'). Laid BY PROGRAM, IN A SANDBOX (cutbox-door.mjs). By AI agents, Wed Nov 11 2026. No macro, syntax, notation, axiom, sorry.
-/
import Derived.Test.YtjibmpebebephaaGreatDoorRows
import GoSem.ClaimSeven
namespace Go.Proofs.YtjibmpebebephaaGreatDoor
namespace Rows

/-- THE TIED CARD OF 'laws.FnExactVmOk'. -/
def fnExactVmOkCard : Claim7 := { stood := { row := fnExactVmOkRow, standIns := [], harness := (true, "fb46c1e636271f79c7075d8203243ad8fb6afd4bdae6d1ccc1a5ccb2116a4947"), looks := false }, kinds := [], alts := [], laidByText := true, laidKinds := [.data], laidTests := true, laidLooks := .later }
def FnExactVmOkCardSaid : Prop := Claim7.holds Tryz.pinned (.plain (OpenSpec.ofChange fnExactVmOkSpec)) fnExactVmOkCard

/-- THE TIED CARD OF 'laws.FnExactVmNew'. -/
def fnExactVmNewCard : Claim7 := { stood := { row := fnExactVmNewRow, standIns := [], harness := (true, "fb46c1e636271f79c7075d8203243ad8fb6afd4bdae6d1ccc1a5ccb2116a4947"), looks := false }, kinds := [], alts := [], laidByText := true, laidKinds := [.data], laidTests := true, laidLooks := .later }
def FnExactVmNewCardSaid : Prop := Claim7.holds Tryz.pinned (.plain (OpenSpec.ofChange fnExactVmNewSpec)) fnExactVmNewCard

/-- THE SECOND FORM's CARD OF 'laws.FnExactVmOk'. -/
def fnExactVmOkUptoCard : Claim7 := { stood := { row := fnExactVmOkUptoRow, standIns := [], harness := (true, "fb46c1e636271f79c7075d8203243ad8fb6afd4bdae6d1ccc1a5ccb2116a4947"), looks := false }, kinds := [], alts := [], laidByText := true, laidKinds := [.data], laidTests := true, laidLooks := .later }
def FnExactVmOkUptoCardSaid : Prop := Claim7.holds Tryz.pinned (.plain (OpenSpec.upto fnExactVmOkSpec)) fnExactVmOkUptoCard

/-- THE SECOND FORM's CARD OF 'laws.FnExactVmNew'. -/
def fnExactVmNewUptoCard : Claim7 := { stood := { row := fnExactVmNewUptoRow, standIns := [], harness := (true, "fb46c1e636271f79c7075d8203243ad8fb6afd4bdae6d1ccc1a5ccb2116a4947"), looks := false }, kinds := [], alts := [], laidByText := true, laidKinds := [.data], laidTests := true, laidLooks := .later }
def FnExactVmNewUptoCardSaid : Prop := Claim7.holds Tryz.pinned (.plain (OpenSpec.upto fnExactVmNewSpec)) fnExactVmNewUptoCard
end Rows
end Go.Proofs.YtjibmpebebephaaGreatDoor
