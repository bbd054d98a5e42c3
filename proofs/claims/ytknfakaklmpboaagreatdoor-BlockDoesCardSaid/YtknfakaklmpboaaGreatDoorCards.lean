/-
  DERIVED. GIVEN WITH THE SEED: THE CARDS: each row of YtknfakaklmpboaaGreatDoorRows.lean that lists a variable, with what it lists TIED to the program's text (the seventh form; the later family's looks); each row that meets fmt, with fmt's text TOLD by the authors' own Lean function (tested against real Go, not proved from fmt's source: count such statements apart). THE CARD IS WHAT COUNTS. Prove the row's statement (the work); the ties are given (YtknfakaklmpboaaGreatDoorTie.lean); close each card by the builder's one call (the guide's Derived/Test/ToyasCard.lean, 'card_holds'). Laid BY PROGRAM, IN A SANDBOX (cutbox-door.mjs). By AI agents, Wed Nov 11 2026. No macro, syntax, notation, axiom, sorry.
-/
import Derived.Test.YtknfakaklmpboaaGreatDoorRows
import GoSem.ClaimSeven
namespace Go.Proofs.YtknfakaklmpboaaGreatDoor
namespace Rows

/-- THE TIED CARD OF 'stillagelaw08.BlockDoes'. -/
def blockDoesCard : Claim7 := { stood := { row := blockDoesRow, standIns := [], harness := (true, "a8e0d05fe171443e86f125404d15b37f278c1019ce134adf1db2221514eb45dc"), looks := true }, kinds := [], alts := [], laidByText := true, laidKinds := [.data, .pinned], laidTests := true, laidLooks := .later }
def BlockDoesCardSaid : Prop := Claim7.holds Tryz.pinned (.plain (OpenSpec.ofChange blockDoesSpec)) blockDoesCard

/-- THE SECOND FORM's CARD OF 'stillagelaw08.BlockDoes'. -/
def blockDoesUptoCard : Claim7 := { stood := { row := blockDoesUptoRow, standIns := [], harness := (true, "a8e0d05fe171443e86f125404d15b37f278c1019ce134adf1db2221514eb45dc"), looks := true }, kinds := [], alts := [], laidByText := true, laidKinds := [.data, .pinned], laidTests := true, laidLooks := .later }
def BlockDoesUptoCardSaid : Prop := Claim7.holds Tryz.pinned (.plain (OpenSpec.upto blockDoesSpec)) blockDoesUptoCard
end Rows
end Go.Proofs.YtknfakaklmpboaaGreatDoor
