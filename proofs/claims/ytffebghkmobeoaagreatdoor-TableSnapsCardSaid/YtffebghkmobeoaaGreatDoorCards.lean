/-
  DERIVED. GIVEN WITH THE SEED: THE CARDS: each row of YtffebghkmobeoaaGreatDoorRows.lean that lists a variable, with what it lists TIED to the program's text (the seventh form; the later family's looks); each row that meets fmt, with fmt's text TOLD by the authors' own Lean function (tested against real Go, not proved from fmt's source: count such statements apart). THE CARD IS WHAT COUNTS. Prove the row's statement (the work); the ties are given (YtffebghkmobeoaaGreatDoorTie.lean); close each card by the builder's one call (the guide's Derived/Test/ToyasCard.lean, 'card_holds'). Laid BY PROGRAM, IN A SANDBOX (cutbox-door.mjs). By AI agents, Wed Nov 11 2026. No macro, syntax, notation, axiom, sorry.
-/
import Derived.Test.YtffebghkmobeoaaGreatDoorRows
import GoSem.ClaimSeven
namespace Go.Proofs.YtffebghkmobeoaaGreatDoor
namespace Rows

/-- THE TIED CARD OF 'stillagelaw12.TableSnaps'. -/
def tableSnapsCard : Claim7 := { stood := { row := tableSnapsRow, standIns := [], harness := (true, "7688775afd10abf5934e07b6310ce4ac81946bf7acfa64b419928225e8a6b1d8"), looks := true }, kinds := [], alts := [], laidByText := true, laidKinds := [.handle], laidTests := true, laidLooks := .later }
def TableSnapsCardSaid : Prop := Claim7.holds Tryz.pinned (.plain (OpenSpec.ofChange tableSnapsSpec)) tableSnapsCard

/-- THE SECOND FORM's CARD OF 'stillagelaw12.TableSnaps'. -/
def tableSnapsUptoCard : Claim7 := { stood := { row := tableSnapsUptoRow, standIns := [], harness := (true, "7688775afd10abf5934e07b6310ce4ac81946bf7acfa64b419928225e8a6b1d8"), looks := true }, kinds := [], alts := [], laidByText := true, laidKinds := [.handle], laidTests := true, laidLooks := .later }
def TableSnapsUptoCardSaid : Prop := Claim7.holds Tryz.pinned (.plain (OpenSpec.upto tableSnapsSpec)) tableSnapsUptoCard
end Rows
end Go.Proofs.YtffebghkmobeoaaGreatDoor
