/-
  DERIVED. GIVEN WITH THE SEED: THE CARDS: each row of YteboacjniokfpaaGreatDoorRows.lean that lists a variable, with what it lists TIED to the program's text (the seventh form; the later family's looks); each row that meets fmt, with fmt's text TOLD by the authors' own Lean function (tested against real Go, not proved from fmt's source: count such statements apart). THE CARD IS WHAT COUNTS. Prove the row's statement (the work); the ties are given (YteboacjniokfpaaGreatDoorTie.lean); close each card by the builder's one call (the guide's Derived/Test/ToyasCard.lean, 'card_holds'). Laid BY PROGRAM, IN A SANDBOX (cutbox-door.mjs). By AI agents, Wed Nov 11 2026. No macro, syntax, notation, axiom, sorry.
-/
import Derived.Test.YteboacjniokfpaaGreatDoorRows
import GoSem.ClaimSeven
namespace Go.Proofs.YteboacjniokfpaaGreatDoor
namespace Rows

/-- THE TIED CARD OF 'stillagelaw07.LogDoes'. -/
def logDoesCard : Claim7 := { stood := { row := logDoesRow, standIns := [], harness := (true, "0f755ec806f7fa96bd3ef3a4b32c430296aec0682e8321e8d4b1684d2415dce2"), looks := true }, kinds := [], alts := [], laidByText := true, laidKinds := [.data, .pinned], laidTests := true, laidLooks := .later }
def LogDoesCardSaid : Prop := Claim7.holds Tryz.pinned (.plain (OpenSpec.ofChange logDoesSpec)) logDoesCard

/-- THE TIED CARD OF 'stillagelaw08.BlockDoes'. -/
def blockDoesCard : Claim7 := { stood := { row := blockDoesRow, standIns := [], harness := (true, "0f755ec806f7fa96bd3ef3a4b32c430296aec0682e8321e8d4b1684d2415dce2"), looks := true }, kinds := [], alts := [], laidByText := true, laidKinds := [.data, .pinned], laidTests := true, laidLooks := .later }
def BlockDoesCardSaid : Prop := Claim7.holds Tryz.pinned (.plain (OpenSpec.ofChange blockDoesSpec)) blockDoesCard

/-- THE TIED CARD OF 'stillagelaw08.BlockReads'. -/
def blockReadsCard : Claim7 := { stood := { row := blockReadsRow, standIns := [], harness := (true, "0f755ec806f7fa96bd3ef3a4b32c430296aec0682e8321e8d4b1684d2415dce2"), looks := true }, kinds := [], alts := [], laidByText := true, laidKinds := [.data, .pinned], laidTests := true, laidLooks := .later }
def BlockReadsCardSaid : Prop := Claim7.holds Tryz.pinned (.plain (OpenSpec.ofChange blockReadsSpec)) blockReadsCard

/-- THE SECOND FORM's CARD OF 'stillagelaw07.LogDoes'. -/
def logDoesUptoCard : Claim7 := { stood := { row := logDoesUptoRow, standIns := [], harness := (true, "0f755ec806f7fa96bd3ef3a4b32c430296aec0682e8321e8d4b1684d2415dce2"), looks := true }, kinds := [], alts := [], laidByText := true, laidKinds := [.data, .pinned], laidTests := true, laidLooks := .later }
def LogDoesUptoCardSaid : Prop := Claim7.holds Tryz.pinned (.plain (OpenSpec.upto logDoesSpec)) logDoesUptoCard

/-- THE SECOND FORM's CARD OF 'stillagelaw08.BlockDoes'. -/
def blockDoesUptoCard : Claim7 := { stood := { row := blockDoesUptoRow, standIns := [], harness := (true, "0f755ec806f7fa96bd3ef3a4b32c430296aec0682e8321e8d4b1684d2415dce2"), looks := true }, kinds := [], alts := [], laidByText := true, laidKinds := [.data, .pinned], laidTests := true, laidLooks := .later }
def BlockDoesUptoCardSaid : Prop := Claim7.holds Tryz.pinned (.plain (OpenSpec.upto blockDoesSpec)) blockDoesUptoCard

/-- THE SECOND FORM's CARD OF 'stillagelaw08.BlockReads'. -/
def blockReadsUptoCard : Claim7 := { stood := { row := blockReadsUptoRow, standIns := [], harness := (true, "0f755ec806f7fa96bd3ef3a4b32c430296aec0682e8321e8d4b1684d2415dce2"), looks := true }, kinds := [], alts := [], laidByText := true, laidKinds := [.data, .pinned], laidTests := true, laidLooks := .later }
def BlockReadsUptoCardSaid : Prop := Claim7.holds Tryz.pinned (.plain (OpenSpec.upto blockReadsSpec)) blockReadsUptoCard
end Rows
end Go.Proofs.YteboacjniokfpaaGreatDoor
