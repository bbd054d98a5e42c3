/-
  DERIVED. GIVEN WITH THE SEED: THE CARDS: each row of YtknfakaklmpboaaDoorRows.lean that lists a variable, with what it lists TIED to the program's text (the seventh form; the later family's looks); each row that meets fmt, with fmt's text TOLD by the authors' own Lean function (tested against real Go, not proved from fmt's source: count such statements apart). THE CARD IS WHAT COUNTS. Prove the row's statement (the work); the ties are given (YtknfakaklmpboaaDoorTie.lean); close each card by the builder's one call (the guide's Derived/Test/ToyasCard.lean, 'card_holds'). Laid BY PROGRAM, IN A SANDBOX (cutbox-door.mjs). By AI agents, Wed Nov 11 2026. No macro, syntax, notation, axiom, sorry.
-/
import Derived.Test.YtknfakaklmpboaaDoorRows
import GoSem.ClaimSeven
namespace Go.Proofs.YtknfakaklmpboaaDoor
namespace Rows

/-- THE TIED CARD OF 'stillagelaw10.AllocParts'. -/
def allocPartsCard : Claim7 := { stood := { row := allocPartsRow, standIns := [], harness := (true, "d922392770f99886b6923988947d2caa303e8e06a16f5267a87365d503ac15cb"), looks := false }, kinds := [], alts := [], laidByText := true, laidKinds := [.data, .pinned], laidTests := true, laidLooks := .later }
def AllocPartsCardSaid : Prop := Claim7.holds Tryd.pinned (.plain (OpenSpec.ofChange allocPartsSpec)) allocPartsCard

/-- THE TIED CARD OF 'stillagelaw10.AllocAll'. -/
def allocAllCard : Claim7 := { stood := { row := allocAllRow, standIns := [], harness := (true, "d922392770f99886b6923988947d2caa303e8e06a16f5267a87365d503ac15cb"), looks := false }, kinds := [], alts := [], laidByText := true, laidKinds := [.data, .pinned], laidTests := true, laidLooks := .later }
def AllocAllCardSaid : Prop := Claim7.holds Tryd.pinned (.plain (OpenSpec.ofChange allocAllSpec)) allocAllCard

/-- THE SECOND FORM's CARD OF 'stillagelaw10.AllocParts'. -/
def allocPartsUptoCard : Claim7 := { stood := { row := allocPartsUptoRow, standIns := [], harness := (true, "d922392770f99886b6923988947d2caa303e8e06a16f5267a87365d503ac15cb"), looks := false }, kinds := [], alts := [], laidByText := true, laidKinds := [.data, .pinned], laidTests := true, laidLooks := .later }
def AllocPartsUptoCardSaid : Prop := Claim7.holds Tryd.pinned (.plain (OpenSpec.upto allocPartsSpec)) allocPartsUptoCard

/-- THE SECOND FORM's CARD OF 'stillagelaw10.AllocAll'. -/
def allocAllUptoCard : Claim7 := { stood := { row := allocAllUptoRow, standIns := [], harness := (true, "d922392770f99886b6923988947d2caa303e8e06a16f5267a87365d503ac15cb"), looks := false }, kinds := [], alts := [], laidByText := true, laidKinds := [.data, .pinned], laidTests := true, laidLooks := .later }
def AllocAllUptoCardSaid : Prop := Claim7.holds Tryd.pinned (.plain (OpenSpec.upto allocAllSpec)) allocAllUptoCard
end Rows
end Go.Proofs.YtknfakaklmpboaaDoor
