/-
  DERIVED. GIVEN WITH THE SEED: THE CARDS: each row of YtffebghkmobeoaaDoorRows.lean that lists a variable, with what it lists TIED to the program's text (the seventh form; the later family's looks); each row that meets fmt, with fmt's text TOLD by the authors' own Lean function (tested against real Go, not proved from fmt's source: count such statements apart). THE CARD IS WHAT COUNTS. Prove the row's statement (the work); the ties are given (YtffebghkmobeoaaDoorTie.lean); close each card by the builder's one call (the guide's Derived/Test/ToyasCard.lean, 'card_holds'). Laid BY PROGRAM, IN A SANDBOX (cutbox-door.mjs). By AI agents, Wed Nov 11 2026. No macro, syntax, notation, axiom, sorry.
-/
import Derived.Test.YtffebghkmobeoaaDoorRows
import GoSem.ClaimSeven
namespace Go.Proofs.YtffebghkmobeoaaDoor
namespace Rows

/-- THE TIED CARD OF 'stillagelaw12.TableNames'. -/
def tableNamesCard : Claim7 := { stood := { row := tableNamesRow, standIns := [], harness := (true, "feba16dd26b1341492c6a4708760f8cb097529c4036f805ef70d1af3d396bf85"), looks := true }, kinds := [], alts := [], laidByText := true, laidKinds := [.handle], laidTests := true, laidLooks := .later }
def TableNamesCardSaid : Prop := Claim7.holds Tryd.pinned (.plain (OpenSpec.ofChange tableNamesSpec)) tableNamesCard

/-- THE TIED CARD OF 'stillagelaw12.TableInodes'. -/
def tableInodesCard : Claim7 := { stood := { row := tableInodesRow, standIns := [], harness := (true, "feba16dd26b1341492c6a4708760f8cb097529c4036f805ef70d1af3d396bf85"), looks := true }, kinds := [], alts := [], laidByText := true, laidKinds := [.handle], laidTests := true, laidLooks := .later }
def TableInodesCardSaid : Prop := Claim7.holds Tryd.pinned (.plain (OpenSpec.ofChange tableInodesSpec)) tableInodesCard

/-- THE TIED CARD OF 'stillagelaw12.TableEntries'. -/
def tableEntriesCard : Claim7 := { stood := { row := tableEntriesRow, standIns := [], harness := (true, "feba16dd26b1341492c6a4708760f8cb097529c4036f805ef70d1af3d396bf85"), looks := true }, kinds := [], alts := [], laidByText := true, laidKinds := [.handle], laidTests := true, laidLooks := .later }
def TableEntriesCardSaid : Prop := Claim7.holds Tryd.pinned (.plain (OpenSpec.ofChange tableEntriesSpec)) tableEntriesCard

/-- THE TIED CARD OF 'stillagelaw12.TableBack'. -/
def tableBackCard : Claim7 := { stood := { row := tableBackRow, standIns := [], harness := (true, "feba16dd26b1341492c6a4708760f8cb097529c4036f805ef70d1af3d396bf85"), looks := true }, kinds := [], alts := [], laidByText := true, laidKinds := [.handle], laidTests := true, laidLooks := .later }
def TableBackCardSaid : Prop := Claim7.holds Tryd.pinned (.plain (OpenSpec.ofChange tableBackSpec)) tableBackCard

/-- THE TIED CARD OF 'stillagelaw12.TableOnly'. -/
def tableOnlyCard : Claim7 := { stood := { row := tableOnlyRow, standIns := [], harness := (true, "feba16dd26b1341492c6a4708760f8cb097529c4036f805ef70d1af3d396bf85"), looks := true }, kinds := [], alts := [], laidByText := true, laidKinds := [.handle], laidTests := true, laidLooks := .later }
def TableOnlyCardSaid : Prop := Claim7.holds Tryd.pinned (.plain (OpenSpec.ofChange tableOnlySpec)) tableOnlyCard

/-- THE TIED CARD OF 'stillagelaw12.TableTurned'. -/
def tableTurnedCard : Claim7 := { stood := { row := tableTurnedRow, standIns := [], harness := (true, "feba16dd26b1341492c6a4708760f8cb097529c4036f805ef70d1af3d396bf85"), looks := true }, kinds := [], alts := [], laidByText := true, laidKinds := [.handle], laidTests := true, laidLooks := .later }
def TableTurnedCardSaid : Prop := Claim7.holds Tryd.pinned (.plain (OpenSpec.ofChange tableTurnedSpec)) tableTurnedCard

/-- THE TIED CARD OF 'stillagelaw12.TableSizes'. -/
def tableSizesCard : Claim7 := { stood := { row := tableSizesRow, standIns := [], harness := (true, "feba16dd26b1341492c6a4708760f8cb097529c4036f805ef70d1af3d396bf85"), looks := true }, kinds := [], alts := [], laidByText := true, laidKinds := [.handle], laidTests := true, laidLooks := .later }
def TableSizesCardSaid : Prop := Claim7.holds Tryd.pinned (.plain (OpenSpec.ofChange tableSizesSpec)) tableSizesCard

/-- THE SECOND FORM's CARD OF 'stillagelaw12.TableNames'. -/
def tableNamesUptoCard : Claim7 := { stood := { row := tableNamesUptoRow, standIns := [], harness := (true, "feba16dd26b1341492c6a4708760f8cb097529c4036f805ef70d1af3d396bf85"), looks := true }, kinds := [], alts := [], laidByText := true, laidKinds := [.handle], laidTests := true, laidLooks := .later }
def TableNamesUptoCardSaid : Prop := Claim7.holds Tryd.pinned (.plain (OpenSpec.upto tableNamesSpec)) tableNamesUptoCard

/-- THE SECOND FORM's CARD OF 'stillagelaw12.TableInodes'. -/
def tableInodesUptoCard : Claim7 := { stood := { row := tableInodesUptoRow, standIns := [], harness := (true, "feba16dd26b1341492c6a4708760f8cb097529c4036f805ef70d1af3d396bf85"), looks := true }, kinds := [], alts := [], laidByText := true, laidKinds := [.handle], laidTests := true, laidLooks := .later }
def TableInodesUptoCardSaid : Prop := Claim7.holds Tryd.pinned (.plain (OpenSpec.upto tableInodesSpec)) tableInodesUptoCard

/-- THE SECOND FORM's CARD OF 'stillagelaw12.TableEntries'. -/
def tableEntriesUptoCard : Claim7 := { stood := { row := tableEntriesUptoRow, standIns := [], harness := (true, "feba16dd26b1341492c6a4708760f8cb097529c4036f805ef70d1af3d396bf85"), looks := true }, kinds := [], alts := [], laidByText := true, laidKinds := [.handle], laidTests := true, laidLooks := .later }
def TableEntriesUptoCardSaid : Prop := Claim7.holds Tryd.pinned (.plain (OpenSpec.upto tableEntriesSpec)) tableEntriesUptoCard

/-- THE SECOND FORM's CARD OF 'stillagelaw12.TableBack'. -/
def tableBackUptoCard : Claim7 := { stood := { row := tableBackUptoRow, standIns := [], harness := (true, "feba16dd26b1341492c6a4708760f8cb097529c4036f805ef70d1af3d396bf85"), looks := true }, kinds := [], alts := [], laidByText := true, laidKinds := [.handle], laidTests := true, laidLooks := .later }
def TableBackUptoCardSaid : Prop := Claim7.holds Tryd.pinned (.plain (OpenSpec.upto tableBackSpec)) tableBackUptoCard

/-- THE SECOND FORM's CARD OF 'stillagelaw12.TableOnly'. -/
def tableOnlyUptoCard : Claim7 := { stood := { row := tableOnlyUptoRow, standIns := [], harness := (true, "feba16dd26b1341492c6a4708760f8cb097529c4036f805ef70d1af3d396bf85"), looks := true }, kinds := [], alts := [], laidByText := true, laidKinds := [.handle], laidTests := true, laidLooks := .later }
def TableOnlyUptoCardSaid : Prop := Claim7.holds Tryd.pinned (.plain (OpenSpec.upto tableOnlySpec)) tableOnlyUptoCard

/-- THE SECOND FORM's CARD OF 'stillagelaw12.TableTurned'. -/
def tableTurnedUptoCard : Claim7 := { stood := { row := tableTurnedUptoRow, standIns := [], harness := (true, "feba16dd26b1341492c6a4708760f8cb097529c4036f805ef70d1af3d396bf85"), looks := true }, kinds := [], alts := [], laidByText := true, laidKinds := [.handle], laidTests := true, laidLooks := .later }
def TableTurnedUptoCardSaid : Prop := Claim7.holds Tryd.pinned (.plain (OpenSpec.upto tableTurnedSpec)) tableTurnedUptoCard

/-- THE SECOND FORM's CARD OF 'stillagelaw12.TableSizes'. -/
def tableSizesUptoCard : Claim7 := { stood := { row := tableSizesUptoRow, standIns := [], harness := (true, "feba16dd26b1341492c6a4708760f8cb097529c4036f805ef70d1af3d396bf85"), looks := true }, kinds := [], alts := [], laidByText := true, laidKinds := [.handle], laidTests := true, laidLooks := .later }
def TableSizesUptoCardSaid : Prop := Claim7.holds Tryd.pinned (.plain (OpenSpec.upto tableSizesSpec)) tableSizesUptoCard
end Rows
end Go.Proofs.YtffebghkmobeoaaDoor
