/-
  DERIVED. GIVEN WITH THE SEED: THE CARDS: each row of YtickjomnmifmjaaDoorRows.lean that lists a variable, with what it lists TIED to the program's text (the seventh form; the later family's looks); each row that meets fmt, with fmt's text TOLD by the authors' own Lean function (tested against real Go, not proved from fmt's source: count such statements apart). THE CARD IS WHAT COUNTS. Prove the row's statement (the work); the ties are given (YtickjomnmifmjaaDoorTie.lean); close each card by the builder's one call (the guide's Derived/Test/ToyasCard.lean, 'card_holds'). Laid BY PROGRAM, IN A SANDBOX (cutbox-door.mjs). By AI agents, Wed Nov 11 2026. No macro, syntax, notation, axiom, sorry.
-/
import Derived.Test.YtickjomnmifmjaaDoorRows
import GoSem.ClaimSeven
namespace Go.Proofs.YtickjomnmifmjaaDoor
namespace Rows

/-- THE TIED CARD OF 'stillagelaw06.DiskOpens'. -/
def diskOpensCard : Claim7 := { stood := { row := diskOpensRow, standIns := [], harness := (true, "7db5ecd64d9bd6f9fafe111645ecfa9a4ba2db71904e347d121a286c66e10027"), looks := true }, kinds := [], alts := [], laidByText := true, laidKinds := [.data, .pinned], laidTests := true, laidLooks := .later }
def DiskOpensCardSaid : Prop := Claim7.holds Tryd.pinned (.plain (OpenSpec.ofChange diskOpensSpec)) diskOpensCard

/-- THE TIED CARD OF 'stillagelaw06.DiskDoes'. -/
def diskDoesCard : Claim7 := { stood := { row := diskDoesRow, standIns := [], harness := (true, "7db5ecd64d9bd6f9fafe111645ecfa9a4ba2db71904e347d121a286c66e10027"), looks := true }, kinds := [], alts := [], laidByText := true, laidKinds := [.data, .pinned], laidTests := true, laidLooks := .later }
def DiskDoesCardSaid : Prop := Claim7.holds Tryd.pinned (.plain (OpenSpec.ofChange diskDoesSpec)) diskDoesCard

/-- THE TIED CARD OF 'stillagelaw06.DiskCrashes'. -/
def diskCrashesCard : Claim7 := { stood := { row := diskCrashesRow, standIns := [], harness := (true, "7db5ecd64d9bd6f9fafe111645ecfa9a4ba2db71904e347d121a286c66e10027"), looks := true }, kinds := [], alts := [], laidByText := true, laidKinds := [.data, .pinned], laidTests := true, laidLooks := .later }
def DiskCrashesCardSaid : Prop := Claim7.holds Tryd.pinned (.plain (OpenSpec.ofChange diskCrashesSpec)) diskCrashesCard

/-- THE TIED CARD OF 'stillagelaw06.DiskSyncs'. -/
def diskSyncsCard : Claim7 := { stood := { row := diskSyncsRow, standIns := [], harness := (true, "7db5ecd64d9bd6f9fafe111645ecfa9a4ba2db71904e347d121a286c66e10027"), looks := true }, kinds := [], alts := [], laidByText := true, laidKinds := [.data, .pinned], laidTests := true, laidLooks := .later }
def DiskSyncsCardSaid : Prop := Claim7.holds Tryd.pinned (.plain (OpenSpec.ofChange diskSyncsSpec)) diskSyncsCard

/-- THE TIED CARD OF 'stillagelaw06.DiskReads'. -/
def diskReadsCard : Claim7 := { stood := { row := diskReadsRow, standIns := [], harness := (true, "7db5ecd64d9bd6f9fafe111645ecfa9a4ba2db71904e347d121a286c66e10027"), looks := true }, kinds := [], alts := [], laidByText := true, laidKinds := [.data, .pinned], laidTests := true, laidLooks := .later }
def DiskReadsCardSaid : Prop := Claim7.holds Tryd.pinned (.plain (OpenSpec.ofChange diskReadsSpec)) diskReadsCard

/-- THE TIED CARD OF 'stillagelaw06.DiskBads'. -/
def diskBadsCard : Claim7 := { stood := { row := diskBadsRow, standIns := [], harness := (true, "7db5ecd64d9bd6f9fafe111645ecfa9a4ba2db71904e347d121a286c66e10027"), looks := true }, kinds := [], alts := [], laidByText := true, laidKinds := [.data, .pinned], laidTests := true, laidLooks := .later }
def DiskBadsCardSaid : Prop := Claim7.holds Tryd.pinned (.plain (OpenSpec.ofChange diskBadsSpec)) diskBadsCard

/-- THE SECOND FORM's CARD OF 'stillagelaw06.DiskOpens'. -/
def diskOpensUptoCard : Claim7 := { stood := { row := diskOpensUptoRow, standIns := [], harness := (true, "7db5ecd64d9bd6f9fafe111645ecfa9a4ba2db71904e347d121a286c66e10027"), looks := true }, kinds := [], alts := [], laidByText := true, laidKinds := [.data, .pinned], laidTests := true, laidLooks := .later }
def DiskOpensUptoCardSaid : Prop := Claim7.holds Tryd.pinned (.plain (OpenSpec.upto diskOpensSpec)) diskOpensUptoCard

/-- THE SECOND FORM's CARD OF 'stillagelaw06.DiskDoes'. -/
def diskDoesUptoCard : Claim7 := { stood := { row := diskDoesUptoRow, standIns := [], harness := (true, "7db5ecd64d9bd6f9fafe111645ecfa9a4ba2db71904e347d121a286c66e10027"), looks := true }, kinds := [], alts := [], laidByText := true, laidKinds := [.data, .pinned], laidTests := true, laidLooks := .later }
def DiskDoesUptoCardSaid : Prop := Claim7.holds Tryd.pinned (.plain (OpenSpec.upto diskDoesSpec)) diskDoesUptoCard

/-- THE SECOND FORM's CARD OF 'stillagelaw06.DiskCrashes'. -/
def diskCrashesUptoCard : Claim7 := { stood := { row := diskCrashesUptoRow, standIns := [], harness := (true, "7db5ecd64d9bd6f9fafe111645ecfa9a4ba2db71904e347d121a286c66e10027"), looks := true }, kinds := [], alts := [], laidByText := true, laidKinds := [.data, .pinned], laidTests := true, laidLooks := .later }
def DiskCrashesUptoCardSaid : Prop := Claim7.holds Tryd.pinned (.plain (OpenSpec.upto diskCrashesSpec)) diskCrashesUptoCard

/-- THE SECOND FORM's CARD OF 'stillagelaw06.DiskSyncs'. -/
def diskSyncsUptoCard : Claim7 := { stood := { row := diskSyncsUptoRow, standIns := [], harness := (true, "7db5ecd64d9bd6f9fafe111645ecfa9a4ba2db71904e347d121a286c66e10027"), looks := true }, kinds := [], alts := [], laidByText := true, laidKinds := [.data, .pinned], laidTests := true, laidLooks := .later }
def DiskSyncsUptoCardSaid : Prop := Claim7.holds Tryd.pinned (.plain (OpenSpec.upto diskSyncsSpec)) diskSyncsUptoCard

/-- THE SECOND FORM's CARD OF 'stillagelaw06.DiskReads'. -/
def diskReadsUptoCard : Claim7 := { stood := { row := diskReadsUptoRow, standIns := [], harness := (true, "7db5ecd64d9bd6f9fafe111645ecfa9a4ba2db71904e347d121a286c66e10027"), looks := true }, kinds := [], alts := [], laidByText := true, laidKinds := [.data, .pinned], laidTests := true, laidLooks := .later }
def DiskReadsUptoCardSaid : Prop := Claim7.holds Tryd.pinned (.plain (OpenSpec.upto diskReadsSpec)) diskReadsUptoCard

/-- THE SECOND FORM's CARD OF 'stillagelaw06.DiskBads'. -/
def diskBadsUptoCard : Claim7 := { stood := { row := diskBadsUptoRow, standIns := [], harness := (true, "7db5ecd64d9bd6f9fafe111645ecfa9a4ba2db71904e347d121a286c66e10027"), looks := true }, kinds := [], alts := [], laidByText := true, laidKinds := [.data, .pinned], laidTests := true, laidLooks := .later }
def DiskBadsUptoCardSaid : Prop := Claim7.holds Tryd.pinned (.plain (OpenSpec.upto diskBadsSpec)) diskBadsUptoCard
end Rows
end Go.Proofs.YtickjomnmifmjaaDoor
