/-
  DERIVED. GIVEN WITH THE SEED: THE CARDS: each row of YtfgcbdjkimkgpaaGreatDoorRows.lean that lists a variable, with what it lists TIED to the program's text (the seventh form; the later family's looks); each row that meets fmt, with fmt's text TOLD by the authors' own Lean function (tested against real Go, not proved from fmt's source: count such statements apart). THE CARD IS WHAT COUNTS. Prove the row's statement (the work); the ties are given (YtfgcbdjkimkgpaaGreatDoorTie.lean); close each card by the builder's one call (the guide's Derived/Test/ToyasCard.lean, 'card_holds'). Laid BY PROGRAM, IN A SANDBOX (cutbox-door.mjs). By AI agents, Wed Nov 11 2026. No macro, syntax, notation, axiom, sorry.
-/
import Derived.Test.YtfgcbdjkimkgpaaGreatDoorRows
import GoSem.ClaimSeven
namespace Go.Proofs.YtfgcbdjkimkgpaaGreatDoor
namespace Rows

/-- THE TIED CARD OF 'millwrightlaw.FileLines'. -/
def fileLinesCard : Claim7 := { stood := { row := fileLinesRow, standIns := [], harness := (true, "c7873d267048c88857e83700c351f88ecda7744fb179734141ecff6af4b52ebb"), looks := false }, kinds := [], alts := [], laidByText := true, laidKinds := [.data, .pinned], laidTests := true, laidLooks := .later }
def FileLinesCardSaid : Prop := Claim7.holds Tryz.pinned (.plain (OpenSpec.ofChange fileLinesSpec)) fileLinesCard

/-- THE TIED CARD OF 'millwrightlaw.FileTells'. -/
def fileTellsCard : Claim7 := { stood := { row := fileTellsRow, standIns := [], harness := (true, "c7873d267048c88857e83700c351f88ecda7744fb179734141ecff6af4b52ebb"), looks := false }, kinds := [], alts := [], laidByText := true, laidKinds := [.data, .pinned], laidTests := true, laidLooks := .later }
def FileTellsCardSaid : Prop := Claim7.holds Tryz.pinned (.plain (OpenSpec.ofChange fileTellsSpec)) fileTellsCard

/-- THE TIED CARD OF 'millwrightkeep.FileBack'. -/
def fileBackCard : Claim7 := { stood := { row := fileBackRow, standIns := [], harness := (true, "c7873d267048c88857e83700c351f88ecda7744fb179734141ecff6af4b52ebb"), looks := false }, kinds := [], alts := [], laidByText := true, laidKinds := [.data, .pinned], laidTests := true, laidLooks := .later }
def FileBackCardSaid : Prop := Claim7.holds Tryz.pinned (.plain (OpenSpec.ofChange fileBackSpec)) fileBackCard

/-- THE TIED CARD OF 'millwrightkeep.FileOrder'. -/
def fileOrderCard : Claim7 := { stood := { row := fileOrderRow, standIns := [], harness := (true, "c7873d267048c88857e83700c351f88ecda7744fb179734141ecff6af4b52ebb"), looks := false }, kinds := [], alts := [], laidByText := true, laidKinds := [.data, .pinned], laidTests := true, laidLooks := .later }
def FileOrderCardSaid : Prop := Claim7.holds Tryz.pinned (.plain (OpenSpec.ofChange fileOrderSpec)) fileOrderCard

/-- THE TIED CARD OF 'millwrightkeep.FileIncludes'. -/
def fileIncludesCard : Claim7 := { stood := { row := fileIncludesRow, standIns := [], harness := (true, "c7873d267048c88857e83700c351f88ecda7744fb179734141ecff6af4b52ebb"), looks := false }, kinds := [], alts := [], laidByText := true, laidKinds := [.data, .pinned], laidTests := true, laidLooks := .later }
def FileIncludesCardSaid : Prop := Claim7.holds Tryz.pinned (.plain (OpenSpec.ofChange fileIncludesSpec)) fileIncludesCard

/-- THE TIED CARD OF 'millwrightkeep.FileCycle'. -/
def fileCycleCard : Claim7 := { stood := { row := fileCycleRow, standIns := [], harness := (true, "c7873d267048c88857e83700c351f88ecda7744fb179734141ecff6af4b52ebb"), looks := false }, kinds := [], alts := [], laidByText := true, laidKinds := [.data, .pinned], laidTests := true, laidLooks := .later }
def FileCycleCardSaid : Prop := Claim7.holds Tryz.pinned (.plain (OpenSpec.ofChange fileCycleSpec)) fileCycleCard

/-- THE SECOND FORM's CARD OF 'millwrightlaw.FileLines'. -/
def fileLinesUptoCard : Claim7 := { stood := { row := fileLinesUptoRow, standIns := [], harness := (true, "c7873d267048c88857e83700c351f88ecda7744fb179734141ecff6af4b52ebb"), looks := false }, kinds := [], alts := [], laidByText := true, laidKinds := [.data, .pinned], laidTests := true, laidLooks := .later }
def FileLinesUptoCardSaid : Prop := Claim7.holds Tryz.pinned (.plain (OpenSpec.upto fileLinesSpec)) fileLinesUptoCard

/-- THE SECOND FORM's CARD OF 'millwrightlaw.FileTells'. -/
def fileTellsUptoCard : Claim7 := { stood := { row := fileTellsUptoRow, standIns := [], harness := (true, "c7873d267048c88857e83700c351f88ecda7744fb179734141ecff6af4b52ebb"), looks := false }, kinds := [], alts := [], laidByText := true, laidKinds := [.data, .pinned], laidTests := true, laidLooks := .later }
def FileTellsUptoCardSaid : Prop := Claim7.holds Tryz.pinned (.plain (OpenSpec.upto fileTellsSpec)) fileTellsUptoCard

/-- THE SECOND FORM's CARD OF 'millwrightkeep.FileBack'. -/
def fileBackUptoCard : Claim7 := { stood := { row := fileBackUptoRow, standIns := [], harness := (true, "c7873d267048c88857e83700c351f88ecda7744fb179734141ecff6af4b52ebb"), looks := false }, kinds := [], alts := [], laidByText := true, laidKinds := [.data, .pinned], laidTests := true, laidLooks := .later }
def FileBackUptoCardSaid : Prop := Claim7.holds Tryz.pinned (.plain (OpenSpec.upto fileBackSpec)) fileBackUptoCard

/-- THE SECOND FORM's CARD OF 'millwrightkeep.FileOrder'. -/
def fileOrderUptoCard : Claim7 := { stood := { row := fileOrderUptoRow, standIns := [], harness := (true, "c7873d267048c88857e83700c351f88ecda7744fb179734141ecff6af4b52ebb"), looks := false }, kinds := [], alts := [], laidByText := true, laidKinds := [.data, .pinned], laidTests := true, laidLooks := .later }
def FileOrderUptoCardSaid : Prop := Claim7.holds Tryz.pinned (.plain (OpenSpec.upto fileOrderSpec)) fileOrderUptoCard

/-- THE SECOND FORM's CARD OF 'millwrightkeep.FileIncludes'. -/
def fileIncludesUptoCard : Claim7 := { stood := { row := fileIncludesUptoRow, standIns := [], harness := (true, "c7873d267048c88857e83700c351f88ecda7744fb179734141ecff6af4b52ebb"), looks := false }, kinds := [], alts := [], laidByText := true, laidKinds := [.data, .pinned], laidTests := true, laidLooks := .later }
def FileIncludesUptoCardSaid : Prop := Claim7.holds Tryz.pinned (.plain (OpenSpec.upto fileIncludesSpec)) fileIncludesUptoCard

/-- THE SECOND FORM's CARD OF 'millwrightkeep.FileCycle'. -/
def fileCycleUptoCard : Claim7 := { stood := { row := fileCycleUptoRow, standIns := [], harness := (true, "c7873d267048c88857e83700c351f88ecda7744fb179734141ecff6af4b52ebb"), looks := false }, kinds := [], alts := [], laidByText := true, laidKinds := [.data, .pinned], laidTests := true, laidLooks := .later }
def FileCycleUptoCardSaid : Prop := Claim7.holds Tryz.pinned (.plain (OpenSpec.upto fileCycleSpec)) fileCycleUptoCard
end Rows
end Go.Proofs.YtfgcbdjkimkgpaaGreatDoor
