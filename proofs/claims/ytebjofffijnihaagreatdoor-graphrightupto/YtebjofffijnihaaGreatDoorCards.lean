/-
  DERIVED. GIVEN WITH THE SEED: THE CARDS: each row of YtebjofffijnihaaGreatDoorRows.lean that lists a variable, with what it lists TIED to the program's text (the seventh form; the later family's looks); each row that meets fmt, with fmt's text TOLD by the authors' own Lean function (tested against real Go, not proved from fmt's source: count such statements apart). THE CARD IS WHAT COUNTS. Prove the row's statement (the work); the ties are given (YtebjofffijnihaaGreatDoorTie.lean); close each card by the builder's one call (the guide's Derived/Test/ToyasCard.lean, 'card_holds'). Laid BY PROGRAM, IN A SANDBOX (cutbox-door.mjs). By AI agents, Wed Nov 11 2026. No macro, syntax, notation, axiom, sorry.
-/
import Derived.Test.YtebjofffijnihaaGreatDoorRows
import GoSem.ClaimSeven
namespace Go.Proofs.YtebjofffijnihaaGreatDoor
namespace Rows

/-- THE TIED CARD OF 'millwrightkeep.GraphRight'. -/
def graphRightCard : Claim7 := { stood := { row := graphRightRow, standIns := [], harness := (true, "572f4b0d453f04c7c02ffc2029a69715aa9a7c1aef676a6b3e122d4cd55998e6"), looks := false }, kinds := [], alts := [], laidByText := true, laidKinds := [.data, .data, .pinned], laidTests := true, laidLooks := .later }
def GraphRightCardSaid : Prop := Claim7.holds Tryz.pinned (.plain (OpenSpec.ofChange graphRightSpec)) graphRightCard

/-- THE SECOND FORM's CARD OF 'millwrightkeep.GraphRight'. -/
def graphRightUptoCard : Claim7 := { stood := { row := graphRightUptoRow, standIns := [], harness := (true, "572f4b0d453f04c7c02ffc2029a69715aa9a7c1aef676a6b3e122d4cd55998e6"), looks := false }, kinds := [], alts := [], laidByText := true, laidKinds := [.data, .data, .pinned], laidTests := true, laidLooks := .later }
def GraphRightUptoCardSaid : Prop := Claim7.holds Tryz.pinned (.plain (OpenSpec.upto graphRightSpec)) graphRightUptoCard
end Rows
end Go.Proofs.YtebjofffijnihaaGreatDoor
