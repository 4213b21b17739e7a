/-
  DERIVED. GIVEN WITH THE SEED: THE CARDS: each row of YtoinflfibofofaaDoorRows.lean that lists a variable, with what it lists TIED to the program's text (the seventh form; the later family's looks); each row that meets fmt, with fmt's text TOLD by the authors' own Lean function (tested against real Go, not proved from fmt's source: count such statements apart). THE CARD IS WHAT COUNTS. Prove the row's statement (the work); the ties are given (YtoinflfibofofaaDoorTie.lean); close each card by the builder's one call (the guide's Derived/Test/ToyasCard.lean, 'card_holds'). Laid BY PROGRAM, IN A SANDBOX (cutbox-door.mjs). By AI agents, Wed Nov 11 2026. No macro, syntax, notation, axiom, sorry.
-/
import Derived.Test.YtoinflfibofofaaDoorRows
import GoSem.ClaimSeven
namespace Go.Proofs.YtoinflfibofofaaDoor
namespace Rows

/-- THE TIED CARD OF 'millwrightkeep.MacroFlat'. -/
def macroFlatCard : Claim7 := { stood := { row := macroFlatRow, standIns := [], harness := (true, "4683ddfdf5b37a2d42fdc083e16c834969828eeb6992b58066580b5d58e2bfd3"), looks := false }, kinds := [], alts := [], laidByText := true, laidKinds := [.data, .pinned], laidTests := true, laidLooks := .later }
def MacroFlatCardSaid : Prop := Claim7.holds Tryd.pinned (.plain (OpenSpec.ofChange macroFlatSpec)) macroFlatCard

/-- THE SECOND FORM's CARD OF 'millwrightkeep.MacroFlat'. -/
def macroFlatUptoCard : Claim7 := { stood := { row := macroFlatUptoRow, standIns := [], harness := (true, "4683ddfdf5b37a2d42fdc083e16c834969828eeb6992b58066580b5d58e2bfd3"), looks := false }, kinds := [], alts := [], laidByText := true, laidKinds := [.data, .pinned], laidTests := true, laidLooks := .later }
def MacroFlatUptoCardSaid : Prop := Claim7.holds Tryd.pinned (.plain (OpenSpec.upto macroFlatSpec)) macroFlatUptoCard
end Rows
end Go.Proofs.YtoinflfibofofaaDoor
