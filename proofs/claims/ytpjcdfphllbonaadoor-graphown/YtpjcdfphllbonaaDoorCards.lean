/-
  DERIVED. GIVEN WITH THE SEED: THE CARDS: each row of YtpjcdfphllbonaaDoorRows.lean that lists a variable, with what it lists TIED to the program's text (the seventh form; the later family's looks); each row that meets fmt, with fmt's text TOLD by the authors' own Lean function (tested against real Go, not proved from fmt's source: count such statements apart). THE CARD IS WHAT COUNTS. Prove the row's statement (the work); the ties are given (YtpjcdfphllbonaaDoorTie.lean); close each card by the builder's one call (the guide's Derived/Test/ToyasCard.lean, 'card_holds'). Laid BY PROGRAM, IN A SANDBOX (cutbox-door.mjs). By AI agents, Wed Nov 11 2026. No macro, syntax, notation, axiom, sorry.
-/
import Derived.Test.YtpjcdfphllbonaaDoorRows
import GoSem.ClaimSeven
namespace Go.Proofs.YtpjcdfphllbonaaDoor
namespace Rows

/-- THE TIED CARD OF 'millwrightlaw.GraphTells'. -/
def graphTellsCard : Claim7 := { stood := { row := graphTellsRow, standIns := [], harness := (true, "f50b48d2d320eee5735948b0f6d3976593df9239557016f14eff7a7797c2e12c"), looks := false }, kinds := [], alts := [], laidByText := true, laidKinds := [.data], laidTests := true, laidLooks := .later }
def GraphTellsCardSaid : Prop := Claim7.holds Tryd.pinned (.plain (OpenSpec.ofChange graphTellsSpec)) graphTellsCard

/-- THE TIED CARD OF 'millwrightkeep.GraphTurn'. -/
def graphTurnCard : Claim7 := { stood := { row := graphTurnRow, standIns := [], harness := (true, "f50b48d2d320eee5735948b0f6d3976593df9239557016f14eff7a7797c2e12c"), looks := false }, kinds := [], alts := [], laidByText := true, laidKinds := [.data], laidTests := true, laidLooks := .later }
def GraphTurnCardSaid : Prop := Claim7.holds Tryd.pinned (.plain (OpenSpec.ofChange graphTurnSpec)) graphTurnCard

/-- THE TIED CARD OF 'millwrightkeep.GraphPart'. -/
def graphPartCard : Claim7 := { stood := { row := graphPartRow, standIns := [], harness := (true, "f50b48d2d320eee5735948b0f6d3976593df9239557016f14eff7a7797c2e12c"), looks := false }, kinds := [], alts := [], laidByText := true, laidKinds := [.data], laidTests := true, laidLooks := .later }
def GraphPartCardSaid : Prop := Claim7.holds Tryd.pinned (.plain (OpenSpec.ofChange graphPartSpec)) graphPartCard

/-- THE TIED CARD OF 'millwrightkeep.GraphOwn'. -/
def graphOwnCard : Claim7 := { stood := { row := graphOwnRow, standIns := [], harness := (true, "f50b48d2d320eee5735948b0f6d3976593df9239557016f14eff7a7797c2e12c"), looks := false }, kinds := [], alts := [], laidByText := true, laidKinds := [.data], laidTests := true, laidLooks := .later }
def GraphOwnCardSaid : Prop := Claim7.holds Tryd.pinned (.plain (OpenSpec.ofChange graphOwnSpec)) graphOwnCard

/-- THE SECOND FORM's CARD OF 'millwrightlaw.GraphTells'. -/
def graphTellsUptoCard : Claim7 := { stood := { row := graphTellsUptoRow, standIns := [], harness := (true, "f50b48d2d320eee5735948b0f6d3976593df9239557016f14eff7a7797c2e12c"), looks := false }, kinds := [], alts := [], laidByText := true, laidKinds := [.data], laidTests := true, laidLooks := .later }
def GraphTellsUptoCardSaid : Prop := Claim7.holds Tryd.pinned (.plain (OpenSpec.upto graphTellsSpec)) graphTellsUptoCard

/-- THE SECOND FORM's CARD OF 'millwrightkeep.GraphTurn'. -/
def graphTurnUptoCard : Claim7 := { stood := { row := graphTurnUptoRow, standIns := [], harness := (true, "f50b48d2d320eee5735948b0f6d3976593df9239557016f14eff7a7797c2e12c"), looks := false }, kinds := [], alts := [], laidByText := true, laidKinds := [.data], laidTests := true, laidLooks := .later }
def GraphTurnUptoCardSaid : Prop := Claim7.holds Tryd.pinned (.plain (OpenSpec.upto graphTurnSpec)) graphTurnUptoCard

/-- THE SECOND FORM's CARD OF 'millwrightkeep.GraphPart'. -/
def graphPartUptoCard : Claim7 := { stood := { row := graphPartUptoRow, standIns := [], harness := (true, "f50b48d2d320eee5735948b0f6d3976593df9239557016f14eff7a7797c2e12c"), looks := false }, kinds := [], alts := [], laidByText := true, laidKinds := [.data], laidTests := true, laidLooks := .later }
def GraphPartUptoCardSaid : Prop := Claim7.holds Tryd.pinned (.plain (OpenSpec.upto graphPartSpec)) graphPartUptoCard

/-- THE SECOND FORM's CARD OF 'millwrightkeep.GraphOwn'. -/
def graphOwnUptoCard : Claim7 := { stood := { row := graphOwnUptoRow, standIns := [], harness := (true, "f50b48d2d320eee5735948b0f6d3976593df9239557016f14eff7a7797c2e12c"), looks := false }, kinds := [], alts := [], laidByText := true, laidKinds := [.data], laidTests := true, laidLooks := .later }
def GraphOwnUptoCardSaid : Prop := Claim7.holds Tryd.pinned (.plain (OpenSpec.upto graphOwnSpec)) graphOwnUptoCard
end Rows
end Go.Proofs.YtpjcdfphllbonaaDoor
