/-
  DERIVED. GIVEN WITH THE SEED: THE CARDS: each row of YtbippnldofalbaaDoorRows.lean that lists a variable, with what it lists TIED to the program's text (the seventh form; the later family's looks); each row that meets fmt, with fmt's text TOLD by the authors' own Lean function (tested against real Go, not proved from fmt's source: count such statements apart). THE CARD IS WHAT COUNTS. Prove the row's statement (the work); the ties are given (YtbippnldofalbaaDoorTie.lean); close each card by the builder's one call (the guide's Derived/Test/ToyasCard.lean, 'card_holds'). Laid BY PROGRAM, IN A SANDBOX (cutbox-door.mjs). By AI agents, Wed Nov 11 2026. No macro, syntax, notation, axiom, sorry.
-/
import Derived.Test.YtbippnldofalbaaDoorRows
import GoSem.ClaimSeven
namespace Go.Proofs.YtbippnldofalbaaDoor
namespace Rows

/-- THE TIED CARD OF 'millwrightlaw.KnotTells'. -/
def knotTellsCard : Claim7 := { stood := { row := knotTellsRow, standIns := [], harness := (true, "1c1524d8d712a4a914b377ed0305479255c11a629ed7c558eb1e5b77aa475078"), looks := false }, kinds := [], alts := [], laidByText := true, laidKinds := [.data], laidTests := true, laidLooks := .later }
def KnotTellsCardSaid : Prop := Claim7.holds Tryd.pinned (.plain (OpenSpec.ofChange knotTellsSpec)) knotTellsCard

/-- THE TIED CARD OF 'millwrightkeep.KnotParts'. -/
def knotPartsCard : Claim7 := { stood := { row := knotPartsRow, standIns := [], harness := (true, "1c1524d8d712a4a914b377ed0305479255c11a629ed7c558eb1e5b77aa475078"), looks := false }, kinds := [], alts := [], laidByText := true, laidKinds := [.data], laidTests := true, laidLooks := .later }
def KnotPartsCardSaid : Prop := Claim7.holds Tryd.pinned (.plain (OpenSpec.ofChange knotPartsSpec)) knotPartsCard

/-- THE TIED CARD OF 'millwrightkeep.KnotFold'. -/
def knotFoldCard : Claim7 := { stood := { row := knotFoldRow, standIns := [], harness := (true, "1c1524d8d712a4a914b377ed0305479255c11a629ed7c558eb1e5b77aa475078"), looks := false }, kinds := [], alts := [], laidByText := true, laidKinds := [.data], laidTests := true, laidLooks := .later }
def KnotFoldCardSaid : Prop := Claim7.holds Tryd.pinned (.plain (OpenSpec.ofChange knotFoldSpec)) knotFoldCard

/-- THE TIED CARD OF 'millwrightkeep.KnotOrder'. -/
def knotOrderCard : Claim7 := { stood := { row := knotOrderRow, standIns := [], harness := (true, "1c1524d8d712a4a914b377ed0305479255c11a629ed7c558eb1e5b77aa475078"), looks := false }, kinds := [], alts := [], laidByText := true, laidKinds := [.data], laidTests := true, laidLooks := .later }
def KnotOrderCardSaid : Prop := Claim7.holds Tryd.pinned (.plain (OpenSpec.ofChange knotOrderSpec)) knotOrderCard

/-- THE TIED CARD OF 'millwrightkeep.KnotRing'. -/
def knotRingCard : Claim7 := { stood := { row := knotRingRow, standIns := [], harness := (true, "1c1524d8d712a4a914b377ed0305479255c11a629ed7c558eb1e5b77aa475078"), looks := false }, kinds := [], alts := [], laidByText := true, laidKinds := [.data], laidTests := true, laidLooks := .later }
def KnotRingCardSaid : Prop := Claim7.holds Tryd.pinned (.plain (OpenSpec.ofChange knotRingSpec)) knotRingCard

/-- THE SECOND FORM's CARD OF 'millwrightlaw.KnotTells'. -/
def knotTellsUptoCard : Claim7 := { stood := { row := knotTellsUptoRow, standIns := [], harness := (true, "1c1524d8d712a4a914b377ed0305479255c11a629ed7c558eb1e5b77aa475078"), looks := false }, kinds := [], alts := [], laidByText := true, laidKinds := [.data], laidTests := true, laidLooks := .later }
def KnotTellsUptoCardSaid : Prop := Claim7.holds Tryd.pinned (.plain (OpenSpec.upto knotTellsSpec)) knotTellsUptoCard

/-- THE SECOND FORM's CARD OF 'millwrightkeep.KnotParts'. -/
def knotPartsUptoCard : Claim7 := { stood := { row := knotPartsUptoRow, standIns := [], harness := (true, "1c1524d8d712a4a914b377ed0305479255c11a629ed7c558eb1e5b77aa475078"), looks := false }, kinds := [], alts := [], laidByText := true, laidKinds := [.data], laidTests := true, laidLooks := .later }
def KnotPartsUptoCardSaid : Prop := Claim7.holds Tryd.pinned (.plain (OpenSpec.upto knotPartsSpec)) knotPartsUptoCard

/-- THE SECOND FORM's CARD OF 'millwrightkeep.KnotFold'. -/
def knotFoldUptoCard : Claim7 := { stood := { row := knotFoldUptoRow, standIns := [], harness := (true, "1c1524d8d712a4a914b377ed0305479255c11a629ed7c558eb1e5b77aa475078"), looks := false }, kinds := [], alts := [], laidByText := true, laidKinds := [.data], laidTests := true, laidLooks := .later }
def KnotFoldUptoCardSaid : Prop := Claim7.holds Tryd.pinned (.plain (OpenSpec.upto knotFoldSpec)) knotFoldUptoCard

/-- THE SECOND FORM's CARD OF 'millwrightkeep.KnotOrder'. -/
def knotOrderUptoCard : Claim7 := { stood := { row := knotOrderUptoRow, standIns := [], harness := (true, "1c1524d8d712a4a914b377ed0305479255c11a629ed7c558eb1e5b77aa475078"), looks := false }, kinds := [], alts := [], laidByText := true, laidKinds := [.data], laidTests := true, laidLooks := .later }
def KnotOrderUptoCardSaid : Prop := Claim7.holds Tryd.pinned (.plain (OpenSpec.upto knotOrderSpec)) knotOrderUptoCard

/-- THE SECOND FORM's CARD OF 'millwrightkeep.KnotRing'. -/
def knotRingUptoCard : Claim7 := { stood := { row := knotRingUptoRow, standIns := [], harness := (true, "1c1524d8d712a4a914b377ed0305479255c11a629ed7c558eb1e5b77aa475078"), looks := false }, kinds := [], alts := [], laidByText := true, laidKinds := [.data], laidTests := true, laidLooks := .later }
def KnotRingUptoCardSaid : Prop := Claim7.holds Tryd.pinned (.plain (OpenSpec.upto knotRingSpec)) knotRingUptoCard
end Rows
end Go.Proofs.YtbippnldofalbaaDoor
