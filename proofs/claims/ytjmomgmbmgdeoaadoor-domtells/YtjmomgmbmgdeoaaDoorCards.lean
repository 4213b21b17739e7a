/-
  DERIVED. GIVEN WITH THE SEED: THE CARDS: each row of YtjmomgmbmgdeoaaDoorRows.lean that lists a variable, with what it lists TIED to the program's text (the seventh form; the later family's looks); each row that meets fmt, with fmt's text TOLD by the authors' own Lean function (tested against real Go, not proved from fmt's source: count such statements apart). THE CARD IS WHAT COUNTS. Prove the row's statement (the work); the ties are given (YtjmomgmbmgdeoaaDoorTie.lean); close each card by the builder's one call (the guide's Derived/Test/ToyasCard.lean, 'card_holds'). Laid BY PROGRAM, IN A SANDBOX (cutbox-door.mjs). By AI agents, Wed Nov 11 2026. No macro, syntax, notation, axiom, sorry.
-/
import Derived.Test.YtjmomgmbmgdeoaaDoorRows
import GoSem.ClaimSeven
namespace Go.Proofs.YtjmomgmbmgdeoaaDoor
namespace Rows

/-- THE TIED CARD OF 'millwrightlaw.DomTells'. -/
def domTellsCard : Claim7 := { stood := { row := domTellsRow, standIns := [], harness := (true, "d0d79f735b52ad0d9caa3aa0c4bd3ef3be34cd34455dc6a32db619a69b115bf1"), looks := false }, kinds := [], alts := [], laidByText := true, laidKinds := [.data], laidTests := true, laidLooks := .later }
def DomTellsCardSaid : Prop := Claim7.holds Tryd.pinned (.plain (OpenSpec.ofChange domTellsSpec)) domTellsCard

/-- THE TIED CARD OF 'millwrightkeep.DomRules'. -/
def domRulesCard : Claim7 := { stood := { row := domRulesRow, standIns := [], harness := (true, "d0d79f735b52ad0d9caa3aa0c4bd3ef3be34cd34455dc6a32db619a69b115bf1"), looks := false }, kinds := [], alts := [], laidByText := true, laidKinds := [.data], laidTests := true, laidLooks := .later }
def DomRulesCardSaid : Prop := Claim7.holds Tryd.pinned (.plain (OpenSpec.ofChange domRulesSpec)) domRulesCard

/-- THE TIED CARD OF 'millwrightkeep.DomTree'. -/
def domTreeCard : Claim7 := { stood := { row := domTreeRow, standIns := [], harness := (true, "d0d79f735b52ad0d9caa3aa0c4bd3ef3be34cd34455dc6a32db619a69b115bf1"), looks := false }, kinds := [], alts := [], laidByText := true, laidKinds := [.data], laidTests := true, laidLooks := .later }
def DomTreeCardSaid : Prop := Claim7.holds Tryd.pinned (.plain (OpenSpec.ofChange domTreeSpec)) domTreeCard

/-- THE TIED CARD OF 'millwrightkeep.DomOrder'. -/
def domOrderCard : Claim7 := { stood := { row := domOrderRow, standIns := [], harness := (true, "d0d79f735b52ad0d9caa3aa0c4bd3ef3be34cd34455dc6a32db619a69b115bf1"), looks := false }, kinds := [], alts := [], laidByText := true, laidKinds := [.data], laidTests := true, laidLooks := .later }
def DomOrderCardSaid : Prop := Claim7.holds Tryd.pinned (.plain (OpenSpec.ofChange domOrderSpec)) domOrderCard

/-- THE SECOND FORM's CARD OF 'millwrightlaw.DomTells'. -/
def domTellsUptoCard : Claim7 := { stood := { row := domTellsUptoRow, standIns := [], harness := (true, "d0d79f735b52ad0d9caa3aa0c4bd3ef3be34cd34455dc6a32db619a69b115bf1"), looks := false }, kinds := [], alts := [], laidByText := true, laidKinds := [.data], laidTests := true, laidLooks := .later }
def DomTellsUptoCardSaid : Prop := Claim7.holds Tryd.pinned (.plain (OpenSpec.upto domTellsSpec)) domTellsUptoCard

/-- THE SECOND FORM's CARD OF 'millwrightkeep.DomRules'. -/
def domRulesUptoCard : Claim7 := { stood := { row := domRulesUptoRow, standIns := [], harness := (true, "d0d79f735b52ad0d9caa3aa0c4bd3ef3be34cd34455dc6a32db619a69b115bf1"), looks := false }, kinds := [], alts := [], laidByText := true, laidKinds := [.data], laidTests := true, laidLooks := .later }
def DomRulesUptoCardSaid : Prop := Claim7.holds Tryd.pinned (.plain (OpenSpec.upto domRulesSpec)) domRulesUptoCard

/-- THE SECOND FORM's CARD OF 'millwrightkeep.DomTree'. -/
def domTreeUptoCard : Claim7 := { stood := { row := domTreeUptoRow, standIns := [], harness := (true, "d0d79f735b52ad0d9caa3aa0c4bd3ef3be34cd34455dc6a32db619a69b115bf1"), looks := false }, kinds := [], alts := [], laidByText := true, laidKinds := [.data], laidTests := true, laidLooks := .later }
def DomTreeUptoCardSaid : Prop := Claim7.holds Tryd.pinned (.plain (OpenSpec.upto domTreeSpec)) domTreeUptoCard

/-- THE SECOND FORM's CARD OF 'millwrightkeep.DomOrder'. -/
def domOrderUptoCard : Claim7 := { stood := { row := domOrderUptoRow, standIns := [], harness := (true, "d0d79f735b52ad0d9caa3aa0c4bd3ef3be34cd34455dc6a32db619a69b115bf1"), looks := false }, kinds := [], alts := [], laidByText := true, laidKinds := [.data], laidTests := true, laidLooks := .later }
def DomOrderUptoCardSaid : Prop := Claim7.holds Tryd.pinned (.plain (OpenSpec.upto domOrderSpec)) domOrderUptoCard
end Rows
end Go.Proofs.YtjmomgmbmgdeoaaDoor
