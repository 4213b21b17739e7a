/-
  DERIVED. GIVEN WITH THE SEED: THE CARDS: each row of YtcgabgmhmeppeaaDoorRows.lean that lists a variable, with what it lists TIED to the program's text (the seventh form; the later family's looks); each row that meets fmt, with fmt's text TOLD by the authors' own Lean function (tested against real Go, not proved from fmt's source: count such statements apart). THE CARD IS WHAT COUNTS. Prove the row's statement (the work); the ties are given (YtcgabgmhmeppeaaDoorTie.lean); close each card by the builder's one call (the guide's Derived/Test/ToyasCard.lean, 'card_holds'). Laid BY PROGRAM, IN A SANDBOX (cutbox-door.mjs). By AI agents, Wed Nov 11 2026. No macro, syntax, notation, axiom, sorry.
-/
import Derived.Test.YtcgabgmhmeppeaaDoorRows
import GoSem.ClaimSeven
namespace Go.Proofs.YtcgabgmhmeppeaaDoor
namespace Rows

/-- THE TIED CARD OF 'millwrightlaw.ReachTells'. -/
def reachTellsCard : Claim7 := { stood := { row := reachTellsRow, standIns := [], harness := (true, "8304b0fa7d82202a8c45e89945eab6ff06d606ce2f67b5be0a41642237f05896"), looks := false }, kinds := [], alts := [], laidByText := true, laidKinds := [.data], laidTests := true, laidLooks := .later }
def ReachTellsCardSaid : Prop := Claim7.holds Tryd.pinned (.plain (OpenSpec.ofChange reachTellsSpec)) reachTellsCard

/-- THE TIED CARD OF 'millwrightkeep.ReachClosed'. -/
def reachClosedCard : Claim7 := { stood := { row := reachClosedRow, standIns := [], harness := (true, "8304b0fa7d82202a8c45e89945eab6ff06d606ce2f67b5be0a41642237f05896"), looks := false }, kinds := [], alts := [], laidByText := true, laidKinds := [.data], laidTests := true, laidLooks := .later }
def ReachClosedCardSaid : Prop := Claim7.holds Tryd.pinned (.plain (OpenSpec.ofChange reachClosedSpec)) reachClosedCard

/-- THE TIED CARD OF 'millwrightkeep.ReachLeast'. -/
def reachLeastCard : Claim7 := { stood := { row := reachLeastRow, standIns := [], harness := (true, "8304b0fa7d82202a8c45e89945eab6ff06d606ce2f67b5be0a41642237f05896"), looks := false }, kinds := [], alts := [], laidByText := true, laidKinds := [.data], laidTests := true, laidLooks := .later }
def ReachLeastCardSaid : Prop := Claim7.holds Tryd.pinned (.plain (OpenSpec.ofChange reachLeastSpec)) reachLeastCard

/-- THE TIED CARD OF 'millwrightkeep.ReachDepth'. -/
def reachDepthCard : Claim7 := { stood := { row := reachDepthRow, standIns := [], harness := (true, "8304b0fa7d82202a8c45e89945eab6ff06d606ce2f67b5be0a41642237f05896"), looks := false }, kinds := [], alts := [], laidByText := true, laidKinds := [.data], laidTests := true, laidLooks := .later }
def ReachDepthCardSaid : Prop := Claim7.holds Tryd.pinned (.plain (OpenSpec.ofChange reachDepthSpec)) reachDepthCard

/-- THE TIED CARD OF 'millwrightkeep.ReachBack'. -/
def reachBackCard : Claim7 := { stood := { row := reachBackRow, standIns := [], harness := (true, "8304b0fa7d82202a8c45e89945eab6ff06d606ce2f67b5be0a41642237f05896"), looks := false }, kinds := [], alts := [], laidByText := true, laidKinds := [.data], laidTests := true, laidLooks := .later }
def ReachBackCardSaid : Prop := Claim7.holds Tryd.pinned (.plain (OpenSpec.ofChange reachBackSpec)) reachBackCard

/-- THE TIED CARD OF 'millwrightkeep.ReachBetween'. -/
def reachBetweenCard : Claim7 := { stood := { row := reachBetweenRow, standIns := [], harness := (true, "8304b0fa7d82202a8c45e89945eab6ff06d606ce2f67b5be0a41642237f05896"), looks := false }, kinds := [], alts := [], laidByText := true, laidKinds := [.data], laidTests := true, laidLooks := .later }
def ReachBetweenCardSaid : Prop := Claim7.holds Tryd.pinned (.plain (OpenSpec.ofChange reachBetweenSpec)) reachBetweenCard

/-- THE SECOND FORM's CARD OF 'millwrightlaw.ReachTells'. -/
def reachTellsUptoCard : Claim7 := { stood := { row := reachTellsUptoRow, standIns := [], harness := (true, "8304b0fa7d82202a8c45e89945eab6ff06d606ce2f67b5be0a41642237f05896"), looks := false }, kinds := [], alts := [], laidByText := true, laidKinds := [.data], laidTests := true, laidLooks := .later }
def ReachTellsUptoCardSaid : Prop := Claim7.holds Tryd.pinned (.plain (OpenSpec.upto reachTellsSpec)) reachTellsUptoCard

/-- THE SECOND FORM's CARD OF 'millwrightkeep.ReachClosed'. -/
def reachClosedUptoCard : Claim7 := { stood := { row := reachClosedUptoRow, standIns := [], harness := (true, "8304b0fa7d82202a8c45e89945eab6ff06d606ce2f67b5be0a41642237f05896"), looks := false }, kinds := [], alts := [], laidByText := true, laidKinds := [.data], laidTests := true, laidLooks := .later }
def ReachClosedUptoCardSaid : Prop := Claim7.holds Tryd.pinned (.plain (OpenSpec.upto reachClosedSpec)) reachClosedUptoCard

/-- THE SECOND FORM's CARD OF 'millwrightkeep.ReachLeast'. -/
def reachLeastUptoCard : Claim7 := { stood := { row := reachLeastUptoRow, standIns := [], harness := (true, "8304b0fa7d82202a8c45e89945eab6ff06d606ce2f67b5be0a41642237f05896"), looks := false }, kinds := [], alts := [], laidByText := true, laidKinds := [.data], laidTests := true, laidLooks := .later }
def ReachLeastUptoCardSaid : Prop := Claim7.holds Tryd.pinned (.plain (OpenSpec.upto reachLeastSpec)) reachLeastUptoCard

/-- THE SECOND FORM's CARD OF 'millwrightkeep.ReachDepth'. -/
def reachDepthUptoCard : Claim7 := { stood := { row := reachDepthUptoRow, standIns := [], harness := (true, "8304b0fa7d82202a8c45e89945eab6ff06d606ce2f67b5be0a41642237f05896"), looks := false }, kinds := [], alts := [], laidByText := true, laidKinds := [.data], laidTests := true, laidLooks := .later }
def ReachDepthUptoCardSaid : Prop := Claim7.holds Tryd.pinned (.plain (OpenSpec.upto reachDepthSpec)) reachDepthUptoCard

/-- THE SECOND FORM's CARD OF 'millwrightkeep.ReachBack'. -/
def reachBackUptoCard : Claim7 := { stood := { row := reachBackUptoRow, standIns := [], harness := (true, "8304b0fa7d82202a8c45e89945eab6ff06d606ce2f67b5be0a41642237f05896"), looks := false }, kinds := [], alts := [], laidByText := true, laidKinds := [.data], laidTests := true, laidLooks := .later }
def ReachBackUptoCardSaid : Prop := Claim7.holds Tryd.pinned (.plain (OpenSpec.upto reachBackSpec)) reachBackUptoCard

/-- THE SECOND FORM's CARD OF 'millwrightkeep.ReachBetween'. -/
def reachBetweenUptoCard : Claim7 := { stood := { row := reachBetweenUptoRow, standIns := [], harness := (true, "8304b0fa7d82202a8c45e89945eab6ff06d606ce2f67b5be0a41642237f05896"), looks := false }, kinds := [], alts := [], laidByText := true, laidKinds := [.data], laidTests := true, laidLooks := .later }
def ReachBetweenUptoCardSaid : Prop := Claim7.holds Tryd.pinned (.plain (OpenSpec.upto reachBetweenSpec)) reachBetweenUptoCard
end Rows
end Go.Proofs.YtcgabgmhmeppeaaDoor
