/-
  No cell of these rows narrows 'for every input' (looked for: loops, veiled, ifaces, maps, wideKeys, modest, calm, conditions, laid).
  DERIVED. THE GIVEN ROWS OF THIS SEAT. 4 by the template 'for every input the law returns true; each argument reads behind the call as it read before'; 0 by the template 'total and deterministic' (their statements: YtoinflfibofofaaTotals.lean).
  GIVEN WITH THE SEED: the statements are not yours to turn. If you find one false, say at which input.
  Laid BY PROGRAM, IN A SANDBOX (cutbox-rows.mjs): the forced cells as the released guide's own fill.sh prints them over the translation ac4b209833c9865a… (all of the seat's roots in one cut). By AI agents, Wed Nov 11 2026. No macro, syntax, notation, axiom, sorry.
-/
import Derived.Test.YtoinflfibofofaaChecked
import GoSem.Claim
import GoSem.ClaimJoined
import GoSem.ClaimMapViews
import Derived.JoinedTies
import Derived.KernelRfl
namespace Go.Proofs.Ytoinflfibofofaa
/- THE CELL 'sum', in the pinned program and in every row, IS THE sha256 OF THE DUMP (.gsa) THAT YtoinflfibofofaaProg.lean LOADS. Nothing in Lean hashes anything: it is a label: what it is worth is what the hold of that sum in a sandbox is worth. -/
noncomputable def Try.pinned : Pinned := { name := "ytoinflfibofofaa", sum := "ac4b209833c9865a87b5778f3ce7d91fc5990337ff937e553d3d4671cd1a0d11", checked := Try.checked }
namespace Rows
def none {H : Type} : Left H := { results := [], args := [] }

/-- 'millwrightlaw.MacroTells': WHATEVER THE INPUT: true; the input reads as it did. -/
def macroTellsSpec : ChangeSpec := { name := "macroTells", fn := fun _ => fun
  | [d1, d2] => { results := [.lit (.bool true)], args := [d1, d2] }
  | _ => none }
def macroTellsRow : OpenClaim := { program := "ytoinflfibofofaa", sum := "ac4b209833c9865a87b5778f3ce7d91fc5990337ff937e553d3d4671cd1a0d11", func := "millwright/millwrightlaw.MacroTells", spec := "macroTells", inPlace := ["internal/bytealg.IndexByteString", "internal/bytealg.IndexString", "internal/abi.NoEscape"], unfollowed := true, recurses := true, named := ["internal/bytealg.MaxLen"], apart := false }
def MacroTellsSaid : Prop := macroTellsRow.holds Try.pinned (OpenSpec.ofChange macroTellsSpec)

/-- ITS FALSE NEIGHBOUR: 'it returns false'. Refute it at one input. -/
def macroTellsWrong : ChangeSpec := { name := "macroTells", fn := fun _ => fun
  | [d1, d2] => { results := [.lit (.bool false)], args := [d1, d2] }
  | _ => none }
def MacroTellsWrongFalsely : Prop := macroTellsRow.holds Try.pinned (OpenSpec.ofChange macroTellsWrong)

/-- 'millwrightkeep.MacroOrder': WHATEVER THE INPUT: true; the input reads as it did. -/
def macroOrderSpec : ChangeSpec := { name := "macroOrder", fn := fun _ => fun
  | [d1, d2] => { results := [.lit (.bool true)], args := [d1, d2] }
  | _ => none }
def macroOrderRow : OpenClaim := { program := "ytoinflfibofofaa", sum := "ac4b209833c9865a87b5778f3ce7d91fc5990337ff937e553d3d4671cd1a0d11", func := "millwright/millwrightkeep.MacroOrder", spec := "macroOrder", inPlace := ["internal/bytealg.IndexByteString", "internal/bytealg.IndexString", "internal/abi.NoEscape"], unfollowed := true, recurses := true, named := ["internal/bytealg.MaxLen"], apart := false }
def MacroOrderSaid : Prop := macroOrderRow.holds Try.pinned (OpenSpec.ofChange macroOrderSpec)

/-- ITS FALSE NEIGHBOUR: 'it returns false'. Refute it at one input. -/
def macroOrderWrong : ChangeSpec := { name := "macroOrder", fn := fun _ => fun
  | [d1, d2] => { results := [.lit (.bool false)], args := [d1, d2] }
  | _ => none }
def MacroOrderWrongFalsely : Prop := macroOrderRow.holds Try.pinned (OpenSpec.ofChange macroOrderWrong)

/-- 'millwrightkeep.MacroJoin': WHATEVER THE INPUT: true; the input reads as it did. -/
def macroJoinSpec : ChangeSpec := { name := "macroJoin", fn := fun _ => fun
  | [d1, d2, d3] => { results := [.lit (.bool true)], args := [d1, d2, d3] }
  | _ => none }
def macroJoinRow : OpenClaim := { program := "ytoinflfibofofaa", sum := "ac4b209833c9865a87b5778f3ce7d91fc5990337ff937e553d3d4671cd1a0d11", func := "millwright/millwrightkeep.MacroJoin", spec := "macroJoin", inPlace := ["internal/bytealg.IndexByteString", "internal/bytealg.IndexString", "internal/abi.NoEscape"], unfollowed := true, recurses := true, named := ["internal/bytealg.MaxLen"], apart := false }
def MacroJoinSaid : Prop := macroJoinRow.holds Try.pinned (OpenSpec.ofChange macroJoinSpec)

/-- ITS FALSE NEIGHBOUR: 'it returns false'. Refute it at one input. -/
def macroJoinWrong : ChangeSpec := { name := "macroJoin", fn := fun _ => fun
  | [d1, d2, d3] => { results := [.lit (.bool false)], args := [d1, d2, d3] }
  | _ => none }
def MacroJoinWrongFalsely : Prop := macroJoinRow.holds Try.pinned (OpenSpec.ofChange macroJoinWrong)

/-- 'millwrightkeep.MacroUses': WHATEVER THE INPUT: true; the input reads as it did. -/
def macroUsesSpec : ChangeSpec := { name := "macroUses", fn := fun _ => fun
  | [d1, d2, d3] => { results := [.lit (.bool true)], args := [d1, d2, d3] }
  | _ => none }
def macroUsesRow : OpenClaim := { program := "ytoinflfibofofaa", sum := "ac4b209833c9865a87b5778f3ce7d91fc5990337ff937e553d3d4671cd1a0d11", func := "millwright/millwrightkeep.MacroUses", spec := "macroUses", inPlace := ["internal/bytealg.IndexByteString", "internal/bytealg.IndexString", "internal/abi.NoEscape"], unfollowed := true, recurses := true, named := ["internal/bytealg.MaxLen"], apart := false }
def MacroUsesSaid : Prop := macroUsesRow.holds Try.pinned (OpenSpec.ofChange macroUsesSpec)

/-- ITS FALSE NEIGHBOUR: 'it returns false'. Refute it at one input. -/
def macroUsesWrong : ChangeSpec := { name := "macroUses", fn := fun _ => fun
  | [d1, d2, d3] => { results := [.lit (.bool false)], args := [d1, d2, d3] }
  | _ => none }
def MacroUsesWrongFalsely : Prop := macroUsesRow.holds Try.pinned (OpenSpec.ofChange macroUsesWrong)

/- THE SECOND FORM. 'bulk': how many values and letters a reading holds, each counted each time it is reached (what is shared counts as often as it is met; a slice's spare places count too). A statement '..UptoSaid' is the law's where the arguments, and the package variables that the reading takes, are together of bulk at most 1048576: NARROWER than '..Said'. Prove '..Said' where nothing that the law and all that it calls make is longer than what came in: it says more and counts as full. Else prove '..UptoSaid'. A law counts once. -/
mutual
def uptoBulk {H : Type} : DataW H → Nat
  | .lit (.string bytes) => bytes.length + 1
  | .lit _ => 1
  | .nil => 1
  | .ptr d => uptoBulk d + 1
  | .slice elems spare => uptoBulkAll elems + uptoBulkAll spare + 1
  | .agg parts => uptoBulkAll parts + 1
  | .iface _ d => uptoBulk d + 1
  | .map entries => uptoBulkEntries entries + 1
  | .held _ => 1
def uptoBulkAll {H : Type} : List (DataW H) → Nat
  | [] => 0
  | d :: r => uptoBulk d + uptoBulkAll r
def uptoBulkEntries {H : Type} : List (Lit × DataW H) → Nat
  | [] => 0
  | x :: r => uptoBulkEntry x + uptoBulkEntries r
def uptoBulkEntry {H : Type} : Lit × DataW H → Nat
  | (.string bytes, d) => bytes.length + uptoBulk d + 1
  | (_, d) => uptoBulk d + 1
 end
def uptoSmall : (H : Type) → List (DataW H) → Bool := fun _ ds => decide (uptoBulkAll ds ≤ 1048576)
def OpenSpec.upto (s : _root_.Go.ChangeSpec) : _root_.Go.OpenSpec := { _root_.Go.OpenSpec.ofChange s with cond := some uptoSmall }

/-- 'millwrightlaw.MacroTells', WHERE WHAT IT READS IS OF BULK AT MOST 1048576: true; the input reads as it did. -/
def macroTellsUptoRow : OpenClaim := { program := "ytoinflfibofofaa", sum := "ac4b209833c9865a87b5778f3ce7d91fc5990337ff937e553d3d4671cd1a0d11", func := "millwright/millwrightlaw.MacroTells", spec := "macroTells", inPlace := ["internal/bytealg.IndexByteString", "internal/bytealg.IndexString", "internal/abi.NoEscape"], unfollowed := true, recurses := true, named := ["internal/bytealg.MaxLen"], apart := false, narrowed := true }
def MacroTellsUptoSaid : Prop := macroTellsUptoRow.holds Try.pinned (OpenSpec.upto macroTellsSpec)

/-- 'millwrightkeep.MacroOrder', WHERE WHAT IT READS IS OF BULK AT MOST 1048576: true; the input reads as it did. -/
def macroOrderUptoRow : OpenClaim := { program := "ytoinflfibofofaa", sum := "ac4b209833c9865a87b5778f3ce7d91fc5990337ff937e553d3d4671cd1a0d11", func := "millwright/millwrightkeep.MacroOrder", spec := "macroOrder", inPlace := ["internal/bytealg.IndexByteString", "internal/bytealg.IndexString", "internal/abi.NoEscape"], unfollowed := true, recurses := true, named := ["internal/bytealg.MaxLen"], apart := false, narrowed := true }
def MacroOrderUptoSaid : Prop := macroOrderUptoRow.holds Try.pinned (OpenSpec.upto macroOrderSpec)

/-- 'millwrightkeep.MacroJoin', WHERE WHAT IT READS IS OF BULK AT MOST 1048576: true; the input reads as it did. -/
def macroJoinUptoRow : OpenClaim := { program := "ytoinflfibofofaa", sum := "ac4b209833c9865a87b5778f3ce7d91fc5990337ff937e553d3d4671cd1a0d11", func := "millwright/millwrightkeep.MacroJoin", spec := "macroJoin", inPlace := ["internal/bytealg.IndexByteString", "internal/bytealg.IndexString", "internal/abi.NoEscape"], unfollowed := true, recurses := true, named := ["internal/bytealg.MaxLen"], apart := false, narrowed := true }
def MacroJoinUptoSaid : Prop := macroJoinUptoRow.holds Try.pinned (OpenSpec.upto macroJoinSpec)

/-- 'millwrightkeep.MacroUses', WHERE WHAT IT READS IS OF BULK AT MOST 1048576: true; the input reads as it did. -/
def macroUsesUptoRow : OpenClaim := { program := "ytoinflfibofofaa", sum := "ac4b209833c9865a87b5778f3ce7d91fc5990337ff937e553d3d4671cd1a0d11", func := "millwright/millwrightkeep.MacroUses", spec := "macroUses", inPlace := ["internal/bytealg.IndexByteString", "internal/bytealg.IndexString", "internal/abi.NoEscape"], unfollowed := true, recurses := true, named := ["internal/bytealg.MaxLen"], apart := false, narrowed := true }
def MacroUsesUptoSaid : Prop := macroUsesUptoRow.holds Try.pinned (OpenSpec.upto macroUsesSpec)

end Rows
end Go.Proofs.Ytoinflfibofofaa
