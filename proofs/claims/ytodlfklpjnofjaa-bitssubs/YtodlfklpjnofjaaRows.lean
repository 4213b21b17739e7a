/-
  No cell of these rows narrows 'for every input' (looked for: loops, veiled, ifaces, maps, wideKeys, modest, calm, conditions, laid).
  DERIVED. THE GIVEN ROWS OF THIS SEAT. 4 by the template 'for every input the law returns true; each argument reads behind the call as it read before'; 0 by the template 'total and deterministic' (their statements: YtodlfklpjnofjaaTotals.lean).
  GIVEN WITH THE SEED: the statements are not yours to turn. If you find one false, say at which input.
  Laid BY PROGRAM, IN A SANDBOX (cutbox-rows.mjs): the forced cells as the released guide's own fill.sh prints them over the translation e0001791898523d0… (all of the seat's roots in one cut). By AI agents, Wed Nov 11 2026. No macro, syntax, notation, axiom, sorry.
-/
import Derived.Test.YtodlfklpjnofjaaChecked
import GoSem.Claim
import GoSem.ClaimJoined
import GoSem.ClaimMapViews
import Derived.JoinedTies
import Derived.KernelRfl
namespace Go.Proofs.Ytodlfklpjnofjaa
/- THE CELL 'sum', in the pinned program and in every row, IS THE sha256 OF THE DUMP (.gsa) THAT YtodlfklpjnofjaaProg.lean LOADS. Nothing in Lean hashes anything: it is a label: what it is worth is what the hold of that sum in a sandbox is worth. -/
noncomputable def Try.pinned : Pinned := { name := "ytodlfklpjnofjaa", sum := "e0001791898523d01442643cef31e5e5d2540dd90271a40279b3afec24d47f91", checked := Try.checked }
namespace Rows
def none {H : Type} : Left H := { results := [], args := [] }

/-- 'millwrightlaw.Names': WHATEVER THE INPUT: true; the input reads as it did. -/
def namesSpec : ChangeSpec := { name := "names", fn := fun _ => fun
  | [] => { results := [.lit (.bool true)], args := [] }
  | _ => none }
def namesRow : OpenClaim := { program := "ytodlfklpjnofjaa", sum := "e0001791898523d01442643cef31e5e5d2540dd90271a40279b3afec24d47f91", func := "millwright/millwrightlaw.Names", spec := "names", apart := false }
def NamesSaid : Prop := namesRow.holds Try.pinned (OpenSpec.ofChange namesSpec)

/-- ITS FALSE NEIGHBOUR: 'it returns false'. Refute it at one input. -/
def namesWrong : ChangeSpec := { name := "names", fn := fun _ => fun
  | [] => { results := [.lit (.bool false)], args := [] }
  | _ => none }
def NamesWrongFalsely : Prop := namesRow.holds Try.pinned (OpenSpec.ofChange namesWrong)

/-- 'millwrightkeep.BitsSubs': WHATEVER THE INPUT: true; the input reads as it did. -/
def bitsSubsSpec : ChangeSpec := { name := "bitsSubs", fn := fun _ => fun
  | [d] => { results := [.lit (.bool true)], args := [d] }
  | _ => none }
def bitsSubsRow : OpenClaim := { program := "ytodlfklpjnofjaa", sum := "e0001791898523d01442643cef31e5e5d2540dd90271a40279b3afec24d47f91", func := "millwright/millwrightkeep.BitsSubs", spec := "bitsSubs", apart := false }
def BitsSubsSaid : Prop := bitsSubsRow.holds Try.pinned (OpenSpec.ofChange bitsSubsSpec)

/-- ITS FALSE NEIGHBOUR: 'it returns false'. Refute it at one input. -/
def bitsSubsWrong : ChangeSpec := { name := "bitsSubs", fn := fun _ => fun
  | [d] => { results := [.lit (.bool false)], args := [d] }
  | _ => none }
def BitsSubsWrongFalsely : Prop := bitsSubsRow.holds Try.pinned (OpenSpec.ofChange bitsSubsWrong)

/-- 'millwrightkeep.BitsNext': WHATEVER THE INPUT: true; the input reads as it did. -/
def bitsNextSpec : ChangeSpec := { name := "bitsNext", fn := fun _ => fun
  | [d1, d2, d3] => { results := [.lit (.bool true)], args := [d1, d2, d3] }
  | _ => none }
def bitsNextRow : OpenClaim := { program := "ytodlfklpjnofjaa", sum := "e0001791898523d01442643cef31e5e5d2540dd90271a40279b3afec24d47f91", func := "millwright/millwrightkeep.BitsNext", spec := "bitsNext", apart := false }
def BitsNextSaid : Prop := bitsNextRow.holds Try.pinned (OpenSpec.ofChange bitsNextSpec)

/-- ITS FALSE NEIGHBOUR: 'it returns false'. Refute it at one input. -/
def bitsNextWrong : ChangeSpec := { name := "bitsNext", fn := fun _ => fun
  | [d1, d2, d3] => { results := [.lit (.bool false)], args := [d1, d2, d3] }
  | _ => none }
def BitsNextWrongFalsely : Prop := bitsNextRow.holds Try.pinned (OpenSpec.ofChange bitsNextWrong)

/-- 'millwrightkeep.BitsEven': WHATEVER THE INPUT: true; the input reads as it did. -/
def bitsEvenSpec : ChangeSpec := { name := "bitsEven", fn := fun _ => fun
  | [d1, d2, d3] => { results := [.lit (.bool true)], args := [d1, d2, d3] }
  | _ => none }
def bitsEvenRow : OpenClaim := { program := "ytodlfklpjnofjaa", sum := "e0001791898523d01442643cef31e5e5d2540dd90271a40279b3afec24d47f91", func := "millwright/millwrightkeep.BitsEven", spec := "bitsEven", apart := false }
def BitsEvenSaid : Prop := bitsEvenRow.holds Try.pinned (OpenSpec.ofChange bitsEvenSpec)

/-- ITS FALSE NEIGHBOUR: 'it returns false'. Refute it at one input. -/
def bitsEvenWrong : ChangeSpec := { name := "bitsEven", fn := fun _ => fun
  | [d1, d2, d3] => { results := [.lit (.bool false)], args := [d1, d2, d3] }
  | _ => none }
def BitsEvenWrongFalsely : Prop := bitsEvenRow.holds Try.pinned (OpenSpec.ofChange bitsEvenWrong)

/- THE SECOND FORM. 'bulk': how many values and letters a reading holds, each counted each time it is reached (what is shared counts as often as it is met; a slice's spare places count too). A statement '..UptoSaid' is the law's where the arguments, and the package variables that the reading takes, are together of bulk at most 1048576: NARROWER than '..Said'. Prove '..Said' where nothing that the law and all that it calls make is longer than what came in: it says more and counts as full. Else prove '..UptoSaid'. A law counts once. -/
mutual
def uptoBulk {H : Type} : DataW H → Nat
  | .lit (.string bytes) => bytes.length + 1
  | .lit _ => 1
  | .nil => 1
  | .ptr d => uptoBulk d + 1
  | .slice elems spare => uptoBulkAll elems + uptoBulkAll spare + 1
  | .agg parts => uptoBulkAll parts + 1
  | .iface _ d => uptoBulk d + 1
  | .map entries => uptoBulkEntries entries + 1
  | .held _ => 1
def uptoBulkAll {H : Type} : List (DataW H) → Nat
  | [] => 0
  | d :: r => uptoBulk d + uptoBulkAll r
def uptoBulkEntries {H : Type} : List (Lit × DataW H) → Nat
  | [] => 0
  | x :: r => uptoBulkEntry x + uptoBulkEntries r
def uptoBulkEntry {H : Type} : Lit × DataW H → Nat
  | (.string bytes, d) => bytes.length + uptoBulk d + 1
  | (_, d) => uptoBulk d + 1
 end
def uptoSmall : (H : Type) → List (DataW H) → Bool := fun _ ds => decide (uptoBulkAll ds ≤ 1048576)
def OpenSpec.upto (s : _root_.Go.ChangeSpec) : _root_.Go.OpenSpec := { _root_.Go.OpenSpec.ofChange s with cond := some uptoSmall }

/-- 'millwrightlaw.Names', WHERE WHAT IT READS IS OF BULK AT MOST 1048576: true; the input reads as it did. -/
def namesUptoRow : OpenClaim := { program := "ytodlfklpjnofjaa", sum := "e0001791898523d01442643cef31e5e5d2540dd90271a40279b3afec24d47f91", func := "millwright/millwrightlaw.Names", spec := "names", apart := false, narrowed := true }
def NamesUptoSaid : Prop := namesUptoRow.holds Try.pinned (OpenSpec.upto namesSpec)

/-- 'millwrightkeep.BitsSubs', WHERE WHAT IT READS IS OF BULK AT MOST 1048576: true; the input reads as it did. -/
def bitsSubsUptoRow : OpenClaim := { program := "ytodlfklpjnofjaa", sum := "e0001791898523d01442643cef31e5e5d2540dd90271a40279b3afec24d47f91", func := "millwright/millwrightkeep.BitsSubs", spec := "bitsSubs", apart := false, narrowed := true }
def BitsSubsUptoSaid : Prop := bitsSubsUptoRow.holds Try.pinned (OpenSpec.upto bitsSubsSpec)

/-- 'millwrightkeep.BitsNext', WHERE WHAT IT READS IS OF BULK AT MOST 1048576: true; the input reads as it did. -/
def bitsNextUptoRow : OpenClaim := { program := "ytodlfklpjnofjaa", sum := "e0001791898523d01442643cef31e5e5d2540dd90271a40279b3afec24d47f91", func := "millwright/millwrightkeep.BitsNext", spec := "bitsNext", apart := false, narrowed := true }
def BitsNextUptoSaid : Prop := bitsNextUptoRow.holds Try.pinned (OpenSpec.upto bitsNextSpec)

/-- 'millwrightkeep.BitsEven', WHERE WHAT IT READS IS OF BULK AT MOST 1048576: true; the input reads as it did. -/
def bitsEvenUptoRow : OpenClaim := { program := "ytodlfklpjnofjaa", sum := "e0001791898523d01442643cef31e5e5d2540dd90271a40279b3afec24d47f91", func := "millwright/millwrightkeep.BitsEven", spec := "bitsEven", apart := false, narrowed := true }
def BitsEvenUptoSaid : Prop := bitsEvenUptoRow.holds Try.pinned (OpenSpec.upto bitsEvenSpec)

end Rows
end Go.Proofs.Ytodlfklpjnofjaa
