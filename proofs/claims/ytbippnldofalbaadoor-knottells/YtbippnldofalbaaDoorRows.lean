/-
  NARROWER THAN 'FOR EVERY INPUT', by the rows' own cells (each row's printed sentence says how): KnotTells: laid · KnotParts: laid · KnotFold: laid · KnotOrder: laid · KnotRing: laid.
  DERIVED. THE GIVEN ROWS OF THIS SEAT. 5 by the template 'for every input the law returns true; each argument reads behind the call as it read before'; 0 by the template 'total and deterministic' (their statements: YtbippnldofalbaaDoorTotals.lean).
  GIVEN WITH THE SEED: the statements are not yours to turn. If you find one false, say at which input.
  Laid BY PROGRAM, IN A SANDBOX (cutbox-rows.mjs): the forced cells as the released guide's own fill.sh prints them over the translation ef55f39c4dcff225… (all of the seat's roots in one cut). By AI agents, Wed Nov 11 2026. No macro, syntax, notation, axiom, sorry.
-/
import Derived.Test.YtbippnldofalbaaDoorChecked
import GoSem.Claim
import GoSem.ClaimJoined
import GoSem.ClaimMapViews
import Derived.JoinedTies
import Derived.KernelRfl
namespace Go.Proofs.YtbippnldofalbaaDoor
/- THE CELL 'sum', in the pinned program and in every row, IS THE sha256 OF THE DUMP (.gsa) THAT YtbippnldofalbaaDoorProg.lean LOADS. Nothing in Lean hashes anything: it is a label: what it is worth is what the hold of that sum in a sandbox is worth. -/
noncomputable def Tryd.pinned : Pinned := { name := "ytbippnldofalbaadoor", sum := "ef55f39c4dcff225dec2d7c1b521dc44ade3f92b974a7976ca333bc941a34fdd", checked := Tryd.checked }
namespace Rows
def none {H : Type} : Left H := { results := [], args := [] }

/- WHAT THE LISTED PACKAGE-LEVEL VARIABLES READ AS WHEN THE CALL BEGINS. Each datum BY PROGRAM (the guide's laid-datum.mjs) off the statement by which the dump's own 'gosem.cut.vars' lays the variable. In a bare row this is a premise. The card (YtbippnldofalbaaDoorCards.lean) ties it to the program's text. -/
def laid_math_bits_deBruijn64tab {H : Type} : DataW H := .agg [.lit (.int .u8 0), .lit (.int .u8 1), .lit (.int .u8 56), .lit (.int .u8 2), .lit (.int .u8 57), .lit (.int .u8 49), .lit (.int .u8 28), .lit (.int .u8 3), .lit (.int .u8 61), .lit (.int .u8 58), .lit (.int .u8 42), .lit (.int .u8 50), .lit (.int .u8 38), .lit (.int .u8 29), .lit (.int .u8 17), .lit (.int .u8 4), .lit (.int .u8 62), .lit (.int .u8 47), .lit (.int .u8 59), .lit (.int .u8 36), .lit (.int .u8 45), .lit (.int .u8 43), .lit (.int .u8 51), .lit (.int .u8 22), .lit (.int .u8 53), .lit (.int .u8 39), .lit (.int .u8 33), .lit (.int .u8 30), .lit (.int .u8 24), .lit (.int .u8 18), .lit (.int .u8 12), .lit (.int .u8 5), .lit (.int .u8 63), .lit (.int .u8 55), .lit (.int .u8 48), .lit (.int .u8 27), .lit (.int .u8 60), .lit (.int .u8 41), .lit (.int .u8 37), .lit (.int .u8 16), .lit (.int .u8 46), .lit (.int .u8 35), .lit (.int .u8 44), .lit (.int .u8 21), .lit (.int .u8 52), .lit (.int .u8 32), .lit (.int .u8 23), .lit (.int .u8 11), .lit (.int .u8 54), .lit (.int .u8 26), .lit (.int .u8 40), .lit (.int .u8 15), .lit (.int .u8 34), .lit (.int .u8 20), .lit (.int .u8 31), .lit (.int .u8 10), .lit (.int .u8 25), .lit (.int .u8 14), .lit (.int .u8 19), .lit (.int .u8 9), .lit (.int .u8 13), .lit (.int .u8 8), .lit (.int .u8 7), .lit (.int .u8 6)]

/-- 'millwrightlaw.KnotTells': WHATEVER THE INPUT: true; the input reads as it did. -/
def knotTellsSpec : ChangeSpec := { name := "knotTells", fn := fun _ => fun
  | [d] => { results := [.lit (.bool true)], args := [d] }
  | _ => none }
def knotTellsRow : OpenClaim := { program := "ytbippnldofalbaadoor", sum := "ef55f39c4dcff225dec2d7c1b521dc44ade3f92b974a7976ca333bc941a34fdd", func := "millwright/millwrightlaw.KnotTells", spec := "knotTells", unfollowed := true, recurses := true, named := ["math/bits.deBruijn64tab"], apart := false, laid := [("math/bits.deBruijn64tab", laid_math_bits_deBruijn64tab)] }
def KnotTellsSaid : Prop := knotTellsRow.holds Tryd.pinned (OpenSpec.ofChange knotTellsSpec)

/-- ITS FALSE NEIGHBOUR: 'it returns false'. Refute it at one input. -/
def knotTellsWrong : ChangeSpec := { name := "knotTells", fn := fun _ => fun
  | [d] => { results := [.lit (.bool false)], args := [d] }
  | _ => none }
def KnotTellsWrongFalsely : Prop := knotTellsRow.holds Tryd.pinned (OpenSpec.ofChange knotTellsWrong)

/-- 'millwrightkeep.KnotParts': WHATEVER THE INPUT: true; the input reads as it did. -/
def knotPartsSpec : ChangeSpec := { name := "knotParts", fn := fun _ => fun
  | [d1, d2, d3] => { results := [.lit (.bool true)], args := [d1, d2, d3] }
  | _ => none }
def knotPartsRow : OpenClaim := { program := "ytbippnldofalbaadoor", sum := "ef55f39c4dcff225dec2d7c1b521dc44ade3f92b974a7976ca333bc941a34fdd", func := "millwright/millwrightkeep.KnotParts", spec := "knotParts", unfollowed := true, recurses := true, named := ["math/bits.deBruijn64tab"], apart := false, laid := [("math/bits.deBruijn64tab", laid_math_bits_deBruijn64tab)] }
def KnotPartsSaid : Prop := knotPartsRow.holds Tryd.pinned (OpenSpec.ofChange knotPartsSpec)

/-- ITS FALSE NEIGHBOUR: 'it returns false'. Refute it at one input. -/
def knotPartsWrong : ChangeSpec := { name := "knotParts", fn := fun _ => fun
  | [d1, d2, d3] => { results := [.lit (.bool false)], args := [d1, d2, d3] }
  | _ => none }
def KnotPartsWrongFalsely : Prop := knotPartsRow.holds Tryd.pinned (OpenSpec.ofChange knotPartsWrong)

/-- 'millwrightkeep.KnotFold': WHATEVER THE INPUT: true; the input reads as it did. -/
def knotFoldSpec : ChangeSpec := { name := "knotFold", fn := fun _ => fun
  | [d1, d2, d3] => { results := [.lit (.bool true)], args := [d1, d2, d3] }
  | _ => none }
def knotFoldRow : OpenClaim := { program := "ytbippnldofalbaadoor", sum := "ef55f39c4dcff225dec2d7c1b521dc44ade3f92b974a7976ca333bc941a34fdd", func := "millwright/millwrightkeep.KnotFold", spec := "knotFold", unfollowed := true, recurses := true, named := ["math/bits.deBruijn64tab"], apart := false, laid := [("math/bits.deBruijn64tab", laid_math_bits_deBruijn64tab)] }
def KnotFoldSaid : Prop := knotFoldRow.holds Tryd.pinned (OpenSpec.ofChange knotFoldSpec)

/-- ITS FALSE NEIGHBOUR: 'it returns false'. Refute it at one input. -/
def knotFoldWrong : ChangeSpec := { name := "knotFold", fn := fun _ => fun
  | [d1, d2, d3] => { results := [.lit (.bool false)], args := [d1, d2, d3] }
  | _ => none }
def KnotFoldWrongFalsely : Prop := knotFoldRow.holds Tryd.pinned (OpenSpec.ofChange knotFoldWrong)

/-- 'millwrightkeep.KnotOrder': WHATEVER THE INPUT: true; the input reads as it did. -/
def knotOrderSpec : ChangeSpec := { name := "knotOrder", fn := fun _ => fun
  | [d] => { results := [.lit (.bool true)], args := [d] }
  | _ => none }
def knotOrderRow : OpenClaim := { program := "ytbippnldofalbaadoor", sum := "ef55f39c4dcff225dec2d7c1b521dc44ade3f92b974a7976ca333bc941a34fdd", func := "millwright/millwrightkeep.KnotOrder", spec := "knotOrder", named := ["math/bits.deBruijn64tab"], apart := false, laid := [("math/bits.deBruijn64tab", laid_math_bits_deBruijn64tab)] }
def KnotOrderSaid : Prop := knotOrderRow.holds Tryd.pinned (OpenSpec.ofChange knotOrderSpec)

/-- ITS FALSE NEIGHBOUR: 'it returns false'. Refute it at one input. -/
def knotOrderWrong : ChangeSpec := { name := "knotOrder", fn := fun _ => fun
  | [d] => { results := [.lit (.bool false)], args := [d] }
  | _ => none }
def KnotOrderWrongFalsely : Prop := knotOrderRow.holds Tryd.pinned (OpenSpec.ofChange knotOrderWrong)

/-- 'millwrightkeep.KnotRing': WHATEVER THE INPUT: true; the input reads as it did. -/
def knotRingSpec : ChangeSpec := { name := "knotRing", fn := fun _ => fun
  | [d] => { results := [.lit (.bool true)], args := [d] }
  | _ => none }
def knotRingRow : OpenClaim := { program := "ytbippnldofalbaadoor", sum := "ef55f39c4dcff225dec2d7c1b521dc44ade3f92b974a7976ca333bc941a34fdd", func := "millwright/millwrightkeep.KnotRing", spec := "knotRing", named := ["math/bits.deBruijn64tab"], apart := false, laid := [("math/bits.deBruijn64tab", laid_math_bits_deBruijn64tab)] }
def KnotRingSaid : Prop := knotRingRow.holds Tryd.pinned (OpenSpec.ofChange knotRingSpec)

/-- ITS FALSE NEIGHBOUR: 'it returns false'. Refute it at one input. -/
def knotRingWrong : ChangeSpec := { name := "knotRing", fn := fun _ => fun
  | [d] => { results := [.lit (.bool false)], args := [d] }
  | _ => none }
def KnotRingWrongFalsely : Prop := knotRingRow.holds Tryd.pinned (OpenSpec.ofChange knotRingWrong)

/- THE SECOND FORM. 'bulk': how many values and letters a reading holds, each counted each time it is reached (what is shared counts as often as it is met; a slice's spare places count too). A statement '..UptoSaid' is the law's where the arguments, and the package variables that the reading takes, are together of bulk at most 1048576: NARROWER than '..Said'. Prove '..Said' where nothing that the law and all that it calls make is longer than what came in: it says more and counts as full. Else prove '..UptoSaid'. A law counts once. -/
mutual
def uptoBulk {H : Type} : DataW H → Nat
  | .lit (.string bytes) => bytes.length + 1
  | .lit _ => 1
  | .nil => 1
  | .ptr d => uptoBulk d + 1
  | .slice elems spare => uptoBulkAll elems + uptoBulkAll spare + 1
  | .agg parts => uptoBulkAll parts + 1
  | .iface _ d => uptoBulk d + 1
  | .map entries => uptoBulkEntries entries + 1
  | .held _ => 1
def uptoBulkAll {H : Type} : List (DataW H) → Nat
  | [] => 0
  | d :: r => uptoBulk d + uptoBulkAll r
def uptoBulkEntries {H : Type} : List (Lit × DataW H) → Nat
  | [] => 0
  | x :: r => uptoBulkEntry x + uptoBulkEntries r
def uptoBulkEntry {H : Type} : Lit × DataW H → Nat
  | (.string bytes, d) => bytes.length + uptoBulk d + 1
  | (_, d) => uptoBulk d + 1
 end
def uptoSmall : (H : Type) → List (DataW H) → Bool := fun _ ds => decide (uptoBulkAll ds ≤ 1048576)
def OpenSpec.upto (s : _root_.Go.ChangeSpec) : _root_.Go.OpenSpec := { _root_.Go.OpenSpec.ofChange s with cond := some uptoSmall }

/-- 'millwrightlaw.KnotTells', WHERE WHAT IT READS IS OF BULK AT MOST 1048576: true; the input reads as it did. -/
def knotTellsUptoRow : OpenClaim := { program := "ytbippnldofalbaadoor", sum := "ef55f39c4dcff225dec2d7c1b521dc44ade3f92b974a7976ca333bc941a34fdd", func := "millwright/millwrightlaw.KnotTells", spec := "knotTells", unfollowed := true, recurses := true, named := ["math/bits.deBruijn64tab"], apart := false, laid := [("math/bits.deBruijn64tab", laid_math_bits_deBruijn64tab)], narrowed := true }
def KnotTellsUptoSaid : Prop := knotTellsUptoRow.holds Tryd.pinned (OpenSpec.upto knotTellsSpec)

/-- 'millwrightkeep.KnotParts', WHERE WHAT IT READS IS OF BULK AT MOST 1048576: true; the input reads as it did. -/
def knotPartsUptoRow : OpenClaim := { program := "ytbippnldofalbaadoor", sum := "ef55f39c4dcff225dec2d7c1b521dc44ade3f92b974a7976ca333bc941a34fdd", func := "millwright/millwrightkeep.KnotParts", spec := "knotParts", unfollowed := true, recurses := true, named := ["math/bits.deBruijn64tab"], apart := false, laid := [("math/bits.deBruijn64tab", laid_math_bits_deBruijn64tab)], narrowed := true }
def KnotPartsUptoSaid : Prop := knotPartsUptoRow.holds Tryd.pinned (OpenSpec.upto knotPartsSpec)

/-- 'millwrightkeep.KnotFold', WHERE WHAT IT READS IS OF BULK AT MOST 1048576: true; the input reads as it did. -/
def knotFoldUptoRow : OpenClaim := { program := "ytbippnldofalbaadoor", sum := "ef55f39c4dcff225dec2d7c1b521dc44ade3f92b974a7976ca333bc941a34fdd", func := "millwright/millwrightkeep.KnotFold", spec := "knotFold", unfollowed := true, recurses := true, named := ["math/bits.deBruijn64tab"], apart := false, laid := [("math/bits.deBruijn64tab", laid_math_bits_deBruijn64tab)], narrowed := true }
def KnotFoldUptoSaid : Prop := knotFoldUptoRow.holds Tryd.pinned (OpenSpec.upto knotFoldSpec)

/-- 'millwrightkeep.KnotOrder', WHERE WHAT IT READS IS OF BULK AT MOST 1048576: true; the input reads as it did. -/
def knotOrderUptoRow : OpenClaim := { program := "ytbippnldofalbaadoor", sum := "ef55f39c4dcff225dec2d7c1b521dc44ade3f92b974a7976ca333bc941a34fdd", func := "millwright/millwrightkeep.KnotOrder", spec := "knotOrder", named := ["math/bits.deBruijn64tab"], apart := false, laid := [("math/bits.deBruijn64tab", laid_math_bits_deBruijn64tab)], narrowed := true }
def KnotOrderUptoSaid : Prop := knotOrderUptoRow.holds Tryd.pinned (OpenSpec.upto knotOrderSpec)

/-- 'millwrightkeep.KnotRing', WHERE WHAT IT READS IS OF BULK AT MOST 1048576: true; the input reads as it did. -/
def knotRingUptoRow : OpenClaim := { program := "ytbippnldofalbaadoor", sum := "ef55f39c4dcff225dec2d7c1b521dc44ade3f92b974a7976ca333bc941a34fdd", func := "millwright/millwrightkeep.KnotRing", spec := "knotRing", named := ["math/bits.deBruijn64tab"], apart := false, laid := [("math/bits.deBruijn64tab", laid_math_bits_deBruijn64tab)], narrowed := true }
def KnotRingUptoSaid : Prop := knotRingUptoRow.holds Tryd.pinned (OpenSpec.upto knotRingSpec)

end Rows
end Go.Proofs.YtbippnldofalbaaDoor
