/-
  The law's own look at package bits (sets) is passed, and the table of math/bits stays in memory. Condition: the table lies there as its text lays it (the card ties this).
-/
import Derived.Test.YtodlfklpjnofjaaDoorRank
namespace Go.Proofs.YtodlfklpjnofjaaDoor
open Go.ChangeShapes Go.WideShapes Go.ChangeAt Go.RowKit

set_option maxHeartbeats 1000000 in
theorem sets_below (w : World) :
    Calls Tryd.prog 22 #[] w fun e w' => e = .returned (.bool true) ∧ Grown w w' ∧ Below w.heap.size w w' := by
  have b0 : bits .or .u64 0 2 = 2 := by decide +kernel
  have b1 : bits .or .u64 2 8 = 10 := by decide +kernel
  have w1 : IntKind.u64.wrap 2 = 2 := by decide +kernel
  have w2 : IntKind.u64.wrap 8 = 8 := by decide +kernel
  go_enter Tryd.func22, Tryd.ntmps22
  go_wp2
  go_rounds 3
  go_ret
  exact ⟨rfl, by go_grown, by go_grown⟩
theorem sets_tab (w : World) (ht : Tab w) :
    Calls Tryd.prog 22 #[] w fun e w' => e = .returned (.bool true) ∧ Grown w w' ∧ Below w.heap.size w w' ∧ Tab w' :=
  (sets_below w).mono fun _ _ ⟨h1, h2, h3⟩ => ⟨h1, h2, h3, ht.below h3 ht.1⟩

end Go.Proofs.YtodlfklpjnofjaaDoor
