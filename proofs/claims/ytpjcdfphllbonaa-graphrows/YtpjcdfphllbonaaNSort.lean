/-
  What package name's Sort answers: the names sorted, each once. Condition: a slice takes at most 2^48 bytes.
-/
import Derived.Test.YtpjcdfphllbonaaNApp
namespace Go.Proofs.Ytpjcdfphllbonaa
set_option maxRecDepth 100000
open Go.ChangeShapes Go.WideShapes Go.ChangeAt Go.RowKit

/-! slices.Clone -/
/-! slices.Sort, slices.Compact at a row of the call's own -/
/-- what Sort hands back -/
def SortPost (z : List Str) (w : World) (e : Ending) (w' : World) : Prop :=
  (z.all good = true ∧ ∃ v, e = .returned (.tuple #[v, .int .i64 0]) ∧ w'.ownsRow w.heap.size 9 1 v (uniq z).length ((uniq z).map encStr) ∧ Below w.heap.size w w') ∨
  (z.all good = false ∧ e = .returned (.tuple #[.slice none 0 0, .int .i64 3]) ∧ w' = w)

theorem all_good {z : List Str} (h : ∀ j, j < z.length → good (z.getD j []) = true) : z.all good = true := by
  rw [List.all_eq_true]
  intro x hx
  obtain ⟨i, hi, rfl⟩ := mem_getD hx
  exact h i hi
theorem all_bad {z : List Str} {k : Nat} (hk : k < z.length) (h : good (z.getD k []) = false) : z.all good = false := by
  rw [List.all_eq_false]
  exact ⟨_, getD_mem hk, by simpa using h⟩

end Go.Proofs.Ytpjcdfphllbonaa
