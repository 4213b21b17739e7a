/-
  What package bits' Rank, Next and Nth answer, in terms of words. Condition: the table of math/bits lies in memory as its text lays it (the card ties this).
-/
import Derived.Test.YtjmomgmbmgdeoaaDoorTz
namespace Go.Proofs.YtjmomgmbmgdeoaaDoor
set_option maxRecDepth 100000
open Go.ChangeShapes Go.WideShapes Go.ChangeAt Go.RowKit

/-- what Next hands back: there is none from n on, or the first one -/
def NextPost (s : Bv) (c : Nat) (w : World) (e : Ending) (w' : World) : Prop := w = w' ∧
  ((e = .returned (.tuple #[.int .i64 0, .bool false]) ∧ ∀ i, c ≤ i → i < 64 → s.getLsbD i = false) ∨
   ∃ m : Nat, e = .returned (.tuple #[.int .i64 m, .bool true]) ∧ m < 64 ∧ c ≤ m ∧ s.getLsbD m = true ∧ ∀ i, c ≤ i → i < m → s.getLsbD i = false)

theorem from_bit (s : Bv) (c i : Nat) (hi : i < 64) : (s &&& ~~~low c).getLsbD i = (s.getLsbD i && decide (c ≤ i)) := by
  rw [BitVec.getLsbD_and, BitVec.getLsbD_not, low_bit c i hi]
  by_cases h : i < c
  · have : ¬ c ≤ i := by omega
    simp [h, this]
  · have : c ≤ i := by omega
    simp [h, hi, this]

/-- what Nth hands back where there is such an element -/
def NthPost (s : Bv) (k : Nat) (w : World) (e : Ending) (w' : World) : Prop := ∃ n : Nat, e = .returned (.tuple #[.int .i64 n, .bool true]) ∧ n < 64 ∧ s.getLsbD n = true ∧ cntTo s.getLsbD n = k ∧ w = w'

end Go.Proofs.YtjmomgmbmgdeoaaDoor
