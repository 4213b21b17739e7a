/-
  The laws' closures over parts: has at any number, which part has a number, whether a part has two. Condition: none but that the captured cells hold what they hold.
-/
import Derived.Test.YtjmomgmbmgdeoaaDoorHKy
import Derived.Test.YtjmomgmbmgdeoaaDoorHKa
namespace Go.Proofs.YtjmomgmbmgdeoaaDoor
set_option maxRecDepth 100000
set_option linter.unusedVariables false
open Go.ChangeShapes Go.WideShapes Go.ChangeAt Go.RowKit

/-! has at any number -/
def hasI (s : Bv) (n : Int) : Bool := decide (0 ≤ n) && decide (n < 64) && s.getLsbD n.toNat
theorem hasI_nat (s : Bv) (n : Nat) : hasI s (n : Int) = s.getLsbD n := by
  unfold hasI
  rw [decide_eq_true (by omega), Bool.true_and, Int.toNat_natCast]
  by_cases h : (n : Int) < 64
  · rw [decide_eq_true h, Bool.true_and]
  · rw [decide_eq_false h, Bool.false_and]
    cases hb : s.getLsbD n
    · rfl
    · have := bit_lt hb; omega
theorem hasI_some {s : Bv} {n : Int} (h : hasI s n = true) : ∃ k : Nat, n = (k : Int) ∧ k < 64 ∧ s.getLsbD k = true := by
  unfold hasI at h
  rw [Bool.and_eq_true, Bool.and_eq_true, decide_eq_true_iff, decide_eq_true_iff] at h
  exact ⟨n.toNat, by omega, by omega, h.2⟩
theorem hasI_any (s : Bv) (n : Int) (w : World) :
    Calls Tryd.prog 19 #[.int .u64 (s.toNat : Int), .int .i64 n] w fun e w' => e = .returned (.bool (hasI s n)) ∧ w' = w := by
  by_cases h0 : n < 0
  · have E : Hid (hasI s n = false) := Lib.hid (by unfold hasI; rw [decide_eq_false (by omega)]; rfl)
    generalize hasI s n = q at *
    go_enter Tryd.func19, Tryd.ntmps19
    go_wp2
    go_ret
    exact ⟨by rw [E.out]; rfl, rfl⟩
  · by_cases h1 : 64 ≤ n
    · have E : Hid (hasI s n = false) := Lib.hid (by unfold hasI; rw [decide_eq_false (p := n < 64) (by omega), Bool.and_false]; rfl)
      generalize hasI s n = q at *
      have h2 : ¬ n < 64 := by omega
      go_enter Tryd.func19, Tryd.ntmps19
      go_wp2
      go_ret
      exact ⟨by rw [E.out]; rfl, rfl⟩
    · obtain ⟨k, rfl⟩ : ∃ k : Nat, n = (k : Int) := ⟨n.toNat, by omega⟩
      rw [hasI_nat]
      exact has_any s k w (by omega)

/-! the closures -/
/-! IndexFunc, ContainsFunc at the two tests -/
end Go.Proofs.YtjmomgmbmgdeoaaDoor
