/-
  Package knot: tiedTo, neededBy, the comparison of two sets by their least numbers. Condition: the table of math/bits lies in memory as its text lays it (the card ties this).
-/
import Derived.Test.YtjmomgmbmgdeoaaDoorHKo
import Derived.Test.YtjmomgmbmgdeoaaDoorHKa
namespace Go.Proofs.YtjmomgmbmgdeoaaDoor
set_option maxRecDepth 100000
set_option linter.unusedVariables false
open Go.ChangeShapes Go.WideShapes Go.ChangeAt Go.RowKit

theorem and_one (x : Bv) (n : Nat) (hn : n < 64) : (bits .and .u64 (x.toNat : Int) (IntKind.u64.wrap (2 ^ n)) != 0) = x.getLsbD n := by
  rw [one_walk n hn, bv_and, bv_ne_zero, Bool.eq_iff_iff, bne_iff_ne, nonzero_iff]
  constructor
  · rintro ⟨k, hk⟩
    obtain ⟨h1, h2⟩ := and_bit.1 hk
    rw [← one_is h2]; exact h1
  · exact fun h => ⟨n, and_bit.2 ⟨h, one_has hn⟩⟩
/-! what numbers need -/
/-! the comparison of two sets -/
def cfH (x y : Bv) : Int := if headW x < headW y then -1 else if headW y < headW x then 1 else 0
theorem isNaN_any (a : Int) (w : World) : Calls Tryd.prog 44 #[.int .i64 a] w fun e w' => e = .returned (.bool false) ∧ w' = w := by
  have e1 : (a != a) = false := by simp
  go_enter Tryd.func44, Tryd.ntmps44
  go_wp2
  go_ret
  exact ⟨rfl, rfl⟩
set_option maxHeartbeats 2000000 in
theorem compareI_any (a b : Int) (w : World) : Calls Tryd.prog 37 #[.int .i64 a, .int .i64 b] w fun e w' => e = .returned (.int .i64 (if a < b then -1 else if b < a then 1 else 0)) ∧ w' = w := by
  have NA := Lib.hid (fun x W => isNaN_any x W)
  have EE : Hid (∀ c : Int, (c = -1 ∧ a < b ∨ c = 1 ∧ ¬ a < b ∧ b < a ∨ c = 0 ∧ ¬ a < b ∧ ¬ b < a) → c = (if a < b then -1 else if b < a then 1 else 0)) := fun c h => by
    rcases h with ⟨rfl, h⟩ | ⟨rfl, h, k⟩ | ⟨rfl, h, k⟩
    · rw [if_pos h]
    · rw [if_neg h, if_pos k]
    · rw [if_neg h, if_neg k]
  generalize (if a < b then (-1 : Int) else if b < a then 1 else 0) = c at *
  go_enter Tryd.func37, Tryd.ntmps37
  go_wp2_with fail
  refine (NA.out a _).mono ?_
  rintro e w1 ⟨rfl, rfl⟩
  go_wp2_with fail
  refine (NA.out b _).mono ?_
  rintro e w2 ⟨rfl, rfl⟩
  by_cases h : a < b
  · have E := Lib.hid (EE.out (-1) (.inl ⟨rfl, h⟩))
    go_wp2
    go_ret
    exact ⟨ret_c E.out, rfl⟩
  · by_cases k : b < a
    · have E := Lib.hid (EE.out 1 (.inr (.inl ⟨rfl, by omega, by omega⟩)))
      go_wp2
      go_ret
      exact ⟨ret_c E.out, rfl⟩
    · have E := Lib.hid (EE.out 0 (.inr (.inr ⟨rfl, by omega, by omega⟩)))
      go_wp2
      go_ret
      exact ⟨ret_c E.out, rfl⟩
theorem cfH_eq (x y : Bv) : (if ((headW x : Nat) : Int) < ((headW y : Nat) : Int) then (-1 : Int) else if ((headW y : Nat) : Int) < ((headW x : Nat) : Int) then 1 else 0) = cfH x y := by
  unfold cfH
  simp only [Int.ofNat_lt]
end Go.Proofs.YtjmomgmbmgdeoaaDoor
