/-
  The law DomTells, whatever its arguments. Condition: the table of math/bits lies in memory as its text lays it (the card ties this).
-/
import Derived.Test.YtjmomgmbmgdeoaaDoorHDz
import Derived.Test.YtjmomgmbmgdeoaaDoorHKy
import Derived.Test.YtjmomgmbmgdeoaaDoorHRf
import Derived.Deep.RegionHeld3
namespace Go.Proofs.YtjmomgmbmgdeoaaDoor
set_option maxRecDepth 100000
set_option linter.unusedVariables false
open Go.ChangeShapes Go.WideShapes Go.ChangeAt Go.RowKit

theorem winD_nil (w : World) : WIn w (.slice none 0 0) [] := ⟨none, 0, rfl, fun k hk => absurd hk (Nat.not_lt_zero _)⟩
theorem eqD_same (x : Int) : (x == x) = true := beq_self_eq_true x
theorem neD_same (x : Int) : (x != x) = false := by simp
theorem range_sub {r : List Bv} {l1 l2 : List Int} (hs : ∀ n ∈ l1, n ∈ l2) (h : rangeC r l1 ≠ 0) : rangeC r l2 = rangeC r l1 := by
  by_cases hc : ckR r = 0
  · have h2 : rangeC r l2 ≠ 0 := fun h2 => h (range_zero.2 ⟨(range_zero.1 h2).1, fun n hn => (range_zero.1 h2).2 n (hs n hn)⟩)
    have key : ∀ l, rangeC r l ≠ 0 → rangeC r l = 4 := fun l hl => by
      unfold rangeC at hl ⊢
      rw [if_neg (by rw [hc]; simp)] at hl ⊢
      by_cases ha : ∀ n ∈ l, 0 ≤ n ∧ n < (r.length : Int)
      · rw [if_pos ha] at hl; exact absurd rfl hl
      · rw [if_neg ha]
    rw [key _ h, key _ h2]
  · rw [range_bad hc, range_bad hc]

/-! the law's own test of one number -/
set_option maxHeartbeats 4000000 in
theorem ranged_any {w : World} {av : Value} {r : List Bv} {a : Option Addr} {c q1 q2 : Nat} {x : Int} (hx : ZIn w av [x]) (h1 : w.cell? ⟨q1, 0, none⟩ = some (.int .i64 (ckR r))) (h2 : w.cell? ⟨q2, 0, none⟩ = some (.slice a r.length c)) :
    Calls Tryd.prog 11 #[av, .pointer (some ⟨q1, 0, none⟩), .pointer (some ⟨q2, 0, none⟩)] w fun e w' => e = .returned (.int .i64 (rangeC r [x])) ∧ w' = w := by
  have BAD : Hid (ckR r ≠ 0 → ckR r = rangeC r [x]) := fun h => (range_bad h).symm
  have OUT : Hid (ckR r = 0 → (x < 0 ∨ (r.length : Int) ≤ x) → rangeC r [x] = 4) := fun h k => range_out h (k := 0) (by simp) k
  have GOOD : Hid (ckR r = 0 → 0 ≤ x → x < (r.length : Int) → ckR r = rangeC r [x]) := fun h k1 k2 => by
    rw [h]
    refine (range_ok h fun k hk => ?_).symm
    obtain rfl : k = 0 := by simpa using hk
    exact ⟨k1, k2⟩
  obtain ⟨na, nc, rfl, hc⟩ := hx
  obtain ⟨b, off, rfl, c0⟩ := hc 0 (by simp)
  have c1 : w.cell? ⟨b, off, none⟩ = some (.int .i64 x) := c0
  clear hc c0
  simp only [List.length_singleton]
  generalize rangeC r [x] = R at *
  generalize ckR r = C at *
  generalize r.length = L at *
  go_enter Tryd.func11, Tryd.ntmps11
  go_wp2_with fail
  go_loopw [9] (fun i wr => ∃ k : Nat, k ≤ 1 ∧ i = .int .i64 (k : Int) ∧ (k = 1 → C = R) ∧ wr = w) (fun i _ => 1 - (intOf i).toNat)
  case atStart => exact ⟨0, Nat.zero_le _, rfl, fun h => (by cases h), rfl⟩
  case round =>
    obtain ⟨k, hk, rfl, qa, rfl⟩ := hrel
    have QA := Lib.hid qa; clear qa
    by_cases hkl : k < 1
    · obtain rfl : k = 0 := by omega
      by_cases hz : C = 0
      · have t1 : (C == 0) = true := beq_iff_eq.2 hz
        have O2 := Lib.hid (OUT.out hz)
        have G2 := Lib.hid (GOOD.out hz)
        clear BAD OUT GOOD QA hz
        by_cases h0 : x < 0
        · have E := Lib.hid (O2.out (.inl h0))
          clear O2 G2
          go_wp2
          go_ret
          exact ⟨ret_c E.out.symm, rfl⟩
        · by_cases h1 : (L : Int) ≤ x
          · have E := Lib.hid (O2.out (.inr h1))
            clear O2 G2
            go_wp2
            go_ret
            exact ⟨ret_c E.out.symm, rfl⟩
          · have E := Lib.hid (G2.out (by omega) (by omega))
            clear O2 G2
            go_wp2
            go_roundw
            case rel => exact ⟨1, by omega, by go_num, fun _ => E.out, trivial⟩
            case measure => simp [intOf]
      · have t1 : (C == 0) = false := beq_eq_false_iff_ne.2 hz
        have E := Lib.hid (BAD.out hz)
        clear BAD OUT GOOD QA hz
        go_wp2
        go_roundw
        case rel => exact ⟨1, by omega, by go_num, fun _ => E.out, trivial⟩
        case measure => simp [intOf]
    · obtain rfl : k = 1 := by omega
      have E := Lib.hid (QA.out rfl)
      clear BAD OUT GOOD QA
      go_wp2
      go_ret
      exact ⟨ret_c E.out, rfl⟩
end Go.Proofs.YtjmomgmbmgdeoaaDoor
