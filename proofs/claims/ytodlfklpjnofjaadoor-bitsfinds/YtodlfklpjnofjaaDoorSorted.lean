/-
  slices.IsSorted answers true for a slice of integers that lie in order. Condition: at most 1000000 elements.
-/
import Derived.Test.YtodlfklpjnofjaaDoorOf
import Derived.Test.YtodlfklpjnofjaaDoorEqual
namespace Go.Proofs.YtodlfklpjnofjaaDoor
open Go.ChangeShapes Go.WideShapes Go.ChangeAt Go.RowKit

theorem isNaN_any (x : Int) (w : World) :
    Calls Tryd.prog 33 #[.int .i64 x] w fun e w' => e = .returned (.bool false) ∧ w = w' := by
  go_enter Tryd.func33, Tryd.ntmps33
  go_wp2
  go_ret
  refine ⟨?_, rfl⟩
  simp
theorem less_ge (x y : Int) (w : World) (h : y ≤ x) :
    Calls Tryd.prog 30 #[.int .i64 x, .int .i64 y] w fun e w' => e = .returned (.bool false) ∧ w = w' := by
  have hd : decide (x < y) = false := by rw [decide_eq_false_iff_not]; omega
  go_enter Tryd.func30, Tryd.ntmps30
  go_wp2_with fail
  refine (isNaN_any _ _).mono ?_
  rintro e w' ⟨rfl, rfl⟩
  go_wp2
  go_ret
  exact ⟨rfl, rfl⟩

set_option maxHeartbeats 1000000 in
theorem sorted_row (n c b o : Nat) (f : Nat → Int) (w : World) (hn : n ≤ 1000000) (hs : ∀ k, k + 1 < n → f k ≤ f (k + 1))
    (h1 : ∀ k, k < n → w.cell? ⟨b, o + k, none⟩ = some (.int .i64 (f k))) :
    Calls Tryd.prog 23 #[.slice (some ⟨b, o, none⟩) n c] w fun e w' => e = .returned (.bool true) ∧ ∃ k, w' = w.drewN k := by
  have H1 := Lib.hid h1; clear h1
  have HS := Lib.hid hs; clear hs
  go_enter Tryd.func23, Tryd.ntmps23
  go_wp2_with fail
  go_loopw [3] (fun i wr => ∃ k : Int, -1 ≤ k ∧ k < n ∧ i = .int .i64 k ∧ ∃ m, wr = w.drewN m) (fun i _ => (intOf i + 1).toNat)
  case atStart => exact ⟨(n : Int) - 1, by omega, by omega, rfl, 0, rfl⟩
  case round =>
    obtain ⟨k, hk0, hk, rfl, hm⟩ := hrel
    have HM := Lib.hid hm; clear hm
    by_cases hpos : 0 < k
    · obtain ⟨j, rfl⟩ : ∃ j : Nat, k = (j : Int) + 1 := ⟨(k - 1).toNat, by omega⟩
      have c1 : wr.cell? ⟨b, o + (j + 1), none⟩ = some (.int .i64 (f (j + 1))) := by obtain ⟨m, rfl⟩ := HM.out; exact H1.out (j + 1) (by omega)
      have c2 : wr.cell? ⟨b, o + j, none⟩ = some (.int .i64 (f j)) := by obtain ⟨m, rfl⟩ := HM.out; exact H1.out j (by omega)
      have hle := HS.out j (by omega)
      have hb1 : (j : Int) < (n : Int) := by omega
      have hb2 : (0 : Int) ≤ (j : Int) + 1 := by omega
      have e1 : ((j : Int) + 1).toNat = j + 1 := by omega
      have e2 : ((j : Int) + 1 - 1) = (j : Int) := by omega
      go_wp2_with fail
      go_quiet ((go_at_call 30; exact Calls.quiet_of_same ((less_ge _ _ _ hle).mono fun e w' h => ⟨h.1, h.2.symm⟩)))
      go_wp2
      go_roundw
      case rel => exact ⟨(j : Int), by omega, by omega, rfl, by obtain ⟨m, rfl⟩ := HM.out; exact ⟨_, drewN_add _ _ _⟩⟩
      case measure => simp [intOf]; omega
    · go_wp2
      go_ret
      exact ⟨rfl, HM.out⟩
end Go.Proofs.YtodlfklpjnofjaaDoor
