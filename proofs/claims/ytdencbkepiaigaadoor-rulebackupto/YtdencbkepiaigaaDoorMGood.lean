/-
  What the laws' own good answers of two errors. No condition.
-/
import Derived.Test.YtdencbkepiaigaaDoorRPrt
namespace Go.Proofs.YtdencbkepiaigaaDoor
set_option linter.unusedVariables false
open Go.ChangeShapes Go.WideShapes Go.ChangeAt Go.RowKit

theorem bad_any (x : Int) (w : World) : Calls Tryd.prog 49 #[.int .i64 x] w fun e w' => e = .returned (.bool (x != 0)) ∧ w' = w := by
  go_enter Tryd.func49, Tryd.ntmps49
  go_wp2
  go_ret
  exact ⟨rfl, rfl⟩
def firstBad (x y : Int) : Int := if x != 0 then 0 else if y != 0 then 1 else -1
set_option maxHeartbeats 1000000 in
theorem idxBad_any (b : Nat) (x y : Int) (w : World) (c0 : w.cell? ⟨b, 0, none⟩ = some (.int .i64 x)) (c1 : w.cell? ⟨b, 1, none⟩ = some (.int .i64 y)) :
    Calls Tryd.prog 65 #[.slice (some ⟨b, 0, none⟩) 2 2, .func (.func 49) #[] #[]] w fun e w' => e = .returned (.int .i64 (firstBad x y)) ∧ w' = w := by
  have en := Tryd.call49
  unfold firstBad
  have HX := Lib.hid (bad_any x w); have HY := Lib.hid (bad_any y w)
  cases hx : (x != 0) with
  | true =>
    rw [hx] at HX; clear hx HY
    go_enter Tryd.func65, Tryd.ntmps65
    go_wp2_with fail
    refine wp_loop_rounds 3 ?_
    rw [rounds_succ]
    go_wp2_with fail
    refine HX.out.mono ?_
    rintro e w' ⟨rfl, rfl⟩
    go_wp2
    go_ret
    exact ⟨rfl, rfl⟩
  | false =>
    rw [hx] at HX; clear hx
    cases hy : (y != 0) with
    | true =>
      rw [hy] at HY; clear hy
      go_enter Tryd.func65, Tryd.ntmps65
      go_wp2_with fail
      refine wp_loop_rounds 3 ?_
      rw [rounds_succ]
      go_wp2_with fail
      refine HX.out.mono ?_
      rintro e w' ⟨rfl, rfl⟩
      go_wp2_with fail
      rw [rounds_succ]
      go_wp2_with fail
      refine HY.out.mono ?_
      rintro e w' ⟨rfl, rfl⟩
      go_wp2
      go_ret
      exact ⟨rfl, rfl⟩
    | false =>
      rw [hy] at HY; clear hy
      go_enter Tryd.func65, Tryd.ntmps65
      go_wp2_with fail
      refine wp_loop_rounds 3 ?_
      rw [rounds_succ]
      go_wp2_with fail
      refine HX.out.mono ?_
      rintro e w' ⟨rfl, rfl⟩
      go_wp2_with fail
      rw [rounds_succ]
      go_wp2_with fail
      refine HY.out.mono ?_
      rintro e w' ⟨rfl, rfl⟩
      go_wp2_with fail
      rw [rounds_succ]
      go_wp2
      go_ret
      exact ⟨rfl, rfl⟩
theorem good_any (b : Nat) (x y : Int) (w : World) (c0 : w.cell? ⟨b, 0, none⟩ = some (.int .i64 x)) (c1 : w.cell? ⟨b, 1, none⟩ = some (.int .i64 y)) :
    Calls Tryd.prog 19 #[.slice (some ⟨b, 0, none⟩) 2 2] w fun e w' => e = .returned (.bool (decide (x = 0 ∧ y = 0))) ∧ w' = w := by
  have H := Lib.hid (idxBad_any b x y w c0 c1)
  have E : Hid ((!decide (0 ≤ firstBad x y)) = decide (x = 0 ∧ y = 0)) := Lib.hid (by
    unfold firstBad
    by_cases hx : x = 0 <;> by_cases hy : y = 0 <;> simp [hx, hy])
  generalize firstBad x y = r at *
  clear c0 c1
  go_enter Tryd.func19, Tryd.ntmps19
  go_wp2_with fail
  have C : Calls Tryd.prog 48 #[.slice (some ⟨b, 0, none⟩) 2 2, .func (.func 49) #[] #[]] w fun e w' => e = .returned (.bool (decide (0 ≤ r))) ∧ w' = w := by
    go_enter Tryd.func48, Tryd.ntmps48
    go_wp2_with fail
    refine H.out.mono ?_
    rintro e w' ⟨rfl, rfl⟩
    go_wp2
    go_ret
    exact ⟨rfl, rfl⟩
  refine C.mono ?_
  rintro e w' ⟨rfl, rfl⟩
  go_wp2
  go_ret
  exact ⟨ret_b E.out, rfl⟩
end Go.Proofs.YtdencbkepiaigaaDoor
