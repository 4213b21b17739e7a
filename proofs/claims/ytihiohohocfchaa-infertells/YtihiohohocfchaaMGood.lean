/-
  What the laws' own good answers of two errors. No condition.
-/
import Derived.Test.YtihiohohocfchaaIOf
namespace Go.Proofs.Ytihiohohocfchaa
set_option maxRecDepth 100000
set_option linter.unusedVariables false
open Go.ChangeShapes Go.WideShapes Go.ChangeAt Go.RowKit

theorem bad_any (x : Int) (w : World) : Calls Try.prog 47 #[.int .i64 x] w fun e w' => e = .returned (.bool (x != 0)) ∧ w' = w := by
  go_enter Try.func47, Try.ntmps47
  go_wp2
  go_ret
  exact ⟨rfl, rfl⟩
def firstBad (x y : Int) : Int := if x != 0 then 0 else if y != 0 then 1 else -1
set_option maxHeartbeats 1000000 in
theorem idxBad_any (b : Nat) (x y : Int) (w : World) (c0 : w.cell? ⟨b, 0, none⟩ = some (.int .i64 x)) (c1 : w.cell? ⟨b, 1, none⟩ = some (.int .i64 y)) :
    Calls Try.prog 60 #[.slice (some ⟨b, 0, none⟩) 2 2, .func (.func 47) #[] #[]] w fun e w' => e = .returned (.int .i64 (firstBad x y)) ∧ w' = w := by
  have en := Try.call47
  unfold firstBad
  have HX := Lib.hid (bad_any x w); have HY := Lib.hid (bad_any y w)
  cases hx : (x != 0) with
  | true =>
    rw [hx] at HX; clear hx HY
    go_enter Try.func60, Try.ntmps60
    go_wp2_with fail
    refine wp_loop_rounds 3 ?_
    rw [rounds_succ]
    go_wp2_with fail
    refine HX.out.mono ?_
    rintro e w' ⟨rfl, rfl⟩
    go_wp2
    go_ret
    exact ⟨rfl, rfl⟩
  | false =>
    rw [hx] at HX; clear hx
    cases hy : (y != 0) with
    | true =>
      rw [hy] at HY; clear hy
      go_enter Try.func60, Try.ntmps60
      go_wp2_with fail
      refine wp_loop_rounds 3 ?_
      rw [rounds_succ]
      go_wp2_with fail
      refine HX.out.mono ?_
      rintro e w' ⟨rfl, rfl⟩
      go_wp2_with fail
      rw [rounds_succ]
      go_wp2_with fail
      refine HY.out.mono ?_
      rintro e w' ⟨rfl, rfl⟩
      go_wp2
      go_ret
      exact ⟨rfl, rfl⟩
    | false =>
      rw [hy] at HY; clear hy
      go_enter Try.func60, Try.ntmps60
      go_wp2_with fail
      refine wp_loop_rounds 3 ?_
      rw [rounds_succ]
      go_wp2_with fail
      refine HX.out.mono ?_
      rintro e w' ⟨rfl, rfl⟩
      go_wp2_with fail
      rw [rounds_succ]
      go_wp2_with fail
      refine HY.out.mono ?_
      rintro e w' ⟨rfl, rfl⟩
      go_wp2_with fail
      rw [rounds_succ]
      go_wp2
      go_ret
      exact ⟨rfl, rfl⟩
theorem good_any (b : Nat) (x y : Int) (w : World) (c0 : w.cell? ⟨b, 0, none⟩ = some (.int .i64 x)) (c1 : w.cell? ⟨b, 1, none⟩ = some (.int .i64 y)) :
    Calls Try.prog 25 #[.slice (some ⟨b, 0, none⟩) 2 2] w fun e w' => e = .returned (.bool (decide (x = 0 ∧ y = 0))) ∧ w' = w := by
  have H := Lib.hid (idxBad_any b x y w c0 c1)
  have E : Hid ((!decide (0 ≤ firstBad x y)) = decide (x = 0 ∧ y = 0)) := Lib.hid (by
    unfold firstBad
    by_cases hx : x = 0 <;> by_cases hy : y = 0 <;> simp [hx, hy])
  generalize firstBad x y = r at *
  clear c0 c1
  go_enter Try.func25, Try.ntmps25
  go_wp2_with fail
  have C : Calls Try.prog 46 #[.slice (some ⟨b, 0, none⟩) 2 2, .func (.func 47) #[] #[]] w fun e w' => e = .returned (.bool (decide (0 ≤ r))) ∧ w' = w := by
    go_enter Try.func46, Try.ntmps46
    go_wp2_with fail
    refine H.out.mono ?_
    rintro e w' ⟨rfl, rfl⟩
    go_wp2
    go_ret
    exact ⟨rfl, rfl⟩
  refine C.mono ?_
  rintro e w' ⟨rfl, rfl⟩
  go_wp2
  go_ret
  exact ⟨ret_b E.out, rfl⟩
end Go.Proofs.Ytihiohohocfchaa
