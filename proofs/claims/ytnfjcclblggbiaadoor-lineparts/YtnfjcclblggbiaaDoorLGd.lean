/-
  What the laws' own good answers of three errors: whether all are OK. No condition.
-/
import Derived.Test.YtnfjcclblggbiaaDoorLIn
namespace Go.Proofs.YtnfjcclblggbiaaDoor
open Go.ChangeShapes Go.WideShapes Go.ChangeAt Go.RowKit

theorem bad_any (x : Int) (w : World) : Calls Tryd.prog 47 #[.int .i64 x] w fun e w' => e = .returned (.bool (x != 0)) ∧ w' = w := by
  go_enter Tryd.func47, Tryd.ntmps47
  go_wp2
  go_ret
  exact ⟨rfl, rfl⟩
/-- the first that is no OK -/
def firstBad (x y z : Int) : Int := if x != 0 then 0 else if y != 0 then 1 else if z != 0 then 2 else -1
set_option maxHeartbeats 1000000 in
theorem idxBad_any (b : Nat) (x y z : Int) (w : World) (c0 : w.cell? ⟨b, 0, none⟩ = some (.int .i64 x)) (c1 : w.cell? ⟨b, 1, none⟩ = some (.int .i64 y)) (c2 : w.cell? ⟨b, 2, none⟩ = some (.int .i64 z)) :
    Calls Tryd.prog 70 #[.slice (some ⟨b, 0, none⟩) 3 3, .func (.func 47) #[] #[]] w fun e w' => e = .returned (.int .i64 (firstBad x y z)) ∧ w' = w := by
  have en := enters_of Tryd.func47 (by kernel_rfl) rfl
  unfold firstBad
  have HX := Lib.hid (bad_any x w); have HY := Lib.hid (bad_any y w); have HZ := Lib.hid (bad_any z w)
  cases hx : (x != 0) with
  | true =>
    rw [hx] at HX; clear hx HY HZ
    go_enter Tryd.func70, Tryd.ntmps70
    go_wp2_with fail
    refine wp_loop_rounds 4 ?_
    rw [rounds_succ]
    go_wp2_with fail
    refine HX.out.mono ?_
    rintro e w' ⟨rfl, rfl⟩
    go_wp2
    go_ret
    exact ⟨rfl, rfl⟩
  | false =>
    rw [hx] at HX; clear hx
    cases hy : (y != 0) with
    | true =>
      rw [hy] at HY; clear hy HZ
      go_enter Tryd.func70, Tryd.ntmps70
      go_wp2_with fail
      refine wp_loop_rounds 4 ?_
      rw [rounds_succ]
      go_wp2_with fail
      refine HX.out.mono ?_
      rintro e w' ⟨rfl, rfl⟩
      go_wp2_with fail
      rw [rounds_succ]
      go_wp2_with fail
      refine HY.out.mono ?_
      rintro e w' ⟨rfl, rfl⟩
      go_wp2
      go_ret
      exact ⟨rfl, rfl⟩
    | false =>
      rw [hy] at HY; clear hy
      cases hz : (z != 0) with
      | true =>
        rw [hz] at HZ; clear hz
        go_enter Tryd.func70, Tryd.ntmps70
        go_wp2_with fail
        refine wp_loop_rounds 4 ?_
        rw [rounds_succ]
        go_wp2_with fail
        refine HX.out.mono ?_
        rintro e w' ⟨rfl, rfl⟩
        go_wp2_with fail
        rw [rounds_succ]
        go_wp2_with fail
        refine HY.out.mono ?_
        rintro e w' ⟨rfl, rfl⟩
        go_wp2_with fail
        rw [rounds_succ]
        go_wp2_with fail
        refine HZ.out.mono ?_
        rintro e w' ⟨rfl, rfl⟩
        go_wp2
        go_ret
        exact ⟨rfl, rfl⟩
      | false =>
        rw [hz] at HZ; clear hz
        go_enter Tryd.func70, Tryd.ntmps70
        go_wp2_with fail
        refine wp_loop_rounds 4 ?_
        rw [rounds_succ]
        go_wp2_with fail
        refine HX.out.mono ?_
        rintro e w' ⟨rfl, rfl⟩
        go_wp2_with fail
        rw [rounds_succ]
        go_wp2_with fail
        refine HY.out.mono ?_
        rintro e w' ⟨rfl, rfl⟩
        go_wp2_with fail
        rw [rounds_succ]
        go_wp2_with fail
        refine HZ.out.mono ?_
        rintro e w' ⟨rfl, rfl⟩
        go_wp2_with fail
        rw [rounds_succ]
        go_wp2
        go_ret
        exact ⟨rfl, rfl⟩

theorem good_any (b : Nat) (x y z : Int) (w : World) (c0 : w.cell? ⟨b, 0, none⟩ = some (.int .i64 x)) (c1 : w.cell? ⟨b, 1, none⟩ = some (.int .i64 y)) (c2 : w.cell? ⟨b, 2, none⟩ = some (.int .i64 z)) :
    Calls Tryd.prog 21 #[.slice (some ⟨b, 0, none⟩) 3 3] w fun e w' => e = .returned (.bool (decide (x = 0 ∧ y = 0 ∧ z = 0))) ∧ w' = w := by
  have H := Lib.hid (idxBad_any b x y z w c0 c1 c2)
  have E : Hid ((!decide (0 ≤ firstBad x y z)) = decide (x = 0 ∧ y = 0 ∧ z = 0)) := Lib.hid (by
    unfold firstBad
    by_cases hx : x = 0 <;> by_cases hy : y = 0 <;> by_cases hz : z = 0 <;> simp [hx, hy, hz])
  generalize firstBad x y z = r at *
  clear c0 c1 c2
  go_enter Tryd.func21, Tryd.ntmps21
  go_wp2_with fail
  have C : Calls Tryd.prog 46 #[.slice (some ⟨b, 0, none⟩) 3 3, .func (.func 47) #[] #[]] w fun e w' => e = .returned (.bool (decide (0 ≤ r))) ∧ w' = w := by
    go_enter Tryd.func46, Tryd.ntmps46
    go_wp2_with fail
    refine H.out.mono ?_
    rintro e w' ⟨rfl, rfl⟩
    go_wp2
    go_ret
    exact ⟨rfl, rfl⟩
  refine C.mono ?_
  rintro e w' ⟨rfl, rfl⟩
  go_wp2
  go_ret
  exact ⟨ret_b E.out, rfl⟩
end Go.Proofs.YtnfjcclblggbiaaDoor
