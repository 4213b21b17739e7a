/-
  Package dom's comparison of two numbers by how many each dominates; slices.SortFunc at a nil slice of numbers. No condition.
-/
import Derived.Test.YtjmomgmbmgdeoaaDoorHDa
import Derived.Test.YtjmomgmbmgdeoaaDoorHKb
import Derived.BigQuiet
namespace Go.Proofs.YtjmomgmbmgdeoaaDoor
set_option maxRecDepth 100000
set_option linter.unusedVariables false
open Go.ChangeShapes Go.WideShapes Go.ChangeAt Go.RowKit

/-- how a number of the row is laid, whatever it is -/
def encD (L : Nat) (x : Nat) : Value := .int .i64 ((x % L : Nat) : Int)
theorem cfD_eq (R : List Bv) (x y : Nat) : (if ((keyD R y : Nat) : Int) < ((keyD R x : Nat) : Int) then (-1 : Int) else if ((keyD R x : Nat) : Int) < ((keyD R y : Nat) : Int) then 1 else 0) = cfD R x y := by
  unfold cfD
  simp only [Int.ofNat_lt]
set_option maxHeartbeats 4000000 in
theorem cmpD_any {w : World} {v : Value} {R : List Bv} {q : Nat} (h : WIn w v R) (hq : w.cell? ⟨q, 0, none⟩ = some v) (h0 : 0 < R.length) (hl : R.length ≤ 64) (x y : Nat) :
    Calls Tryd.prog 36 #[encD R.length x, encD R.length y, .pointer (some ⟨q, 0, none⟩)] w fun e w' => e = .returned (.int .i64 (cfD R x y)) ∧ ∃ m, w' = w.drewN m := by
  obtain ⟨a, c, rfl, hc⟩ := h
  have hx : x % R.length < R.length := Nat.mod_lt _ h0
  have hy : y % R.length < R.length := Nat.mod_lt _ h0
  obtain ⟨b, off, rfl, c1⟩ := hc _ hx
  obtain ⟨b', off', e, c2⟩ := hc _ hy
  cases e
  have CX := Lib.hid (fun W => count (wAt R (x % R.length)) W)
  have CY := Lib.hid (fun W => count (wAt R (y % R.length)) W)
  have CM := Lib.hid (fun W => compareI_any ((keyD R y : Nat) : Int) ((keyD R x : Nat) : Int) W)
  rw [cfD_eq] at CM
  have kx : cnt (wAt R (x % R.length)) = keyD R x := rfl
  have ky : cnt (wAt R (y % R.length)) = keyD R y := rfl
  rw [kx] at CX
  rw [ky] at CY
  clear kx ky hc
  have i1 : ((x % R.length : Nat) : Int) < (R.length : Int) := by omega
  have i2 : ((y % R.length : Nat) : Int) < (R.length : Int) := by omega
  unfold encD
  generalize cfD R x y = r at *
  generalize keyD R x = kx at *
  generalize keyD R y = ky at *
  generalize (wAt R (x % R.length)).toNat = ex at *
  generalize (wAt R (y % R.length)).toNat = ey at *
  generalize x % R.length = mx at *
  generalize y % R.length = my at *
  generalize R.length = L at *
  go_enter Tryd.func36, Tryd.ntmps36
  go_wp2_with fail
  go_quiet (first
    | (go_at_call 38; first | exact Calls.quiet_of_same ((CX.out _).mono fun _ _ k => ⟨k.1, k.2.symm⟩) | exact Calls.quiet_of_same ((CY.out _).mono fun _ _ k => ⟨k.1, k.2.symm⟩))
    | (go_at_call 37; exact Calls.quiet_of_same (CM.out _)))
  go_wp2
  go_ret
  exact ⟨rfl, _, rfl⟩
theorem ltD (R : List Bv) (x y : Nat) : decide (cfD R x y < 0) = decide (keyD R y < keyD R x) := by
  unfold cfD
  by_cases h : keyD R y < keyD R x
  · rw [if_pos h, decide_eq_true h]; rfl
  · rw [if_neg h, decide_eq_false h]
    by_cases k : keyD R x < keyD R y
    · rw [if_pos k]; rfl
    · rw [if_neg k]; rfl

/-! slices.SortFunc at no number -/
theorem insNone_any (fv : Value) (w : World) : Calls Tryd.prog 48 #[.slice none 0 0, .int .i64 0, .int .i64 0, fv] w fun e w' => e = .returned (.tuple #[]) ∧ w' = w := by
  go_enter Tryd.func48, Tryd.ntmps48
  go_wp2_with fail
  refine wp_loop_rounds 1 ?_
  rw [rounds_succ]
  go_wp2
  go_end0
  exact ⟨rfl, rfl⟩
theorem lenNone_any (w : World) : Calls Tryd.prog 43 #[.int .u64 0] w fun e w' => (∃ n : Nat, e = .returned (.int .i64 (n : Int))) ∧ w' = w := by
  have L64 : Hid (Calls Tryd.prog 57 #[.int .u64 0] w fun e w' => (∃ n : Nat, e = .returned (.int .i64 (n : Int))) ∧ w' = w) :=
    (len_any 0 w (Int.le_refl _) (by omega)).mono fun e w' ⟨n, h1, _, _, h2⟩ => ⟨⟨n, h1⟩, h2.symm⟩
  go_enter Tryd.func43, Tryd.ntmps43
  go_wp2_with fail
  refine L64.out.mono ?_
  rintro e w' ⟨⟨n, rfl⟩, rfl⟩
  go_wp2
  go_ret
  exact ⟨⟨n, rfl⟩, rfl⟩
set_option maxHeartbeats 1000000 in
theorem pdqNone_any (lim : Int) (fv : Value) (w : World) : Calls Tryd.prog 42 #[.slice none 0 0, .int .i64 0, .int .i64 0, .int .i64 lim, fv] w fun e w' => e = .returned (.tuple #[]) ∧ w' = w := by
  have INS := Lib.hid (fun W => insNone_any fv W)
  go_enter Tryd.func42, Tryd.ntmps42
  go_wp2_with fail
  refine wp_loop_rounds 1 ?_
  rw [rounds_succ]
  go_wp2_with fail
  refine (INS.out _).mono ?_
  rintro e w' ⟨rfl, rfl⟩
  go_wp2
  (try simp only [Exit.inBlock, Exit.then])
  refine bodyPost_ret (results_none rfl _ _ _) rfl ?_
  exact ⟨rfl, rfl⟩
theorem sortNone_any (fv : Value) (w : World) : Calls Tryd.prog 35 #[.slice none 0 0, fv] w fun e w' => e = .returned (.tuple #[]) ∧ w' = w := by
  have LN := Lib.hid (fun W => lenNone_any W)
  have PQ := Lib.hid (fun n W => pdqNone_any n fv W)
  go_enter Tryd.func35, Tryd.ntmps35
  go_wp2_with fail
  refine (LN.out _).mono ?_
  rintro e w' ⟨⟨n, rfl⟩, rfl⟩
  go_wp2_with fail
  refine (PQ.out _ _).mono ?_
  rintro e w' ⟨rfl, rfl⟩
  go_wp2
  go_end0
  exact ⟨rfl, rfl⟩
end Go.Proofs.YtjmomgmbmgdeoaaDoor
