/-
  That the law's own look at package name (names) is passed; slices.Contains, slices.Equal at strings; slices.BinarySearch and package name's Find. No condition but those of the slices.
-/
import Derived.Test.YtdencbkepiaigaaDoorNSort
import Derived.Deep.LoopGhost
import Derived.Deep.Draws
import Derived.Lib.Walk
namespace Go.Proofs.YtdencbkepiaigaaDoor
open Go.ChangeShapes Go.WideShapes Go.ChangeAt Go.RowKit

theorem ret2_ib {a b : Int} {x y : Bool} (h : a = b) (k : x = y) : Ending.returned (.tuple #[.int .i64 a, .bool x]) = .returned (.tuple #[.int .i64 b, .bool y]) := by rw [h, k]

theorem eqS (P : Program) (T : TypeId) : EqlAt P T encStr (fun x y => decide (x = y)) :=
  ⟨fun x y w => by
    have : (binOp .eql T (.string (bs x)) (.string (bs y))).run P w = .ok (.bool ((bs x).toList == (bs y).toList)) w := (EqlAt.string P T).1 (bs x) (bs y) w
    rw [bs_toList, bs_toList, beq_dec] at this
    exact this, fun op a b x y w => (EqlAt.string P T).2 op a b (bs x) (bs y) w⟩
theorem contains_of {w : World} {v : Value} {z : List Str} (h : SIn w v z) (x : Str) :
    Calls Tryd.prog 23 #[v, .string (bs x)] w fun e w' => e = .returned (.bool (decide (x ∈ z))) ∧ w' = w := by
  rcases h.open with ⟨rfl, a, cap, rfl⟩ | ⟨_, b, off, cap, rfl, _, _, hc⟩
  · have := AnyE.slices_Contains_empty (P := Tryd.prog) (ρ := containsL_ren) containsL a cap (.string (bs x)) w
    refine Calls.mono (show Calls Tryd.prog 23 _ _ _ from this) ?_
    rintro e w' ⟨rfl, rfl⟩
    exact ⟨ret_b (by simp), rfl⟩
  · have hn := h.bound
    have := AnyE.slices_Contains containsL encStr (fun x y => decide (x = y)) (eqS _ _) b off z.length cap z x w (Nat.le_refl _) (by omega) (fun j hj => by rw [hc j hj, bang_getD z j hj]; rfl)
    refine Calls.mono (show Calls Tryd.prog 23 _ _ _ from this) ?_
    rintro e w' ⟨rfl, rfl⟩
    refine ⟨ret_b ?_, rfl⟩
    rw [List.take_length]
    by_cases hx : x ∈ z
    · rw [decide_eq_true hx, List.any_eq_true]; exact ⟨x, hx, by simp⟩
    · rw [decide_eq_false hx, List.any_eq_false]; intro y hy; simp; rintro rfl; exact hx hy

/-! cmp.Less, BinarySearch -/
theorem isNaN_any (s : ByteArray) (w : World) : Calls Tryd.prog 105 #[.string s] w fun e w' => e = .returned (.bool false) ∧ w' = w := by
  go_enter Tryd.func105, Tryd.ntmps105
  go_wp2
  go_ret
  exact ⟨ret_b (by simp), rfl⟩
theorem less_any (x y : Str) (w : World) : Calls Tryd.prog 92 #[.string (bs x), .string (bs y)] w fun e w' => e = .returned (.bool (decide (x < y))) ∧ w' = w := by
  have e1 : Hid (Op.bytesLess (bs x).toList (bs y).toList = decide (x < y)) := by show _ = _; rw [bs_toList, bs_toList]; exact bytesLess_eq x y
  go_enter Tryd.func92, Tryd.ntmps92
  go_wp2_with fail
  refine (isNaN_any _ _).mono ?_
  rintro e w' ⟨rfl, rfl⟩
  go_wp2
  go_ret
  exact ⟨ret_b e1.out, rfl⟩

/-- where x stands, or would stand, in the list -/
def Found (z : List Str) (x : Str) (e : Ending) : Prop :=
  ∃ i, i ≤ z.length ∧ (∀ t, t < i → z.getD t [] < x) ∧ (∀ t, i ≤ t → t < z.length → x ≤ z.getD t []) ∧
    ((i < z.length ∧ z.getD i [] = x ∧ e = .returned (.tuple #[.int .i64 i, .bool true])) ∨ ((∀ t, t < z.length → z.getD t [] ≠ x) ∧ e = .returned (.tuple #[.int .i64 i, .bool false])))

/-- what Find hands back -/
def FindPost (z : List Str) (x : Str) (e : Ending) : Prop :=
  (∃ i : Nat, i < z.length ∧ z.getD i [] = x ∧ e = .returned (.tuple #[.int .i64 i, .bool true])) ∨ x ∉ z ∧ e = .returned (.tuple #[.int .i64 0, .bool false])

/-! the law's own look -/
theorem uniq_ba : uniq [[98], [97]] = [[97], [98]] := by
  refine (uniq_congr (b := [[97], [98]]) fun x => ?_).trans (uniq_self ?_)
  · simp [or_comm]
  · unfold Up; simp; decide
theorem good_ba : ([[98], [97]] : List Str).all good = true := by decide

end Go.Proofs.YtdencbkepiaigaaDoor
