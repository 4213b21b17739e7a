/-
  What package span's Whole and math.Abs answer, and the reference's WholePart. No condition.
-/
import Derived.Test.YtejceacoopgjkaaSum
import Derived.Test.YtejceacoopgjkaaWh
namespace Go.Proofs.Ytejceacoopgjkaa
open Go.ChangeShapes Go.WideShapes Go.ChangeAt Go.RowKit

theorem abs_bits {u : Nat} (h : u < 18446744073709551616) : bits .andNot .u64 (u : Int) 9223372036854775808 = ((u % 9223372036854775808 : Nat) : Int) := by
  obtain ⟨s, rfl⟩ := word_nat h
  have e := bv_andNot s (BitVec.ofNat 64 9223372036854775808)
  rw [show ((BitVec.ofNat 64 9223372036854775808).toNat : Int) = 9223372036854775808 from rfl] at e
  rw [e, BitVec.toNat_and, show (~~~(BitVec.ofNat 64 9223372036854775808)).toNat = 2 ^ 63 - 1 by decide, Nat.and_two_pow_sub_one_eq_mod]
theorem abs_any (u : Nat) (h : u < 18446744073709551616) (w : World) :
    Calls Try.prog 42 #[.float .f64 u] w fun e w' => e = .returned (.float .f64 (u % 9223372036854775808)) ∧ w = w' := by
  have hb := fbits
  have hfr := ffrom
  have ha := abs_bits h
  have H := Lib.hid h; clear h
  have HA : Hid (((u % 9223372036854775808 : Nat) : Int).toNat = u % 9223372036854775808) := Int.toNat_natCast _
  generalize u % 9223372036854775808 = r at *
  go_enter Try.func42, Try.ntmps42
  go_wp2
  go_ret
  exact ⟨rfl, rfl⟩

theorem sv_abs {r : Nat} (h : r < 9223372036854775808) : sv r = (V r : Int) := by
  unfold sv; rw [sb_false h, Nat.mod_eq_of_lt h]; rfl
theorem gt_53 {r : Nat} (h : r < 9223372036854775808) (hn : isN r) : (FloatKind.f64.format.order r 4845873199050653696 == some .gt) = decide (4845873199050653696 < r) := by
  show (Ieee.double.order r 4845873199050653696 == some .gt) = _
  rw [gt_iff, sv_abs h, sv_abs (by omega)]
  have i : isN 4845873199050653696 := by decide
  by_cases k : 4845873199050653696 < r
  · have := V_lt k
    rw [decide_eq_true k, decide_eq_true]; exact ⟨hn, i, by omega⟩
  · have := V_le (show r ≤ 4845873199050653696 by omega)
    rw [decide_eq_false k, decide_eq_false]; rintro ⟨_, _, x⟩; omega
theorem isN_abs (u : Nat) : isN (u % 9223372036854775808) ↔ isN u := by unfold isN; rw [Nat.mod_mod]

/-- what Whole hands back -/
def WholePost (u : Nat) (w : World) (e : Ending) (w' : World) : Prop :=
  (u % 9223372036854775808 ≤ 4845873199050653696 ∧ e = .returned (.tuple #[.int .i64 (wh u), .int .i64 0]) ∧ w = w') ∨
  (4845873199050653696 < u % 9223372036854775808 ∧ e = .returned (.tuple #[.int .i64 0, .int .i64 4]) ∧ w = w')

set_option maxHeartbeats 1000000 in
theorem whole_any (u : Nat) (h : u < 18446744073709551616) (w : World) :
    Calls Try.prog 22 #[.float .f64 u] w (WholePost u w) := by
  have ht := isNaN_run u
  have hr : u % 9223372036854775808 < 9223372036854775808 := Nat.mod_lt _ (by omega)
  have H := Lib.hid h; clear h
  by_cases hN : isN u
  · rw [decide_eq_true hN] at ht
    have hg := gt_53 hr ((isN_abs u).2 hN)
    by_cases k : 4845873199050653696 < u % 9223372036854775808
    · rw [decide_eq_true k] at hg
      have K := Lib.hid k; clear k
      clear hr hN
      go_enter Try.func22, Try.ntmps22
      go_wp2_with (go_at_call 45; go_in)
      refine (abs_any u H.out _).mono ?_
      rintro e w' ⟨rfl, rfl⟩
      go_wp2
      go_ret2
      exact .inr ⟨K.out, rfl, rfl⟩
    · rw [decide_eq_false k] at hg
      have hc := fun w => run_convert_float_int (P := Try.prog) w 22 2 .f64 .i64 u (wh u) (by rw [Try.underlying22]; rfl) Try.underlying2 (whole_val (by omega))
      have K := Lib.hid k; clear k
      clear hr hN
      go_enter Try.func22, Try.ntmps22
      go_wp2_with (go_at_call 45; go_in)
      refine (abs_any u H.out _).mono ?_
      rintro e w' ⟨rfl, rfl⟩
      go_wp2
      go_ret2
      exact .inl ⟨by have := K.out; omega, rfl, rfl⟩
  · rw [decide_eq_false hN] at ht
    have K : Hid (4845873199050653696 < u % 9223372036854775808) := by unfold isN at hN; show _ < _; omega
    clear hr hN
    go_enter Try.func22, Try.ntmps22
    go_wp2
    go_ret2
    exact .inr ⟨K.out, rfl, rfl⟩
end Go.Proofs.Ytejceacoopgjkaa
