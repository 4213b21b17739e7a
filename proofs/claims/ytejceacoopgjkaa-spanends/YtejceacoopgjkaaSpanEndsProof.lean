/-
  Proved: NaNs are at the ends of the order, -0 is less than 0, and no valid duration is less than 0 (law SpanEnds answers true). No condition.
-/
import Derived.Test.YtejceacoopgjkaaSum
namespace Go.Proofs.Ytejceacoopgjkaa.spanEnds
open Go.ChangeShapes Go.WideShapes Go.ChangeAt Go.RowKit
set_option linter.unusedVariables false

theorem float_lt {b : Nat} (h : (Lit.float .f64 b).wf = true) : b < 18446744073709551616 := by simpa [Lit.wf] using h

theorem nan_any (w : World) : Calls Try.prog 31 #[] w fun e w' => e = .returned (.float .f64 9221120237041090561) ∧ w = w' := by
  have hfr := ffrom
  go_enter Try.func31, Try.ntmps31
  go_wp2
  go_ret
  exact ⟨rfl, rfl⟩
theorem inf_any (w : World) : Calls Try.prog 32 #[.int .i64 1] w fun e w' => e = .returned (.float .f64 9218868437227405312) ∧ w = w' := by
  have hfr := ffrom
  go_enter Try.func32, Try.ntmps32
  go_wp2
  go_ret
  exact ⟨rfl, rfl⟩
theorem copysign_any (w : World) : Calls Try.prog 33 #[.float .f64 0, .float .f64 13830554455654793216] w fun e w' => e = .returned (.float .f64 9223372036854775808) ∧ w = w' := by
  have hfr := ffrom
  have hb := fbits
  have b1 : bits .andNot .u64 0 9223372036854775808 = 0 := by decide +kernel
  have b2 : bits .and .u64 13830554455654793216 9223372036854775808 = 9223372036854775808 := by decide +kernel
  have b3 : bits .or .u64 0 9223372036854775808 = 9223372036854775808 := by decide +kernel
  go_enter Try.func33, Try.ntmps33
  go_wp2
  go_ret
  exact ⟨rfl, rfl⟩

theorem nan_ends {x : Nat} (h : ¬ isN x) (hx : x < 18446744073709551616) : ok x = false ∧ ord x 9218868437227405312 = if 9223372036854775808 ≤ x then -1 else 1 := by
  unfold isN at h
  refine ⟨decide_eq_false (by omega), ?_⟩
  unfold ord rank
  by_cases k : 9223372036854775808 ≤ x
  · rw [if_pos k, if_neg (show ¬ 9223372036854775808 ≤ 9218868437227405312 by omega), if_pos (by omega), if_pos k]
  · rw [if_neg k, if_neg (show ¬ 9223372036854775808 ≤ 9218868437227405312 by omega), if_neg (by omega), if_pos (by omega), if_neg k]
theorem num_ends {x : Nat} (h : isN x) (hx : x < 18446744073709551616) : ord x 9221120237041090561 = -1 ∧ ok x = decide (0 ≤ ord x 0) := by
  unfold isN at h
  unfold ord rank
  by_cases k : 9223372036854775808 ≤ x
  · simp only [if_pos k, if_neg (show ¬ 9223372036854775808 ≤ 9221120237041090561 by omega), if_neg (show ¬ 9223372036854775808 ≤ 0 by omega)]
    rw [if_pos (by omega), if_pos (by omega)]
    exact ⟨rfl, decide_eq_false (by omega)⟩
  · simp only [if_neg k, if_neg (show ¬ 9223372036854775808 ≤ 9221120237041090561 by omega), if_neg (show ¬ 9223372036854775808 ≤ 0 by omega)]
    rw [if_pos (by omega), if_neg (by omega)]
    refine ⟨rfl, ?_⟩
    rw [show ok x = true from decide_eq_true (by omega)]
    split <;> rfl

theorem signed_any (u : Nat) (h : u < 18446744073709551616) (w : World) :
    Calls Try.prog 34 #[.float .f64 u] w fun e w' => e = .returned (.int .i64 (if 9223372036854775808 ≤ u then 1 else 0)) ∧ w = w' := by
  have H := Lib.hid h; clear h
  by_cases k : 9223372036854775808 ≤ u
  · have t : decide (9223372036854775808 ≤ u) = true := decide_eq_true k
    have K := Lib.hid k; clear k
    go_enter Try.func34, Try.ntmps34
    go_wp2_with fail
    refine (signbit_any u H.out _).mono ?_
    rintro e w' ⟨rfl, rfl⟩
    rw [t]
    go_wp2
    go_ret
    exact ⟨rfl, rfl⟩
  · have t : decide (9223372036854775808 ≤ u) = false := decide_eq_false k
    have K := Lib.hid k; clear k
    go_enter Try.func34, Try.ntmps34
    go_wp2_with fail
    refine (signbit_any u H.out _).mono ?_
    rintro e w' ⟨rfl, rfl⟩
    rw [t]
    go_wp2
    go_ret
    exact ⟨rfl, rfl⟩

set_option maxHeartbeats 2000000 in
theorem walk (a0 : Nat) (w : World) (w0 : a0 < 18446744073709551616) :
    Calls Try.prog 6 #[.float .f64 a0] w fun e w' => e = .returned (.bool true) ∧ Below w.heap.size w w' := by
  have ht := isNaN_run a0
  have W0 := Lib.hid w0; clear w0
  go_enter Try.func6, Try.ntmps6
  go_wp2_with fail
  refine (spans_true _).mono ?_
  rintro e w' ⟨rfl, hg⟩
  have HG := Lib.hid hg; clear hg
  go_wp2_with fail
  refine (nan_any _).mono ?_
  rintro e w'' ⟨rfl, rfl⟩
  go_wp2_with fail
  refine (inf_any _).mono ?_
  rintro e w'' ⟨rfl, rfl⟩
  go_wp2_with fail
  refine (copysign_any _).mono ?_
  rintro e w'' ⟨rfl, rfl⟩
  go_wp2_with fail
  refine (order_any _ _ (by omega) (by omega) _).mono ?_
  rintro e w'' ⟨rfl, rfl⟩
  rw [show ord 9223372036854775808 0 = -1 by decide +kernel]
  go_wp2_with fail
  refine (right_any _ (by omega) _).mono ?_
  rintro e w'' ⟨rfl, rfl⟩
  rw [show ok 9223372036854775808 = false by decide +kernel]
  go_wp2_with fail
  refine (right_any _ (by omega) _).mono ?_
  rintro e w'' ⟨rfl, rfl⟩
  rw [show ok 9221120237041090561 = false by decide +kernel]
  go_wp2_with fail
  refine (right_any _ (by omega) _).mono ?_
  rintro e w'' ⟨rfl, rfl⟩
  rw [show ok 9218868437227405312 = true by decide +kernel]
  go_wp2_with fail
  refine (right_any _ (by omega) _).mono ?_
  rintro e w'' ⟨rfl, rfl⟩
  rw [show ok 0 = true by decide +kernel]
  by_cases hN : isN a0
  · rw [decide_eq_true hN] at ht
    have E := Lib.hid (num_ends hN W0.out); clear hN
    go_wp2_with fail
    refine (order_any _ _ W0.out (by omega) _).mono ?_
    rintro e w'' ⟨rfl, rfl⟩
    rw [E.out.1]
    go_wp2_with fail
    refine (right_any _ W0.out _).mono ?_
    rintro e w'' ⟨rfl, rfl⟩
    rw [E.out.2]
    go_wp2_with fail
    refine (order_any _ _ W0.out (by omega) _).mono ?_
    rintro e w'' ⟨rfl, rfl⟩
    generalize ord a0 0 = o at *
    go_wp2
    go_ret
    exact ⟨ret_b (by simp), HG.out⟩
  · rw [decide_eq_false hN] at ht
    have E := Lib.hid (nan_ends hN W0.out); clear hN
    by_cases k : 9223372036854775808 ≤ a0
    · have o := E.out.2
      rw [if_pos k] at o
      have O := Lib.hid o; clear o
      have S : Hid ((if 9223372036854775808 ≤ a0 then (1 : Int) else 0) = 1) := if_pos k
      clear k
      go_wp2_with fail
      refine (right_any _ W0.out _).mono ?_
      rintro e w'' ⟨rfl, rfl⟩
      rw [E.out.1]
      go_wp2_with fail
      refine (order_any _ _ W0.out (by omega) _).mono ?_
      rintro e w'' ⟨rfl, rfl⟩
      rw [O.out]
      go_wp2_with fail
      refine (signed_any _ W0.out _).mono ?_
      rintro e w'' ⟨rfl, rfl⟩
      rw [S.out]
      go_wp2
      go_ret
      exact ⟨rfl, HG.out⟩
    · have o := E.out.2
      rw [if_neg k] at o
      have O := Lib.hid o; clear o
      have S : Hid ((if 9223372036854775808 ≤ a0 then (1 : Int) else 0) = 0) := if_neg k
      clear k
      go_wp2_with fail
      refine (right_any _ W0.out _).mono ?_
      rintro e w'' ⟨rfl, rfl⟩
      rw [E.out.1]
      go_wp2_with fail
      refine (order_any _ _ W0.out (by omega) _).mono ?_
      rintro e w'' ⟨rfl, rfl⟩
      rw [O.out]
      go_wp2_with fail
      refine (signed_any _ W0.out _).mono ?_
      rintro e w'' ⟨rfl, rfl⟩
      rw [S.out]
      go_wp2
      go_ret
      exact ⟨rfl, HG.out⟩

theorem own : ownKnob Try.prog.godebug = none := by kernel_rfl
theorem laidOut : laidOutB Try.prog = true := by kernel_rfl

set_option maxRecDepth 100000 in
theorem lifted (os : Os) (started : os.Started) (H : Type) (enc : TypeId × Value → H) :
    ReturnsInHanded {} Try.checked os 6 .any (Rows.spanEndsSpec.pre6 enc Try.prog Try.f6 Rows.spanEndsRow.domain false) (Rows.spanEndsSpec.post enc Try.prog Try.f6 false true false false) := by
  refine returnsInHanded_of_change (C := Try.checked) own started (by kernel_rfl) Try.func6
    (ChangeSpec.witness6 (enc := enc) (C := Try.checked) false ⟨#[], #[.float .f64 0], []⟩ 8 (by kernel_rfl) (by kernel_rfl) (by kernel_rfl) (by kernel_rfl)) ?_
  intro W base args ds gs before hval0 hW hcnd _
  have hval : ∀ (j : Nat) t v, Try.f6.params[j]? = some t → args[j]? = some v → Value.okWide Try.prog W .any base t v := hval0
  have hW' := hW
  obtain ⟨p, q, hA0, hV, rfl, hfz, hnd⟩ := hW
  have hA : DataW.TrodAll enc Try.prog W 0 (fun _ => true) true Try.f6.params.toList args.toList ds p := hA0
  rw [Try.params6] at hA hval
  obtain ⟨v0, vs0, d0, ds0, p0, q0, hargs, rfl, rfl, h0, r0⟩ := trodAll_cons hA
  obtain ⟨rfl, rfl, rfl⟩ := trodAll_nil r0
  obtain rfl : args = #[v0] := by cases args; simp_all
  obtain ⟨rfl, rfl⟩ := trodVars_none hV
  obtain ⟨a0, rfl, rfl, rfl, wf0⟩ := open_float Try.underlying22 (hval 0 22 v0 rfl rfl) h0
  have w0 := float_lt wf0
  clear hA0 hval0
  refine (walk a0 W w0).mono fun e W' ⟨he, bel⟩ => ?_
  subst he
  exact ⟨_, rfl, _, _, _, [], _, [], hW', trodAll_mk1 (shut_bool Try.underlying4 _), (trodAll_cons_mk (shut_float Try.underlying22 wf0) trodAll_mk0), rfl, bel.frame _, fun h => by cases h⟩

theorem over : Rows.spanEndsRow.holds Try.pinned (OpenSpec.ofChange Rows.spanEndsSpec) :=
  OpenClaim.holds_of_wide 6 Try.f6 rfl rfl rfl rfl rfl rfl rfl ⟨rfl, rfl, rfl, rfl, rfl⟩ rfl rfl rfl rfl rfl (by kernel_rfl) Try.func6 (by kernel_rfl)
    (of_decide_eq_true (by kernel_rfl)) (by unfold Func.isWrapper; first | (rw [if_pos (by decide +kernel)]; kernel_rfl) | (rw [if_neg (by decide +kernel)]; exact ⟨rfl, rfl⟩))
    (fun os started H enc _ => lifted os started H enc)

theorem proved : Rows.SpanEndsSaid :=
  over
#print axioms proved
end Go.Proofs.Ytejceacoopgjkaa.spanEnds
