/-
  Proved: the result of Whole is not farther from 0 than its argument and differs from it by less than 1 (law SpanWhole answers true). No condition.
-/
import Derived.Test.YtejceacoopgjkaaWhole
namespace Go.Proofs.Ytejceacoopgjkaa.spanWhole
open Go.ChangeShapes Go.WideShapes Go.ChangeAt Go.RowKit
set_option linter.unusedVariables false

theorem float_lt {b : Nat} (h : (Lit.float .f64 b).wf = true) : b < 18446744073709551616 := by simpa [Lit.wf] using h

theorem not_le_53 {r : Nat} (h : r < 9223372036854775808) (k : 4845873199050653696 < r) :
    (FloatKind.f64.format.order r 4845873199050653696 == some .lt || FloatKind.f64.format.order r 4845873199050653696 == some .eq) = false := by
  show (Ieee.double.order r 4845873199050653696 == some .lt || Ieee.double.order r 4845873199050653696 == some .eq) = _
  rw [lt_iff, eq_iff, sv_abs h, sv_abs (by omega)]
  have := V_lt k
  rw [decide_eq_false (by rintro ⟨_, _, x⟩; omega), decide_eq_false (by rintro ⟨_, _, x⟩; omega)]; rfl
theorem le_abs {r s : Nat} (h : s ≤ r) (hr : r ≤ 4845873199050653696) :
    (FloatKind.f64.format.order s r == some .lt || FloatKind.f64.format.order s r == some .eq) = true := by
  show (Ieee.double.order s r == some .lt || Ieee.double.order s r == some .eq) = _
  rw [lt_iff, eq_iff, sv_abs (by omega), sv_abs (by omega)]
  have i1 : isN s := by unfold isN; omega
  have i2 : isN r := by unfold isN; omega
  rcases Nat.lt_or_eq_of_le h with k | k
  · have := V_lt k
    rw [decide_eq_true ⟨i1, i2, by omega⟩]; rfl
  · subst k
    rw [decide_eq_true (⟨i1, i2, rfl⟩ : isN s ∧ isN s ∧ (V s : Int) = V s), Bool.or_true]
theorem lt_one {d : Nat} (h : d < 4607182418800017408) : (FloatKind.f64.format.order d 4607182418800017408 == some .lt) = true := by
  show (Ieee.double.order d 4607182418800017408 == some .lt) = _
  rw [lt_iff, sv_abs (by omega), sv_abs (by omega)]
  have := V_lt h
  exact decide_eq_true ⟨by unfold isN; omega, by decide, by omega⟩

/-- what the law asks of the whole part, as one fact -/
theorem facts {u : Nat} (h : u % 9223372036854775808 ≤ 4845873199050653696) : ∃ b d, floatOfInt .f64 (wh u) = b ∧ b < 18446744073709551616 ∧ b % 9223372036854775808 ≤ u % 9223372036854775808 ∧
    floatBits .sub .f64 u b = some d ∧ d < 18446744073709551616 ∧ d % 9223372036854775808 < 4607182418800017408 := by
  obtain ⟨d, hd, hl⟩ := sub_left h
  obtain ⟨r, _, hr, hb⟩ := back h
  refine ⟨_, d, rfl, ?_, ?_, hd, Ieee.double.sub_lt hd, hl⟩
  · have := floatOfInt_wf .f64 (wh u); exact float_lt this
  · rw [hb, word_mod _ (by omega)]; exact hr

set_option maxHeartbeats 2000000 in
theorem walk (a0 : Nat) (w : World) (w0 : a0 < 18446744073709551616) :
    Calls Try.prog 10 #[.float .f64 a0] w fun e w' => e = .returned (.bool true) ∧ Below w.heap.size w w' := by
  have W0 := Lib.hid w0; clear w0
  go_enter Try.func10, Try.ntmps10
  go_wp2_with fail
  refine (spans_true _).mono ?_
  rintro e w' ⟨rfl, hg⟩
  have HG := Lib.hid hg; clear hg
  go_wp2_with fail
  refine (whole_any _ W0.out _).mono ?_
  rintro e w'' (⟨hk, rfl, rfl⟩ | ⟨hk, rfl, rfl⟩)
  · obtain ⟨b, d, e1, hb, hle, hs, hd, hl⟩ := facts hk
    have h1 := le_abs hle hk
    have h2 := lt_one hl
    have hr := fun w => run_float_arith (P := Try.prog) w .sub 22 .f64 a0 b d hs
    have HB := Lib.hid hb
    have HD := Lib.hid hd
    generalize hn : wh a0 = n at e1
    clear hb hd hs hle hl hk hn
    go_wp2_with fail
    refine (abs_any _ HD.out _).mono ?_
    rintro e w'' ⟨rfl, rfl⟩
    go_wp2_with fail
    refine (abs_any _ HB.out _).mono ?_
    rintro e w'' ⟨rfl, rfl⟩
    go_wp2_with fail
    refine (abs_any _ W0.out _).mono ?_
    rintro e w'' ⟨rfl, rfl⟩
    go_wp2
    go_ret
    exact ⟨rfl, HG.out⟩
  · have h1 := not_le_53 (Nat.mod_lt _ (by omega)) hk
    clear hk
    go_wp2_with fail
    refine (abs_any _ W0.out _).mono ?_
    rintro e w'' ⟨rfl, rfl⟩
    go_wp2
    go_ret
    exact ⟨rfl, HG.out⟩

theorem own : ownKnob Try.prog.godebug = none := by kernel_rfl
theorem laidOut : laidOutB Try.prog = true := by kernel_rfl

set_option maxRecDepth 100000 in
theorem lifted (os : Os) (started : os.Started) (H : Type) (enc : TypeId × Value → H) :
    ReturnsInHanded {} Try.checked os 10 .any (Rows.spanWholeSpec.pre6 enc Try.prog Try.f10 Rows.spanWholeRow.domain false) (Rows.spanWholeSpec.post enc Try.prog Try.f10 false true false false) := by
  refine returnsInHanded_of_change (C := Try.checked) own started (by kernel_rfl) Try.func10
    (ChangeSpec.witness6 (enc := enc) (C := Try.checked) false ⟨#[], #[.float .f64 0], []⟩ 8 (by kernel_rfl) (by kernel_rfl) (by kernel_rfl) (by kernel_rfl)) ?_
  intro W base args ds gs before hval0 hW hcnd _
  have hval : ∀ (j : Nat) t v, Try.f10.params[j]? = some t → args[j]? = some v → Value.okWide Try.prog W .any base t v := hval0
  have hW' := hW
  obtain ⟨p, q, hA0, hV, rfl, hfz, hnd⟩ := hW
  have hA : DataW.TrodAll enc Try.prog W 0 (fun _ => true) true Try.f10.params.toList args.toList ds p := hA0
  rw [Try.params10] at hA hval
  obtain ⟨v0, vs0, d0, ds0, p0, q0, hargs, rfl, rfl, h0, r0⟩ := trodAll_cons hA
  obtain ⟨rfl, rfl, rfl⟩ := trodAll_nil r0
  obtain rfl : args = #[v0] := by cases args; simp_all
  obtain ⟨rfl, rfl⟩ := trodVars_none hV
  obtain ⟨a0, rfl, rfl, rfl, wf0⟩ := open_float Try.underlying22 (hval 0 22 v0 rfl rfl) h0
  have w0 := float_lt wf0
  clear hA0 hval0
  refine (walk a0 W w0).mono fun e W' ⟨he, bel⟩ => ?_
  subst he
  exact ⟨_, rfl, _, _, _, [], _, [], hW', trodAll_mk1 (shut_bool Try.underlying4 _), (trodAll_cons_mk (shut_float Try.underlying22 wf0) trodAll_mk0), rfl, bel.frame _, fun h => by cases h⟩

theorem over : Rows.spanWholeRow.holds Try.pinned (OpenSpec.ofChange Rows.spanWholeSpec) :=
  OpenClaim.holds_of_wide 10 Try.f10 rfl rfl rfl rfl rfl rfl rfl ⟨rfl, rfl, rfl, rfl, rfl⟩ rfl rfl rfl rfl rfl (by kernel_rfl) Try.func10 (by kernel_rfl)
    (of_decide_eq_true (by kernel_rfl)) (by unfold Func.isWrapper; first | (rw [if_pos (by decide +kernel)]; kernel_rfl) | (rw [if_neg (by decide +kernel)]; exact ⟨rfl, rfl⟩))
    (fun os started H enc _ => lifted os started H enc)

theorem proved : Rows.SpanWholeSaid :=
  over
#print axioms proved
end Go.Proofs.Ytejceacoopgjkaa.spanWhole
