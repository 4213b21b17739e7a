/-
  Proved: Order is a total order that distinguishes all bit patterns and agrees with the numeric order (law SpanOrder answers true). No condition.
-/
import Derived.Test.YtejceacoopgjkaaSum
namespace Go.Proofs.Ytejceacoopgjkaa.spanOrder
open Go.ChangeShapes Go.WideShapes Go.ChangeAt Go.RowKit
set_option linter.unusedVariables false

theorem float_lt {b : Nat} (h : (Lit.float .f64 b).wf = true) : b < 18446744073709551616 := by simpa [Lit.wf] using h

theorem ord_swap (a b : Nat) : ord b a = - ord a b := by
  unfold ord; split <;> split <;> first | omega | (split <;> omega) | skip
theorem ord_zero {a b : Nat} (ha : a < 18446744073709551616) (hb : b < 18446744073709551616) : (ord a b == 0) = ((a : Int) == (b : Int)) := by
  unfold ord
  by_cases h : a = b
  · subst h; rw [if_neg (Nat.lt_irrefl _), if_neg (Nat.lt_irrefl _)]; simp
  · have hr : rank a ≠ rank b := fun k => h (rank_inj ha hb k)
    rw [show ((a : Int) == (b : Int)) = false by rw [beq_eq_false_iff_ne]; omega]
    by_cases k : rank a < rank b
    · rw [if_pos k]; rfl
    · rw [if_neg k, if_pos (by omega)]; rfl
theorem ord_trans {a b c : Nat} (h1 : ord a b < 0) (h2 : ord b c < 0) : ord a c < 0 := by
  unfold ord at *
  split at h1
  · split at h2
    · rw [if_pos (by omega)]; omega
    · split at h2 <;> omega
  · split at h1 <;> omega
theorem ord_lt {a b : Nat} (ha : a < 18446744073709551616) (hb : b < 18446744073709551616) (h : (FloatKind.f64.format.order a b == some .lt) = true) : ord a b < 0 := by
  have h : (Ieee.double.order a b == some .lt) = true := h
  rw [lt_iff] at h
  have := rank_of_sv ha hb (of_decide_eq_true h).2.2
  unfold ord; rw [if_pos this]; omega
theorem ord_gt {a b : Nat} (ha : a < 18446744073709551616) (hb : b < 18446744073709551616) (h : (FloatKind.f64.format.order a b == some .gt) = true) : 0 < ord a b := by
  have h : (Ieee.double.order a b == some .gt) = true := h
  rw [gt_iff] at h
  have := rank_of_sv hb ha (of_decide_eq_true h).2.2
  unfold ord; rw [if_neg (by omega), if_pos this]; omega

set_option maxHeartbeats 2000000 in
theorem walk (a0 a1 a2 : Nat) (w : World) (w0 : a0 < 18446744073709551616) (w1 : a1 < 18446744073709551616) (w2 : a2 < 18446744073709551616) :
    Calls Try.prog 5 #[.float .f64 a0, .float .f64 a1, .float .f64 a2] w fun e w' => e = .returned (.bool true) ∧ Below w.heap.size w w' := by
  have hb := fbits
  have s1 := ord_swap a0 a1
  have s2 := ord_zero w0 w1
  have s3 := @ord_trans a0 a1 a2
  have s4 := @ord_lt a0 a1 w0 w1
  have s5 := @ord_gt a0 a1 w0 w1
  have W0 := Lib.hid w0; clear w0
  have W1 := Lib.hid w1; clear w1
  have W2 := Lib.hid w2; clear w2
  have O1 : ord a0 a1 = -1 ∨ ord a0 a1 = 0 ∨ ord a0 a1 = 1 := by unfold ord; split; exact .inl rfl; split; exact .inr (.inr rfl); exact .inr (.inl rfl)
  have O2 : ord a1 a2 = -1 ∨ ord a1 a2 = 0 ∨ ord a1 a2 = 1 := by unfold ord; split; exact .inl rfl; split; exact .inr (.inr rfl); exact .inr (.inl rfl)
  have O3 : ord a0 a2 = -1 ∨ ord a0 a2 = 0 ∨ ord a0 a2 = 1 := by unfold ord; split; exact .inl rfl; split; exact .inr (.inr rfl); exact .inr (.inl rfl)
  have S1 := Lib.hid s1; clear s1
  go_enter Try.func5, Try.ntmps5
  go_wp2_with fail
  refine (spans_true _).mono ?_
  rintro e w' ⟨rfl, hg⟩
  have HG := Lib.hid hg; clear hg
  go_wp2_with fail
  refine (order_any _ _ W0.out W1.out _).mono ?_
  rintro e w'' ⟨rfl, rfl⟩
  go_wp2_with fail
  refine (order_any _ _ W1.out W2.out _).mono ?_
  rintro e w'' ⟨rfl, rfl⟩
  go_wp2_with fail
  refine (order_any _ _ W0.out W2.out _).mono ?_
  rintro e w'' ⟨rfl, rfl⟩
  go_wp2_with fail
  refine (order_any _ _ W1.out W0.out _).mono ?_
  rintro e w'' ⟨rfl, rfl⟩
  rw [S1.out]
  generalize ord a0 a1 = x at *
  generalize ord a1 a2 = y at *
  generalize ord a0 a2 = z at *
  clear S1
  rcases O1 with rfl | rfl | rfl
  · have t : ((a0 : Int) == (a1 : Int)) = false := s2.symm
    have g : (FloatKind.f64.format.order a0 a1 == some .gt) = false := by
      cases k : (FloatKind.f64.format.order a0 a1 == some .gt)
      · rfl
      · exact absurd (s5 k) (by decide)
    clear s2 s4 s5
    cases l : (FloatKind.f64.format.order a0 a1 == some .lt)
    all_goals
      rcases O2 with rfl | rfl | rfl
      · have hz := s3 (by decide) (by decide)
        obtain rfl : z = -1 := by omega
        clear s3 hz O3
        go_wp2
        go_ret
        exact ⟨rfl, HG.out⟩
      · clear s3 O3
        go_wp2
        go_ret
        exact ⟨rfl, HG.out⟩
      · clear s3 O3
        go_wp2
        go_ret
        exact ⟨rfl, HG.out⟩
  · have t : ((a0 : Int) == (a1 : Int)) = true := s2.symm
    have l : (FloatKind.f64.format.order a0 a1 == some .lt) = false := by
      cases k : (FloatKind.f64.format.order a0 a1 == some .lt)
      · rfl
      · exact absurd (s4 k) (by decide)
    have g : (FloatKind.f64.format.order a0 a1 == some .gt) = false := by
      cases k : (FloatKind.f64.format.order a0 a1 == some .gt)
      · rfl
      · exact absurd (s5 k) (by decide)
    clear s2 s3 s4 s5 O2 O3
    go_wp2
    go_ret
    exact ⟨rfl, HG.out⟩
  · have t : ((a0 : Int) == (a1 : Int)) = false := s2.symm
    have l : (FloatKind.f64.format.order a0 a1 == some .lt) = false := by
      cases k : (FloatKind.f64.format.order a0 a1 == some .lt)
      · rfl
      · exact absurd (s4 k) (by decide)
    clear s2 s3 s4 s5 O2 O3
    cases g : (FloatKind.f64.format.order a0 a1 == some .gt)
    all_goals
      go_wp2
      go_ret
      exact ⟨rfl, HG.out⟩

theorem own : ownKnob Try.prog.godebug = none := by kernel_rfl
theorem laidOut : laidOutB Try.prog = true := by kernel_rfl

set_option maxRecDepth 100000 in
theorem lifted (os : Os) (started : os.Started) (H : Type) (enc : TypeId × Value → H) :
    ReturnsInHanded {} Try.checked os 5 .any (Rows.spanOrderSpec.pre6 enc Try.prog Try.f5 Rows.spanOrderRow.domain false) (Rows.spanOrderSpec.post enc Try.prog Try.f5 false true false false) := by
  refine returnsInHanded_of_change (C := Try.checked) own started (by kernel_rfl) Try.func5
    (ChangeSpec.witness6 (enc := enc) (C := Try.checked) false ⟨#[], #[.float .f64 0, .float .f64 0, .float .f64 0], []⟩ 8 (by kernel_rfl) (by kernel_rfl) (by kernel_rfl) (by kernel_rfl)) ?_
  intro W base args ds gs before hval0 hW hcnd _
  have hval : ∀ (j : Nat) t v, Try.f5.params[j]? = some t → args[j]? = some v → Value.okWide Try.prog W .any base t v := hval0
  have hW' := hW
  obtain ⟨p, q, hA0, hV, rfl, hfz, hnd⟩ := hW
  have hA : DataW.TrodAll enc Try.prog W 0 (fun _ => true) true Try.f5.params.toList args.toList ds p := hA0
  rw [Try.params5] at hA hval
  obtain ⟨v0, vs0, d0, ds0, p0, q0, hargs, rfl, rfl, h0, r0⟩ := trodAll_cons hA
  obtain ⟨v1, vs1, d1, ds1, p1, q1, rfl, rfl, rfl, h1, r1⟩ := trodAll_cons r0
  obtain ⟨v2, vs2, d2, ds2, p2, q2, rfl, rfl, rfl, h2, r2⟩ := trodAll_cons r1
  obtain ⟨rfl, rfl, rfl⟩ := trodAll_nil r2
  obtain rfl : args = #[v0, v1, v2] := by cases args; simp_all
  obtain ⟨rfl, rfl⟩ := trodVars_none hV
  obtain ⟨a0, rfl, rfl, rfl, wf0⟩ := open_float Try.underlying22 (hval 0 22 v0 rfl rfl) h0
  have w0 := float_lt wf0
  obtain ⟨a1, rfl, rfl, rfl, wf1⟩ := open_float Try.underlying22 (hval 1 22 v1 rfl rfl) h1
  have w1 := float_lt wf1
  obtain ⟨a2, rfl, rfl, rfl, wf2⟩ := open_float Try.underlying22 (hval 2 22 v2 rfl rfl) h2
  have w2 := float_lt wf2
  clear hA0 hval0
  refine (walk a0 a1 a2 W w0 w1 w2).mono fun e W' ⟨he, bel⟩ => ?_
  subst he
  exact ⟨_, rfl, _, _, _, [], _, [], hW', trodAll_mk1 (shut_bool Try.underlying4 _), (trodAll_cons_mk (shut_float Try.underlying22 wf0) (trodAll_cons_mk (shut_float Try.underlying22 wf1) (trodAll_cons_mk (shut_float Try.underlying22 wf2) trodAll_mk0))), rfl, bel.frame _, fun h => by cases h⟩

theorem over : Rows.spanOrderRow.holds Try.pinned (OpenSpec.ofChange Rows.spanOrderSpec) :=
  OpenClaim.holds_of_wide 5 Try.f5 rfl rfl rfl rfl rfl rfl rfl ⟨rfl, rfl, rfl, rfl, rfl⟩ rfl rfl rfl rfl rfl (by kernel_rfl) Try.func5 (by kernel_rfl)
    (of_decide_eq_true (by kernel_rfl)) (by unfold Func.isWrapper; first | (rw [if_pos (by decide +kernel)]; kernel_rfl) | (rw [if_neg (by decide +kernel)]; exact ⟨rfl, rfl⟩))
    (fun os started H enc _ => lifted os started H enc)

theorem proved : Rows.SpanOrderSaid :=
  over
#print axioms proved
end Go.Proofs.Ytejceacoopgjkaa.spanOrder
