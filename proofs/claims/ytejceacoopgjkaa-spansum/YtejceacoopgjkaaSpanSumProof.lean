/-
  Proved: a sum of valid durations is valid and not less than any of them, and does not decrease if one is added (law SpanSum answers true). No condition.
-/
import Derived.Test.YtejceacoopgjkaaCont
namespace Go.Proofs.Ytejceacoopgjkaa.spanSum
open Go.ChangeShapes Go.WideShapes Go.ChangeAt Go.RowKit
set_option linter.unusedVariables false

theorem float_lt {b : Nat} (h : (Lit.float .f64 b).wf = true) : b < 18446744073709551616 := by simpa [Lit.wf] using h

/-- what the calls on the slice hand back, whatever slice came in -/
theorem sum_fls {a : Option Addr} {len cap : Nat} {f : Nat → Nat} {w0 w : World} (h : Fls w0 a len cap f) (hb : Below w0.heap.size w0 w) :
    Calls Try.prog 17 #[.slice a len cap] w fun e w' => e = .returned (.float .f64 (endS (sumTo f len))) ∧ ∃ m, w' = w.drewN m := by
  obtain ⟨h1, h2, h3, h4⟩ := h
  rcases h4 with rfl | ⟨b, off, rfl, hlt, hc⟩
  · exact (sum_none a cap w).mono fun e w' k => ⟨k.1, 0, k.2.symm⟩
  · exact sum_any len cap b off f w (by omega) (fun k hk => cell_later hb (hc k hk))
theorem cont_fls {a : Option Addr} {len cap : Nat} {f : Nat → Nat} {w0 w : World} (h : Fls w0 a len cap f) (hb : Below w0.heap.size w0 w) :
    Calls Try.prog 35 #[.slice a len cap, .func (.func 36) #[] #[]] w (ContPost f len w) := by
  obtain ⟨h1, h2, h3, h4⟩ := h
  rcases h4 with rfl | ⟨b, off, rfl, hlt, hc⟩
  · exact (contains_none a cap _ w).mono fun e w' k => .inl ⟨k.1, fun i hi => absurd hi (Nat.not_lt_zero _), k.2⟩
  · exact contains_any len cap b off f w (by omega) h3 (fun k hk => cell_later hb (hc k hk))
/-- Most: 0, or the greatest -/
theorem most_fls {a : Option Addr} {len cap : Nat} {f : Nat → Nat} {w0 w : World} (h : Fls w0 a len cap f) (hb : Below w0.heap.size w0 w) :
    Calls Try.prog 21 #[.slice a len cap] w fun e w' => (∃ m, (len = 0 ∧ m = 0 ∨ 0 < len ∧ Top f len m) ∧ e = .returned (.float .f64 m)) ∧ w = w' := by
  obtain ⟨h1, h2, h3, h4⟩ := h
  rcases h4 with rfl | ⟨b, off, rfl, hlt, hc⟩
  · exact (most_none a cap w).mono fun e w' k => ⟨⟨0, .inl ⟨rfl, rfl⟩, k.1⟩, k.2⟩
  · by_cases h0 : len = 0
    · subst h0; exact (most_none _ cap w).mono fun e w' k => ⟨⟨0, .inl ⟨rfl, rfl⟩, k.1⟩, k.2⟩
    · exact (most_any len cap b off f w (by omega) (by omega) h3 (fun k hk => cell_later hb (hc k hk))).mono fun e w' k => ⟨by obtain ⟨m, hm, e⟩ := k.1; exact ⟨m, .inr ⟨by omega, hm⟩, e⟩, k.2⟩
theorem clone_fls {a : Option Addr} {len cap : Nat} {f : Nat → Nat} {w0 w : World} (h : Fls w0 a len cap f) (hb : Below w0.heap.size w0 w) :
    Calls Try.prog 37 #[.slice a len cap] w fun e w' => ∃ v, e = .returned v ∧ w'.ownsRow w.heap.size 22 1 v len (fls f len) ∧ Below w.heap.size w w' := by
  obtain ⟨h1, h2, h3, h4⟩ := h
  rcases h4 with rfl | ⟨b, off, rfl, hlt, hc⟩
  · cases a with
    | none => exact (clone_nil 0 cap w).mono fun e w' k => ⟨_, k.1, k.2 ▸ World.ownsRow_nil _ _ _ _, k.2 ▸ Below.refl _ _⟩
    | some x => exact clone_some x 0 cap f w (by omega) (fun k hk => absurd hk (Nat.not_lt_zero _))
  · refine clone_some _ len cap f w (by omega) (fun k hk => cell_later hb ?_)
    rw [← hc k hk]
    congr 1
    unfold Addr.add
    by_cases k0 : k = 0 <;> simp [k0]

theorem row_form {w : World} {base : Nat} {e : TypeId} {size : Nat} {v : Value} {n : Nat} {xs : List Value} (h : w.ownsRow base e size v n xs) (hn : 0 < n) : ∃ g cap, v = .slice (some ⟨g, 0, none⟩) n cap := by
  rcases h.2 with ⟨_, h0⟩ | ⟨g, cap, _, hv, _⟩
  · omega
  · exact ⟨g, cap, hv⟩
/-- the law's tests on the numbers -/
theorem facts {f : Nat → Nat} {len x : Nat} (ha : ∀ i, i < len → ok (f i) = true) (hx : ok x = true) (g : Nat → Nat) (hg : ∀ i, i < len → g i = f i) (hgx : g len = x) :
    ∃ r s, endS (sumTo f len) = r ∧ endS (sumTo g (len + 1)) = s ∧ r ≤ 9218868437227405312 ∧ s ≤ 9218868437227405312 ∧ (∀ m, (len = 0 ∧ m = 0 ∨ 0 < len ∧ Top f len m) → ord m r ≤ 0 ∧ m < 18446744073709551616) ∧ ord r s ≤ 0 ∧ ord x s ≤ 0 := by
  obtain ⟨r, h1, h2, h3⟩ := sum_ok f len ha
  obtain ⟨s, k1, k2, k3, k4⟩ := add_right r x h2 (ok_le hx)
  have e : sumTo g (len + 1) = some s := by
    show addS (sumTo g len) (g len) = _
    rw [sumTo_congr len hg, h1, hgx]; exact k1
  refine ⟨r, s, by rw [h1, endS_ok h2], by rw [e, endS_ok k4], h2, k4, fun m hm => ?_, ord_le (rank_le k2 k4), ord_le (rank_le k3 k4)⟩
  rcases hm with ⟨_, rfl⟩ | ⟨_, ⟨i, hi, rfl⟩, _⟩
  · exact ⟨ord_le (rank_le (by omega) h2), by omega⟩
  · have := h3 i hi
    exact ⟨ord_le (rank_le this h2), by omega⟩

set_option maxHeartbeats 4000000 in
theorem walk (a0 : Option Addr) (len0 cap0 : Nat) (f0 : Nat → Nat) (a1 : Nat) (w : World) (w0 : Fls w a0 len0 cap0 f0) (w1 : a1 < 18446744073709551616) :
    Calls Try.prog 7 #[.slice a0 len0 cap0, .float .f64 a1] w fun e w' => e = .returned (.bool true) ∧ Below w.heap.size w w' := by
  have F := Lib.hid w0; clear w0
  have W1 := Lib.hid w1; clear w1
  obtain ⟨i0, hi, hz0, hz1, hz2⟩ := info_parts infoFl
  have HI := Lib.hid hi; clear hi
  have HZ0 := Lib.hid hz0; clear hz0
  have HZ1 := Lib.hid hz1; clear hz1
  have HZ2 := Lib.hid hz2; clear hz2
  go_enter Try.func7, Try.ntmps7
  go_wp2_with fail
  refine (spans_true _).mono ?_
  rintro e wa ⟨rfl, hg⟩
  have HG := Lib.hid hg; clear hg
  go_wp2_with fail
  refine (sum_fls F.out HG.out).mono ?_
  rintro e w' ⟨rfl, m, rfl⟩
  have HG2 := Lib.hid (below_drewN HG.out m); clear HG
  generalize hwb : wa.drewN m = wb at *
  clear hwb
  go_wp2_with fail
  refine (cont_fls F.out HG2.out).mono ?_
  rintro e w' (⟨rfl, ha, rfl⟩ | ⟨rfl, rfl⟩)
  · have HA := Lib.hid ha; clear ha
    go_wp2_with fail
    refine (right_any _ W1.out _).mono ?_
    rintro e w' ⟨rfl, rfl⟩
    cases hx : ok a1
    · go_wp2
      go_ret
      exact ⟨rfl, HG2.out⟩
    · have HX := Lib.hid hx; clear hx
      go_wp2_with fail
      refine (clone_fls F.out HG2.out).mono ?_
      rintro e wc ⟨v, rfl, hown, hbel⟩
      have HO := Lib.hid hown; clear hown
      have HG3 := Lib.hid (HG2.out.trans (hbel.mono HG2.out.size))
      have HS := Lib.hid hbel.size
      have HS0 := Lib.hid HG2.out.size
      clear hbel HG2
      go_wp2_with (at_builtin; refine wpList_append_own _ rfl _ _ 23 rfl wb.heap.size 22 i0 (.float .f64 0) 1 8 Try.underlying23 HI.out HZ0.out HZ1.out HZ2.out rfl (by omega) _ _ _ rfl (HO.out.alloc _) ⟨wc.heap.size, 0, none⟩ 1 1 [.float .f64 a1] rfl ?c1 ?c2 ?c3 ?c4 ?c5 ?c6 ?_)
      case c1 => rfl
      case c2 => exact cell_one_new _ _ _
      case c3 => intro u hu; simp at hu; subst hu; rfl
      case c4 => have := F.out.1; have := F.out.2.1; unfold maxLen; omega
      case c5 => have := F.out.1; have := F.out.2.1; omega
      case c6 => have := HS.out; simp; omega
      intro v' wd hown hgrow _
      have hb4 : Below w.heap.size w wd := (HG3.out.alloc HG3.out.size _).grown hgrow (by have := HG3.out.size; simp; omega) (fun k hk => by have := (HO.out.lt k hk).1; have := HS0.out; omega)
      have HG4 := Lib.hid hb4; clear hb4 hgrow HG3 HO HS HS0
      obtain ⟨g, cap', hv⟩ : ∃ g cap', v' = .slice (some ⟨g, 0, none⟩) (len0 + 1) cap' := row_form hown (by omega)
      subst hv
      have HC : Hid (∀ k, k < len0 + 1 → wd.cell? ⟨g, 0 + k, none⟩ = some (.float .f64 (if k < len0 then f0 k else a1))) := fun k hk => by
        rw [Nat.zero_add, hown.cellAt k (by omega)]
        by_cases h : k < len0
        · rw [if_pos h, List.getElem?_append_left (by rw [fls_length]; exact h), fls_get h]
        · obtain rfl : k = len0 := by omega
          rw [if_neg h, List.getElem?_append_right (by rw [fls_length]; exact Nat.le_refl _), fls_length, Nat.sub_self]; rfl
      clear hown
      obtain ⟨r, s, e1, e2, hr, hs, hm, o1, o2⟩ := facts HA.out HX.out (fun k => if k < len0 then f0 k else a1) (fun i hi => if_pos hi) (if_neg (Nat.lt_irrefl _))
      have HM := Lib.hid hm; clear hm
      have E1 := Lib.hid e1; clear e1
      have E2 := Lib.hid e2; clear e2
      have HR := Lib.hid hr; clear hr
      have HSS := Lib.hid hs; clear hs
      rw [E1.out]
      go_wp2_with fail
      refine (sum_any (len0 + 1) cap' g 0 (fun k => if k < len0 then f0 k else a1) _ (by have := F.out.1; have := F.out.2.1; omega) HC.out).mono ?_
      rintro e w' ⟨rfl, m2, rfl⟩
      rw [E2.out]
      have HG5 := Lib.hid (below_drewN HG4.out m2); clear HG4 HC
      generalize hwe : wd.drewN m2 = we at *
      clear hwe
      go_wp2_with fail
      refine (right_any _ (by have := HR.out; omega) _).mono ?_
      rintro e w' ⟨rfl, rfl⟩
      rw [le_ok HR.out]
      go_wp2_with fail
      refine (most_fls F.out HG5.out).mono ?_
      rintro e w' ⟨⟨mm, hmm, rfl⟩, rfl⟩
      have HQ := Lib.hid (HM.out mm hmm); clear hmm
      go_wp2_with fail
      refine (order_any _ _ HQ.out.2 (by have := HR.out; omega) _).mono ?_
      rintro e w' ⟨rfl, rfl⟩
      have hq := HQ.out.1
      generalize ord mm r = y1 at *
      clear HQ HM
      go_wp2_with fail
      refine (order_any _ _ (by have := HR.out; omega) (by have := HSS.out; omega) _).mono ?_
      rintro e w' ⟨rfl, rfl⟩
      generalize ord r s = y2 at *
      go_wp2_with fail
      refine (order_any _ _ W1.out (by have := HSS.out; omega) _).mono ?_
      rintro e w' ⟨rfl, rfl⟩
      generalize ord a1 s = y3 at *
      go_wp2
      go_ret
      exact ⟨rfl, HG5.out⟩
  · go_wp2
    go_ret
    exact ⟨rfl, HG2.out⟩

theorem own : ownKnob Try.prog.godebug = none := by kernel_rfl
theorem laidOut : laidOutB Try.prog = true := by kernel_rfl

set_option maxRecDepth 100000 in
theorem lifted (os : Os) (started : os.Started) (H : Type) (enc : TypeId × Value → H) :
    ReturnsInHanded {} Try.checked os 7 .any (Rows.spanSumSpec.pre6 enc Try.prog Try.f7 Rows.spanSumRow.domain false) (Rows.spanSumSpec.post enc Try.prog Try.f7 false true false false) := by
  refine returnsInHanded_of_change_sized (C := Try.checked) own started (by kernel_rfl) Try.func7
    (ChangeSpec.witness6 (enc := enc) (C := Try.checked) false ⟨#[], #[.slice none 0 0, .float .f64 0], []⟩ 8 (by kernel_rfl) (by kernel_rfl) (by kernel_rfl) (by kernel_rfl)) ?_
  intro W base args ds gs before hval0 hW hcnd hsz0 _
  have hval : ∀ (j : Nat) t v, Try.f7.params[j]? = some t → args[j]? = some v → Value.okWide Try.prog W .any base t v := hval0
  have hW' := hW
  obtain ⟨p, q, hA0, hV, rfl, hfz, hnd⟩ := hW
  have hA : DataW.TrodAll enc Try.prog W 0 (fun _ => true) true Try.f7.params.toList args.toList ds p := hA0
  have hsz : (DataW.weightsEach Try.prog (Try.f7.params.toList ++ Rows.spanSumSpec.plain.varTypes Try.prog) (ds ++ gs)).all (· ≤ reachBytes) = true := hsz0
  clear hsz0
  rw [Try.params7] at hA hval hsz
  obtain ⟨v0, vs0, d0, ds0, p0, q0, hargs, rfl, rfl, h0, r0⟩ := trodAll_cons hA
  obtain ⟨v1, vs1, d1, ds1, p1, q1, rfl, rfl, rfl, h1, r1⟩ := trodAll_cons r0
  obtain ⟨rfl, rfl, rfl⟩ := trodAll_nil r1
  obtain rfl : args = #[v0, v1] := by cases args; simp_all
  obtain ⟨rfl, rfl⟩ := trodVars_none hV
  have k0 := h0
  have lt0 : ∀ x ∈ p0, x.block < W.heap.size := by obtain ⟨m, hm⟩ := k0; exact DataW.trod_lt m _ _ _ hm
  obtain ⟨a0, len0, cap0, f0, rfl, w0⟩ := open_floats (j := 0) Try.underlying23 Try.underlying22 (by kernel_rfl) (by kernel_rfl) hsz rfl rfl (hval 0 23 v0 rfl rfl) h0
  obtain ⟨a1, rfl, rfl, rfl, wf1⟩ := open_float Try.underlying22 (hval 1 22 v1 rfl rfl) h1
  have w1 := float_lt wf1
  clear hA0 hval0
  refine (walk a0 len0 cap0 f0 a1 W w0 w1).mono fun e W' ⟨he, bel⟩ => ?_
  subst he
  exact ⟨_, rfl, _, _, _, [], _, [], hW', trodAll_mk1 (shut_bool Try.underlying4 _), (trodAll_cons_mk (Below.trod laidOut (by kernel_rfl) (of_decide_eq_true (by kernel_rfl)) k0 bel lt0) (trodAll_cons_mk (shut_float Try.underlying22 wf1) trodAll_mk0)), rfl, bel.frame _, fun h => by cases h⟩

theorem over : Rows.spanSumRow.holds Try.pinned (OpenSpec.ofChange Rows.spanSumSpec) :=
  OpenClaim.holds_of_wide 7 Try.f7 rfl rfl rfl rfl rfl rfl rfl ⟨rfl, rfl, rfl, rfl, rfl⟩ rfl rfl rfl rfl rfl (by kernel_rfl) Try.func7 (by kernel_rfl)
    (of_decide_eq_true (by kernel_rfl)) (by unfold Func.isWrapper; first | (rw [if_pos (by decide +kernel)]; kernel_rfl) | (rw [if_neg (by decide +kernel)]; exact ⟨rfl, rfl⟩))
    (fun os started H enc _ => lifted os started H enc)

theorem proved : Rows.SpanSumSaid :=
  over
#print axioms proved
end Go.Proofs.Ytejceacoopgjkaa.spanSum
