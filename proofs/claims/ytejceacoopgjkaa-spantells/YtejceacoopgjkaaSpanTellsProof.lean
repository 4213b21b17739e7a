/-
  Proved: Right, Order, Sum, Most and Sort return what the reference returns (law SpanTells answers true). No condition.
-/
import Derived.Test.YtejceacoopgjkaaTSort
import Derived.Test.YtejceacoopgjkaaSSort
namespace Go.Proofs.Ytejceacoopgjkaa.spanTells
open Go.ChangeShapes Go.WideShapes Go.ChangeAt Go.RowKit
set_option linter.unusedVariables false

theorem float_lt {b : Nat} (h : (Lit.float .f64 b).wf = true) : b < 18446744073709551616 := by simpa [Lit.wf] using h

theorem sum_fls {a : Option Addr} {len cap : Nat} {f : Nat → Nat} {w0 w : World} (h : Fls w0 a len cap f) (hb : Below w0.heap.size w0 w) :
    Calls Try.prog 17 #[.slice a len cap] w fun e w' => e = .returned (.float .f64 (endS (sumTo f len))) ∧ ∃ m, w' = w.drewN m := by
  obtain ⟨h1, h2, h3, h4⟩ := h
  rcases h4 with rfl | ⟨b, off, rfl, hlt, hc⟩
  · exact (sum_none a cap w).mono fun e w' k => ⟨k.1, 0, k.2.symm⟩
  · exact sum_any len cap b off f w (by omega) (fun k hk => cell_later hb (hc k hk))
theorem timeSum_fls {a : Option Addr} {len cap : Nat} {f : Nat → Nat} {w0 w : World} (h : Fls w0 a len cap f) (hb : Below w0.heap.size w0 w) :
    Calls Try.prog 18 #[.slice a len cap] w fun e w' => e = .returned (.float .f64 (endS (sumTo f len))) ∧ ∃ m, w' = w.drewN m := by
  obtain ⟨h1, h2, h3, h4⟩ := h
  rcases h4 with rfl | ⟨b, off, rfl, hlt, hc⟩
  · exact (timeSum_none a cap w).mono fun e w' k => ⟨k.1, 0, k.2.symm⟩
  · exact timeSum_any len cap b off f w (by omega) (fun k hk => cell_later hb (hc k hk))
theorem most_fls {a : Option Addr} {len cap : Nat} {f : Nat → Nat} {w0 w : World} (h : Fls w0 a len cap f) (hb : Below w0.heap.size w0 w) (hpos : 0 < len) :
    Calls Try.prog 21 #[.slice a len cap] w fun e w' => (∃ m, Top f len m ∧ e = .returned (.float .f64 m)) ∧ w = w' := by
  obtain ⟨h1, h2, h3, h4⟩ := h
  rcases h4 with rfl | ⟨b, off, rfl, hlt, hc⟩
  · omega
  · exact most_any len cap b off f w hpos (by omega) h3 (fun k hk => cell_later hb (hc k hk))
theorem tsort_fls {a : Option Addr} {len cap : Nat} {f : Nat → Nat} {w : World} (h : Fls w a len cap f) :
    Calls Try.prog 11 #[.slice a len cap] w fun e w' => ∃ v O, e = .returned v ∧ O.Perm (lst f len) ∧ Asc O ∧ w'.ownsRow w.heap.size 22 1 v O.length (fv O) ∧ Below w.heap.size w w' := by
  obtain ⟨h1, h2, h3, h4⟩ := h
  have key : ∀ x : Addr, (∀ k, (hk : k < (lst f len).length) → w.cell? (x.add k) = some (.float .f64 (lst f len)[k])) → Calls Try.prog 11 #[.slice (some x) len cap] w fun e w' => ∃ v O, e = .returned v ∧ O.Perm (lst f len) ∧ Asc O ∧ w'.ownsRow w.heap.size 22 1 v O.length (fv O) ∧ Below w.heap.size w w' := fun x hx => by
    have := tsort_some (lst f len) (lst_bound h3) (by rw [lst_length]; omega) x cap w hx
    rwa [lst_length] at this
  rcases h4 with rfl | ⟨b, off, rfl, hlt, hc⟩
  · cases a with
    | none => exact (tsort_nil cap w).mono fun e w' k => ⟨_, [], k.1, List.Perm.refl _, List.Pairwise.nil, k.2 ▸ World.ownsRow_nil _ _ _ _, k.2 ▸ Below.refl _ _⟩
    | some x => exact key x (fun k hk => absurd hk (by simp [lst]))
  · refine key _ (fun k hk => ?_)
    rw [lst_length] at hk
    rw [lst_get, ← hc k hk]
    congr 1
    unfold Addr.add
    by_cases k0 : k = 0 <;> simp [k0]

theorem last_top {f : Nat → Nat} {len m : Nat} {O : List Nat} (hb : ∀ i, i < len → f i < 18446744073709551616) (hp : O.Perm (lst f len)) (ha : Asc O) (ht : Top f len m) (h : O.length - 1 < O.length) : O[O.length - 1] = m := by
  obtain ⟨⟨i, hi, rfl⟩, hm⟩ := ht
  have h1 : f i ∈ O := hp.symm.subset (by unfold lst; exact List.mem_map.2 ⟨i, List.mem_range.2 hi, rfl⟩)
  have h2 : O[O.length - 1] ∈ lst f len := hp.subset (List.getElem_mem h)
  obtain ⟨j, hj, e⟩ := List.mem_map.1 h2
  have hj := List.mem_range.1 hj
  obtain ⟨k, hk, e2⟩ := List.getElem_of_mem h1
  have l1 : rank O[O.length - 1] ≤ rank (f i) := by rw [← e]; exact hm j hj
  have l2 : rank (f i) ≤ rank O[O.length - 1] := by
    rw [← e2]
    by_cases hkl : k = O.length - 1
    · subst hkl; exact Nat.le_refl _
    · exact (List.pairwise_iff_getElem.1 ha) k (O.length - 1) hk h (by omega)
  refine rank_inj ?_ (hb i hi) (by omega)
  rw [← e]; exact hb j hj

theorem row_parts {w : World} {base : Nat} {v : Value} {O : List Nat} (h : w.ownsRow base 22 1 v O.length (fv O)) :
    (O.length = 0 ∧ ∃ a c, v = .slice a 0 c) ∨ 0 < O.length ∧ ∃ g cap, v = .slice (some ⟨g, 0, none⟩) O.length cap ∧ ∀ i, (hi : i < O.length) → w.cell? ⟨g, i, none⟩ = some (.float .f64 O[i]) := by
  by_cases h0 : O.length = 0
  · left
    refine ⟨h0, ?_⟩
    rcases h.2 with ⟨hv, _⟩ | ⟨g, cap, _, hv, _⟩
    · exact ⟨_, _, hv⟩
    · exact ⟨_, _, by rw [hv, h0]⟩
  · right
    refine ⟨by omega, ?_⟩
    rcases h.2 with ⟨_, hv⟩ | ⟨g, cap, _, hv, _⟩
    · exact absurd hv h0
    · subst hv
      exact ⟨g, cap, rfl, fun i hi => by rw [h.cellAt i (by omega), fv_get hi]⟩

set_option maxHeartbeats 4000000 in
theorem walk (a0 a1 : Nat) (a2 : Option Addr) (len2 cap2 : Nat) (f2 : Nat → Nat) (w : World) (w0 : a0 < 18446744073709551616) (w1 : a1 < 18446744073709551616) (w2 : Fls w a2 len2 cap2 f2) :
    Calls Try.prog 3 #[.float .f64 a0, .float .f64 a1, .slice a2 len2 cap2] w fun e w' => e = .returned (.bool true) ∧ Below w.heap.size w w' := by
  have F := Lib.hid w2; clear w2
  have W0 := Lib.hid w0; clear w0
  have W1 := Lib.hid w1; clear w1
  go_enter Try.func3, Try.ntmps3
  go_wp2_with fail
  refine (tsort_fls F.out).mono ?_
  rintro e wa ⟨v, O, rfl, hp, ha, hown, hbel⟩
  have HP := Lib.hid hp; clear hp
  have HA := Lib.hid ha; clear ha
  have HB := Lib.hid hbel; clear hbel
  have hlen : O.length = len2 := by rw [HP.out.length_eq, lst_length]
  have HLen := Lib.hid hlen; clear hlen
  rcases row_parts hown with ⟨h0, a, c, rfl⟩ | ⟨hpos, g, cap, rfl, hc⟩
  · clear hown
    obtain rfl : len2 = 0 := by rw [← HLen.out]; exact h0
    have HO : Hid (O = []) := List.length_eq_zero_iff.1 h0
    clear h0
    go_wp2_with fail
    refine (right_any _ W0.out _).mono ?_
    rintro e w' ⟨rfl, rfl⟩
    go_wp2_with fail
    refine (rightTime_any _ _).mono ?_
    rintro e w' ⟨rfl, rfl⟩
    have t1 : (ok a0 == ok a0) = true := by simp
    generalize ok a0 = o at *
    go_wp2_with fail
    refine (order_any _ _ W0.out W1.out _).mono ?_
    rintro e w' ⟨rfl, rfl⟩
    go_wp2_with fail
    refine (timeOrder_any _ _ W0.out W1.out _).mono ?_
    rintro e w' ⟨rfl, rfl⟩
    have t2 : (ord a0 a1 == ord a0 a1) = true := by simp
    generalize ord a0 a1 = q at *
    go_wp2_with fail
    refine (sum_fls F.out HB.out).mono ?_
    rintro e w' ⟨rfl, m1, rfl⟩
    go_wp2_with fail
    refine (timeSum_fls F.out (below_drewN HB.out m1)).mono ?_
    rintro e w' ⟨rfl, m2, rfl⟩
    have HB2 := Lib.hid (below_drewN (below_drewN HB.out m1) m2); clear HB
    generalize (wa.drewN m1).drewN m2 = wb at *
    generalize endS (sumTo f2 0) = s at *
    go_wp2_with fail
    refine (sameBits_any _ _ _).mono ?_
    rintro e w' ⟨rfl, rfl⟩
    have t3 : ((s : Int) == (s : Int)) = true := by simp
    rw [t3]
    clear t3
    go_wp2_with fail
    refine (sort_any _ F.out HB2.out).mono ?_
    rintro e wc ⟨v2, O2, rfl, hp2, ha2, hown2, hbel2⟩
    have hO2 : O2 = [] := by have := hp2.length_eq; rw [lst_length] at this; exact List.length_eq_zero_iff.1 this
    subst hO2
    rcases row_parts (O := []) hown2 with ⟨_, a', c', rfl⟩ | ⟨hpos, _⟩
    · have HB3 := Lib.hid (HB2.out.trans (hbel2.mono HB2.out.size)); clear hbel2 HB2 hown2 hp2 ha2
      go_wp2_with fail
      refine (sameTimes_none _ _ _ _ _).mono ?_
      rintro e w' ⟨rfl, rfl⟩
      go_wp2_with fail
      refine (most_none _ _ _).mono ?_
      rintro e w' ⟨rfl, rfl⟩
      go_wp2_with fail
      refine (sameBits_any _ _ _).mono ?_
      rintro e w' ⟨rfl, rfl⟩
      go_wp2
      go_ret
      exact ⟨rfl, HB3.out⟩
    · cases hpos
  · clear hown
    have HC := Lib.hid hc; clear hc
    have cl := HC.out (O.length - 1) (by omega)
    have hx : O.length ≤ 17592186043904 := by have := F.out.1; have := F.out.2.1; have := HLen.out; omega
    have HPos := Lib.hid hpos
    go_wp2_with fail
    refine (right_any _ W0.out _).mono ?_
    rintro e w' ⟨rfl, rfl⟩
    go_wp2_with fail
    refine (rightTime_any _ _).mono ?_
    rintro e w' ⟨rfl, rfl⟩
    have t1 : (ok a0 == ok a0) = true := by simp
    generalize ok a0 = o at *
    go_wp2_with fail
    refine (order_any _ _ W0.out W1.out _).mono ?_
    rintro e w' ⟨rfl, rfl⟩
    go_wp2_with fail
    refine (timeOrder_any _ _ W0.out W1.out _).mono ?_
    rintro e w' ⟨rfl, rfl⟩
    have t2 : (ord a0 a1 == ord a0 a1) = true := by simp
    generalize ord a0 a1 = q at *
    go_wp2_with fail
    refine (sum_fls F.out HB.out).mono ?_
    rintro e w' ⟨rfl, m1, rfl⟩
    go_wp2_with fail
    refine (timeSum_fls F.out (below_drewN HB.out m1)).mono ?_
    rintro e w' ⟨rfl, m2, rfl⟩
    have HB2 := Lib.hid (below_drewN (below_drewN HB.out m1) m2)
    have HBa : Hid (Below wa.heap.size wa ((wa.drewN m1).drewN m2)) := below_drewN (below_drewN (Below.refl _ _) m1) m2
    clear HB cl
    generalize (wa.drewN m1).drewN m2 = wb at *
    generalize endS (sumTo f2 len2) = s at *
    go_wp2_with fail
    refine (sameBits_any _ _ _).mono ?_
    rintro e w' ⟨rfl, rfl⟩
    have t3 : ((s : Int) == (s : Int)) = true := by simp
    rw [t3]
    clear t3
    go_wp2_with fail
    refine (sort_any _ F.out HB2.out).mono ?_
    rintro e wc ⟨v2, O2, rfl, hp2, ha2, hown2, hbel2⟩
    have hb0 := lst_bound F.out.2.2.1
    obtain rfl : O2 = O := asc_unique (fun x hx => hb0 x (hp2.subset hx)) ha2 HA.out (hp2.trans HP.out.symm)
    rcases row_parts hown2 with ⟨h0, _⟩ | ⟨_, g2, cp2, rfl, hc2⟩
    · exact absurd h0 (by have := HPos.out; omega)
    · have HC2 : Hid (∀ i, i < O2.length → wc.cell? ⟨g2, i, none⟩ = some (.float .f64 (O2.getD i 0))) := fun i hi => by rw [hc2 i hi]; simp [hi]
      have HC1 : Hid (∀ i, i < O2.length → wc.cell? ⟨g, i, none⟩ = some (.float .f64 (O2.getD i 0))) := fun i hi => by
        have : wc.cell? ⟨g, i, none⟩ = some (.float .f64 O2[i]) := cell_later (w := wb) hbel2 (cell_later (w := wa) HBa.out (HC.out i hi))
        rw [this]; simp [hi]
      have HB3 := Lib.hid (HB2.out.trans (hbel2.mono HB2.out.size)); clear hbel2 HB2 hown2 hp2 ha2 hc2 HBa hb0
      go_wp2_with fail
      refine (sameTimes_row O2.length _ _ g2 g (fun i => O2.getD i 0) _ (by omega) HC2.out HC1.out).mono ?_
      rintro e w' ⟨rfl, m3, rfl⟩
      have HB4 := Lib.hid (below_drewN HB3.out m3); clear HB3 HC1 HC2
      generalize wc.drewN m3 = wd at *
      go_wp2_with fail
      refine (most_fls F.out HB4.out (by have := HLen.out; have := HPos.out; omega)).mono ?_
      rintro e w' ⟨⟨mm, hm, rfl⟩, rfl⟩
      have E : Hid (O2[O2.length - 1] = mm) := last_top F.out.2.2.1 HP.out HA.out hm (by have := HPos.out; omega)
      clear hm
      rw [E.out]
      go_wp2_with fail
      refine (sameBits_any _ _ _).mono ?_
      rintro e w' ⟨rfl, rfl⟩
      have t4 : ((mm : Int) == (mm : Int)) = true := by simp
      rw [t4]
      clear t4
      go_wp2
      go_ret
      exact ⟨rfl, HB4.out⟩

theorem own : ownKnob Try.prog.godebug = none := by kernel_rfl
theorem laidOut : laidOutB Try.prog = true := by kernel_rfl

set_option maxRecDepth 100000 in
theorem lifted (os : Os) (started : os.Started) (H : Type) (enc : TypeId × Value → H) :
    ReturnsInHanded {} Try.checked os 3 .any (Rows.spanTellsSpec.pre6 enc Try.prog Try.f3 Rows.spanTellsRow.domain false) (Rows.spanTellsSpec.post enc Try.prog Try.f3 false true false false) := by
  refine returnsInHanded_of_change_sized (C := Try.checked) own started (by kernel_rfl) Try.func3
    (ChangeSpec.witness6 (enc := enc) (C := Try.checked) false ⟨#[], #[.float .f64 0, .float .f64 0, .slice none 0 0], []⟩ 8 (by kernel_rfl) (by kernel_rfl) (by kernel_rfl) (by kernel_rfl)) ?_
  intro W base args ds gs before hval0 hW hcnd hsz0 _
  have hval : ∀ (j : Nat) t v, Try.f3.params[j]? = some t → args[j]? = some v → Value.okWide Try.prog W .any base t v := hval0
  have hW' := hW
  obtain ⟨p, q, hA0, hV, rfl, hfz, hnd⟩ := hW
  have hA : DataW.TrodAll enc Try.prog W 0 (fun _ => true) true Try.f3.params.toList args.toList ds p := hA0
  have hsz : (DataW.weightsEach Try.prog (Try.f3.params.toList ++ Rows.spanTellsSpec.plain.varTypes Try.prog) (ds ++ gs)).all (· ≤ reachBytes) = true := hsz0
  clear hsz0
  rw [Try.params3] at hA hval hsz
  obtain ⟨v0, vs0, d0, ds0, p0, q0, hargs, rfl, rfl, h0, r0⟩ := trodAll_cons hA
  obtain ⟨v1, vs1, d1, ds1, p1, q1, rfl, rfl, rfl, h1, r1⟩ := trodAll_cons r0
  obtain ⟨v2, vs2, d2, ds2, p2, q2, rfl, rfl, rfl, h2, r2⟩ := trodAll_cons r1
  obtain ⟨rfl, rfl, rfl⟩ := trodAll_nil r2
  obtain rfl : args = #[v0, v1, v2] := by cases args; simp_all
  obtain ⟨rfl, rfl⟩ := trodVars_none hV
  obtain ⟨a0, rfl, rfl, rfl, wf0⟩ := open_float Try.underlying22 (hval 0 22 v0 rfl rfl) h0
  have w0 := float_lt wf0
  obtain ⟨a1, rfl, rfl, rfl, wf1⟩ := open_float Try.underlying22 (hval 1 22 v1 rfl rfl) h1
  have w1 := float_lt wf1
  have k2 := h2
  have lt2 : ∀ x ∈ p2, x.block < W.heap.size := by obtain ⟨m, hm⟩ := k2; exact DataW.trod_lt m _ _ _ hm
  obtain ⟨a2, len2, cap2, f2, rfl, w2⟩ := open_floats (j := 2) Try.underlying23 Try.underlying22 (by kernel_rfl) (by kernel_rfl) hsz rfl rfl (hval 2 23 v2 rfl rfl) h2
  clear hA0 hval0
  refine (walk a0 a1 a2 len2 cap2 f2 W w0 w1 w2).mono fun e W' ⟨he, bel⟩ => ?_
  subst he
  exact ⟨_, rfl, _, _, _, [], _, [], hW', trodAll_mk1 (shut_bool Try.underlying4 _), (trodAll_cons_mk (shut_float Try.underlying22 wf0) (trodAll_cons_mk (shut_float Try.underlying22 wf1) (trodAll_cons_mk (Below.trod laidOut (by kernel_rfl) (of_decide_eq_true (by kernel_rfl)) k2 bel lt2) trodAll_mk0))), rfl, bel.frame _, fun h => by cases h⟩

theorem over : Rows.spanTellsRow.holds Try.pinned (OpenSpec.ofChange Rows.spanTellsSpec) :=
  OpenClaim.holds_of_wide 3 Try.f3 rfl rfl rfl rfl rfl rfl rfl ⟨rfl, rfl, rfl, rfl, rfl⟩ rfl rfl rfl rfl rfl (by kernel_rfl) Try.func3 (by kernel_rfl)
    (of_decide_eq_true (by kernel_rfl)) (by unfold Func.isWrapper; first | (rw [if_pos (by decide +kernel)]; kernel_rfl) | (rw [if_neg (by decide +kernel)]; exact ⟨rfl, rfl⟩))
    (fun os started H enc _ => lifted os started H enc)

theorem proved : Rows.SpanTellsSaid :=
  over
#print axioms proved
end Go.Proofs.Ytejceacoopgjkaa.spanTells
