/-
  Proved: for arbitrary arguments Next, Nth, Rank, Sub and Even return what the document's answer returns (law BitsFinds answers true); the card, the table of math/bits tied to its text. No other condition.
-/
import Derived.Test.YtodlfklpjnofjaaDoorLaid
import Derived.Test.YtodlfklpjnofjaaDoorRefB
namespace Go.Proofs.YtodlfklpjnofjaaDoor.bitsFinds
open Go.ChangeShapes Go.WideShapes Go.ChangeAt Go.RowKit
open Go.ChangeMaps (open_string shut_string)
set_option linter.unusedVariables false

theorem row_form {w : World} {base : Nat} {v : Value} {n : Nat} {xs : List Value} (h : w.ownsRow base 3 1 v n xs) : ∃ a c, v = .slice a n c := by
  rcases h.2 with ⟨rfl, rfl⟩ | ⟨g, cap, cur, rfl, _⟩
  · exact ⟨none, 0, rfl⟩
  · exact ⟨_, cap, rfl⟩

theorem lt_rank (s : Bv) (n : Int) (k : Nat) (hk : k < cnt s) : numsF s k < n ↔ k < cntTo s.getLsbD (clamp n) := by
  obtain ⟨m, h1, h2, h3, h4⟩ := numsF_at s k hk
  rw [h4, ← h3]
  constructor
  · intro h
    exact cntTo_hit _ (show m < clamp n by unfold clamp; omega) h2
  · intro h
    apply Int.lt_of_not_ge
    intro hge
    have := cntTo_mono s.getLsbD (show clamp n ≤ m by unfold clamp; omega)
    omega

/-- what the law's own loop has found behind k elements; R: how many are less than n -/
def Found (s : Bv) (R k : Nat) (nx is rk : Value) : Prop :=
  (k ≤ R ∧ nx = .int .i64 0 ∧ is = .bool false ∧ rk = .int .i64 k) ∨ (R < k ∧ nx = .int .i64 (numsF s R) ∧ is = .bool true ∧ rk = .int .i64 R)

set_option maxHeartbeats 4000000 in
theorem walk_none (s t : Bv) (a2 : Int) (w : World) (ht : Tab w) (hc0 : cnt s = 0) :
    Calls Tryd.prog 4 #[.int .u64 s.toNat, .int .u64 t.toNat, .int .i64 a2] w fun e w' => e = .returned (.bool true) ∧ Below w.heap.size w w' := by
  have HT := Lib.hid ht; clear ht
  have hqe : (((ev s).toNat : Int) != ((ev s).toNat : Int)) = false := by simp
  obtain ⟨R, hR⟩ : ∃ R, R = cntTo s.getLsbD (clamp a2) := ⟨_, rfl⟩
  have hR0 : R = 0 := by have := cntTo_mono s.getLsbD (clamp_le a2); unfold cnt at hc0; omega
  subst hR0
  have hRn : ¬ 0 < cnt s := by omega
  have HR := Lib.hid hR; clear hR
  have HC0 := Lib.hid hc0; clear hc0
  go_enter Tryd.func4, Tryd.ntmps4
  go_wp2_with fail
  refine (numbers_any s _).mono ?_
  rintro e w1 ⟨v, rfl, hown, hb⟩
  have HB := Lib.hid hb; clear hb
  have HT1 := Lib.hid (HT.out.below HB.out HT.out.1)
  obtain ⟨av, cv, rfl⟩ := row_form hown
  clear hown
  rw [HC0.out]
  go_wp2_with fail
  refine wp_loop_rounds 1 ?_
  rw [rounds_succ]
  go_wp2_with fail
  refine (next_any s a2 _ HT1.out).mono ?_
  rintro e w' ⟨rfl, ⟨rfl, _⟩ | ⟨m, _, hm, hcm, hsm, _⟩⟩
  rotate_left
  · exfalso
    have h1 := cntTo_mono s.getLsbD hcm
    have h2 := cntTo_hit s.getLsbD hm hsm
    have h3 := HR.out
    unfold cnt at hRn; omega
  by_cases hneg : a2 < 0
  · go_wp2_with fail
    refine (nth_none s a2 _ (by have := HC0.out; omega)).mono ?_
    rintro e w' ⟨rfl, rfl⟩
    go_wp2_with fail
    refine (rank_any s _ _).mono ?_
    rintro e w' ⟨rfl, rfl⟩
    rw [← HR.out]
    go_wp2_with fail
    refine (even_any s _).mono ?_
    rintro e w' ⟨rfl, rfl⟩
    go_wp2_with fail
    refine (evenSet_any s _).mono ?_
    rintro e w' ⟨rfl, rfl⟩
    go_wp2_with fail
    refine (sub_any s t _).mono ?_
    rintro e w' ⟨u, hu, rfl, rfl⟩
    have HU := Lib.hid hu; clear hu
    go_wp2_with fail
    refine (nextSub_any s t _).mono ?_
    rintro e w' ⟨u', hu', rfl, rfl⟩
    obtain rfl : u = u' := next_unique HU.out hu'
    clear hu'
    go_wp2
    go_ret
    exact ⟨rfl, HB.out⟩
  · have hd : decide (a2 < 0) = false := by rw [decide_eq_false_iff_not]; omega
    have h0 : 0 ≤ a2 := by omega
    go_wp2_with fail
    refine (nth_none s a2 _ (by have := HC0.out; omega)).mono ?_
    rintro e w' ⟨rfl, rfl⟩
    go_wp2_with fail
    refine (rank_any s _ _).mono ?_
    rintro e w' ⟨rfl, rfl⟩
    rw [← HR.out]
    go_wp2_with fail
    refine (even_any s _).mono ?_
    rintro e w' ⟨rfl, rfl⟩
    go_wp2_with fail
    refine (evenSet_any s _).mono ?_
    rintro e w' ⟨rfl, rfl⟩
    go_wp2_with fail
    refine (sub_any s t _).mono ?_
    rintro e w' ⟨u, hu, rfl, rfl⟩
    have HU := Lib.hid hu; clear hu
    go_wp2_with fail
    refine (nextSub_any s t _).mono ?_
    rintro e w' ⟨u', hu', rfl, rfl⟩
    obtain rfl : u = u' := next_unique HU.out hu'
    clear hu'
    go_wp2
    go_ret
    exact ⟨rfl, HB.out⟩

set_option maxHeartbeats 8000000 in
theorem walk_some (s t : Bv) (a2 : Int) (w : World) (ht : Tab w) (hc0 : 0 < cnt s) :
    Calls Tryd.prog 4 #[.int .u64 s.toNat, .int .u64 t.toNat, .int .i64 a2] w fun e w' => e = .returned (.bool true) ∧ Below w.heap.size w w' := by
  have HT := Lib.hid ht; clear ht
  have hcl := cnt_le s
  have hqe : (((ev s).toNat : Int) != ((ev s).toNat : Int)) = false := by simp
  obtain ⟨R, hR⟩ : ∃ R, R = cntTo s.getLsbD (clamp a2) := ⟨_, rfl⟩
  have hRle : R ≤ cnt s := by have := cntTo_mono s.getLsbD (clamp_le a2); unfold cnt; omega
  have hqr : ((R : Int) != (R : Int)) = false := by simp
  have HR := Lib.hid hR; clear hR
  go_enter Tryd.func4, Tryd.ntmps4
  go_wp2_with fail
  refine (numbers_any s _).mono ?_
  rintro e w1 ⟨v, rfl, hown, hb⟩
  have HB := Lib.hid hb; clear hb
  have HT1 := Lib.hid (HT.out.below HB.out HT.out.1)
  obtain ⟨g, cap, rfl, hown'⟩ : ∃ g cap, v = .slice (some ⟨g, 0, none⟩) (cnt s) cap ∧ w1.ownsRow w.heap.size 3 1 (.slice (some ⟨g, 0, none⟩) (cnt s) cap) (cnt s) (ints (nums s)) := by
    have h1 := hown
    rcases hown.2 with ⟨rfl, hn⟩ | ⟨g, cap, cur, rfl, _⟩
    · omega
    · exact ⟨g, cap, rfl, h1⟩
  have HCELL := Lib.hid (numsF_cells s hown')
  clear hown hown'
  go_wp2_with fail
  go_loop [8, 9, 10, 25] (fun nx is rk i => ∃ k : Nat, k ≤ cnt s ∧ i = .int .i64 k ∧ Found s R k nx is rk) (fun _ _ _ i => cnt s - (intOf i).toNat)
  case atStart => exact ⟨0, Nat.zero_le _, rfl, .inl ⟨Nat.zero_le _, rfl, rfl, rfl⟩⟩
  case round =>
    obtain ⟨k, hk, rfl, hf⟩ := hrel
    by_cases hlt : k < cnt s
    · have hcell := HCELL.out k hlt
      rw [Nat.zero_add] at hcell
      have hiff := lt_rank s a2 k hlt
      rw [← HR.out] at hiff
      rcases hf with ⟨hkR, rfl, rfl, rfl⟩ | ⟨hRk, rfl, rfl, rfl⟩
      · by_cases hkR' : k < R
        · have hv := hiff.2 hkR'
          have hd : decide (a2 ≤ numsF s k) = false := by rw [decide_eq_false_iff_not]; omega
          clear hiff
          go_wp2
          go_round
          case rel => exact ⟨k + 1, by omega, by go_num, .inl ⟨by omega, rfl, rfl, by go_num⟩⟩
          case measure => simp [intOf]; omega
        · have hv : ¬ numsF s k < a2 := fun h => hkR' (hiff.1 h)
          have hv' : a2 ≤ numsF s k := by omega
          obtain rfl : k = R := by omega
          clear hiff
          go_wp2
          go_round
          case rel => exact ⟨k + 1, by omega, by go_num, .inr ⟨by omega, rfl, rfl, rfl⟩⟩
          case measure => simp [intOf]; omega
      · have hv : ¬ numsF s k < a2 := fun h => by have := hiff.1 h; omega
        have hv' : a2 ≤ numsF s k := by omega
        clear hiff
        go_wp2
        go_round
        case rel => exact ⟨k + 1, by omega, by go_num, .inr ⟨by omega, rfl, rfl, rfl⟩⟩
        case measure => simp [intOf]; omega
    · obtain rfl : k = cnt s := by omega
      rcases hf with ⟨hkR, rfl, rfl, rfl⟩ | ⟨hRk, rfl, rfl, rfl⟩
      · obtain rfl : R = cnt s := by omega
        have hRn : True := trivial
        go_wp2_with fail
        refine (next_any s a2 _ HT1.out).mono ?_
        rintro e w' ⟨rfl, ⟨rfl, _⟩ | ⟨m, _, hm, hcm, hsm, _⟩⟩
        rotate_left
        · exfalso
          have h1 := cntTo_mono s.getLsbD hcm
          have h2 := cntTo_hit s.getLsbD hm hsm
          have h3 := HR.out
          unfold cnt at h3; omega
        by_cases hneg : a2 < 0
        · go_wp2_with fail
          refine (nth_none s a2 _ (by omega)).mono ?_
          rintro e w' ⟨rfl, rfl⟩
          go_wp2_with fail
          refine (rank_any s _ _).mono ?_
          rintro e w' ⟨rfl, rfl⟩
          rw [← HR.out]
          go_wp2_with fail
          refine (even_any s _).mono ?_
          rintro e w' ⟨rfl, rfl⟩
          go_wp2_with fail
          refine (evenSet_any s _).mono ?_
          rintro e w' ⟨rfl, rfl⟩
          go_wp2_with fail
          refine (sub_any s t _).mono ?_
          rintro e w' ⟨u, hu, rfl, rfl⟩
          have HU := Lib.hid hu; clear hu
          go_wp2_with fail
          refine (nextSub_any s t _).mono ?_
          rintro e w' ⟨u', hu', rfl, rfl⟩
          obtain rfl : u = u' := next_unique HU.out hu'
          clear hu'
          go_wp2
          go_ret
          exact ⟨rfl, HB.out⟩
        · by_cases hge : (cnt s : Int) ≤ a2
          · have hd : decide (a2 < 0) = false := by rw [decide_eq_false_iff_not]; omega
            have h0 : 0 ≤ a2 := by omega
            go_wp2_with fail
            refine (nth_none s a2 _ (by omega)).mono ?_
            rintro e w' ⟨rfl, rfl⟩
            go_wp2_with fail
            refine (rank_any s _ _).mono ?_
            rintro e w' ⟨rfl, rfl⟩
            rw [← HR.out]
            go_wp2_with fail
            refine (even_any s _).mono ?_
            rintro e w' ⟨rfl, rfl⟩
            go_wp2_with fail
            refine (evenSet_any s _).mono ?_
            rintro e w' ⟨rfl, rfl⟩
            go_wp2_with fail
            refine (sub_any s t _).mono ?_
            rintro e w' ⟨u, hu, rfl, rfl⟩
            have HU := Lib.hid hu; clear hu
            go_wp2_with fail
            refine (nextSub_any s t _).mono ?_
            rintro e w' ⟨u', hu', rfl, rfl⟩
            obtain rfl : u = u' := next_unique HU.out hu'
            clear hu'
            go_wp2
            go_ret
            exact ⟨rfl, HB.out⟩
          · obtain ⟨k, rfl⟩ := Int.eq_ofNat_of_zero_le (show 0 ≤ a2 by omega)
            have hk : k < cnt s := by omega
            have hd : decide ((k : Int) < 0) = false := by rw [decide_eq_false_iff_not]; omega
            have hd2 : decide (cnt s ≤ k) = false := by rw [decide_eq_false_iff_not]; omega
            have hcell := HCELL.out k hk
            clear hneg hge
            go_wp2_with fail
            refine (nth_some s k _ hk HT1.out).mono ?_
            rintro e w' ⟨a, rfl, ha, hsa, hca, rfl⟩
            rw [← hca, numsF_hit s a ha hsa, hca, Nat.zero_add] at hcell
            clear ha hsa hca
            have hqa : ((a : Int) != (a : Int)) = false := by simp
            go_wp2_with fail
            refine (rank_any s _ _).mono ?_
            rintro e w' ⟨rfl, rfl⟩
            rw [← HR.out]
            go_wp2_with fail
            refine (even_any s _).mono ?_
            rintro e w' ⟨rfl, rfl⟩
            go_wp2_with fail
            refine (evenSet_any s _).mono ?_
            rintro e w' ⟨rfl, rfl⟩
            go_wp2_with fail
            refine (sub_any s t _).mono ?_
            rintro e w' ⟨u, hu, rfl, rfl⟩
            have HU := Lib.hid hu; clear hu
            go_wp2_with fail
            refine (nextSub_any s t _).mono ?_
            rintro e w' ⟨u', hu', rfl, rfl⟩
            obtain rfl : u = u' := next_unique HU.out hu'
            clear hu'
            go_wp2
            go_ret
            exact ⟨rfl, HB.out⟩
      · obtain ⟨m0, hm0, hs0, hc0', he0⟩ := numsF_at s R hRk
        rw [he0]
        have HM := Lib.hid (And.intro hm0 (And.intro hs0 hc0'))
        clear hm0 hs0 hc0' he0
        go_wp2_with fail
        refine (next_any s a2 _ HT1.out).mono ?_
        rintro e w' ⟨rfl, ⟨rfl, hno⟩ | ⟨m, rfl, hm, hcm, hsm, hgap⟩⟩
        · exfalso
          have h1 := cntTo_gap' _ (clamp_le a2) hno
          have h3 := HR.out
          unfold cnt at hRk; omega
        obtain rfl : m = m0 := cntTo_inj s.getLsbD hsm HM.out.2.1 (by rw [cntTo_gap' _ hcm hgap, ← HR.out, HM.out.2.2])
        clear hm hcm hsm hgap
        have hqm : ((m : Int) != (m : Int)) = false := by simp
        by_cases hneg : a2 < 0
        · go_wp2_with fail
          refine (nth_none s a2 _ (by omega)).mono ?_
          rintro e w' ⟨rfl, rfl⟩
          go_wp2_with fail
          refine (rank_any s _ _).mono ?_
          rintro e w' ⟨rfl, rfl⟩
          rw [← HR.out]
          go_wp2_with fail
          refine (even_any s _).mono ?_
          rintro e w' ⟨rfl, rfl⟩
          go_wp2_with fail
          refine (evenSet_any s _).mono ?_
          rintro e w' ⟨rfl, rfl⟩
          go_wp2_with fail
          refine (sub_any s t _).mono ?_
          rintro e w' ⟨u, hu, rfl, rfl⟩
          have HU := Lib.hid hu; clear hu
          go_wp2_with fail
          refine (nextSub_any s t _).mono ?_
          rintro e w' ⟨u', hu', rfl, rfl⟩
          obtain rfl : u = u' := next_unique HU.out hu'
          clear hu'
          go_wp2
          go_ret
          exact ⟨rfl, HB.out⟩
        · by_cases hge : (cnt s : Int) ≤ a2
          · have hd : decide (a2 < 0) = false := by rw [decide_eq_false_iff_not]; omega
            have h0 : 0 ≤ a2 := by omega
            go_wp2_with fail
            refine (nth_none s a2 _ (by omega)).mono ?_
            rintro e w' ⟨rfl, rfl⟩
            go_wp2_with fail
            refine (rank_any s _ _).mono ?_
            rintro e w' ⟨rfl, rfl⟩
            rw [← HR.out]
            go_wp2_with fail
            refine (even_any s _).mono ?_
            rintro e w' ⟨rfl, rfl⟩
            go_wp2_with fail
            refine (evenSet_any s _).mono ?_
            rintro e w' ⟨rfl, rfl⟩
            go_wp2_with fail
            refine (sub_any s t _).mono ?_
            rintro e w' ⟨u, hu, rfl, rfl⟩
            have HU := Lib.hid hu; clear hu
            go_wp2_with fail
            refine (nextSub_any s t _).mono ?_
            rintro e w' ⟨u', hu', rfl, rfl⟩
            obtain rfl : u = u' := next_unique HU.out hu'
            clear hu'
            go_wp2
            go_ret
            exact ⟨rfl, HB.out⟩
          · obtain ⟨k, rfl⟩ := Int.eq_ofNat_of_zero_le (show 0 ≤ a2 by omega)
            have hk : k < cnt s := by omega
            have hd : decide ((k : Int) < 0) = false := by rw [decide_eq_false_iff_not]; omega
            have hd2 : decide (cnt s ≤ k) = false := by rw [decide_eq_false_iff_not]; omega
            have hcell := HCELL.out k hk
            clear hneg hge
            go_wp2_with fail
            refine (nth_some s k _ hk HT1.out).mono ?_
            rintro e w' ⟨a, rfl, ha, hsa, hca, rfl⟩
            rw [← hca, numsF_hit s a ha hsa, hca, Nat.zero_add] at hcell
            clear ha hsa hca
            have hqa : ((a : Int) != (a : Int)) = false := by simp
            go_wp2_with fail
            refine (rank_any s _ _).mono ?_
            rintro e w' ⟨rfl, rfl⟩
            rw [← HR.out]
            go_wp2_with fail
            refine (even_any s _).mono ?_
            rintro e w' ⟨rfl, rfl⟩
            go_wp2_with fail
            refine (evenSet_any s _).mono ?_
            rintro e w' ⟨rfl, rfl⟩
            go_wp2_with fail
            refine (sub_any s t _).mono ?_
            rintro e w' ⟨u, hu, rfl, rfl⟩
            have HU := Lib.hid hu; clear hu
            go_wp2_with fail
            refine (nextSub_any s t _).mono ?_
            rintro e w' ⟨u', hu', rfl, rfl⟩
            obtain rfl : u = u' := next_unique HU.out hu'
            clear hu'
            go_wp2
            go_ret
            exact ⟨rfl, HB.out⟩

theorem walk (a0 a1 a2 : Int) (w : World) (w0 : (Lit.int .u64 a0).wf = true) (w1 : (Lit.int .u64 a1).wf = true) (w2 : (Lit.int .i64 a2).wf = true) (ht : Tab w) :
    Calls Tryd.prog 4 #[.int .u64 a0, .int .u64 a1, .int .i64 a2] w fun e w' => e = .returned (.bool true) ∧ Below w.heap.size w w' := by
  obtain ⟨s, rfl⟩ := word_of w0
  obtain ⟨t, rfl⟩ := word_of w1
  rcases Nat.eq_zero_or_pos (cnt s) with h | h
  · exact walk_none s t a2 w ht h
  · exact walk_some s t a2 w ht h

/-- what the walk gives, for every argument and every world that holds the table -/
theorem contract (H : Type) (enc : TypeId × Value → H) (W : World) (base : Nat) (args : Array Value) (ds gs : List (DataW H)) (before : List MemPlace)
    (hval : ∀ (j : Nat) t v, Tryd.f4.params[j]? = some t → args[j]? = some v → Value.okWide Tryd.prog W .any base t v)
    (hW : DataW.Whole enc Tryd.prog Tryd.f4.params.toList Rows.bitsFindsSpec.vars false W args.toList ds gs before) (hL : laidMetH Tryd.prog Rows.bitsFindsRow.laid W) :
    Calls Tryd.prog 4 args W fun e W' => ∃ v, e = .returned v ∧ Rows.bitsFindsSpec.post enc Tryd.prog Tryd.f4 false true false false W args v W' := by
  have ht : Tab W := tab_of hL
  have hW' := hW
  obtain ⟨p, q, hA0, hV, rfl, hfz, hnd⟩ := hW
  have hA : DataW.TrodAll enc Tryd.prog W 0 (fun _ => true) true Tryd.f4.params.toList args.toList ds p := hA0
  rw [Tryd.params4] at hA hval
  obtain ⟨v0, vs0, d0, ds0, p0, q0, hargs, rfl, rfl, h0, r0⟩ := trodAll_cons hA
  obtain ⟨v1, vs1, d1, ds1, p1, q1, rfl, rfl, rfl, h1, r1⟩ := trodAll_cons r0
  obtain ⟨v2, vs2, d2, ds2, p2, q2, rfl, rfl, rfl, h2, r2⟩ := trodAll_cons r1
  obtain ⟨rfl, rfl, rfl⟩ := trodAll_nil r2
  obtain rfl : args = #[v0, v1, v2] := by cases args; simp_all
  obtain ⟨rfl, rfl⟩ := trodVars_none hV
  obtain ⟨a0, rfl, rfl, rfl, w0⟩ := open_int Tryd.underlying23 (hval 0 23 v0 rfl rfl) h0
  obtain ⟨a1, rfl, rfl, rfl, w1⟩ := open_int Tryd.underlying23 (hval 1 23 v1 rfl rfl) h1
  obtain ⟨a2, rfl, rfl, rfl, w2⟩ := open_int Tryd.underlying3 (hval 2 3 v2 rfl rfl) h2
  clear hA0
  refine (walk a0 a1 a2 W w0 w1 w2 ht).mono fun e W' ⟨he, bel⟩ => ?_
  subst he
  exact ⟨_, rfl, _, _, _, [], _, [], hW', trodAll_mk1 (shut_bool Tryd.underlying4 _), (trodAll_cons_mk (shut_int Tryd.underlying23 w0) (trodAll_cons_mk (shut_int Tryd.underlying23 w1) (trodAll_cons_mk (shut_int Tryd.underlying3 w2) trodAll_mk0))), rfl, bel.frame _, fun h => by cases h⟩

theorem laid_met (os : Os) : laidMet Tryd.prog Rows.bitsFindsRow.laid ((laidWorld os).forCall (fun _ _ => 0) ⟨#[], #[.int .u64 0, .int .u64 0, .int .i64 0], []⟩).memory :=
  laidMet_of_run' 8 (by kernel_rfl) (by kernel_rfl)
theorem reads (os : Os) {H : Type} (enc : TypeId × Value → H) : ∃ places, DataW.whole enc Tryd.prog ((laidWorld os).forCall (fun _ _ => 0) ⟨#[], #[.int .u64 0, .int .u64 0, .int .i64 0], []⟩).memory Tryd.f4.params.toList Rows.bitsFindsSpec.vars false (#[.int .u64 0, .int .u64 0, .int .i64 0] : Array Value).toList 8 = some ([.lit (.int .u64 0), .lit (.int .u64 0), .lit (.int .i64 0)], [], places) :=
  ⟨[], by kernel_rfl⟩

set_option maxRecDepth 100000 in
theorem lifted (os : Os) (started : os.Started) (H : Type) (enc : TypeId × Value → H) (F : Stop.Interp) :
    ReturnsInHanded {} Tryd.checked os 4 .any ((OpenSpec.ofChange Rows.bitsFindsSpec).preRow enc Tryd.prog Tryd.f4 Rows.bitsFindsRow.domain false Rows.bitsFindsRow.laid) (((OpenSpec.ofChange Rows.bitsFindsSpec).at F).post enc Tryd.prog Tryd.f4 false true false false) := by
  obtain ⟨places, hx⟩ := reads os enc
  refine returnsInHanded_of_row (C := Tryd.checked) (s := OpenSpec.ofChange Rows.bitsFindsSpec) own started (by kernel_rfl) Tryd.func4
    (witness_row_at (enc := enc) (C := Tryd.checked) false (laidWorld os) #[.int .u64 0, .int .u64 0, .int .i64 0] rfl (by kernel_rfl) (by kernel_rfl) (by kernel_rfl)
      (OpenSpec.preRow_of_cond 8 hx (by kernel_rfl) (fun k hk => by cases hk) (by kernel_rfl) (laid_met os))) ?_
  intro W base args ds gs before hval hW _ _ _ hL _ _
  exact contract H enc W base args ds gs before hval hW hL

theorem said : Rows.BitsFindsSaid :=
  OpenClaim.holds_of_cond 4 Tryd.f4 rfl rfl rfl rfl rfl rfl rfl ⟨rfl, rfl, rfl, rfl, rfl⟩ rfl rfl rfl rfl rfl (by kernel_rfl) Tryd.func4 (by kernel_rfl)
    (of_decide_eq_true (by kernel_rfl)) (by unfold Func.isWrapper; first | (rw [if_pos (by decide +kernel)]; kernel_rfl) | (rw [if_neg (by decide +kernel)]; exact ⟨rfl, rfl⟩))
    (fun os started H enc _ F => by rw [OpenClaim.pre_eq_preRow]; exact lifted os started H enc F)

theorem plain (f : FuncId) (fn : Func) (hf : Tryd.pinned.checked.prog.funcNamed Rows.bitsFindsRow.func = some f) (hfn : Tryd.pinned.checked.prog.funcs[f]? = some fn) :
    false = Tryd.pinned.checked.prog.looks [] ∧ ∀ (j : Nat) t, fn.params[j]? = some t → Tryd.pinned.checked.prog.wantsStandIn t = false := by
  obtain rfl : f = 4 := Option.some.inj ((show Tryd.prog.funcNamed Rows.bitsFindsRow.func = some 4 by kernel_rfl).symm.trans hf) |>.symm
  obtain rfl : fn = Tryd.f4 := (Option.some.inj (Tryd.func4.symm.trans hfn)).symm
  refine ⟨by kernel_rfl, fun j t ht => ?_⟩
  rw [Tryd.params4] at ht
  have hm := Array.mem_of_getElem? ht
  simp at hm
  rcases hm with rfl | rfl
  · exact (show Tryd.prog.wantsStandIn 23 = false by kernel_rfl)
  · exact (show Tryd.prog.wantsStandIn 3 = false by kernel_rfl)

theorem card : Rows.BitsFindsCardSaid :=
  Claim7.holds_tied_plain_at .later [] _ _ _ _ said (fun _ h => by cases h) (by kernel_rfl) (fun _ h => by cases h) bitsFinds_row_tie rfl ⟨rfl, rfl⟩ (by kernel_rfl) rfl plain (by kernel_rfl)
#print axioms card
end Go.Proofs.YtodlfklpjnofjaaDoor.bitsFinds
