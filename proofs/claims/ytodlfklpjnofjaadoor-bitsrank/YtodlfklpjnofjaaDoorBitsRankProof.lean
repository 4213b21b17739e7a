/-
  Proved: the element with index k has k smaller elements, and Next of an element is the element itself (law BitsRank answers true); the card, the table of math/bits tied to its text. No other condition.
-/
import Derived.Test.YtodlfklpjnofjaaDoorLaid
namespace Go.Proofs.YtodlfklpjnofjaaDoor.bitsRank
open Go.ChangeShapes Go.WideShapes Go.ChangeAt Go.RowKit
open Go.ChangeMaps (open_string shut_string)
set_option linter.unusedVariables false

theorem bit_walk (s : Bv) (a : Nat) : bits .and .u64 ((s.toNat : Int) / 2 ^ a) 1 = if s.getLsbD a then 1 else 0 := by
  have e : ((s.toNat : Int) / 2 ^ a) = ((s.toNat / 2 ^ a : Nat) : Int) := by simp
  have hl : s.toNat / 2 ^ a < 18446744073709551616 := Nat.lt_of_le_of_lt (Nat.div_le_self _ _) (bv_lt s)
  rw [e, show (1 : Int) = ((1 : Nat) : Int) from rfl, bits_and_u64_nat _ _ hl (by omega), Nat.and_one_is_mod]
  have hb : s.getLsbD a = decide (s.toNat / 2 ^ a % 2 = 1) := by
    show s.toNat.testBit a = _
    rw [Nat.testBit_eq_decide_div_mod_eq]
  rw [hb]
  have : s.toNat / 2 ^ a % 2 = 0 ∨ s.toNat / 2 ^ a % 2 = 1 := by omega
  rcases this with h | h <;> rw [h] <;> rfl

set_option maxHeartbeats 2000000 in
theorem walk (a0 a1 a2 : Int) (w : World) (w0 : (Lit.int .u64 a0).wf = true) (w1 : (Lit.int .i64 a1).wf = true) (w2 : (Lit.int .i64 a2).wf = true) (ht : Tab w) :
    Calls Tryd.prog 6 #[.int .u64 a0, .int .i64 a1, .int .i64 a2] w fun e w' => e = .returned (.bool true) ∧ Below w.heap.size w w' := by
  obtain ⟨s, rfl⟩ := word_of w0
  clear w0 w1 w2
  have HT := Lib.hid ht; clear ht
  by_cases hneg : a1 < 0
  · have hd : decide (0 ≤ a1) = false := by rw [decide_eq_false_iff_not]; omega
    go_enter Tryd.func6, Tryd.ntmps6
    go_wp2_with fail
    refine (sets_tab _ HT.out).mono ?_
    rintro e w' ⟨rfl, _, hg, ht'⟩
    have HG := Lib.hid hg; clear hg
    have HT' := Lib.hid ht'; clear ht'
    go_wp2_with fail
    refine (nth_none s a1 _ (by omega)).mono ?_
    rintro e w'' ⟨rfl, rfl⟩
    go_wp2_with fail
    refine (next_any s a2 _ HT'.out).mono ?_
    rintro e w'' ⟨rfl, ⟨rfl, hno⟩ | ⟨m, rfl, hm, hcm, hsm, hgap⟩⟩
    · have h8 : decide (cntTo s.getLsbD (clamp a2) < cnt s) = false := by
        rw [decide_eq_false_iff_not]; unfold cnt; rw [cntTo_gap' _ (clamp_le a2) hno]; omega
      clear hno
      go_wp2_with fail
      refine (rank_any _ _ _).mono ?_
      rintro e w'' ⟨rfl, rfl⟩
      go_wp2_with fail
      refine (count _ _).mono ?_
      rintro e w'' ⟨rfl, rfl⟩
      go_wp2
      go_ret
      exact ⟨rfl, HG.out⟩
    · have h8 : decide (cntTo s.getLsbD (clamp a2) < cnt s) = true := by
        rw [decide_eq_true_iff]
        exact Nat.lt_of_le_of_lt (cntTo_mono _ hcm) (cntTo_hit _ hm hsm)
      have h9 : a2 ≤ (m : Int) := by unfold clamp at hcm; omega
      have h10 := cntTo_gap' _ hcm hgap
      have H10 := Lib.hid h10; clear h10
      clear hgap hsm
      go_wp2_with fail
      refine (rank_any _ _ _).mono ?_
      rintro e w'' ⟨rfl, rfl⟩
      go_wp2_with fail
      refine (count _ _).mono ?_
      rintro e w'' ⟨rfl, rfl⟩
      go_wp2_with fail
      refine (rank_any s (m : Int) _).mono ?_
      rintro e w'' ⟨rfl, rfl⟩
      rw [clamp_nat m (by omega), H10.out]
      go_wp2_with fail
      refine (rank_any s a2 _).mono ?_
      rintro e w'' ⟨rfl, rfl⟩
      go_wp2
      go_ret
      exact ⟨rfl, HG.out⟩
  · by_cases hge : (cnt s : Int) ≤ a1
    · have h0 : 0 ≤ a1 := by omega
      have hd : decide (a1 < (cnt s : Int)) = false := by rw [decide_eq_false_iff_not]; omega
      go_enter Tryd.func6, Tryd.ntmps6
      go_wp2_with fail
      refine (sets_tab _ HT.out).mono ?_
      rintro e w' ⟨rfl, _, hg, ht'⟩
      have HG := Lib.hid hg; clear hg
      have HT' := Lib.hid ht'; clear ht'
      go_wp2_with fail
      refine (nth_none s a1 _ (by omega)).mono ?_
      rintro e w'' ⟨rfl, rfl⟩
      go_wp2_with fail
      refine (count _ _).mono ?_
      rintro e w'' ⟨rfl, rfl⟩
      go_wp2_with fail
      refine (next_any s a2 _ HT'.out).mono ?_
      rintro e w'' ⟨rfl, ⟨rfl, hno⟩ | ⟨m, rfl, hm, hcm, hsm, hgap⟩⟩
      · have h8 : decide (cntTo s.getLsbD (clamp a2) < cnt s) = false := by
          rw [decide_eq_false_iff_not]; unfold cnt; rw [cntTo_gap' _ (clamp_le a2) hno]; omega
        clear hno
        go_wp2_with fail
        refine (rank_any _ _ _).mono ?_
        rintro e w'' ⟨rfl, rfl⟩
        go_wp2_with fail
        refine (count _ _).mono ?_
        rintro e w'' ⟨rfl, rfl⟩
        go_wp2
        go_ret
        exact ⟨rfl, HG.out⟩
      · have h8 : decide (cntTo s.getLsbD (clamp a2) < cnt s) = true := by
          rw [decide_eq_true_iff]
          exact Nat.lt_of_le_of_lt (cntTo_mono _ hcm) (cntTo_hit _ hm hsm)
        have h9 : a2 ≤ (m : Int) := by unfold clamp at hcm; omega
        have h10 := cntTo_gap' _ hcm hgap
        have H10 := Lib.hid h10; clear h10
        clear hgap hsm
        go_wp2_with fail
        refine (rank_any _ _ _).mono ?_
        rintro e w'' ⟨rfl, rfl⟩
        go_wp2_with fail
        refine (count _ _).mono ?_
        rintro e w'' ⟨rfl, rfl⟩
        go_wp2_with fail
        refine (rank_any s (m : Int) _).mono ?_
        rintro e w'' ⟨rfl, rfl⟩
        rw [clamp_nat m (by omega), H10.out]
        go_wp2_with fail
        refine (rank_any s a2 _).mono ?_
        rintro e w'' ⟨rfl, rfl⟩
        go_wp2
        go_ret
        exact ⟨rfl, HG.out⟩
    · obtain ⟨k, rfl⟩ := Int.eq_ofNat_of_zero_le (show 0 ≤ a1 by omega)
      have h1 : k < cnt s := by omega
      have h2 : decide (k < cnt s) = true := by simpa using h1
      clear hneg hge
      go_enter Tryd.func6, Tryd.ntmps6
      go_wp2_with fail
      refine (sets_tab _ HT.out).mono ?_
      rintro e w' ⟨rfl, _, hg, ht'⟩
      have HG := Lib.hid hg; clear hg
      have HT' := Lib.hid ht'; clear ht'
      go_wp2_with fail
      refine (nth_some s k _ h1 HT'.out).mono ?_
      rintro e w'' ⟨a, rfl, ha, hs, hc, rfl⟩
      have hbit : (bits .and .u64 ((s.toNat : Int) / 2 ^ a) 1 == 0) = false := by rw [bit_walk, hs]; rfl
      have HS := Lib.hid hs; clear hs
      have HC := Lib.hid hc; clear hc
      go_wp2_with fail
      refine (count _ _).mono ?_
      rintro e w'' ⟨rfl, rfl⟩
      go_wp2_with fail
      refine (rank_any _ _ _).mono ?_
      rintro e w'' ⟨rfl, rfl⟩
      rw [clamp_nat a (by omega), HC.out]
      go_wp2_with fail
      refine (next_any s (a : Int) _ HT'.out).mono ?_
      rw [clamp_nat a (by omega)]
      rintro e w'' ⟨rfl, ⟨rfl, hno⟩ | ⟨m, rfl, hm, hcm, hsm, hgap⟩⟩
      · exfalso
        have := hno a (Nat.le_refl _) ha
        rw [HS.out] at this; cases this
      · obtain rfl : a = m := by
          rcases Nat.lt_or_ge a m with h | h
          · have := hgap a (Nat.le_refl _) h
            rw [HS.out] at this; cases this
          · omega
        clear hcm hsm hgap hm hbit
        go_wp2_with fail
        refine (next_any s a2 _ HT'.out).mono ?_
        rintro e w'' ⟨rfl, ⟨rfl, hno⟩ | ⟨m, rfl, hm, hcm, hsm, hgap⟩⟩
        · have h8 : decide (cntTo s.getLsbD (clamp a2) < cnt s) = false := by
            rw [decide_eq_false_iff_not]; unfold cnt; rw [cntTo_gap' _ (clamp_le a2) hno]; omega
          clear hno
          go_wp2_with fail
          refine (rank_any _ _ _).mono ?_
          rintro e w'' ⟨rfl, rfl⟩
          go_wp2_with fail
          refine (count _ _).mono ?_
          rintro e w'' ⟨rfl, rfl⟩
          go_wp2
          go_ret
          exact ⟨rfl, HG.out⟩
        · have h8 : decide (cntTo s.getLsbD (clamp a2) < cnt s) = true := by
            rw [decide_eq_true_iff]
            exact Nat.lt_of_le_of_lt (cntTo_mono _ hcm) (cntTo_hit _ hm hsm)
          have h9 : a2 ≤ (m : Int) := by unfold clamp at hcm; omega
          have h10 := cntTo_gap' _ hcm hgap
          have H10 := Lib.hid h10; clear h10
          clear hgap hsm
          go_wp2_with fail
          refine (rank_any _ _ _).mono ?_
          rintro e w'' ⟨rfl, rfl⟩
          go_wp2_with fail
          refine (count _ _).mono ?_
          rintro e w'' ⟨rfl, rfl⟩
          go_wp2_with fail
          refine (rank_any s (m : Int) _).mono ?_
          rintro e w'' ⟨rfl, rfl⟩
          rw [clamp_nat m (by omega), H10.out]
          go_wp2_with fail
          refine (rank_any s a2 _).mono ?_
          rintro e w'' ⟨rfl, rfl⟩
          go_wp2
          go_ret
          exact ⟨rfl, HG.out⟩

/-- what the walk gives, for every argument and every world that holds the table -/
theorem contract (H : Type) (enc : TypeId × Value → H) (W : World) (base : Nat) (args : Array Value) (ds gs : List (DataW H)) (before : List MemPlace)
    (hval : ∀ (j : Nat) t v, Tryd.f6.params[j]? = some t → args[j]? = some v → Value.okWide Tryd.prog W .any base t v)
    (hW : DataW.Whole enc Tryd.prog Tryd.f6.params.toList Rows.bitsRankSpec.vars false W args.toList ds gs before) (hL : laidMetH Tryd.prog Rows.bitsRankRow.laid W) :
    Calls Tryd.prog 6 args W fun e W' => ∃ v, e = .returned v ∧ Rows.bitsRankSpec.post enc Tryd.prog Tryd.f6 false true false false W args v W' := by
  have ht : Tab W := tab_of hL
  have hW' := hW
  obtain ⟨p, q, hA0, hV, rfl, hfz, hnd⟩ := hW
  have hA : DataW.TrodAll enc Tryd.prog W 0 (fun _ => true) true Tryd.f6.params.toList args.toList ds p := hA0
  rw [Tryd.params6] at hA hval
  obtain ⟨v0, vs0, d0, ds0, p0, q0, hargs, rfl, rfl, h0, r0⟩ := trodAll_cons hA
  obtain ⟨v1, vs1, d1, ds1, p1, q1, rfl, rfl, rfl, h1, r1⟩ := trodAll_cons r0
  obtain ⟨v2, vs2, d2, ds2, p2, q2, rfl, rfl, rfl, h2, r2⟩ := trodAll_cons r1
  obtain ⟨rfl, rfl, rfl⟩ := trodAll_nil r2
  obtain rfl : args = #[v0, v1, v2] := by cases args; simp_all
  obtain ⟨rfl, rfl⟩ := trodVars_none hV
  obtain ⟨a0, rfl, rfl, rfl, w0⟩ := open_int Tryd.underlying23 (hval 0 23 v0 rfl rfl) h0
  obtain ⟨a1, rfl, rfl, rfl, w1⟩ := open_int Tryd.underlying3 (hval 1 3 v1 rfl rfl) h1
  obtain ⟨a2, rfl, rfl, rfl, w2⟩ := open_int Tryd.underlying3 (hval 2 3 v2 rfl rfl) h2
  clear hA0
  refine (walk a0 a1 a2 W w0 w1 w2 ht).mono fun e W' ⟨he, bel⟩ => ?_
  subst he
  exact ⟨_, rfl, _, _, _, [], _, [], hW', trodAll_mk1 (shut_bool Tryd.underlying4 _), (trodAll_cons_mk (shut_int Tryd.underlying23 w0) (trodAll_cons_mk (shut_int Tryd.underlying3 w1) (trodAll_cons_mk (shut_int Tryd.underlying3 w2) trodAll_mk0))), rfl, bel.frame _, fun h => by cases h⟩

theorem laid_met (os : Os) : laidMet Tryd.prog Rows.bitsRankRow.laid ((laidWorld os).forCall (fun _ _ => 0) ⟨#[], #[.int .u64 0, .int .i64 0, .int .i64 0], []⟩).memory :=
  laidMet_of_run' 8 (by kernel_rfl) (by kernel_rfl)
theorem reads (os : Os) {H : Type} (enc : TypeId × Value → H) : ∃ places, DataW.whole enc Tryd.prog ((laidWorld os).forCall (fun _ _ => 0) ⟨#[], #[.int .u64 0, .int .i64 0, .int .i64 0], []⟩).memory Tryd.f6.params.toList Rows.bitsRankSpec.vars false (#[.int .u64 0, .int .i64 0, .int .i64 0] : Array Value).toList 8 = some ([.lit (.int .u64 0), .lit (.int .i64 0), .lit (.int .i64 0)], [], places) :=
  ⟨[], by kernel_rfl⟩

set_option maxRecDepth 100000 in
theorem lifted (os : Os) (started : os.Started) (H : Type) (enc : TypeId × Value → H) (F : Stop.Interp) :
    ReturnsInHanded {} Tryd.checked os 6 .any ((OpenSpec.ofChange Rows.bitsRankSpec).preRow enc Tryd.prog Tryd.f6 Rows.bitsRankRow.domain false Rows.bitsRankRow.laid) (((OpenSpec.ofChange Rows.bitsRankSpec).at F).post enc Tryd.prog Tryd.f6 false true false false) := by
  obtain ⟨places, hx⟩ := reads os enc
  refine returnsInHanded_of_row (C := Tryd.checked) (s := OpenSpec.ofChange Rows.bitsRankSpec) own started (by kernel_rfl) Tryd.func6
    (witness_row_at (enc := enc) (C := Tryd.checked) false (laidWorld os) #[.int .u64 0, .int .i64 0, .int .i64 0] rfl (by kernel_rfl) (by kernel_rfl) (by kernel_rfl)
      (OpenSpec.preRow_of_cond 8 hx (by kernel_rfl) (fun k hk => by cases hk) (by kernel_rfl) (laid_met os))) ?_
  intro W base args ds gs before hval hW _ _ _ hL _ _
  exact contract H enc W base args ds gs before hval hW hL

theorem said : Rows.BitsRankSaid :=
  OpenClaim.holds_of_cond 6 Tryd.f6 rfl rfl rfl rfl rfl rfl rfl ⟨rfl, rfl, rfl, rfl, rfl⟩ rfl rfl rfl rfl rfl (by kernel_rfl) Tryd.func6 (by kernel_rfl)
    (of_decide_eq_true (by kernel_rfl)) (by unfold Func.isWrapper; first | (rw [if_pos (by decide +kernel)]; kernel_rfl) | (rw [if_neg (by decide +kernel)]; exact ⟨rfl, rfl⟩))
    (fun os started H enc _ F => by rw [OpenClaim.pre_eq_preRow]; exact lifted os started H enc F)

theorem plain (f : FuncId) (fn : Func) (hf : Tryd.pinned.checked.prog.funcNamed Rows.bitsRankRow.func = some f) (hfn : Tryd.pinned.checked.prog.funcs[f]? = some fn) :
    false = Tryd.pinned.checked.prog.looks [] ∧ ∀ (j : Nat) t, fn.params[j]? = some t → Tryd.pinned.checked.prog.wantsStandIn t = false := by
  obtain rfl : f = 6 := Option.some.inj ((show Tryd.prog.funcNamed Rows.bitsRankRow.func = some 6 by kernel_rfl).symm.trans hf) |>.symm
  obtain rfl : fn = Tryd.f6 := (Option.some.inj (Tryd.func6.symm.trans hfn)).symm
  refine ⟨by kernel_rfl, fun j t ht => ?_⟩
  rw [Tryd.params6] at ht
  have hm := Array.mem_of_getElem? ht
  simp at hm
  rcases hm with rfl | rfl
  · exact (show Tryd.prog.wantsStandIn 23 = false by kernel_rfl)
  · exact (show Tryd.prog.wantsStandIn 3 = false by kernel_rfl)

theorem card : Rows.BitsRankCardSaid :=
  Claim7.holds_tied_plain_at .later [] _ _ _ _ said (fun _ h => by cases h) (by kernel_rfl) (fun _ h => by cases h) bitsRank_row_tie rfl ⟨rfl, rfl⟩ (by kernel_rfl) rfl plain (by kernel_rfl)
#print axioms card
end Go.Proofs.YtodlfklpjnofjaaDoor.bitsRank
