/-
  Proved: for arbitrary arguments Of, List, Count and Below return what the document's answer returns (law BitsTells answers true); the card, the table of math/bits tied to its text. No other condition.
-/
import Derived.Test.YtodlfklpjnofjaaDoorLaid
import Derived.Test.YtodlfklpjnofjaaDoorRefB
namespace Go.Proofs.YtodlfklpjnofjaaDoor.bitsTells
open Go.ChangeShapes Go.WideShapes Go.ChangeAt Go.RowKit
open Go.ChangeMaps (open_string shut_string)
set_option linter.unusedVariables false

/-- what the walk is told of a slice of integers that came in -/
def IsRow (k : IntKind) (w : World) (a : Option Addr) (len cap : Nat) (zs : List Int) : Prop :=
  (a = none ∧ len = 0 ∧ cap = 0 ∧ zs = []) ∨
  ∃ x, a = some x ∧ len ≤ cap ∧ cap ≤ maxLen ∧ zs.length = cap ∧ (∀ i, i < zs.length → w.cell? (x.add i) = some (.int k (zs.getD i 0))) ∧ ∀ n ∈ zs, (Lit.int k n).wf = true

/-- Of and SetOf at a slice that came in -/
theorem row_calls {w : World} {a : Option Addr} {len cap : Nat} {zs : List Int} (h : IsRow .i64 w a len cap zs) :
    Calls Tryd.prog 7 #[.slice a len cap] w (OfPost (fun k => zs.getD k 0) len w) ∧
    Calls Tryd.prog 9 #[.slice a len cap] w (SetOfPost (fun k => zs.getD k 0) len w) := by
  rcases h with ⟨rfl, rfl, rfl, rfl⟩ | ⟨x, rfl, h1, h2, h3, h4, _⟩
  · exact ⟨of_none _ _ _ _, setOf_none _ _ _ _⟩
  · by_cases h0 : len = 0
    · subst h0; exact ⟨of_none _ _ _ _, setOf_none _ _ _ _⟩
    · obtain ⟨b, o, rfl, hc⟩ := ints_at h4 (by omega)
      have hcc : ∀ k, k < len → w.cell? ⟨b, o + k, none⟩ = some (.int .i64 (zs.getD k 0)) := fun k hk => hc k (by omega)
      exact ⟨of_row len cap b o _ w (by omega) hcc, setOf_row len cap b o _ w (by omega) hcc⟩

theorem row_form {w : World} {base : Nat} {v : Value} {n : Nat} {xs : List Value} (h : w.ownsRow base 3 1 v n xs) : ∃ a c, v = .slice a n c := by
  rcases h.2 with ⟨rfl, rfl⟩ | ⟨g, cap, cur, rfl, _⟩
  · exact ⟨none, 0, rfl⟩
  · exact ⟨_, cap, rfl⟩

/-- the list that the program made and the one that the document's answer made are equal -/
theorem equal_lists (s : Bv) (base : Nat) (w1 w2 : World) (v : Value) (h1 : w1.ownsRow base 3 1 v (cnt s) (ints (nums s)))
    (h2 : w2.ownsRow w1.heap.size 3 1 (.slice (some ⟨w1.heap.size, 0, none⟩) (cnt s) (cnt s)) (cnt s) (ints (nums s))) (hb : Below w1.heap.size w1 w2) :
    Calls Tryd.prog 12 #[.slice (some ⟨w1.heap.size, 0, none⟩) (cnt s) (cnt s), v] w2 fun e w' => e = .returned (.bool true) ∧ ∃ k, w' = w2.drewN k := by
  have hc := cnt_le s
  by_cases h0 : cnt s = 0
  · obtain ⟨a, c, rfl⟩ := row_form h1
    rw [h0]
    exact (equal_none _ _ _ _ w2).mono fun e w' h => ⟨h.1, 0, h.2.symm⟩
  · have h1' := h1
    rcases h1.2 with ⟨rfl, hn⟩ | ⟨g, cap, cur, rfl, _, hh, _⟩
    · exact absurd hn h0
    · have hg : g < w1.heap.size := (h1.lt g rfl).2
      refine equal_len (cnt s) (cnt s) cap w1.heap.size 0 g 0 (numsF s) (numsF s) w2 (by omega) true ⟨fun _ _ _ => rfl, fun _ => rfl⟩ (numsF_cells s h2) fun k hk => ?_
      rw [hb.cell (p := ⟨g, 0 + k, none⟩) hg]
      exact numsF_cells s h1' k hk

set_option maxHeartbeats 4000000 in
theorem walk_in (a0 : Option Addr) (len0 cap0 : Nat) (f : Nat → Int) (s : Bv) (a2 : Int) (w : World)
    (hc : Calls Tryd.prog 7 #[.slice a0 len0 cap0] w (OfPost f len0 w) ∧ Calls Tryd.prog 9 #[.slice a0 len0 cap0] w (SetOfPost f len0 w))
    (hr : InRange f len0) (w2 : (Lit.int .i64 a2).wf = true) (ht : Tab w) :
    Calls Tryd.prog 3 #[.slice a0 len0 cap0, .int .u64 s.toNat, .int .i64 a2] w fun e w' => e = .returned (.bool true) ∧ Below w.heap.size w w' := by
  have HT := Lib.hid ht; clear ht
  have HC := Lib.hid hc; clear hc
  have HR := Lib.hid hr; clear hr
  have hqs : (((setTo f len0).toNat : Int) != ((setTo f len0).toNat : Int)) = false := by simp
  have hqc : ((cnt s : Int) == (cnt s : Int)) = true := beq_self_eq_true _
  by_cases hneg : a2 < 0
  · clear w2
    go_enter Tryd.func3, Tryd.ntmps3
    go_wp2_with fail
    refine (HC.out.1).mono ?_
    rintro e w' ⟨rfl, ⟨_, rfl⟩ | ⟨hno, _⟩⟩
    rotate_left
    · exact absurd HR.out hno
    go_wp2_with fail
    refine (below_out a2 _ (by omega)).mono ?_
    rintro e w' ⟨rfl, rfl⟩
    go_wp2_with fail
    refine (HC.out.2).mono ?_
    rintro e w' ⟨rfl, ⟨_, rfl⟩ | ⟨hno, _⟩⟩
    rotate_left
    · exact absurd HR.out hno
    go_wp2_with fail
    refine (numbers_any s _).mono ?_
    rintro e w1 ⟨v, rfl, hown, hb⟩
    have HO := Lib.hid hown; clear hown
    have HB := Lib.hid hb; clear hb
    go_wp2_with fail
    refine (list_any s _ (HT.out.below HB.out HT.out.1)).mono ?_
    rintro e w2 ⟨rfl, hown2, hb2⟩
    have HO2 := Lib.hid hown2; clear hown2
    have HB2 := Lib.hid hb2; clear hb2
    go_wp2_with fail
    refine (equal_lists s w.heap.size w1 w2 v HO.out HO2.out HB2.out).mono ?_
    rintro e w3 ⟨rfl, m, rfl⟩
    obtain ⟨av, cv, rfl⟩ := row_form HO.out
    go_wp2_with fail
    refine (count _ _).mono ?_
    rintro e w3 ⟨rfl, rfl⟩
    go_wp2
    go_ret
    exact ⟨rfl, HB.out.trans ((HB2.out.mono HB.out.size).trans ⟨rfl, rfl, rfl, Nat.le_refl _, fun _ _ => rfl⟩)⟩
  · by_cases hge : 64 < a2
    · have h0 : 0 ≤ a2 := by omega
      have hd : decide (a2 < 0) = false := by rw [decide_eq_false_iff_not]; omega
      clear w2
      go_enter Tryd.func3, Tryd.ntmps3
      go_wp2_with fail
      refine (HC.out.1).mono ?_
      rintro e w' ⟨rfl, ⟨_, rfl⟩ | ⟨hno, _⟩⟩
      rotate_left
      · exact absurd HR.out hno
      go_wp2_with fail
      refine (below_out a2 _ (by omega)).mono ?_
      rintro e w' ⟨rfl, rfl⟩
      go_wp2_with fail
      refine (HC.out.2).mono ?_
      rintro e w' ⟨rfl, ⟨_, rfl⟩ | ⟨hno, _⟩⟩
      rotate_left
      · exact absurd HR.out hno
      go_wp2_with fail
      refine (numbers_any s _).mono ?_
      rintro e w1 ⟨v, rfl, hown, hb⟩
      have HO := Lib.hid hown; clear hown
      have HB := Lib.hid hb; clear hb
      go_wp2_with fail
      refine (list_any s _ (HT.out.below HB.out HT.out.1)).mono ?_
      rintro e w2 ⟨rfl, hown2, hb2⟩
      have HO2 := Lib.hid hown2; clear hown2
      have HB2 := Lib.hid hb2; clear hb2
      go_wp2_with fail
      refine (equal_lists s w.heap.size w1 w2 v HO.out HO2.out HB2.out).mono ?_
      rintro e w3 ⟨rfl, m, rfl⟩
      obtain ⟨av, cv, rfl⟩ := row_form HO.out
      go_wp2_with fail
      refine (count _ _).mono ?_
      rintro e w3 ⟨rfl, rfl⟩
      go_wp2
      go_ret
      exact ⟨rfl, HB.out.trans ((HB2.out.mono HB.out.size).trans ⟨rfl, rfl, rfl, Nat.le_refl _, fun _ _ => rfl⟩)⟩
    · obtain ⟨n, rfl⟩ := Int.eq_ofNat_of_zero_le (show 0 ≤ a2 by omega)
      have hn : n ≤ 64 := by omega
      have hn' : (n : Int) ≤ 64 := by omega
      have hd : decide ((n : Int) < 0) = false := by rw [decide_eq_false_iff_not]; omega
      have hql : (((low n).toNat : Int) != ((low n).toNat : Int)) = false := by simp
      clear w2 hneg hge
      go_enter Tryd.func3, Tryd.ntmps3
      go_wp2_with fail
      refine (HC.out.1).mono ?_
      rintro e w' ⟨rfl, ⟨_, rfl⟩ | ⟨hno, _⟩⟩
      rotate_left
      · exact absurd HR.out hno
      go_wp2_with fail
      refine (below_in n _ (by omega) (by omega)).mono ?_
      rintro e w' ⟨rfl, rfl⟩
      go_wp2_with fail
      refine (HC.out.2).mono ?_
      rintro e w' ⟨rfl, ⟨_, rfl⟩ | ⟨hno, _⟩⟩
      rotate_left
      · exact absurd HR.out hno
      go_wp2_with fail
      refine (upto_any n _ (by omega)).mono ?_
      rintro e w' ⟨rfl, rfl⟩
      go_wp2_with fail
      refine (numbers_any s _).mono ?_
      rintro e w1 ⟨v, rfl, hown, hb⟩
      have HO := Lib.hid hown; clear hown
      have HB := Lib.hid hb; clear hb
      go_wp2_with fail
      refine (list_any s _ (HT.out.below HB.out HT.out.1)).mono ?_
      rintro e w2 ⟨rfl, hown2, hb2⟩
      have HO2 := Lib.hid hown2; clear hown2
      have HB2 := Lib.hid hb2; clear hb2
      go_wp2_with fail
      refine (equal_lists s w.heap.size w1 w2 v HO.out HO2.out HB2.out).mono ?_
      rintro e w3 ⟨rfl, m, rfl⟩
      obtain ⟨av, cv, rfl⟩ := row_form HO.out
      go_wp2_with fail
      refine (count _ _).mono ?_
      rintro e w3 ⟨rfl, rfl⟩
      go_wp2
      go_ret
      exact ⟨rfl, HB.out.trans ((HB2.out.mono HB.out.size).trans ⟨rfl, rfl, rfl, Nat.le_refl _, fun _ _ => rfl⟩)⟩

set_option maxHeartbeats 4000000 in
theorem walk_out (a0 : Option Addr) (len0 cap0 : Nat) (f : Nat → Int) (s : Bv) (a2 : Int) (w : World)
    (hc : Calls Tryd.prog 7 #[.slice a0 len0 cap0] w (OfPost f len0 w) ∧ Calls Tryd.prog 9 #[.slice a0 len0 cap0] w (SetOfPost f len0 w))
    (hr : ¬ InRange f len0) (w2 : (Lit.int .i64 a2).wf = true) (ht : Tab w) :
    Calls Tryd.prog 3 #[.slice a0 len0 cap0, .int .u64 s.toNat, .int .i64 a2] w fun e w' => e = .returned (.bool true) ∧ Below w.heap.size w w' := by
  have HT := Lib.hid ht; clear ht
  have HC := Lib.hid hc; clear hc
  have HR := Lib.hid hr; clear hr
  have hqc : ((cnt s : Int) == (cnt s : Int)) = true := beq_self_eq_true _
  by_cases hneg : a2 < 0
  · clear w2
    go_enter Tryd.func3, Tryd.ntmps3
    go_wp2_with fail
    refine (HC.out.1).mono ?_
    rintro e w' ⟨rfl, ⟨hno, _⟩ | ⟨_, rfl⟩⟩
    · exact absurd hno HR.out
    go_wp2_with fail
    refine (below_out a2 _ (by omega)).mono ?_
    rintro e w' ⟨rfl, rfl⟩
    go_wp2_with fail
    refine (HC.out.2).mono ?_
    rintro e w' ⟨rfl, ⟨hno, _⟩ | ⟨_, rfl⟩⟩
    · exact absurd hno HR.out
    go_wp2_with fail
    refine (numbers_any s _).mono ?_
    rintro e w1 ⟨v, rfl, hown, hb⟩
    have HO := Lib.hid hown; clear hown
    have HB := Lib.hid hb; clear hb
    go_wp2_with fail
    refine (list_any s _ (HT.out.below HB.out HT.out.1)).mono ?_
    rintro e w2 ⟨rfl, hown2, hb2⟩
    have HO2 := Lib.hid hown2; clear hown2
    have HB2 := Lib.hid hb2; clear hb2
    go_wp2_with fail
    refine (equal_lists s w.heap.size w1 w2 v HO.out HO2.out HB2.out).mono ?_
    rintro e w3 ⟨rfl, m, rfl⟩
    obtain ⟨av, cv, rfl⟩ := row_form HO.out
    go_wp2_with fail
    refine (count _ _).mono ?_
    rintro e w3 ⟨rfl, rfl⟩
    go_wp2
    go_ret
    exact ⟨rfl, HB.out.trans ((HB2.out.mono HB.out.size).trans ⟨rfl, rfl, rfl, Nat.le_refl _, fun _ _ => rfl⟩)⟩
  · by_cases hge : 64 < a2
    · have h0 : 0 ≤ a2 := by omega
      have hd : decide (a2 < 0) = false := by rw [decide_eq_false_iff_not]; omega
      clear w2
      go_enter Tryd.func3, Tryd.ntmps3
      go_wp2_with fail
      refine (HC.out.1).mono ?_
      rintro e w' ⟨rfl, ⟨hno, _⟩ | ⟨_, rfl⟩⟩
      · exact absurd hno HR.out
      go_wp2_with fail
      refine (below_out a2 _ (by omega)).mono ?_
      rintro e w' ⟨rfl, rfl⟩
      go_wp2_with fail
      refine (HC.out.2).mono ?_
      rintro e w' ⟨rfl, ⟨hno, _⟩ | ⟨_, rfl⟩⟩
      · exact absurd hno HR.out
      go_wp2_with fail
      refine (numbers_any s _).mono ?_
      rintro e w1 ⟨v, rfl, hown, hb⟩
      have HO := Lib.hid hown; clear hown
      have HB := Lib.hid hb; clear hb
      go_wp2_with fail
      refine (list_any s _ (HT.out.below HB.out HT.out.1)).mono ?_
      rintro e w2 ⟨rfl, hown2, hb2⟩
      have HO2 := Lib.hid hown2; clear hown2
      have HB2 := Lib.hid hb2; clear hb2
      go_wp2_with fail
      refine (equal_lists s w.heap.size w1 w2 v HO.out HO2.out HB2.out).mono ?_
      rintro e w3 ⟨rfl, m, rfl⟩
      obtain ⟨av, cv, rfl⟩ := row_form HO.out
      go_wp2_with fail
      refine (count _ _).mono ?_
      rintro e w3 ⟨rfl, rfl⟩
      go_wp2
      go_ret
      exact ⟨rfl, HB.out.trans ((HB2.out.mono HB.out.size).trans ⟨rfl, rfl, rfl, Nat.le_refl _, fun _ _ => rfl⟩)⟩
    · obtain ⟨n, rfl⟩ := Int.eq_ofNat_of_zero_le (show 0 ≤ a2 by omega)
      have hn : n ≤ 64 := by omega
      have hn' : (n : Int) ≤ 64 := by omega
      have hd : decide ((n : Int) < 0) = false := by rw [decide_eq_false_iff_not]; omega
      have hql : (((low n).toNat : Int) != ((low n).toNat : Int)) = false := by simp
      clear w2 hneg hge
      go_enter Tryd.func3, Tryd.ntmps3
      go_wp2_with fail
      refine (HC.out.1).mono ?_
      rintro e w' ⟨rfl, ⟨hno, _⟩ | ⟨_, rfl⟩⟩
      · exact absurd hno HR.out
      go_wp2_with fail
      refine (below_in n _ (by omega) (by omega)).mono ?_
      rintro e w' ⟨rfl, rfl⟩
      go_wp2_with fail
      refine (HC.out.2).mono ?_
      rintro e w' ⟨rfl, ⟨hno, _⟩ | ⟨_, rfl⟩⟩
      · exact absurd hno HR.out
      go_wp2_with fail
      refine (upto_any n _ (by omega)).mono ?_
      rintro e w' ⟨rfl, rfl⟩
      go_wp2_with fail
      refine (numbers_any s _).mono ?_
      rintro e w1 ⟨v, rfl, hown, hb⟩
      have HO := Lib.hid hown; clear hown
      have HB := Lib.hid hb; clear hb
      go_wp2_with fail
      refine (list_any s _ (HT.out.below HB.out HT.out.1)).mono ?_
      rintro e w2 ⟨rfl, hown2, hb2⟩
      have HO2 := Lib.hid hown2; clear hown2
      have HB2 := Lib.hid hb2; clear hb2
      go_wp2_with fail
      refine (equal_lists s w.heap.size w1 w2 v HO.out HO2.out HB2.out).mono ?_
      rintro e w3 ⟨rfl, m, rfl⟩
      obtain ⟨av, cv, rfl⟩ := row_form HO.out
      go_wp2_with fail
      refine (count _ _).mono ?_
      rintro e w3 ⟨rfl, rfl⟩
      go_wp2
      go_ret
      exact ⟨rfl, HB.out.trans ((HB2.out.mono HB.out.size).trans ⟨rfl, rfl, rfl, Nat.le_refl _, fun _ _ => rfl⟩)⟩

theorem walk (a0 : Option Addr) (len0 cap0 : Nat) (z0 : List Int) (a1 : Int) (a2 : Int) (w : World) (w0 : IsRow .i64 w a0 len0 cap0 z0) (w1 : (Lit.int .u64 a1).wf = true) (w2 : (Lit.int .i64 a2).wf = true) (ht : Tab w) :
    Calls Tryd.prog 3 #[.slice a0 len0 cap0, .int .u64 a1, .int .i64 a2] w fun e w' => e = .returned (.bool true) ∧ Below w.heap.size w w' := by
  obtain ⟨s, rfl⟩ := word_of w1
  have hc := row_calls w0
  by_cases hr : InRange (fun k => z0.getD k 0) len0
  · exact walk_in a0 len0 cap0 _ s a2 w hc hr w2 ht
  · exact walk_out a0 len0 cap0 _ s a2 w hc hr w2 ht

/-- what the walk gives, for every argument and every world that holds the table -/
theorem contract (H : Type) (enc : TypeId × Value → H) (W : World) (base : Nat) (args : Array Value) (ds gs : List (DataW H)) (before : List MemPlace)
    (hval : ∀ (j : Nat) t v, Tryd.f3.params[j]? = some t → args[j]? = some v → Value.okWide Tryd.prog W .any base t v)
    (hW : DataW.Whole enc Tryd.prog Tryd.f3.params.toList Rows.bitsTellsSpec.vars false W args.toList ds gs before) (hL : laidMetH Tryd.prog Rows.bitsTellsRow.laid W) :
    Calls Tryd.prog 3 args W fun e W' => ∃ v, e = .returned v ∧ Rows.bitsTellsSpec.post enc Tryd.prog Tryd.f3 false true false false W args v W' := by
  have ht : Tab W := tab_of hL
  have hW' := hW
  obtain ⟨p, q, hA0, hV, rfl, hfz, hnd⟩ := hW
  have hA : DataW.TrodAll enc Tryd.prog W 0 (fun _ => true) true Tryd.f3.params.toList args.toList ds p := hA0
  rw [Tryd.params3] at hA hval
  obtain ⟨v0, vs0, d0, ds0, p0, q0, hargs, rfl, rfl, h0, r0⟩ := trodAll_cons hA
  obtain ⟨v1, vs1, d1, ds1, p1, q1, rfl, rfl, rfl, h1, r1⟩ := trodAll_cons r0
  obtain ⟨v2, vs2, d2, ds2, p2, q2, rfl, rfl, rfl, h2, r2⟩ := trodAll_cons r1
  obtain ⟨rfl, rfl, rfl⟩ := trodAll_nil r2
  obtain rfl : args = #[v0, v1, v2] := by cases args; simp_all
  obtain ⟨rfl, rfl⟩ := trodVars_none hV
  obtain ⟨a0, len0, cap0, rfl⟩ := okWide_slice Tryd.underlying22 (hval 0 22 v0 rfl rfl)
  have k0 := h0
  have lt0 : ∀ x ∈ p0, x.block < W.heap.size := by obtain ⟨m, hm⟩ := k0; exact DataW.trod_lt m _ _ _ hm
  obtain ⟨z0, w0⟩ : ∃ zs, IsRow .i64 W a0 len0 cap0 zs := by
    obtain ⟨fuel, hf⟩ := h0
    rcases open_ints Tryd.underlying22 Tryd.underlying3 (by kernel_rfl) hf with ⟨hcs, _⟩ | ⟨x, l, c, zs, hcs, _, hl, hm, hz, _, hcell, hwz⟩
    · simp [Value.cells] at hcs
      obtain ⟨rfl, rfl, rfl⟩ := hcs
      exact ⟨[], .inl ⟨rfl, rfl, rfl, rfl⟩⟩
    · simp [Value.cells] at hcs
      obtain ⟨rfl, rfl, rfl⟩ := hcs
      exact ⟨zs, .inr ⟨_, rfl, hl, hm, by simpa using hz, hcell, hwz⟩⟩
  obtain ⟨a1, rfl, rfl, rfl, w1⟩ := open_int Tryd.underlying23 (hval 1 23 v1 rfl rfl) h1
  obtain ⟨a2, rfl, rfl, rfl, w2⟩ := open_int Tryd.underlying3 (hval 2 3 v2 rfl rfl) h2
  clear hA0
  refine (walk a0 len0 cap0 z0 a1 a2 W w0 w1 w2 ht).mono fun e W' ⟨he, bel⟩ => ?_
  subst he
  exact ⟨_, rfl, _, _, _, [], _, [], hW', trodAll_mk1 (shut_bool Tryd.underlying4 _), (trodAll_cons_mk (Below.trod laidOut (by kernel_rfl) (of_decide_eq_true (by kernel_rfl)) k0 bel lt0) (trodAll_cons_mk (shut_int Tryd.underlying23 w1) (trodAll_cons_mk (shut_int Tryd.underlying3 w2) trodAll_mk0))), rfl, bel.frame _, fun h => by cases h⟩

theorem laid_met (os : Os) : laidMet Tryd.prog Rows.bitsTellsRow.laid ((laidWorld os).forCall (fun _ _ => 0) ⟨#[], #[.slice none 0 0, .int .u64 0, .int .i64 0], []⟩).memory :=
  laidMet_of_run' 8 (by kernel_rfl) (by kernel_rfl)
theorem reads (os : Os) {H : Type} (enc : TypeId × Value → H) : ∃ places, DataW.whole enc Tryd.prog ((laidWorld os).forCall (fun _ _ => 0) ⟨#[], #[.slice none 0 0, .int .u64 0, .int .i64 0], []⟩).memory Tryd.f3.params.toList Rows.bitsTellsSpec.vars false (#[.slice none 0 0, .int .u64 0, .int .i64 0] : Array Value).toList 8 = some ([.nil, .lit (.int .u64 0), .lit (.int .i64 0)], [], places) :=
  ⟨[], by kernel_rfl⟩

set_option maxRecDepth 100000 in
theorem lifted (os : Os) (started : os.Started) (H : Type) (enc : TypeId × Value → H) (F : Stop.Interp) :
    ReturnsInHanded {} Tryd.checked os 3 .any ((OpenSpec.ofChange Rows.bitsTellsSpec).preRow enc Tryd.prog Tryd.f3 Rows.bitsTellsRow.domain false Rows.bitsTellsRow.laid) (((OpenSpec.ofChange Rows.bitsTellsSpec).at F).post enc Tryd.prog Tryd.f3 false true false false) := by
  obtain ⟨places, hx⟩ := reads os enc
  refine returnsInHanded_of_row (C := Tryd.checked) (s := OpenSpec.ofChange Rows.bitsTellsSpec) own started (by kernel_rfl) Tryd.func3
    (witness_row_at (enc := enc) (C := Tryd.checked) false (laidWorld os) #[.slice none 0 0, .int .u64 0, .int .i64 0] rfl (by kernel_rfl) (by kernel_rfl) (by kernel_rfl)
      (OpenSpec.preRow_of_cond 8 hx (by kernel_rfl) (fun k hk => by cases hk) (by kernel_rfl) (laid_met os))) ?_
  intro W base args ds gs before hval hW _ _ _ hL _ _
  exact contract H enc W base args ds gs before hval hW hL

theorem said : Rows.BitsTellsSaid :=
  OpenClaim.holds_of_cond 3 Tryd.f3 rfl rfl rfl rfl rfl rfl rfl ⟨rfl, rfl, rfl, rfl, rfl⟩ rfl rfl rfl rfl rfl (by kernel_rfl) Tryd.func3 (by kernel_rfl)
    (of_decide_eq_true (by kernel_rfl)) (by unfold Func.isWrapper; first | (rw [if_pos (by decide +kernel)]; kernel_rfl) | (rw [if_neg (by decide +kernel)]; exact ⟨rfl, rfl⟩))
    (fun os started H enc _ F => by rw [OpenClaim.pre_eq_preRow]; exact lifted os started H enc F)

theorem plain (f : FuncId) (fn : Func) (hf : Tryd.pinned.checked.prog.funcNamed Rows.bitsTellsRow.func = some f) (hfn : Tryd.pinned.checked.prog.funcs[f]? = some fn) :
    false = Tryd.pinned.checked.prog.looks [] ∧ ∀ (j : Nat) t, fn.params[j]? = some t → Tryd.pinned.checked.prog.wantsStandIn t = false := by
  obtain rfl : f = 3 := Option.some.inj ((show Tryd.prog.funcNamed Rows.bitsTellsRow.func = some 3 by kernel_rfl).symm.trans hf) |>.symm
  obtain rfl : fn = Tryd.f3 := (Option.some.inj (Tryd.func3.symm.trans hfn)).symm
  refine ⟨by kernel_rfl, fun j t ht => ?_⟩
  rw [Tryd.params3] at ht
  have hm := Array.mem_of_getElem? ht
  simp at hm
  rcases hm with rfl | rfl | rfl
  · exact (show Tryd.prog.wantsStandIn 22 = false by kernel_rfl)
  · exact (show Tryd.prog.wantsStandIn 23 = false by kernel_rfl)
  · exact (show Tryd.prog.wantsStandIn 3 = false by kernel_rfl)

theorem card : Rows.BitsTellsCardSaid :=
  Claim7.holds_tied_plain_at .later [] _ _ _ _ said (fun _ h => by cases h) (by kernel_rfl) (fun _ h => by cases h) bitsTells_row_tie rfl ⟨rfl, rfl⟩ (by kernel_rfl) rfl plain (by kernel_rfl)
#print axioms card
end Go.Proofs.YtodlfklpjnofjaaDoor.bitsTells
