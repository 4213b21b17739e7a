/-
  The document's answer (package millwrightref) for rows: In, RowsFault, Turned, Steps. No condition.
-/
import Derived.Test.YtjmomgmbmgdeoaaDoorHGd
import Derived.Lib.AppendZeros
namespace Go.Proofs.YtjmomgmbmgdeoaaDoor
set_option maxRecDepth 100000
set_option linter.unusedVariables false
open Go.ChangeShapes Go.WideShapes Go.ChangeAt Go.RowKit

theorem in_walk (s : Bv) (n : Nat) : (((s.toNat : Int) / 2 ^ n).tmod 2 == 1) = s.getLsbD n := by
  have e : ((s.toNat : Int) / 2 ^ n) = ((s.toNat / 2 ^ n : Nat) : Int) := by simp
  have hb : s.getLsbD n = decide (s.toNat / 2 ^ n % 2 = 1) := by
    show s.toNat.testBit n = _
    rw [Nat.testBit_eq_decide_div_mod_eq]
  rw [e, hb, Int.tmod_eq_emod_of_nonneg (Int.natCast_nonneg _)]
  generalize s.toNat / 2 ^ n = x
  by_cases h : x % 2 = 1
  · rw [decide_eq_true h, beq_iff_eq]; omega
  · rw [decide_eq_false h]
    cases hc : ((x : Int) % 2 == 1)
    · rfl
    · rw [beq_iff_eq] at hc; omega
theorem in_nat (s : Bv) (n : Nat) (w : World) (hn : n < 64) (b : Bool) (hb : s.getLsbD n = b) :
    Calls Tryd.prog 14 #[.int .u64 s.toNat, .int .i64 n] w fun e w' => e = .returned (.bool b) ∧ w = w' := by
  have h1 : ((n : Int) < 64) := by omega
  have HB := Lib.hid hb; clear hb
  go_enter Tryd.func14, Tryd.ntmps14
  go_wp2
  go_ret
  refine ⟨?_, rfl⟩
  show Ending.returned (.bool (((s.toNat : Int) / 2 ^ n).tmod 2 == 1)) = _
  rw [in_walk, HB.out]
theorem in_q (s : Bv) (n : Nat) (w : World) (hn : n < 64) (b : Bool) (hb : s.getLsbD n = b) :
    Calls Tryd.prog 14 #[.int .u64 s.toNat, .int .i64 n] w fun e w' => e = .returned (.bool b) ∧ w' = w := (in_nat s n w hn b hb).mono fun _ _ h => ⟨h.1, h.2.symm⟩
theorem app_w_none {w : World} {base n : Nat} {v : Value} {xs : List Value} (ty : TypeId) (hown : w.ownsRow base 35 1 v n xs) (a : Option Addr) (c : Nat) :
    (Builtin.append_ #[22, 22] ty #[v, .slice a 0 c]).run Tryd.prog w = .ok v w := by
  obtain ⟨i0, hi, hz0, hz1, hz2⟩ := info_parts infoW
  obtain ⟨b, cap, rfl, hn⟩ : ∃ b cap, v = .slice b n cap ∧ n ≤ cap := by
    rcases hown.2 with ⟨rfl, rfl⟩ | ⟨g, cap, cur, rfl, _, _, hn, _⟩
    · exact ⟨none, 0, rfl, Nat.le_refl _⟩
    · exact ⟨_, cap, rfl, hn⟩
  cases a with
  | none => cases b <;> simp [Builtin.append_, run_underlying Tryd.underlying22, sizeOf, typeInfo, hi, Builtin.lenOf, hn, Builtin.firstCells, storeCells]
  | some x =>
    have hf := run_firstCells_some (P := Tryd.prog) w i0.size 0 x 0 c [] (by simp) (by simp)
    cases b <;> simp [Builtin.append_, run_underlying Tryd.underlying22, sizeOf, typeInfo, hi, Builtin.lenOf, hn, hf, storeCells]
/-- sets appended to a row of one's own, or to none -/
theorem app_ws {w : World} {B : Nat} {u v : Value} {r1 r2 : List Bv} (ho : WO B u r1 w) (h2 : WIn w v r2) (hl : r1.length + r2.length ≤ 1048576) (hB : B ≤ w.heap.size) :
    ∃ a n c w', (Builtin.append_ #[22, 22] 22 #[u, v]).run Tryd.prog w = .ok (.slice a n c) w' ∧ WO B (.slice a n c) (r1 ++ r2) w' ∧ Below B w w' := by
  obtain ⟨i0, hi, hz0, hz1, hz2⟩ := info_parts infoW
  obtain ⟨a, cap, rfl, hc⟩ := h2
  by_cases h0 : r2 = []
  · subst h0
    obtain ⟨a2, n2, c2, rfl⟩ : ∃ a n c, u = .slice a n c := by
      rcases ho.2 with ⟨h, _⟩ | ⟨g, cap, _, h, _⟩
      · exact ⟨_, _, _, h⟩
      · exact ⟨_, _, _, h⟩
    have hr := app_w_none 22 ho a cap
    exact ⟨a2, n2, c2, w, hr, by rw [List.append_nil]; exact ho, Below.refl _ _⟩
  · have hp := List.length_pos_iff.2 h0
    obtain ⟨b, off, rfl, _⟩ := hc 0 hp
    obtain ⟨v', w', rr, o, g, _⟩ := run_append_own (P := Tryd.prog) w B 22 22 35 i0 (.int .u64 0) 1 8 Tryd.underlying22 hi hz0 hz1 hz2 rfl (by decide) u r1.length (r1.map encW) ho ⟨b, off, none⟩ r2.length cap (r2.map encW) (by rw [List.length_map]; omega) (fun j y hj => by
      have hlt : j < r2.length := by
        rcases Nat.lt_or_ge j r2.length with h | h
        · exact h
        · rw [List.getElem?_eq_none (by rw [List.length_map]; exact h)] at hj; cases hj
      rw [wAt_get hlt] at hj
      cases hj
      obtain ⟨b', off', e, c0⟩ := hc j hlt
      injection e with e; injection e with e1 e2; subst e1 e2
      rw [addrW]; exact c0) (by intro y hy; simp at hy; obtain ⟨x, _, rfl⟩ := hy; rfl) (by unfold maxLen; omega) (by omega) hB
    obtain ⟨a, n, c, rfl⟩ : ∃ a n c, v' = .slice a n c := by
      rcases o.2 with ⟨h, _⟩ | ⟨g, cap, _, h, _⟩
      · exact ⟨_, _, _, h⟩
      · exact ⟨_, _, _, h⟩
    refine ⟨a, n, c, w', rr, ?_, (Below.refl _ w).grown g hB fun k hk => (ho.lt k hk).1⟩
    unfold WO
    rw [List.length_append, List.map_append]
    exact o
/-- the first set that has a number without a name -/
theorem setIn_lt {n : Nat} {s : Bv} (h : ∀ k, n ≤ k → k < 64 → s.getLsbD k = false) : SetIn n s := fun i hi => by
  rcases Nat.lt_or_ge i 64 with h' | h'
  · exact h i hi h'
  · exact bit_ge s h'
/-- the rows turned as far as row i, and in row i as far as k -/
def Tn (r : List Bv) (i k : Nat) (O : List Bv) : Prop := O.length = r.length ∧ ∀ a b, a < r.length → b < 64 → ((wAt O a).getLsbD b = true ↔ (a < i ∨ a = i ∧ b < k) ∧ b < r.length ∧ (wAt r b).getLsbD a = true)
theorem tn_zero (r : List Bv) : Tn r 0 0 (List.replicate r.length 0#64) := ⟨List.length_replicate, fun a b _ _ => by
  rw [wAt_replicate]; simp⟩
theorem tn_row {r O : List Bv} {i : Nat} (h : Tn r i r.length O) : Tn r (i + 1) 0 O := ⟨h.1, fun a b ha hb => by
  rw [h.2 a b ha hb]
  constructor
  · rintro ⟨h1, h2⟩; exact ⟨by omega, h2⟩
  · rintro ⟨h1, h2, h3⟩; exact ⟨by omega, h2, h3⟩⟩
theorem tn_no {r O : List Bv} {i k : Nat} (h : Tn r i k O) (hb : (wAt r k).getLsbD i = false) : Tn r i (k + 1) O := ⟨h.1, fun a b ha hb' => by
  rw [h.2 a b ha hb']
  constructor
  · rintro ⟨h1, h2⟩; exact ⟨by omega, h2⟩
  · rintro ⟨h1, h2, h3⟩
    refine ⟨?_, h2, h3⟩
    rcases h1 with h1 | ⟨h1, h4⟩
    · exact .inl h1
    · right
      refine ⟨h1, ?_⟩
      by_cases e : b = k
      · subst e h1; rw [hb] at h3; cases h3
      · omega⟩
theorem tn_yes {r O : List Bv} {i k : Nat} (h : Tn r i k O) (hi : i < r.length) (hk : k < r.length) (hb : (wAt r k).getLsbD i = true) : Tn r i (k + 1) (orAt O i (one k)) := ⟨by rw [orAt_length, h.1], fun a b ha hb' => by
  rw [wAt_orAt _ _ _ _ (by rw [h.1]; exact hi)]
  by_cases e : a = i
  · subst e
    rw [if_pos rfl, BitVec.getLsbD_or, one_bit k b hb', Bool.or_eq_true, decide_eq_true_iff, h.2 a b ha hb']
    constructor
    · rintro (⟨h1, h2⟩ | rfl)
      · exact ⟨by omega, h2⟩
      · exact ⟨by omega, hk, hb⟩
    · rintro ⟨h1, h2, h3⟩
      by_cases e : b = k
      · exact .inr e
      · exact .inl ⟨by omega, h2, h3⟩
  · rw [if_neg e, h.2 a b ha hb']
    constructor
    · rintro ⟨h1, h2⟩; exact ⟨by omega, h2⟩
    · rintro ⟨h1, h2⟩; exact ⟨by omega, h2⟩⟩
theorem tn_turn {r O : List Bv} (hr : RowsIn r) (h : Tn r r.length 0 O) : O = turnR r :=
  turn_rows hr h.1 fun i k hi hk => by
    rw [h.2 i k hi hk]
    constructor
    · rintro ⟨_, _, h2⟩; exact h2
    · exact fun h2 => ⟨.inl hi, wAt_lt h2, h2⟩

/-! RowsFault -/
theorem wAt_left {a b : List Bv} {k : Nat} (h : k < a.length) : wAt (a ++ b) k = wAt a k := by
  unfold wAt; rw [List.getD, List.getD, List.getElem?_append_left h]
theorem wAt_right {a b : List Bv} {k : Nat} : wAt (a ++ b) (a.length + k) = wAt b k := by
  unfold wAt; rw [List.getD, List.getD, List.getElem?_append_right (by omega), Nat.add_sub_cancel_left]
theorem ckW_join {r z : List Bv} (hl : r.length ≤ 64) (h : ∀ k, k < (r ++ z).length → SetIn r.length (wAt (r ++ z) k)) : ckW r z = 0 := by
  rw [List.length_append] at h
  have hr : ckR r = 0 := by
    rw [ckR_small hl]
    exact ckS_ok fun k hk => by have := h k (by omega); rwa [wAt_left hk] at this
  rw [ckW_rows hr]
  exact ckS_ok fun k hk => by have := h (r.length + k) (by omega); rwa [wAt_right] at this
theorem ckW_part {r z : List Bv} (hl : r.length ≤ 64) {k : Nat} (hk : k < (r ++ z).length) (h : ¬ SetIn r.length (wAt (r ++ z) k)) : ckW r z = 4 := by
  rw [List.length_append] at hk
  by_cases hr : ckR r = 0
  · rw [ckW_rows hr]
    rcases Nat.lt_or_ge k r.length with h' | h'
    · rw [wAt_left h'] at h
      exact absurd ((ckR_zero hr).row k) h
    · obtain ⟨j, rfl⟩ := Nat.exists_eq_add_of_le h'
      rw [wAt_right] at h
      exact ckS_bad (by omega) h
  · rw [ckW_bad hr]
    rw [ckR_small hl] at hr ⊢
    refine Classical.byContradiction fun h2 => ?_
    unfold ckS at hr h2
    split at hr
    · exact absurd rfl hr
    · rename_i h3
      rw [if_neg h3] at h2
      exact absurd rfl h2
set_option maxHeartbeats 8000000 in
theorem rowsFaultZ_any {w : World} {v sv : Value} {r z : List Bv} (h : WIn w v r) (hs : WIn w sv z) (hz : z.length ≤ 64) :
    Calls Tryd.prog 10 #[v, sv] w fun e w' => e = .returned (.int .i64 (ckW r z)) ∧ Below w.heap.size w w' := by
  by_cases hL : 64 < r.length
  · have EE : Hid (ckW r z = 2) := Lib.hid (by
      have h2 := ckR_large hL
      rw [ckW_bad (by rw [h2]; decide), h2])
    obtain ⟨a, c, rfl, _⟩ := h
    obtain ⟨a2, c2, rfl, _⟩ := hs
    generalize ckW r z = C at *
    generalize r.length = L at *
    generalize z.length = M at *
    go_enter Tryd.func10, Tryd.ntmps10
    go_wp2
    go_ret
    exact ⟨ret_c EE.out.symm, Below.refl _ _⟩
  have hl : r.length ≤ 64 := by omega
  have hl' : ¬ (64 : Int) < (r.length : Int) := by omega
  obtain ⟨a5, n5, c5, w5, r5, o5, b5⟩ := app_ws (w := w) (B := w.heap.size) (u := .slice none 0 0) (r1 := []) (World.ownsRow_nil _ _ _ _) h (by simp; omega) (Nat.le_refl _)
  rw [List.nil_append] at o5
  obtain ⟨a6, n6, c6, w6, r6, o6, b6⟩ := app_ws o5 (hs.later b5) (by omega) b5.size
  have B6 := Lib.hid (b5.trans b6)
  obtain ⟨aa, cc, e6, hc6⟩ := o6.win
  injection e6 with e1 e2 e3
  subst e1 e2 e3
  have ZL : (r ++ z).length ≤ 128 := by rw [List.length_append]; omega
  have HC := Lib.hid hc6
  have R5 := Lib.hid r5; have R6 := Lib.hid r6
  have YES : Hid ((∀ k, k < (r ++ z).length → SetIn r.length (wAt (r ++ z) k)) → ckW r z = 0) := ckW_join hl
  have NO : Hid (∀ k, k < (r ++ z).length → ¬ SetIn r.length (wAt (r ++ z) k) → ckW r z = 4) := fun k hk h => ckW_part hl hk h
  obtain ⟨av, cv, rfl, _⟩ := h
  obtain ⟨as', cs', rfl, _⟩ := hs
  clear hc6 r5 r6 o5 o6 b5 b6 hL
  generalize ckW r z = C at *
  generalize wAt (r ++ z) = Z at *
  generalize (r ++ z).length = K at *
  generalize r.length = L at *
  generalize z.length = M at *
  go_enter Tryd.func10, Tryd.ntmps10
  go_wp2_with (at_builtin; go_must (first
    | refine Lib.wpList_append_run _ rfl (.const (.slice none 0 0)) (.tmp 11) 22 22 rfl _ _ rfl rfl _ _ R5.out ?_
    | refine Lib.wpList_append_run _ rfl (.tmp 12) (.tmp 13) 22 22 rfl _ _ rfl rfl _ _ R6.out ?_))
  go_loopw [16] (fun i wr => ∃ k : Nat, k ≤ K ∧ i = .int .i64 (k : Int) ∧ (∀ j, j < k → SetIn L (Z j)) ∧ wr = w6) (fun i _ => K - (intOf i).toNat)
  case atStart => exact ⟨0, Nat.zero_le _, rfl, fun j hj => absurd hj (Nat.not_lt_zero _), rfl⟩
  case round =>
    obtain ⟨k, hk, rfl, qa, rfl⟩ := hrel
    have QA := Lib.hid qa; clear qa
    by_cases hkl : k < K
    · obtain ⟨b, off, rfl, c0⟩ := HC.out k hkl
      have i1 : (0 : Int) ≤ (k : Int) := by omega
      have i2 : (k : Int) < (K : Int) := by omega
      have HX : Hid (SetIn L (Z k) → ∀ j, j < k + 1 → SetIn L (Z j)) := fun h j hj => by
        rcases Nat.lt_succ_iff_lt_or_eq.1 hj with h' | rfl
        · exact QA.out j h'
        · exact h
      have NK := Lib.hid (NO.out k hkl)
      go_wp2_with fail
      go_loopw [7] (fun i wq => ∃ m : Nat, L ≤ m ∧ m ≤ 64 ∧ i = .int .i64 (m : Int) ∧ (∀ j, L ≤ j → j < m → (Z k).getLsbD j = false) ∧ wq = wr) (fun i _ => 64 - (intOf i).toNat)
      case atStart => exact ⟨L, Nat.le_refl _, hl, rfl, fun j h1 h2 => by omega, rfl⟩
      case round =>
        obtain ⟨m, hLm, hm, rfl, qz, rfl⟩ := hrel
        have QZ := Lib.hid qz; clear qz
        by_cases hml : m < 64
        · cases hbit : (Z k).getLsbD m
          · have NX : Hid (∀ j, L ≤ j → j < m + 1 → (Z k).getLsbD j = false) := fun j h1 h2 => by
              rcases Nat.lt_succ_iff_lt_or_eq.1 h2 with h' | rfl
              · exact QZ.out j h1 h'
              · exact hbit
            have IQ := Lib.hid (fun W => in_q (Z k) m W hml false hbit)
            clear hbit
            generalize (Z k).toNat = x at *
            go_wp2_with fail
            refine (IQ.out _).mono ?_
            rintro e w' ⟨rfl, rfl⟩
            go_wp2
            go_roundw
            case rel => exact ⟨m + 1, by omega, by omega, by go_num, NX.out, trivial⟩
            case measure => simp [intOf]; omega
          · have EE : Hid (C = 4) := Lib.hid (NK.out fun h => by have := h m hLm; rw [hbit] at this; cases this)
            have IQ := Lib.hid (fun W => in_q (Z k) m W hml true hbit)
            clear hbit
            generalize (Z k).toNat = x at *
            go_wp2_with fail
            refine (IQ.out _).mono ?_
            rintro e w' ⟨rfl, rfl⟩
            go_wp2
            go_ret
            exact ⟨ret_c EE.out.symm, B6.out⟩
        · obtain rfl : m = 64 := by omega
          have NX := Lib.hid (HX.out (setIn_lt QZ.out))
          go_wp2
          go_roundw
          case rel => exact ⟨k + 1, by omega, by go_num, NX.out, trivial⟩
          case measure => simp [intOf]; omega
    · obtain rfl : k = K := by omega
      have EE := Lib.hid (YES.out QA.out)
      go_wp2
      go_ret
      exact ⟨ret_c EE.out.symm, B6.out⟩

/-! Steps -/
/-- what Steps answers: without a bound below 0 -/
def stR (r : List Bv) (s : Bv) (d : Int) : Bv := if d < 0 then allR r s else steps r s d.toNat
theorem stR_at {r : List Bv} {s : Bv} {j : Nat} : steps r s j = stR r s (j : Int) := by
  unfold stR; rw [if_neg (by omega)]; rfl
theorem stR_fix {r : List Bv} {s : Bv} {j : Nat} {d : Int} (hr : RowsIn r) (hs : SetIn r.length s) (h : stepR r (steps r s j) = steps r s j) (hd : d < 0 ∨ (j : Int) ≤ d) : steps r s j = stR r s d := by
  unfold stR
  by_cases h0 : d < 0
  · rw [if_pos h0]; exact fix_all h hr hs
  · rw [if_neg h0, show d.toNat = j + (d.toNat - j) by omega, steps_add, steps_fix h]
set_option maxHeartbeats 8000000 in
theorem stepsR_any {w : World} {v : Value} {r : List Bv} (s : Bv) (d : Int) (h : WIn w v r) (hr : RowsIn r) (hs : SetIn r.length s) :
    Calls Tryd.prog 28 #[v, .int .u64 (s.toNat : Int), .int .i64 d] w fun e w' => e = .returned (.int .u64 ((stR r s d).toNat : Int)) ∧ w' = w := by
  obtain ⟨a, c, rfl, hc⟩ := h
  have HC := Lib.hid hc; clear hc
  have hl := hr.len
  have AT : Hid (∀ j : Nat, d = (j : Int) → steps r s j = stR r s d) := fun j h => by rw [h]; exact stR_at
  have FX : Hid (∀ j : Nat, stepR r (steps r s j) = steps r s j → (d < 0 ∨ (j : Int) ≤ d) → steps r s j = stR r s d) := fun j h1 h2 => stR_fix hr hs h1 h2
  have GR : Hid (∀ j : Nat, j ≤ cnt (steps r s j) → stepR r (steps r s j) ≠ steps r s j → j + 1 ≤ cnt (steps r s (j + 1))) := fun j h1 h2 => by
    have := cnt_less (le_stepR r (steps r s j)) (fun e => h2 e.symm)
    show j + 1 ≤ cnt (stepR r (steps r s j))
    omega
  have SN : Hid (∀ j, steps r s (j + 1) = stepR r (steps r s j)) := fun j => rfl
  have TN : Hid (∀ S m, stepTo r S (m + 1) = if S.getLsbD m then stepTo r S m ||| wAt r m else stepTo r S m) := fun S m => rfl
  have TE : Hid (∀ S, stepTo r S r.length = stepR r S) := fun S => rfl
  have SZ : Hid (steps r s 0 = s) := Lib.hid rfl
  have TZ : Hid (∀ S, stepTo r S 0 = S) := fun S => rfl
  clear hr hs
  generalize stR r s d = R at *
  generalize r.length = L at *
  go_enter Tryd.func28, Tryd.ntmps28
  go_wp2_with fail
  go_loopw [1, 7] (fun u i wr => ∃ j : Nat, j ≤ cnt (steps r s j) ∧ u = .int .u64 ((steps r s j).toNat : Int) ∧ i = .int .i64 (j : Int) ∧ (d < 0 ∨ (j : Int) ≤ d) ∧ wr = w) (fun _ i _ => 65 - (intOf i).toNat)
  case atStart => exact ⟨0, Nat.zero_le _, by rw [SZ.out], rfl, by omega, rfl⟩
  case round =>
    obtain ⟨j, hj, rfl, rfl, hd, rfl⟩ := hrel
    have hj64 : j ≤ 64 := Nat.le_trans hj (cnt_le _)
    by_cases hdj : d = (j : Int)
    · have EE := Lib.hid (AT.out j hdj)
      subst hdj
      generalize steps r s j = S at *
      go_wp2
      go_ret
      exact ⟨ret_u EE.out, rfl⟩
    · have AT1 := Lib.hid (FX.out j)
      have GR1 := Lib.hid (GR.out j hj)
      have SN1 := SN.out j
      have TE1 := TE.out (steps r s j)
      have TZ1 := TZ.out (steps r s j)
      have TN1 := Lib.hid (TN.out (steps r s j))
      have hd2 : d < 0 ∨ ((j + 1 : Nat) : Int) ≤ d := by omega
      have hdj' : ((j : Int) != d) = true := bne_iff_ne.2 fun h => hdj h.symm
      clear AT FX GR SN TE TZ TN hj
      generalize steps r s j = S at *
      have HN := Lib.hid (fun n W hn => in_q S n W hn _ rfl)
      go_wp2_with fail
      go_loopw [8, 18] (fun u i wq => ∃ m : Nat, m ≤ L ∧ u = .int .u64 ((stepTo r S m).toNat : Int) ∧ i = .int .i64 (m : Int) ∧ wq = wr) (fun _ i _ => L - (intOf i).toNat)
      case atStart => exact ⟨0, Nat.zero_le _, by rw [TZ1], rfl, rfl⟩
      case round =>
        obtain ⟨m, hm, rfl, rfl, rfl⟩ := hrel
        by_cases hml : m < L
        · obtain ⟨b, off, rfl, c0⟩ := HC.out m hml
          have TN2 := TN1.out m
          have HM := Lib.hid (fun W => HN.out m W (by omega))
          have e1 : bits .or .u64 ((stepTo r S m).toNat : Int) ((wAt r m).toNat : Int) = ((stepTo r S m ||| wAt r m).toNat : Int) := bv_or _ _
          have i2 : (m : Int) < (L : Int) := by omega
          generalize wAt r m = z at *
          cases hb : S.getLsbD m
          · rw [hb] at HM TN2
            rw [if_neg (by simp)] at TN2
            have T2 := Lib.hid TN2
            clear TN2 hb
            generalize stepTo r S m ||| z = y at *
            generalize stepTo r S m = x at *
            go_wp2_with fail
            refine (HM.out _).mono ?_
            rintro e w' ⟨rfl, rfl⟩
            go_wp2
            go_roundw
            case rel => exact ⟨m + 1, by omega, by rw [T2.out], by go_num, trivial⟩
            case measure => simp [intOf]; omega
          · rw [hb] at HM TN2
            rw [if_pos rfl] at TN2
            have T2 := Lib.hid TN2
            clear TN2 hb
            generalize stepTo r S m ||| z = y at *
            generalize stepTo r S m = x at *
            go_wp2_with fail
            refine (HM.out _).mono ?_
            rintro e w' ⟨rfl, rfl⟩
            go_wp2
            go_roundw
            case rel => exact ⟨m + 1, by omega, by rw [T2.out], by go_num, trivial⟩
            case measure => simp [intOf]; omega
        · obtain rfl : m = L := by omega
          rw [TE1]
          by_cases hf : stepR r S = S
          · have EE := Lib.hid (AT1.out hf (by omega))
            rw [hf]
            have t1 : ((S.toNat : Int) == (S.toNat : Int)) = true := by simp
            go_wp2
            go_ret
            exact ⟨ret_u EE.out, rfl⟩
          · have G2 := Lib.hid (GR1.out hf)
            rw [SN1] at G2
            have t1 : (((stepR r S).toNat : Int) == (S.toNat : Int)) = false := by
              rw [beq_eq_false_iff_ne]
              intro h
              exact hf (BitVec.eq_of_toNat_eq (by omega))
            have SN2 := Lib.hid SN1
            clear SN1 hf TE1
            generalize stepR r S = S2 at *
            go_wp2
            go_roundw
            case rel => exact ⟨j + 1, by rw [SN2.out]; exact G2.out, by rw [SN2.out], by go_num, hd2, trivial⟩
            case measure => simp [intOf]; omega
end Go.Proofs.YtjmomgmbmgdeoaaDoor
