/-
  The document's answer (package millwrightref) for graphs: RowsFault, GraphOf. No condition.
-/
import Derived.Test.YtpjcdfphllbonaaDoorGRg
import Derived.Laws.Rows
import Derived.Laws.ResultCell
namespace Go.Proofs.YtpjcdfphllbonaaDoor
set_option maxRecDepth 100000
set_option linter.unusedVariables false
open Go.ChangeShapes Go.WideShapes Go.ChangeAt Go.RowKit

/-! RowsFault -/
theorem addrW (g k j : Nat) : (⟨g, k, none⟩ : Addr).add j = ⟨g, k + j, none⟩ := by unfold Addr.add; by_cases h : j = 0 <;> simp [h]
theorem app_w_none {w : World} {base n : Nat} {v : Value} {xs : List Value} (ty : TypeId) (hown : w.ownsRow base 24 1 v n xs) (a : Option Addr) (c : Nat) :
    (Builtin.append_ #[27, 27] ty #[v, .slice a 0 c]).run Tryd.prog w = .ok v w := by
  obtain ⟨i0, hi, hz0, hz1, hz2⟩ := info_parts infoW
  obtain ⟨b, cap, rfl, hn⟩ : ∃ b cap, v = .slice b n cap ∧ n ≤ cap := by
    rcases hown.2 with ⟨rfl, rfl⟩ | ⟨g, cap, cur, rfl, _, _, hn, _⟩
    · exact ⟨none, 0, rfl, Nat.le_refl _⟩
    · exact ⟨_, cap, rfl, hn⟩
  cases a with
  | none => cases b <;> simp [Builtin.append_, run_underlying Tryd.underlying27, sizeOf, typeInfo, hi, Builtin.lenOf, hn, Builtin.firstCells, storeCells]
  | some x =>
    have hf := run_firstCells_some (P := Tryd.prog) w i0.size 0 x 0 c [] (by simp) (by simp)
    cases b <;> simp [Builtin.append_, run_underlying Tryd.underlying27, sizeOf, typeInfo, hi, Builtin.lenOf, hn, hf, storeCells]
/-- sets appended to a row of one's own, or to none -/
theorem app_ws {w : World} {B : Nat} {u v : Value} {r1 r2 : List Bv} (ho : WO B u r1 w) (h2 : WIn w v r2) (hl : r1.length + r2.length ≤ 1048576) (hB : B ≤ w.heap.size) :
    ∃ a n c w', (Builtin.append_ #[27, 27] 27 #[u, v]).run Tryd.prog w = .ok (.slice a n c) w' ∧ WO B (.slice a n c) (r1 ++ r2) w' ∧ Below B w w' := by
  obtain ⟨i0, hi, hz0, hz1, hz2⟩ := info_parts infoW
  obtain ⟨a, cap, rfl, hc⟩ := h2
  by_cases h0 : r2 = []
  · subst h0
    obtain ⟨a2, n2, c2, rfl⟩ : ∃ a n c, u = .slice a n c := by
      rcases ho.2 with ⟨h, _⟩ | ⟨g, cap, _, h, _⟩
      · exact ⟨_, _, _, h⟩
      · exact ⟨_, _, _, h⟩
    have hr := app_w_none 27 ho a cap
    exact ⟨a2, n2, c2, w, hr, by rw [List.append_nil]; exact ho, Below.refl _ _⟩
  · have hp := List.length_pos_iff.2 h0
    obtain ⟨b, off, rfl, _⟩ := hc 0 hp
    obtain ⟨v', w', rr, o, g, _⟩ := run_append_own (P := Tryd.prog) w B 27 27 24 i0 (.int .u64 0) 1 8 Tryd.underlying27 hi hz0 hz1 hz2 rfl (by decide) u r1.length (r1.map encW) ho ⟨b, off, none⟩ r2.length cap (r2.map encW) (by rw [List.length_map]; omega) (fun j y hj => by
      have hlt : j < r2.length := by
        rcases Nat.lt_or_ge j r2.length with h | h
        · exact h
        · rw [List.getElem?_eq_none (by rw [List.length_map]; exact h)] at hj; cases hj
      rw [wAt_get hlt] at hj
      cases hj
      obtain ⟨b', off', e, c0⟩ := hc j hlt
      injection e with e; injection e with e1 e2; subst e1 e2
      rw [addrW]; exact c0) (by intro y hy; simp at hy; obtain ⟨x, _, rfl⟩ := hy; rfl) (by unfold maxLen; omega) (by omega) hB
    obtain ⟨a, n, c, rfl⟩ : ∃ a n c, v' = .slice a n c := by
      rcases o.2 with ⟨h, _⟩ | ⟨g, cap, _, h, _⟩
      · exact ⟨_, _, _, h⟩
      · exact ⟨_, _, _, h⟩
    refine ⟨a, n, c, w', rr, ?_, (Below.refl _ w).grown g hB fun k hk => (ho.lt k hk).1⟩
    unfold WO
    rw [List.length_append, List.map_append]
    exact o
/-- the first set that has a number without a name -/
theorem setIn_lt {n : Nat} {s : Bv} (h : ∀ k, n ≤ k → k < 64 → s.getLsbD k = false) : SetIn n s := fun i hi => by
  rcases Nat.lt_or_ge i 64 with h' | h'
  · exact h i hi h'
  · exact bit_ge s h'
set_option maxHeartbeats 8000000 in
theorem rowsFault_any {w : World} {v : Value} {r : List Bv} (s : Bv) (sv : Value) (h : WIn w v r) (hs : WIn w sv [s]) (hl : r.length ≤ 64) (hr : ∀ i, i < r.length → SetIn r.length (wAt r i)) :
    Calls Tryd.prog 19 #[v, sv] w fun e w' => ((SetIn r.length s ∧ e = .returned (.int .i64 0)) ∨ (¬ SetIn r.length s ∧ e = .returned (.int .i64 4))) ∧ Below w.heap.size w w' := by
  obtain ⟨a5, n5, c5, w5, r5, o5, b5⟩ := app_ws (w := w) (B := w.heap.size) (u := .slice none 0 0) (r1 := []) (World.ownsRow_nil _ _ _ _) h (by simp; omega) (Nat.le_refl _)
  rw [List.nil_append] at o5
  obtain ⟨a6, n6, c6, w6, r6, o6, b6⟩ := app_ws o5 (hs.later b5) (by simp; omega) b5.size
  have B6 := Lib.hid (b5.trans b6)
  obtain ⟨aa, cc, e6, hc6⟩ := o6.win
  injection e6 with e1 e2 e3
  subst e1 e2 e3
  have ZR : Hid (∀ i, i < r.length → wAt (r ++ [s]) i = wAt r i) := fun i hi => by
    unfold wAt; rw [List.getD, List.getD, List.getElem?_append_left hi]
  have ZS : Hid (wAt (r ++ [s]) r.length = s) := Lib.hid (by unfold wAt; rw [List.getD, List.getElem?_append_right (Nat.le_refl _)]; simp)
  have ZL : (r ++ [s]).length = r.length + 1 := by simp
  rw [ZL] at hc6 r6
  have HC := Lib.hid hc6
  have HR := Lib.hid hr
  have R5 := Lib.hid r5; have R6 := Lib.hid r6
  obtain ⟨av, cv, rfl, _⟩ := h
  obtain ⟨as', cs', rfl, _⟩ := hs
  clear hc6 hr r5 r6 o5 o6 b5 b6
  generalize wAt (r ++ [s]) = Z at *
  generalize r.length = L at *
  have hl' : ¬ (64 : Int) < (L : Int) := by omega
  go_enter Tryd.func19, Tryd.ntmps19
  go_wp2_with (at_builtin; go_must (first
    | refine Lib.wpList_append_run _ rfl (.const (.slice none 0 0)) (.tmp 11) 27 27 rfl _ _ rfl rfl _ _ R5.out ?_
    | refine Lib.wpList_append_run _ rfl (.tmp 12) (.tmp 13) 27 27 rfl _ _ rfl rfl _ _ R6.out ?_))
  go_loopw [16] (fun i wr => ∃ k : Nat, k ≤ L + 1 ∧ i = .int .i64 (k : Int) ∧ (∀ j, j < k → SetIn L (Z j)) ∧ wr = w6) (fun i _ => L + 1 - (intOf i).toNat)
  case atStart => exact ⟨0, Nat.zero_le _, rfl, fun j hj => absurd hj (Nat.not_lt_zero _), rfl⟩
  case round =>
    obtain ⟨k, hk, rfl, qa, rfl⟩ := hrel
    have QA := Lib.hid qa; clear qa
    by_cases hkl : k < L + 1
    · obtain ⟨b, off, rfl, c0⟩ := HC.out k hkl
      have i1 : (0 : Int) ≤ (k : Int) := by omega
      have i2 : (k : Int) < (L : Int) + 1 := by omega
      have HX : Hid (SetIn L (Z k) → ∀ j, j < k + 1 → SetIn L (Z j)) := fun h j hj => by
        rcases Nat.lt_succ_iff_lt_or_eq.1 hj with h' | rfl
        · exact QA.out j h'
        · exact h
      have ZK : Hid (k < L ∨ Z k = s) := by
        rcases Nat.lt_succ_iff_lt_or_eq.1 hkl with h' | rfl
        · exact .inl h'
        · exact .inr ZS.out
      have ZI : Hid (k < L → SetIn L (Z k)) := fun h => by rw [ZR.out k h]; exact HR.out k h
      go_wp2_with fail
      go_loopw [7] (fun i wq => ∃ m : Nat, L ≤ m ∧ m ≤ 64 ∧ i = .int .i64 (m : Int) ∧ (∀ j, L ≤ j → j < m → (Z k).getLsbD j = false) ∧ wq = wr) (fun i _ => 64 - (intOf i).toNat)
      case atStart => exact ⟨L, Nat.le_refl _, hl, rfl, fun j h1 h2 => by omega, rfl⟩
      case round =>
        obtain ⟨m, hLm, hm, rfl, qz, rfl⟩ := hrel
        have QZ := Lib.hid qz; clear qz
        by_cases hml : m < 64
        · cases hbit : (Z k).getLsbD m
          · have NX : Hid (∀ j, L ≤ j → j < m + 1 → (Z k).getLsbD j = false) := fun j h1 h2 => by
              rcases Nat.lt_succ_iff_lt_or_eq.1 h2 with h' | rfl
              · exact QZ.out j h1 h'
              · exact hbit
            have IQ := Lib.hid (fun W => in_q (Z k) m W hml false hbit)
            clear hbit
            generalize (Z k).toNat = x at *
            go_wp2_with fail
            refine (IQ.out _).mono ?_
            rintro e w' ⟨rfl, rfl⟩
            go_wp2
            go_roundw
            case rel => exact ⟨m + 1, by omega, by omega, by go_num, NX.out, trivial⟩
            case measure => simp [intOf]; omega
          · have NS : Hid (¬ SetIn L s) := fun h => by
              rcases ZK.out with h' | h'
              · have := ZI.out h' m hLm; rw [hbit] at this; cases this
              · have := h m hLm; rw [← h', hbit] at this; cases this
            have IQ := Lib.hid (fun W => in_q (Z k) m W hml true hbit)
            clear hbit
            generalize (Z k).toNat = x at *
            go_wp2_with fail
            refine (IQ.out _).mono ?_
            rintro e w' ⟨rfl, rfl⟩
            go_wp2
            go_ret
            exact ⟨.inr ⟨NS.out, rfl⟩, B6.out⟩
        · obtain rfl : m = 64 := by omega
          have NX := Lib.hid (HX.out (setIn_lt QZ.out))
          go_wp2
          go_roundw
          case rel => exact ⟨k + 1, by omega, by go_num, NX.out, trivial⟩
          case measure => simp [intOf]; omega
    · obtain rfl : k = L + 1 := by omega
      have YS : Hid (SetIn L s) := by have := QA.out L (by omega); rw [ZS.out] at this; exact this
      go_wp2
      go_ret
      exact ⟨.inl ⟨YS.out, rfl⟩, B6.out⟩
end Go.Proofs.YtpjcdfphllbonaaDoor
