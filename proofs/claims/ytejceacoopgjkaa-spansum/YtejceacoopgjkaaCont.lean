/-
  slices.ContainsFunc with the test that a float64 is no valid duration; sums of valid durations. No condition.
-/
import Derived.Test.YtejceacoopgjkaaFls
namespace Go.Proofs.Ytejceacoopgjkaa
open Go.ChangeShapes Go.WideShapes Go.ChangeAt Go.RowKit

theorem notRight_any (u : Nat) (h : u < 18446744073709551616) (w : World) :
    Calls Try.prog 36 #[.float .f64 u] w fun e w' => e = .returned (.bool !(ok u)) ∧ w = w' := by
  have H := Lib.hid h; clear h
  go_enter Try.func36, Try.ntmps36
  go_wp2_with fail
  refine (right_any u H.out _).mono ?_
  rintro e w' ⟨rfl, rfl⟩
  go_wp2
  go_ret
  exact ⟨rfl, rfl⟩

/-- what ContainsFunc hands back -/
def ContPost (f : Nat → Nat) (n : Nat) (w : World) (e : Ending) (w' : World) : Prop :=
  (e = .returned (.bool false) ∧ (∀ i, i < n → ok (f i) = true) ∧ w = w') ∨ (e = .returned (.bool true) ∧ w = w')

set_option maxHeartbeats 1000000 in
theorem index_any (n c bk off : Nat) (f : Nat → Nat) (w : World) (hn : n ≤ 4611686018427387904) (hb : ∀ i, i < n → f i < 18446744073709551616)
    (hc : ∀ k, k < n → w.cell? ⟨bk, off + k, none⟩ = some (.float .f64 (f k))) :
    Calls Try.prog 50 #[.slice (some ⟨bk, off, none⟩) n c, .func (.func 36) #[] #[]] w fun e w' =>
      (e = .returned (.int .i64 (-1)) ∧ (∀ i, i < n → ok (f i) = true) ∧ w = w') ∨ ((∃ k : Nat, e = .returned (.int .i64 (k : Int))) ∧ w = w') := by
  have HB := Lib.hid hb; clear hb
  have HC := Lib.hid hc; clear hc
  go_enter Try.func50, Try.ntmps50
  go_wp2_with fail
  go_loopw [8] (fun i wr => ∃ k : Nat, k ≤ n ∧ i = .int .i64 k ∧ (∀ i, i < k → ok (f i) = true) ∧ wr = w) (fun i _ => n - (intOf i).toNat)
  case atStart => exact ⟨0, by omega, rfl, fun i hi => absurd hi (Nat.not_lt_zero _), rfl⟩
  case round =>
    obtain ⟨k, hk, rfl, ha, rfl⟩ := hrel
    have HA := Lib.hid ha; clear ha
    by_cases hlt : k < n
    · have c1 := HC.out k hlt
      go_wp2_with fail
      refine (notRight_any _ (HB.out k hlt) _).mono ?_
      rintro e w' ⟨rfl, rfl⟩
      cases ho : ok (f k)
      · clear ho
        go_wp2
        go_ret
        exact .inr ⟨⟨k, rfl⟩, rfl⟩
      · have HO := Lib.hid ho; clear ho
        go_wp2
        go_roundw
        case rel =>
          refine ⟨k + 1, by omega, by go_num, fun i hi => ?_, trivial⟩
          rcases Nat.lt_succ_iff_lt_or_eq.1 hi with h | h
          · exact HA.out i h
          · rw [h]; exact HO.out
        case measure => simp [intOf]; omega
    · obtain rfl : k = n := by omega
      go_wp2
      go_ret
      exact .inl ⟨rfl, HA.out, rfl⟩
theorem index_none (a : Option Addr) (c : Nat) (fv : Value) (w : World) : Calls Try.prog 50 #[.slice a 0 c, fv] w fun e w' => e = .returned (.int .i64 (-1)) ∧ w = w' := by
  go_enter Try.func50, Try.ntmps50
  go_wp2_with fail
  go_rounds 1
  go_ret
  exact ⟨rfl, rfl⟩

theorem contains_any (n c bk off : Nat) (f : Nat → Nat) (w : World) (hn : n ≤ 4611686018427387904) (hb : ∀ i, i < n → f i < 18446744073709551616)
    (hc : ∀ k, k < n → w.cell? ⟨bk, off + k, none⟩ = some (.float .f64 (f k))) :
    Calls Try.prog 35 #[.slice (some ⟨bk, off, none⟩) n c, .func (.func 36) #[] #[]] w (ContPost f n w) := by
  have HB := Lib.hid hb; clear hb
  have HC := Lib.hid hc; clear hc
  go_enter Try.func35, Try.ntmps35
  go_wp2_with fail
  refine (index_any n c bk off f _ hn HB.out HC.out).mono ?_
  rintro e w' (⟨rfl, ha, rfl⟩ | ⟨⟨k, rfl⟩, rfl⟩)
  · have HA := Lib.hid ha; clear ha
    go_wp2
    go_ret
    exact .inl ⟨rfl, HA.out, rfl⟩
  · have t : decide (0 ≤ (k : Int)) = true := decide_eq_true (by omega)
    go_wp2
    go_ret
    exact .inr ⟨rfl, rfl⟩
theorem contains_none (a : Option Addr) (c : Nat) (fv : Value) (w : World) : Calls Try.prog 35 #[.slice a 0 c, fv] w fun e w' => e = .returned (.bool false) ∧ w = w' := by
  go_enter Try.func35, Try.ntmps35
  go_wp2_with fail
  refine (index_none _ _ _ _).mono ?_
  rintro e w' ⟨rfl, rfl⟩
  go_wp2
  go_ret
  exact ⟨rfl, rfl⟩

/-! sums of valid durations -/
theorem ok_le {u : Nat} (h : ok u = true) : u ≤ 9218868437227405312 := of_decide_eq_true h
theorem le_ok {u : Nat} (h : u ≤ 9218868437227405312) : ok u = true := decide_eq_true h
theorem sum_ok (f : Nat → Nat) : ∀ n, (∀ i, i < n → ok (f i) = true) → ∃ r, sumTo f n = some r ∧ r ≤ 9218868437227405312 ∧ ∀ i, i < n → f i ≤ r
  | 0, _ => ⟨0, rfl, by omega, fun _ h => absurd h (Nat.not_lt_zero _)⟩
  | n + 1, h => by
    obtain ⟨r, h1, h2, h3⟩ := sum_ok f n (fun i hi => h i (by omega))
    obtain ⟨s, k1, k2, k3, k4⟩ := add_right r (f n) h2 (ok_le (h n (by omega)))
    refine ⟨s, ?_, k4, fun i hi => ?_⟩
    · show addS (sumTo f n) (f n) = _
      rw [h1]; exact k1
    · rcases Nat.lt_succ_iff_lt_or_eq.1 hi with h | h
      · have := h3 i h; omega
      · rw [h]; exact k3
theorem endS_ok {r : Nat} (h : r ≤ 9218868437227405312) : endS (some r) = r := by
  show (if isN r then r else _) = _
  rw [if_pos (by unfold isN; omega)]
theorem rank_le {a b : Nat} (h : a ≤ b) (hb : b ≤ 9218868437227405312) : rank a ≤ rank b := by
  unfold rank; rw [if_neg (by omega), if_neg (by omega)]; omega
theorem ord_le {a b : Nat} (h : rank a ≤ rank b) : ord a b ≤ 0 := by
  unfold ord; split
  · omega
  · rw [if_neg (by omega)]; omega
theorem sumTo_congr {f g : Nat → Nat} : ∀ n, (∀ i, i < n → f i = g i) → sumTo f n = sumTo g n
  | 0, _ => rfl
  | n + 1, h => by
    show addS (sumTo f n) (f n) = addS (sumTo g n) (g n)
    rw [sumTo_congr n (fun i hi => h i (by omega)), h n (by omega)]
end Go.Proofs.Ytejceacoopgjkaa
