/-
  What the reference's RightTime, TimeOrder, TimeSum and SameTimes answer. No condition.
-/
import Derived.Test.YtejceacoopgjkaaFls
import Derived.Test.YtejceacoopgjkaaHex
namespace Go.Proofs.Ytejceacoopgjkaa
open Go.ChangeShapes Go.WideShapes Go.ChangeAt Go.RowKit

theorem rightTime_any (u : Nat) (w : World) : Calls Try.prog 13 #[.float .f64 u] w fun e w' => e = .returned (.bool (ok u)) ∧ w = w' := by
  have hb := fbits
  have HO : Hid (decide ((u : Int) ≤ 9218868437227405312) = ok u) := by
    unfold ok
    by_cases h : u ≤ 9218868437227405312
    · rw [decide_eq_true h]; exact decide_eq_true (by omega)
    · rw [decide_eq_false h]; exact decide_eq_false (by omega)
  go_enter Try.func13, Try.ntmps13
  go_wp2
  go_ret
  exact ⟨ret_b HO.out, rfl⟩

set_option maxHeartbeats 1000000 in
theorem timeOrder_any (u v : Nat) (hu : u < 18446744073709551616) (hv : v < 18446744073709551616) (w : World) :
    Calls Try.prog 15 #[.float .f64 u, .float .f64 v] w fun e w' => e = .returned (.int .i64 (ord u v)) ∧ w = w' := by
  have hb := fbits
  have HU := Lib.hid hu
  have HV := Lib.hid hv
  by_cases h : u = v
  · subst h
    have E : Hid (ord u u = 0) := by show ord u u = 0; unfold ord; rw [if_neg (Nat.lt_irrefl _), if_neg (Nat.lt_irrefl _)]
    have t : ((u : Int) == (u : Int)) = true := by simp
    clear hu hv
    go_enter Try.func15, Try.ntmps15
    go_wp2
    go_ret
    exact ⟨ret_i E.out.symm, rfl⟩
  · have t : ((u : Int) == (v : Int)) = false := by rw [beq_eq_false_iff_ne]; omega
    have ku : (u : Int) / 9223372036854775808 = if 9223372036854775808 ≤ u then 1 else 0 := by split <;> omega
    have kv : (v : Int) / 9223372036854775808 = if 9223372036854775808 ≤ v then 1 else 0 := by split <;> omega
    by_cases a : 9223372036854775808 ≤ u <;> by_cases b : 9223372036854775808 ≤ v
    · rw [if_pos a] at ku; rw [if_pos b] at kv
      by_cases c : u < v
      · have E : Hid (ord u v = 1) := by show ord u v = 1; unfold ord rank; simp only [if_pos a, if_pos b]; rw [if_neg (by omega), if_pos (by omega)]
        have t2 : decide (u < v) = true := decide_eq_true c
        clear a b c h hu hv
        go_enter Try.func15, Try.ntmps15
        go_wp2
        go_ret
        exact ⟨ret_i E.out.symm, rfl⟩
      · have E : Hid (ord u v = -1) := by show ord u v = -1; unfold ord rank; simp only [if_pos a, if_pos b]; rw [if_pos (by omega)]
        have t2 : decide (u < v) = false := decide_eq_false c
        clear a b c h hu hv
        go_enter Try.func15, Try.ntmps15
        go_wp2
        go_ret
        exact ⟨ret_i E.out.symm, rfl⟩
    · rw [if_pos a] at ku; rw [if_neg b] at kv
      have E : Hid (ord u v = -1) := by show ord u v = -1; unfold ord rank; simp only [if_pos a, if_neg b]; rw [if_pos (by omega)]
      clear a b h hu hv
      go_enter Try.func15, Try.ntmps15
      go_wp2
      go_ret
      exact ⟨ret_i E.out.symm, rfl⟩
    · rw [if_neg a] at ku; rw [if_pos b] at kv
      have E : Hid (ord u v = 1) := by show ord u v = 1; unfold ord rank; simp only [if_neg a, if_pos b]; rw [if_neg (by omega), if_pos (by omega)]
      clear a b h hu hv
      go_enter Try.func15, Try.ntmps15
      go_wp2
      go_ret
      exact ⟨ret_i E.out.symm, rfl⟩
    · rw [if_neg a] at ku; rw [if_neg b] at kv
      by_cases c : u < v
      · have E : Hid (ord u v = -1) := by show ord u v = -1; unfold ord rank; simp only [if_neg a, if_neg b]; rw [if_pos (by omega)]
        have t2 : decide (u < v) = true := decide_eq_true c
        clear a b c h hu hv
        go_enter Try.func15, Try.ntmps15
        go_wp2
        go_ret
        exact ⟨ret_i E.out.symm, rfl⟩
      · have E : Hid (ord u v = 1) := by show ord u v = 1; unfold ord rank; simp only [if_neg a, if_neg b]; rw [if_neg (by omega), if_pos (by omega)]
        have t2 : decide (u < v) = false := decide_eq_false c
        clear a b c h hu hv
        go_enter Try.func15, Try.ntmps15
        go_wp2
        go_ret
        exact ⟨ret_i E.out.symm, rfl⟩

set_option maxHeartbeats 1000000 in
theorem timeSum_any (n c bk off : Nat) (f : Nat → Nat) (w : World) (hn : n ≤ 4611686018427387904)
    (hc : ∀ k, k < n → w.cell? ⟨bk, off + k, none⟩ = some (.float .f64 (f k))) :
    Calls Try.prog 18 #[.slice (some ⟨bk, off, none⟩) n c] w fun e w' => e = .returned (.float .f64 (endS (sumTo f n))) ∧ ∃ m, w' = w.drewN m := by
  have HC := Lib.hid hc; clear hc
  have hfr := ffrom
  go_enter Try.func18, Try.ntmps18
  go_wp2_with fail
  go_loopw [3, 8] (fun s i wr => ∃ k : Nat, k ≤ n ∧ i = .int .i64 k ∧ (∃ b, St (sumTo f k) b ∧ s = .float .f64 b) ∧ ∃ m, wr = w.drewN m) (fun _ i _ => n - (intOf i).toNat)
  case atStart => exact ⟨0, Nat.zero_le _, rfl, ⟨0, .inl rfl, rfl⟩, 0, rfl⟩
  case round =>
    obtain ⟨k, hk, rfl, ⟨b, hst, rfl⟩, m, rfl⟩ := hrel
    have HS := Lib.hid hst; clear hst
    by_cases hlt : k < n
    · have c1 := HC.out k hlt
      cases ha : Ieee.double.add b (f k) with
      | some r =>
        have hr := fun w => run_float_arith (P := Try.prog) w .add 22 .f64 b (f k) r ha
        have HA := Lib.hid ha; clear ha
        go_wp2
        go_roundw
        case rel => exact ⟨k + 1, by omega, by go_num, ⟨r, st_some HS.out HA.out, rfl⟩, m, rfl⟩
        case measure => simp [intOf]; omega
      | none =>
        obtain ⟨b', hb', hr⟩ := nan_add b (f k) ha 22 (w.drewN m)
        have HA := Lib.hid ha; clear ha
        have HB := Lib.hid hb'; clear hb'
        go_wp2
        go_roundw
        case rel => exact ⟨k + 1, by omega, by go_num, ⟨b', st_none HS.out HA.out HB.out, rfl⟩, m + 1, by simp⟩
        case measure => simp [intOf]; omega
    · obtain rfl : k = n := by omega
      have he := st_end HS.out
      have ht := isNaN_run b
      by_cases hN : isN b
      · rw [decide_eq_true hN] at ht
        rw [if_pos hN] at he
        have HE := Lib.hid he; clear he
        have HN := Lib.hid hN; clear hN
        go_wp2
        go_ret
        exact ⟨ret_f HE.out.symm, m, rfl⟩
      · rw [decide_eq_false hN] at ht
        rw [if_neg hN] at he
        have HE := Lib.hid he; clear he
        have HN := Lib.hid hN; clear hN
        go_wp2
        go_ret
        exact ⟨ret_f HE.out.symm, m, rfl⟩
theorem timeSum_none (a : Option Addr) (c : Nat) (w : World) :
    Calls Try.prog 18 #[.slice a 0 c] w fun e w' => e = .returned (.float .f64 0) ∧ w = w' := by
  have ht := isNaN_run 0
  rw [decide_eq_true (show isN 0 by decide)] at ht
  go_enter Try.func18, Try.ntmps18
  go_wp2_with fail
  go_rounds 1
  go_ret
  exact ⟨rfl, rfl⟩

theorem drewN_add (w : World) (m n : Nat) : (w.drewN m).drewN n = w.drewN (m + n) := by simp
set_option maxHeartbeats 1000000 in
/-- SameTimes at two rows of the same numbers -/
theorem sameTimes_row (n c1 c2 b1 b2 : Nat) (f : Nat → Nat) (w : World) (hn : n ≤ 4611686018427387904)
    (h1 : ∀ k, k < n → w.cell? ⟨b1, k, none⟩ = some (.float .f64 (f k))) (h2 : ∀ k, k < n → w.cell? ⟨b2, k, none⟩ = some (.float .f64 (f k))) :
    Calls Try.prog 19 #[.slice (some ⟨b1, 0, none⟩) n c1, .slice (some ⟨b2, 0, none⟩) n c2] w fun e w' => e = .returned (.bool true) ∧ ∃ m, w' = w.drewN m := by
  have H1 := Lib.hid h1; clear h1
  have H2 := Lib.hid h2; clear h2
  have hb := fbits
  go_enter Try.func19, Try.ntmps19
  go_wp2_with fail
  go_loopw [13] (fun i wr => ∃ k : Nat, k ≤ n ∧ i = .int .i64 k ∧ ∃ m, wr = w.drewN m) (fun i _ => n - (intOf i).toNat)
  case atStart => exact ⟨0, by omega, rfl, 0, rfl⟩
  case round =>
    obtain ⟨k, hk, rfl, hm⟩ := hrel
    have HM := Lib.hid hm; clear hm
    by_cases hlt : k < n
    · have c1 : wr.cell? ⟨b1, k, none⟩ = some (.float .f64 (f k)) := by obtain ⟨m, rfl⟩ := HM.out; exact H1.out k hlt
      have c2 : wr.cell? ⟨b2, k, none⟩ = some (.float .f64 (f k)) := by obtain ⟨m, rfl⟩ := HM.out; exact H2.out k hlt
      have t : ((f k : Int) == (f k : Int)) = true := by simp
      generalize f k = x at c1 c2 t
      go_wp2_with fail
      go_quiet (first | (go_at_call 16; exact Calls.quiet_of_same ((sameBits_any _ _ _).mono fun _ _ k => ⟨k.1, k.2.symm⟩)))
      go_wp2
      go_roundw
      case rel => exact ⟨k + 1, by omega, by go_num, by obtain ⟨m, rfl⟩ := HM.out; exact ⟨_, drewN_add _ _ _⟩⟩
      case measure => simp [intOf]; omega
    · go_wp2
      go_ret
      exact ⟨rfl, HM.out⟩
theorem sameTimes_none (a b : Option Addr) (c1 c2 : Nat) (w : World) : Calls Try.prog 19 #[.slice a 0 c1, .slice b 0 c2] w fun e w' => e = .returned (.bool true) ∧ w = w' := by
  go_enter Try.func19, Try.ntmps19
  go_wp2_with fail
  go_rounds 1
  go_ret
  exact ⟨rfl, rfl⟩
end Go.Proofs.Ytejceacoopgjkaa
