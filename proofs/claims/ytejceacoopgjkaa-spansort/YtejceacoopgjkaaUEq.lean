/-
  slices.IsSortedFunc at a row in order, slices.Equal at two rows of the same words. No condition.
-/
import Derived.Test.YtejceacoopgjkaaUKey
namespace Go.Proofs.Ytejceacoopgjkaa
set_option linter.unusedVariables false
open Go.ChangeShapes Go.WideShapes Go.ChangeAt Go.RowKit

theorem drewN_sum (w : World) (m n : Nat) : (w.drewN m).drewN n = w.drewN (m + n) := by simp
theorem own_later {w w' : World} {base : Nat} {e : TypeId} {size : Nat} {v : Value} {n : Nat} {xs : List Value} (h : w.ownsRow base e size v n xs) (hb : Below w.heap.size w w') : w'.ownsRow base e size v n xs := by
  obtain ⟨h1, h2⟩ := h
  refine ⟨h1, ?_⟩
  rcases h2 with h2 | ⟨g, cap, cur, hv, hg, hh, r⟩
  · exact .inl h2
  · have hlt : g < w.heap.size := by
      rcases Nat.lt_or_ge g w.heap.size with h | h
      · exact h
      · rw [Array.getElem?_eq_none h] at hh; cases hh
    exact .inr ⟨g, cap, cur, hv, hg, (hb.block g hlt).trans hh, r⟩

set_option maxHeartbeats 1000000 in
theorem equalU_row (n c1 c2 b1 b2 : Nat) (f : Nat → Int) (w : World) (hn : n ≤ 4611686018427387904)
    (h1 : ∀ k, k < n → w.cell? ⟨b1, k, none⟩ = some (.int .u64 (f k))) (h2 : ∀ k, k < n → w.cell? ⟨b2, k, none⟩ = some (.int .u64 (f k))) :
    Calls Try.prog 41 #[.slice (some ⟨b1, 0, none⟩) n c1, .slice (some ⟨b2, 0, none⟩) n c2] w fun e w' => e = .returned (.bool true) ∧ ∃ m, w' = w.drewN m := by
  have H1 := Lib.hid h1; clear h1
  have H2 := Lib.hid h2; clear h2
  go_enter Try.func41, Try.ntmps41
  go_wp2_with fail
  go_loopw [13] (fun i wr => ∃ k : Nat, k ≤ n ∧ i = .int .i64 k ∧ ∃ m, wr = w.drewN m) (fun i _ => n - (intOf i).toNat)
  case atStart => exact ⟨0, by omega, rfl, 0, rfl⟩
  case round =>
    obtain ⟨k, hk, rfl, hm⟩ := hrel
    have HM := Lib.hid hm; clear hm
    by_cases hlt : k < n
    · have c1 : wr.cell? ⟨b1, k, none⟩ = some (.int .u64 (f k)) := by obtain ⟨m, rfl⟩ := HM.out; exact H1.out k hlt
      have c2 : wr.cell? ⟨b2, k, none⟩ = some (.int .u64 (f k)) := by obtain ⟨m, rfl⟩ := HM.out; exact H2.out k hlt
      generalize f k = x at c1 c2
      go_wp2_with fail
      go_quiet (fail)
      go_wp2
      go_roundw
      case rel => exact ⟨k + 1, by omega, by go_num, by obtain ⟨m, rfl⟩ := HM.out; exact ⟨_, drewN_sum _ _ _⟩⟩
      case measure => simp [intOf]; omega
    · go_wp2
      go_ret
      exact ⟨rfl, HM.out⟩
theorem equalU_none (a b : Option Addr) (c1 c2 : Nat) (w : World) : Calls Try.prog 41 #[.slice a 0 c1, .slice b 0 c2] w fun e w' => e = .returned (.bool true) ∧ w = w' := by
  go_enter Try.func41, Try.ntmps41
  go_wp2_with fail
  go_rounds 1
  go_ret
  exact ⟨rfl, rfl⟩
theorem equalU_own {w : World} {B1 B2 n : Nat} {v1 v2 : Value} {z : List Bv} (hn : n ≤ 4611686018427387904) (h1 : w.ownsRow B1 38 1 v1 n (z.map encU)) (h2 : w.ownsRow B2 38 1 v2 n (z.map encU)) :
    Calls Try.prog 41 #[v1, v2] w fun e w' => e = .returned (.bool true) ∧ ∃ m, w' = w.drewN m := by
  by_cases h0 : n = 0
  · subst h0
    have form : ∀ {B : Nat} {v : Value}, w.ownsRow B 38 1 v 0 (z.map encU) → ∃ a c, v = .slice a 0 c := fun h => by
      rcases h.2 with ⟨h, _⟩ | ⟨g, cap, _, h, _⟩
      · exact ⟨_, _, h⟩
      · exact ⟨_, _, h⟩
    obtain ⟨a, c, rfl⟩ := form h1
    obtain ⟨a', c', rfl⟩ := form h2
    exact (equalU_none a a' c c' w).mono fun e w' k => ⟨k.1, 0, k.2.symm⟩
  · have hl : z.length = n := by have := h1.1; simpa using this
    have form : ∀ {B : Nat} {v : Value}, w.ownsRow B 38 1 v n (z.map encU) → ∃ g c, v = .slice (some ⟨g, 0, none⟩) n c := fun h => by
      rcases h.2 with ⟨_, h⟩ | ⟨g, cap, _, h, _⟩
      · exact absurd h h0
      · exact ⟨_, _, h⟩
    obtain ⟨g1, c1, rfl⟩ := form h1
    obtain ⟨g2, c2, rfl⟩ := form h2
    have cl : ∀ {B g c : Nat}, w.ownsRow B 38 1 (.slice (some ⟨g, 0, none⟩) n c) n (z.map encU) → ∀ k, k < n → w.cell? ⟨g, k, none⟩ = some (.int .u64 (((z.getD k 0#64).toNat : Nat) : Int)) := fun h k hk => by
      rw [h.cellAt k (by omega), List.getElem?_map, List.getElem?_eq_getElem (by omega)]
      simp [encU, List.getD, List.getElem?_eq_getElem (show k < z.length by omega)]
    exact equalU_row n c1 c2 g1 g2 _ w hn (cl h1) (cl h2)

theorem ord_notneg {a b : Nat} (h : rank b ≤ rank a) : ¬ ord a b < 0 := by
  unfold ord; split
  · omega
  · split <;> omega
theorem ord_self (a : Nat) : ord a a = 0 := by simp [ord]

set_option maxHeartbeats 1000000 in
theorem isSorted_row (n c bk : Nat) (f : Nat → Nat) (w : World) (h0 : 0 < n) (hn : n ≤ 4611686018427387904) (hb : ∀ i, i < n → f i < 18446744073709551616)
    (hc : ∀ k, k < n → w.cell? ⟨bk, k, none⟩ = some (.float .f64 (f k))) (ha : ∀ k, k + 1 < n → rank (f k) ≤ rank (f (k + 1))) :
    Calls Try.prog 38 #[.slice (some ⟨bk, 0, none⟩) n c, .func (.func 14) #[] #[]] w fun e w' => e = .returned (.bool true) ∧ ∃ m, w' = w.drewN m := by
  have HB := Lib.hid hb; clear hb
  have HC := Lib.hid hc; clear hc
  have HA := Lib.hid ha; clear ha
  have eg : ∀ args w, (callFunc 14 args).run Try.prog w = .ok (.enter 14 args) w := enters_of Try.func14 (by kernel_rfl) rfl
  obtain ⟨n1, hn1⟩ : ∃ n1, n = n1 + 1 := ⟨n - 1, by omega⟩
  have e1 : (n : Int) - 1 = (n1 : Int) := by omega
  have ln1 : n1 < n := by omega
  clear hn1
  go_enter Try.func38, Try.ntmps38
  go_wp2_with fail
  go_loopw [5] (fun i wr => ∃ k : Nat, k < n ∧ i = .int .i64 k ∧ ∃ m, wr = w.drewN m) (fun i _ => (intOf i).toNat)
  case atStart => exact ⟨n1, ln1, by go_num, 0, rfl⟩
  case round =>
    obtain ⟨k, hk, rfl, hm⟩ := hrel
    have HM := Lib.hid hm; clear hm
    by_cases hpos : 0 < k
    · obtain ⟨m, hm⟩ : ∃ m, k = m + 1 := ⟨k - 1, by omega⟩
      have z1 : (k : Int) - 1 = (m : Int) := by omega
      have z2 : (k : Int) < (n : Int) := by omega
      have z3 : (m : Int) < (n : Int) := by omega
      have hpos' : (0 : Int) < (k : Int) := by omega
      have lm : m < k := by omega
      have c1 : wr.cell? ⟨bk, k, none⟩ = some (.float .f64 (f k)) := by obtain ⟨m, rfl⟩ := HM.out; exact HC.out k hk
      have c2 : wr.cell? ⟨bk, m, none⟩ = some (.float .f64 (f m)) := by obtain ⟨m', rfl⟩ := HM.out; exact HC.out m (by omega)
      have b1 := Lib.hid (HB.out k hk)
      have b2 := Lib.hid (HB.out m (by omega))
      have t := ord_notneg (a := f k) (b := f m) (by have := HA.out m (by omega); rw [hm]; exact this)
      have T := Lib.hid t
      clear hm t
      generalize f k = x at c1 b1 T
      generalize f m = y at c2 b2 T
      go_wp2_with fail
      go_quiet (first | (go_at_call 14; exact Calls.quiet_of_same ((order_any _ _ b1.out b2.out _).mono fun _ _ k => ⟨k.1, k.2.symm⟩)))
      have t := T.out
      generalize ord x y = q at t ⊢
      go_wp2
      go_roundw
      case rel => exact ⟨m, by omega, by go_num, by obtain ⟨m, rfl⟩ := HM.out; exact ⟨_, drewN_sum _ _ _⟩⟩
      case measure => simp [intOf]; omega
    · have hpos' : ¬ (0 : Int) < (k : Int) := by omega
      go_wp2
      go_ret
      exact ⟨rfl, HM.out⟩
theorem isSorted_none (a : Option Addr) (c : Nat) (fv : Value) (w : World) : Calls Try.prog 38 #[.slice a 0 c, fv] w fun e w' => e = .returned (.bool true) ∧ w = w' := by
  go_enter Try.func38, Try.ntmps38
  go_wp2_with fail
  go_rounds 1
  go_ret
  exact ⟨rfl, rfl⟩
end Go.Proofs.Ytejceacoopgjkaa
