/-
  The laws' closures over parts: has at any number, which part has a number, whether a part has two. Condition: none but that the captured cells hold what they hold.
-/
import Derived.Test.YtbippnldofalbaaDoorHKe
import Derived.Test.YtbippnldofalbaaDoorHKa
namespace Go.Proofs.YtbippnldofalbaaDoor
set_option maxRecDepth 100000
set_option linter.unusedVariables false
open Go.ChangeShapes Go.WideShapes Go.ChangeAt Go.RowKit

/-! has at any number -/
def hasI (s : Bv) (n : Int) : Bool := decide (0 ≤ n) && decide (n < 64) && s.getLsbD n.toNat
theorem hasI_nat (s : Bv) (n : Nat) : hasI s (n : Int) = s.getLsbD n := by
  unfold hasI
  rw [decide_eq_true (by omega), Bool.true_and, Int.toNat_natCast]
  by_cases h : (n : Int) < 64
  · rw [decide_eq_true h, Bool.true_and]
  · rw [decide_eq_false h, Bool.false_and]
    cases hb : s.getLsbD n
    · rfl
    · have := bit_lt hb; omega
theorem hasI_some {s : Bv} {n : Int} (h : hasI s n = true) : ∃ k : Nat, n = (k : Int) ∧ k < 64 ∧ s.getLsbD k = true := by
  unfold hasI at h
  rw [Bool.and_eq_true, Bool.and_eq_true, decide_eq_true_iff, decide_eq_true_iff] at h
  exact ⟨n.toNat, by omega, by omega, h.2⟩
theorem hasI_any (s : Bv) (n : Int) (w : World) :
    Calls Tryd.prog 26 #[.int .u64 (s.toNat : Int), .int .i64 n] w fun e w' => e = .returned (.bool (hasI s n)) ∧ w' = w := by
  by_cases h0 : n < 0
  · have E : Hid (hasI s n = false) := Lib.hid (by unfold hasI; rw [decide_eq_false (by omega)]; rfl)
    generalize hasI s n = q at *
    go_enter Tryd.func26, Tryd.ntmps26
    go_wp2
    go_ret
    exact ⟨by rw [E.out]; rfl, rfl⟩
  · by_cases h1 : 64 ≤ n
    · have E : Hid (hasI s n = false) := Lib.hid (by unfold hasI; rw [decide_eq_false (p := n < 64) (by omega), Bool.and_false]; rfl)
      generalize hasI s n = q at *
      have h2 : ¬ n < 64 := by omega
      go_enter Tryd.func26, Tryd.ntmps26
      go_wp2
      go_ret
      exact ⟨by rw [E.out]; rfl, rfl⟩
    · obtain ⟨k, rfl⟩ : ∃ k : Nat, n = (k : Int) := ⟨n.toNat, by omega⟩
      rw [hasI_nat]
      exact has_any s k w (by omega)

/-! the closures -/
theorem twoF_any {w : World} {p q : Addr} {a b : Int} (s : Bv) (ha : w.cell? p = some (.int .i64 a)) (hb : w.cell? q = some (.int .i64 b)) :
    Calls Tryd.prog 25 #[.int .u64 (s.toNat : Int), .pointer (some p), .pointer (some q)] w fun e w' => e = .returned (.bool (hasI s a && hasI s b)) ∧ w' = w := by
  have HA := Lib.hid (hasI_any s a w)
  have HB := Lib.hid (hasI_any s b w)
  generalize hasI s a = x at *
  generalize hasI s b = y at *
  go_enter Tryd.func25, Tryd.ntmps25
  go_wp2_with fail
  refine HA.out.mono ?_
  rintro e w1 ⟨rfl, rfl⟩
  cases x
  · go_wp2
    go_ret
    exact ⟨rfl, rfl⟩
  · go_wp2_with fail
    refine HB.out.mono ?_
    rintro e w2 ⟨rfl, rfl⟩
    go_wp2
    go_ret
    exact ⟨by simp, rfl⟩
theorem oneF_any {w : World} {p : Addr} {a : Int} (s : Bv) (ha : w.cell? p = some (.int .i64 a)) :
    Calls Tryd.prog 30 #[.int .u64 (s.toNat : Int), .pointer (some p)] w fun e w' => e = .returned (.bool (hasI s a)) ∧ w' = w := by
  have HA := Lib.hid (hasI_any s a w)
  generalize hasI s a = x at *
  go_enter Tryd.func30, Tryd.ntmps30
  go_wp2_with fail
  refine HA.out.mono ?_
  rintro e w1 ⟨rfl, rfl⟩
  go_wp2
  go_ret
  exact ⟨rfl, rfl⟩

/-! IndexFunc, ContainsFunc at the two tests -/
set_option maxHeartbeats 2000000 in
theorem idxTwo_any {w : World} {v : Value} {z : List Bv} {p q : Addr} {a b : Int} (h : WIn w v z) (hn : z.length ≤ 64) (ha : w.cell? p = some (.int .i64 a)) (hb : w.cell? q = some (.int .i64 b)) :
    Calls Tryd.prog 29 #[v, .func (.func 25) #[] #[.pointer (some p), .pointer (some q)]] w fun e w' =>
      ((∃ k : Nat, k < z.length ∧ (hasI (wAt z k) a && hasI (wAt z k) b) = true ∧ e = .returned (.int .i64 (k : Int))) ∨ ((∀ k, k < z.length → (hasI (wAt z k) a && hasI (wAt z k) b) = false) ∧ e = .returned (.int .i64 (-1)))) ∧ w' = w := by
  have en := Tryd.call25
  have TF := Lib.hid (fun s => twoF_any s ha hb)
  obtain ⟨a', c, rfl, hc⟩ := h
  have HC := Lib.hid hc; clear hc
  generalize z.length = n at *
  go_enter Tryd.func29, Tryd.ntmps29
  go_wp2_with fail
  go_loopw [8] (fun i wr => ∃ k : Nat, k ≤ n ∧ i = .int .i64 k ∧ (∀ k', k' < k → (hasI (wAt z k') a && hasI (wAt z k') b) = false) ∧ wr = w) (fun i _ => n - (intOf i).toNat)
  case atStart => exact ⟨0, Nat.zero_le _, rfl, fun j hj => absurd hj (Nat.not_lt_zero _), rfl⟩
  case round =>
    obtain ⟨k, hk, rfl, qa, rfl⟩ := hrel
    have QA := Lib.hid qa; clear qa
    by_cases hkl : k < n
    · obtain ⟨b', off, rfl, c0⟩ := HC.out k hkl
      have TK := Lib.hid (TF.out (wAt z k))
      have NX : Hid ((hasI (wAt z k) a && hasI (wAt z k) b) = false → ∀ k', k' < k + 1 → (hasI (wAt z k') a && hasI (wAt z k') b) = false) := fun h j hj => by
        rcases Nat.lt_succ_iff_lt_or_eq.1 hj with h' | rfl
        · exact QA.out j h'
        · exact h
      cases hx : (hasI (wAt z k) a && hasI (wAt z k) b)
      · have NX1 := Lib.hid (NX.out hx)
        rw [hx] at TK
        clear NX hx
        generalize wAt z k = x at *
        go_wp2_with fail
        refine TK.out.mono ?_
        rintro e w' ⟨rfl, rfl⟩
        go_wp2
        go_roundw
        case rel => exact ⟨k + 1, by omega, by go_num, NX1.out, trivial⟩
        case measure => simp [intOf]; omega
      · have YP := Lib.hid hx
        rw [hx] at TK
        clear NX hx
        generalize hz : wAt z k = x at *
        have HZ := Lib.hid hz; clear hz
        go_wp2_with fail
        refine TK.out.mono ?_
        rintro e w' ⟨rfl, rfl⟩
        go_wp2
        go_ret
        exact ⟨.inl ⟨k, by omega, by rw [HZ.out]; exact YP.out, rfl⟩, rfl⟩
    · obtain rfl : k = n := by omega
      go_wp2
      go_ret
      exact ⟨.inr ⟨QA.out, rfl⟩, rfl⟩
theorem conTwo_any {w : World} {v : Value} {z : List Bv} {p q : Addr} {a b : Int} (h : WIn w v z) (hn : z.length ≤ 64) (ha : w.cell? p = some (.int .i64 a)) (hb : w.cell? q = some (.int .i64 b)) :
    Calls Tryd.prog 24 #[v, .func (.func 25) #[] #[.pointer (some p), .pointer (some q)]] w fun e w' =>
      ((∃ k : Nat, k < z.length ∧ (hasI (wAt z k) a && hasI (wAt z k) b) = true ∧ e = .returned (.bool true)) ∨ ((∀ k, k < z.length → (hasI (wAt z k) a && hasI (wAt z k) b) = false) ∧ e = .returned (.bool false))) ∧ w' = w := by
  have IX := Lib.hid (idxTwo_any h hn ha hb)
  obtain ⟨a', c, rfl, _⟩ := h
  generalize z.length = n at *
  go_enter Tryd.func24, Tryd.ntmps24
  go_wp2_with fail
  refine IX.out.mono ?_
  rintro e w' ⟨⟨k, hk, hx, rfl⟩ | ⟨hx, rfl⟩, rfl⟩
  · have HX := Lib.hid hx; clear hx
    have t1 : (0 : Int) ≤ (k : Int) := by omega
    go_wp2
    go_ret
    exact ⟨.inl ⟨k, hk, HX.out, rfl⟩, rfl⟩
  · have HX := Lib.hid hx; clear hx
    go_wp2
    go_ret
    exact ⟨.inr ⟨HX.out, rfl⟩, rfl⟩
set_option maxHeartbeats 2000000 in
theorem idxOne_any {w : World} {v : Value} {z : List Bv} {p : Addr} {a : Int} (h : WIn w v z) (hn : z.length ≤ 64) (ha : w.cell? p = some (.int .i64 a)) :
    Calls Tryd.prog 29 #[v, .func (.func 30) #[] #[.pointer (some p)]] w fun e w' =>
      ((∃ k : Nat, k < z.length ∧ hasI (wAt z k) a = true ∧ e = .returned (.int .i64 (k : Int))) ∨ ((∀ k, k < z.length → hasI (wAt z k) a = false) ∧ e = .returned (.int .i64 (-1)))) ∧ w' = w := by
  have en := Tryd.call30
  have TF := Lib.hid (fun s => oneF_any s ha)
  obtain ⟨a', c, rfl, hc⟩ := h
  have HC := Lib.hid hc; clear hc
  generalize z.length = n at *
  go_enter Tryd.func29, Tryd.ntmps29
  go_wp2_with fail
  go_loopw [8] (fun i wr => ∃ k : Nat, k ≤ n ∧ i = .int .i64 k ∧ (∀ k', k' < k → hasI (wAt z k') a = false) ∧ wr = w) (fun i _ => n - (intOf i).toNat)
  case atStart => exact ⟨0, Nat.zero_le _, rfl, fun j hj => absurd hj (Nat.not_lt_zero _), rfl⟩
  case round =>
    obtain ⟨k, hk, rfl, qa, rfl⟩ := hrel
    have QA := Lib.hid qa; clear qa
    by_cases hkl : k < n
    · obtain ⟨b', off, rfl, c0⟩ := HC.out k hkl
      have TK := Lib.hid (TF.out (wAt z k))
      have NX : Hid (hasI (wAt z k) a = false → ∀ k', k' < k + 1 → hasI (wAt z k') a = false) := fun h j hj => by
        rcases Nat.lt_succ_iff_lt_or_eq.1 hj with h' | rfl
        · exact QA.out j h'
        · exact h
      cases hx : hasI (wAt z k) a
      · have NX1 := Lib.hid (NX.out hx)
        rw [hx] at TK
        clear NX hx
        generalize wAt z k = x at *
        go_wp2_with fail
        refine TK.out.mono ?_
        rintro e w' ⟨rfl, rfl⟩
        go_wp2
        go_roundw
        case rel => exact ⟨k + 1, by omega, by go_num, NX1.out, trivial⟩
        case measure => simp [intOf]; omega
      · have YP := Lib.hid hx
        rw [hx] at TK
        clear NX hx
        generalize hz : wAt z k = x at *
        have HZ := Lib.hid hz; clear hz
        go_wp2_with fail
        refine TK.out.mono ?_
        rintro e w' ⟨rfl, rfl⟩
        go_wp2
        go_ret
        exact ⟨.inl ⟨k, by omega, by rw [HZ.out]; exact YP.out, rfl⟩, rfl⟩
    · obtain rfl : k = n := by omega
      go_wp2
      go_ret
      exact ⟨.inr ⟨QA.out, rfl⟩, rfl⟩
/-- which part has n: a box for n is laid -/
theorem ofK_any {w : World} {v : Value} {z : List Bv} {p : Addr} (n : Int) (h : WIn w v z) (hn : z.length ≤ 64) (hp : w.cell? p = some v) :
    Calls Tryd.prog 28 #[.int .i64 n, .pointer (some p)] w fun e w' =>
      ((∃ k : Nat, k < z.length ∧ hasI (wAt z k) n = true ∧ e = .returned (.int .i64 (k : Int))) ∨ ((∀ k, k < z.length → hasI (wAt z k) n = false) ∧ e = .returned (.int .i64 (-1)))) ∧ Below w.heap.size w w' := by
  have IX := Lib.hid (fun T => idxOne_any (p := ⟨w.heap.size, 0, none⟩) (a := n) (h.later (below_al w (.cells #[.int .i64 n] T))) hn ((blk_new w #[.int .i64 n] T).cell rfl))
  have WA := Lib.hid (fun T => below_al w (.cells #[.int .i64 n] T))
  have hp' := fun T => cell_later (WA.out T) hp
  obtain ⟨a', c, rfl, _⟩ := h
  generalize z.length = m at *
  go_enter Tryd.func28, Tryd.ntmps28
  go_wp2_with fail
  refine (IX.out _).mono ?_
  rintro e w' ⟨⟨k, hk, hx, rfl⟩ | ⟨hx, rfl⟩, rfl⟩
  · have HX := Lib.hid hx; clear hx
    go_wp2
    go_ret
    exact ⟨.inl ⟨k, hk, HX.out, rfl⟩, WA.out _⟩
  · have HX := Lib.hid hx; clear hx
    go_wp2
    go_ret
    exact ⟨.inr ⟨HX.out, rfl⟩, WA.out _⟩
end Go.Proofs.YtbippnldofalbaaDoor
