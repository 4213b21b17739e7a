/-
  What package bits' Of answers for a slice of integers that lies in memory, in terms of words. No condition.
-/
import Derived.Test.YtodlfklpjnofjaaDoorList
namespace Go.Proofs.YtodlfklpjnofjaaDoor
open Go.ChangeShapes Go.WideShapes Go.ChangeAt Go.RowKit

/-- the set of the first k numbers -/
def setTo (f : Nat → Int) : Nat → Bv
  | 0 => 0#64
  | k + 1 => setTo f k ||| one (f k).toNat
def InRange (f : Nat → Int) (n : Nat) : Prop := ∀ k, k < n → 0 ≤ f k ∧ f k < 64
theorem inRange_succ {f : Nat → Int} {k : Nat} (h : InRange f k) (h0 : 0 ≤ f k) (h1 : f k < 64) : InRange f (k + 1) := fun j hj => by
  rcases Nat.lt_succ_iff_lt_or_eq.1 hj with h' | h'
  · exact h j h'
  · rw [h']; exact ⟨h0, h1⟩
def OfPost (f : Nat → Int) (n : Nat) (w : World) (e : Ending) (w' : World) : Prop := w = w' ∧
  ((InRange f n ∧ e = .returned (.tuple #[.int .u64 (setTo f n).toNat, .int .i64 0])) ∨ (¬ InRange f n ∧ e = .returned (.tuple #[.int .u64 0, .int .i64 4])))

theorem or_walk (s : Bv) (v : Int) (h0 : 0 ≤ v) (h1 : v < 64) : bits .or .u64 (s.toNat : Int) (IntKind.u64.wrap (2 ^ v.toNat)) = ((s ||| one v.toNat).toNat : Int) := by
  rw [one_walk v.toNat (by omega), bv_or]

set_option maxHeartbeats 1000000 in
theorem of_row (n c b o : Nat) (f : Nat → Int) (w : World) (hn : n ≤ maxLen)
    (h1 : ∀ k, k < n → w.cell? ⟨b, o + k, none⟩ = some (.int .i64 (f k))) :
    Calls Tryd.prog 7 #[.slice (some ⟨b, o, none⟩) n c] w (OfPost f n w) := by
  unfold maxLen at hn
  have H1 := Lib.hid h1; clear h1
  go_enter Tryd.func7, Tryd.ntmps7
  go_wp2_with fail
  go_loop [4, 9] (fun v i => ∃ k : Nat, k ≤ n ∧ InRange f k ∧ v = .int .u64 (setTo f k).toNat ∧ i = .int .i64 k) (fun _ i => n - (intOf i).toNat)
  case atStart => exact ⟨0, Nat.zero_le _, fun _ h => absurd h (Nat.not_lt_zero _), rfl, rfl⟩
  case round =>
    obtain ⟨k, hk, hr, rfl, rfl⟩ := hrel
    have HR := Lib.hid hr; clear hr
    by_cases hlt : k < n
    · have hc := H1.out k hlt
      obtain ⟨v, hv⟩ : ∃ v, v = f k := ⟨_, rfl⟩
      rw [← hv] at hc
      have HV := Lib.hid hv; clear hv
      by_cases hneg : v < 0
      · go_wp2
        go_ret2
        refine ⟨rfl, .inr ⟨fun h => ?_, rfl⟩⟩
        have := (h k hlt).1
        rw [← HV.out] at this; omega
      · by_cases hge : 64 ≤ v
        · have h0 : 0 ≤ v := by omega
          have hd : decide (v < 0) = false := by rw [decide_eq_false_iff_not]; omega
          go_wp2
          go_ret2
          refine ⟨rfl, .inr ⟨fun h => ?_, rfl⟩⟩
          have := (h k hlt).2
          rw [← HV.out] at this; omega
        · have h0 : 0 ≤ v := by omega
          have hd : decide (v < 0) = false := by rw [decide_eq_false_iff_not]; omega
          have hd2 : v < 64 := by omega
          generalize hS : setTo f k = S
          have HS := Lib.hid hS; clear hS
          go_wp2
          go_round
          case rel =>
            refine ⟨k + 1, by omega, inRange_succ HR.out (by rw [← HV.out]; exact h0) (by rw [← HV.out]; exact hd2), ?_, by go_num⟩
            rw [or_walk S v h0 hd2]
            show _ = Value.int .u64 ((setTo f k ||| one (f k).toNat).toNat : Int)
            rw [HS.out, ← HV.out]
          case measure => simp [intOf]; omega
    · obtain rfl : k = n := by omega
      go_wp2
      go_ret2
      exact ⟨rfl, .inl ⟨HR.out, rfl⟩⟩

theorem of_none (f : Nat → Int) (a : Option Addr) (c : Nat) (w : World) :
    Calls Tryd.prog 7 #[.slice a 0 c] w (OfPost f 0 w) := by
  go_enter Tryd.func7, Tryd.ntmps7
  go_wp2_with fail
  go_rounds 1
  go_ret2
  exact ⟨rfl, .inl ⟨fun _ h => absurd h (Nat.not_lt_zero _), rfl⟩⟩
end Go.Proofs.YtodlfklpjnofjaaDoor
