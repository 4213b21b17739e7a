/-
  What package bits' Rank, Next and Nth answer, in terms of words. Condition: the table of math/bits lies in memory as its text lays it (the card ties this).
-/
import Derived.Test.YtodlfklpjnofjaaDoorTz
namespace Go.Proofs.YtodlfklpjnofjaaDoor
open Go.ChangeShapes Go.WideShapes Go.ChangeAt Go.RowKit

theorem rank_any (s : Bv) (n : Int) (w : World) :
    Calls Tryd.prog 17 #[.int .u64 s.toNat, .int .i64 n] w fun e w' => e = .returned (.int .i64 (cntTo s.getLsbD (clamp n))) ∧ w = w' := by
  go_enter Tryd.func17, Tryd.ntmps17
  go_wp2_with fail
  refine (below_any _ _).mono ?_
  rintro e w' ⟨rfl, rfl⟩
  go_wp2_with fail
  rw [bv_and]
  refine (count _ _).mono ?_
  rintro e w' ⟨rfl, rfl⟩
  go_wp2
  go_ret
  exact ⟨ret_int (by rw [cnt_low s _ (clamp_le n)]), rfl⟩

/-- what Next hands back: there is none from n on, or the first one -/
def NextPost (s : Bv) (c : Nat) (w : World) (e : Ending) (w' : World) : Prop := w = w' ∧
  ((e = .returned (.tuple #[.int .i64 0, .bool false]) ∧ ∀ i, c ≤ i → i < 64 → s.getLsbD i = false) ∨
   ∃ m : Nat, e = .returned (.tuple #[.int .i64 m, .bool true]) ∧ m < 64 ∧ c ≤ m ∧ s.getLsbD m = true ∧ ∀ i, c ≤ i → i < m → s.getLsbD i = false)

theorem from_bit (s : Bv) (c i : Nat) (hi : i < 64) : (s &&& ~~~low c).getLsbD i = (s.getLsbD i && decide (c ≤ i)) := by
  rw [BitVec.getLsbD_and, BitVec.getLsbD_not, low_bit c i hi]
  by_cases h : i < c
  · have : ¬ c ≤ i := by omega
    simp [h, this]
  · have : c ≤ i := by omega
    simp [h, hi, this]

theorem next_any (s : Bv) (n : Int) (w : World) (ht : Tab w) :
    Calls Tryd.prog 15 #[.int .u64 s.toNat, .int .i64 n] w (NextPost s (clamp n) w) := by
  have HT := Lib.hid ht; clear ht
  by_cases h : s &&& ~~~low (clamp n) = 0#64
  · have hb : (bits .andNot .u64 (s.toNat : Int) ((low (clamp n)).toNat : Int) == 0) = true := by rw [bv_andNot]; exact (bv_zero_iff _).2 h
    have H := Lib.hid h; clear h
    go_enter Tryd.func15, Tryd.ntmps15
    go_wp2_with fail
    refine (below_any _ _).mono ?_
    rintro e w' ⟨rfl, rfl⟩
    go_wp2
    go_ret2
    refine ⟨rfl, .inl ⟨rfl, fun i h1 h2 => ?_⟩⟩
    have := from_bit s (clamp n) i h2
    rw [H.out] at this
    simpa [h1] using this
  · have hb : (bits .andNot .u64 (s.toNat : Int) ((low (clamp n)).toNat : Int) == 0) = false := by
      rw [bv_andNot]
      cases hc : (((s &&& ~~~low (clamp n)).toNat : Int) == 0)
      · rfl
      · exact absurd ((bv_zero_iff _).1 hc) h
    have H := Lib.hid h; clear h
    go_enter Tryd.func15, Tryd.ntmps15
    go_wp2_with fail
    refine (below_any _ _).mono ?_
    rintro e w' ⟨rfl, rfl⟩
    go_wp2_with fail
    clear hb
    rw [bv_andNot]
    refine (smallest_any _ _ H.out HT.out).mono ?_
    rintro e w' ⟨m, hm, rfl, rfl⟩
    have HM := Lib.hid hm; clear hm
    go_wp2
    go_ret2
    refine ⟨rfl, .inr ⟨m, rfl, HM.out.1, ?_⟩⟩
    have h1 := HM.out.2.1
    rw [from_bit s _ m HM.out.1] at h1
    simp at h1
    refine ⟨h1.2, h1.1, fun i h2 h3 => ?_⟩
    have h4 := HM.out.2.2 i h3
    have h5 := HM.out.1
    rw [from_bit s _ i (by omega)] at h4
    simpa [h2] using h4

/-- what Nth hands back where there is such an element -/
def NthPost (s : Bv) (k : Nat) (w : World) (e : Ending) (w' : World) : Prop := ∃ n : Nat, e = .returned (.tuple #[.int .i64 n, .bool true]) ∧ n < 64 ∧ s.getLsbD n = true ∧ cntTo s.getLsbD n = k ∧ w = w'

theorem nth_none (s : Bv) (k : Int) (w : World) (h : k < 0 ∨ (cnt s : Int) ≤ k) :
    Calls Tryd.prog 16 #[.int .u64 s.toNat, .int .i64 k] w fun e w' => e = .returned (.tuple #[.int .i64 0, .bool false]) ∧ w = w' := by
  by_cases h0 : k < 0
  · clear h
    go_enter Tryd.func16, Tryd.ntmps16
    go_wp2
    go_ret2
    exact ⟨rfl, rfl⟩
  · have h1 : 0 ≤ k := by omega
    have h2 : (cnt s : Int) ≤ k := by omega
    have h3 : decide (k < 0) = false := by simpa using h1
    clear h h0
    go_enter Tryd.func16, Tryd.ntmps16
    go_wp2_with fail
    refine (count _ _).mono ?_
    rintro e w' ⟨rfl, rfl⟩
    go_wp2
    go_ret2
    exact ⟨rfl, rfl⟩

set_option maxHeartbeats 1000000 in
theorem nth_some (s : Bv) (k : Nat) (w : World) (h : k < cnt s) (ht : Tab w) :
    Calls Tryd.prog 16 #[.int .u64 s.toNat, .int .i64 k] w (NthPost s k w) := by
  have HT := Lib.hid ht; clear ht
  have hc := cnt_le s
  have h3 : decide ((k : Int) < 0) = false := by simp
  have h4 : ((k : Int) < (cnt s : Int)) := by omega
  have h5 : decide (cnt s ≤ k) = false := by rw [decide_eq_false_iff_not]; omega
  go_enter Tryd.func16, Tryd.ntmps16
  go_wp2_with fail
  refine (count _ _).mono ?_
  rintro e w' ⟨rfl, rfl⟩
  go_wp2_with fail
  go_loop [0, 15] (fun v i => ∃ (j : Nat) (t : Bv), j ≤ k ∧ Tail s j t ∧ v = .int .u64 t.toNat ∧ i = .int .i64 j) (fun _ i => k - (intOf i).toNat)
  case atStart => exact ⟨0, s, Nat.zero_le _, tail_zero s, rfl, rfl⟩
  case round =>
    obtain ⟨j, t, hj, htl, rfl, rfl⟩ := hrel
    have hne : t ≠ 0#64 := fun e => by have := (tail_empty htl).1 e; omega
    have HN := Lib.hid hne; clear hne
    have HL := Lib.hid htl; clear htl
    by_cases hlt : j < k
    · go_wp2_with fail
      refine (without_any _ _).mono ?_
      rintro e w' ⟨rfl, rfl⟩
      go_wp2
      go_round
      case rel => exact ⟨j + 1, rest t, by omega, tail_next HL.out (least_of t HN.out), rfl, by go_num⟩
      case measure => simp [intOf]; omega
    · go_wp2_with fail
      refine (smallest_any _ _ HN.out HT.out).mono ?_
      rintro e w' ⟨m, hm, rfl, rfl⟩
      have HM := Lib.hid hm; clear hm
      go_wp2
      go_ret2
      obtain ⟨h1, h2⟩ := tail_least HL.out HM.out
      exact ⟨m, rfl, HM.out.1, h1, by omega, rfl⟩
end Go.Proofs.YtodlfklpjnofjaaDoor
