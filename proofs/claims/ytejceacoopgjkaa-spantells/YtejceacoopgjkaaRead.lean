/-
  What package span's digitValue and Read answer, and the reference's HexRead. No condition.
-/
import Derived.Test.YtejceacoopgjkaaSum
import Derived.Test.YtejceacoopgjkaaHexP
namespace Go.Proofs.Ytejceacoopgjkaa
open Go.ChangeShapes Go.WideShapes Go.ChangeAt Go.RowKit

theorem ret2_ib {a b : Int} {x : Bool} (h : a = b) : Ending.returned (.tuple #[.int .u64 a, .bool x]) = .returned (.tuple #[.int .u64 b, .bool x]) := by rw [h]

/-- what digitValue hands back -/
theorem digit_any (c : Nat) (h : c < 256) (w : World) :
    Calls Try.prog 49 #[.int .u8 (c : Int)] w fun e w' => e = .returned (.tuple #[.int .u64 (((hv c).getD 0 : Nat) : Int), .bool (hv c).isSome]) ∧ w = w' := by
  by_cases h1 : 48 ≤ c
  · by_cases h2 : c ≤ 57
    · have e : hv c = some (c - 48) := by unfold hv; rw [if_pos ⟨h1, h2⟩]
      have E := Lib.hid e; clear e
      go_enter Try.func49, Try.ntmps49
      go_wp2
      go_ret2
      rw [E.out]
      exact ⟨ret2_ib (show (c : Int) - 48 = ((c - 48 : Nat) : Int) by omega), rfl⟩
    · by_cases h3 : 97 ≤ c
      · by_cases h4 : c ≤ 102
        · have e : hv c = some (c - 97 + 10) := by unfold hv; rw [if_neg (by omega), if_pos ⟨h3, h4⟩]
          have E := Lib.hid e; clear e
          go_enter Try.func49, Try.ntmps49
          go_wp2
          go_ret2
          rw [E.out]
          exact ⟨ret2_ib (show (c : Int) - 97 + 10 = ((c - 97 + 10 : Nat) : Int) by omega), rfl⟩
        · have e : hv c = none := by unfold hv; rw [if_neg (by omega), if_neg (by omega)]
          have E := Lib.hid e; clear e
          go_enter Try.func49, Try.ntmps49
          go_wp2
          go_ret2
          rw [E.out]
          exact ⟨rfl, rfl⟩
      · have e : hv c = none := by unfold hv; rw [if_neg (by omega), if_neg (by omega)]
        have E := Lib.hid e; clear e
        go_enter Try.func49, Try.ntmps49
        go_wp2
        go_ret2
        rw [E.out]
        exact ⟨rfl, rfl⟩
  · have e : hv c = none := by unfold hv; rw [if_neg (by omega), if_neg (by omega)]
    have E := Lib.hid e; clear e
    go_enter Try.func49, Try.ntmps49
    go_wp2
    go_ret2
    rw [E.out]
    exact ⟨rfl, rfl⟩

theorem byteAt_lt (s : ByteArray) (k : Nat) : byteAt s k < 256 := UInt8.toNat_lt _

/-- what Read hands back, r being the number that is read -/
def ReadPost (r : Option Nat) (w : World) (e : Ending) (w' : World) : Prop :=
  (∃ v, r = some v ∧ e = .returned (.tuple #[.float .f64 v, .int .i64 0]) ∧ w = w') ∨ r = none ∧ e = .returned (.tuple #[.float .f64 0, .int .i64 3]) ∧ w = w'

set_option maxHeartbeats 1000000 in
theorem read_16 (s : ByteArray) (hs : s.size = 16) (w : World) :
    Calls Try.prog 24 #[.string s] w (ReadPost (rd (byteAt s) 16) w) := by
  have hfr := ffrom
  have HF : Hid (∀ k (h : k < s.size), s[k].toNat = byteAt s k) := byteAt_get s
  have HL : Hid (∀ k, byteAt s k < 256) := byteAt_lt s
  generalize hq : byteAt s = f at *
  clear hq
  go_enter Try.func24, Try.ntmps24
  go_wp2_with fail
  go_loopw [4, 13] (fun v i wr => ∃ k : Nat, k ≤ 16 ∧ i = .int .i64 (k : Int) ∧ (∃ t : Nat, rd f k = some t ∧ v = .int .u64 (t : Int)) ∧ wr = w) (fun _ i _ => (16 - intOf i).toNat)
  case atStart => exact ⟨0, by omega, rfl, ⟨0, rfl, rfl⟩, rfl⟩
  case round =>
    obtain ⟨k, hk, rfl, ⟨t, hrd, rfl⟩, rfl⟩ := hrel
    have HR := Lib.hid hrd; clear hrd
    by_cases hlt : k < 16
    · have hb := HF.out k (by omega)
      go_wp2_with fail
      clear hb
      refine (digit_any _ (HL.out k) _).mono ?_
      rintro e w' ⟨rfl, rfl⟩
      cases hd : hv (f k) with
      | none =>
        have HD := Lib.hid hd; clear hd
        have HN : Hid (rd f 16 = none) := by
          have := rd_none (rd_stop HD.out) (15 - k)
          rw [show k + 1 + (15 - k) = 16 by omega] at this
          exact this
        go_wp2
        go_ret2
        exact .inr ⟨HN.out, rfl, rfl⟩
      | some d =>
        have HD := Lib.hid hd; clear hd
        have HS := Lib.hid (rd_succ HR.out HD.out)
        have HB : t * 16 + d < 18446744073709551616 := Nat.lt_of_lt_of_le (rd_lt (k + 1) _ HS.out) (pow16_le (by omega))
        go_wp2
        go_roundw
        case rel => exact ⟨k + 1, by omega, by go_num, ⟨t * 16 + d, HS.out, by go_num⟩, trivial⟩
        case measure => simp [intOf]; omega
    · obtain rfl : k = 16 := by omega
      go_wp2
      go_ret2
      exact .inl ⟨t, HR.out, rfl, rfl⟩

theorem read_other (s : ByteArray) (hs : s.size ≠ 16) (w : World) :
    Calls Try.prog 24 #[.string s] w fun e w' => e = .returned (.tuple #[.float .f64 0, .int .i64 3]) ∧ w = w' := by
  have t : ((s.size : Int) != 16) = true := by rw [bne_iff_ne]; omega
  clear hs
  go_enter Try.func24, Try.ntmps24
  go_wp2
  go_ret2
  exact ⟨rfl, rfl⟩
end Go.Proofs.Ytejceacoopgjkaa
