/-
  What package line's Split answers. Condition: the string is shorter than 2^40 bytes.
-/
import Derived.Test.YtdencbkepiaigaaDoorLRa
import Derived.Deep.RegionHeld3
namespace Go.Proofs.YtdencbkepiaigaaDoor
open Go.ChangeShapes Go.WideShapes Go.ChangeAt Go.RowKit

theorem idx_none : ∀ (s : Str) (c : UInt8), (∀ j, j < s.length → s.getD j 0 ≠ c) → Lib.indexByte s c = -1
  | [], _, _ => rfl
  | d :: r, c, h => by
    have h0 : d ≠ c := h 0 (by simp)
    have ih := idx_none r c (fun j hj => h (j + 1) (by simpa using hj))
    rw [Lib.indexByte, ih]; simp [h0]
theorem idx_some : ∀ (s : Str) (c : UInt8) (k : Nat), k < s.length → s.getD k 0 = c → (∀ j, j < k → s.getD j 0 ≠ c) → Lib.indexByte s c = (k : Int)
  | [], _, _, h, _, _ => by simp at h
  | d :: r, c, 0, _, hc, _ => by
    simp at hc; subst hc
    rw [Lib.indexByte]; simp
  | d :: r, c, k + 1, hk, hc, h => by
    have h0 : d ≠ c := h 0 (by omega)
    have ih := idx_some r c k (by simpa using hk) (by simpa using hc) (fun j hj => by simpa using h (j + 1) (by omega))
    rw [Lib.indexByte, ih]
    have : ((k : Int) == -1) = false := by rw [beq_eq_false_iff_ne]; omega
    simp [h0, this]
theorem bs_drop (S : ByteArray) (k : Nat) : S.extract k S.size = bs (S.data.toList.drop k) := by
  rw [← bs_of (S.extract k S.size)]
  congr 1
  have := Lib.extract_toList S k S.size
  rw [Lib.toList_data] at this
  rw [this, List.take_of_length_le]
  rw [List.length_drop, size_list]
  exact Nat.le_refl _
theorem u8_back (c : UInt8) : ((c.toNat : Int)).toNat.toUInt8 = c := by
  rw [Int.toNat_natCast]
  exact UInt8.toNat_inj.1 (by simp)
theorem split_no (S : ByteArray) (c : UInt8) (w : World) (h : ∀ j, j < S.size → bK S j ≠ c) :
    Calls Tryd.prog 36 #[.string S, .int .u8 (c.toNat : Int)] w fun e w' => e = .returned (.tuple #[.string S, .string (ByteArray.mk #[]), .bool false]) ∧ w' = w := by
  have H := Lib.hid (Tryd.strings_IndexByte S (c.toNat : Int) w)
  rw [u8_back, idx_none _ _ (fun j hj => h j (by rw [← size_list]; exact hj))] at H
  clear h
  go_enter Tryd.func36, Tryd.ntmps36
  go_wp2_with fail
  refine H.out.mono ?_
  rintro e w' ⟨rfl, rfl⟩
  go_wp2
  go_ret3
  exact ⟨rfl, rfl⟩
set_option maxHeartbeats 4000000 in
set_option maxRecDepth 100000 in
theorem split_at (S : ByteArray) (c : UInt8) (k : Nat) (w : World) (hs : S.size ≤ 1099511627776) (hk : k < S.size) (hc : bK S k = c) (h : ∀ j, j < k → bK S j ≠ c) :
    Calls Tryd.prog 36 #[.string S, .int .u8 (c.toNat : Int)] w fun e w' => e = .returned (.tuple #[.string (bs (triml (trimr (S.data.toList.take k)))), .string (bs (triml (trimr (S.data.toList.drop (k + 1))))), .bool true]) ∧ Below w.heap.size w w' := by
  have H := Lib.hid (Tryd.strings_IndexByte S (c.toNat : Int) w)
  rw [u8_back, idx_some _ _ k (by rw [size_list]; exact hk) hc h] at H
  have x1 := bs_take S k
  have x2 := bs_drop S (k + 1)
  have l1 : (S.data.toList.take k).length ≤ 1099511627776 := by rw [List.length_take, size_list]; omega
  have l2 : (S.data.toList.drop (k + 1)).length ≤ 1099511627776 := by rw [List.length_drop, size_list]; omega
  have TT : Hid (∀ (x : Str) W, x.length ≤ 1099511627776 → Calls Tryd.prog 55 #[.string (bs x), .string (ByteArray.mk #[32, 9])] W fun e w' => e = .returned (.string (bs (triml (trimr x)))) ∧ Below W.heap.size W w') := fun x W hx => trim_any _ W (by omega)
  generalize S.data.toList.take k = a at *
  generalize S.data.toList.drop (k + 1) = b at *
  have i1 : (k : Int) + 1 ≤ (S.size : Int) := by omega
  have i2 : ((k : Int) + 1).toNat = k + 1 := by omega
  have i3 : (0 : Int) ≤ (k : Int) := by omega
  have i4 : (k : Int) ≤ (S.size : Int) := by omega
  have i5 : (0 : Int) ≤ (k : Int) + 1 := by omega
  have i6 : IntKind.i64.wrap ((k : Int) + 1) = (k : Int) + 1 := by unfold IntKind.wrap; simp [IntKind.bits, IntKind.signed]; omega
  have L1 := Lib.hid l1; have L2 := Lib.hid l2
  clear hc h l1 l2
  go_enter Tryd.func36, Tryd.ntmps36
  go_wp2_with fail
  refine H.out.mono ?_
  rintro e w' ⟨rfl, rfl⟩
  go_wp2_with fail
  go_region_held3 (fun w' => True) (first | trivial) (first
    | (go_at_call_of 55 (Value.string (bs a)); refine (TT.out a _ L1.out).mono ?_; rintro e w1 ⟨rfl, q1⟩; have B1 := Lib.hid q1; clear q1)
    | (go_at_call_of 55 (Value.string (bs b)); refine (TT.out b _ L2.out).mono ?_; rintro e w2 ⟨rfl, q2⟩; have B2 := Lib.hid q2; clear q2))
  all_goals go_wp2
  all_goals go_ret3
  all_goals
    have b1 := (Below.drew (Below.refl w'.heap.size w')).trans B1.out
    exact ⟨rfl, b1.trans (B2.out.mono b1.size)⟩
end Go.Proofs.YtdencbkepiaigaaDoor
