/-
  What the reference's WholePart answers. No condition.
-/
import Derived.Test.YtejceacoopgjkaaWhole
namespace Go.Proofs.Ytejceacoopgjkaa
open Go.ChangeShapes Go.WideShapes Go.ChangeAt Go.RowKit

theorem wrap64_i64 (n : Int) : wrap64 n = IntKind.i64.wrap n := by
  unfold wrap64; simp [IntKind.wrap, IntKind.bits, IntKind.signed]; omega
theorem exp_bits {u : Nat} (h : u < 18446744073709551616) : wrap64 (bits .and .u64 ((u : Int) / 4503599627370496) 2047) = ((u % 9223372036854775808 / 4503599627370496 : Nat) : Int) := by
  have e := bits_and_u64_nat (u / 4503599627370496) 2047 (by omega) (by omega)
  have t : u / 4503599627370496 &&& 2047 = u / 4503599627370496 % 2048 := Nat.and_two_pow_sub_one_eq_mod _ 11
  rw [show (u : Int) / 4503599627370496 = ((u / 4503599627370496 : Nat) : Int) by omega, show (2047 : Int) = ((2047 : Nat) : Int) from rfl, e, t]
  unfold wrap64; omega
theorem or_i64 {n : Nat} (h : n < 4503599627370496) : bits .or .i64 (n : Int) 4503599627370496 = ((4503599627370496 + n : Nat) : Int) := by
  show IntKind.i64.wrap ((BitVec.ofInt 64 (n : Int) ||| BitVec.ofInt 64 4503599627370496).toNat : Int) = _
  rw [BitVec.toNat_or, show (BitVec.ofInt 64 (n : Int)).toNat = n by rw [BitVec.ofInt_natCast, BitVec.toNat_ofNat, Nat.mod_eq_of_lt (by omega)],
    show (BitVec.ofInt 64 4503599627370496).toNat = 4503599627370496 by decide]
  have t := Nat.two_pow_add_eq_or_of_lt (i := 52) (b := n) h 1
  rw [show 2 ^ 52 * 1 = 4503599627370496 from rfl] at t
  rw [Nat.or_comm, ← t, ← wrap64_i64]
  unfold wrap64; omega
theorem frac_bits {u : Nat} (h : u < 18446744073709551616) : bits .or .i64 (wrap64 (bits .and .u64 (u : Int) 4503599627370495)) 4503599627370496 = ((4503599627370496 + u % 4503599627370496 : Nat) : Int) := by
  have e := bits_and_u64_nat u 4503599627370495 h (by omega)
  have t : u &&& 4503599627370495 = u % 4503599627370496 := Nat.and_two_pow_sub_one_eq_mod _ 52
  rw [show (4503599627370495 : Int) = ((4503599627370495 : Nat) : Int) from rfl, e, t, show wrap64 ((u % 4503599627370496 : Nat) : Int) = ((u % 4503599627370496 : Nat) : Int) by unfold wrap64; omega]
  exact or_i64 (Nat.mod_lt _ (by omega))

/-- the whole part by exponent and fraction -/
theorem wn_small {u : Nat} (h : u % 9223372036854775808 / 4503599627370496 < 1023) : wn u = 0 := by
  unfold wn
  have := V_lt (show u % 9223372036854775808 < 4607182418800017408 by omega)
  rw [V_one] at this
  exact Nat.div_eq_of_lt this
theorem V_parts {r : Nat} (h : 4503599627370496 ≤ r) : V r = (4503599627370496 + r % 4503599627370496) * 2 ^ (r / 4503599627370496 - 1) := by
  unfold V; rw [if_neg (by omega)]
theorem wn_mid {u : Nat} (h1 : 1023 ≤ u % 9223372036854775808 / 4503599627370496) (h2 : u % 9223372036854775808 / 4503599627370496 ≤ 1075) :
    wn u = (4503599627370496 + u % 4503599627370496) / 2 ^ (1075 - u % 9223372036854775808 / 4503599627370496) := by
  unfold wn
  rw [V_parts (by omega), show u % 9223372036854775808 % 4503599627370496 = u % 4503599627370496 by omega, ← shift_div]
  rw [show u % 9223372036854775808 / 4503599627370496 - 1 - 1074 = 0 by omega, Nat.pow_zero, Nat.mul_one,
    show 1074 - (u % 9223372036854775808 / 4503599627370496 - 1) = 1075 - u % 9223372036854775808 / 4503599627370496 by omega]
theorem wn_high {u : Nat} (h1 : 1075 ≤ u % 9223372036854775808 / 4503599627370496) :
    wn u = (4503599627370496 + u % 4503599627370496) * 2 ^ (u % 9223372036854775808 / 4503599627370496 - 1075) := by
  unfold wn
  rw [V_parts (by omega), show u % 9223372036854775808 % 4503599627370496 = u % 4503599627370496 by omega, ← shift_div]
  rw [show 1074 - (u % 9223372036854775808 / 4503599627370496 - 1) = 0 by omega, Nat.pow_zero, Nat.div_one,
    show u % 9223372036854775808 / 4503599627370496 - 1 - 1074 = u % 9223372036854775808 / 4503599627370496 - 1075 by omega]

/-- what WholePart hands back -/
def PartPost (u : Nat) (w : World) (e : Ending) (w' : World) : Prop :=
  (u % 9223372036854775808 ≤ 4845873199050653696 ∧ e = .returned (.tuple #[.int .i64 (wh u), .bool true]) ∧ w = w') ∨
  (4845873199050653696 < u % 9223372036854775808 ∧ e = .returned (.tuple #[.int .i64 0, .bool false]) ∧ w = w')

theorem ret2_i {a b : Int} {x : Bool} (h : a = b) : Ending.returned (.tuple #[.int .i64 a, .bool x]) = .returned (.tuple #[.int .i64 b, .bool x]) := by rw [h]

theorem wh_pos {u : Nat} (h : u < 9223372036854775808) : wh u = (wn u : Int) := by unfold wh; rw [sb_false h]; rfl
theorem wh_neg {u : Nat} (h : 9223372036854775808 ≤ u) (h' : u < 18446744073709551616) : wh u = -(wn u : Int) := by unfold wh; rw [sb_true h h']; rfl

set_option maxHeartbeats 2000000 in
theorem part_any (u : Nat) (h : u < 18446744073709551616) (w : World) :
    Calls Try.prog 23 #[.float .f64 u] w (PartPost u w) := by
  have hb := fbits
  have hx := exp_bits h
  have hf := frac_bits h
  have H := Lib.hid h; clear h
  have HE : Hid (u % 9223372036854775808 / 4503599627370496 ≤ 2047) := by show _ ≤ _; omega
  have HF : Hid (u % 4503599627370496 < 4503599627370496) := by show _ < _; omega
  have HR : Hid (u % 9223372036854775808 = u % 9223372036854775808 / 4503599627370496 * 4503599627370496 + u % 4503599627370496) := by show _ = _; omega
  have HA := Lib.hid (@wn_small u)
  have HB := Lib.hid (@wn_mid u)
  have HC := Lib.hid (@wn_high u)
  have HL : Hid (u % 9223372036854775808 ≤ 4845873199050653696 → wn u ≤ 9007199254740992) := wn_le
  generalize u % 9223372036854775808 / 4503599627370496 = E at *
  generalize u % 4503599627370496 = f at *
  generalize hF : 4503599627370496 + f = F at *
  replace hF := hF.symm
  have HC' : Hid (1075 ≤ E → wn u = F * 2 ^ (E - 1075)) := HC.out
  have HB' : Hid (1023 ≤ E → E ≤ 1075 → wn u = F / 2 ^ (1075 - E)) := HB.out
  have HFF : Hid (F = 4503599627370496 + f) := hF
  clear hF HB HC
  by_cases h1 : 1076 < E
  · go_enter Try.func23, Try.ntmps23
    go_wp2
    go_ret2
    exact .inr ⟨by have := HR.out; omega, rfl, rfl⟩
  · by_cases h2 : E = 1076
    · subst h2
      by_cases h3 : f = 0
      · obtain rfl : F = 4503599627370496 := by have := HFF.out; omega
        have W : Hid (wn u = 4503599627370496 * 2) := HC'.out (by omega)
        clear h1
        by_cases k : 9223372036854775808 ≤ u
        · have ks : ((u : Int) / 9223372036854775808 == 1) = true := by have := H.out; rw [beq_iff_eq]; omega
          have K := Lib.hid k; clear k
          go_enter Try.func23, Try.ntmps23
          go_wp2
          go_ret2
          exact .inl ⟨by have := HR.out; omega, ret2_i (by rw [wh_neg K.out H.out, W.out]; rfl), rfl⟩
        · have ks : ((u : Int) / 9223372036854775808 == 1) = false := by have := H.out; rw [beq_eq_false_iff_ne]; omega
          have K := Lib.hid k; clear k
          go_enter Try.func23, Try.ntmps23
          go_wp2
          go_ret2
          exact .inl ⟨by have := HR.out; omega, ret2_i (by rw [wh_pos (by have := K.out; omega), W.out]; rfl), rfl⟩
      · have t : ((F : Int) != 4503599627370496) = true := by have := HFF.out; rw [bne_iff_ne]; omega
        have H3 := Lib.hid h3; clear h3
        clear h1
        go_enter Try.func23, Try.ntmps23
        go_wp2
        go_ret2
        exact .inr ⟨by have := HR.out; have := H3.out; omega, rfl, rfl⟩
    · by_cases h4 : E < 1023
      · have W := Lib.hid (HA.out h4)
        obtain ⟨x, hxE⟩ : ∃ x : Int, x = (E : Int) := ⟨_, rfl⟩
        rw [← hxE] at hx
        have g1 : x < 1023 := by omega
        have g0 : 0 ≤ x := by omega
        have H4 := Lib.hid h4
        clear hxE h1 h2 h4
        go_enter Try.func23, Try.ntmps23
        go_wp2
        go_ret2
        refine .inl ⟨by have := HR.out; have := HF.out; have := H4.out; omega, ret2_i ?_, rfl⟩
        have := H.out
        by_cases k : 9223372036854775808 ≤ u
        · rw [wh_neg k H.out, W.out]; rfl
        · rw [wh_pos (by omega), W.out]; rfl
      · by_cases h5 : E < 1075
        · have W := Lib.hid (HB'.out (by omega) (by omega))
          have L := Lib.hid (HL.out (by have := HR.out; have := HF.out; omega))
          have Q : Hid ((F : Int) / 2 ^ (1075 - (E : Int)).toNat = ((wn u : Nat) : Int)) := by
            show _ = _
            rw [W.out, show (1075 - (E : Int)).toNat = 1075 - E by omega]; simp
          obtain ⟨x, hxE⟩ : ∃ x : Int, x = (E : Int) := ⟨_, rfl⟩
          rw [← hxE] at hx Q
          have g1 : x < 1075 := by omega
          have g0 : 1023 ≤ x := by omega
          have H5 := Lib.hid h5
          clear hxE h1 h2 h4 h5
          by_cases k : 9223372036854775808 ≤ u
          · have ks : ((u : Int) / 9223372036854775808 == 1) = true := by have := H.out; rw [beq_iff_eq]; omega
            have K := Lib.hid k; clear k
            go_enter Try.func23, Try.ntmps23
            go_wp2
            go_ret2
            refine .inl ⟨by have := HR.out; have := HF.out; have := H5.out; omega, ret2_i ?_, rfl⟩
            show wrap64 (-((F : Int) / 2 ^ (1075 - x).toNat)) = _
            rw [wh_neg K.out H.out, Q.out]; have := L.out; unfold wrap64; omega
          · have ks : ((u : Int) / 9223372036854775808 == 1) = false := by have := H.out; rw [beq_eq_false_iff_ne]; omega
            have K := Lib.hid k; clear k
            go_enter Try.func23, Try.ntmps23
            go_wp2
            go_ret2
            refine .inl ⟨by have := HR.out; have := HF.out; have := H5.out; omega, ret2_i ?_, rfl⟩
            rw [wh_pos (by have := K.out; omega)]; exact Q.out
        · obtain rfl : E = 1075 := by omega
          have W : Hid (wn u = F) := by have := HC'.out (by omega); rw [this]; show F * 1 = F; omega
          clear h1 h2 h4 h5
          by_cases k : 9223372036854775808 ≤ u
          · have ks : ((u : Int) / 9223372036854775808 == 1) = true := by have := H.out; rw [beq_iff_eq]; omega
            have K := Lib.hid k; clear k
            go_enter Try.func23, Try.ntmps23
            go_wp2
            go_ret2
            refine .inl ⟨by have := HR.out; have := HF.out; omega, ret2_i ?_, rfl⟩
            show wrap64 (-wrap64 (F : Int)) = _
            rw [wh_neg K.out H.out, W.out]; have := HFF.out; have := HF.out; unfold wrap64; omega
          · have ks : ((u : Int) / 9223372036854775808 == 1) = false := by have := H.out; rw [beq_eq_false_iff_ne]; omega
            have K := Lib.hid k; clear k
            go_enter Try.func23, Try.ntmps23
            go_wp2
            go_ret2
            refine .inl ⟨by have := HR.out; have := HF.out; omega, ret2_i ?_, rfl⟩
            show wrap64 (F : Int) = _
            rw [wh_pos (by have := K.out; omega), W.out]; have := HFF.out; have := HF.out; unfold wrap64; omega
end Go.Proofs.Ytejceacoopgjkaa
