/-
  slices.breakPatternsOrdered at uint64: it leaves a permutation. No condition.
-/
import Derived.Test.YtejceacoopgjkaaULen
namespace Go.Proofs.Ytejceacoopgjkaa
set_option linter.unusedVariables false
open Go.ChangeShapes Go.WideShapes Go.ChangeAt Go.RowKit
open Go.Sort (swp PermIn SortedIn SWO)

theorem next2_any (n : Nat) (w : World) (h0 : 0 < n) (h1 : n ≤ 1000000000000000) :
    Calls Try.prog 74 #[.int .i64 n] w fun e w' => ∃ M : Nat, e = .returned (.int .u64 (M : Int)) ∧ n < M ∧ M ≤ 2 * n ∧ w = w' := by
  go_enter Try.func74, Try.ntmps74
  go_wp2_with fail
  refine (lenU_any n w (by omega) (by omega)).mono ?_
  rintro e w' ⟨len, rfl, h2, h3, rfl⟩
  obtain ⟨M, hM, l1, l2⟩ : ∃ M : Nat, IntKind.u64.wrap (2 ^ len) = (M : Int) ∧ n < M ∧ M ≤ 2 * n := by
    obtain ⟨q1, q2⟩ := h2
    rw [Int.toNat_natCast] at q1 q2
    have q3 : 2 ^ len ≤ 2 * n := by
      cases len with
      | zero => simp; omega
      | succ l => have := q2 (by omega); rw [Nat.add_sub_cancel] at this; rw [Nat.pow_succ]; omega
    refine ⟨2 ^ len, ?_, q1, q3⟩
    rw [show (2 : Int) ^ len = ((2 ^ len : Nat) : Int) by simp, IntKind.wrap_u64]
    generalize 2 ^ len = M at q1 q3 ⊢
    omega
  clear h2
  go_wp2
  go_ret
  exact ⟨M, by simp, l1, l2, rfl⟩
theorem xor_some (a b : Int) : ∃ v : Bv, bits .xor .u64 a b = (v.toNat : Int) :=
  ⟨BitVec.ofInt 64 a ^^^ BitVec.ofInt 64 b, bv_wrap _⟩
/-- any word -/
def Word (x : Int) : Prop := ∃ v : Bv, x = (v.toNat : Int)
set_option maxHeartbeats 2000000 in
theorem xnext_any (base g cap s : Nat) (w0 : World) (d : Array Bv) (w : World) (h : BX base g cap w0 d s Word .u64 w) :
    Calls Try.prog 75 #[.pointer (some ⟨s, 0, none⟩)] w fun e w' => ∃ v : Bv, e = .returned (.int .u64 (v.toNat : Int)) ∧ BX base g cap w0 d s Word .u64 w' := by
  have H := Lib.hid h; clear h
  obtain ⟨x, hx, hc, hf⟩ := H.out.look
  go_enter Try.func75, Try.ntmps75
  go_wp2_with fail
  go_region
  generalize hy : bits .xor .u64 _ _ = y1
  have hw : Word y1 := by rw [← hy]; exact xor_some _ _
  clear hy hc hf
  have H1 : Hid (BX base g cap w0 d s Word .u64 _) := ((H.out.put hw).drewN 1)
  clear H
  generalize hq : (w.setCell ⟨s, 0, none⟩ (.int .u64 y1)).drewN 1 = w1 at H1
  rw [show (w.setCell ⟨s, 0, none⟩ (.int .u64 y1)).drew = w1 from hq]
  clear hq
  obtain ⟨x1, hx, hc, hf⟩ := H1.out.look
  go_wp2_with fail
  go_region
  generalize hy : bits .xor .u64 _ _ = y2
  have hw : Word y2 := by rw [← hy]; exact xor_some _ _
  clear hy hc hf
  have H2 : Hid (BX base g cap w0 d s Word .u64 _) := ((H1.out.put hw).drewN 1)
  clear H1
  generalize hq : (w1.setCell ⟨s, 0, none⟩ (.int .u64 y2)).drewN 1 = w2 at H2
  rw [show (w1.setCell ⟨s, 0, none⟩ (.int .u64 y2)).drew = w2 from hq]
  clear hq
  obtain ⟨x2, hx, hc, hf⟩ := H2.out.look
  go_wp2_with fail
  go_region
  generalize hy : bits .xor .u64 _ _ = y3
  have hw : Word y3 := by rw [← hy]; exact xor_some _ _
  clear hy hc hf
  have H3 : Hid (BX base g cap w0 d s Word .u64 _) := ((H2.out.put hw).drewN 1)
  clear H2
  generalize hq : (w2.setCell ⟨s, 0, none⟩ (.int .u64 y3)).drewN 1 = w3 at H3
  rw [show (w2.setCell ⟨s, 0, none⟩ (.int .u64 y3)).drew = w3 from hq]
  clear hq
  obtain ⟨x3, hx, hc, hf⟩ := H3.out.look
  obtain ⟨v, rfl⟩ := hx
  go_wp2
  go_ret
  exact ⟨v, rfl, H3.out⟩

theorem BX.swap {base g cap s : Nat} {w0 w : World} {d : Array Bv} {P : Int → Prop} {k : IntKind} (h : BX base g cap w0 d s P k w) (i j : Nat) :
    BX base g cap w0 (swp d i j) s P k ((w.setCell ⟨g, i, none⟩ (.int .u64 ((d[j]!).toNat : Int))).setCell ⟨g, j, none⟩ (.int .u64 ((d[i]!).toNat : Int))) := by
  obtain ⟨h1, h2, x, t, hx, hc⟩ := h
  have hne : s ≠ g := by have := h1.2.2; omega
  refine ⟨h1.swap i j, h2, x, t, hx, ?_⟩
  rw [Below.heap_setCell _ _ _ s hne, Below.heap_setCell _ _ _ s hne]; exact hc
theorem and_some (v : Bv) (K : Nat) (hK : K < 18446744073709551616) : ∃ o : Nat, bits .and .u64 (v.toNat : Int) (K : Int) = (o : Int) ∧ o ≤ K :=
  ⟨v.toNat &&& K, bits_and_u64_nat _ _ (bv_lt v) hK, Nat.and_le_right⟩

set_option maxRecDepth 100000 in
set_option maxHeartbeats 8000000 in
theorem break_any (base g cap a b : Nat) (w0 : World) (d : Array Bv) (w : World) (h : UR base g cap w0 d w) (hab : a + 12 < b) (hb : b ≤ d.size) (hn : d.size ≤ 1000000000000000) :
    Calls Try.prog 56 #[.slice (some ⟨g, 0, none⟩) d.size cap, .int .i64 a, .int .i64 b] w fun e w' => e = .returned (.tuple #[]) ∧ ∃ d', PermIn a b d d' ∧ UR base g cap w0 d' w' := by
  have H := Lib.hid h; clear h
  obtain ⟨L, hL⟩ : ∃ L, b = a + L := ⟨b - a, by omega⟩
  have eL : (b : Int) - (a : Int) = (L : Int) := by omega
  obtain ⟨Q, hQ, eQ⟩ : ∃ Q : Nat, Q = L / 4 ∧ (L : Int).tdiv 4 = (Q : Int) := ⟨L / 4, rfl, (Int.ofNat_tdiv L 4).symm⟩
  have h8 : (8 : Int) ≤ (L : Int) := by omega
  have hQ1 : 3 ≤ Q := by omega
  have hQ2 : 4 * Q ≤ L := by omega
  have hLn : L ≤ 1000000000000000 := by omega
  obtain ⟨j, hj⟩ : ∃ j, j = a + Q * 2 := ⟨_, rfl⟩
  obtain ⟨i0, hi0⟩ : ∃ i0, j = i0 + 1 := ⟨j - 1, by omega⟩
  have ej : (a : Int) + (Q : Int) * 2 = (j : Int) := by omega
  have ei : (j : Int) - 1 = (i0 : Int) := by omega
  have lj : a + 2 < i0 := by omega
  have uj : j + 2 < b := by omega
  have HL := Lib.hid hL
  have Hi0 := Lib.hid hi0
  have hij : i0 < j := by omega
  clear hQ hL hj hi0
  have HA : Hid (BX base g cap w0 d w.heap.size Word .u64 _) := UR.box (P := Word) (k := .u64) (x := (L : Int)) H.out ⟨BitVec.ofNat 64 L, by rw [BitVec.toNat_ofNat]; omega⟩ 88
  generalize hwa : w.alloc (.cells #[.int .u64 (L : Int)] 88 (0, 0)) = wa at HA
  go_enter Try.func56, Try.ntmps56
  go_wp2_with fail
  refine (next2_any L wa (by omega) hLn).mono ?_
  rintro e w' ⟨M, rfl, hM1, hM2, rfl⟩
  generalize w.heap.size = s at HA ⊢
  obtain ⟨K, hK⟩ : ∃ K, M = K + 1 := ⟨M - 1, by omega⟩
  have eK : (M : Int) - 1 = (K : Int) := by omega
  have hK2 : K < 2 * L := by omega
  clear hK hwa H
  go_wp2_with fail
  go_loopg [9] (j + 2) (fun gh v9 wr => ∃ (i : Nat) (dk : Array Bv), v9 = .int .i64 i ∧ i0 ≤ i ∧ i ≤ j + 2 ∧ j + 2 - i ≤ gh ∧ Hid (PermIn a b d dk) ∧ Hid (BX base g cap w0 dk s Word .u64 wr))
  case atStart => exact ⟨i0, d, by go_num, Nat.le_refl _, by omega, by omega, Go.Sort.permIn_refl _ _ _, HA.out⟩
  case round =>
    clear HA
    obtain ⟨i, dk, rfl, h1, h2, h3, HP, HU⟩ := hrel
    have hsz : dk.size = d.size := HP.out.1
    by_cases hle : i ≤ j + 1
    · have gd : decide ((i : Int) ≤ (j : Int) + 1) = true := decide_eq_true (by omega)
      have hle' : (i : Int) ≤ (j : Int) + 1 := by omega
      go_wp2_with fail
      refine (xnext_any base g cap s w0 dk wr HU.out).mono ?_
      rintro e w1 ⟨v, rfl, hbx⟩
      have HU := Lib.hid hbx
      clear hbx
      obtain ⟨o, eo, ho⟩ := and_some v K (by omega)
      by_cases hoL : L ≤ o
      · have go : decide (L ≤ o) = true := decide_eq_true hoL
        obtain ⟨o2, ho2⟩ : ∃ o2, o = L + o2 := ⟨o - L, by omega⟩
        have eo2 : (o : Int) - (L : Int) = (o2 : Int) := by omega
        have lo2 : o2 < L := by omega
        clear ho2
        obtain ⟨m, hm⟩ : ∃ m, m = a + o2 := ⟨_, rfl⟩
        have em : (a : Int) + (o2 : Int) = (m : Int) := by omega
        have hm1 : a ≤ m := by omega
        have hm2 : m < b := by have := HL.out; omega
        clear hm
        have c3 := HU.out.1.cell (i := i) (by omega)
        have c4 := HU.out.1.cell (i := m) (by omega)
        have f3 := HU.out.1.frozen i
        have f4 := HU.out.1.frozen m
        have z1 : (m : Int) < (d.size : Int) := by omega
        have z2 : (i : Int) < (d.size : Int) := by omega
        obtain ⟨u2, f5⟩ := HU.out.1.cell_after (i := i) (j := m) (by omega) (by omega)
        have SW : Hid (BX base g cap w0 (swp dk i m) s Word .u64 _) := HU.out.swap i m
        clear HU
        generalize ((dk[i]!).toNat : Int) = x at c3 SW
        generalize ((dk[m]!).toNat : Int) = y at c4 SW f5
        go_wp2_with fail
        go_region
        go_wp2
        go_roundg (j + 1 - i)
        case measure => omega
        case rel => exact ⟨i + 1, swp dk i m, by go_num, by omega, by omega, by omega, Go.Sort.permIn_trans _ _ _ _ _ HP.out (Go.Sort.swp_permIn _ _ _ _ _ (by omega) (by omega) (by omega) (by omega) (by have := HP.out.1; omega)), SW.out.drewN 1⟩
      · have go : decide (L ≤ o) = false := decide_eq_false hoL
        obtain ⟨m, hm⟩ : ∃ m, m = a + o := ⟨_, rfl⟩
        have em : (a : Int) + (o : Int) = (m : Int) := by omega
        have hm1 : a ≤ m := by omega
        have hm2 : m < b := by have := HL.out; omega
        clear hm
        have c3 := HU.out.1.cell (i := i) (by omega)
        have c4 := HU.out.1.cell (i := m) (by omega)
        have f3 := HU.out.1.frozen i
        have f4 := HU.out.1.frozen m
        have z1 : (m : Int) < (d.size : Int) := by omega
        have z2 : (i : Int) < (d.size : Int) := by omega
        obtain ⟨u2, f5⟩ := HU.out.1.cell_after (i := i) (j := m) (by omega) (by omega)
        have SW : Hid (BX base g cap w0 (swp dk i m) s Word .u64 _) := HU.out.swap i m
        clear HU
        generalize ((dk[i]!).toNat : Int) = x at c3 SW
        generalize ((dk[m]!).toNat : Int) = y at c4 SW f5
        go_wp2_with fail
        go_region
        go_wp2
        go_roundg (j + 1 - i)
        case measure => omega
        case rel => exact ⟨i + 1, swp dk i m, by go_num, by omega, by omega, by omega, Go.Sort.permIn_trans _ _ _ _ _ HP.out (Go.Sort.swp_permIn _ _ _ _ _ (by omega) (by omega) (by omega) (by omega) (by have := HP.out.1; omega)), SW.out.drewN 1⟩
    · have gd : decide ((i : Int) ≤ (j : Int) + 1) = false := decide_eq_false (by omega)
      have hle' : ¬ (i : Int) ≤ (j : Int) + 1 := by omega
      go_wp2
      go_end0
      exact ⟨rfl, dk, HP.out, HU.out.1⟩
end Go.Proofs.Ytejceacoopgjkaa
