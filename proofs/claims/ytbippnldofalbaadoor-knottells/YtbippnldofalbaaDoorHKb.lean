/-
  Package knot: tiedTo, neededBy, the comparison of two sets by their least numbers. Condition: the table of math/bits lies in memory as its text lays it (the card ties this).
-/
import Derived.Test.YtbippnldofalbaaDoorHKo
import Derived.Test.YtbippnldofalbaaDoorHKa
namespace Go.Proofs.YtbippnldofalbaaDoor
set_option maxRecDepth 100000
set_option linter.unusedVariables false
open Go.ChangeShapes Go.WideShapes Go.ChangeAt Go.RowKit

theorem and_one (x : Bv) (n : Nat) (hn : n < 64) : (bits .and .u64 (x.toNat : Int) (IntKind.u64.wrap (2 ^ n)) != 0) = x.getLsbD n := by
  rw [one_walk n hn, bv_and, bv_ne_zero, Bool.eq_iff_iff, bne_iff_ne, nonzero_iff]
  constructor
  · rintro ⟨k, hk⟩
    obtain ⟨h1, h2⟩ := and_bit.1 hk
    rw [← one_is h2]; exact h1
  · exact fun h => ⟨n, and_bit.2 ⟨h, one_has hn⟩⟩
set_option maxHeartbeats 4000000 in
theorem tiedTo_any {w : World} {v : Value} {r : List Bv} (n : Nat) (h : WIn w v (closeR r)) (hr : RowsIn r) (hn : n < r.length) (ht : Tab w) :
    Calls Tryd.prog 50 #[v, .int .i64 (n : Int)] w fun e w' => e = .returned (.int .u64 ((tied r n).toNat : Int)) ∧ Below w.heap.size w w' := by
  have hl := hr.len
  have LA := Lib.hid ((list_any (wAt (closeR r) n) w ht).mono (fun _ _ => list_blk))
  have HW := Lib.hid (fun W (hW : Below w.heap.size w W) => h.later hW)
  obtain ⟨a, c, rfl, _⟩ := h
  have HC : Hid (∀ W, Below w.heap.size w W → ∀ k, k < r.length → ∃ b off, a = some ⟨b, off, none⟩ ∧ W.cell? ⟨b, off + k, none⟩ = some (.int .u64 ((wAt (closeR r) k).toNat : Int))) := fun W hW k hk => by
    obtain ⟨a', c', e, hh⟩ := HW.out W hW
    cases e
    exact hh k (by rw [closeR_length]; exact hk)
  have hcn := cnt_le (wAt (closeR r) n)
  have NG : Hid (∀ j, j < cnt (wAt (closeR r) n) → ∃ k, k < r.length ∧ (nums (wAt (closeR r) n))[j]? = some k) := fun j hj => by
    obtain ⟨k, _, h2, _, h4⟩ := nums_get (wAt (closeR r) n) j hj
    refine ⟨k, ?_, h4⟩
    obtain ⟨i, i1, i2⟩ := (closeR_bit hr hn).1 h2
    rcases Nat.lt_or_ge i r.length with h' | h'
    · exact wk_lt hr i2 h'
    · rw [hr.row n i h'] at i1; cases i1
  have TN := Lib.hid (fun j k (h : (nums (wAt (closeR r) n))[j]? = some k) => tieL_take (c := closeR r) (n := n) h)
  have T0 : Hid (tieL (closeR r) n ((nums (wAt (closeR r) n)).take 0) = one n) := Lib.hid rfl
  have TL : Hid (tieL (closeR r) n ((nums (wAt (closeR r) n)).take (cnt (wAt (closeR r) n))) = tied r n) := Lib.hid (by
    rw [List.take_of_length_le (by rw [nums_length]; exact Nat.le_refl _)]; exact tieL_tied hr hn)
  have EL := closeR_length r
  clear hr ht HW
  generalize tied r n = R at *
  generalize closeR r = cl at *
  rw [EL]
  generalize r.length = L at *
  have hn64 : (n : Int) < 64 := by omega
  have hnL : (n : Int) < (L : Int) := by omega
  have e0 : IntKind.u64.wrap (2 ^ n) = ((one n).toNat : Int) := one_walk n (by omega)
  obtain ⟨b0, off0, rfl, c00⟩ := HC.out w (Below.refl _ _) n hn
  have AO := Lib.hid (fun x => and_one x n (by omega))
  rw [e0] at AO
  clear EL
  generalize nums (wAt cl n) = ns at *
  generalize cnt (wAt cl n) = C at *
  go_enter Tryd.func50, Tryd.ntmps50
  go_wp2_with fail
  refine LA.out.mono ?_
  rintro e w2 ⟨rfl, b2, cur, k2, hcur⟩
  have B2 := Lib.hid b2
  have K2 := Lib.hid k2
  have HR := Lib.hid hcur
  clear b2 k2 hcur LA
  go_wp2_with fail
  go_loopw [5, 16] (fun u i wr => ∃ j : Nat, j ≤ C ∧ i = .int .i64 (j : Int) ∧ u = .int .u64 ((tieL cl n (ns.take j)).toNat : Int) ∧ Blk w.heap.size cur 3 wr ∧ Below w.heap.size w wr) (fun _ i _ => C - (intOf i).toNat)
  case atStart => exact ⟨0, Nat.zero_le _, rfl, by rw [T0.out], K2.out, B2.out⟩
  case round =>
    obtain ⟨j, hj, rfl, rfl, qk, qb⟩ := hrel
    have QK := Lib.hid qk; have QB := Lib.hid qb; clear qk qb
    rename World => wr
    by_cases hjl : j < C
    · obtain ⟨k, k1, k4⟩ := NG.out j hjl
      have cj := QK.out.cell (HR.out j k k4)
      obtain ⟨b, off, e, c0⟩ := HC.out wr QB.out k k1
      cases e
      have X1 := TN.out j k k4
      have A1 := AO.out (wAt cl k)
      have k64 : (k : Int) < 64 := by omega
      have kL : (k : Int) < (L : Int) := by omega
      have e2 : bits .or .u64 ((tieL cl n (ns.take j)).toNat : Int) (IntKind.u64.wrap (2 ^ k)) = ((tieL cl n (ns.take j) ||| one k).toNat : Int) := by rw [one_walk k (by omega), bv_or]
      cases hb : (wAt cl k).getLsbD n
      · rw [hb] at A1
        rw [hb, if_neg (by simp)] at X1
        have X2 := Lib.hid (congrArg BitVec.toNat X1)
        clear X1 hb k4 e2
        generalize (wAt cl k).toNat = x at *
        generalize (tieL cl n (ns.take j)).toNat = y at *
        go_wp2_with fail
        go_region
        go_wp2
        go_roundw
        case rel => exact ⟨j + 1, by omega, by go_num, by rw [X2.out], QK.out, QB.out.drew⟩
        case measure => simp [intOf]; omega
      · rw [hb] at A1
        rw [hb, if_pos rfl] at X1
        have X2 := Lib.hid X1
        rw [← X1] at e2
        clear X1 hb k4
        generalize (wAt cl k).toNat = x at *
        generalize hz : (tieL cl n (ns.take (j + 1))).toNat = z at *
        generalize (tieL cl n (ns.take j)).toNat = y at *
        have HZ := Lib.hid hz; clear hz
        go_wp2_with fail
        go_region
        go_wp2
        go_roundw
        case rel => exact ⟨j + 1, by omega, by go_num, by rw [HZ.out], QK.out, QB.out.drew⟩
        case measure => simp [intOf]; omega
    · obtain rfl : j = C := by omega
      rw [TL.out]
      go_wp2
      go_ret
      exact ⟨rfl, QB.out⟩
/-! what numbers need -/
set_option maxHeartbeats 4000000 in
theorem neededK_any {w : World} {v : Value} {r : List Bv} (s : Bv) (h : WIn w v r) (hs : SetIn r.length s) (ht : Tab w) :
    Calls Tryd.prog 34 #[v, .int .u64 (s.toNat : Int)] w fun e w' => e = .returned (.int .u64 ((needR r s).toNat : Int)) ∧ Below w.heap.size w w' := by
  have LA := Lib.hid ((list_any s w ht).mono (fun _ _ => list_blk))
  have HW := Lib.hid (fun W (hW : Below w.heap.size w W) => h.later hW)
  obtain ⟨a, c, rfl, _⟩ := h
  have HC : Hid (∀ W, Below w.heap.size w W → ∀ k, k < r.length → ∃ b off, a = some ⟨b, off, none⟩ ∧ W.cell? ⟨b, off + k, none⟩ = some (.int .u64 ((wAt r k).toNat : Int))) := fun W hW k hk => by
    obtain ⟨a', c', e, hh⟩ := HW.out W hW
    cases e
    exact hh k hk
  have hcn := cnt_le s
  have NG : Hid (∀ j, j < cnt s → ∃ n, n < r.length ∧ (nums s)[j]? = some n) := fun j hj => by
    obtain ⟨n, _, h2, _, h4⟩ := nums_get s j hj
    refine ⟨n, ?_, h4⟩
    rcases Nat.lt_or_ge n r.length with h' | h'
    · exact h'
    · rw [hs n h'] at h2; cases h2
  have NX : Hid (∀ j n, (nums s)[j]? = some n → needsOn r ((nums s).take (j + 1)) = needsOn r ((nums s).take j) ||| wAt r n) := fun j n h => needsOn_take h
  have N0 : Hid (needsOn r ((nums s).take 0) = 0#64) := Lib.hid rfl
  have NL : Hid (needsOn r ((nums s).take (cnt s)) = needR r s) := Lib.hid (by rw [List.take_of_length_le (by rw [nums_length]; exact Nat.le_refl _)]; rfl)
  clear hs ht HW
  generalize needR r s = R at *
  generalize nums s = ns at *
  generalize cnt s = C at *
  generalize r.length = L at *
  generalize (fun l => needsOn r l) = q at *
  go_enter Tryd.func34, Tryd.ntmps34
  go_wp2_with fail
  refine LA.out.mono ?_
  rintro e w2 ⟨rfl, b2, cur, k2, hcur⟩
  have B2 := Lib.hid b2
  have K2 := Lib.hid k2
  have HR := Lib.hid hcur
  clear b2 k2 hcur LA
  go_wp2_with fail
  go_loopw [5, 11] (fun u i wr => ∃ j : Nat, j ≤ C ∧ i = .int .i64 (j : Int) ∧ u = .int .u64 ((needsOn r (ns.take j)).toNat : Int) ∧ wr = w2) (fun _ i _ => C - (intOf i).toNat)
  case atStart => exact ⟨0, Nat.zero_le _, rfl, by rw [N0.out]; rfl, rfl⟩
  case round =>
    obtain ⟨j, hj, rfl, rfl, rfl⟩ := hrel
    by_cases hjl : j < C
    · obtain ⟨n, n1, n4⟩ := NG.out j hjl
      have cj := K2.out.cell (HR.out j n n4)
      obtain ⟨b, off, rfl, c0⟩ := HC.out wr B2.out n n1
      have X1 := NX.out j n n4
      have e2 : bits .or .u64 ((needsOn r (ns.take j)).toNat : Int) ((wAt r n).toNat : Int) = ((needsOn r (ns.take (j + 1))).toNat : Int) := by rw [bv_or, ← X1]
      have i2 : (n : Int) < (L : Int) := by omega
      clear X1 n4
      generalize (needsOn r (ns.take j)).toNat = y at *
      generalize (wAt r n).toNat = x at *
      generalize hz : (needsOn r (ns.take (j + 1))).toNat = z at *
      have HZ := Lib.hid hz; clear hz
      go_wp2
      go_roundw
      case rel => exact ⟨j + 1, by omega, by go_num, by rw [HZ.out], trivial⟩
      case measure => simp [intOf]; omega
    · obtain rfl : j = C := by omega
      rw [NL.out]
      go_wp2
      go_ret
      exact ⟨rfl, B2.out⟩

/-! the comparison of two sets -/
def cfH (x y : Bv) : Int := if headW x < headW y then -1 else if headW y < headW x then 1 else 0
theorem isNaN_any (a : Int) (w : World) : Calls Tryd.prog 65 #[.int .i64 a] w fun e w' => e = .returned (.bool false) ∧ w' = w := by
  have e1 : (a != a) = false := by simp
  go_enter Tryd.func65, Tryd.ntmps65
  go_wp2
  go_ret
  exact ⟨rfl, rfl⟩
set_option maxHeartbeats 2000000 in
theorem compareI_any (a b : Int) (w : World) : Calls Tryd.prog 53 #[.int .i64 a, .int .i64 b] w fun e w' => e = .returned (.int .i64 (if a < b then -1 else if b < a then 1 else 0)) ∧ w' = w := by
  have NA := Lib.hid (fun x W => isNaN_any x W)
  have EE : Hid (∀ c : Int, (c = -1 ∧ a < b ∨ c = 1 ∧ ¬ a < b ∧ b < a ∨ c = 0 ∧ ¬ a < b ∧ ¬ b < a) → c = (if a < b then -1 else if b < a then 1 else 0)) := fun c h => by
    rcases h with ⟨rfl, h⟩ | ⟨rfl, h, k⟩ | ⟨rfl, h, k⟩
    · rw [if_pos h]
    · rw [if_neg h, if_pos k]
    · rw [if_neg h, if_neg k]
  generalize (if a < b then (-1 : Int) else if b < a then 1 else 0) = c at *
  go_enter Tryd.func53, Tryd.ntmps53
  go_wp2_with fail
  refine (NA.out a _).mono ?_
  rintro e w1 ⟨rfl, rfl⟩
  go_wp2_with fail
  refine (NA.out b _).mono ?_
  rintro e w2 ⟨rfl, rfl⟩
  by_cases h : a < b
  · have E := Lib.hid (EE.out (-1) (.inl ⟨rfl, h⟩))
    go_wp2
    go_ret
    exact ⟨ret_c E.out, rfl⟩
  · by_cases k : b < a
    · have E := Lib.hid (EE.out 1 (.inr (.inl ⟨rfl, by omega, by omega⟩)))
      go_wp2
      go_ret
      exact ⟨ret_c E.out, rfl⟩
    · have E := Lib.hid (EE.out 0 (.inr (.inr ⟨rfl, by omega, by omega⟩)))
      go_wp2
      go_ret
      exact ⟨ret_c E.out, rfl⟩
theorem cfH_eq (x y : Bv) : (if ((headW x : Nat) : Int) < ((headW y : Nat) : Int) then (-1 : Int) else if ((headW y : Nat) : Int) < ((headW x : Nat) : Int) then 1 else 0) = cfH x y := by
  unfold cfH
  simp only [Int.ofNat_lt]
theorem cmpH_any (x y : Bv) (w : World) (ht : Tab w) :
    Calls Tryd.prog 52 #[.int .u64 (x.toNat : Int), .int .u64 (y.toNat : Int)] w fun e w' => e = .returned (.int .i64 (cfH x y)) ∧ w' = w := by
  have SX := Lib.hid (smallestK_any x w ht)
  have SY := Lib.hid (smallestK_any y w ht)
  have CM := Lib.hid (fun W => compareI_any ((headW x : Nat) : Int) ((headW y : Nat) : Int) W)
  rw [cfH_eq] at CM
  clear ht
  generalize cfH x y = c at *
  generalize headW x = a at *
  generalize headW y = b at *
  go_enter Tryd.func52, Tryd.ntmps52
  go_wp2_with fail
  refine SX.out.mono ?_
  rintro e w1 ⟨rfl, rfl⟩
  go_wp2_with fail
  refine SY.out.mono ?_
  rintro e w2 ⟨rfl, rfl⟩
  go_wp2_with fail
  refine (CM.out _).mono ?_
  rintro e w3 ⟨rfl, rfl⟩
  go_wp2
  go_ret
  exact ⟨rfl, rfl⟩
end Go.Proofs.YtbippnldofalbaaDoor
