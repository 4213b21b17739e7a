/-
  Package reach: Check, the faults of sets, what numbers need, what is come to. Condition: the table of math/bits lies in memory as its text lays it (the card ties this).
-/
import Derived.Test.YtjmomgmbmgdeoaaDoorHMe
import Derived.Test.YtjmomgmbmgdeoaaDoorHPn
namespace Go.Proofs.YtjmomgmbmgdeoaaDoor
set_option maxRecDepth 100000
set_option linter.unusedVariables false
open Go.ChangeShapes Go.WideShapes Go.ChangeAt Go.RowKit

/-! faults -/
theorem ret_u {a b : Bv} (h : a = b) : Ending.returned (.int .u64 (a.toNat : Int)) = .returned (.int .u64 (b.toNat : Int)) := by rw [h]
theorem ret_c {a b : Int} (h : a = b) : Ending.returned (.int .i64 a) = .returned (.int .i64 b) := by rw [h]
theorem belowT_any (n : Nat) (w : World) (hn : n ≤ 64) :
    Calls Tryd.prog 46 #[.int .i64 (n : Int)] w fun e w' => e = .returned (.tuple #[.int .u64 (low n).toNat, .int .i64 0]) ∧ w' = w := by
  have h1 : ¬ ((n : Int) < 0) := by omega
  have h2 : ¬ ((64 : Int) < (n : Int)) := by omega
  have B := Lib.hid (fun W => below_any (n : Int) W)
  rw [clamp_nat n hn] at B
  clear hn
  go_enter Tryd.func46, Tryd.ntmps46
  go_wp2_with fail
  refine (B.out _).mono ?_
  rintro e w' ⟨rfl, rfl⟩
  go_wp2
  go_ret2
  exact ⟨rfl, rfl⟩
set_option maxHeartbeats 4000000 in
theorem checkSets_any {w : World} {v sv : Value} {r z : List Bv} (h : WIn w v r) (hs : WIn w sv z) (hl : r.length ≤ 64) (hz : z.length ≤ 64) :
    Calls Tryd.prog 39 #[v, sv] w fun e w' => e = .returned (.int .i64 (ckS r.length z)) ∧ w' = w := by
  obtain ⟨a, c, rfl, _⟩ := h
  obtain ⟨a2, c2, rfl, hc⟩ := hs
  have HC := Lib.hid hc; clear hc
  have OK : Hid ((∀ k, k < z.length → SetIn r.length (wAt z k)) → ckS r.length z = 0) := ckS_ok
  have BAD : Hid (∀ k, k < z.length → ¬ SetIn r.length (wAt z k) → ckS r.length z = 4) := fun k hk hb => ckS_bad hk hb
  have ST : Hid (∀ k, SetIn r.length (wAt z k) ↔ wAt z k &&& ~~~low r.length = 0#64) := fun k => setIn_iff
  have B := Lib.hid (fun W => belowT_any r.length W hl)
  generalize ckS r.length z = C at *
  generalize r.length = L at *
  generalize z.length = M at *
  generalize wAt z = Z at *
  clear hl
  go_enter Tryd.func39, Tryd.ntmps39
  go_wp2_with fail
  refine (B.out _).mono ?_
  rintro e w' ⟨rfl, rfl⟩
  go_wp2_with fail
  go_loopw [17] (fun i wr => ∃ k : Nat, k ≤ M ∧ i = .int .i64 (k : Int) ∧ (∀ j, j < k → SetIn L (Z j)) ∧ wr = w') (fun i _ => M - (intOf i).toNat)
  case atStart => exact ⟨0, Nat.zero_le _, rfl, fun j hj => absurd hj (Nat.not_lt_zero _), rfl⟩
  case round =>
    obtain ⟨k, hk, rfl, qa, rfl⟩ := hrel
    have QA := Lib.hid qa; clear qa
    by_cases hkl : k < M
    · obtain ⟨b, off, rfl, c0⟩ := HC.out k hkl
      have STk := Lib.hid (ST.out k)
      have BADk := Lib.hid (BAD.out k hkl)
      have NX : Hid (SetIn L (Z k) → ∀ j, j < k + 1 → SetIn L (Z j)) := fun h j hj => by
        rcases Nat.lt_succ_iff_lt_or_eq.1 hj with h' | rfl
        · exact QA.out j h'
        · exact h
      by_cases hS : SetIn L (Z k)
      · have e1 : (bits .andNot .u64 ((Z k).toNat : Int) ((low L).toNat : Int) != 0) = false := by rw [bv_andNot, STk.out.1 hS]; rfl
        have NX1 := Lib.hid (NX.out hS)
        clear hS NX BADk STk
        generalize Z k = x at *
        go_wp2
        go_roundw
        case rel => exact ⟨k + 1, by omega, by go_num, NX1.out, trivial⟩
        case measure => simp [intOf]; omega
      · have e1 : (bits .andNot .u64 ((Z k).toNat : Int) ((low L).toNat : Int) != 0) = true := by
          rw [bv_andNot, bv_ne_zero, bne_iff_ne]; exact fun h => hS (STk.out.2 h)
        have EE := Lib.hid (BADk.out hS)
        clear hS NX BADk STk
        generalize Z k = x at *
        go_wp2
        go_ret
        exact ⟨by rw [EE.out]; rfl, rfl⟩
    · obtain rfl : k = M := by omega
      have EE := Lib.hid (OK.out QA.out)
      go_wp2
      go_ret
      exact ⟨by rw [EE.out]; rfl, rfl⟩
set_option maxHeartbeats 4000000 in
theorem check_any {w : World} {v : Value} {r : List Bv} (h : WIn w v r) :
    Calls Tryd.prog 34 #[v] w fun e w' => e = .returned (.int .i64 (ckR r)) ∧ w' = w := by
  have CS := Lib.hid (fun hl => checkSets_any h h hl hl)
  have LA : Hid (64 < r.length → ckR r = 2) := ckR_large
  have SM : Hid (r.length ≤ 64 → ckR r = ckS r.length r) := ckR_small
  obtain ⟨a, c, rfl, _⟩ := h
  generalize ckR r = C at *
  generalize ckS r.length r = D at *
  generalize r.length = L at *
  go_enter Tryd.func34, Tryd.ntmps34
  by_cases hL : 64 < L
  · have EE := Lib.hid (LA.out hL)
    go_wp2
    go_ret
    exact ⟨by rw [EE.out]; rfl, rfl⟩
  · have hl : L ≤ 64 := by omega
    have EE := Lib.hid (SM.out hl)
    have CS1 := Lib.hid (CS.out hl)
    clear CS SM LA hL
    go_wp2_with fail
    refine CS1.out.mono ?_
    rintro e w' ⟨rfl, rfl⟩
    go_wp2
    go_ret
    exact ⟨ret_c EE.out.symm, rfl⟩
set_option maxHeartbeats 4000000 in
theorem checkWith_any {w : World} {v sv : Value} {r z : List Bv} (h : WIn w v r) (hs : WIn w sv z) (hz : z.length ≤ 64) :
    Calls Tryd.prog 30 #[v, sv] w fun e w' => e = .returned (.int .i64 (ckW r z)) ∧ w' = w := by
  have CK := Lib.hid (check_any h)
  have CS := Lib.hid (fun hl => checkSets_any h hs hl hz)
  have BD : Hid (ckR r ≠ 0 → ckW r z = ckR r) := ckW_bad
  have SM : Hid (ckR r = 0 → r.length ≤ 64 ∧ ckW r z = ckS r.length z) := fun h => ⟨(ckR_zero h).len, ckW_rows h⟩
  obtain ⟨a, c, rfl, _⟩ := h
  obtain ⟨a2, c2, rfl, _⟩ := hs
  generalize ckW r z = W at *
  generalize ckR r = C at *
  generalize ckS r.length z = D at *
  generalize r.length = L at *
  generalize z.length = M at *
  go_enter Tryd.func30, Tryd.ntmps30
  go_wp2_with fail
  refine CK.out.mono ?_
  rintro e w' ⟨rfl, rfl⟩
  by_cases hc : C = 0
  · subst hc
    obtain ⟨s1, s2⟩ := SM.out rfl
    have EE := Lib.hid s2
    have CS1 := Lib.hid (CS.out s1)
    clear CS SM BD s1 s2 CK
    go_wp2_with fail
    refine CS1.out.mono ?_
    rintro e w2 ⟨rfl, rfl⟩
    go_wp2
    go_ret
    exact ⟨ret_c EE.out.symm, rfl⟩
  · have t1 := zero_ne hc
    have EE := Lib.hid (BD.out hc)
    clear CS SM BD hc CK
    go_wp2
    go_ret
    exact ⟨ret_c EE.out.symm, rfl⟩

/-! what numbers need -/
set_option maxHeartbeats 4000000 in
theorem neededBy_any {w : World} {v : Value} {r : List Bv} (s : Bv) (h : WIn w v r) (hs : SetIn r.length s) (ht : Tab w) :
    Calls Tryd.prog 47 #[v, .int .u64 (s.toNat : Int)] w fun e w' => e = .returned (.int .u64 ((needR r s).toNat : Int)) ∧ Below w.heap.size w w' := by
  have LA := Lib.hid ((list_any s w ht).mono (fun _ _ => list_blk))
  have HW := Lib.hid (fun W (hW : Below w.heap.size w W) => h.later hW)
  obtain ⟨a, c, rfl, _⟩ := h
  have HC : Hid (∀ W, Below w.heap.size w W → ∀ k, k < r.length → ∃ b off, a = some ⟨b, off, none⟩ ∧ W.cell? ⟨b, off + k, none⟩ = some (.int .u64 ((wAt r k).toNat : Int))) := fun W hW k hk => by
    obtain ⟨a', c', e, hh⟩ := HW.out W hW
    cases e
    exact hh k hk
  have hcn := cnt_le s
  have NG : Hid (∀ j, j < cnt s → ∃ n, n < r.length ∧ (nums s)[j]? = some n) := fun j hj => by
    obtain ⟨n, _, h2, _, h4⟩ := nums_get s j hj
    refine ⟨n, ?_, h4⟩
    rcases Nat.lt_or_ge n r.length with h' | h'
    · exact h'
    · rw [hs n h'] at h2; cases h2
  have NX : Hid (∀ j n, (nums s)[j]? = some n → needsOn r ((nums s).take (j + 1)) = needsOn r ((nums s).take j) ||| wAt r n) := fun j n h => needsOn_take h
  have N0 : Hid (needsOn r ((nums s).take 0) = 0#64) := Lib.hid rfl
  have NL : Hid (needsOn r ((nums s).take (cnt s)) = needR r s) := Lib.hid (by rw [List.take_of_length_le (by rw [nums_length]; exact Nat.le_refl _)]; rfl)
  clear hs ht HW
  generalize needR r s = R at *
  generalize nums s = ns at *
  generalize cnt s = C at *
  generalize r.length = L at *
  generalize (fun l => needsOn r l) = q at *
  go_enter Tryd.func47, Tryd.ntmps47
  go_wp2_with fail
  refine LA.out.mono ?_
  rintro e w2 ⟨rfl, b2, cur, k2, hcur⟩
  have B2 := Lib.hid b2
  have K2 := Lib.hid k2
  have HR := Lib.hid hcur
  clear b2 k2 hcur LA
  go_wp2_with fail
  go_loopw [5, 11] (fun u i wr => ∃ j : Nat, j ≤ C ∧ i = .int .i64 (j : Int) ∧ u = .int .u64 ((needsOn r (ns.take j)).toNat : Int) ∧ wr = w2) (fun _ i _ => C - (intOf i).toNat)
  case atStart => exact ⟨0, Nat.zero_le _, rfl, by rw [N0.out]; rfl, rfl⟩
  case round =>
    obtain ⟨j, hj, rfl, rfl, rfl⟩ := hrel
    by_cases hjl : j < C
    · obtain ⟨n, n1, n4⟩ := NG.out j hjl
      have cj := K2.out.cell (HR.out j n n4)
      obtain ⟨b, off, rfl, c0⟩ := HC.out wr B2.out n n1
      have X1 := NX.out j n n4
      have e2 : bits .or .u64 ((needsOn r (ns.take j)).toNat : Int) ((wAt r n).toNat : Int) = ((needsOn r (ns.take (j + 1))).toNat : Int) := by rw [bv_or, ← X1]
      have i2 : (n : Int) < (L : Int) := by omega
      clear X1 n4
      generalize (needsOn r (ns.take j)).toNat = y at *
      generalize (wAt r n).toNat = x at *
      generalize hz : (needsOn r (ns.take (j + 1))).toNat = z at *
      have HZ := Lib.hid hz; clear hz
      go_wp2
      go_roundw
      case rel => exact ⟨j + 1, by omega, by go_num, by rw [HZ.out], trivial⟩
      case measure => simp [intOf]; omega
    · obtain rfl : j = C := by omega
      rw [NL.out]
      go_wp2
      go_ret
      exact ⟨rfl, B2.out⟩

/-! what is come to -/
set_option maxHeartbeats 4000000 in
theorem reachedWithin_any {w : World} {v : Value} {r : List Bv} (s : Bv) (d : Nat) (h : WIn w v r) (hr : RowsIn r) (hs : SetIn r.length s) (hd : d ≤ 9223372036854775807) (ht : Tab w) :
    Calls Tryd.prog 40 #[v, .int .u64 (s.toNat : Int), .int .i64 (d : Int)] w fun e w' => e = .returned (.int .u64 ((steps r s d).toNat : Int)) ∧ Below w.heap.size w w' := by
  have NB := Lib.hid (fun W (hW : Below w.heap.size w W) (f : Bv) (hf : SetIn r.length f) => neededBy_any f (h.later hW) hf (ht.below hW ht.1))
  have HR := Lib.hid hr
  have HS := Lib.hid hs
  obtain ⟨a, c, rfl, _⟩ := h
  clear hr hs ht
  generalize hL : r.length = L at *
  go_enter Tryd.func40, Tryd.ntmps40
  go_wp2_with fail
  go_loopw [1, 2, 7] (fun u i f wr => ∃ (m : Nat) (S F : Bv), u = .int .u64 (S.toNat : Int) ∧ i = .int .i64 (m : Int) ∧ f = .int .u64 (F.toNat : Int) ∧ m ≤ d ∧ Fr r S F ∧ SetIn L S ∧ steps r S m = steps r s d ∧ Below w.heap.size w wr) (fun _ i _ _ => (intOf i).toNat)
  case atStart => exact ⟨d, s, s, rfl, rfl, rfl, Nat.le_refl _, fr_start r s, HS.out, rfl, Below.refl _ _⟩
  case round =>
    obtain ⟨m, S, F, rfl, rfl, rfl, hm, hf, hS, hst, hb⟩ := hrel
    have QF := Lib.hid hf; have QS := Lib.hid hS; have QT := Lib.hid hst; have QB := Lib.hid hb
    clear hf hS hst hb
    by_cases hF : F = 0#64
    · subst hF
      have EE : Hid (S = steps r s d) := Lib.hid (by rw [← QT.out, steps_fix (fr_stop QF.out)])
      have t1 : (((0#64 : Bv).toNat : Int) != 0) = false := rfl
      go_wp2
      go_ret
      exact ⟨ret_u EE.out, QB.out⟩
    · have t1 : ((F.toNat : Int) != 0) = true := by rw [bv_ne_zero, bne_iff_ne]; exact hF
      by_cases hm0 : m = 0
      · subst hm0
        have EE : Hid (S = steps r s d) := Lib.hid (by rw [← QT.out]; rfl)
        go_wp2
        go_ret
        exact ⟨ret_u EE.out, QB.out⟩
      · obtain ⟨j, hj⟩ : ∃ j : Nat, m = j + 1 := ⟨m - 1, by omega⟩
        have T1 : Hid (steps r (stepR r S) j = steps r s d) := Lib.hid (by rw [← QT.out, hj, steps_head])
        have hj1 : (m : Int) - 1 = (j : Int) := by omega
        have hjd : j ≤ d := by omega
        have hjm : j < m := by omega
        have hm1 : (0 : Int) < (m : Int) := by omega
        have FN := Lib.hid (fr_next QF.out)
        have FO := fr_or QF.out
        have FI := Lib.hid (fr_in QF.out QS.out)
        have SI : Hid (SetIn L (stepR r S)) := Lib.hid (by have := stepR_in HR.out (s := S) (by rw [hL]; exact QS.out); rwa [hL] at this)
        have e1 : bits .andNot .u64 ((needR r F).toNat : Int) (S.toNat : Int) = ((needR r F &&& ~~~S).toNat : Int) := bv_andNot _ _
        have e2 : bits .or .u64 (S.toNat : Int) ((needR r F &&& ~~~S).toNat : Int) = ((stepR r S).toNat : Int) := by rw [bv_or, FO]
        have NB1 := Lib.hid (NB.out _ QB.out F FI.out)
        clear hj hF FO
        generalize needR r F &&& ~~~S = F2 at *
        generalize stepR r S = S2 at *
        generalize needR r F = NF at *
        go_wp2_with fail
        refine NB1.out.mono ?_
        rintro e w2 ⟨rfl, b2⟩
        have B2 := Lib.hid (QB.out.trans (b2.mono QB.out.size))
        clear b2
        go_wp2
        go_roundw
        case rel => exact ⟨j, S2, F2, rfl, by go_num, rfl, hjd, FN.out, SI.out, T1.out, B2.out⟩
        case measure => simp [intOf]; omega
set_option maxHeartbeats 4000000 in
theorem reached_any {w : World} {v : Value} {r : List Bv} (s : Bv) (h : WIn w v r) (hr : RowsIn r) (hs : SetIn r.length s) (ht : Tab w) :
    Calls Tryd.prog 31 #[v, .int .u64 (s.toNat : Int)] w fun e w' => e = .returned (.int .u64 ((allR r s).toNat : Int)) ∧ Below w.heap.size w w' := by
  have hl := hr.len
  have RW := Lib.hid (reachedWithin_any s r.length h hr hs (by omega) ht)
  have E : Hid (steps r s r.length = allR r s) := Lib.hid rfl
  obtain ⟨a, c, rfl, _⟩ := h
  generalize allR r s = A at *
  rw [E.out] at RW
  clear E hr hs hl
  generalize r.length = L at *
  go_enter Tryd.func31, Tryd.ntmps31
  go_wp2_with fail
  refine RW.out.mono ?_
  rintro e w' ⟨rfl, b⟩
  have B := Lib.hid b
  clear b
  go_wp2
  go_ret
  exact ⟨rfl, B.out⟩
end Go.Proofs.YtjmomgmbmgdeoaaDoor
