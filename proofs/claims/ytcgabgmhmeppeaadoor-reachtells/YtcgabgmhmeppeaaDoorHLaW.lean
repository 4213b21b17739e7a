/-
  The laws ReachLeast, ReachDepth, ReachBack, whatever their arguments. Condition: the table of math/bits lies in memory as its text lays it (the card ties this).
-/
import Derived.Test.YtcgabgmhmeppeaaDoorHGd
namespace Go.Proofs.YtcgabgmhmeppeaaDoor
set_option maxRecDepth 100000
set_option linter.unusedVariables false
open Go.ChangeShapes Go.WideShapes Go.ChangeAt Go.RowKit

theorem zero_beq : (((0#64 : Bv).toNat : Int) == 0) = true := rfl
theorem same_beq (x : Int) : (x == x) = true := by simp
theorem le_beq {s t : Bv} (h : Le s t) : (bits .andNot .u64 (s.toNat : Int) (t.toNat : Int) == 0) = true := by rw [bv_andNot, le_iff.2 h]; rfl
theorem le_bne {s t : Bv} (h : Le s t) : (bits .andNot .u64 (s.toNat : Int) (t.toNat : Int) != 0) = false := by rw [bv_andNot, le_iff.2 h]; rfl
theorem nle_bne {s t : Bv} (h : ¬ Le s t) : (bits .andNot .u64 (s.toNat : Int) (t.toNat : Int) != 0) = true := by
  rw [bv_andNot, bv_ne_zero, bne_iff_ne]; exact fun e => h (le_iff.1 e)

/-! ReachLeast -/
set_option maxHeartbeats 4000000 in
theorem reachLeast_any {w : World} {v : Value} {r : List Bv} (s x : Bv) (h : WIn w v r) (ht : Tab w) :
    Calls Tryd.prog 5 #[v, .int .u64 (s.toNat : Int), .int .u64 (x.toNat : Int)] w fun e w' => e = .returned (.bool true) ∧ Below w.heap.size w w' := by
  have RT := Lib.hid (reaches_true w ht)
  have FR := Lib.hid (fun W (hW : Below w.heap.size w W) => from_any s (h.later hW) (ht.below hW ht.1))
  have BD : Hid (ckW r [s] ≠ 0 → frR r s = 0#64) := frR_bad
  have OK : Hid (ckW r [s] = 0 → RowsIn r ∧ frR r s = allR r s) := fun h => ⟨(ckW_one.1 h).1, frR_ok h⟩
  obtain ⟨a, c, rfl, hc0⟩ := h
  have HC : Hid (∀ W, Below w.heap.size w W → ∀ k, k < r.length → ∃ b off, a = some ⟨b, off, none⟩ ∧ W.cell? ⟨b, off + k, none⟩ = some (.int .u64 ((wAt r k).toNat : Int))) := fun W hW k hk => by
    obtain ⟨b, off, e, c⟩ := hc0 k hk
    exact ⟨b, off, e, cell_later hW c⟩
  have e0 : bits .or .u64 (x.toNat : Int) (s.toNat : Int) = ((x ||| s).toNat : Int) := bv_or x s
  have LS : Hid (Le s (x ||| s)) := le_or_right x s
  have END : Hid ((∀ i, i < r.length → (x ||| s).getLsbD i = true → Le (wAt r i) (x ||| s)) → Le (allR r s) (x ||| s)) := fun h => all_least LS.out (le_stepR_iff.2 h)
  clear hc0 ht
  generalize x ||| s = y at *
  generalize ckW r [s] = C at *
  generalize frR r s = X at *
  generalize allR r s = A at *
  generalize hL : r.length = L at *
  go_enter Tryd.func5, Tryd.ntmps5
  go_wp2_with fail
  refine RT.out.mono ?_
  rintro e w1 ⟨rfl, b1⟩
  have B1 := Lib.hid b1
  clear b1
  go_wp2_with fail
  refine (FR.out _ B1.out).mono ?_
  rintro e w2 ⟨rfl, b2⟩
  have B2 := Lib.hid (B1.out.trans (b2.mono B1.out.size))
  clear b2 FR RT
  by_cases hc : C = 0
  · subst hc
    obtain ⟨s1, s2⟩ := OK.out rfl
    have hl := s1.len
    rw [hL] at hl
    subst s2
    clear s1 OK BD hL
    go_wp2_with fail
    go_loopw [28] (fun i wr => ∃ k : Nat, k ≤ L ∧ i = .int .i64 (k : Int) ∧ (∀ j, j < k → y.getLsbD j = true → Le (wAt r j) y) ∧ wr = w2) (fun i _ => L - (intOf i).toNat)
    case atStart => exact ⟨0, Nat.zero_le _, rfl, fun j hj => absurd hj (Nat.not_lt_zero _), rfl⟩
    case round =>
      obtain ⟨k, hk, rfl, qa, rfl⟩ := hrel
      have QA := Lib.hid qa; clear qa
      by_cases hkl : k < L
      · obtain ⟨b, off, rfl, c0⟩ := HC.out _ B2.out k hkl
        have HA := Lib.hid (fun W => has_any y k W (by omega))
        have NX : Hid ((y.getLsbD k = true → Le (wAt r k) y) → ∀ j, j < k + 1 → y.getLsbD j = true → Le (wAt r j) y) := fun h j hj => by
          rcases Nat.lt_succ_iff_lt_or_eq.1 hj with h' | rfl
          · exact QA.out j h'
          · exact h
        generalize wAt r k = z at *
        cases hb : y.getLsbD k
        · have NX1 := Lib.hid (NX.out (fun h => by rw [hb] at h; cases h))
          rw [hb] at HA
          clear NX hb
          go_wp2_with fail
          refine (HA.out _).mono ?_
          rintro e w3 ⟨rfl, rfl⟩
          go_wp2
          go_roundw
          case rel => exact ⟨k + 1, by omega, by go_num, NX1.out, trivial⟩
          case measure => simp [intOf]; omega
        · rw [hb] at HA
          by_cases hz : Le z y
          · have NX1 := Lib.hid (NX.out fun _ => hz)
            have e1 := le_bne hz
            clear NX hb hz
            go_wp2_with fail
            refine (HA.out _).mono ?_
            rintro e w3 ⟨rfl, rfl⟩
            go_wp2
            go_roundw
            case rel => exact ⟨k + 1, by omega, by go_num, NX1.out, trivial⟩
            case measure => simp [intOf]; omega
          · have e1 := nle_bne hz
            clear NX hb hz
            go_wp2_with fail
            refine (HA.out _).mono ?_
            rintro e w3 ⟨rfl, rfl⟩
            go_wp2
            go_ret
            exact ⟨rfl, B2.out⟩
      · obtain rfl : k = L := by omega
        have e1 := le_beq (END.out QA.out)
        go_wp2
        go_ret
        exact ⟨rfl, B2.out⟩
  · have t1 := zero_ne hc
    have E := BD.out hc
    subst E
    have t2 := zero_beq
    clear hc OK BD
    go_wp2
    go_ret
    exact ⟨rfl, B2.out⟩

/-! ReachDepth -/
set_option maxHeartbeats 8000000 in
theorem reachDepth_any {w : World} {v : Value} {r : List Bv} (s : Bv) (i k : Int) (h : WIn w v r) (hi : i ≤ 9223372036854775807) (ht : Tab w) :
    Calls Tryd.prog 6 #[v, .int .u64 (s.toNat : Int), .int .i64 i, .int .i64 k] w fun e w' => e = .returned (.bool true) ∧ Below w.heap.size w w' := by
  have RT := Lib.hid (reaches_true w ht)
  have WI := Lib.hid (fun W (hW : Below w.heap.size w W) => within_any s i (h.later hW) hi (ht.below hW ht.1))
  have BD : Hid (wiC r s i ≠ 0 → wiR r s i = 0#64) := wiR_bad
  have CASE : Hid (wiC r s i = 0 → 0 ≤ i ∧ r.length ≤ 64) := fun h => ⟨(wiC_zero h).2, (ckW_one.1 (wiC_zero h).1).1.len⟩
  have OK : Hid (wiC r s i = 0 → 0 ≤ k → i ≤ 1000 → k ≤ 1000 → ∀ W, Below w.heap.size w W →
      (Calls Tryd.prog 10 #[v, .int .u64 ((wiR r s i).toNat : Int), .int .i64 k] W fun e w' => e = .returned (.tuple #[.int .u64 ((wiR r s (i + k)).toNat : Int), .int .i64 0]) ∧ Below W.heap.size W w') ∧
      (Calls Tryd.prog 10 #[v, .int .u64 (s.toNat : Int), .int .i64 (i + k)] W fun e w' => e = .returned (.tuple #[.int .u64 ((wiR r s (i + k)).toNat : Int), .int .i64 0]) ∧ Below W.heap.size W w') ∧
      (Calls Tryd.prog 10 #[v, .int .u64 (s.toNat : Int), .int .i64 (r.length : Int)] W fun e w' => e = .returned (.tuple #[.int .u64 ((frR r s).toNat : Int), .int .i64 0]) ∧ Below W.heap.size W w') ∧
      (Calls Tryd.prog 9 #[v, .int .u64 (s.toNat : Int)] W fun e w' => e = .returned (.tuple #[.int .u64 ((frR r s).toNat : Int), .int .i64 0]) ∧ Below W.heap.size W w')) := by
    intro h0 hk h1 h2 W hW
    obtain ⟨q1, q2⟩ := wiC_zero h0
    obtain ⟨hr, hs⟩ := ckW_one.1 q1
    have hlen := hr.len
    have e0 := wiR_ok h0
    have c1 : ckW r [wiR r s i] = 0 := ckW_one.2 ⟨hr, by rw [e0]; exact steps_in hr hs _⟩
    have d1 := wiC_ok c1 hk
    have d2 : wiC r s (i + k) = 0 := wiC_ok q1 (by omega)
    have d3 : wiC r s (r.length : Int) = 0 := wiC_ok q1 (by omega)
    have f1 : wiR r (wiR r s i) k = wiR r s (i + k) := by
      rw [wiR_ok d1, wiR_ok d2, e0, ← steps_add]
      congr 1; omega
    have f3 : wiR r s (r.length : Int) = frR r s := by rw [wiR_ok d3, frR_ok q1]; rfl
    have H := h.later hW
    have T := ht.below hW ht.1
    have g1 := within_any (wiR r s i) k H (by omega) T
    have g2 := within_any s (i + k) H (by omega) T
    have g3 := within_any s (r.length : Int) H (by omega) T
    have g4 := from_any s H T
    rw [d1, f1] at g1
    rw [d2] at g2
    rw [d3, f3] at g3
    rw [q1] at g4
    exact ⟨g1, g2, g3, g4⟩
  have LE : Hid (wiC r s i = 0 → 0 ≤ k → Le (wiR r s i) (wiR r s (i + k))) := fun h0 hk => by
    obtain ⟨q1, q2⟩ := wiC_zero h0
    rw [wiR_ok h0, wiR_ok (wiC_ok q1 (by omega : 0 ≤ i + k)), show (i + k).toNat = i.toNat + k.toNat by omega]
    exact steps_le r s _ _
  obtain ⟨a, c, rfl, _⟩ := h
  clear ht
  generalize wiC r s i = C at *
  generalize wiR r s i = X at *
  generalize wiR r s (i + k) = Y at *
  generalize frR r s = Z at *
  generalize r.length = L at *
  go_enter Tryd.func6, Tryd.ntmps6
  go_wp2_with fail
  refine RT.out.mono ?_
  rintro e w1 ⟨rfl, b1⟩
  have B1 := Lib.hid b1
  clear b1
  go_wp2_with fail
  refine (WI.out _ B1.out).mono ?_
  rintro e w2 ⟨rfl, b2⟩
  have B2 := Lib.hid (B1.out.trans (b2.mono B1.out.size))
  clear b2 WI RT
  by_cases hc : C = 0
  · subst hc
    obtain ⟨hi0, hl⟩ := CASE.out rfl
    by_cases hk0 : k < 0
    · clear OK BD LE
      go_wp2
      go_ret
      exact ⟨rfl, B2.out⟩
    by_cases hi1 : 1000 < i
    · clear OK BD LE
      go_wp2
      go_ret
      exact ⟨rfl, B2.out⟩
    by_cases hk1 : 1000 < k
    · clear OK BD LE
      go_wp2
      go_ret
      exact ⟨rfl, B2.out⟩
    have OK1 := Lib.hid (OK.out rfl (by omega) (by omega) (by omega))
    have e1 := le_beq (LE.out rfl (by omega))
    have ew : IntKind.i64.wrap (i + k) = i + k := by rw [IntKind.wrap_i64]; omega
    have t1 := same_beq (Y.toNat : Int)
    have t2 := same_beq (Z.toNat : Int)
    clear OK BD LE CASE
    go_wp2_with fail
    refine (OK1.out _ B2.out).1.mono ?_
    rintro e w3 ⟨rfl, b3⟩
    have B3 := Lib.hid (B2.out.trans (b3.mono B2.out.size))
    clear b3
    go_wp2_with fail
    refine (OK1.out _ B3.out).2.1.mono ?_
    rintro e w4 ⟨rfl, b4⟩
    have B4 := Lib.hid (B3.out.trans (b4.mono B3.out.size))
    clear b4
    go_wp2_with fail
    refine (OK1.out _ B4.out).2.2.1.mono ?_
    rintro e w5 ⟨rfl, b5⟩
    have B5 := Lib.hid (B4.out.trans (b5.mono B4.out.size))
    clear b5
    go_wp2_with fail
    refine (OK1.out _ B5.out).2.2.2.mono ?_
    rintro e w6 ⟨rfl, b6⟩
    have B6 := Lib.hid (B5.out.trans (b6.mono B5.out.size))
    clear b6 OK1
    have B7 : Hid (∀ o, Below w.heap.size w (w6.alloc o)) := fun o => B6.out.alloc B6.out.size o
    have GZ : Hid (∀ T, Calls Tryd.prog 20 #[.slice (some ⟨w6.heap.size, 0, none⟩) 4 4] (w6.alloc (.cells #[.int .i64 0, .int .i64 0, .int .i64 0, .int .i64 0] T)) fun e w' => e = .returned (.bool true) ∧ w' = w6.alloc (.cells #[.int .i64 0, .int .i64 0, .int .i64 0, .int .i64 0] T)) := fun T =>
      goodZ_any 4 w6 _ w6.heap.size (by omega) fun j hj => by
        have B := blk_new w6 #[.int .i64 0, .int .i64 0, .int .i64 0, .int .i64 0] T
        match j, hj with
        | 0, _ => exact B.cell rfl
        | 1, _ => exact B.cell rfl
        | 2, _ => exact B.cell rfl
        | 3, _ => exact B.cell rfl
        | j + 4, hj => exact absurd hj (by simp)
    go_wp2_with fail
    refine (GZ.out _).mono ?_
    rintro e w7 ⟨rfl, rfl⟩
    go_wp2
    go_ret
    exact ⟨rfl, B7.out _⟩
  · have t1 := zero_ne hc
    have t3 : (C == 0) = false := beq_eq_false_iff_ne.2 hc
    have E := BD.out hc
    subst E
    have t2 := zero_beq
    clear hc OK BD LE CASE
    go_wp2
    go_ret
    exact ⟨rfl, B2.out⟩
end Go.Proofs.YtcgabgmhmeppeaaDoor
