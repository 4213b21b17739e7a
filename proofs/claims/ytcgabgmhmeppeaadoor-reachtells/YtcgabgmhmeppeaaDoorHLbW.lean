/-
  The laws ReachBack, ReachBetween, ReachClosed, whatever their arguments. Condition: the table of math/bits lies in memory as its text lays it (the card ties this).
-/
import Derived.Test.YtcgabgmhmeppeaaDoorHLaW
namespace Go.Proofs.YtcgabgmhmeppeaaDoor
set_option maxRecDepth 100000
set_option linter.unusedVariables false
open Go.ChangeShapes Go.WideShapes Go.ChangeAt Go.RowKit

/-! ReachBack -/
theorem back_rows {w : World} {v : Value} {r : List Bv} (h : WIn w v r) (hr : RowsIn r) (ht : Tab w) :
    Calls Tryd.prog 11 #[v] w fun e w' => ∃ b, e = .returned (.tuple #[.slice (some ⟨b, 0, none⟩) r.length r.length, .int .i64 0]) ∧ WIn w' (.slice (some ⟨b, 0, none⟩) r.length r.length) (turnR r) ∧ Below w.heap.size w w' := by
  refine (back_any h ht).mono ?_
  rintro e w' ⟨b, ⟨h1, _⟩ | ⟨_, q, rfl, o⟩⟩
  · exact absurd (ckR_rows hr) h1
  · exact ⟨q, rfl, o.win, b⟩
theorem back_twice {w : World} {v : Value} {r : List Bv} (h : WIn w v (turnR r)) (hr : RowsIn r) (ht : Tab w) :
    Calls Tryd.prog 11 #[v] w fun e w' => ∃ b, e = .returned (.tuple #[.slice (some ⟨b, 0, none⟩) r.length r.length, .int .i64 0]) ∧ WIn w' (.slice (some ⟨b, 0, none⟩) r.length r.length) r ∧ Below w.heap.size w w' := by
  have := back_rows h (turnR_in hr) ht
  rwa [turn_turnR hr, turnR_length] at this
theorem from_one {w : World} {v : Value} {r : List Bv} {i : Nat} (h : WIn w v r) (hr : RowsIn r) (hi : i < r.length) (ht : Tab w) :
    Calls Tryd.prog 9 #[v, .int .u64 ((one i).toNat : Int)] w fun e w' => e = .returned (.tuple #[.int .u64 ((allR r (one i)).toNat : Int), .int .i64 0]) ∧ Below w.heap.size w w' := by
  have c : ckW r [one i] = 0 := ckW_one.2 ⟨hr, setIn_one hi hr.len⟩
  have := from_any (one i) h ht
  rwa [c, frR_ok c] at this
theorem walk_both {r : List Bv} (hr : RowsIn r) {i k : Nat} (hi : i < r.length) (hk : k < r.length) : (allR r (one i)).getLsbD k = (allR (turnR r) (one k)).getLsbD i := by
  rw [Bool.eq_iff_iff, all_one hr hi, all_one (turnR_in hr) (by rw [turnR_length]; exact hk)]
  exact (walk_turn hr).symm
set_option maxHeartbeats 8000000 in
theorem reachBack_any {w : World} {v : Value} {r : List Bv} (x y : Int) (h : WIn w v r) (ht : Tab w) :
    Calls Tryd.prog 7 #[v, .int .i64 x, .int .i64 y] w fun e w' => e = .returned (.bool true) ∧ Below w.heap.size w w' := by
  have RT := Lib.hid (reaches_true w ht)
  have H := Lib.hid (fun W (hW : Below w.heap.size w W) => h.later hW)
  have TB := Lib.hid (fun W (hW : Below w.heap.size w W) => ht.below hW ht.1)
  have BA := Lib.hid (fun W (hW : Below w.heap.size w W) => back_any (h.later hW) (ht.below hW ht.1))
  have CZ : Hid (ckR r = 0 → RowsIn r ∧ r.length ≤ 64) := fun h => ⟨ckR_zero h, (ckR_zero h).len⟩
  obtain ⟨a, c, rfl, hc0⟩ := h
  clear ht hc0
  go_enter Tryd.func7, Tryd.ntmps7
  go_wp2_with fail
  refine RT.out.mono ?_
  rintro e w1 ⟨rfl, b1⟩
  have B1 := Lib.hid b1
  clear b1
  go_wp2_with fail
  refine (BA.out _ B1.out).mono ?_
  rintro e w2 ⟨b2, ⟨hc, rfl⟩ | ⟨hc, q, rfl, o2⟩⟩
  · have B2 := Lib.hid (B1.out.trans (b2.mono B1.out.size))
    have t1 := zero_ne hc
    have t2 : (ckR r == 0) = false := beq_eq_false_iff_ne.2 hc
    clear b2 hc BA RT H TB CZ
    generalize ckR r = C at *
    generalize r.length = L at *
    go_wp2
    go_ret
    exact ⟨rfl, B2.out⟩
  · have B2 := Lib.hid (B1.out.trans (b2.mono B1.out.size))
    obtain ⟨hr, hl⟩ := CZ.out hc
    have HR := Lib.hid hr
    have U2 := Lib.hid o2.win
    clear b2 hc BA RT CZ hr o2
    have EQ := Lib.hid (fun W V (hW : Below w.heap.size w W) (hV : WIn W V r) => equalW_same hV (H.out W hW) hl)
    have F1 := Lib.hid (fun W p (hW : Below w.heap.size w W) hp => from_one (i := p) (H.out W hW) HR.out hp (TB.out W hW))
    have F2 := Lib.hid (fun W p V (hW : Below w.heap.size w W) (hV : WIn W V (turnR r)) hp => from_one (i := p) hV (turnR_in HR.out) (by rw [turnR_length]; exact hp) (TB.out W hW))
    have B3F := Lib.hid (fun W V (hW : Below w.heap.size w W) (hV : WIn W V (turnR r)) => back_twice hV HR.out (TB.out W hW))
    have WB := Lib.hid (fun p k hp hk => walk_both HR.out (i := p) (k := k) hp hk)
    clear H TB HR
    generalize r.length = L at *
    by_cases hx0 : x < 0
    · go_wp2
      go_ret
      exact ⟨rfl, B2.out⟩
    by_cases hx1 : (L : Int) ≤ x
    · go_wp2
      go_ret
      exact ⟨rfl, B2.out⟩
    by_cases hy0 : y < 0
    · go_wp2
      go_ret
      exact ⟨rfl, B2.out⟩
    by_cases hy1 : (L : Int) ≤ y
    · go_wp2
      go_ret
      exact ⟨rfl, B2.out⟩
    obtain ⟨p, rfl⟩ : ∃ p : Nat, x = (p : Int) := ⟨x.toNat, by omega⟩
    obtain ⟨k, rfl⟩ : ∃ k : Nat, y = (k : Int) := ⟨y.toNat, by omega⟩
    have e1 := one_walk p (by omega)
    have e2 := one_walk k (by omega)
    have hp64 : (p : Int) < 64 := by omega
    have hk64 : (k : Int) < 64 := by omega
    have F1p := Lib.hid (fun W hW => F1.out W p hW (by omega))
    have F2k := Lib.hid (fun W V hW hV => F2.out W k V hW hV (by omega))
    have WBp := Lib.hid (WB.out p k (by omega) (by omega))
    have HA1 := Lib.hid (fun W => has_any (allR r (one p)) k W (by omega))
    have HA2 := Lib.hid (fun W => has_any (allR (turnR r) (one k)) p W (by omega))
    rw [WBp.out] at HA1
    clear F1 F2 WB WBp
    generalize (allR (turnR r) (one k)).getLsbD p = bt at *
    generalize allR r (one p) = A1 at *
    generalize allR (turnR r) (one k) = A2 at *
    have tb : (bt == bt) = true := by simp
    go_wp2_with fail
    refine (B3F.out _ _ B2.out U2.out).mono ?_
    rintro e w3 ⟨q3, rfl, u3, b3⟩
    have B3 := Lib.hid (B2.out.trans (b3.mono B2.out.size))
    have U23 := Lib.hid (U2.out.later b3)
    have U3 := Lib.hid u3
    clear b3 u3
    go_wp2_with fail
    refine (F1p.out _ B3.out).mono ?_
    rintro e w4 ⟨rfl, b4⟩
    have B4 := Lib.hid (B3.out.trans (b4.mono B3.out.size))
    have U24 := Lib.hid (U23.out.later b4)
    have U34 := Lib.hid (U3.out.later b4)
    clear b4
    go_wp2_with fail
    refine (F2k.out _ _ B4.out U24.out).mono ?_
    rintro e w5 ⟨rfl, b5⟩
    have B5 := Lib.hid (B4.out.trans (b5.mono B4.out.size))
    have U35 := Lib.hid (U34.out.later b5)
    clear b5 F1p F2k B3F
    have B6 : Hid (∀ o, Below w.heap.size w (w5.alloc o)) := fun o => B5.out.alloc B5.out.size o
    have U36 : Hid (∀ o, WIn (w5.alloc o) (.slice (some ⟨q3, 0, none⟩) L L) r) := fun o => U35.out.later (below_al w5 o)
    have GZ : Hid (∀ T, Calls Tryd.prog 20 #[.slice (some ⟨w5.heap.size, 0, none⟩) 3 3] (w5.alloc (.cells #[.int .i64 0, .int .i64 0, .int .i64 0] T)) fun e w' => e = .returned (.bool true) ∧ w' = w5.alloc (.cells #[.int .i64 0, .int .i64 0, .int .i64 0] T)) := fun T =>
      goodZ_any 3 w5 _ w5.heap.size (by omega) fun j hj => by
        have B := blk_new w5 #[.int .i64 0, .int .i64 0, .int .i64 0] T
        match j, hj with
        | 0, _ => exact B.cell rfl
        | 1, _ => exact B.cell rfl
        | 2, _ => exact B.cell rfl
        | j + 3, hj => exact absurd hj (by simp)
    go_wp2_with fail
    refine (GZ.out _).mono ?_
    rintro e w6 ⟨rfl, rfl⟩
    go_wp2_with fail
    refine (EQ.out _ _ (B6.out _) (U36.out _)).mono ?_
    rintro e w7 ⟨rfl, z, rfl⟩
    go_wp2_with fail
    refine (HA1.out _).mono ?_
    rintro e w8 ⟨rfl, rfl⟩
    go_wp2_with fail
    refine (HA2.out _).mono ?_
    rintro e w9 ⟨rfl, rfl⟩
    go_wp2
    go_ret
    exact ⟨rfl, below_drewN (B6.out _) z⟩

/-! ReachClosed -/
set_option maxHeartbeats 8000000 in
theorem reachClosed_any {w : World} {v : Value} {r : List Bv} (s t : Bv) (h : WIn w v r) (ht : Tab w) :
    Calls Tryd.prog 4 #[v, .int .u64 (s.toNat : Int), .int .u64 (t.toNat : Int)] w fun e w' => e = .returned (.bool true) ∧ Below w.heap.size w w' := by
  have RT := Lib.hid (reaches_true w ht)
  have FS := Lib.hid (fun W (hW : Below w.heap.size w W) => from_any s (h.later hW) (ht.below hW ht.1))
  have FT := Lib.hid (fun W (hW : Below w.heap.size w W) => from_any t (h.later hW) (ht.below hW ht.1))
  have LI := Lib.hid (fun S W (hW : Below w.heap.size w W) => (list_any S W (ht.below hW ht.1)).mono (fun _ _ => list_blk))
  have BS : Hid (ckW r [s] ≠ 0 → frR r s = 0#64) := frR_bad
  have BT : Hid (ckW r [t] ≠ 0 → frR r t = 0#64) := frR_bad
  have H := Lib.hid (fun W (hW : Below w.heap.size w W) => h.later hW)
  have TB := Lib.hid (fun W (hW : Below w.heap.size w W) => ht.below hW ht.1)
  have OK : Hid (ckW r [s] = 0 → ckW r [t] = 0 → r.length ≤ 64 ∧ (∀ j, j < cnt (frR r s) → ∃ n, n < r.length ∧ (nums (frR r s))[j]? = some n ∧ Le (wAt r n) (frR r s)) ∧ Le s (frR r s) ∧
      (∀ W, Below w.heap.size w W → Calls Tryd.prog 9 #[v, .int .u64 ((frR r s).toNat : Int)] W fun e w' => e = .returned (.tuple #[.int .u64 ((frR r s).toNat : Int), .int .i64 0]) ∧ Below W.heap.size W w') ∧
      (∀ W, Below w.heap.size w W → Calls Tryd.prog 9 #[v, .int .u64 ((s ||| t).toNat : Int)] W fun e w' => e = .returned (.tuple #[.int .u64 ((frR r s ||| frR r t).toNat : Int), .int .i64 0]) ∧ Below W.heap.size W w')) := fun h1 h2 => by
    obtain ⟨hr, hs⟩ := ckW_one.1 h1
    obtain ⟨_, ht⟩ := ckW_one.1 h2
    have es := frR_ok h1
    have et := frR_ok h2
    have ai := all_in hr hs
    refine ⟨hr.len, fun j hj => ?_, ?_, fun W hW => ?_, fun W hW => ?_⟩
    · obtain ⟨n, _, n2, _, n4⟩ := nums_get (frR r s) j hj
      rw [es] at n2
      have hn : n < r.length := by
        rcases Nat.lt_or_ge n r.length with h' | h'
        · exact h'
        · rw [ai n h'] at n2; cases n2
      refine ⟨n, hn, n4, ?_⟩
      rw [es]
      exact le_stepR_iff.1 (by rw [all_fix hr hs]; exact Le.refl _) n hn n2
    · rw [es]; exact le_all r s
    · have c1 : ckW r [allR r s] = 0 := ckW_one.2 ⟨hr, ai⟩
      have := from_any (allR r s) (H.out W hW) (TB.out W hW)
      rw [c1, frR_ok c1, all_all hr hs] at this
      rw [es]; exact this
    · have c1 : ckW r [s ||| t] = 0 := ckW_one.2 ⟨hr, setIn_mk hs ht⟩
      have := from_any (s ||| t) (H.out W hW) (TB.out W hW)
      rw [c1, frR_ok c1, all_or] at this
      rw [es, et]; exact this
  obtain ⟨a, c, rfl, hc0⟩ := h
  have HC : Hid (∀ W, Below w.heap.size w W → ∀ k, k < r.length → ∃ b off, a = some ⟨b, off, none⟩ ∧ W.cell? ⟨b, off + k, none⟩ = some (.int .u64 ((wAt r k).toNat : Int))) := fun W hW k hk => by
    obtain ⟨b, off, e, c⟩ := hc0 k hk
    exact ⟨b, off, e, cell_later hW c⟩
  have e0 : bits .or .u64 (s.toNat : Int) (t.toNat : Int) = ((s ||| t).toNat : Int) := bv_or s t
  have e3 : bits .or .u64 ((frR r s).toNat : Int) ((frR r t).toNat : Int) = ((frR r s ||| frR r t).toNat : Int) := bv_or _ _
  clear ht hc0 H TB
  have LI1 := Lib.hid (LI.out (frR r s))
  have hcn := cnt_le (frR r s)
  clear LI
  generalize ckW r [s] = C at *
  generalize ckW r [t] = D at *
  generalize frR r s ||| frR r t = XY at *
  generalize frR r s = X at *
  generalize frR r t = Y at *
  generalize s ||| t = st at *
  generalize r.length = L at *
  go_enter Tryd.func4, Tryd.ntmps4
  go_wp2_with fail
  refine RT.out.mono ?_
  rintro e w1 ⟨rfl, b1⟩
  have B1 := Lib.hid b1
  clear b1
  go_wp2_with fail
  refine (FS.out _ B1.out).mono ?_
  rintro e w2 ⟨rfl, b2⟩
  have B2 := Lib.hid (B1.out.trans (b2.mono B1.out.size))
  clear b2
  go_wp2_with fail
  refine (FT.out _ B2.out).mono ?_
  rintro e w3 ⟨rfl, b3⟩
  have B3 := Lib.hid (B2.out.trans (b3.mono B2.out.size))
  clear b3 FS FT RT
  have B4 : Hid (∀ o, Below w.heap.size w (w3.alloc o)) := fun o => B3.out.alloc B3.out.size o
  go_wp2_with fail
  refine (good2_any C D w3 _).mono ?_
  rintro e w4 ⟨⟨hb, rfl⟩ | ⟨⟨hc, hd⟩, rfl⟩, rfl⟩
  · have t0 := zero_beq
    by_cases hc : C = 0
    · subst hc
      have hd : D ≠ 0 := by rcases hb with h | h; exact absurd rfl h; exact h
      have E := BT.out hd
      subst E
      have t2 : (D == 0) = false := beq_eq_false_iff_ne.2 hd
      clear hb hd OK BS BT
      go_wp2
      go_ret
      exact ⟨rfl, B4.out _⟩
    · have E := BS.out hc
      subst E
      have t2 : (C == 0) = false := beq_eq_false_iff_ne.2 hc
      by_cases hd : D = 0
      · subst hd
        clear hb hc OK BS BT
        go_wp2
        go_ret
        exact ⟨rfl, B4.out _⟩
      · have E := BT.out hd
        subst E
        have t3 : (D == 0) = false := beq_eq_false_iff_ne.2 hd
        clear hb hd hc OK BS BT
        go_wp2
        go_ret
        exact ⟨rfl, B4.out _⟩
  · subst hc hd
    obtain ⟨hl, ng, ls, f1, f2⟩ := OK.out rfl rfl
    have NG := Lib.hid ng; have F1 := Lib.hid f1; have F2 := Lib.hid f2
    have eS := le_beq ls
    clear ng ls f1 f2 OK BS BT
    have tX := same_beq (X.toNat : Int)
    have tY := same_beq (XY.toNat : Int)
    go_wp2_with fail
    refine (F1.out _ (B4.out _)).mono ?_
    rintro e w5 ⟨rfl, b5⟩
    have B5 := Lib.hid ((B4.out _).trans (b5.mono (B4.out _).size))
    clear b5
    go_wp2_with fail
    refine (F2.out _ B5.out).mono ?_
    rintro e w6 ⟨rfl, b6⟩
    have B6 := Lib.hid (B5.out.trans (b6.mono B5.out.size))
    clear b6 F1 F2
    go_wp2_with fail
    refine (LI1.out _ B6.out).mono ?_
    rintro e w7 ⟨rfl, b7, cur, k7, hcur⟩
    have B7 := Lib.hid (B6.out.trans (b7.mono B6.out.size))
    have K7 := Lib.hid k7
    have HR := Lib.hid hcur
    clear b7 k7 hcur LI1
    generalize w6.heap.size = q at *
    generalize hM : cnt X = M at *
    clear hM
    go_wp2_with fail
    go_loopw [67] (fun i wr => ∃ k : Nat, k ≤ M ∧ i = .int .i64 (k : Int) ∧ wr = w7) (fun i _ => M - (intOf i).toNat)
    case atStart => exact ⟨0, Nat.zero_le _, rfl, rfl⟩
    case round =>
      obtain ⟨k, hk, rfl, rfl⟩ := hrel
      by_cases hkl : k < M
      · obtain ⟨n, n1, n4, n5⟩ := NG.out k hkl
        have cj := K7.out.cell (HR.out k n n4)
        obtain ⟨b, off, rfl, c0⟩ := HC.out _ B7.out n n1
        have e1 := le_bne n5
        have i2 : (n : Int) < (L : Int) := by omega
        clear n4 n5
        generalize wAt r n = z at *
        go_wp2
        go_roundw
        case rel => exact ⟨k + 1, by omega, by go_num, trivial⟩
        case measure => simp [intOf]; omega
      · obtain rfl : k = M := by omega
        have B8 : Hid (∀ o, Below w.heap.size w (wr.alloc o)) := fun o => B7.out.alloc B7.out.size o
        go_wp2_with fail
        refine (good2_any 0 0 wr _).mono ?_
        rintro e w9 ⟨⟨hb, _⟩ | ⟨_, rfl⟩, rfl⟩
        · exact absurd rfl (hb.elim id id)
        go_wp2
        go_ret
        exact ⟨rfl, B8.out _⟩

/-! ReachBetween -/
set_option maxHeartbeats 8000000 in
theorem reachBetween_any {w : World} {v : Value} {r : List Bv} (s t : Bv) (h : WIn w v r) (ht : Tab w) :
    Calls Tryd.prog 8 #[v, .int .u64 (s.toNat : Int), .int .u64 (t.toNat : Int)] w fun e w' => e = .returned (.bool true) ∧ Below w.heap.size w w' := by
  have RT := Lib.hid (reaches_true w ht)
  have BE := Lib.hid (fun W (hW : Below w.heap.size w W) => between_any s t (h.later hW) (ht.below hW ht.1))
  have LI := Lib.hid (fun S W (hW : Below w.heap.size w W) => (list_any S W (ht.below hW ht.1)).mono (fun _ _ => list_blk))
  have BD : Hid (ckW r [s, t] ≠ 0 → beR r s t = 0#64) := beR_bad
  have H := Lib.hid (fun W (hW : Below w.heap.size w W) => h.later hW)
  have TB := Lib.hid (fun W (hW : Below w.heap.size w W) => ht.below hW ht.1)
  have OK : Hid (ckW r [s, t] = 0 → r.length ≤ 64 ∧
      (∀ j, j < cnt (beR r s t) → ∃ n, n < 64 ∧ (nums (beR r s t))[j]? = some n ∧ (allR r s).getLsbD n = true ∧ allR r (one n) &&& t ≠ 0#64 ∧
        ∀ W, Below w.heap.size w W → Calls Tryd.prog 9 #[v, .int .u64 ((one n).toNat : Int)] W fun e w' => e = .returned (.tuple #[.int .u64 ((allR r (one n)).toNat : Int), .int .i64 0]) ∧ Below W.heap.size W w') ∧
      (beR r s t ≠ 0#64 ↔ allR r s &&& t ≠ 0#64) ∧ Le (allR r s &&& t) (beR r s t) ∧
      (∀ W, Below w.heap.size w W → Calls Tryd.prog 9 #[v, .int .u64 (s.toNat : Int)] W fun e w' => e = .returned (.tuple #[.int .u64 ((allR r s).toNat : Int), .int .i64 0]) ∧ Below W.heap.size W w')) := fun h1 => by
    obtain ⟨hr, hs, ht⟩ := ckW_two.1 h1
    have eb := beR_ok h1
    refine ⟨hr.len, fun j hj => ?_, ?_, ?_, fun W hW => ?_⟩
    · obtain ⟨n, n1, n2, _, n4⟩ := nums_get (beR r s t) j hj
      rw [eb] at n2
      have hf := betw_from n2
      have hn : n < r.length := by
        rcases Nat.lt_or_ge n r.length with h' | h'
        · exact h'
        · rw [all_in hr hs n h'] at hf; cases hf
      exact ⟨n, n1, n4, hf, betw_to hr hs ht n2, fun W hW => from_one (H.out W hW) hr hn (TB.out W hW)⟩
    · rw [eb]; exact betw_some hr hs ht
    · rw [eb]; exact betw_ends hr hs ht
    · have c1 : ckW r [s] = 0 := ckW_one.2 ⟨hr, hs⟩
      have := from_any s (H.out W hW) (TB.out W hW)
      rwa [c1, frR_ok c1] at this
  obtain ⟨a, c, rfl, _⟩ := h
  have LI1 := Lib.hid (LI.out (beR r s t))
  have hcn := cnt_le (beR r s t)
  clear ht H TB LI
  generalize ckW r [s, t] = C at *
  generalize beR r s t = X at *
  generalize allR r s = A at *
  generalize r.length = L at *
  go_enter Tryd.func8, Tryd.ntmps8
  go_wp2_with fail
  refine RT.out.mono ?_
  rintro e w1 ⟨rfl, b1⟩
  have B1 := Lib.hid b1
  clear b1
  go_wp2_with fail
  refine (BE.out _ B1.out).mono ?_
  rintro e w2 ⟨rfl, b2⟩
  have B2 := Lib.hid (B1.out.trans (b2.mono B1.out.size))
  clear b2 BE RT
  by_cases hc : C = 0
  · subst hc
    obtain ⟨hl, ng, hx, le, f1⟩ := OK.out rfl
    have NG := Lib.hid ng; have F1 := Lib.hid f1
    have e2 : bits .and .u64 (A.toNat : Int) (t.toNat : Int) = ((A &&& t).toNat : Int) := bv_and A t
    have e3 := le_beq le
    have e4 : (((X.toNat : Int) != 0) == (((A &&& t).toNat : Int) != 0)) = true := by
      rw [bv_ne_zero, bv_ne_zero, beq_iff_eq, Bool.eq_iff_iff, bne_iff_ne, bne_iff_ne]; exact hx
    have HA := Lib.hid (fun n W hn => has_any A n W hn)
    clear ng hx le f1 OK BD
    generalize A &&& t = At at *
    go_wp2_with fail
    refine (F1.out _ B2.out).mono ?_
    rintro e w3 ⟨rfl, b3⟩
    have B3 := Lib.hid (B2.out.trans (b3.mono B2.out.size))
    clear b3 F1
    go_wp2_with fail
    refine (LI1.out _ B3.out).mono ?_
    rintro e w4 ⟨rfl, b4, cur, k4, hcur⟩
    have B4 := Lib.hid (B3.out.trans (b4.mono B3.out.size))
    have K4 := Lib.hid k4
    have HR := Lib.hid hcur
    clear b4 k4 hcur LI1
    generalize w3.heap.size = q at *
    generalize hM : cnt X = M at *
    clear hM
    go_wp2_with fail
    go_loopw [37] (fun i wr => ∃ k : Nat, k ≤ M ∧ i = .int .i64 (k : Int) ∧ Blk q cur 3 wr ∧ Below w.heap.size w wr) (fun i _ => M - (intOf i).toNat)
    case atStart => exact ⟨0, Nat.zero_le _, rfl, K4.out, B4.out⟩
    case round =>
      obtain ⟨k, hk, rfl, qk, qb⟩ := hrel
      have QK := Lib.hid qk; have QB := Lib.hid qb; clear qk qb
      by_cases hkl : k < M
      · obtain ⟨n, n1, n4, n5, n6, n7⟩ := NG.out k hkl
        have cj := QK.out.cell (HR.out k n n4)
        have FN := Lib.hid n7
        have HA1 := Lib.hid (fun W => HA.out n W n1)
        rw [n5] at HA1
        have e5 := one_walk n n1
        have e6 : bits .and .u64 ((allR r (one n)).toNat : Int) (t.toNat : Int) = ((allR r (one n) &&& t).toNat : Int) := bv_and _ t
        have e7 : (((allR r (one n) &&& t).toNat : Int) == 0) = false := by
          rw [beq_eq_false_iff_ne]
          exact fun h => n6 ((bv_zero_iff _).1 (by rw [h]; rfl))
        have hn64 : (n : Int) < 64 := by omega
        clear n4 n5 n6 n7
        generalize allR r (one n) &&& t = z2 at *
        generalize allR r (one n) = z at *
        go_wp2_with fail
        refine (FN.out _ QB.out).mono ?_
        rintro e w5 ⟨rfl, b5⟩
        have B5 := Lib.hid (QB.out.trans (b5.mono QB.out.size))
        have K5 := Lib.hid (QK.out.later b5)
        clear b5 cj
        go_wp2_with fail
        refine (HA1.out _).mono ?_
        rintro e w6 ⟨rfl, rfl⟩
        go_wp2
        go_roundw
        case rel => exact ⟨k + 1, by omega, by go_num, K5.out, B5.out⟩
        case measure => simp [intOf]; omega
      · obtain rfl : k = M := by omega
        go_wp2
        go_ret
        exact ⟨rfl, QB.out⟩
  · have t1 := zero_ne hc
    have E := BD.out hc
    subst E
    have t2 := zero_beq
    clear hc OK BD
    go_wp2
    go_ret
    exact ⟨rfl, B2.out⟩
end Go.Proofs.YtcgabgmhmeppeaaDoor
