/-
  The law ReachTells, whatever its arguments. Condition: the table of math/bits lies in memory as its text lays it (the card ties this).
-/
import Derived.Test.YtcgabgmhmeppeaaDoorHRf
import Derived.Test.YtcgabgmhmeppeaaDoorHLbW
namespace Go.Proofs.YtcgabgmhmeppeaaDoor
set_option maxRecDepth 100000
set_option linter.unusedVariables false
open Go.ChangeShapes Go.WideShapes Go.ChangeAt Go.RowKit

theorem win_nil (w : World) : WIn w (.slice none 0 0) [] := ⟨none, 0, rfl, fun k hk => absurd hk (Nat.not_lt_zero _)⟩
theorem close_rows {w : World} {v : Value} {r : List Bv} (h : WIn w v r) (hr : RowsIn r) (ht : Tab w) :
    Calls Tryd.prog 12 #[v] w fun e w' => ∃ b, e = .returned (.tuple #[.slice (some ⟨b, 0, none⟩) r.length r.length, .int .i64 0]) ∧ WIn w' (.slice (some ⟨b, 0, none⟩) r.length r.length) (closeR r) ∧ Below w.heap.size w w' := by
  refine (close_any h ht).mono ?_
  rintro e w' ⟨b, ⟨h1, _⟩ | ⟨_, q, rfl, o⟩⟩
  · exact absurd (ckR_rows hr) h1
  · exact ⟨q, rfl, o.win, b⟩
theorem turned_rows {w : World} {v : Value} {r : List Bv} (h : WIn w v r) (hr : RowsIn r) :
    Calls Tryd.prog 16 #[v] w fun e w' => ∃ b, e = .returned (.slice (some ⟨b, 0, none⟩) r.length r.length) ∧ WIn w' (.slice (some ⟨b, 0, none⟩) r.length r.length) (turnR r) ∧ Below w.heap.size w w' := by
  refine (turned_any h hr.len).mono ?_
  rintro e w' ⟨b, O, rfl, ht, o, hb⟩
  have := tn_turn hr ht
  subst this
  exact ⟨b, rfl, o.win, hb⟩
theorem win_cell {w : World} {q n : Nat} {r : List Bv} (h : WIn w (.slice (some ⟨q, 0, none⟩) n n) r) {k : Nat} (hk : k < r.length) : w.cell? ⟨q, k, none⟩ = some (.int .u64 ((wAt r k).toNat : Int)) := by
  obtain ⟨a, c, e, h2⟩ := h
  injection e with e1 e2 e3
  subst e1
  obtain ⟨b, off, e, c1⟩ := h2 k hk
  injection e with e
  injection e with e1 e2
  subst e1 e2
  rwa [Nat.zero_add] at c1
/-- a world from which others were only drawn -/
def Dr (a b : World) : Prop := ∃ m, b = a.drewN m
theorem Dr.refl (a : World) : Dr a a := ⟨0, rfl⟩
theorem Dr.on {a b : World} (h : Dr a b) (n : Nat) : Dr a (b.drewN n) := by
  obtain ⟨m, rfl⟩ := h
  exact ⟨m + n, by rw [World.drewN_drewN]⟩
theorem Dr.below {a b : World} {B : Nat} {w : World} (h : Dr a b) (k : Below B w a) : Below B w b := by
  obtain ⟨m, rfl⟩ := h
  exact below_drewN k m
theorem stR_all {r : List Bv} {s : Bv} : stR r s (-1) = allR r s := rfl

/-- the law at rows with a fault -/
theorem reachTells_bad {w : World} {v : Value} {r : List Bv} (s t : Bv) (d : Int) (h : WIn w v r) (hd : d ≤ 9223372036854775807) (ht : Tab w) (hc : ckR r ≠ 0) :
    Calls Tryd.prog 3 #[v, .int .u64 (s.toNat : Int), .int .u64 (t.toNat : Int), .int .i64 d] w fun e w' => e = .returned (.bool true) ∧ Below w.heap.size w w' := by
  have c1 : ckW r [s] ≠ 0 := by rw [ckW_bad hc]; exact hc
  have c2 : ckW r [s, t] ≠ 0 := by rw [ckW_bad hc]; exact hc
  have FR : Hid (∀ W, Below w.heap.size w W → Calls Tryd.prog 9 #[v, .int .u64 (s.toNat : Int)] W fun e w' => e = .returned (.tuple #[.int .u64 0, .int .i64 (ckR r)]) ∧ Below W.heap.size W w') := fun W hW => by
    have := from_any s (h.later hW) (ht.below hW ht.1)
    rwa [frR_bad c1, ckW_bad hc] at this
  have WI : Hid (∀ W, Below w.heap.size w W → Calls Tryd.prog 10 #[v, .int .u64 (s.toNat : Int), .int .i64 d] W fun e w' => e = .returned (.tuple #[.int .u64 0, .int .i64 (ckR r)]) ∧ Below W.heap.size W w') := fun W hW => by
    have := within_any s d (h.later hW) hd (ht.below hW ht.1)
    rwa [wiR_bad (by rw [wiC_bad c1]; exact c1), wiC_bad c1, ckW_bad hc] at this
  have BE : Hid (∀ W, Below w.heap.size w W → Calls Tryd.prog 13 #[v, .int .u64 (s.toNat : Int), .int .u64 (t.toNat : Int)] W fun e w' => e = .returned (.tuple #[.int .u64 0, .int .i64 (ckR r)]) ∧ Below W.heap.size W w') := fun W hW => by
    have := between_any s t (h.later hW) (ht.below hW ht.1)
    rwa [beR_bad c2, ckW_bad hc] at this
  have BA : Hid (∀ W, Below w.heap.size w W → Calls Tryd.prog 11 #[v] W fun e w' => e = .returned (.tuple #[.slice none 0 0, .int .i64 (ckR r)]) ∧ Below W.heap.size W w') := fun W hW =>
    (back_any (h.later hW) (ht.below hW ht.1)).mono fun e w' ⟨b, hh⟩ => by
      rcases hh with ⟨_, h2⟩ | ⟨h2, _⟩
      · exact ⟨h2, b⟩
      · exact absurd h2 hc
  have CL : Hid (∀ W, Below w.heap.size w W → Calls Tryd.prog 12 #[v] W fun e w' => e = .returned (.tuple #[.slice none 0 0, .int .i64 (ckR r)]) ∧ Below W.heap.size W w') := fun W hW =>
    (close_any (h.later hW) (ht.below hW ht.1)).mono fun e w' ⟨b, hh⟩ => by
      rcases hh with ⟨_, h2⟩ | ⟨h2, _⟩
      · exact ⟨h2, b⟩
      · exact absurd h2 hc
  have RF : Hid (∀ W, Below w.heap.size w W → Calls Tryd.prog 14 #[v, .slice none 0 0] W fun e w' => e = .returned (.int .i64 (ckR r)) ∧ Below W.heap.size W w') := fun W hW => by
    have := rowsFaultZ_any (h.later hW) (win_nil W) (by simp)
    rwa [ckW_bad hc] at this
  have CK : Hid (∀ W, Below w.heap.size w W → Calls Tryd.prog 15 #[v] W fun e w' => e = .returned (.int .i64 (ckR r)) ∧ w' = W) := fun W hW => check_any (h.later hW)
  have t1 := zero_ne hc
  have t2 := same_beq (ckR r)
  have t3 : (ckR r != ckR r) = false := by simp
  obtain ⟨a, c, rfl, _⟩ := h
  clear ht hc c1 c2
  generalize ckR r = C at *
  generalize r.length = L at *
  go_enter Tryd.func3, Tryd.ntmps3
  go_wp2_with fail
  refine (FR.out _ (Below.refl _ _)).mono ?_
  rintro e w1 ⟨rfl, b1⟩
  have B1 := Lib.hid b1; clear b1 FR
  go_wp2_with fail
  refine (WI.out _ B1.out).mono ?_
  rintro e w2 ⟨rfl, b2⟩
  have B2 := Lib.hid (B1.out.trans (b2.mono B1.out.size)); clear b2 WI
  go_wp2_with fail
  refine (BA.out _ B2.out).mono ?_
  rintro e w3 ⟨rfl, b3⟩
  have B3 := Lib.hid (B2.out.trans (b3.mono B2.out.size)); clear b3 BA
  go_wp2_with fail
  refine (CL.out _ B3.out).mono ?_
  rintro e w4 ⟨rfl, b4⟩
  have B4 := Lib.hid (B3.out.trans (b4.mono B3.out.size)); clear b4 CL
  go_wp2_with fail
  refine (BE.out _ B4.out).mono ?_
  rintro e w5 ⟨rfl, b5⟩
  have B5 := Lib.hid (B4.out.trans (b5.mono B4.out.size)); clear b5 BE
  go_wp2_with fail
  refine (RF.out _ B5.out).mono ?_
  rintro e w6 ⟨rfl, b6⟩
  have B6 := Lib.hid (B5.out.trans (b6.mono B5.out.size)); clear b6 RF
  go_wp2_with fail
  refine (CK.out _ B6.out).mono ?_
  rintro e w7 ⟨rfl, rfl⟩
  clear CK
  go_wp2
  go_ret
  exact ⟨rfl, B6.out⟩

set_option maxHeartbeats 16000000 in
/-- the law at rows without a fault -/
theorem reachTells_good {w : World} {v : Value} {r : List Bv} (s t : Bv) (d : Int) (h : WIn w v r) (hd : d ≤ 9223372036854775807) (ht : Tab w) (hr : RowsIn r) :
    Calls Tryd.prog 3 #[v, .int .u64 (s.toNat : Int), .int .u64 (t.toNat : Int), .int .i64 d] w fun e w' => e = .returned (.bool true) ∧ Below w.heap.size w w' := by
  have hl := hr.len
  have H := Lib.hid (fun W (hW : Below w.heap.size w W) => h.later hW)
  have FR := Lib.hid (fun W (hW : Below w.heap.size w W) => from_any s (h.later hW) (ht.below hW ht.1))
  have WI := Lib.hid (fun W (hW : Below w.heap.size w W) => within_any s d (h.later hW) hd (ht.below hW ht.1))
  have BA := Lib.hid (fun W (hW : Below w.heap.size w W) => back_rows (h.later hW) hr (ht.below hW ht.1))
  have CL := Lib.hid (fun W (hW : Below w.heap.size w W) => close_rows (h.later hW) hr (ht.below hW ht.1))
  have BE := Lib.hid (fun W (hW : Below w.heap.size w W) => between_any s t (h.later hW) (ht.below hW ht.1))
  have RF : Hid (∀ W, Below w.heap.size w W → Calls Tryd.prog 14 #[v, .slice none 0 0] W fun e w' => e = .returned (.int .i64 0) ∧ Below W.heap.size W w') := fun W hW => by
    have := rowsFaultZ_any (h.later hW) (win_nil W) (by simp)
    rwa [ckW_nil, ckR_rows hr] at this
  have CK : Hid (∀ W, Below w.heap.size w W → Calls Tryd.prog 15 #[v] W fun e w' => e = .returned (.int .i64 0) ∧ w' = W) := fun W hW => by
    have := check_any (h.later hW)
    rwa [ckR_rows hr] at this
  have TU := Lib.hid (fun W (hW : Below w.heap.size w W) => turned_rows (h.later hW) hr)
  have EQ : Hid (∀ W v1 v2, WIn W v1 (turnR r) → WIn W v2 (turnR r) → Calls Tryd.prog 17 #[v1, v2] W fun e w' => e = .returned (.bool true) ∧ ∃ q, w' = W.drewN q) := fun W v1 v2 h1 h2 => equalW_same h1 h2 (by rw [turnR_length]; exact hl)
  have RF1 : Hid (∀ W T, Below w.heap.size w W → Calls Tryd.prog 14 #[v, .slice (some ⟨W.heap.size, 0, none⟩) 1 1] (W.alloc (.cells #[.int .u64 (s.toNat : Int)] T)) fun e w' => e = .returned (.int .i64 (ckW r [s])) ∧ Below w.heap.size w w' ∧ Below W.heap.size W w') := fun W T hW =>
    (rowsFaultZ_any (h.later (hW.alloc hW.size _)) (win_one W s T) (by simp)).mono fun e w' ⟨h1, h2⟩ => ⟨h1, (hW.alloc hW.size _).trans (h2.mono (hW.alloc hW.size _).size), (below_al W _).trans (h2.mono (below_al W _).size)⟩
  have RF2 : Hid (∀ W T, Below w.heap.size w W → Calls Tryd.prog 14 #[v, .slice (some ⟨W.heap.size, 0, none⟩) 2 2] (W.alloc (.cells #[.int .u64 (s.toNat : Int), .int .u64 (t.toNat : Int)] T)) fun e w' => e = .returned (.int .i64 (ckW r [s, t])) ∧ Below w.heap.size w w' ∧ Below W.heap.size W w') := fun W T hW =>
    (rowsFaultZ_any (h.later (hW.alloc hW.size _)) (win_two W s t T) (by simp)).mono fun e w' ⟨h1, h2⟩ => ⟨h1, (hW.alloc hW.size _).trans (h2.mono (hW.alloc hW.size _).size), (below_al W _).trans (h2.mono (below_al W _).size)⟩
  have STn : Hid (∀ W n, Below w.heap.size w W → Calls Tryd.prog 18 #[v, .int .u64 ((wAt r n).toNat : Int), .int .i64 (-1)] W fun e w' => e = .returned (.int .u64 ((allR r (wAt r n)).toNat : Int)) ∧ w' = W) := fun W n hW => stepsR_any (wAt r n) (-1) (h.later hW) hr (hr.row n)
  have STs : Hid (ckW r [s] = 0 → ∀ W, Below w.heap.size w W → Calls Tryd.prog 18 #[v, .int .u64 (s.toNat : Int), .int .i64 (-1)] W fun e w' => e = .returned (.int .u64 ((frR r s).toNat : Int)) ∧ w' = W) := fun h1 W hW => by
    have := stepsR_any s (-1) (h.later hW) hr (ckW_one.1 h1).2
    rw [frR_ok h1]; exact this
  have STd : Hid (ckW r [s] = 0 → 0 ≤ d → ∀ W, Below w.heap.size w W → Calls Tryd.prog 18 #[v, .int .u64 (s.toNat : Int), .int .i64 d] W fun e w' => e = .returned (.int .u64 ((wiR r s d).toNat : Int)) ∧ w' = W) := fun h1 h0 W hW => by
    have := stepsR_any s d (h.later hW) hr (ckW_one.1 h1).2
    have e : stR r s d = wiR r s d := by unfold stR; rw [if_neg (by omega), wiR_ok (wiC_ok h1 h0)]
    rwa [e] at this
  have STt : Hid (ckW r [s, t] = 0 → ∀ W u, WIn W u (turnR r) → Calls Tryd.prog 18 #[u, .int .u64 (t.toNat : Int), .int .i64 (-1)] W fun e w' => e = .returned (.int .u64 ((allR (turnR r) t).toNat : Int)) ∧ w' = W) := fun h1 W u hu =>
    stepsR_any t (-1) hu (turnR_in hr) (by rw [turnR_length]; exact (ckW_two.1 h1).2.2)
  have C0 : Hid (ckW r [s] ≠ 0 → frR r s = 0#64 ∧ wiR r s d = 0#64 ∧ wiC r s d = ckW r [s] ∧ ckW r [s, t] ≠ 0) := fun h1 => ⟨frR_bad h1, wiR_bad (by rw [wiC_bad h1]; exact h1), wiC_bad h1, fun h2 => h1 (ckW_one.2 ⟨(ckW_two.1 h2).1, (ckW_two.1 h2).2.1⟩)⟩
  have C1 : Hid (ckW r [s, t] ≠ 0 → beR r s t = 0#64) := beR_bad
  have C2 : Hid (ckW r [s] = 0 → d < 0 → wiC r s d = 1 ∧ wiR r s d = 0#64) := fun h1 h2 => ⟨wiC_neg h1 h2, wiR_bad (by rw [wiC_neg h1 h2]; decide)⟩
  have C3 : Hid (ckW r [s] = 0 → 0 ≤ d → wiC r s d = 0) := fun h1 h2 => wiC_ok h1 h2
  have C4 : Hid (ckW r [s] = 0 → ckW r [s, t] = 0 → bits .and .u64 ((frR r s).toNat : Int) ((allR (turnR r) t).toNat : Int) = ((beR r s t).toNat : Int)) := fun h1 h2 => by rw [bv_and, frR_ok h1, beR_ok h2]; rfl
  have CA : Hid (∀ n, n < r.length → wAt (closeR r) n = allR r (wAt r n)) := fun n hn => closeR_at hn
  obtain ⟨a, c, rfl, hc0⟩ := h
  have HC : Hid (∀ W, Below w.heap.size w W → ∀ k, k < r.length → ∃ b off, a = some ⟨b, off, none⟩ ∧ W.cell? ⟨b, off + k, none⟩ = some (.int .u64 ((wAt r k).toNat : Int))) := fun W hW k hk => by
    obtain ⟨b, off, e, c⟩ := hc0 k hk
    exact ⟨b, off, e, cell_later hW c⟩
  have CLN : Hid ((closeR r).length = r.length) := Lib.hid (closeR_length r)
  clear ht hc0 hr H
  generalize ckW r [s] = K1 at *
  generalize ckW r [s, t] = K2 at *
  generalize frR r s = X at *
  generalize wiR r s d = Y at *
  generalize wiC r s d = YC at *
  generalize beR r s t = Z at *
  generalize allR (turnR r) t = V at *
  generalize turnR r = TR at *
  generalize closeR r = CR at *
  generalize r.length = L at *
  go_enter Tryd.func3, Tryd.ntmps3
  go_wp2_with fail
  refine (FR.out _ (Below.refl _ _)).mono ?_
  rintro e w1 ⟨rfl, b1⟩
  have B1 := Lib.hid b1; clear b1 FR
  go_wp2_with fail
  refine (WI.out _ B1.out).mono ?_
  rintro e w2 ⟨rfl, b2⟩
  have B2 := Lib.hid (B1.out.trans (b2.mono B1.out.size)); clear b2 WI
  go_wp2_with fail
  refine (BA.out _ B2.out).mono ?_
  rintro e w3 ⟨q3, rfl, u3, b3⟩
  have U3 := Lib.hid u3
  have B3 := Lib.hid (B2.out.trans (b3.mono B2.out.size)); clear b3 BA u3
  go_wp2_with fail
  refine (CL.out _ B3.out).mono ?_
  rintro e w4 ⟨q4, rfl, u4, b4⟩
  have U4 := Lib.hid u4
  have U34 := Lib.hid (U3.out.later b4)
  have B4 := Lib.hid (B3.out.trans (b4.mono B3.out.size)); clear b4 CL u4 U3
  go_wp2_with fail
  refine (BE.out _ B4.out).mono ?_
  rintro e w5 ⟨rfl, b5⟩
  have U35 := Lib.hid (U34.out.later b5)
  have U45 := Lib.hid (U4.out.later b5)
  have B5 := Lib.hid (B4.out.trans (b5.mono B4.out.size)); clear b5 BE U34 U4
  go_wp2_with fail
  refine (RF.out _ B5.out).mono ?_
  rintro e w6 ⟨rfl, b6⟩
  have U36 := Lib.hid (U35.out.later b6)
  have U46 := Lib.hid (U45.out.later b6)
  have B6 := Lib.hid (B5.out.trans (b6.mono B5.out.size)); clear b6 RF U35 U45
  go_wp2_with fail
  refine (CK.out _ B6.out).mono ?_
  rintro e w7 ⟨rfl, rfl⟩
  clear CK
  go_wp2_with fail
  refine (TU.out _ B6.out).mono ?_
  rintro e w8 ⟨q8, rfl, u8, b8⟩
  have U8 := Lib.hid u8
  have U38 := Lib.hid (U36.out.later b8)
  have U48 := Lib.hid (U46.out.later b8)
  have B8 := Lib.hid (B6.out.trans (b8.mono B6.out.size)); clear b8 TU U36 U46 u8
  go_wp2_with fail
  refine (EQ.out _ _ _ U38.out U8.out).mono ?_
  rintro e w9 ⟨rfl, z, rfl⟩
  have B9 := Lib.hid (below_drewN B8.out z)
  have U9 : Hid (WIn (w8.drewN z) (.slice (some ⟨q8, 0, none⟩) L L) TR) := Lib.hid (U8.out.later (below_drewN (Below.refl _ _) z))
  have U49 : Hid (WIn (w8.drewN z) (.slice (some ⟨q4, 0, none⟩) L L) CR) := Lib.hid (U48.out.later (below_drewN (Below.refl _ _) z))
  clear EQ U38 U48 U8 B8
  generalize w8.drewN z = w9 at *
  have t0 : ((L : Int) != (L : Int)) = false := by simp
  go_wp2_with fail
  go_loopw [130] (fun i wr => ∃ k : Nat, k ≤ L ∧ i = .int .i64 (k : Int) ∧ Dr w9 wr) (fun i _ => L - (intOf i).toNat)
  case atStart => exact ⟨0, Nat.zero_le _, rfl, Dr.refl _⟩
  case round =>
    obtain ⟨k, hk, rfl, hdr⟩ := hrel
    have QD := Lib.hid hdr; clear hdr
    have BM := Lib.hid (QD.out.below B9.out)
    by_cases hkl : k < L
    · obtain ⟨b, off, rfl, c0⟩ := HC.out _ BM.out k hkl
      have c1' := win_cell (U49.out.later (QD.out.below (Below.refl _ _))) (k := k) (by rw [CLN.out]; exact hkl)
      rw [CA.out k hkl] at c1'
      have ST1 := Lib.hid (fun W hW => STn.out W k hW)
      have i2 : (k : Int) < (L : Int) := by omega
      have t1 : (((allR r (wAt r k)).toNat : Int) != ((allR r (wAt r k)).toNat : Int)) = false := by simp
      have BQ : Hid (∀ n, Below w.heap.size w (wr.drewN n)) := fun n => below_drewN BM.out n
      have QN : Hid (∀ n, Dr w9 (wr.drewN n)) := fun n => QD.out.on n
      generalize allR r (wAt r k) = x at *
      generalize wAt r k = y at *
      go_wp2_with fail
      go_quiet (first | (go_at_call 18; exact Calls.quiet_of_same (ST1.out _ (BQ.out _))))
      go_wp2
      go_roundw
      case rel => exact ⟨k + 1, by omega, by go_num, QN.out _⟩
      case measure => simp [intOf]; omega
    · obtain rfl : k = L := by omega
      have UM : Hid (WIn wr (.slice (some ⟨q8, 0, none⟩) k k) TR) := Lib.hid (U9.out.later (QD.out.below (Below.refl _ _)))
      clear U9 U49 HC STn CA B9 QD
      go_wp2_with fail
      refine (RF1.out _ _ BM.out).mono ?_
      rintro e w11 ⟨rfl, b11, b11'⟩
      have B11 := Lib.hid b11
      have U11 := Lib.hid (UM.out.later b11')
      clear b11 b11' BM UM RF1
      go_wp2_with fail
      refine (RF2.out _ _ B11.out).mono ?_
      rintro e w12 ⟨rfl, b12, b12'⟩
      have B12 := Lib.hid b12
      have U12 := Lib.hid (U11.out.later b12')
      clear b12 b12' B11 U11 RF2
      have tz := zero_beq
      by_cases h1 : K1 = 0
      · subst h1
        have STs1 := Lib.hid (STs.out rfl _ B12.out)
        have C21 := Lib.hid (C2.out rfl)
        have C31 := Lib.hid (C3.out rfl)
        have C41 := Lib.hid (C4.out rfl)
        have STd1 := Lib.hid (STd.out rfl)
        clear C0 STs C2 C3 C4 STd
        have tX : ((X.toNat : Int) != (X.toNat : Int)) = false := by simp
        go_wp2_with fail
        refine STs1.out.mono ?_
        rintro e w13 ⟨rfl, rfl⟩
        by_cases h2 : K2 = 0
        · subst h2
          have e4 := C41.out rfl
          have STt1 := Lib.hid (STt.out rfl _ _ U12.out)
          have tZ : ((Z.toNat : Int) != (Z.toNat : Int)) = false := by simp
          clear C1 C41 STt
          go_wp2_with fail
          refine STs1.out.mono ?_
          rintro e w14 ⟨rfl, rfl⟩
          go_wp2_with fail
          refine STt1.out.mono ?_
          rintro e w15 ⟨rfl, rfl⟩
          by_cases h0 : d < 0
          · obtain ⟨rfl, rfl⟩ := C21.out h0
            clear C21 C31 STd1
            go_wp2
            go_ret
            exact ⟨rfl, B12.out⟩
          · have h0' : 0 ≤ d := by omega
            have E := C31.out h0'
            subst E
            have STd2 := Lib.hid (STd1.out h0' _ B12.out)
            have tY := same_beq (Y.toNat : Int)
            clear C21 C31 STd1
            go_wp2_with fail
            refine STd2.out.mono ?_
            rintro e w16 ⟨rfl, rfl⟩
            go_wp2
            go_ret
            exact ⟨rfl, B12.out⟩
        · have E := C1.out h2
          subst E
          have t2 := zero_ne h2
          have t3 : (K2 == 0) = false := beq_eq_false_iff_ne.2 h2
          have t4 : (K2 != K2) = false := by simp
          clear C1 C41 STt h2
          by_cases h0 : d < 0
          · obtain ⟨rfl, rfl⟩ := C21.out h0
            clear C21 C31 STd1
            go_wp2
            go_ret
            exact ⟨rfl, B12.out⟩
          · have h0' : 0 ≤ d := by omega
            have E := C31.out h0'
            subst E
            have STd2 := Lib.hid (STd1.out h0' _ B12.out)
            have tY := same_beq (Y.toNat : Int)
            clear C21 C31 STd1
            go_wp2_with fail
            refine STd2.out.mono ?_
            rintro e w16 ⟨rfl, rfl⟩
            go_wp2
            go_ret
            exact ⟨rfl, B12.out⟩
      · obtain ⟨rfl, rfl, rfl, h2⟩ := C0.out h1
        have E := C1.out h2
        subst E
        have u2 := zero_ne h1
        have u3 : (YC == 0) = false := beq_eq_false_iff_ne.2 h1
        have u4 : (YC != YC) = false := by simp
        have u5 := same_beq YC
        have t2 := zero_ne h2
        have t3 : (K2 == 0) = false := beq_eq_false_iff_ne.2 h2
        have t4 : (K2 != K2) = false := by simp
        clear C0 C1 C2 C3 C4 STs STd STt h1 h2
        go_wp2
        go_ret
        exact ⟨rfl, B12.out⟩
theorem reachTells_any {w : World} {v : Value} {r : List Bv} (s t : Bv) (d : Int) (h : WIn w v r) (hd : d ≤ 9223372036854775807) (ht : Tab w) :
    Calls Tryd.prog 3 #[v, .int .u64 (s.toNat : Int), .int .u64 (t.toNat : Int), .int .i64 d] w fun e w' => e = .returned (.bool true) ∧ Below w.heap.size w w' := by
  by_cases hc : ckR r = 0
  · exact reachTells_good s t d h hd ht (ckR_zero hc)
  · exact reachTells_bad s t d h hd ht hc
end Go.Proofs.YtcgabgmhmeppeaaDoor
