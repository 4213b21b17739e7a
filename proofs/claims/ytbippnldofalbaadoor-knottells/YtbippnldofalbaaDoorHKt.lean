/-
  The law KnotTells, whatever its argument. Condition: the table of math/bits lies in memory as its text lays it (the card ties this).
-/
import Derived.Test.YtbippnldofalbaaDoorHKe
import Derived.Test.YtbippnldofalbaaDoorHKy
namespace Go.Proofs.YtbippnldofalbaaDoor
set_option maxRecDepth 100000
set_option linter.unusedVariables false
open Go.ChangeShapes Go.WideShapes Go.ChangeAt Go.RowKit

theorem wi_nil (w : World) : WIn w (.slice none 0 0) [] := ⟨none, 0, rfl, fun k hk => absurd hk (Nat.not_lt_zero _)⟩
theorem same_eq (x : Int) : (x == x) = true := beq_self_eq_true x

/-! good -/
theorem lawBad_any (w : World) : Calls Tryd.prog 40 #[.int .i64 0] w fun e w' => e = .returned (.bool false) ∧ w' = w := by
  go_enter Tryd.func40, Tryd.ntmps40
  go_wp2
  go_ret
  exact ⟨rfl, rfl⟩
set_option maxHeartbeats 1000000 in
theorem lawIdx_any (b : Nat) (w : World) (hc : ∀ k, k < 2 → w.cell? ⟨b, k, none⟩ = some (.int .i64 0)) :
    Calls Tryd.prog 59 #[.slice (some ⟨b, 0, none⟩) 2 2, .func (.func 40) #[] #[]] w fun e w' => e = .returned (.int .i64 (-1)) ∧ w' = w := by
  have en := Tryd.call40
  have HC := Lib.hid hc; clear hc
  have BX := Lib.hid lawBad_any
  go_enter Tryd.func59, Tryd.ntmps59
  go_wp2_with fail
  go_loopw [8] (fun i wr => ∃ k : Nat, k ≤ 2 ∧ i = .int .i64 k ∧ wr = w) (fun i _ => 2 - (intOf i).toNat)
  case atStart => exact ⟨0, Nat.zero_le _, rfl, rfl⟩
  case round =>
    obtain ⟨k, hk, rfl, rfl⟩ := hrel
    by_cases hkl : k < 2
    · have c0 := HC.out k hkl
      go_wp2_with fail
      refine (BX.out _).mono ?_
      rintro e w' ⟨rfl, rfl⟩
      go_wp2
      go_roundw
      case rel => exact ⟨k + 1, by omega, by go_num, trivial⟩
      case measure => simp [intOf]; omega
    · obtain rfl : k = 2 := by omega
      go_wp2
      go_ret
      exact ⟨rfl, rfl⟩
theorem lawCon_any (b : Nat) (w : World) (hc : ∀ k, k < 2 → w.cell? ⟨b, k, none⟩ = some (.int .i64 0)) :
    Calls Tryd.prog 39 #[.slice (some ⟨b, 0, none⟩) 2 2, .func (.func 40) #[] #[]] w fun e w' => e = .returned (.bool false) ∧ w' = w := by
  have IX := Lib.hid (lawIdx_any b w hc)
  clear hc
  go_enter Tryd.func39, Tryd.ntmps39
  go_wp2_with fail
  refine IX.out.mono ?_
  rintro e w' ⟨rfl, rfl⟩
  go_wp2
  go_ret
  exact ⟨rfl, rfl⟩
theorem lawGood_any (w : World) (t : TypeId) :
    Calls Tryd.prog 13 #[.slice (some ⟨w.heap.size, 0, none⟩) 2 2] (w.alloc (.cells #[.int .i64 0, .int .i64 0] t)) fun e w' => e = .returned (.bool true) ∧ w' = w.alloc (.cells #[.int .i64 0, .int .i64 0] t) := by
  have B := blk_new w #[.int .i64 0, .int .i64 0] t
  have CX := Lib.hid (lawCon_any w.heap.size _ (fun k hk => by
    match k, hk with
    | 0, _ => exact B.cell rfl
    | 1, _ => exact B.cell rfl))
  clear B
  generalize w.alloc (.cells #[.int .i64 0, .int .i64 0] t) = w1 at *
  generalize w.heap.size = q at *
  go_enter Tryd.func13, Tryd.ntmps13
  go_wp2_with fail
  refine CX.out.mono ?_
  rintro e w' ⟨rfl, rfl⟩
  go_wp2
  go_ret
  exact ⟨rfl, rfl⟩

/-! the law -/
set_option maxHeartbeats 4000000 in
theorem knotTells_bad {w : World} {v : Value} {r : List Bv} (h : WIn w v r) (ht : Tab w) (hc : ckR r ≠ 0) :
    Calls Tryd.prog 3 #[v] w fun e w' => e = .returned (.bool true) ∧ Below w.heap.size w w' := by
  have PA : Hid (∀ W, Below w.heap.size w W → Calls Tryd.prog 8 #[v] W fun e w' => ∃ a c, e = .returned (.tuple #[.slice a 0 c, .int .i64 (ckR r)]) ∧ Below W.heap.size W w') := fun W hW => by
    refine (parts_any (h.later hW) (ht.below hW ht.1)).mono ?_
    rintro e w' ⟨b, u, rfl, o⟩
    rw [partsA_bad hc] at o
    obtain ⟨a, c, rfl, _⟩ := o.win
    exact ⟨a, c, rfl, b⟩
  have FO : Hid (∀ W, Below w.heap.size w W → Calls Tryd.prog 9 #[v] W fun e w' => ∃ a c, e = .returned (.tuple #[.slice a 0 c, .int .i64 (ckR r)]) ∧ Below W.heap.size W w') := fun W hW => by
    refine (fold_any (h.later hW) (ht.below hW ht.1)).mono ?_
    rintro e w' ⟨b, u, rfl, o⟩
    rw [foldA_bad hc] at o
    obtain ⟨a, c, rfl, _⟩ := o.win
    exact ⟨a, c, rfl, b⟩
  have OR : Hid (∀ W, Below w.heap.size w W → Calls Tryd.prog 10 #[v] W fun e w' => ∃ a c, e = .returned (.tuple #[.slice a 0 c, .int .i64 (ckR r)]) ∧ Below W.heap.size W w') := fun W hW => by
    refine (order_any (h.later hW) (ht.below hW ht.1)).mono ?_
    rintro e w' ⟨b, u, rfl, o⟩
    rw [ordL_bad (by rw [ordC_bad hc]; exact hc)] at o
    obtain ⟨a, c, rfl, _⟩ := o.ni
    exact ⟨a, c, by rw [ordC_bad hc]; rfl, b⟩
  have RI : Hid (∀ W, Below w.heap.size w W → Calls Tryd.prog 11 #[v] W fun e w' => ∃ a c, e = .returned (.tuple #[.slice a 0 c, .int .i64 (ckR r)]) ∧ Below W.heap.size W w') := fun W hW => by
    refine (ring_any (h.later hW) (ht.below hW ht.1)).mono ?_
    rintro e w' ⟨b, u, l, rfl, o, _, z⟩
    have e0 := z (by rw [ringC_bad hc]; exact hc)
    subst e0
    obtain ⟨a, c, rfl, _⟩ := o
    exact ⟨a, c, by rw [ringC_bad hc]; rfl, b⟩
  have RF : Hid (∀ W, Below w.heap.size w W → Calls Tryd.prog 12 #[v, .slice none 0 0] W fun e w' => e = .returned (.int .i64 (ckR r)) ∧ Below W.heap.size W w') := fun W hW => by
    have := rowsFaultZ_any (h.later hW) (wi_nil W) (by simp)
    rwa [ckW_bad hc] at this
  have t1 := zero_ne hc
  have t2 := same_eq (ckR r)
  obtain ⟨a, c, rfl, _⟩ := h
  clear ht hc
  generalize ckR r = C at *
  generalize r.length = L at *
  go_enter Tryd.func3, Tryd.ntmps3
  go_wp2_with fail
  refine (PA.out _ (Below.refl _ _)).mono ?_
  rintro e w1 ⟨a1, c1, rfl, b1⟩
  have B1 := Lib.hid b1; clear b1 PA
  go_wp2_with fail
  refine (FO.out _ B1.out).mono ?_
  rintro e w2 ⟨a2, c2, rfl, b2⟩
  have B2 := Lib.hid (B1.out.trans (b2.mono B1.out.size)); clear b2 FO
  go_wp2_with fail
  refine (OR.out _ B2.out).mono ?_
  rintro e w3 ⟨a3, c3, rfl, b3⟩
  have B3 := Lib.hid (B2.out.trans (b3.mono B2.out.size)); clear b3 OR
  go_wp2_with fail
  refine (RI.out _ B3.out).mono ?_
  rintro e w4 ⟨a4, c4, rfl, b4⟩
  have B4 := Lib.hid (B3.out.trans (b4.mono B3.out.size)); clear b4 RI
  go_wp2_with fail
  refine (RF.out _ B4.out).mono ?_
  rintro e w5 ⟨rfl, b5⟩
  have B5 := Lib.hid (B4.out.trans (b5.mono B4.out.size)); clear b5 RF
  go_wp2
  go_ret
  exact ⟨rfl, B5.out⟩

set_option maxHeartbeats 16000000 in
theorem knotTells_good {w : World} {v : Value} {r : List Bv} (h : WIn w v r) (ht : Tab w) (hr : RowsIn r) :
    Calls Tryd.prog 3 #[v] w fun e w' => e = .returned (.bool true) ∧ Below w.heap.size w w' := by
  have hl := hr.len
  have hpl : (partsR r).length ≤ 64 := by have := parts_le r; omega
  have hc := ckR_rows hr
  have PA : Hid (∀ W, Below w.heap.size w W → Calls Tryd.prog 8 #[v] W fun e w' => ∃ a c, e = .returned (.tuple #[.slice a (partsR r).length c, .int .i64 0]) ∧ WIn w' (.slice a (partsR r).length c) (partsR r) ∧ Below W.heap.size W w') := fun W hW => by
    refine (parts_any (h.later hW) (ht.below hW ht.1)).mono ?_
    rintro e w' ⟨b, u, rfl, o⟩
    rw [partsA_ok hc] at o
    have o' := o.win
    obtain ⟨a, c, rfl, _⟩ := o.win
    exact ⟨a, c, by rw [hc], o', b⟩
  have FO : Hid (∀ W, Below w.heap.size w W → Calls Tryd.prog 9 #[v] W fun e w' => ∃ a c, e = .returned (.tuple #[.slice a (foldR r).length c, .int .i64 0]) ∧ WIn w' (.slice a (foldR r).length c) (foldR r) ∧ Below W.heap.size W w') := fun W hW => by
    refine (fold_any (h.later hW) (ht.below hW ht.1)).mono ?_
    rintro e w' ⟨b, u, rfl, o⟩
    rw [foldA_ok hc] at o
    have o' := o.win
    obtain ⟨a, c, rfl, _⟩ := o.win
    exact ⟨a, c, by rw [hc], o', b⟩
  have OR : Hid (∀ W, Below w.heap.size w W → Calls Tryd.prog 10 #[v] W fun e w' => ∃ a c, e = .returned (.tuple #[.slice a (ordL r).length c, .int .i64 (ordC r)]) ∧ NI w' (.slice a (ordL r).length c) (ordL r) ∧ Below W.heap.size W w') := fun W hW => by
    refine (order_any (h.later hW) (ht.below hW ht.1)).mono ?_
    rintro e w' ⟨b, u, rfl, o⟩
    have o' := o.ni
    obtain ⟨a, c, rfl, _⟩ := o.ni
    exact ⟨a, c, rfl, o', b⟩
  have RI : Hid (∀ W, Below w.heap.size w W → Calls Tryd.prog 11 #[v] W fun e w' => ∃ a c, ∃ l : List Nat, e = .returned (.tuple #[.slice a l.length c, .int .i64 (ringC r)]) ∧ NI w' (.slice a l.length c) l ∧ (ringC r = 0 → RingL r l) ∧ (ringC r ≠ 0 → l = []) ∧ Below W.heap.size W w') := fun W hW => by
    refine (ring_any (h.later hW) (ht.below hW ht.1)).mono ?_
    rintro e w' ⟨b, u, l, rfl, o, z1, z2⟩
    have o' := o
    obtain ⟨a, c, rfl, _⟩ := o
    exact ⟨a, c, l, rfl, o', z1, z2, b⟩
  have RF : Hid (∀ W, Below w.heap.size w W → Calls Tryd.prog 12 #[v, .slice none 0 0] W fun e w' => e = .returned (.int .i64 0) ∧ Below W.heap.size W w') := fun W hW => by
    have := rowsFaultZ_any (h.later hW) (wi_nil W) (by simp)
    rwa [ckW_nil, hc] at this
  have TP : Hid (∀ W, Below w.heap.size w W → Calls Tryd.prog 15 #[v] W fun e w' => ∃ u, e = .returned u ∧ WIn w' u (partsR r) ∧ Below W.heap.size W w') := fun W hW => (tiedParts_any (h.later hW) hr).mono fun e w' ⟨u, h1, h2, h3⟩ => ⟨u, h1, h2.win, h3⟩
  have FD : Hid (∀ W, Below w.heap.size w W → Calls Tryd.prog 16 #[v] W fun e w' => ∃ u, e = .returned u ∧ WIn w' u (foldR r) ∧ Below W.heap.size W w') := fun W hW => foldedRows_any (h.later hW) hr
  have OD : Hid (∀ W, Below w.heap.size w W → Calls Tryd.prog 17 #[v] W fun e w' => ∃ a c, e = .returned (.slice a (ordR r).length c) ∧ NI w' (.slice a (ordR r).length c) (ordR r) ∧ Below W.heap.size W w') := fun W hW => by
    refine (orderedR_any (h.later hW) hr).mono ?_
    rintro e w' ⟨u, rfl, o, b⟩
    have o' := o.ni
    obtain ⟨a, c, rfl, _⟩ := o.ni
    exact ⟨a, c, rfl, o', b⟩
  have E1 := Lib.hid (fun W (v1 v2 : Value) (h1 : WIn W v1 (partsR r)) (h2 : WIn W v2 (partsR r)) => equalW_same h1 h2 hpl)
  have E2 := Lib.hid (fun W (v1 v2 : Value) (h1 : WIn W v1 (foldR r)) (h2 : WIn W v2 (foldR r)) => equalW_same h1 h2 (by rw [foldR_length]; exact hpl))
  have E3 := Lib.hid (fun W (v1 v2 : Value) (h1 : NI W v1 (ordR r)) (h2 : NI W v2 (ordR r)) => equalI_same h1 h2 (by have := ord_len r; omega))
  have IR := Lib.hid (fun W (u : Value) (l : List Nat) (hW : Below w.heap.size w W) (hu : NI W u l) (hl' : RingL r l) => isRing_any (h.later hW) hu hl' hl)
  have FULL : Hid ((ordR r).length = r.length → ordC r = 0 ∧ ordL r = ordR r ∧ ringC r = 5) := fun e => ⟨ordC_ok hc e, ordL_ok (ordC_ok hc e), ordC_none (ordC_ok hc e)⟩
  have PART : Hid ((ordR r).length ≠ r.length → ordC r = 8 ∧ ordL r = [] ∧ ringC r = 0) := fun e => ⟨ordC_cyc hc e, ordL_bad (by rw [ordC_cyc hc e]; decide), ringC_ok hc e⟩
  obtain ⟨a, c, rfl, _⟩ := h
  clear ht hr hc hpl
  generalize ordC r = OC at *
  generalize hOL : ordL r = OL at *
  generalize ringC r = RC at *
  generalize hOR : ordR r = OO at *
  generalize partsR r = P at *
  generalize foldR r = F at *
  generalize P.length = PL at *
  generalize F.length = FL at *
  generalize r.length = L at *
  go_enter Tryd.func3, Tryd.ntmps3
  go_wp2_with fail
  refine (PA.out _ (Below.refl _ _)).mono ?_
  rintro e w1 ⟨a1, c1, rfl, p1, b1⟩
  have P1 := Lib.hid p1
  have B1 := Lib.hid b1; clear b1 p1 PA
  go_wp2_with fail
  refine (FO.out _ B1.out).mono ?_
  rintro e w2 ⟨a2, c2, rfl, p2, b2⟩
  have P2 := Lib.hid (P1.out.later b2)
  have F2 := Lib.hid p2
  have B2 := Lib.hid (B1.out.trans (b2.mono B1.out.size)); clear b2 p2 FO P1 B1
  go_wp2_with fail
  refine (OR.out _ B2.out).mono ?_
  rintro e w3 ⟨a3, c3, rfl, p3, b3⟩
  have P3 := Lib.hid (P2.out.later b3)
  have F3 := Lib.hid (F2.out.later b3)
  have O3 := Lib.hid p3
  have B3 := Lib.hid (B2.out.trans (b3.mono B2.out.size)); clear b3 p3 OR P2 F2 B2
  go_wp2_with fail
  refine (RI.out _ B3.out).mono ?_
  rintro e w4 ⟨a4, c4, l, rfl, p4, z1, z2, b4⟩
  have P4 := Lib.hid (P3.out.later b4)
  have F4 := Lib.hid (F3.out.later b4)
  have O4 := Lib.hid (O3.out.later b4)
  have R4 := Lib.hid p4
  have Z1 := Lib.hid z1; have Z2 := Lib.hid z2
  have B4 := Lib.hid (B3.out.trans (b4.mono B3.out.size)); clear b4 p4 z1 z2 RI P3 F3 O3 B3
  go_wp2_with fail
  refine (RF.out _ B4.out).mono ?_
  rintro e w5 ⟨rfl, b5⟩
  have P5 := Lib.hid (P4.out.later b5)
  have F5 := Lib.hid (F4.out.later b5)
  have O5 := Lib.hid (O4.out.later b5)
  have R5 := Lib.hid (R4.out.later b5)
  have B5 := Lib.hid (B4.out.trans (b5.mono B4.out.size)); clear b5 RF P4 F4 O4 R4 B4
  by_cases h30 : (30 : Int) < (L : Int)
  · go_wp2
    go_ret
    exact ⟨rfl, B5.out⟩
  · have GD : Hid (∀ T, Calls Tryd.prog 13 #[.slice (some ⟨w5.heap.size, 0, none⟩) 2 2] (w5.alloc (.cells #[.int .i64 0, .int .i64 0] T)) fun e w' => e = .returned (.bool true) ∧ Below w5.heap.size w5 w') := fun T => (lawGood_any w5 T).mono fun e w' ⟨h1, h2⟩ => ⟨h1, by rw [h2]; exact below_al _ _⟩
    go_wp2_with fail
    refine (GD.out _).mono ?_
    rintro e w6 ⟨rfl, b6⟩
    have P6 := Lib.hid (P5.out.later b6)
    have F6 := Lib.hid (F5.out.later b6)
    have O6 := Lib.hid (O5.out.later b6)
    have R6 := Lib.hid (R5.out.later b6)
    have B6 := Lib.hid (B5.out.trans (b6.mono B5.out.size)); clear b6 GD P5 F5 O5 R5 B5
    go_wp2_with fail
    refine (TP.out _ B6.out).mono ?_
    rintro e w7 ⟨u7, rfl, p7, b7⟩
    have P7 := Lib.hid (P6.out.later b7)
    have F7 := Lib.hid (F6.out.later b7)
    have O7 := Lib.hid (O6.out.later b7)
    have R7 := Lib.hid (R6.out.later b7)
    have B7 := Lib.hid (B6.out.trans (b7.mono B6.out.size))
    have Q7 := Lib.hid (E1.out _ _ _ P7.out p7); clear b7 p7 TP P6 F6 O6 R6 B6 E1
    go_wp2_with fail
    refine Q7.out.mono ?_
    rintro e w8 ⟨rfl, d8, rfl⟩
    have b8 := below_drewN (Below.refl w7.heap.size w7) d8
    have F8 := Lib.hid (F7.out.later b8)
    have O8 := Lib.hid (O7.out.later b8)
    have R8 := Lib.hid (R7.out.later b8)
    have B8 := Lib.hid (B7.out.trans (b8.mono B7.out.size)); clear b8 P7 F7 O7 R7 B7 Q7
    generalize w7.drewN d8 = w8 at *
    go_wp2_with fail
    refine (FD.out _ B8.out).mono ?_
    rintro e w9 ⟨u9, rfl, p9, b9⟩
    have F9 := Lib.hid (F8.out.later b9)
    have O9 := Lib.hid (O8.out.later b9)
    have R9 := Lib.hid (R8.out.later b9)
    have B9 := Lib.hid (B8.out.trans (b9.mono B8.out.size))
    have Q9 := Lib.hid (E2.out _ _ _ F9.out p9); clear b9 p9 FD F8 O8 R8 B8 E2
    go_wp2_with fail
    refine Q9.out.mono ?_
    rintro e w10 ⟨rfl, d10, rfl⟩
    have b10 := below_drewN (Below.refl w9.heap.size w9) d10
    have O10 := Lib.hid (O9.out.later b10)
    have R10 := Lib.hid (R9.out.later b10)
    have B10 := Lib.hid (B9.out.trans (b10.mono B9.out.size)); clear b10 F9 O9 R9 B9 Q9
    generalize w9.drewN d10 = w10 at *
    go_wp2_with fail
    refine (OD.out _ B10.out).mono ?_
    rintro e w11 ⟨a11, c11, rfl, p11, b11⟩
    have O11 := Lib.hid (O10.out.later b11)
    have R11 := Lib.hid (R10.out.later b11)
    have N11 := Lib.hid p11
    have B11 := Lib.hid (B10.out.trans (b11.mono B10.out.size)); clear b11 p11 OD O10 R10 B10
    by_cases hf : OO.length = L
    · obtain ⟨rfl, rfl, rfl⟩ := FULL.out hf
      obtain rfl := Z2.out (by decide)
      have Q11 := Lib.hid (E3.out _ _ _ O11.out N11.out)
      have t1 : ((OL.length : Int) == (L : Int)) = true := by rw [hf]; exact same_eq _
      clear FULL PART Z1 Z2 E3 IR O11 R11 N11 hf hOL hOR
      generalize OL.length = OLn at *
      go_wp2_with fail
      refine Q11.out.mono ?_
      rintro e w12 ⟨rfl, d12, rfl⟩
      have B12 := Lib.hid (below_drewN B11.out d12)
      clear Q11
      go_wp2
      go_ret
      exact ⟨rfl, B12.out⟩
    · obtain ⟨rfl, rfl, rfl⟩ := PART.out hf
      have RL := Z1.out rfl
      have Q11 := Lib.hid (IR.out _ _ _ B11.out R11.out RL)
      have t1 : ((OO.length : Int) == (L : Int)) = false := by rw [beq_eq_false_iff_ne]; omega
      clear FULL PART Z1 Z2 E3 IR O11 R11 N11 RL hf hOL hOR
      generalize OO.length = OLn at *
      generalize l.length = ln at *
      go_wp2_with fail
      refine Q11.out.mono ?_
      rintro e w12 ⟨rfl, d12, rfl⟩
      have B12 := Lib.hid (below_drewN B11.out d12)
      clear Q11
      go_wp2
      go_ret
      exact ⟨rfl, B12.out⟩
theorem knotTells_any {w : World} {v : Value} {r : List Bv} (h : WIn w v r) (ht : Tab w) :
    Calls Tryd.prog 3 #[v] w fun e w' => e = .returned (.bool true) ∧ Below w.heap.size w w' := by
  by_cases hc : ckR r = 0
  · exact knotTells_good h ht (ckR_zero hc)
  · exact knotTells_bad h ht hc
end Go.Proofs.YtbippnldofalbaaDoor
