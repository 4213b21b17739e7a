/-
  What the reference's RuleRead answers, in rows of one's own. Condition: the string is shorter than 2^32 bytes.
-/
import Derived.Test.YtfgcbdjkimkgpaaGreatDoorFDr
import Derived.Test.YtfgcbdjkimkgpaaGreatDoorRRd
namespace Go.Proofs.YtfgcbdjkimkgpaaGreatDoor
set_option maxRecDepth 100000
set_option linter.unusedVariables false
open Go.ChangeShapes Go.WideShapes Go.ChangeAt Go.RowKit

theorem apart_new {w w' : World} {b1 : Nat} {u v : Value} {y z : List Str} (h : SO b1 u y w) {b2 : Nat} (k : SO b2 v z w') (hb : w.heap.size ≤ b2) : Apart u v := fun j hj e => by
  have h1 := (h.lt j hj).2
  have h2 := (k.lt j e).1
  omega
theorem so_set2 {B q : Nat} {x y v : Value} {z : List Str} {w : World} (h : SO B v z w) (hk : StayR q x y w) (u1 u2 : Value) : SO B v z ((w.setCell ⟨q, 0, none⟩ u1).setCell ⟨q, 1, none⟩ u2) := by
  have k0 : Blk q #[x, y] 82 w := hk
  have h1 : (w.setCell ⟨q, 0, none⟩ u1).ownsRow B 9 1 v z.length (z.map encStr) := ownsRow_setCell_other h (by exact own_blk h k0 (by decide)) _
  exact ownsRow_setCell_other h1 (by exact own_blk h1 (k0.set 0 u1) (by decide)) _
set_option maxHeartbeats 2000000 in
set_option maxRecDepth 100000 in
theorem readO_none (S : ByteArray) (w : World) (hs : S.size ≤ 4294967296) (h : colon S.data.toList = none) :
    Calls Tryz.prog 45 #[.string S] w (ParseOwn S.data.toList w) := by
  have SP : Hid (∀ W, Calls Tryz.prog 79 #[.string S, .int .u8 58] W fun e w' => ∃ v, e = .returned v ∧ SO W.heap.size v [S.data.toList] w' ∧ Below W.heap.size W w') := fun W => by
    have := splitC_any S W hs
    rw [cutC_none h] at this
    exact this
  unfold ParseOwn
  rw [parseR_none h]
  have S0 := Lib.hid (stayR_new w (.slice none 0 0) (.slice none 0 0))
  have B0 : Hid (Below w.heap.size w (w.alloc (.cells #[.slice none 0 0, .slice none 0 0] 82))) := (Below.refl _ _).alloc (Nat.le_refl _) _
  clear h
  go_enter Tryz.func45, Tryz.ntmps45
  go_wp2_with fail
  refine (SP.out _).mono ?_
  rintro e w1 ⟨v1, rfl, o1, b1⟩
  obtain ⟨a1, c1, rfl⟩ := own_shape' o1
  have S1 := Lib.hid (S0.out.later b1)
  have B1 := Lib.hid (B0.out.trans (b1.mono (by simp)))
  clear o1 b1
  obtain ⟨s0, s1⟩ := S1.out.cells
  obtain ⟨f0, f1⟩ := S1.out.thaw
  simp only [List.length_singleton]
  go_wp2
  (try simp only [Exit.inBlock, Exit.then])
  refine bodyPost_ret (v := .tuple #[.agg #[.slice none 0 0, .slice none 0 0], .int .i64 3]) ?_ rfl ⟨.slice none 0 0, .slice none 0 0, rfl, World.ownsRow_nil _ _ _ _, World.ownsRow_nil _ _ _ _, (fun k hk => by cases hk), (B1.out.setCell (Nat.le_refl _) _).setCell (Nat.le_refl _) _⟩
  rw [results_cell_tmp rfl]; go_simp

set_option maxHeartbeats 8000000 in
set_option maxRecDepth 100000 in
theorem readO_some (S : ByteArray) (w : World) (hs : S.size ≤ 4294967296) (p : Str × Str) (h : colon S.data.toList = some p) :
    Calls Tryz.prog 45 #[.string S] w (ParseOwn S.data.toList w) := by
  obtain ⟨h1, h2, h3, h4, h5⟩ := colon_some h
  rw [size_list] at h1
  have l1 : p.1.length ≤ 4294967296 := by omega
  have l2 : p.2.length ≤ 4294967296 := by rw [← h5, List.length_drop, size_list]; omega
  have SP : Hid (∀ W, Calls Tryz.prog 79 #[.string S, .int .u8 58] W fun e w' => ∃ g n c, e = .returned (.slice (some ⟨g, 0, none⟩) n c) ∧ ((n : Int) == 1) = false ∧ 0 < n ∧ w'.cell? ⟨g, 0, none⟩ = some (.string (bs p.1)) ∧ Below W.heap.size W w') := fun W => by
    obtain ⟨y, t, e⟩ := cutC_some h
    have := splitC_any S W hs
    rw [e] at this
    refine this.mono fun e w' ⟨v, he, ho, hb⟩ => ?_
    rcases ho.2 with ⟨_, k⟩ | ⟨g, cap, cur, rfl, _⟩
    · cases k
    · refine ⟨g, _, cap, he, ?_, by simp, ?_, hb⟩
      · rw [beq_eq_false_iff_ne]; simp; omega
      · rw [World.ownsRow.cellAt ho 0 (by simp)]; rfl
  have x2 : S.extract (p.1.length + 1) S.size = bs p.2 := by rw [bs_drop S (p.1.length + 1), h5]
  have x1 : (bs p.1).size = p.1.length := bs_size _
  have W1 : Hid (∀ W, Calls Tryz.prog 72 #[.string (bs p.1)] W fun e w' => ∃ v, e = .returned v ∧ SO W.heap.size v (words p.1) w' ∧ Below W.heap.size W w') := fun W => wordsOf_any (bs p.1) W (by rw [bs_size]; exact l1)
  have W2 : Hid (∀ W, Calls Tryz.prog 72 #[.string (bs p.2)] W fun e w' => ∃ v, e = .returned v ∧ SO W.heap.size v (words p.2) w' ∧ Below W.heap.size W w') := fun W => wordsOf_any (bs p.2) W (by rw [bs_size]; exact l2)
  have SM1 := Lib.hid (words_small p.1 l1)
  have SM2 := Lib.hid (words_small p.2 l2)
  have OK : Hid (chkR (words p.1, words p.2) = 0 → parseR S.data.toList = ((words p.1, words p.2), 0)) := fun k => parseR_ok h k
  have BAD : Hid (chkR (words p.1, words p.2) ≠ 0 → parseR S.data.toList = (([], []), chkR (words p.1, words p.2))) := fun k => parseR_bad h k
  unfold ParseOwn
  clear h h2 h3 h4 h5 l1 l2
  generalize parseR S.data.toList = R at *
  generalize p.1.length = k at *
  generalize bs p.1 = y1 at *
  generalize bs p.2 = y2 at *
  generalize words p.1 = t at *
  generalize words p.2 = n at *
  have i1 : (k : Int) + 1 ≤ (S.size : Int) := by omega
  have i2 : ((k : Int) + 1).toNat = k + 1 := by omega
  have i3 : (0 : Int) ≤ (k : Int) := by omega
  have i5 : (0 : Int) ≤ (k : Int) + 1 := by omega
  have i6 : IntKind.i64.wrap ((k : Int) + 1) = (k : Int) + 1 := by unfold IntKind.wrap; simp [IntKind.bits, IntKind.signed]; omega
  have S0 := Lib.hid (stayR_new w (.slice none 0 0) (.slice none 0 0))
  have B0 : Hid (Below w.heap.size w (w.alloc (.cells #[.slice none 0 0, .slice none 0 0] 82))) := (Below.refl _ _).alloc (Nat.le_refl _) _
  go_enter Tryz.func45, Tryz.ntmps45
  go_wp2_with fail
  refine (SP.out _).mono ?_
  rintro e w1 ⟨g, m, cg, rfl, n1, n2, c0, b1⟩
  have S1 := Lib.hid (S0.out.later b1)
  have B1 := Lib.hid (B0.out.trans (b1.mono (by simp)))
  have CG : Hid (∀ W, Below w1.heap.size w1 W → W.cell? ⟨g, 0, none⟩ = some (.string y1)) := fun W hW => cell_later hW c0
  clear b1 h1 hs
  have BZ : Hid (∀ o, Below w1.heap.size w1 (w1.alloc o)) := fun o => (Below.refl _ _).alloc (Nat.le_refl _) o
  go_upto_region 4 with (fail)
  go_cut [5] from 13 to 25 (fun s5 wx => ∃ (q : Nat) (v4 v5 : Value), s5 = .pointer (some ⟨q, 0, none⟩) ∧ Hid (StayR q v4 v5 wx) ∧ Hid (SO w1.heap.size v4 t wx) ∧ Hid (SO w1.heap.size v5 n wx) ∧ Hid (Apart v4 v5) ∧ Hid (Below w1.heap.size w1 wx))
  case first =>
    go_region_held3 (fun w' => w'.cell? ⟨g, 0, none⟩ = some (.string y1)) (first | exact c0 | exact k4 | exact k5 | exact k6 | exact CG.out _ (BZ.out _) | exact CG.out _ (B4.out.alloc B4.out.size _) | exact CG.out _ (B5.out.alloc B5.out.size _) | exact CG.out _ ((B5.out.setCell B4.out.size _).setCell B4.out.size _) | exact CG.out _ ((B5.out.setCell (Nat.le_refl _) _).setCell (Nat.le_refl _) _) | assumption | go_keep) (first
      | (go_at_call_of 72 (Value.string y1)
         refine (W1.out w1.drew).mono ?_
         rintro e w4 ⟨v4, rfl, i4, b4⟩
         have B4 : Hid (Below w1.heap.size w1 w4) := (Below.refl _ _).drew.trans b4
         have k4 := CG.out _ B4.out
         obtain ⟨a4, c4, rfl⟩ := own_len i4
         have I4 : Hid (SO w1.heap.size _ t w4) := so_base i4 (by simp)
         clear b4 i4)
      | (go_at_call_of 72 (Value.string y1)
         refine (W1.out (w1.alloc (.cells #[.slice none 0 0, .slice none 0 0] 82)).drew).mono ?_
         rintro e w4 ⟨v4, rfl, i4, b4⟩
         have B4 : Hid (Below w1.heap.size w1 w4) := (BZ.out _).drew.trans (b4.mono (BZ.out _).size)
         have k4 := CG.out _ B4.out
         have Z4 : Hid (StayR w1.heap.size (.slice none 0 0) (.slice none 0 0) w4) := (stayR_new w1 _ _).later ((Below.refl _ _).drew.trans b4)
         obtain ⟨a4, c4, rfl⟩ := own_len i4
         have I4 : Hid (SO w1.heap.size _ t w4) := so_base i4 (by simp)
         clear b4 i4)
      | (go_at_call_of 72 (Value.string y2)
         refine (W2.out w4).mono ?_
         rintro e w5 ⟨v5, rfl, i5, b5⟩
         have Z5 := Lib.hid (Z4.out.later b5)
         have B5 : Hid (Below w1.heap.size w1 w5) := B4.out.trans (b5.mono B4.out.size)
         have k5 := CG.out _ B5.out
         obtain ⟨a5, c5, rfl⟩ := own_len i5
         have AP : Hid (Apart _ _) := apart_new I4.out i5 (by first | exact Nat.le_refl _ | simp)
         have I5 : Hid (SO w1.heap.size _ n w5) := so_base i5 (by first | exact B4.out.size | (have := B4.out.size; simp; omega))
         have J4 := Lib.hid (own_later I4.out b5)
         obtain ⟨z0, z1⟩ := Z5.out.cells
         obtain ⟨f0, f1⟩ := Z5.out.thaw
         clear b5 i5)
      | (go_at_call_of 72 (Value.string y2)
         refine (W2.out w4).mono ?_
         rintro e w5 ⟨v5, rfl, i5, b5⟩
         have B5 : Hid (Below w1.heap.size w1 w5) := B4.out.trans (b5.mono B4.out.size)
         have k5 := CG.out _ B5.out
         obtain ⟨a5, c5, rfl⟩ := own_len i5
         have AP : Hid (Apart _ _) := apart_new I4.out i5 (by first | exact Nat.le_refl _ | simp)
         have I5 : Hid (SO w1.heap.size _ n w5) := so_base i5 (by first | exact B4.out.size | (have := B4.out.size; simp; omega))
         have J4 := Lib.hid (own_later I4.out b5)
         clear b5 i5)
      | (go_at_call_of 72 (Value.string y2)
         refine (W2.out (w4.alloc (.cells #[.slice none 0 0, .slice none 0 0] 82))).mono ?_
         rintro e w5 ⟨v5, rfl, i5, b5⟩
         have b45 : Below w4.heap.size w4 w5 := ((Below.refl _ _).alloc (Nat.le_refl _) _).trans (b5.mono (by simp))
         have Z5 : Hid (StayR w4.heap.size (.slice none 0 0) (.slice none 0 0) w5) := (stayR_new w4 _ _).later b5
         have B5 : Hid (Below w1.heap.size w1 w5) := B4.out.trans (b45.mono B4.out.size)
         have k5 := CG.out _ B5.out
         obtain ⟨a5, c5, rfl⟩ := own_len i5
         have AP : Hid (Apart _ _) := apart_new I4.out i5 (by first | exact Nat.le_refl _ | simp)
         have I5 : Hid (SO w1.heap.size _ n w5) := so_base i5 (by first | exact B4.out.size | (have := B4.out.size; simp; omega))
         have J4 := Lib.hid (own_later I4.out b45)
         obtain ⟨z0, z1⟩ := Z5.out.cells
         obtain ⟨f0, f1⟩ := Z5.out.thaw
         clear b5 i5 b45))
    · go_wp2_with fail
      go_meet
      case rel => exact ⟨w5.heap.size, _, _, rfl, stayR_new w5 _ _, own_later J4.out ((Below.refl _ _).alloc (Nat.le_refl _) _), own_later I5.out ((Below.refl _ _).alloc (Nat.le_refl _) _), AP.out, B5.out.alloc B5.out.size _⟩
    · go_wp2_with fail
      go_meet
      case rel => exact ⟨w4.heap.size, _, _, rfl, stayR_set Z5.out _ _, so_set2 J4.out Z5.out _ _, so_set2 I5.out Z5.out _ _, AP.out, (B5.out.setCell B4.out.size _).setCell B4.out.size _⟩
    · go_wp2_with fail
      go_meet
      case rel => exact ⟨w1.heap.size, _, _, rfl, stayR_set Z5.out _ _, so_set2 J4.out Z5.out _ _, so_set2 I5.out Z5.out _ _, AP.out, (B5.out.setCell (Nat.le_refl _) _).setCell (Nat.le_refl _) _⟩
  case rest =>
    obtain ⟨q, v4, v5, rfl, K5, I5, J5, AP, BX⟩ := hcut
    rename World => wx
    have S5 := Lib.hid (S1.out.later BX.out)
    have B5 := Lib.hid (B1.out.trans (BX.out.mono B1.out.size))
    obtain ⟨a1, c1, rfl⟩ := own_len I5.out
    obtain ⟨a2, c2, rfl⟩ := own_len J5.out
    have WS := Lib.hid B1.out.size
    have FA := Lib.hid (fault_any (SIn.own I5.out SM1.out.1 SM1.out.2) (SIn.own J5.out SM2.out.1 SM2.out.2))
    clear S1 B1 BX CG BZ c0
    generalize t.length = lt at *
    generalize n.length = ln at *
    obtain ⟨k0, k1⟩ := K5.out.cells
    go_wp2_with fail
    refine FA.out.mono ?_
    rintro e w6 ⟨rfl, b6⟩
    have S6 := Lib.hid (S5.out.later b6)
    have B6 := Lib.hid (B5.out.trans (b6.mono B5.out.size))
    have I6 := Lib.hid (so_base (own_later I5.out b6) WS.out)
    have J6 := Lib.hid (so_base (own_later J5.out b6) WS.out)
    have K6 := Lib.hid (K5.out.later b6)
    clear b6 k0 k1
    obtain ⟨k0, k1⟩ := K6.out.cells
    obtain ⟨s0, s1⟩ := S6.out.cells
    obtain ⟨f0, f1⟩ := S6.out.thaw
    by_cases hc : chkR (t, n) = 0
    · have E := Lib.hid (OK.out hc)
      rw [hc]
      clear hc
      go_wp2
      (try simp only [Exit.inBlock, Exit.then])
      refine bodyPost_ret (v := .tuple #[.agg #[.slice a1 lt c1, .slice a2 ln c2], .int .i64 0]) ?_ rfl ⟨.slice a1 lt c1, .slice a2 ln c2, by rw [E.out], ?_, ?_, AP.out, (B6.out.setCell (Nat.le_refl _) _).setCell (Nat.le_refl _) _⟩
      · rw [results_cell_tmp rfl]; go_simp
      · rw [E.out]; exact so_set2 I6.out S6.out _ _
      · rw [E.out]; exact so_set2 J6.out S6.out _ _
    · have hne : (chkR (t, n) != 0) = true := by rw [bne_iff_ne]; exact hc
      have E := Lib.hid (BAD.out hc)
      clear hc
      go_wp2
      (try simp only [Exit.inBlock, Exit.then])
      refine bodyPost_ret (v := .tuple #[.agg #[.slice none 0 0, .slice none 0 0], .int .i64 (chkR (t, n))]) ?_ rfl ⟨.slice none 0 0, .slice none 0 0, by rw [E.out], ?_, ?_, (fun k hk => by cases hk), (B6.out.setCell (Nat.le_refl _) _).setCell (Nat.le_refl _) _⟩
      · rw [results_cell_tmp rfl]; go_simp
      · rw [E.out]; exact World.ownsRow_nil _ _ _ _
      · rw [E.out]; exact World.ownsRow_nil _ _ _ _
theorem readO_any (S : ByteArray) (w : World) (hs : S.size ≤ 4294967296) : Calls Tryz.prog 45 #[.string S] w (ParseOwn S.data.toList w) := by
  cases h : colon S.data.toList with
  | none => exact readO_none S w hs h
  | some p => exact readO_some S w hs p h
end Go.Proofs.YtfgcbdjkimkgpaaGreatDoor
