/-
  Files that are the same for the reference: SameFile. No condition beyond the forms' own.
-/
import Derived.Test.YtfgcbdjkimkgpaaGreatDoorFSt
namespace Go.Proofs.YtfgcbdjkimkgpaaGreatDoor
set_option maxRecDepth 100000
set_option linter.unusedVariables false
open Go.ChangeShapes Go.WideShapes Go.ChangeAt Go.RowKit

theorem take_bothM {z y : List Mc} (hl : z.length = y.length) : (∀ k, k < z.length → (z.take (k + 1) = y.take (k + 1) ↔ z.take k = y.take k ∧ (nm z k, vl z k) = (nm y k, vl y k))) ∧ (z.take z.length = y.take z.length → z = y) :=
  ⟨fun k hk => take_both (at_some hk) (at_some (by rw [← hl]; exact hk)), fun e => by rw [List.take_length, hl, List.take_length] at e; exact e⟩
set_option maxHeartbeats 8000000 in
theorem rsame_any {w : World} {m1 p1 i1 r1 m2 p2 i2 r2 : Value} {F G : Fil} (h : FIn w m1 p1 i1 r1 F) (g : FIn w m2 p2 i2 r2 G) :
    Calls Tryz.prog 15 #[.agg #[m1, p1, i1, r1], .agg #[m2, p2, i2, r2]] w fun e w' => e = .returned (.bool (decide (F = G))) ∧ Below w.heap.size w w' := by
  obtain ⟨F1, F2, F3, F4⟩ := F
  obtain ⟨G1, G2, G3, G4⟩ := G
  obtain ⟨ha, hb, hc, hd⟩ := h
  obtain ⟨ga, gb, gc, gd⟩ := g
  simp only [] at ha hb hc hd ga gb gc gd
  obtain ⟨x1, y1, rfl⟩ := ha.shape
  obtain ⟨x2, y2, rfl⟩ := hb.shape
  obtain ⟨x3, y3, rfl⟩ := hc.shape
  obtain ⟨x4, y4, rfl⟩ := hd.shape
  obtain ⟨x5, y5, rfl⟩ := ga.shape
  obtain ⟨x6, y6, rfl⟩ := gb.shape
  obtain ⟨x7, y7, rfl⟩ := gc.shape
  obtain ⟨x8, y8, rfl⟩ := gd.shape
  have n1 := ha.bound; have n3 := hc.bound; have n5 := ga.bound; have n7 := gc.bound
  have ba : Below w.heap.size w ((w.alloc (.cells #[.slice x1 F1.length y1, .slice x2 F2.length y2, .slice x3 F3.length y3, .slice x4 F4.length y4] 36)).alloc (.cells #[.slice x5 G1.length y5, .slice x6 G2.length y6, .slice x7 G3.length y7, .slice x8 G4.length y8] 36)) := ((Below.refl _ w).alloc (Nat.le_refl _) _).alloc (by simp) _
  have s1 : Blk w.heap.size #[.slice x1 F1.length y1, .slice x2 F2.length y2, .slice x3 F3.length y3, .slice x4 F4.length y4] 36 ((w.alloc (.cells #[.slice x1 F1.length y1, .slice x2 F2.length y2, .slice x3 F3.length y3, .slice x4 F4.length y4] 36)).alloc (.cells #[.slice x5 G1.length y5, .slice x6 G2.length y6, .slice x7 G3.length y7, .slice x8 G4.length y8] 36)) := (blk_new w _ _).alloc _
  have s2 : Blk (w.heap.size + 1) #[.slice x5 G1.length y5, .slice x6 G2.length y6, .slice x7 G3.length y7, .slice x8 G4.length y8] 36 ((w.alloc (.cells #[.slice x1 F1.length y1, .slice x2 F2.length y2, .slice x3 F3.length y3, .slice x4 F4.length y4] 36)).alloc (.cells #[.slice x5 G1.length y5, .slice x6 G2.length y6, .slice x7 G3.length y7, .slice x8 G4.length y8] 36)) := by
    have := blk_new (w.alloc (.cells #[.slice x1 F1.length y1, .slice x2 F2.length y2, .slice x3 F3.length y3, .slice x4 F4.length y4] 36)) #[.slice x5 G1.length y5, .slice x6 G2.length y6, .slice x7 G3.length y7, .slice x8 G4.length y8] 36
    rw [show (w.alloc (.cells #[.slice x1 F1.length y1, .slice x2 F2.length y2, .slice x3 F3.length y3, .slice x4 F4.length y4] 36)).heap.size = w.heap.size + 1 by simp] at this
    exact this
  obtain ⟨w0, hw0⟩ : ∃ w0, w0 = ((w.alloc (.cells #[.slice x1 F1.length y1, .slice x2 F2.length y2, .slice x3 F3.length y3, .slice x4 F4.length y4] 36)).alloc (.cells #[.slice x5 G1.length y5, .slice x6 G2.length y6, .slice x7 G3.length y7, .slice x8 G4.length y8] 36)) := ⟨_, rfl⟩
  rw [← hw0] at ba s1 s2
  have BA := Lib.hid ba; have S1 := Lib.hid s1; have S2 := Lib.hid s2
  replace ha := ha.later ba; replace hb := hb.later ba; replace hc := hc.later ba; replace hd := hd.later ba
  replace ga := ga.later ba; replace gb := gb.later ba; replace gc := gc.later ba; replace gd := gd.later ba
  have E2 := Lib.hid (sameTexts_dec hb gb)
  have E4 : Hid (∀ q, Calls Tryz.prog 41 #[.slice x4 F4.length y4, .slice x8 G4.length y8] (w0.drewN q) fun e w' => e = .returned (.bool (decide (F4 = G4))) ∧ Below w0.heap.size w0 w') := fun q => (sameRules_dec (hd.later (below_drewN (Below.refl _ _) q)) (gd.later (below_drewN (Below.refl _ _) q))).mono fun e w' k => ⟨k.1, (below_drewN (Below.refl _ _) q).trans k.2⟩
  have HF1 : Hid (∀ W, Below w0.heap.size w0 W → ∀ k, k < F1.length → ∃ b off, x1 = some ⟨b, off, none⟩ ∧ W.cell? ⟨b, off + k * 2, none⟩ = some (.string (bs (nm F1 k))) ∧ W.cell? ⟨b, off + k * 2 + 1, none⟩ = some (.string (bs (vl F1 k)))) := fun W hW k hk => (ha.later hW).get hk
  have HG1 : Hid (∀ W, Below w0.heap.size w0 W → ∀ k, k < G1.length → ∃ b off, x5 = some ⟨b, off, none⟩ ∧ W.cell? ⟨b, off + k * 2, none⟩ = some (.string (bs (nm G1 k))) ∧ W.cell? ⟨b, off + k * 2 + 1, none⟩ = some (.string (bs (vl G1 k)))) := fun W hW k hk => (ga.later hW).get hk
  have HF3 : Hid (∀ W, Below w0.heap.size w0 W → ∀ k, k < F3.length → ∃ b off, x3 = some ⟨b, off, none⟩ ∧ W.cell? ⟨b, off + k * 2, none⟩ = some (.string (bs (nm F3 k))) ∧ W.cell? ⟨b, off + k * 2 + 1, none⟩ = some (.string (bs (vl F3 k)))) := fun W hW k hk => (hc.later hW).get hk
  have HG3 : Hid (∀ W, Below w0.heap.size w0 W → ∀ k, k < G3.length → ∃ b off, x7 = some ⟨b, off, none⟩ ∧ W.cell? ⟨b, off + k * 2, none⟩ = some (.string (bs (nm G3 k))) ∧ W.cell? ⟨b, off + k * 2 + 1, none⟩ = some (.string (bs (vl G3 k)))) := fun W hW k hk => (gc.later hW).get hk
  have D0 : Hid (F1 = G1 → F2 = G2 → F3 = G3 → F4 = G4 → decide (((F1, F2, F3, F4) : Fil) = (G1, G2, G3, G4)) = true) := fun a b c d => decide_eq_true (by rw [a, b, c, d])
  have N0 : Hid (¬ (F1 = G1 ∧ F2 = G2 ∧ F3 = G3 ∧ F4 = G4) → decide (((F1, F2, F3, F4) : Fil) = (G1, G2, G3, G4)) = false) := fun e => decide_eq_false fun h => e (by injection h with a h; injection h with b h; injection h with c d; exact ⟨a, b, c, d⟩)
  generalize decide (((F1, F2, F3, F4) : Fil) = (G1, G2, G3, G4)) = D at *
  have HW0 := Lib.hid hw0
  clear ha hb hc hd ga gb gc gd ba s1 s2
  by_cases l1 : F1.length = G1.length
  · by_cases l3 : F3.length = G3.length
    · obtain ⟨TK1, FN1⟩ := show _ ∧ _ from ⟨Lib.hid (take_bothM l1).1, Lib.hid (take_bothM l1).2⟩
      obtain ⟨TK3, FN3⟩ := show _ ∧ _ from ⟨Lib.hid (take_bothM l3).1, Lib.hid (take_bothM l3).2⟩
      have NE1 : Hid (∀ k, F1.take k ≠ G1.take k → D = false) := fun k hk => N0.out fun e => hk (by rw [e.1])
      have NE3 : Hid (∀ k, F3.take k ≠ G3.take k → D = false) := fun k hk => N0.out fun e => hk (by rw [e.2.2.1])
      rw [← l1] at n5 HG1 hw0 S2
      rw [← l3] at n7 HG3 hw0 S2
      have HW0 := Lib.hid hw0
      rw [← l1, ← l3] at *
      clear l1 l3 hw0
      generalize F1.length = L1 at *
      generalize F3.length = L3 at *
      generalize F2.length = L2 at *
      generalize F4.length = L4 at *
      generalize G2.length = L6 at *
      generalize G4.length = L8 at *
      by_cases h2 : F2 = G2
      · rw [decide_eq_true h2] at E2
        have H2 := Lib.hid h2; clear h2
        by_cases h4 : F4 = G4
        · rw [decide_eq_true h4] at E4
          have H4 := Lib.hid h4; clear h4
          go_enter Tryz.func15, Tryz.ntmps15
          go_wp2_with fail
          rw [← HW0.out]
          clear HW0
          refine E2.out.mono ?_
          rintro e w1 ⟨rfl, q1, rfl⟩
          obtain ⟨a0, a1, a2, a3⟩ := show _ ∧ _ ∧ _ ∧ _ from ⟨S1.out.cell (i := 0) rfl, S1.out.cell (i := 1) rfl, S1.out.cell (i := 2) rfl, S1.out.cell (i := 3) rfl⟩
          obtain ⟨c0, c1, c2, c3⟩ := show _ ∧ _ ∧ _ ∧ _ from ⟨S2.out.cell (i := 0) rfl, S2.out.cell (i := 1) rfl, S2.out.cell (i := 2) rfl, S2.out.cell (i := 3) rfl⟩
          go_wp2_with fail
          refine (E4.out _).mono ?_
          rintro e w2 ⟨rfl, b2⟩
          have B2 : Hid (Below w.heap.size w w2) := BA.out.trans (b2.mono BA.out.size)
          have T1 := Lib.hid (S1.out.later b2); have T2 := Lib.hid (S2.out.later b2)
          have HC1 := Lib.hid (HF1.out w2 b2); have HD1 := Lib.hid (HG1.out w2 b2)
          have HC3 := Lib.hid (HF3.out w2 b2); have HD3 := Lib.hid (HG3.out w2 b2)
          clear b2 a0 a1 a2 a3 c0 c1 c2 c3 HF1 HG1 HF3 HG3 E2 E4 S1 S2 BA
          obtain ⟨a0, a2⟩ := show _ ∧ _ from ⟨T1.out.cell (i := 0) rfl, T1.out.cell (i := 2) rfl⟩
          obtain ⟨c0, c2⟩ := show _ ∧ _ from ⟨T2.out.cell (i := 0) rfl, T2.out.cell (i := 2) rfl⟩
          go_wp2_with fail
          go_loopw [42] (fun i wr => ∃ k : Nat, k ≤ L1 ∧ i = .int .i64 (k : Int) ∧ F1.take k = G1.take k ∧ ∃ m, wr = w2.drewN m) (fun i _ => L1 - (intOf i).toNat)
          case atStart => exact ⟨0, by omega, rfl, by simp, 0, rfl⟩
          case round =>
            obtain ⟨k, hk, rfl, heq, m, rfl⟩ := hrel
            have EQ := Lib.hid heq; clear heq
            by_cases hkl : k < L1
            · obtain ⟨b1, o1, rfl, d1, d1'⟩ := HC1.out k hkl
              obtain ⟨b2, o2, rfl, d2, d2'⟩ := HD1.out k hkl
              have T1 := Lib.hid (TK1.out k hkl)
              generalize nm F1 k = p at *
              generalize vl F1 k = q at *
              generalize nm G1 k = r at *
              generalize vl G1 k = s at *
              have e1 : ((bs p).toList == (bs r).toList) = decide (p = r) := by rw [bs_toList, bs_toList, beq_dec]
              have e2 : ((bs q).toList == (bs s).toList) = decide (q = s) := by rw [bs_toList, bs_toList, beq_dec]
              by_cases hx : p = r
              · rw [decide_eq_true hx] at e1
                by_cases hy : q = s
                · rw [decide_eq_true hy] at e2
                  have NX : Hid (F1.take (k + 1) = G1.take (k + 1)) := T1.out.2 ⟨EQ.out, by rw [hx, hy]⟩
                  clear hx hy
                  go_wp2_with fail
                  go_quiet (fail)
                  go_wp2
                  go_roundw
                  case rel => exact ⟨k + 1, by omega, by go_num, NX.out, _, by first | rfl | exact World.drewN_drewN _ _ _⟩
                  case measure => simp [intOf]; omega
                · rw [decide_eq_false hy] at e2
                  have NX : Hid (D = false) := NE1.out (k + 1) fun e => hy (Prod.mk.inj (T1.out.1 e).2).2
                  clear hx hy
                  go_wp2_with fail
                  go_quiet (fail)
                  go_wp2
                  go_ret
                  exact ⟨by rw [NX.out]; rfl, by first | exact below_drewN B2.out _ | exact below_drewN (below_drewN B2.out _) _⟩
              · rw [decide_eq_false hx] at e1
                have NX : Hid (D = false) := NE1.out (k + 1) fun e => hx (Prod.mk.inj (T1.out.1 e).2).1
                clear hx
                go_wp2_with fail
                go_quiet (fail)
                go_wp2
                go_ret
                exact ⟨by rw [NX.out]; rfl, by first | exact below_drewN B2.out _ | exact below_drewN (below_drewN B2.out _) _⟩
            · obtain rfl : k = L1 := by omega
              have Q1 := Lib.hid (FN1.out EQ.out)
              clear EQ TK1 FN1 NE1 HC1 HD1 a0 c0
              go_wp2_with fail
              go_loopw [60] (fun i wr => ∃ k : Nat, k ≤ L3 ∧ i = .int .i64 (k : Int) ∧ F3.take k = G3.take k ∧ ∃ m, wr = w2.drewN m) (fun i _ => L3 - (intOf i).toNat)
              case atStart => exact ⟨0, by omega, rfl, by simp, _, rfl⟩
              case round =>
                obtain ⟨k, hk, rfl, heq, m, rfl⟩ := hrel
                have EQ := Lib.hid heq; clear heq
                by_cases hkl : k < L3
                · obtain ⟨b1, o1, rfl, d1, d1'⟩ := HC3.out k hkl
                  obtain ⟨b2, o2, rfl, d2, d2'⟩ := HD3.out k hkl
                  have T1 := Lib.hid (TK3.out k hkl)
                  generalize nm F3 k = p at *
                  generalize vl F3 k = q at *
                  generalize nm G3 k = r at *
                  generalize vl G3 k = s at *
                  have e1 : ((bs p).toList == (bs r).toList) = decide (p = r) := by rw [bs_toList, bs_toList, beq_dec]
                  have e2 : ((bs q).toList == (bs s).toList) = decide (q = s) := by rw [bs_toList, bs_toList, beq_dec]
                  by_cases hx : p = r
                  · rw [decide_eq_true hx] at e1
                    by_cases hy : q = s
                    · rw [decide_eq_true hy] at e2
                      have NX : Hid (F3.take (k + 1) = G3.take (k + 1)) := T1.out.2 ⟨EQ.out, by rw [hx, hy]⟩
                      clear hx hy
                      go_wp2_with fail
                      go_quiet (fail)
                      go_wp2
                      go_roundw
                      case rel => exact ⟨k + 1, by omega, by go_num, NX.out, _, by first | rfl | exact World.drewN_drewN _ _ _⟩
                      case measure => simp [intOf]; omega
                    · rw [decide_eq_false hy] at e2
                      have NX : Hid (D = false) := NE3.out (k + 1) fun e => hy (Prod.mk.inj (T1.out.1 e).2).2
                      clear hx hy
                      go_wp2_with fail
                      go_quiet (fail)
                      go_wp2
                      go_ret
                      exact ⟨by rw [NX.out]; rfl, by first | exact below_drewN B2.out _ | exact below_drewN (below_drewN B2.out _) _⟩
                  · rw [decide_eq_false hx] at e1
                    have NX : Hid (D = false) := NE3.out (k + 1) fun e => hx (Prod.mk.inj (T1.out.1 e).2).1
                    clear hx
                    go_wp2_with fail
                    go_quiet (fail)
                    go_wp2
                    go_ret
                    exact ⟨by rw [NX.out]; rfl, by first | exact below_drewN B2.out _ | exact below_drewN (below_drewN B2.out _) _⟩
                · obtain rfl : k = L3 := by omega
                  have OUT := Lib.hid (D0.out Q1.out H2.out (FN3.out EQ.out) H4.out)
                  go_wp2
                  go_ret
                  exact ⟨by rw [OUT.out]; rfl, by first | exact below_drewN B2.out _ | exact below_drewN (below_drewN B2.out _) _⟩
        · rw [decide_eq_false h4] at E4
          have NX : Hid (D = false) := N0.out fun e => h4 e.2.2.2
          clear h4
          go_enter Tryz.func15, Tryz.ntmps15
          go_wp2_with fail
          rw [← HW0.out]
          clear HW0
          refine E2.out.mono ?_
          rintro e w1 ⟨rfl, q1, rfl⟩
          obtain ⟨a0, a1, a2, a3⟩ := show _ ∧ _ ∧ _ ∧ _ from ⟨S1.out.cell (i := 0) rfl, S1.out.cell (i := 1) rfl, S1.out.cell (i := 2) rfl, S1.out.cell (i := 3) rfl⟩
          obtain ⟨c0, c1, c2, c3⟩ := show _ ∧ _ ∧ _ ∧ _ from ⟨S2.out.cell (i := 0) rfl, S2.out.cell (i := 1) rfl, S2.out.cell (i := 2) rfl, S2.out.cell (i := 3) rfl⟩
          go_wp2_with fail
          refine (E4.out _).mono ?_
          rintro e w2 ⟨rfl, b2⟩
          have B2 : Hid (Below w.heap.size w w2) := BA.out.trans (b2.mono BA.out.size)
          clear b2
          go_wp2
          go_ret
          exact ⟨by rw [NX.out]; rfl, B2.out⟩
      · rw [decide_eq_false h2] at E2
        have NX : Hid (D = false) := N0.out fun e => h2 e.2.1
        clear h2
        go_enter Tryz.func15, Tryz.ntmps15
        go_wp2_with fail
        rw [← HW0.out]
        clear HW0
        refine E2.out.mono ?_
        rintro e w1 ⟨rfl, q1, rfl⟩
        go_wp2
        go_ret
        exact ⟨by rw [NX.out]; rfl, below_drewN BA.out _⟩
    · have NX : Hid (D = false) := N0.out fun e => l3 (by rw [e.2.2.1])
      have l1' : ((F1.length : Int) != (G1.length : Int)) = false := by rw [l1]; simp
      have l3' : ((F3.length : Int) != (G3.length : Int)) = true := by rw [bne_iff_ne]; omega
      have BA2 := BA
      rw [hw0] at BA2
      clear l1 l3 hw0 HW0
      generalize F1.length = L1 at *
      generalize F3.length = L3 at *
      generalize F2.length = L2 at *
      generalize F4.length = L4 at *
      generalize G1.length = L5 at *
      generalize G2.length = L6 at *
      generalize G3.length = L7 at *
      generalize G4.length = L8 at *
      clear HF1 HG1 HF3 HG3 E2 E4 S1 S2 BA
      go_enter Tryz.func15, Tryz.ntmps15
      go_wp2
      go_ret
      exact ⟨by rw [NX.out]; rfl, BA2.out⟩
  · have NX : Hid (D = false) := N0.out fun e => l1 (by rw [e.1])
    have l1' : ((F1.length : Int) != (G1.length : Int)) = true := by rw [bne_iff_ne]; omega
    have BA2 := BA
    rw [hw0] at BA2
    clear l1 hw0 HW0
    generalize F1.length = L1 at *
    generalize F3.length = L3 at *
    generalize F2.length = L2 at *
    generalize F4.length = L4 at *
    generalize G1.length = L5 at *
    generalize G2.length = L6 at *
    generalize G3.length = L7 at *
    generalize G4.length = L8 at *
    clear HF1 HG1 HF3 HG3 E2 E4 S1 S2 BA
    go_enter Tryz.func15, Tryz.ntmps15
    go_wp2
    go_ret
    exact ⟨by rw [NX.out]; rfl, BA2.out⟩
end Go.Proofs.YtfgcbdjkimkgpaaGreatDoor
