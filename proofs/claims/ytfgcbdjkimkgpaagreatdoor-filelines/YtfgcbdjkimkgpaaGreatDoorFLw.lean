/-
  The law FileLines, walked. No condition beyond the form's own.
-/
import Derived.Test.YtfgcbdjkimkgpaaGreatDoorFLd
import Derived.Test.YtfgcbdjkimkgpaaGreatDoorFRr
import Derived.Test.YtfgcbdjkimkgpaaGreatDoorFSf
namespace Go.Proofs.YtfgcbdjkimkgpaaGreatDoor
set_option maxRecDepth 100000
set_option linter.unusedVariables false
open Go.ChangeShapes Go.WideShapes Go.ChangeAt Go.RowKit

theorem small_big {T : List Mc} (h : T.any big4 = false) : ∀ m ∈ T, m.2.length ≤ 400 := fun m hm => by
  have := List.any_eq_false.1 h m hm
  unfold big4 at this
  simp only [decide_eq_true_eq] at this
  omega
set_option maxHeartbeats 8000000 in
theorem file_lines {w : World} {v : Value} {T : List Mc} (S : ByteArray) (h : McIn w v T) (hx : ∀ m ∈ T, m.1.length ≤ maxLen) (hm : MX w) :
    Calls Tryz.prog 3 #[.string S, v] w fun e w' => e = .returned (.bool true) ∧ Below w.heap.size w w' := by
  have HM : Hid (∀ W, Below w.heap.size w W → McIn W v T) := fun W hW => h.later hW
  have MM : Hid (∀ W, Below w.heap.size w W → MX W) := fun W hW => hm.later hW
  have TC : Hid (∀ W, Below w.heap.size w W → Calls Tryz.prog 9 #[v, .func (.func 10) #[] #[]] W fun e w' => e = .returned (.bool (T.any big4)) ∧ Below W.heap.size W w') := fun W hW => tcontains_any (h.later hW)
  obtain ⟨s, rfl⟩ : ∃ s, S = bs s := ⟨S.data.toList, (bs_of S).symm⟩
  have sz : (bs s).size = s.length := bs_size _
  have HX := Lib.hid hx
  obtain ⟨a, cap, rfl⟩ := h.shape
  clear h hm hx
  by_cases hs : 400 < s.length
  · clear TC
    go_enter Tryz.func3, Tryz.ntmps3
    go_wp2
    go_ret
    exact ⟨rfl, Below.refl _ _⟩
  · cases hb : T.any big4
    · rw [hb] at TC
      have SB := Lib.hid (small_big hb)
      have LA : Hid (∀ W, Below w.heap.size w W → Calls Tryz.prog 11 #[.string (bs s), .slice a T.length cap] W (LnPost s T W)) := fun W hW => flines_any s T _ W (by omega) (HM.out W hW) (fun m hm => ⟨HX.out m hm, by have := SB.out m hm; omega⟩) (MM.out W hW)
      have LB : Hid (∀ W, Below w.heap.size w W → Calls Tryz.prog 12 #[.string (bs s), .slice a T.length cap] W (LnPost s T W)) := fun W hW => rflines_any s T _ W (by omega) (HM.out W hW) (fun m hm => ⟨HX.out m hm, by have := SB.out m hm; omega⟩)
      have LC : Hid (∀ W, Below w.heap.size w W → Calls Tryz.prog 14 #[.string (bs s), .slice a T.length cap] W (LdPost s T W)) := fun W hW => load_any s T _ W (by omega) (HM.out W hW) (fun m hm => ⟨HX.out m hm, by have := SB.out m hm; omega⟩) (MM.out W hW)
      have L0 : Hid ((linesR s T).2 ≠ 0 → loadR s T = (([], [], [], []), (linesR s T).2)) := fun h => by unfold loadR; rw [if_pos h]
      have L1 : Hid ((linesR s T).2 = 0 → loadR s T = ((parseF (linesR s T).1).1, (parseF (linesR s T).1).2.2)) := fun h => by unfold loadR; rw [if_neg (fun e => e h)]
      clear hb HX SB HM MM
      generalize T.length = lt at *
      go_enter Tryz.func3, Tryz.ntmps3
      go_wp2_with fail
      refine (TC.out _ (Below.refl _ _)).mono ?_
      rintro e w1 ⟨rfl, b1⟩
      have B1 := Lib.hid b1
      clear b1 TC
      go_wp2_with fail
      refine (LA.out _ B1.out).mono ?_
      rintro e w2 ⟨b2, v2, rfl, h2, _, _⟩
      have B2 := Lib.hid (B1.out.trans (b2.mono B1.out.size))
      have H2 := Lib.hid h2
      obtain ⟨a2, c2, rfl⟩ := h2.shape
      clear b2 h2 LA
      go_wp2_with fail
      refine (LB.out _ B2.out).mono ?_
      rintro e w3 ⟨b3, v3, rfl, h3, hx3, _⟩
      have B3 := Lib.hid (B2.out.trans (b3.mono B2.out.size))
      have H3 := Lib.hid h3
      have X3 := Lib.hid hx3
      have EQ := equal_of (H2.out.later b3) h3
      rw [decide_eq_true rfl] at EQ
      have EQ' := Lib.hid EQ
      obtain ⟨a3, c3, rfl⟩ := h3.shape
      have q1 : ((linesR s T).2 != (linesR s T).2) = false := by simp
      clear b3 h3 hx3 LB H2 EQ
      have HLL : Hid ((linesR s T).1.length = (linesR s T).1.length) := rfl
      go_wp2_with fail
      refine EQ'.out.mono ?_
      rintro e w4 ⟨rfl, n4, hw4⟩
      have b4 : Below w3.heap.size w3 w4 := by rw [hw4]; exact below_drewN (Below.refl _ _) _
      have B4 := Lib.hid (B3.out.trans (b4.mono B3.out.size))
      have H4 := Lib.hid (H3.out.later b4)
      clear b4 hw4 EQ' H3
      by_cases hE : (linesR s T).2 = 0
      · have LD := LC.out w4 B4.out
        unfold LdPost at LD
        rw [L1.out hE] at LD
        have LD' := Lib.hid LD
        rw [hE]
        clear LD hE LC L0 L1 q1 HLL
        generalize (linesR s T).1 = L at *
        go_wp2_with fail
        refine LD'.out.mono ?_
        rintro e w5 ⟨b5, vm, vp, vi, vr, rfl, hf⟩
        have B5 := Lib.hid (B4.out.trans (b5.mono B4.out.size))
        obtain ⟨a5, c5, a6, c6, a7, c7, a8, c8, rfl, rfl, rfl, rfl⟩ := hf.shapes
        have ba : Below w5.heap.size w5 (w5.alloc (.cells #[.slice a5 (parseF L).1.1.length c5, .slice a6 (parseF L).1.2.1.length c6, .slice a7 (parseF L).1.2.2.1.length c7, .slice a8 (parseF L).1.2.2.2.length c8] 36)) := (Below.refl _ _).alloc (Nat.le_refl _) _
        have B6 := Lib.hid (B5.out.trans (ba.mono B5.out.size))
        have F6 := Lib.hid (hf.later ba)
        have X6 := Lib.hid (blk_new w5 #[.slice a5 (parseF L).1.1.length c5, .slice a6 (parseF L).1.2.1.length c6, .slice a7 (parseF L).1.2.2.1.length c7, .slice a8 (parseF L).1.2.2.2.length c8] 36)
        have FR := Lib.hid (fread_any L _ _ (H4.out.later (b5.trans (ba.mono b5.size))) (fun x hx => by have := X3.out x hx; omega))
        clear b5 ba hf H4 LD' X3
        go_wp2_with fail
        refine FR.out.mono ?_
        rintro e w7 ⟨b7, um, up, ui, ur, rfl, hg⟩
        have B7 := Lib.hid (B6.out.trans (b7.mono B6.out.size))
        have F7 := Lib.hid (F6.out.later b7)
        have X7 := Lib.hid (X6.out.later b7)
        obtain ⟨x5, y5, x6, y6, x7, y7, x8, y8, rfl, rfl, rfl, rfl⟩ := hg.shapes
        have ba : Below w7.heap.size w7 (w7.alloc (.cells #[.slice x5 (parseF L).1.1.length y5, .slice x6 (parseF L).1.2.1.length y6, .slice x7 (parseF L).1.2.2.1.length y7, .slice x8 (parseF L).1.2.2.2.length y8] 36)) := (Below.refl _ _).alloc (Nat.le_refl _) _
        have B8 := Lib.hid (B7.out.trans (ba.mono B7.out.size))
        have SM := rsame_any (F7.out.later ba) (hg.later ba)
        rw [decide_eq_true rfl] at SM
        have SM' := Lib.hid SM
        have X8 := X7.out.later ba
        have Y8 := blk_new w7 #[.slice x5 (parseF L).1.1.length y5, .slice x6 (parseF L).1.2.1.length y6, .slice x7 (parseF L).1.2.2.1.length y7, .slice x8 (parseF L).1.2.2.2.length y8] 36
        obtain ⟨k0, k1, k2, k3⟩ := show _ ∧ _ ∧ _ ∧ _ from ⟨X8.cell (i := 0) rfl, X8.cell (i := 1) rfl, X8.cell (i := 2) rfl, X8.cell (i := 3) rfl⟩
        obtain ⟨l0, l1, l2, l3⟩ := show _ ∧ _ ∧ _ ∧ _ from ⟨Y8.cell (i := 0) rfl, Y8.cell (i := 1) rfl, Y8.cell (i := 2) rfl, Y8.cell (i := 3) rfl⟩
        have q2 : ((parseF L).2.2 == (parseF L).2.2) = true := by simp
        clear b7 ba hg FR F6 X6 F7 X7 SM X8 Y8
        generalize (parseF L).2.2 = E at *
        generalize (parseF L).2.1 = N at *
        generalize (parseF L).1 = F at *
        go_wp2_with fail
        refine SM'.out.mono ?_
        rintro e w9 ⟨rfl, b9⟩
        have B9 := Lib.hid (B8.out.trans (b9.mono B8.out.size))
        clear b9 SM'
        go_wp2
        go_ret
        exact ⟨rfl, B9.out⟩
      · have LD := LC.out w4 B4.out
        unfold LdPost at LD
        rw [L0.out hE] at LD
        have LD' := Lib.hid LD
        have z1 : ((linesR s T).2 != 0) = true := by rw [bne_iff_ne]; exact hE
        have q2 : ((linesR s T).2 == (linesR s T).2) = true := by simp
        clear LD hE LC L0 L1 q1 HLL H4 X3
        generalize (linesR s T).2 = E at *
        generalize (linesR s T).1 = L at *
        go_wp2_with fail
        refine LD'.out.mono ?_
        rintro e w5 ⟨b5, vm, vp, vi, vr, rfl, hf⟩
        have B5 := Lib.hid (B4.out.trans (b5.mono B4.out.size))
        obtain ⟨a5, c5, a6, c6, a7, c7, a8, c8, rfl, rfl, rfl, rfl⟩ := hf.shapes
        have ba : Below w5.heap.size w5 (w5.alloc (.cells #[.slice a5 0 c5, .slice a6 0 c6, .slice a7 0 c7, .slice a8 0 c8] 36)) := (Below.refl _ _).alloc (Nat.le_refl _) _
        have B6 := Lib.hid (B5.out.trans (ba.mono B5.out.size))
        have SM := rsame_any (hf.later ba) (FIn.nil _)
        rw [decide_eq_true rfl] at SM
        have SM' := Lib.hid SM
        have X6 := blk_new w5 #[.slice a5 0 c5, .slice a6 0 c6, .slice a7 0 c7, .slice a8 0 c8] 36
        obtain ⟨k0, k1, k2, k3⟩ := show _ ∧ _ ∧ _ ∧ _ from ⟨X6.cell (i := 0) rfl, X6.cell (i := 1) rfl, X6.cell (i := 2) rfl, X6.cell (i := 3) rfl⟩
        clear b5 ba hf LD' X6 SM
        simp only [List.length_nil] at SM' ⊢
        go_wp2_with fail
        refine SM'.out.mono ?_
        rintro e w9 ⟨rfl, b9⟩
        have B9 := Lib.hid (B6.out.trans (b9.mono B6.out.size))
        clear b9 SM'
        go_wp2
        go_ret
        exact ⟨rfl, B9.out⟩
    · rw [hb] at TC
      clear hb
      go_enter Tryz.func3, Tryz.ntmps3
      go_wp2_with fail
      refine (TC.out _ (Below.refl _ _)).mono ?_
      rintro e w1 ⟨rfl, b1⟩
      have B1 := Lib.hid b1
      clear b1
      go_wp2
      go_ret
      exact ⟨rfl, B1.out⟩
end Go.Proofs.YtfgcbdjkimkgpaaGreatDoor
