/-
  The law FileOrder: definitions first or last, the same file. Condition: lines of at most 2^24 bytes, at most 2^24 of them.
-/
import Derived.Test.YtfgcbdjkimkgpaaGreatDoorFDl
namespace Go.Proofs.YtfgcbdjkimkgpaaGreatDoor
set_option maxRecDepth 100000
set_option linter.unusedVariables false
open Go.ChangeShapes Go.WideShapes Go.ChangeAt Go.RowKit

theorem filter_nn (z : List Str) : (z.filter fun x => !(!dq x)) = z.filter dq := by congr 1; funext x; simp
set_option maxHeartbeats 8000000 in
theorem file_order {w : World} {vl : Value} {l : List Str} (hl : SIn w vl l) (hn : l.length ≤ 16777216) (hx : ∀ x ∈ l, x.length ≤ 16777216) (hm : MX w) :
    Calls Tryz.prog 6 #[vl] w fun e w' => e = .returned (.bool true) ∧ Below w.heap.size w w' := by
  have FT := Lib.hid (files_true w hm)
  have HL : Hid (∀ W, Below w.heap.size w W → SIn W vl l) := fun W hW => hl.later hW
  have CL : Hid (∀ W, Below w.heap.size w W → Calls Tryz.prog 29 #[vl] W fun e w' => ∃ v', e = .returned v' ∧ SO W.heap.size v' l w' ∧ Below W.heap.size W w') := fun W hW => clone_of (hl.later hW)
  have HN := Lib.hid hn; have HX := Lib.hid hx
  obtain ⟨al, cl, rfl⟩ := hl.shape
  clear hl hm hn hx
  go_enter Tryz.func6, Tryz.ntmps6
  go_wp2_with fail
  refine FT.out.mono ?_
  rintro e w1 ⟨rfl, b1⟩
  have B1 := Lib.hid b1
  have ba : Below w1.heap.size w1 (w1.alloc (.cells #[.func (.func 26) #[] #[]] 44)) := (Below.refl _ _).alloc (Nat.le_refl _) _
  have B2 : Hid (Below w.heap.size w (w1.alloc (.cells #[.func (.func 26) #[] #[]] 44))) := b1.trans (ba.mono b1.size)
  have b0 := blk_new w1 #[.func (.func 26) #[] #[]] 44
  clear b1 ba FT
  go_wp2_with fail
  refine (CL.out _ B2.out).mono ?_
  rintro e w3 ⟨v3, rfl, o3, b3⟩
  obtain ⟨w2, hw2⟩ : ∃ w2, w2 = (w1.alloc (.cells #[.func (.func 26) #[] #[]] 44)) := ⟨_, rfl⟩
  rw [← hw2] at B2 b0 o3 b3
  have QK : Hid (∀ W, Below w2.heap.size w2 W → W.cell? ⟨w1.heap.size, 0, none⟩ = some (.func (.func 26) #[] #[])) := fun W hW => (b0.later hW).cell (i := 0) rfl
  have B3 : Hid (Below w2.heap.size w2 w3) := Lib.hid b3
  have DB := Lib.hid (delFB (B := w2.heap.size) (q := w1.heap.size) (fun x => !dq x) o3 b3.size HN.out HX.out fun W x hW hxx => nq_any x hxx _ W (QK.out W (b3.trans hW)))
  obtain ⟨a3, c3, rfl⟩ := own_len o3
  clear o3 b3 b0 hw2
  go_wp2_with fail
  refine DB.out.mono ?_
  rintro e w4 ⟨u4, rfl, s4, b4⟩
  rw [filter_nn] at s4
  have B4 : Hid (Below w2.heap.size w2 w4) := B3.out.trans b4
  have S4 := Lib.hid s4
  obtain ⟨a4, c4, rfl⟩ := s4.shape
  clear s4 b4 DB
  have BD : Hid (Below w2.heap.size w2 w4.drew) := B4.out.drew
  have W4 : Hid (Below w.heap.size w w4.drew) := B2.out.trans (BD.out.mono B2.out.size)
  have d4 := QK.out _ B4.out
  have dd : Below w4.heap.size w4 w4.drew := (Below.refl _ _).drew
  have DD := Lib.hid dd
  have LF : Hid ((l.filter dq).length ≤ 16777216 ∧ (l.filter fun x => !dq x).length ≤ 16777216) := by have h1 := List.length_filter_le dq l; have h2 := List.length_filter_le (fun x => !dq x) l; have := HN.out; show _ ∧ _; constructor <;> omega
  have XA : Hid (∀ x ∈ l.filter dq ++ l.filter fun x => !dq x, x.length ≤ 4294967296) := fun x hq => by
    rcases List.mem_append.1 hq with h | h
    · have := HX.out x (List.mem_filter.1 h).1; omega
    · have := HX.out x (List.mem_filter.1 h).1; omega
  have XB : Hid (∀ x ∈ (l.filter fun x => !dq x) ++ l.filter dq, x.length ≤ 4294967296) := fun x hq => XA.out x (by rw [List.mem_append] at hq ⊢; exact hq.symm)
  have PO := Lib.hid (parseF_order (a := l.filter dq) (b := l.filter fun x => !dq x) (fun s hs => (List.mem_filter.1 hs).2) (fun s hs => by simpa using (List.mem_filter.1 hs).2))
  clear dd
  go_wp2_with fail
  go_region_held3 (fun w' => w'.cell? ⟨w1.heap.size, 0, none⟩ = some (.func (.func 26) #[] #[])) (first | assumption | exact d4 | exact k5 | exact k6 | go_keep) (first
    | (go_at_call 29
       refine (CL.out w4.drew W4.out).mono ?_
       rintro e w5 ⟨v5, rfl, o5, b5⟩
       have B5 : Hid (Below w2.heap.size w2 w5) := BD.out.trans (b5.mono BD.out.size)
       have E5 : Hid (Below w4.heap.size w4 w5) := DD.out.trans b5
       have k5 := QK.out _ B5.out
       have DA := Lib.hid (delFA (B := w4.heap.size) (q := 0) dq o5 b5.size HN.out HX.out fun W x _ hxx => dq_any x hxx W)
       obtain ⟨a5, c5, rfl⟩ := own_len o5
       clear o5 b5)
    | (go_at_call 28
       refine DA.out.mono ?_
       rintro e w6 ⟨u6, rfl, s6, b6⟩
       have E6 : Hid (Below w4.heap.size w4 w6) := E5.out.trans b6
       have k6 := QK.out _ (B4.out.trans (E6.out.mono B4.out.size))
       have S6 := Lib.hid s6
       obtain ⟨a6, c6, rfl⟩ := s6.shape
       clear s6 b6 DA))
  all_goals
    have S7 := Lib.hid (S4.out.later E6.out)
    have W6 : Hid (Below w.heap.size w w6) := B2.out.trans ((B4.out.trans (E6.out.mono B4.out.size)).mono B2.out.size)
    have HC : Hid (∀ (W : World), Below w6.heap.size w6 W → ∀ (b : Nat), W.cell? ⟨b, 0, none⟩ = some (.slice a4 (l.filter dq).length c4) → W.cell? ⟨b, 1, none⟩ = some (.slice a6 (l.filter fun x => !dq x).length c6) →
        Calls Tryz.prog 31 #[.slice (some ⟨b, 0, none⟩) 2 2] W fun e w' => ∃ v, e = .returned v ∧ SIn w' v (l.filter dq ++ l.filter fun x => !dq x) ∧ Below W.heap.size W w') := fun W hW b h0 h1 =>
      (concat_any (S7.out.later hW) (S6.out.later hW) (by have := LF.out; omega) h0 h1).mono fun e w' ⟨v, h2, h3, h4⟩ => ⟨v, h2, SIn.own h3 (by rw [List.length_append]; have := LF.out; show _ ≤ _; omega) (fun x hq => by have := XA.out x hq; omega), h4⟩
    have HD : Hid (∀ (W : World), Below w6.heap.size w6 W → ∀ (b : Nat), W.cell? ⟨b, 0, none⟩ = some (.slice a6 (l.filter fun x => !dq x).length c6) → W.cell? ⟨b, 1, none⟩ = some (.slice a4 (l.filter dq).length c4) →
        Calls Tryz.prog 31 #[.slice (some ⟨b, 0, none⟩) 2 2] W fun e w' => ∃ v, e = .returned v ∧ SIn w' v ((l.filter fun x => !dq x) ++ l.filter dq) ∧ Below W.heap.size W w') := fun W hW b h0 h1 =>
      (concat_any (S6.out.later hW) (S7.out.later hW) (by have := LF.out; omega) h0 h1).mono fun e w' ⟨v, h2, h3, h4⟩ => ⟨v, h2, SIn.own h3 (by rw [List.length_append]; have := LF.out; show _ ≤ _; omega) (fun x hq => by have := XB.out x hq; omega), h4⟩
    clear S4 S6 S7 DD BD B3 B4 E5 k5 k6 d4 QK CL HL HX B1 B2 W4
    generalize (l.filter dq).length = n4 at *
    generalize (l.filter fun x => !dq x).length = n6 at *
    have ba : Below w6.heap.size w6 (w6.alloc (.cells #[.slice a4 n4 c4, .slice a6 n6 c6] 27)) := (Below.refl _ _).alloc (Nat.le_refl _) _
    have bl0 := blk_new w6 #[.slice a4 n4 c4, .slice a6 n6 c6] 27
    have C1 := Lib.hid (HC.out _ ba w6.heap.size (bl0.cell (i := 0) rfl) (bl0.cell (i := 1) rfl))
    have L7 := Lib.hid ba
    clear ba bl0 HC
    go_wp2_with fail
    refine C1.out.mono ?_
    rintro e w8 ⟨v8, rfl, s8, b8⟩
    have L8 : Hid (Below w6.heap.size w6 w8) := L7.out.trans (b8.mono L7.out.size)
    have PA := Lib.hid (parse_file _ _ w8 s8 XA.out)
    obtain ⟨a8, c8, rfl⟩ := s8.shape
    clear s8 b8 L7 C1
    generalize (l.filter dq ++ l.filter fun x => !dq x) = la at *
    generalize la.length = n8 at *
    go_wp2_with fail
    refine PA.out.mono ?_
    rintro e w9 ⟨b9, m1, p1, i1, r1, rfl, f1⟩
    have L9 : Hid (Below w6.heap.size w6 w9) := L8.out.trans (b9.mono L8.out.size)
    obtain ⟨x1, y1, x2, y2, x3, y3, x4, y4, rfl, rfl, rfl, rfl⟩ := f1.shapes
    have bx : Below w9.heap.size w9 (w9.alloc (.cells #[.slice x1 (parseF la).1.1.length y1, .slice x2 (parseF la).1.2.1.length y2, .slice x3 (parseF la).1.2.2.1.length y3, .slice x4 (parseF la).1.2.2.2.length y4] 36)) := (Below.refl _ _).alloc (Nat.le_refl _) _
    have L10 : Hid (Below w6.heap.size w6 (w9.alloc (.cells #[.slice x1 (parseF la).1.1.length y1, .slice x2 (parseF la).1.2.1.length y2, .slice x3 (parseF la).1.2.2.1.length y3, .slice x4 (parseF la).1.2.2.2.length y4] 36))) := L9.out.trans (bx.mono L9.out.size)
    have sx := blk_new w9 #[.slice x1 (parseF la).1.1.length y1, .slice x2 (parseF la).1.2.1.length y2, .slice x3 (parseF la).1.2.2.1.length y3, .slice x4 (parseF la).1.2.2.2.length y4] 36
    have bb : Below (w9.alloc (.cells #[.slice x1 (parseF la).1.1.length y1, .slice x2 (parseF la).1.2.1.length y2, .slice x3 (parseF la).1.2.2.1.length y3, .slice x4 (parseF la).1.2.2.2.length y4] 36)).heap.size (w9.alloc (.cells #[.slice x1 (parseF la).1.1.length y1, .slice x2 (parseF la).1.2.1.length y2, .slice x3 (parseF la).1.2.2.1.length y3, .slice x4 (parseF la).1.2.2.2.length y4] 36)) ((w9.alloc (.cells #[.slice x1 (parseF la).1.1.length y1, .slice x2 (parseF la).1.2.1.length y2, .slice x3 (parseF la).1.2.2.1.length y3, .slice x4 (parseF la).1.2.2.2.length y4] 36)).alloc (.cells #[.slice a6 n6 c6, .slice a4 n4 c4] 27)) := (Below.refl _ _).alloc (Nat.le_refl _) _
    have L11 : Hid (Below w6.heap.size w6 ((w9.alloc (.cells #[.slice x1 (parseF la).1.1.length y1, .slice x2 (parseF la).1.2.1.length y2, .slice x3 (parseF la).1.2.2.1.length y3, .slice x4 (parseF la).1.2.2.2.length y4] 36)).alloc (.cells #[.slice a6 n6 c6, .slice a4 n4 c4] 27))) := L10.out.trans (bb.mono L10.out.size)
    have bl1 := blk_new (w9.alloc (.cells #[.slice x1 (parseF la).1.1.length y1, .slice x2 (parseF la).1.2.1.length y2, .slice x3 (parseF la).1.2.2.1.length y3, .slice x4 (parseF la).1.2.2.2.length y4] 36)) #[.slice a6 n6 c6, .slice a4 n4 c4] 27
    have C2 := HD.out _ L11.out (w9.alloc (.cells #[.slice x1 (parseF la).1.1.length y1, .slice x2 (parseF la).1.2.1.length y2, .slice x3 (parseF la).1.2.2.1.length y3, .slice x4 (parseF la).1.2.2.2.length y4] 36)).heap.size (bl1.cell (i := 0) rfl) (bl1.cell (i := 1) rfl)
    rw [show (w9.alloc (.cells #[.slice x1 (parseF la).1.1.length y1, .slice x2 (parseF la).1.2.1.length y2, .slice x3 (parseF la).1.2.2.1.length y3, .slice x4 (parseF la).1.2.2.2.length y4] 36)).heap.size = w9.heap.size + 1 by simp] at C2
    have C2H := Lib.hid C2
    have F11 := Lib.hid ((f1.later bx).later bb)
    have S11 := Lib.hid (sx.later bb)
    have GL1 : Hid (Below w.heap.size w w6) := W6
    clear f1 bx sx bb bl1 C2 b9 PA L8 L9 L10 HD
    generalize (((parseF la).2.1 : Nat) : Int) = N1 at *
    go_wp2_with fail
    refine C2H.out.mono ?_
    rintro e w12 ⟨v12, rfl, s12, b12⟩
    have L12 : Hid (Below w6.heap.size w6 w12) := L11.out.trans (b12.mono L11.out.size)
    have F12 := Lib.hid (F11.out.later b12)
    have S12 := Lib.hid (S11.out.later b12)
    have PB := Lib.hid (parse_file _ _ w12 s12 XB.out)
    obtain ⟨a9, c9, rfl⟩ := s12.shape
    clear s12 b12 C2H F11 S11 L11
    generalize ((l.filter fun x => !dq x) ++ l.filter dq) = lb at *
    generalize lb.length = n9 at *
    go_wp2_with fail
    refine PB.out.mono ?_
    rintro e w13 ⟨b13, m2, p2, i2, r2, rfl, f2⟩
    rw [← PO.out.1] at f2
    rw [← PO.out.2]
    generalize (((parseF lb).2.1 : Nat) : Int) = N2 at *
    have L13 : Hid (Below w6.heap.size w6 w13) := L12.out.trans (b13.mono L12.out.size)
    have F13 := Lib.hid (F12.out.later b13)
    have S13 := Lib.hid (S12.out.later b13)
    obtain ⟨z1, t1, z2, t2, z3, t3, z4, t4, rfl, rfl, rfl, rfl⟩ := f2.shapes
    have bz : Below w13.heap.size w13 (w13.alloc (.cells #[.slice z1 (parseF la).1.1.length t1, .slice z2 (parseF la).1.2.1.length t2, .slice z3 (parseF la).1.2.2.1.length t3, .slice z4 (parseF la).1.2.2.2.length t4] 36)) := (Below.refl _ _).alloc (Nat.le_refl _) _
    have L14 : Hid (Below w6.heap.size w6 (w13.alloc (.cells #[.slice z1 (parseF la).1.1.length t1, .slice z2 (parseF la).1.2.1.length t2, .slice z3 (parseF la).1.2.2.1.length t3, .slice z4 (parseF la).1.2.2.2.length t4] 36))) := L13.out.trans (bz.mono L13.out.size)
    have SM := sameK (F13.out.later bz) (f2.later bz)
    rw [decide_eq_true rfl] at SM
    have SH := Lib.hid SM
    have SX := S13.out.later bz
    obtain ⟨k0, k1, k2, k3⟩ := show _ ∧ _ ∧ _ ∧ _ from ⟨SX.cell (i := 0) rfl, SX.cell (i := 1) rfl, SX.cell (i := 2) rfl, SX.cell (i := 3) rfl⟩
    have ee : ((parseF la).2.2 == (parseF la).2.2) = true := by simp
    clear SM SX bz f2 b13 PB F12 S12 F13 S13 L12 L13 PO XA XB
    generalize (parseF la).2.2 = EE at *
    generalize (parseF la).1 = R at *
    generalize R.1.length = g1 at *
    generalize R.2.1.length = g2 at *
    generalize R.2.2.1.length = g3 at *
    generalize R.2.2.2.length = g4 at *
    go_wp2_with fail
    refine SH.out.mono ?_
    rintro e wz ⟨rfl, bzz⟩
    have BZ : Hid (Below w.heap.size w wz) := GL1.out.trans ((L14.out.trans (bzz.mono L14.out.size)).mono GL1.out.size)
    clear bzz SH k0 k1 k2 k3
    go_wp2
    go_ret
    exact ⟨rfl, BZ.out⟩
end Go.Proofs.YtfgcbdjkimkgpaaGreatDoor
