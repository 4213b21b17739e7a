/-
  The law RuleTells, walked. No condition beyond the form's own.
-/
import Derived.Test.YtdencbkepiaigaaDoorRRd
import Derived.Test.YtdencbkepiaigaaDoorRJr
import Derived.Test.YtdencbkepiaigaaDoorRTx
import Derived.Test.YtdencbkepiaigaaDoorROpen
namespace Go.Proofs.YtdencbkepiaigaaDoor
set_option linter.unusedVariables false
open Go.ChangeShapes Go.WideShapes Go.ChangeAt Go.RowKit

theorem read_any (S : ByteArray) (w : World) (hs : S.size ≤ 4294967296) : Calls Tryd.prog 10 #[.string S] w (ParsePost S.data.toList w) := by
  cases h : colon S.data.toList with
  | none => exact read_none S w hs h
  | some p => exact read_some S w hs p h
theorem rin_one {W : World} {b : Nat} {x y : Value} {t n : List Str} (hb : StayR b x y W) (h : SIn W x t) (k : SIn W y n) : RIn W (.slice (some ⟨b, 0, none⟩) 1 1) [(t, n)] :=
  ⟨some ⟨b, 0, none⟩, 1, rfl, Nat.le_refl _, by decide, by simp, .inr ⟨b, 0, rfl, hb.lt, fun _ => x, fun _ => y, fun j hj => by
    obtain rfl : j = 0 := by simp at hj; exact hj
    exact ⟨hb.cells.1, hb.cells.2, h, k⟩⟩⟩
theorem joinR_small {l z : List Rl} {x : Int} (h : JoinR l z x) : z.length ≤ 2932031007317 ∧ ∀ r ∈ z, (r.1.length ≤ 17592186044416 ∧ r.2.length ≤ 17592186044416) ∧ (∀ x ∈ r.1, x.length ≤ 9223372036854775807) ∧ ∀ x ∈ r.2, x.length ≤ 9223372036854775807 := by
  by_cases hx : x = 0
  · obtain ⟨hz, hf, h100, h64, hnn⟩ := h.fine hx
    exact ⟨by rw [hz, List.length_map]; omega, join_small hz hf hnn⟩
  · obtain rfl := h.bad hx
    exact ⟨Nat.zero_le _, fun r hr => absurd hr List.not_mem_nil⟩

set_option maxHeartbeats 8000000 in
set_option maxRecDepth 100000 in
theorem walkTells {w : World} {x y v : Value} {t n : List Str} {l : List Rl} (h : SIn w x t) (k : SIn w y n) (hl : RIn w v l) (S : ByteArray) :
    Calls Tryd.prog 3 #[.agg #[x, y], .string S, v] w fun e w' => e = .returned (.bool true) ∧ Below w.heap.size w w' := by
  have B0 : Hid (Below w.heap.size w (w.alloc (.cells #[x, y] 24))) := (Below.refl _ w).alloc (Nat.le_refl _) _
  obtain ⟨w0, hw0⟩ : ∃ w0, w0 = w.alloc (.cells #[x, y] 24) := ⟨_, rfl⟩
  have S0 := Lib.hid (stayR_new w x y)
  have HX : Hid (∀ W, Below w0.heap.size w0 W → SIn W x t ∧ SIn W y n ∧ RIn W v l ∧ StayR w.heap.size x y W) := fun W hW => by
    subst hw0
    exact ⟨(h.later B0.out).later hW, (k.later B0.out).later hW, (hl.later B0.out).later hW, S0.out.later hW⟩
  have CP : Hid (∀ W, Below w0.heap.size w0 W → Calls Tryd.prog 7 #[.agg #[x, y]] W (PrintPost (t, n) W)) := fun W hW => print_any (HX.out W hW).1 (HX.out W hW).2.1
  have CC : Hid (∀ W, Below w0.heap.size w0 W → Calls Tryd.prog 13 #[.agg #[x, y]] W fun e w' => e = .returned (.int .i64 (chkR (t, n))) ∧ Below W.heap.size W w') := fun W hW => rcheck_any (HX.out W hW).1 (HX.out W hW).2.1
  have CF : Hid (∀ W, Below w0.heap.size w0 W → Calls Tryd.prog 12 #[.agg #[x, y]] W fun e w' => e = .returned (.int .i64 (chkR (t, n))) ∧ Below W.heap.size W w') := fun W hW => fault_any (HX.out W hW).1 (HX.out W hW).2.1
  have CT : Hid (chkR (t, n) = 0 → ∀ W, Below w0.heap.size w0 W → Calls Tryd.prog 14 #[.agg #[x, y]] W fun e w' => e = .returned (.string (bs (printR (t, n)))) ∧ Below W.heap.size W w') := fun hc W hW => text_any (HX.out W hW).1 (HX.out W hW).2.1 hc
  have CJ : Hid (∀ W, Below w0.heap.size w0 W → Calls Tryd.prog 9 #[v] W (JoinPost l W)) := fun W hW => join_any (HX.out W hW).2.2.1
  have CR : Hid (∀ W, Below w0.heap.size w0 W → Calls Tryd.prog 11 #[v] W (JoinPost l W)) := fun W hW => rjoin_any (HX.out W hW).2.2.1
  have DX : Hid (∀ W, Below w0.heap.size w0 W → W.cell? ⟨w.heap.size, 0, none⟩ = some x ∧ W.cell? ⟨w.heap.size, 1, none⟩ = some y) := fun W hW => (HX.out W hW).2.2.2.cells
  have BW : Hid (∀ W, Below w0.heap.size w0 W → Below w.heap.size w W) := fun W hW => by
    subst hw0
    exact B0.out.trans (hW.mono (by simp))
  obtain ⟨a1, c1, rfl⟩ := h.shape
  obtain ⟨a2, c2, rfl⟩ := k.shape
  obtain ⟨a3, c3, rfl, _⟩ := hl
  clear h k HX S0 B0
  generalize t.length = lt at *
  generalize n.length = ln at *
  generalize l.length = ll at *
  by_cases hs : 500 < S.size
  · have hb := Lib.hid (BW.out w0 (Below.refl _ _))
    clear CP CC CF CT CJ CR DX BW
    subst hw0
    go_enter Tryd.func3, Tryd.ntmps3
    go_wp2
    go_ret
    exact ⟨rfl, hb.out⟩
  have PS : Hid (∀ W, Calls Tryd.prog 8 #[.string S] W (ParsePost S.data.toList W)) := fun W => parse_any S W (by omega)
  have RS : Hid (∀ W, Calls Tryd.prog 10 #[.string S] W (ParsePost S.data.toList W)) := fun W => read_any S W (by omega)
  unfold ParsePost at PS RS
  generalize parseR S.data.toList = R at *
  obtain ⟨⟨rt, rn⟩, re⟩ := R
  simp only [] at PS RS
  have HW0 := Lib.hid hw0; clear hw0
  go_enter Tryd.func3, Tryd.ntmps3
  go_wp2_with fail
  rw [← HW0.out]
  clear HW0
  refine (CP.out w0 (Below.refl _ _)).mono ?_
  intro e w1 hp
  obtain ⟨pt, rfl, hpt, b1⟩ : ∃ pt, e = .returned (.tuple #[.string (bs pt), .int .i64 (chkR (t, n))]) ∧ ((chkR (t, n) = 0 ∧ pt = printR (t, n)) ∨ (chkR (t, n) ≠ 0 ∧ pt = [])) ∧ Below w0.heap.size w0 w1 := by
    rcases hp with ⟨⟨hc, he⟩ | ⟨hc, he⟩, hb⟩
    · exact ⟨_, by rw [hc]; exact he, .inl ⟨hc, rfl⟩, hb⟩
    · exact ⟨[], he, .inr ⟨hc, rfl⟩, hb⟩
  have PT := Lib.hid hpt; have B1 := Lib.hid b1
  clear hp hpt b1 CP
  go_wp2_with fail
  refine (PS.out w1).mono ?_
  rintro e w2 ⟨v2, u2, rfl, i2, j2, b2⟩
  have B2 := Lib.hid (B1.out.trans (b2.mono B1.out.size))
  have bA : Below w2.heap.size w2 (w2.alloc (.cells #[v2, u2] 24)) := (Below.refl _ _).alloc (Nat.le_refl _) _
  have BA := Lib.hid (B2.out.trans (bA.mono B2.out.size))
  have SA := stayR_new w2 v2 u2
  obtain ⟨w3, hw3⟩ : ∃ w3, w3 = w2.alloc (.cells #[v2, u2] 24) := ⟨_, rfl⟩
  have XA : Hid (∀ W, Below w3.heap.size w3 W → SIn W v2 rt ∧ SIn W u2 rn ∧ StayR w2.heap.size v2 u2 W) := fun W hW => by
    subst hw3
    exact ⟨(i2.later bA).later hW, (j2.later bA).later hW, SA.later hW⟩
  obtain ⟨a4, c4, rfl⟩ := i2.shape
  obtain ⟨a5, c5, rfl⟩ := j2.shape
  clear i2 j2 b2 bA SA
  generalize rt.length = lrt at *
  generalize rn.length = lrn at *
  rw [← hw3] at BA
  have HW3 := Lib.hid hw3; clear hw3
  go_wp2_with fail
  rw [← HW3.out]
  clear HW3
  refine (CJ.out w3 BA.out).mono ?_
  rintro e w4 ⟨v4, z4, x4, rfl, hj, ro, b4⟩
  have B4 := Lib.hid (BA.out.trans (b4.mono BA.out.size))
  have A4 := Lib.hid b4
  have RI : Hid (∀ W, Below w4.heap.size w4 W → RIn W v4 z4) := fun W hW => (ro.rin (joinR_small hj).1 (joinR_small hj).2).later hW
  obtain ⟨a6, c6, rfl⟩ : ∃ a c, v4 = .slice a z4.length c := by obtain ⟨_, _, ho, _⟩ := ro; exact own_shape' ho
  have HJ := Lib.hid hj
  clear ro b4 hj CJ
  go_wp2_with fail
  refine (RS.out w4).mono ?_
  rintro e w5 ⟨v5, u5, rfl, i5, j5, b5⟩
  have B5 := Lib.hid (B4.out.trans (b5.mono B4.out.size))
  have bB : Below w5.heap.size w5 (w5.alloc (.cells #[v5, u5] 24)) := (Below.refl _ _).alloc (Nat.le_refl _) _
  have BB := Lib.hid (B5.out.trans (bB.mono B5.out.size))
  have b46 := b5.trans (bB.mono b5.size)
  have SB := stayR_new w5 v5 u5
  obtain ⟨w6, hw6⟩ : ∃ w6, w6 = w5.alloc (.cells #[v5, u5] 24) := ⟨_, rfl⟩
  have XB : Hid (∀ W, Below w6.heap.size w6 W → SIn W v5 rt ∧ SIn W u5 rn ∧ StayR w5.heap.size v5 u5 W) := fun W hW => by
    subst hw6
    exact ⟨(i5.later bB).later hW, (j5.later bB).later hW, SB.later hW⟩
  rw [← hw6] at BB b46
  have A6 := Lib.hid b46
  obtain ⟨a7, c7, rfl⟩ := i5.shape
  obtain ⟨a8, c8, rfl⟩ := j5.shape
  clear i5 j5 b5 bB SB b46
  generalize rt.length = lrt2 at *
  generalize rn.length = lrn2 at *
  have HW6 := Lib.hid hw6; clear hw6
  go_wp2_with fail
  rw [← HW6.out]
  clear HW6
  refine (CR.out w6 BB.out).mono ?_
  rintro e w7 ⟨v7, z7, x7, rfl, hj7, ro7, b7⟩
  obtain ⟨rfl, rfl⟩ := HJ.out.same hj7
  have B7 := Lib.hid (BB.out.trans (b7.mono BB.out.size))
  have A7 := Lib.hid b7
  have RJ : Hid (∀ W, Below w7.heap.size w7 W → RIn W v7 z4) := fun W hW => (ro7.rin (joinR_small hj7).1 (joinR_small hj7).2).later hW
  obtain ⟨a9, c9, rfl⟩ : ∃ a c, v7 = .slice a z4.length c := by obtain ⟨_, _, ho, _⟩ := ro7; exact own_shape' ho
  clear ro7 b7 hj7 CR HJ
  generalize z4.length = lz at *
  obtain ⟨d0, d1⟩ := DX.out w7 B7.out
  go_wp2_with fail
  refine (CF.out w7 B7.out).mono ?_
  rintro e w8 ⟨rfl, b8⟩
  have B8 := Lib.hid (B7.out.trans (b8.mono B7.out.size))
  have A8 := Lib.hid b8
  clear b8 d0 d1
  obtain ⟨d0, d1⟩ := DX.out w8 B8.out
  go_wp2_with fail
  refine (CC.out w8 B8.out).mono ?_
  rintro e w9 ⟨rfl, b9⟩
  have B9 := Lib.hid (B8.out.trans (b9.mono B8.out.size))
  have A9 : Hid (Below w7.heap.size w7 w9) := A8.out.trans (b9.mono A8.out.size)
  clear b9 d0 d1
  have W3 : Hid (∀ W, Below w7.heap.size w7 W → Below w3.heap.size w3 W) := fun W hW => by
    have h34 := A4.out
    have h36 := h34.trans (A6.out.mono h34.size)
    have h37 := h36.trans (A7.out.mono h36.size)
    exact h37.trans (hW.mono h37.size)
  have W6 : Hid (∀ W, Below w7.heap.size w7 W → Below w6.heap.size w6 W) := fun W hW => A7.out.trans (hW.mono A7.out.size)
  have W4 : Hid (∀ W, Below w7.heap.size w7 W → Below w4.heap.size w4 W) := fun W hW => A6.out.trans ((W6.out W hW).mono A6.out.size)
  have DA : Hid (∀ W, Below w7.heap.size w7 W → W.cell? ⟨w2.heap.size, 0, none⟩ = some (.slice a4 lrt c4) ∧ W.cell? ⟨w2.heap.size, 1, none⟩ = some (.slice a5 lrn c5)) := fun W hW => (XA.out W (W3.out W hW)).2.2.cells
  have DB : Hid (∀ W, Below w7.heap.size w7 W → W.cell? ⟨w5.heap.size, 0, none⟩ = some (.slice a7 lrt2 c7) ∧ W.cell? ⟨w5.heap.size, 1, none⟩ = some (.slice a8 lrn2 c8)) := fun W hW => (XB.out W (W6.out W hW)).2.2.cells
  have SR1 : Hid (∀ W, Below w7.heap.size w7 W → Calls Tryd.prog 15 #[.slice (some ⟨W.heap.size, 0, none⟩) 1 1, .slice (some ⟨W.heap.size + 1, 0, none⟩) 1 1] ((W.alloc (.cells #[.slice a4 lrt c4, .slice a5 lrn c5] 24)).alloc (.cells #[.slice a7 lrt2 c7, .slice a8 lrn2 c8] 24))
      fun e w' => e = .returned (.bool true) ∧ Below W.heap.size W w') := fun W hW => by
    have bW : Below W.heap.size W ((W.alloc (.cells #[.slice a4 lrt c4, .slice a5 lrn c5] 24)).alloc (.cells #[.slice a7 lrt2 c7, .slice a8 lrn2 c8] 24)) := ((Below.refl _ _).alloc (Nat.le_refl _) _).alloc (by simp) _
    have b2 : Below (W.alloc (.cells #[.slice a4 lrt c4, .slice a5 lrn c5] 24)).heap.size (W.alloc (.cells #[.slice a4 lrt c4, .slice a5 lrn c5] 24)) ((W.alloc (.cells #[.slice a4 lrt c4, .slice a5 lrn c5] 24)).alloc (.cells #[.slice a7 lrt2 c7, .slice a8 lrn2 c8] 24)) := (Below.refl _ _).alloc (Nat.le_refl _) _
    have hA := XA.out W (W3.out W hW)
    have hB := XB.out W (W6.out W hW)
    have s2 := stayR_new (W.alloc (.cells #[.slice a4 lrt c4, .slice a5 lrn c5] 24)) (.slice a7 lrt2 c7) (.slice a8 lrn2 c8)
    rw [show (W.alloc (.cells #[.slice a4 lrt c4, .slice a5 lrn c5] 24)).heap.size = W.heap.size + 1 by simp] at s2
    refine (sameRules_of (rin_one ((stayR_new W _ _).later b2) (hA.1.later bW) (hA.2.1.later bW)) (rin_one s2 (hB.1.later bW) (hB.2.1.later bW))).mono ?_
    rintro e w' ⟨rfl, hq⟩
    exact ⟨rfl, bW.trans (hq.mono bW.size)⟩
  have SR2 : Hid (∀ W, Below w7.heap.size w7 W → Calls Tryd.prog 15 #[.slice a6 lz c6, .slice a9 lz c9] W fun e w' => e = .returned (.bool true) ∧ Below W.heap.size W w') := fun W hW =>
    sameRules_of (RI.out W (W4.out W hW)) (RJ.out W hW)
  have BF : Hid (∀ W, Below w7.heap.size w7 W → Below w.heap.size w W) := fun W hW => BW.out W (B7.out.trans (hW.mono B7.out.size))
  have q1 : (chkR (t, n) != chkR (t, n)) = false := by simp
  have e1 : (x4 == x4) = true := by simp
  have e2 : (re == re) = true := by simp
  clear XA XB RI RJ A4 A6 A7 W3 W6 W4 B1 B2 BA B4 B5 BB PS RS CC CF
  rcases PT.out with ⟨hc, hpt⟩ | ⟨hc, hpt⟩
  · have CT' := Lib.hid (CT.out hc)
    rw [hpt]
    have hne : (chkR (t, n) != 0) = false := by rw [hc]; rfl
    have heq : (chkR (t, n) == 0) = true := by rw [hc]; rfl
    clear hc hpt PT
    generalize printR (t, n) = P at *
    generalize chkR (t, n) = C at *
    obtain ⟨d0, d1⟩ := DX.out w9 B9.out
    have pp : ((bs P).toList == (bs P).toList) = true := by simp
    go_wp2_with fail
    refine (CT'.out w9 B9.out).mono ?_
    rintro e wC ⟨rfl, bC⟩
    have BC : Hid (Below w7.heap.size w7 wC) := A9.out.trans (bC.mono A9.out.size)
    clear bC
    obtain ⟨d2, d3⟩ := DA.out wC BC.out
    obtain ⟨d4, d5⟩ := DB.out _ ((BC.out).alloc (BC.out).size (.cells #[.slice a4 lrt c4, .slice a5 lrn c5] 24))
    go_wp2_with fail
    refine (SR1.out wC BC.out).mono ?_
    rintro e wA ⟨rfl, bA⟩
    have BA : Hid (Below w7.heap.size w7 wA) := (BC.out).trans (bA.mono (BC.out).size)
    clear bA
    go_wp2_with fail
    refine (SR2.out wA BA.out).mono ?_
    rintro e wB ⟨rfl, bB⟩
    have BE := Lib.hid (BF.out wB (BA.out.trans (bB.mono BA.out.size)))
    clear bB
    go_wp2
    go_ret
    exact ⟨rfl, BE.out⟩
  · rw [hpt]
    have hne : (chkR (t, n) != 0) = true := by rw [bne_iff_ne]; exact hc
    have heq : (chkR (t, n) == 0) = false := by rw [beq_eq_false_iff_ne]; exact hc
    have hz : bs [] = ByteArray.mk #[] := rfl
    rw [hz]
    clear hc hpt PT CT
    generalize chkR (t, n) = C at *
    obtain ⟨d2, d3⟩ := DA.out w9 A9.out
    obtain ⟨d4, d5⟩ := DB.out _ ((A9.out).alloc (A9.out).size (.cells #[.slice a4 lrt c4, .slice a5 lrn c5] 24))
    go_wp2_with fail
    refine (SR1.out w9 A9.out).mono ?_
    rintro e wA ⟨rfl, bA⟩
    have BA : Hid (Below w7.heap.size w7 wA) := (A9.out).trans (bA.mono (A9.out).size)
    clear bA
    go_wp2_with fail
    refine (SR2.out wA BA.out).mono ?_
    rintro e wB ⟨rfl, bB⟩
    have BE := Lib.hid (BF.out wB (BA.out.trans (bB.mono BA.out.size)))
    clear bB
    go_wp2
    go_ret
    exact ⟨rfl, BE.out⟩
end Go.Proofs.YtdencbkepiaigaaDoor
