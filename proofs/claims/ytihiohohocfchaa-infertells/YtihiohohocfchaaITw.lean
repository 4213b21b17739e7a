/-
  The law InferTells, walked. Condition: the names handed in are at most 2^43 (the form's own reach).
-/
import Derived.Test.YtihiohohocfchaaIRq
namespace Go.Proofs.Ytihiohohocfchaa
set_option maxRecDepth 100000
set_option linter.unusedVariables false
open Go.ChangeShapes Go.WideShapes Go.ChangeAt Go.RowKit

set_option maxHeartbeats 8000000 in
set_option maxRecDepth 100000 in
theorem walkTells {w : World} {v u t : Value} {l : List Rl} {I : List Mc} {T : List Str} (hr : RIn w v l) (hi : IIn w u I) (ht : SIn w t T) (hT : T.length ≤ 8796093022208) (S : ByteArray) (hs : S.size ≤ 9223372036854775807) :
    Calls Try.prog 3 #[v, u, t, .string S] w fun e w' => e = .returned (.bool true) ∧ Below w.heap.size w w' := by
  obtain ⟨s, rfl⟩ : ∃ s, S = bs s := ⟨_, (bs_of S).symm⟩
  rw [bs_size] at hs
  have OA := Lib.hid (of_any hi ht s hs)
  have FA : Hid (∀ W, Below w.heap.size w W → Calls Try.prog 7 #[v, u, t] W (FillPost l I T W)) := fun W hW => fill_any (hr.later hW) (hi.later hW) (ht.later hW) (by omega)
  have RA : Hid (∀ W, Below w.heap.size w W → Calls Try.prog 8 #[v, u, t] W (FillPost l I T W)) := fun W hW => rfill_any (hr.later hW) (hi.later hW) (ht.later hW) hT
  have IA : Hid (∀ W, Below w.heap.size w W → Calls Try.prog 9 #[u] W fun e w' => e = .returned (.int .i64 (infE I)) ∧ Below W.heap.size W w') := fun W hW => rfault_any (hi.later hW)
  have CA : Hid (∀ W, Below w.heap.size w W → Calls Try.prog 10 #[u] W fun e w' => e = .returned (.int .i64 (infE I)) ∧ Below W.heap.size W w') := fun W hW => icheck_any (hi.later hW)
  have GA : Hid (∀ W, Below w.heap.size w W → Calls Try.prog 12 #[t] W fun e w' => e = .returned (.bool (T.all good)) ∧ w' = W) := fun W hW => goodNames_of (ht.later hW)
  have NA : Hid (∀ W, Calls Try.prog 13 #[.string (bs s)] W fun e w' => e = .returned (.bool (good s)) ∧ w' = W) := fun W => by
    have := goodName_any (bs s) W (by rw [bs_size]; exact hs)
    rw [bs_list] at this
    exact this
  have LA : Hid (infE I = 0 → good s = true → ∀ W, Below w.heap.size w W → Calls Try.prog 14 #[u, t, .string (bs s)] W fun e w' => e = .returned (.tuple #[.string (bs (ofS (inf1 I T (stm s) (sfx s)))), .bool (inf1 I T (stm s) (sfx s)).isSome]) ∧ Below W.heap.size W w') := fun h0 hg W hW => rinferred_any (hi.later hW) (ht.later hW) s (by have := (good_len hg).2; omega) (fun k hk => sufB_len (infE_sufs h0 k hk).1)
  obtain ⟨a, cap, rfl, _⟩ := hr
  obtain ⟨⟨ai, ci, rfl, _⟩, _⟩ := hi
  obtain ⟨at', ct, rfl⟩ := ht.shape
  clear ht hT hs
  generalize l.length = L at *
  generalize I.length = LI at *
  generalize T.length = LT at *
  go_enter Try.func3, Try.ntmps3
  go_wp2_with fail
  refine OA.out.mono ?_
  rintro e w1 ⟨rfl, b1⟩
  have B1 := Lib.hid b1; clear b1
  go_wp2_with fail
  refine (FA.out w1 B1.out).mono ?_
  rintro e w2 ⟨z, x, v2, hj, rfl, r2, b2⟩
  have B2 := Lib.hid (B1.out.trans (b2.mono B1.out.size))
  have R2 := Lib.hid r2
  have HJ := Lib.hid hj
  clear b2 r2 hj
  go_wp2_with fail
  refine (RA.out w2 B2.out).mono ?_
  rintro e w3 ⟨z3, x3, v3, hj3, rfl, r3, b3⟩
  obtain ⟨rfl, rfl⟩ := hj3.same HJ.out
  have B3 := Lib.hid (B2.out.trans (b3.mono B2.out.size))
  have R23 := Lib.hid (R2.out.later b3)
  have R3 := Lib.hid r3
  clear b3 r3 hj3 R2
  go_wp2_with fail
  refine (IA.out w3 B3.out).mono ?_
  rintro e w4 ⟨rfl, b4⟩
  have B4 := Lib.hid (B3.out.trans (b4.mono B3.out.size))
  have R24 := Lib.hid (R23.out.later b4)
  have R4 := Lib.hid (R3.out.later b4)
  clear b4 R23 R3
  obtain ⟨a2, c2, rfl, _⟩ := id R24.out
  obtain ⟨a3, c3, rfl, _⟩ := id R4.out
  have OF : Hid (∀ E, infE I = E → E ≠ 0 → ofR I T s = (none, E)) := fun E h hne => by rw [ofR_fault (by rw [h]; exact hne), h]
  have OT : Hid (infE I = 0 → T.all good = false → ofR I T s = (none, 3)) := ofR_names
  have ON : Hid (infE I = 0 → T.all good = true → good s = false → ofR I T s = (none, 3)) := ofR_name
  have OK : Hid (infE I = 0 → T.all good = true → good s = true → ofR I T s = (inf1 I T (stm s) (sfx s), 0)) := ofR_ok
  generalize eE : infE I = E at *
  generalize hF : fillR l z3 x3 I T = FR at *
  generalize hFL : FR.1.length = fl at *
  have HFL := Lib.hid hFL
  have g1 : (E == E) = true := by simp
  have g2 : (E != E) = false := by simp
  have g3 : (FR.2 == FR.2) = true := by simp
  have g4 : (FR.2 != FR.2) = false := by simp
  clear hF hFL
  go_wp2_with fail
  refine (CA.out w4 B4.out).mono ?_
  rintro e w5 ⟨rfl, b5⟩
  have B5 := Lib.hid (B4.out.trans (b5.mono B4.out.size))
  have SR := Lib.hid (sameRules_of (R24.out.later b5) (R4.out.later b5))
  clear b5
  go_wp2_with fail
  refine SR.out.mono ?_
  rintro e w6 ⟨rfl, b6⟩
  have B6 := Lib.hid (B5.out.trans (b6.mono B5.out.size))
  clear b6
  have e0 : ((bs (ofS none)).toList == []) = true := by rw [bs_toList]; rfl
  have n1 : (none : Option Str).isSome = false := rfl
  by_cases hE : E = 0
  · subst hE
    cases hg : T.all good
    · rw [hg] at GA
      rw [OT.out rfl hg]
      clear hg
      go_wp2_with fail
      refine (GA.out _ B6.out).mono ?_
      rintro e w7 ⟨rfl, rfl⟩
      go_wp2
      go_ret
      exact ⟨rfl, B6.out⟩
    · have HG := Lib.hid hg
      rw [hg] at GA
      clear hg
      cases hs : good s
      · rw [hs] at NA
        rw [ON.out rfl HG.out hs]
        clear hs
        go_wp2_with fail
        refine (GA.out _ B6.out).mono ?_
        rintro e w7 ⟨rfl, rfl⟩
        go_wp2_with fail
        refine (NA.out _).mono ?_
        rintro e w8 ⟨rfl, rfl⟩
        go_wp2
        go_ret
        exact ⟨rfl, B6.out⟩
      · have LB := Lib.hid (LA.out rfl hs)
        rw [hs] at NA
        rw [OK.out rfl HG.out hs]
        clear hs
        generalize inf1 I T (stm s) (sfx s) = o at *
        have e1 : ((bs (ofS o)).toList == (bs (ofS o)).toList) = true := by simp
        have e2 : (o.isSome == o.isSome) = true := by simp
        generalize ofS o = y at *
        generalize o.isSome = q at *
        go_wp2_with fail
        refine (GA.out _ B6.out).mono ?_
        rintro e w7 ⟨rfl, hw7⟩
        rw [hw7]
        clear hw7
        go_wp2_with fail
        refine (NA.out _).mono ?_
        rintro e w8 ⟨rfl, hw8⟩
        rw [hw8]
        clear hw8
        go_wp2_with fail
        refine (LB.out _ B6.out).mono ?_
        rintro e w9 ⟨rfl, b9⟩
        have B9 := Lib.hid (B6.out.trans (b9.mono B6.out.size))
        clear b9
        go_wp2
        go_ret
        exact ⟨rfl, B9.out⟩
  · rw [OF.out E rfl hE]
    have hne : (E != 0) = true := by rw [bne_iff_ne]; exact hE
    have heq : (E == 0) = false := by rw [beq_eq_false_iff_ne]; exact hE
    clear hE
    go_wp2
    go_ret
    exact ⟨rfl, B6.out⟩
end Go.Proofs.Ytihiohohocfchaa
