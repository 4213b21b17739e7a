/-
  The law RuleBack, walked. Condition: the string is shorter than 2^32 bytes.
-/
import Derived.Test.YtdencbkepiaigaaDoorRPrt
import Derived.Test.YtdencbkepiaigaaDoorMGood
namespace Go.Proofs.YtdencbkepiaigaaDoor
set_option linter.unusedVariables false
open Go.ChangeShapes Go.WideShapes Go.ChangeAt Go.RowKit

theorem good_byte {x : Str} (h : good x = true) : ∀ c ∈ x, okB c.toNat = true := by
  unfold good at h
  rw [Bool.and_eq_true] at h
  exact List.all_eq_true.1 h.2
theorem ok_byte {c : UInt8} (h : okB c.toNat = true) : c ≠ 58 ∧ bl c = false := by
  refine ⟨by rintro rfl; exact absurd h (by decide), ?_⟩
  rw [bl_nat]
  unfold okB at h
  have h' := of_decide_eq_true h
  unfold blR
  rw [Bool.or_eq_false_iff, beq_eq_false_iff_ne, beq_eq_false_iff_ne]
  omega
theorem good_word {x : Str} (h : good x = true) : x ≠ [] ∧ ∀ c ∈ x, bl c = false := by
  refine ⟨?_, fun c hc => (ok_byte (good_byte h c hc)).2⟩
  rintro rfl
  exact absurd h (by decide)
theorem all_words {l : List Str} (h : l.all good = true) : ∀ x ∈ l, x ≠ [] ∧ ∀ c ∈ x, bl c = false := fun x hx => good_word (List.all_eq_true.1 h x hx)
theorem flatN_tail (n : List Str) : flatN n = Lib.joinTail [32] n := by
  unfold flatN Lib.joinTail
  rw [List.flatMap_def]; rfl
theorem words_flat {n : List Str} (h : n.all good = true) : words (flatN n) = n := by
  cases n with
  | nil => rfl
  | cons x r =>
    have e : flatN (x :: r) = 32 :: Lib.join (x :: r) [32] := by
      rw [Lib.join_cons, ← flatN_tail]; simp [flatN]
    rw [e]
    exact (wgo_skip (c := 32) (r := Lib.join (x :: r) [32]) rfl).trans (words_join (all_words h))
theorem flatN_mem {n : List Str} {c : UInt8} (h : c ∈ flatN n) : c = 32 ∨ ∃ x ∈ n, c ∈ x := by
  unfold flatN at h
  obtain ⟨x, hx, hc⟩ := List.mem_flatMap.1 h
  rcases List.mem_cons.1 hc with e | e
  · exact .inl e
  · exact .inr ⟨x, hx, e⟩
theorem join_mem {l : List Str} {c : UInt8} (h : c ∈ Lib.join l [32]) : c = 32 ∨ ∃ x ∈ l, c ∈ x := by
  cases l with
  | nil => rw [Lib.join_nil] at h; exact absurd h List.not_mem_nil
  | cons x r =>
    rw [Lib.join_cons, ← flatN_tail] at h
    rcases List.mem_append.1 h with h | h
    · exact .inr ⟨x, List.mem_cons_self .., h⟩
    · rcases flatN_mem h with e | ⟨y, hy, e⟩
      · exact .inl e
      · exact .inr ⟨y, List.mem_cons_of_mem _ hy, e⟩
theorem colon_app : ∀ (a b : Str), (∀ c ∈ a, c ≠ 58) → colon (a ++ 58 :: b) = some (a, b)
  | [], b, _ => by simp [colon]
  | c :: a, b, h => by
    have hc := h c (List.mem_cons_self ..)
    rw [List.cons_append, colon, if_neg hc, colon_app a b (fun d hd => h d (List.mem_cons_of_mem _ hd))]
theorem parse_print {t n : List Str} (h : chkR (t, n) = 0) : parseR (printR (t, n)) = ((t, n), 0) := by
  obtain ⟨_, _, _, h1, h2⟩ := chk_ok h
  have hc : colon (printR (t, n)) = some (Lib.join t [32] ++ [32], flatN n) := by
    have e : printR (t, n) = (Lib.join t [32] ++ [32]) ++ 58 :: flatN n := by simp [printR]
    rw [e]
    refine colon_app _ _ fun c hc => ?_
    rcases List.mem_append.1 hc with hc | hc
    · rcases join_mem hc with rfl | ⟨x, hx, hcx⟩
      · decide
      · exact (ok_byte (good_byte (List.all_eq_true.1 h1 x hx) c hcx)).1
    · rw [List.mem_singleton] at hc; subst hc; decide
  have w1 : words (Lib.join t [32] ++ [32]) = t := by
    have := wgo_tail (Lib.join t [32]) [] [32] (by simp [bl])
    exact this.trans (words_join (all_words h1))
  have w2 := words_flat h2
  have := parseR_ok hc (by rw [w1, w2]; exact h)
  rw [w1, w2] at this
  exact this
theorem print_len {t n : List Str} (h : chkR (t, n) = 0) : (printR (t, n)).length ≤ 2000 := by
  obtain ⟨h1, h2, _, h3, h4⟩ := chk_ok h
  have a1 := join_len t
  have a2 := bulk_good h3
  have a3 := flatN_len h4
  simp only [] at h1 h2 a1 a2 a3
  show (Lib.join t [32] ++ [32, 58] ++ flatN n).length ≤ 2000
  rw [List.length_append, List.length_append]
  simp only [List.length_cons, List.length_nil]
  omega
theorem parse_chk (s : Str) : (parseR s).2 = 0 → chkR (parseR s).1 = 0 := by
  intro h
  cases hc : colon s with
  | none => rw [parseR_none hc] at h; cases h
  | some p =>
    by_cases hk : chkR (words p.1, words p.2) = 0
    · rw [parseR_ok hc hk]; exact hk
    · rw [parseR_bad hc hk] at h; exact absurd h hk
theorem parse_bad (s : Str) : (parseR s).2 ≠ 0 → (parseR s).1 = ([], []) := by
  intro h
  cases hc : colon s with
  | none => rw [parseR_none hc]
  | some p =>
    by_cases hk : chkR (words p.1, words p.2) = 0
    · rw [parseR_ok hc hk] at h; exact absurd rfl h
    · rw [parseR_bad hc hk]

theorem ent17 : Ent 17 := Tryd.call17
set_option maxHeartbeats 1000000 in
theorem same_true {w : World} {x1 y1 x2 y2 : Value} {t n : List Str} (h1 : SIn w x1 t) (k1 : SIn w y1 n) (h2 : SIn w x2 t) (k2 : SIn w y2 n) :
    Calls Tryd.prog 17 #[.agg #[x1, y1], .agg #[x2, y2]] w fun e w' => e = .returned (.bool true) ∧ Below w.heap.size w w' := by
  have BA : Hid (Below w.heap.size w ((w.alloc (.cells #[x1, y1] 24)).alloc (.cells #[x2, y2] 24))) := ((Below.refl _ w).alloc (Nat.le_refl _) _).alloc (by simp) _
  have H1 := Lib.hid (h1.later BA.out); have H2 := Lib.hid (h2.later BA.out)
  have K1 := Lib.hid (k1.later BA.out); have K2 := Lib.hid (k2.later BA.out)
  have E1 : Hid (Calls Tryd.prog 18 #[x1, x2] ((w.alloc (.cells #[x1, y1] 24)).alloc (.cells #[x2, y2] 24)) fun e w' => e = .returned (.bool true) ∧ ∃ q, w' = ((w.alloc (.cells #[x1, y1] 24)).alloc (.cells #[x2, y2] 24)).drewN q) := by
    have := equal_of H1.out H2.out
    rw [decide_eq_true rfl] at this
    exact this
  have E2 : Hid (∀ q, Calls Tryd.prog 18 #[y1, y2] (((w.alloc (.cells #[x1, y1] 24)).alloc (.cells #[x2, y2] 24)).drewN q) fun e w' => e = .returned (.bool true) ∧ ∃ p, w' = (((w.alloc (.cells #[x1, y1] 24)).alloc (.cells #[x2, y2] 24)).drewN q).drewN p) := fun q => by
    have := equal_of (w := ((w.alloc (.cells #[x1, y1] 24)).alloc (.cells #[x2, y2] 24)).drewN q) (K1.out.later (below_drewN (Below.refl _ _) q)) (K2.out.later (below_drewN (Below.refl _ _) q))
    rw [decide_eq_true rfl] at this
    exact this
  obtain ⟨a1, c1, rfl⟩ := h1.shape
  obtain ⟨a2, c2, rfl⟩ := h2.shape
  obtain ⟨a3, c3, rfl⟩ := k1.shape
  obtain ⟨a4, c4, rfl⟩ := k2.shape
  clear h1 h2 k1 k2 H1 H2 K1 K2
  generalize t.length = lt at *
  generalize n.length = ln at *
  go_enter Tryd.func17, Tryd.ntmps17
  go_wp2_with fail
  refine E1.out.mono ?_
  rintro e w' ⟨rfl, q, rfl⟩
  go_wp2_with fail
  refine (E2.out q).mono ?_
  rintro e w' ⟨rfl, p, rfl⟩
  go_wp2
  go_ret
  exact ⟨rfl, below_drewN BA.out _⟩

theorem print_ok {w : World} {vt vn : Value} {t n : List Str} (ht : SIn w vt t) (hn : SIn w vn n) (h : chkR (t, n) = 0) :
    Calls Tryd.prog 7 #[.agg #[vt, vn]] w fun e w' => e = .returned (.tuple #[.string (bs (printR (t, n))), .int .i64 0]) ∧ Below w.heap.size w w' :=
  (print_any ht hn).mono fun e w' ⟨h1, h2⟩ => ⟨h1.elim (fun k => k.2) (fun k => absurd h k.1), h2⟩
theorem back_ok {t n : List Str} (W : World) (h : chkR (t, n) = 0) :
    Calls Tryd.prog 8 #[.string (bs (printR (t, n)))] W fun e w' => ∃ vt vn, e = .returned (.tuple #[.agg #[vt, vn], .int .i64 0]) ∧ SIn w' vt t ∧ SIn w' vn n ∧ Below W.heap.size W w' := by
  refine (parse_any (bs (printR (t, n))) W (by rw [bs_size]; have := print_len h; omega)).mono fun e w' hp => ?_
  unfold ParsePost at hp
  rw [bs_list, parse_print h] at hp
  exact hp

set_option maxHeartbeats 8000000 in
set_option maxRecDepth 100000 in
theorem walkBack {w : World} {x y : Value} {t n : List Str} (h : SIn w x t) (k : SIn w y n) (S : ByteArray) (hs : S.size ≤ 4294967296) :
    Calls Tryd.prog 4 #[.agg #[x, y], .string S] w fun e w' => e = .returned (.bool true) ∧ Below w.heap.size w w' := by
  have B0 : Hid (Below w.heap.size w (w.alloc (.cells #[x, y] 24))) := (Below.refl _ w).alloc (Nat.le_refl _) _
  have H0 := Lib.hid (h.later B0.out); have K0 := Lib.hid (k.later B0.out)
  have S0 := Lib.hid (stayR_new w x y)
  have PS : Hid (∀ W, Calls Tryd.prog 8 #[.string S] W (ParsePost S.data.toList W)) := fun W => parse_any S W hs
  have PC := Lib.hid (parse_chk S.data.toList)
  have PB := Lib.hid (parse_bad S.data.toList)
  unfold ParsePost at PS
  obtain ⟨a1, c1, rfl⟩ := h.shape
  obtain ⟨a2, c2, rfl⟩ := k.shape
  clear h k hs
  generalize parseR S.data.toList = R at *
  generalize t.length = lt at *
  generalize n.length = ln at *
  go_enter Tryd.func4, Tryd.ntmps4
  go_wp2_with fail
  refine (rules_true _).mono ?_
  rintro e w1 ⟨rfl, b1⟩
  have B1 := Lib.hid (B0.out.trans (b1.mono (by simp)))
  have H1 := Lib.hid (H0.out.later b1); have K1 := Lib.hid (K0.out.later b1); have S1 := Lib.hid (S0.out.later b1)
  clear b1
  obtain ⟨d0, d1⟩ := S1.out.cells
  go_wp2_with fail
  refine (print_any H1.out K1.out).mono ?_
  rintro e w2 ⟨⟨hck, rfl⟩ | ⟨hck, rfl⟩, b2⟩
  · have B2 := Lib.hid (B1.out.trans (b2.mono B1.out.size))
    have H2 := Lib.hid (H1.out.later b2); have K2 := Lib.hid (K1.out.later b2); have S2 := Lib.hid (S1.out.later b2)
    have BO := Lib.hid (back_ok w2 hck)
    clear b2 hck d0 d1
    generalize printR (t, n) = P at *
    go_wp2_with fail
    refine BO.out.mono ?_
    rintro e w3 ⟨v3, u3, rfl, i3, j3, b3⟩
    have B3 := Lib.hid (B2.out.trans (b3.mono B2.out.size))
    have H3 := H2.out.later b3; have K3 := K2.out.later b3; have S3 := S2.out.later b3
    clear b3
    obtain ⟨a3, c3, rfl⟩ := i3.shape
    obtain ⟨a4, c4, rfl⟩ := j3.shape
    generalize t.length = lt3 at *
    generalize n.length = ln3 at *
    have b4 : Below w3.heap.size w3 (w3.alloc (.cells #[.slice a3 lt3 c3, .slice a4 ln3 c4] 24)) := (Below.refl _ _).alloc (Nat.le_refl _) _
    have B4 := Lib.hid (B3.out.trans (b4.mono B3.out.size))
    have ST := Lib.hid (same_true (i3.later b4) (j3.later b4) (H3.later b4) (K3.later b4))
    obtain ⟨d0, d1⟩ := (S3.later b4).cells
    clear b4 H3 K3 S3 i3 j3
    go_wp2_with fail
    refine ST.out.mono ?_
    rintro e w5 ⟨rfl, b5⟩
    have BW := Lib.hid (B4.out.trans (b5.mono B4.out.size))
    clear b5
    go_wp2_with fail
    refine (PS.out _).mono ?_
    rintro e w6 ⟨v6, u6, rfl, i6, j6, b6⟩
    have B6 := Lib.hid (BW.out.trans (b6.mono BW.out.size))
    clear b6
    have b7 : Below w6.heap.size w6 (w6.alloc (.cells #[v6, u6] 24)) := (Below.refl _ _).alloc (Nat.le_refl _) _
    have S7 := Lib.hid (stayR_new w6 v6 u6)
    have I7 := Lib.hid (i6.later b7); have J7 := Lib.hid (j6.later b7)
    have B7 := Lib.hid (B6.out.trans (b7.mono B6.out.size))
    obtain ⟨a6, c6, rfl⟩ := i6.shape
    obtain ⟨a7, c7, rfl⟩ := j6.shape
    clear b7 i6 j6
    by_cases hr : R.2 = 0
    · have CK := Lib.hid (PC.out hr)
      rw [hr]
      clear hr PC PB PS
      obtain ⟨⟨rt, rn⟩, r2⟩ := R
      simp only [] at I7 J7 CK S7
      simp only []
      generalize rt.length = lt6 at *
      generalize rn.length = ln6 at *
      go_wp2_with fail
      refine (print_ok I7.out J7.out CK.out).mono ?_
      rintro e w8 ⟨rfl, b8⟩
      have B8 := Lib.hid (B7.out.trans (b8.mono B7.out.size))
      have I8 := Lib.hid (I7.out.later b8); have J8 := Lib.hid (J7.out.later b8); have S8 := Lib.hid (S7.out.later b8)
      have BO2 := Lib.hid (back_ok w8 CK.out)
      clear b8
      generalize printR (rt, rn) = P2 at *
      go_wp2_with fail
      refine BO2.out.mono ?_
      rintro e w9 ⟨v9, u9, rfl, i9, j9, b9⟩
      have B9 := Lib.hid (B8.out.trans (b9.mono B8.out.size))
      have I9 := I8.out.later b9; have J9 := J8.out.later b9; have S9 := S8.out.later b9
      clear b9
      obtain ⟨a8, c8, rfl⟩ := i9.shape
      obtain ⟨a9, c9, rfl⟩ := j9.shape
      generalize rt.length = lt9 at *
      generalize rn.length = ln9 at *
      have bA : Below w9.heap.size w9 ((w9.alloc (.cells #[.slice a8 lt9 c8, .slice a9 ln9 c9] 24)).alloc (.cells #[.int .i64 0, .int .i64 0] 26)) := ((Below.refl _ _).alloc (Nat.le_refl _) _).alloc (by simp) _
      have BA := Lib.hid (B9.out.trans (bA.mono B9.out.size))
      have ST2 := Lib.hid (same_true (I9.later bA) (J9.later bA) (i9.later bA) (j9.later bA))
      have SA := Lib.hid (S9.later bA)
      have NA := Lib.hid ((stayR_new w9 (.slice a8 lt9 c8) (.slice a9 ln9 c9)).later ((Below.refl _ _).alloc (Nat.le_refl _) (.cells #[.int .i64 0, .int .i64 0] 26)))
      have IA := Lib.hid (I9.later bA); have JA := Lib.hid (J9.later bA)
      have GD := Lib.hid (good_any (w9.heap.size + 1) 0 0 ((w9.alloc (.cells #[.slice a8 lt9 c8, .slice a9 ln9 c9] 24)).alloc (.cells #[.int .i64 0, .int .i64 0] 26)) (by simp) (by simp))
      obtain ⟨d0, d1⟩ := SA.out.cells
      obtain ⟨e0, e1⟩ := NA.out.cells
      clear bA I9 J9 S9 i9 j9
      go_wp2_with fail
      refine GD.out.mono ?_
      rintro e wB ⟨rfl, hwB⟩
      rw [hwB]
      clear hwB
      go_wp2_with fail
      refine ST2.out.mono ?_
      rintro e wC ⟨rfl, bC⟩
      have BC := Lib.hid (BA.out.trans (bC.mono BA.out.size))
      have IC := Lib.hid (IA.out.later bC); have JC := Lib.hid (JA.out.later bC); have SC := Lib.hid (SA.out.later bC)
      clear bC d0 d1 e0 e1
      obtain ⟨d0, d1⟩ := SC.out.cells
      go_wp2_with fail
      refine (rcheck_any IC.out JC.out).mono ?_
      rw [CK.out]
      rintro e wD ⟨rfl, bD⟩
      have BD := Lib.hid (BC.out.trans (bD.mono BC.out.size))
      clear bD
      go_wp2
      go_ret
      exact ⟨rfl, BD.out⟩
    · obtain ⟨⟨rt, rn⟩, r2⟩ := R
      have E0 := PB.out hr
      simp only [] at E0 hr I7 J7 S7
      cases E0
      have hne2 : (r2 != 0) = true := by rw [bne_iff_ne]; exact hr
      have ST2 := Lib.hid (same_true I7.out J7.out (sin_nil _) (sin_nil _))
      clear hr PC PB PS I7 J7 S7
      simp only [List.length_nil] at ST2 B7
      simp only [List.length_nil]
      go_wp2_with fail
      refine ST2.out.mono ?_
      rintro e w8 ⟨rfl, b8⟩
      have B8 := Lib.hid (B7.out.trans (b8.mono B7.out.size))
      clear b8
      go_wp2
      go_ret
      exact ⟨rfl, B8.out⟩
  · have BW := Lib.hid (B1.out.trans (b2.mono B1.out.size))
    have hne : (chkR (t, n) == 0) = false := by rw [beq_eq_false_iff_ne]; exact hck
    clear b2 hck d0 d1
    go_wp2_with fail
    refine (PS.out _).mono ?_
    rintro e w6 ⟨v6, u6, rfl, i6, j6, b6⟩
    have B6 := Lib.hid (BW.out.trans (b6.mono BW.out.size))
    clear b6
    have b7 : Below w6.heap.size w6 (w6.alloc (.cells #[v6, u6] 24)) := (Below.refl _ _).alloc (Nat.le_refl _) _
    have S7 := Lib.hid (stayR_new w6 v6 u6)
    have I7 := Lib.hid (i6.later b7); have J7 := Lib.hid (j6.later b7)
    have B7 := Lib.hid (B6.out.trans (b7.mono B6.out.size))
    obtain ⟨a6, c6, rfl⟩ := i6.shape
    obtain ⟨a7, c7, rfl⟩ := j6.shape
    clear b7 i6 j6
    by_cases hr : R.2 = 0
    · have CK := Lib.hid (PC.out hr)
      rw [hr]
      clear hr PC PB PS
      obtain ⟨⟨rt, rn⟩, r2⟩ := R
      simp only [] at I7 J7 CK S7
      simp only []
      generalize rt.length = lt6 at *
      generalize rn.length = ln6 at *
      go_wp2_with fail
      refine (print_ok I7.out J7.out CK.out).mono ?_
      rintro e w8 ⟨rfl, b8⟩
      have B8 := Lib.hid (B7.out.trans (b8.mono B7.out.size))
      have I8 := Lib.hid (I7.out.later b8); have J8 := Lib.hid (J7.out.later b8); have S8 := Lib.hid (S7.out.later b8)
      have BO2 := Lib.hid (back_ok w8 CK.out)
      clear b8
      generalize printR (rt, rn) = P2 at *
      go_wp2_with fail
      refine BO2.out.mono ?_
      rintro e w9 ⟨v9, u9, rfl, i9, j9, b9⟩
      have B9 := Lib.hid (B8.out.trans (b9.mono B8.out.size))
      have I9 := I8.out.later b9; have J9 := J8.out.later b9; have S9 := S8.out.later b9
      clear b9
      obtain ⟨a8, c8, rfl⟩ := i9.shape
      obtain ⟨a9, c9, rfl⟩ := j9.shape
      generalize rt.length = lt9 at *
      generalize rn.length = ln9 at *
      have bA : Below w9.heap.size w9 ((w9.alloc (.cells #[.slice a8 lt9 c8, .slice a9 ln9 c9] 24)).alloc (.cells #[.int .i64 0, .int .i64 0] 26)) := ((Below.refl _ _).alloc (Nat.le_refl _) _).alloc (by simp) _
      have BA := Lib.hid (B9.out.trans (bA.mono B9.out.size))
      have ST2 := Lib.hid (same_true (I9.later bA) (J9.later bA) (i9.later bA) (j9.later bA))
      have SA := Lib.hid (S9.later bA)
      have NA := Lib.hid ((stayR_new w9 (.slice a8 lt9 c8) (.slice a9 ln9 c9)).later ((Below.refl _ _).alloc (Nat.le_refl _) (.cells #[.int .i64 0, .int .i64 0] 26)))
      have IA := Lib.hid (I9.later bA); have JA := Lib.hid (J9.later bA)
      have GD := Lib.hid (good_any (w9.heap.size + 1) 0 0 ((w9.alloc (.cells #[.slice a8 lt9 c8, .slice a9 ln9 c9] 24)).alloc (.cells #[.int .i64 0, .int .i64 0] 26)) (by simp) (by simp))
      obtain ⟨d0, d1⟩ := SA.out.cells
      obtain ⟨e0, e1⟩ := NA.out.cells
      clear bA I9 J9 S9 i9 j9
      go_wp2_with fail
      refine GD.out.mono ?_
      rintro e wB ⟨rfl, hwB⟩
      rw [hwB]
      clear hwB
      go_wp2_with fail
      refine ST2.out.mono ?_
      rintro e wC ⟨rfl, bC⟩
      have BC := Lib.hid (BA.out.trans (bC.mono BA.out.size))
      have IC := Lib.hid (IA.out.later bC); have JC := Lib.hid (JA.out.later bC); have SC := Lib.hid (SA.out.later bC)
      clear bC d0 d1 e0 e1
      obtain ⟨d0, d1⟩ := SC.out.cells
      go_wp2_with fail
      refine (rcheck_any IC.out JC.out).mono ?_
      rw [CK.out]
      rintro e wD ⟨rfl, bD⟩
      have BD := Lib.hid (BC.out.trans (bD.mono BC.out.size))
      clear bD
      go_wp2
      go_ret
      exact ⟨rfl, BD.out⟩
    · obtain ⟨⟨rt, rn⟩, r2⟩ := R
      have E0 := PB.out hr
      simp only [] at E0 hr I7 J7 S7
      cases E0
      have hne2 : (r2 != 0) = true := by rw [bne_iff_ne]; exact hr
      have ST2 := Lib.hid (same_true I7.out J7.out (sin_nil _) (sin_nil _))
      clear hr PC PB PS I7 J7 S7
      simp only [List.length_nil] at ST2 B7
      simp only [List.length_nil]
      go_wp2_with fail
      refine ST2.out.mono ?_
      rintro e w8 ⟨rfl, b8⟩
      have B8 := Lib.hid (B7.out.trans (b8.mono B7.out.size))
      clear b8
      go_wp2
      go_ret
      exact ⟨rfl, B8.out⟩
end Go.Proofs.YtdencbkepiaigaaDoor
