/-
  The reference's RulesFilled, walked. Condition: the names handed in are at most 2^43.
-/
import Derived.Test.YtihiohohocfchaaIRr
namespace Go.Proofs.Ytihiohohocfchaa
set_option maxRecDepth 100000
set_option linter.unusedVariables false
open Go.ChangeShapes Go.WideShapes Go.ChangeAt Go.RowKit

set_option maxHeartbeats 8000000 in
set_option maxRecDepth 100000 in
theorem rfill_any {w : World} {v u t : Value} {l : List Rl} {I : List Mc} {T : List Str} (hr : RIn w v l) (hi : IIn w u I) (ht : SIn w t T) (hT : T.length ≤ 8796093022208) :
    Calls Try.prog 8 #[v, u, t] w (FillPost l I T w) := by
  have JA := Lib.hid (rjoin_any hr)
  have HI := Lib.hid hi
  have HT := Lib.hid ht
  have HTN := Lib.hid hT
  obtain ⟨a, cap, rfl, _⟩ := hr
  obtain ⟨⟨ai, ci, rfl, _⟩, _⟩ := hi
  obtain ⟨at', ct, rfl⟩ := ht.shape
  clear ht hT
  generalize l.length = L at *
  generalize I.length = LI at *
  generalize eT : T.length = LT at *
  have ET := Lib.hid eT; clear eT
  go_enter Try.func8, Try.ntmps8
  go_wp2_with fail
  refine JA.out.mono ?_
  rintro e w1 ⟨vj, z, x, rfl, hj, ro, b1⟩
  have HJ := Lib.hid hj
  have B1 := Lib.hid b1; clear b1
  by_cases hx : x ≠ 0
  · have F := Lib.hid (fillR_join (l := l) (z := z) (I := I) (T := T) hx)
    have hne : (x != 0) = true := by rw [bne_iff_ne]; exact hx
    clear hx hj ro
    go_wp2
    go_ret2
    exact ⟨z, x, _, HJ.out, by rw [F.out]; rfl, by rw [F.out]; exact rin_nil _, B1.out⟩
  obtain rfl : x = 0 := by omega
  have JD := Lib.hid hj.joined
  have RI := Lib.hid (ro.rin (by have := JD.out.rb.1; omega) JD.out.small)
  clear hj ro hx
  by_cases hE : infE I ≠ 0
  · have F := Lib.hid (fillR_inf (l := l) (z := z) (T := T) hE)
    have CK := Lib.hid (rfault_any (HI.out.later B1.out))
    have hne : (infE I != 0) = true := by rw [bne_iff_ne]; exact hE
    generalize infE I = E at *
    clear hE
    go_wp2_with fail
    refine CK.out.mono ?_
    rintro e w2 ⟨rfl, b2⟩
    have B2 := Lib.hid (B1.out.trans (b2.mono B1.out.size)); clear b2
    go_wp2
    go_ret2
    exact ⟨z, 0, _, HJ.out, by rw [F.out]; rfl, by rw [F.out]; exact rin_nil _, B2.out⟩
  have hE : infE I = 0 := by omega
  have CK := Lib.hid (rfault_any (HI.out.later B1.out))
  rw [hE] at CK
  have HE := Lib.hid hE; clear hE
  obtain ⟨aj, cj, rfl, _⟩ := id RI.out
  generalize ez : z.length = lz at *
  have EZ := Lib.hid ez; clear ez
  go_wp2_with fail
  refine CK.out.mono ?_
  rintro e w2 ⟨rfl, b2⟩
  have B2 := Lib.hid (B1.out.trans (b2.mono B1.out.size))
  have R2 := Lib.hid (RI.out.later b2)
  clear b2 RI
  have T2 := Lib.hid (HT.out.later B2.out)
  have GN := Lib.hid (goodNames_of T2.out)
  cases hg : T.all good
  · rw [hg] at GN
    have F := Lib.hid (fillR_names (l := l) (z := z) HE.out hg)
    clear hg
    go_wp2_with fail
    refine GN.out.mono ?_
    rintro e w3 ⟨rfl, rfl⟩
    go_wp2
    go_ret2
    exact ⟨z, 0, _, HJ.out, by rw [F.out]; rfl, by rw [F.out]; exact rin_nil _, B2.out⟩
  rw [hg] at GN
  have TG := Lib.hid hg; clear hg
  have RB2 := Lib.hid JD.out.rb
  have HB : Hid (∀ k, k < lz → (tg z k).length ≤ 64 ∧ (nd z k).length ≤ 64) := Lib.hid (fun k hk => RB2.out.2 k (by rw [EZ.out]; exact hk))
  have LZ : lz ≤ 64 := by have := RB2.out.1; rw [EZ.out] at this; exact this
  have NT : Hid (∀ k, k < lz → namesJ (z.take (k + 1)) = namesJ (z.take k) ++ tg z k ++ nd z k) := fun k hk => namesJ_take (by rw [EZ.out]; exact hk)
  have NE : Hid (namesJ (z.take lz) = namesJ z) := Lib.hid (by rw [← EZ.out, List.take_length])
  obtain ⟨_, _, he5, _, _, _, h5⟩ := id R2.out
  rw [EZ.out] at he5
  injection he5 with e51 e52 e53
  have HC : Hid (∀ W, Below w2.heap.size w2 W → ∀ k, k < lz → ∃ b off tv uv, aj = some ⟨b, off, none⟩ ∧ W.cell? ⟨b, off + k * 2, none⟩ = some tv ∧ W.cell? ⟨b, off + k * 2 + 1, none⟩ = some uv ∧ SIn w2 tv (tg z k) ∧ SIn w2 uv (nd z k)) := fun W hW k hk => by
    rcases h5 with rfl | ⟨b, off, ha, hlt, TT, UU, hc⟩
    · rw [← EZ.out] at hk; exact absurd hk (Nat.not_lt_zero _)
    · rw [← EZ.out] at hk
      exact ⟨b, off, TT k, UU k, e51.trans ha, cell_later hW (hc k hk).1, cell_later hW (hc k hk).2.1, (hc k hk).2.2.1, (hc k hk).2.2.2⟩
  clear h5 e51 e52 e53
  go_wp2_with fail
  refine GN.out.mono ?_
  rintro e w3 ⟨rfl, hw3⟩
  rw [hw3]
  clear hw3
  go_wp2_with fail
  go_loopw [11, 42] (fun o i wr => ∃ (k : Nat) (all : List Str) (ao : Option Addr) (no co : Nat), k ≤ lz ∧ i = .int .i64 (k : Int) ∧ o = .slice ao no co ∧ all = namesJ (z.take k) ∧ SO w2.heap.size o all wr ∧ all.length ≤ 128 * k ∧ Below w2.heap.size w2 wr) (fun _ i _ => lz - (intOf i).toNat)
  case atStart => exact ⟨0, [], none, 0, 0, Nat.zero_le _, rfl, rfl, rfl, World.ownsRow_nil _ _ _ _, Nat.zero_le _, Below.refl _ _⟩
  case round =>
    obtain ⟨k, all, ao, no, co, hk, rfl, rfl, ha, qo, ql, qb⟩ := hrel
    have QO := Lib.hid qo; have QB := Lib.hid qb; have HA := Lib.hid ha; clear qo qb ha
    by_cases hkl : k < lz
    · obtain ⟨b, off, tv, uv, rfl, c0, c1, s0, s1⟩ := HC.out wr QB.out k hkl
      have N1 := Lib.hid (NT.out k hkl)
      obtain ⟨l1, l2⟩ := HB.out k hkl
      generalize tg z k = tk at *
      generalize nd z k = nk at *
      have K0 := Lib.hid (blk_new wr #[tv, uv] 40)
      have O0 : SO w2.heap.size (.slice ao no co) all (wr.alloc (.cells #[tv, uv] 40)).drew := own_later (World.ownsRow.alloc QO.out _) (Below.refl _ _).drew
      have W0 : Below w2.heap.size w2 (wr.alloc (.cells #[tv, uv] 40)).drew := (QB.out.alloc QB.out.size _).drew
      obtain ⟨a1, n1, k1, w4, r1, o1, g1, b1⟩ := app_sin O0 (s0.later W0) (by omega) W0.size
      have W1 : Below w2.heap.size w2 w4 := W0.trans b1
      have K1 := Lib.hid (blk_grown (K0.out.later (Below.refl _ _).drew) g1 (fun q hq => (QO.out.lt q hq).2))
      obtain ⟨a2, n2, k2, w5, r2, o2, g2, b2⟩ := app_sin o1 (s1.later W1) (by rw [List.length_append]; omega) W1.size
      have R1 := Lib.hid r1; have R2' := Lib.hid r2
      have O2 := Lib.hid o2
      have W2 := Lib.hid (W1.trans b2)
      obtain ⟨at2, ct2, rfl⟩ := s0.shape
      obtain ⟨an2, cn2, rfl⟩ := s1.shape
      have LA : Hid ((all ++ tk ++ nk).length ≤ 128 * (k + 1)) := Lib.hid (by rw [List.length_append, List.length_append]; omega)
      have d0 := K0.out.cell (i := 0) rfl
      have d1 := K0.out.cell (i := 1) rfl
      have d2 := K1.out.cell (i := 1) rfl
      clear O0 W0 W1 r1 r2 o1 o2 g1 g2 b1 b2 l1 l2 s0 s1
      generalize tk.length = lt at *
      generalize nk.length = ln at *
      go_wp2_with fail
      go_region_law (first
        | (refine step_append_run rfl (.tmp 46) (.tmp 48) 24 rfl (.slice ao no co) (.slice at2 lt ct2) (by simp [Act.eval]) (by simp [Act.eval]) (.slice a1 n1 k1) w4 R1.out ?_)
        | (refine step_append_run rfl (.tmp 49) (.tmp 51) 24 rfl (.slice a1 n1 k1) (.slice an2 ln cn2) (by simp [Act.eval]) (by simp [Act.eval]) (.slice a2 n2 k2) w5 R2'.out ?_))
      all_goals simp only [Act.put, List.getElem_toArray, List.getElem_cons_succ, List.getElem_cons_zero, List.setIfInBounds_toArray, List.set_cons_succ, List.set_cons_zero]
      all_goals go_wp2
      all_goals go_roundw
      all_goals first
        | exact ⟨k + 1, all ++ tk ++ nk, _, _, _, by omega, by go_num, rfl, by rw [N1.out, HA.out], O2.out, LA.out, W2.out⟩
        | (simp [intOf]; omega)
    · obtain rfl : lz = k := by omega
      have A := HA.out
      rw [NE.out] at A
      subst A
      have NG : Hid ((uniq (namesJ z)).all good = true) := Lib.hid (good_uniq JD.out.good)
      have L8 : Hid ((uniq (namesJ z)).length ≤ 8192) := Lib.hid (Nat.le_trans (uniq_le _) (by omega))
      have S3 := Lib.hid (SIn.own QO.out (by omega) (small_all JD.out.good))
      have RG := Lib.hid (rising_of S3.out (by omega))
      have B3 := Lib.hid (B2.out.trans (QB.out.mono B2.out.size))
      have R3 := Lib.hid (R2.out.later QB.out)
      have T3 := Lib.hid (T2.out.later QB.out)
      clear ql QO
      go_wp2_with fail
      refine RG.out.mono ?_
      rintro e w6 ⟨v6, rfl, o6, b6⟩
      have B6 := Lib.hid (B3.out.trans (b6.mono B3.out.size))
      have R6 := Lib.hid (R3.out.later b6)
      have T6 := Lib.hid (T3.out.later b6)
      have S6 := Lib.hid (SIn.own o6 (by have := L8.out; omega) (small_all NG.out))
      clear o6 b6 S3 RG
      obtain ⟨a7, n7, c7, w7, r7, o7, _, b7⟩ := app_sin (w := w6) (base := w6.heap.size) (u := .slice none 0 0) (z1 := []) (World.ownsRow_nil _ _ _ _) S6.out (by have := L8.out; simp; omega) (Nat.le_refl _)
      rw [List.nil_append] at o7
      obtain ⟨a8, n8, c8, w8, r8, o8, b8⟩ := app_sinW o7 (T6.out.later b7) (by rw [ET.out]; have := L8.out; have := HTN.out; omega) b7.size
      have R7 := Lib.hid r7
      have R8 := Lib.hid r8
      have B68 := b7.trans b8
      have LL : Hid ((uniq (namesJ z) ++ T).length ≤ 8796093030400) := Lib.hid (by rw [List.length_append, ET.out]; have := L8.out; have := HTN.out; omega)
      have S8 := Lib.hid (SIn.own o8 (by have := LL.out; omega) (small_all (by rw [List.all_append, NG.out, TG.out]; rfl)))
      have RW := Lib.hid (rising_ofW S8.out LL.out)
      have B8 := Lib.hid (B6.out.trans (B68.mono B6.out.size))
      have R6' := Lib.hid (R6.out.later B68)
      have S6' := Lib.hid (S6.out.later B68)
      obtain ⟨aU, cU, rfl⟩ := S6.out.shape
      clear r7 o7 b7 r8 o8 b8 B68
      generalize eU : (uniq (namesJ z)).length = nu at *
      go_wp2_with (at_builtin; go_must (first
        | refine Lib.wpList_append_run _ rfl (.const (.slice none 0 0)) (.tmp 56) 24 24 rfl _ _ rfl rfl _ _ R7.out ?_
        | refine Lib.wpList_append_run _ rfl (.tmp 57) (.tmp 58) 24 24 rfl _ _ rfl rfl _ _ R8.out ?_))
      refine RW.out.mono ?_
      rintro e w9 ⟨v9, rfl, o9, b9⟩
      have B9 := Lib.hid (B8.out.trans (b9.mono B8.out.size))
      have R9 := Lib.hid (R6'.out.later b9)
      have S9 := Lib.hid (S6'.out.later b9)
      have KG : (uniq (uniq (namesJ z) ++ T)).all good = true := good_uniq (by rw [List.all_append, NG.out, TG.out]; rfl)
      have UL : (uniq (uniq (namesJ z) ++ T)).length ≤ 17592186044416 := Nat.le_trans (uniq_le _) (by have := LL.out; omega)
      have K9 := Lib.hid (SIn.own o9 UL (small_all KG))
      clear o9 b9 KG
      obtain ⟨ak, ck, rfl⟩ := K9.out.shape
      by_cases h64 : 64 < (uniq (uniq (namesJ z) ++ T)).length
      · have F := Lib.hid (fillR_many (l := l) HE.out TG.out h64)
        generalize (uniq (uniq (namesJ z) ++ T)).length = nk at *
        go_wp2
        go_ret2
        exact ⟨z, 0, _, HJ.out, by rw [F.out]; rfl, by rw [F.out]; exact rin_nil _, B9.out⟩
      have h64' : (uniq (uniq (namesJ z) ++ T)).length ≤ 64 := by omega
      have F := Lib.hid (fillR_ok (l := l) HE.out TG.out h64')
      have FS := Lib.hid (fill_small JD.out (I := I) h64' TG.out)
      have FL : Hid (fillL l z I T = (uniq (namesJ z)).filterMap (fillOne l I (uniq (uniq (namesJ z) ++ T)))) := rfl
      have NJ : Hid (∀ s, needsR z s = needsR l s) := needs_joined JD.out
      have IT : Hid (∀ s, isT z lz s = decide (s ∈ uniq (allT l))) := fun s => by rw [← EZ.out]; exact isT_all JD.out s
      have IS : Hid (∀ j s, j < lz → isT z (j + 1) s = (isT z j s || decide (hd z j = s))) := fun j s hj => isT_step (by rw [EZ.out]; exact hj) s
      have HD : Hid (∀ j, j < lz → tg z j = [hd z j]) := fun j hj => by
        have e := JD.out.tg (k := j) (by rw [EZ.out]; exact hj)
        unfold hd
        rw [e]; rfl
      have H10 : Hid (∀ k, k < I.length → (nm I k).length ≤ 10) := fun k hk => sufB_len (infE_sufs HE.out k hk).1
      have I9 := Lib.hid (HI.out.later B9.out)
      have RNB : Hid (∀ k, k < z.length → (nd z k).length ≤ 64) := fun k hk => (JD.out.rb.2 k hk).2
      have RNL : Hid (z.length ≤ 100) := Lib.hid (by rw [EZ.out]; omega)
      clear UL h64
      generalize hK : uniq (uniq (namesJ z) ++ T) = K at *
      have FE0 := Lib.hid FL.out
      obtain ⟨_, _, he7, hc7, _, _, h7⟩ := id S9.out
      rw [eU] at he7
      injection he7 with e71 e72 e73
      obtain ⟨_, _, he8, _, _, _, h8⟩ := id R9.out
      rw [EZ.out] at he8
      injection he8 with e81 e82 e83
      have HC9 : Hid (∀ W, Below w9.heap.size w9 W → ∀ k, k < lz → ∃ b off tv uv, aj = some ⟨b, off, none⟩ ∧ W.cell? ⟨b, off + k * 2, none⟩ = some tv ∧ W.cell? ⟨b, off + k * 2 + 1, none⟩ = some uv ∧ SIn W tv (tg z k) ∧ SIn W uv (nd z k)) := fun W hW k hk => by
        rcases h8 with rfl | ⟨b, off, ha, hlt, TT, UU, hc⟩
        · rw [← EZ.out] at hk; exact absurd hk (Nat.not_lt_zero _)
        · rw [← EZ.out] at hk
          exact ⟨b, off, TT k, UU k, e81.trans ha, cell_later hW (hc k hk).1, cell_later hW (hc k hk).2.1, (hc k hk).2.2.1.later hW, (hc k hk).2.2.2.later hW⟩
      clear h8 e81 e82 e83
      generalize hUU : uniq (namesJ z) = U at *
      have HCU : Hid (∀ W, Below w9.heap.size w9 W → ∀ k, k < nu → ∃ b off, aU = some ⟨b, off, none⟩ ∧ W.cell? ⟨b, off + k, none⟩ = some (.string (bs (U.getD k [])))) := fun W hW k hk => by
        rw [← eU] at hk
        rcases h7 with rfl | ⟨b, off, ha, _, hc⟩
        · exact absurd hk (Nat.not_lt_zero _)
        · exact ⟨b, off, e71.trans ha, cell_later hW (hc k hk)⟩
      have FT : Hid (∀ k, k < nu → (U.take (k + 1)).filterMap (fillOne l I K) = (U.take k).filterMap (fillOne l I K) ++ (fillOne l I K (U.getD k [])).toList) := fun k hk => fill_take (by rw [eU]; exact hk)
      have FE : Hid ((U.take nu).filterMap (fillOne l I K) = fillL l z I T) := Lib.hid (by rw [← eU, List.take_length, FE0.out])
      have GX : Hid (∀ k, k < nu → (U.getD k []).length ≤ 40) := fun k hk => (good_len (List.all_eq_true.1 NG.out _ (getD_mem (by rw [eU]; exact hk)))).2
      have NU : nu ≤ 8192 := L8.out
      clear h7 hc7 e71 e72 e73 FE0 FL
      generalize K.length = nk at *
      generalize fillL l z I T = FF at *
      go_wp2_with fail
      go_loopw [15, 66] (fun o i wr => ∃ (k : Nat) (out : List Rl) (ao : Option Addr) (no co : Nat), k ≤ nu ∧ i = .int .i64 (k : Int) ∧ o = .slice ao no co ∧ out = (U.take k).filterMap (fillOne l I K) ∧ FO w9.heap.size o out wr ∧ out.length ≤ k ∧ Below w9.heap.size w9 wr) (fun _ i _ => nu - (intOf i).toNat)
      case atStart => exact ⟨0, [], none, 0, 0, Nat.zero_le _, rfl, rfl, rfl, FO.nil _ _, Nat.le_refl _, Below.refl _ _⟩
      case round =>
        obtain ⟨k, out, ao, no, co, hk, rfl, rfl, ho, fo, hl, qb⟩ := hrel
        have O1 := Lib.hid ho; have FO1 := Lib.hid fo; have QB2 := Lib.hid qb; clear ho fo qb
        rename World => wq
        have HL : Hid (out.length ≤ 8192 ∧ out.length ≤ k) := Lib.hid ⟨by omega, hl⟩
        clear hl
        by_cases hkl : k < nu
        · obtain ⟨b, off, rfl, c0⟩ := HCU.out wq QB2.out k hkl
          have FT1 := FT.out k hkl
          clear FT
          have FT := Lib.hid FT1
          clear FT1
          have X40 := GX.out k hkl
          generalize U.getD k [] = x at *
          have RN := Lib.hid (rneedsW (R9.out.later QB2.out) x RNL.out RNB.out)
          rw [NJ.out] at RN
          go_wp2_with fail
          refine RN.out.mono ?_
          rintro e wn ⟨un, rfl, on, _, _, bn⟩
          obtain ⟨ax, cx, rfl⟩ := own_shape' on
          have HU : Hid (∀ W, Below wn.heap.size wn W → HN w9.heap.size (.slice ax (needsR l x).length cx) (needsR l x) W) := fun W hW => HN.later (.inl (own_base on QB2.out.size)) hW
          have QN := Lib.hid (QB2.out.trans (bn.mono QB2.out.size))
          have FN := Lib.hid (FO1.out.later bn)
          clear on bn RN c0
          generalize hln : (needsR l x).length = ln at *
          have HLN := Lib.hid hln; clear hln
          go_wp2_with fail
          go_loopw [19, 75] (fun q i wk => ∃ j : Nat, j ≤ lz ∧ i = .int .i64 (j : Int) ∧ q = .bool (isT z j x) ∧ Below wn.heap.size wn wk) (fun _ i _ => lz - (intOf i).toNat)
          case atStart => exact ⟨0, Nat.zero_le _, rfl, rfl, Below.refl _ _⟩
          case round =>
            obtain ⟨j, hj, rfl, rfl, qk⟩ := hrel
            have QK2 := Lib.hid qk; clear qk
            rename World => wk
            have QK := Lib.hid (QN.out.trans (QK2.out.mono QN.out.size))
            by_cases hjl : j < lz
            · obtain ⟨b2, off2, tv, uv, rfl, p0, p1, s0, s1⟩ := HC9.out wk QK.out j hjl
              have IS1 := Lib.hid (IS.out j x hjl)
              rw [HD.out j hjl] at s0
              obtain ⟨b3, off3, c3, rfl, h3⟩ := sin_one s0
              obtain ⟨an', cn, rfl⟩ := s1.shape
              have BA : Below wk.heap.size wk (wk.alloc (.cells #[.slice (some ⟨b3, off3, none⟩) 1 c3, .slice an' (nd z j).length cn] 40)) := (Below.refl _ _).alloc (Nat.le_refl _) _
              have WQ := Lib.hid (QK2.out.trans (BA.mono QK2.out.size))
              have K5 := blk_new wk #[.slice (some ⟨b3, off3, none⟩) 1 c3, .slice an' (nd z j).length cn] 40
              have d0 := K5.cell (i := 0) rfl
              have d1 := h3 _ BA
              generalize hd z j = y at *
              generalize (nd z j).length = lnj at *
              have e1 : ((bs y).toList == (bs x).toList) = decide (y = x) := by rw [bs_toList, bs_toList, beq_dec]
              clear s0 s1 h3 BA K5
              cases hq : isT z j x
              · rw [hq] at IS1
                clear hq
                generalize decide (y = x) = dq at *
                have IS2 : Hid (isT z (j + 1) x = dq) := Lib.hid (by rw [IS1.out]; rfl)
                go_wp2
                go_roundw
                case rel => exact ⟨j + 1, by omega, by go_num, by rw [IS2.out], WQ.out⟩
                case measure => simp [intOf]; omega
              · rw [hq] at IS1
                clear hq e1
                have IS2 : Hid (isT z (j + 1) x = true) := Lib.hid (by rw [IS1.out]; rfl)
                go_wp2
                go_roundw
                case rel => exact ⟨j + 1, by omega, by go_num, by rw [IS2.out], WQ.out⟩
                case measure => simp [intOf]; omega
            · obtain rfl : lz = j := by omega
              rw [IT.out]
              have FOK := Lib.hid (FN.out.later QK2.out)
              have IF := Lib.hid (rinferred_any (I9.out.later QK.out) (K9.out.later QK.out) x (by omega) H10.out)
              by_cases hn : needsR l x = []
              · have ln0 : ln = 0 := by rw [← HLN.out, hn]; rfl
                subst ln0
                rw [hn] at HU
                by_cases hm : x ∈ uniq (allT l)
                · have dm : decide (x ∈ uniq (allT l)) = true := decide_eq_true hm
                  rw [dm]
                  clear dm
                  cases ho : inf1 I K (stm x) (sfx x) with
                  | some m =>
                    rw [ho] at IF
                    have OO := Lib.hid (one_inf (I := I) (K := K) hn ho)
                    have em : ofS (some m) = m := rfl
                    rw [em] at IF
                    clear ho em
                    go_wp2_with fail
                    refine IF.out.mono ?_
                    rintro e w6 ⟨rfl, b6⟩
                    have B6 := Lib.hid (QK.out.trans (b6.mono QK.out.size))
                    have F6 := Lib.hid (FOK.out.later (b6.alloc b6.size (.cells #[.string (bs m)] 9)))
                    have A6 := Lib.hid (B6.out.alloc B6.out.size (.cells #[.string (bs m)] 9))
                    have N6 : Hid (HN w9.heap.size (.slice (some ⟨w6.heap.size, 0, none⟩) 1 1) [m] (w6.alloc (.cells #[.string (bs m)] 9))) := .inl (one_new w6 _ m B6.out.size)
                    clear b6
                    obtain ⟨a8, n8, c8, w8, r8, f8, b8⟩ := app_two (x := x) (n := [m]) F6.out N6.out rfl (by have := HL.out; omega) A6.out.size
                    have hs6 : (w6.alloc (.cells #[.string (bs m)] 9)).heap.size = w6.heap.size + 1 := by simp
                    rw [hs6] at r8
                    have RR := Lib.hid r8
                    have FF5 := Lib.hid f8
                    have BB5 := Lib.hid (A6.out.trans (b8.mono (Nat.le_refl _)))
                    clear r8 f8 b8
                    go_wp2_with (at_builtin; go_must (refine Lib.wpList_append_run _ rfl (.tmp 103) (.tmp 108) 22 22 rfl _ _ rfl rfl _ _ RR.out ?_))
                    go_roundw
                    case rel => exact ⟨k + 1, _, _, _, _, by omega, by go_num, rfl, by rw [FT.out, O1.out, OO.out]; rfl, FF5.out, by rw [List.length_append]; have := HL.out; simp; omega, BB5.out⟩
                    case measure => simp [intOf]; omega
                  | none =>
                    rw [ho] at IF
                    have OO := Lib.hid (one_made (I := I) (K := K) hn ho hm)
                    clear ho
                    go_wp2_with fail
                    refine IF.out.mono ?_
                    rintro e w6 ⟨rfl, b6⟩
                    have B6 := Lib.hid (QK.out.trans (b6.mono QK.out.size))
                    have F6 := Lib.hid (FOK.out.later b6)
                    have U6 := Lib.hid (HU.out _ (QK2.out.trans (b6.mono QK2.out.size)))
                    clear b6
                    obtain ⟨a8, n8, c8, w8, r8, f8, b8⟩ := app_two (x := x) (n := []) F6.out U6.out rfl (by have := HL.out; omega) B6.out.size
                    have RR := Lib.hid r8
                    have FF5 := Lib.hid f8
                    have BB5 := Lib.hid (B6.out.trans (b8.mono (Nat.le_refl _)))
                    clear r8 f8 b8
                    go_wp2_with (at_builtin; go_must (refine Lib.wpList_append_run _ rfl (.tmp 103) (.tmp 108) 22 22 rfl _ _ rfl rfl _ _ RR.out ?_))
                    go_roundw
                    case rel => exact ⟨k + 1, _, _, _, _, by omega, by go_num, rfl, by rw [FT.out, O1.out, OO.out]; rfl, FF5.out, by rw [List.length_append]; have := HL.out; simp; omega, BB5.out⟩
                    case measure => simp [intOf]; omega
                · have dm : decide (x ∈ uniq (allT l)) = false := decide_eq_false hm
                  rw [dm]
                  clear dm
                  cases ho : inf1 I K (stm x) (sfx x) with
                  | some m =>
                    rw [ho] at IF
                    have OO := Lib.hid (one_inf (I := I) (K := K) hn ho)
                    have em : ofS (some m) = m := rfl
                    rw [em] at IF
                    clear ho em
                    go_wp2_with fail
                    refine IF.out.mono ?_
                    rintro e w6 ⟨rfl, b6⟩
                    have B6 := Lib.hid (QK.out.trans (b6.mono QK.out.size))
                    have F6 := Lib.hid (FOK.out.later (b6.alloc b6.size (.cells #[.string (bs m)] 9)))
                    have A6 := Lib.hid (B6.out.alloc B6.out.size (.cells #[.string (bs m)] 9))
                    have N6 : Hid (HN w9.heap.size (.slice (some ⟨w6.heap.size, 0, none⟩) 1 1) [m] (w6.alloc (.cells #[.string (bs m)] 9))) := .inl (one_new w6 _ m B6.out.size)
                    clear b6
                    obtain ⟨a8, n8, c8, w8, r8, f8, b8⟩ := app_two (x := x) (n := [m]) F6.out N6.out rfl (by have := HL.out; omega) A6.out.size
                    have hs6 : (w6.alloc (.cells #[.string (bs m)] 9)).heap.size = w6.heap.size + 1 := by simp
                    rw [hs6] at r8
                    have RR := Lib.hid r8
                    have FF5 := Lib.hid f8
                    have BB5 := Lib.hid (A6.out.trans (b8.mono (Nat.le_refl _)))
                    clear r8 f8 b8
                    go_wp2_with (at_builtin; go_must (refine Lib.wpList_append_run _ rfl (.tmp 103) (.tmp 108) 22 22 rfl _ _ rfl rfl _ _ RR.out ?_))
                    go_roundw
                    case rel => exact ⟨k + 1, _, _, _, _, by omega, by go_num, rfl, by rw [FT.out, O1.out, OO.out]; rfl, FF5.out, by rw [List.length_append]; have := HL.out; simp; omega, BB5.out⟩
                    case measure => simp [intOf]; omega
                  | none =>
                    rw [ho] at IF
                    have OO := Lib.hid (one_none (I := I) (K := K) hn ho hm)
                    clear ho
                    go_wp2_with fail
                    refine IF.out.mono ?_
                    rintro e w6 ⟨rfl, b6⟩
                    have B6 := Lib.hid (QK.out.trans (b6.mono QK.out.size))
                    have F6 := Lib.hid (FOK.out.later b6)
                    have U6 := Lib.hid (HU.out _ (QK2.out.trans (b6.mono QK2.out.size)))
                    clear b6
                    go_wp2
                    go_roundw
                    case rel => exact ⟨k + 1, out, ao, no, co, by omega, by go_num, rfl, by rw [FT.out, O1.out, OO.out]; exact (List.append_nil _).symm, F6.out, by have := HL.out; omega, B6.out⟩
                    case measure => simp [intOf]; omega
              · have hm : x ∈ uniq (allT l) := by
                  rcases Classical.em (x ∈ uniq (allT l)) with h | h
                  · exact h
                  · exact absurd (needs_target h) hn
                have dm : decide (x ∈ uniq (allT l)) = true := decide_eq_true hm
                rw [dm]
                have OO := Lib.hid (one_needs (I := I) (K := K) hn)
                have ln1 : ¬ (ln : Int) = 0 := fun h => hn (List.length_eq_zero_iff.1 (by rw [HLN.out]; omega))
                have U6 := Lib.hid (HU.out _ QK2.out)
                clear dm hn hm
                generalize needsR l x = N at *
                obtain ⟨a8, n8, c8, w8, r8, f8, b8⟩ := app_two (x := x) (n := N) FOK.out U6.out rfl (by have := HL.out; omega) QK.out.size
                have RR := Lib.hid r8
                have FF5 := Lib.hid f8
                have BB5 := Lib.hid (QK.out.trans (b8.mono (Nat.le_refl _)))
                clear r8 f8 b8
                go_wp2_with (at_builtin; go_must (refine Lib.wpList_append_run _ rfl (.tmp 103) (.tmp 108) 22 22 rfl _ _ rfl rfl _ _ RR.out ?_))
                go_roundw
                case rel => exact ⟨k + 1, _, _, _, _, by omega, by go_num, rfl, by rw [FT.out, O1.out, OO.out]; rfl, FF5.out, by rw [List.length_append]; have := HL.out; simp; omega, BB5.out⟩
                case measure => simp [intOf]; omega
        · obtain rfl : nu = k := by omega
          have A := O1.out
          rw [FE.out] at A
          subst A
          have RF := Lib.hid (FO1.out.rin (by have := FS.out.1; omega) FS.out.2)
          have BF := Lib.hid (B9.out.trans (QB2.out.mono B9.out.size))
          go_wp2
          go_ret2
          exact ⟨z, 0, _, HJ.out, by rw [F.out]; rfl, by rw [F.out]; exact RF.out, BF.out⟩
end Go.Proofs.Ytihiohohocfchaa
