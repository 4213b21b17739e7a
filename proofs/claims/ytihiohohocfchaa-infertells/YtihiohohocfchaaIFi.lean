/-
  Package infer: Fill. Condition: the names handed in are at most 2^44 - 8192.
-/
import Derived.Test.YtihiohohocfchaaINb
namespace Go.Proofs.Ytihiohohocfchaa
set_option maxRecDepth 100000
set_option linter.unusedVariables false
open Go.ChangeShapes Go.WideShapes Go.ChangeAt Go.RowKit

/-- a rule appended to a row of one's own -/
theorem app_rule {w : World} {B q : Nat} {o p1 p2 : Value} {out : List Rl} {t n : List Str} (hf : FO B o out w) (h1 : HN B p1 t w) (h2 : HN B p2 n w)
    (c1 : w.cell? ⟨q, 0, none⟩ = some p1) (c2 : w.cell? ⟨q, 1, none⟩ = some p2) (o1 : p1.oneCell' = true) (o2 : p2.oneCell' = true) (hl : out.length ≤ 100000) (hB : B ≤ w.heap.size) :
    ∃ a n5 c5 w5, (Builtin.append_ #[22, 22] 22 #[o, .slice (some ⟨q, 0, none⟩) 1 1]).run Try.prog w = .ok (.slice a n5 c5) w5 ∧ FO B (.slice a n5 c5) (out ++ [(t, n)]) w5 ∧ Below B w w5 := by
  obtain ⟨j0, ji, jz0, jz1, jz2⟩ := info_parts infoRl
  obtain ⟨c, hcl, ho, he⟩ := hf
  obtain ⟨v', w', r, ow, gr, _⟩ := run_append_own (P := Try.prog) w B 22 22 40 j0 (.agg #[.slice none 0 0, .slice none 0 0]) 2 48 Try.underlying22 ji jz0 jz1 jz2 rfl (by decide) o out.length (rcells c) ho ⟨q, 0, none⟩ 1 1 [p1, p2] rfl (fun j u hj => by
    match j, hj with
    | 0, hj => simp at hj; subst hj; exact c1
    | 1, hj => simp at hj; subst hj; simpa [Addr.add] using c2
    | (j + 2), hj => simp at hj) (by intro u hu; simp at hu; rcases hu with rfl | rfl <;> assumption) (by unfold maxLen; omega) (by omega) hB
  obtain ⟨a5, k5, rfl⟩ := own_shape' ow
  exact ⟨a5, _, k5, w', r, fo_snoc hcl ho he h1 h2 gr ow, (Below.refl _ w).grown gr hB fun k hk => (ho.lt k hk).1⟩
theorem app_two {w : World} {B : Nat} {o p2 : Value} {out : List Rl} {x : Str} {n : List Str} (hf : FO B o out w) (h2 : HN B p2 n w) (o2 : p2.oneCell' = true) (hl : out.length ≤ 100000) (hB : B ≤ w.heap.size) :
    ∃ a n5 c5 w5, (Builtin.append_ #[22, 22] 22 #[o, .slice (some ⟨w.heap.size + 1, 0, none⟩) 1 1]).run Try.prog ((w.alloc (.cells #[.string (bs x)] 9)).alloc (.cells #[.slice (some ⟨w.heap.size, 0, none⟩) 1 1, p2] 40)) = .ok (.slice a n5 c5) w5 ∧ FO B (.slice a n5 c5) (out ++ [([x], n)]) w5 ∧ Below B w w5 := by
  have ba : Below w.heap.size w ((w.alloc (.cells #[.string (bs x)] 9)).alloc (.cells #[.slice (some ⟨w.heap.size, 0, none⟩) 1 1, p2] 40)) := ((Below.refl _ w).alloc (Nat.le_refl _) _).alloc (by simp) _
  have hs : (w.alloc (.cells #[.string (bs x)] 9)).heap.size = w.heap.size + 1 := by simp
  have kb := blk_new (w.alloc (.cells #[.string (bs x)] 9)) #[.slice (some ⟨w.heap.size, 0, none⟩) 1 1, p2] 40
  rw [hs] at kb
  obtain ⟨a, n5, c5, w5, r, f5, b5⟩ := app_rule (hf.later ba) (.inl ((one_new w B x hB).alloc _)) (h2.later ba) (kb.cell (i := 0) rfl) (kb.cell (i := 1) rfl) rfl o2 hl (Nat.le_trans hB ba.size)
  exact ⟨a, n5, c5, w5, r, f5, (ba.mono hB).trans b5⟩
theorem nm_cases {l z : List Rl} {f : Str → Option Value} {w : World} (hj : Joined l z) (hn : NM z f w) (s : Str) :
    (∃ a c, f s = some (.slice a (needsR l s).length c) ∧ SIn w (.slice a (needsR l s).length c) (needsR l s) ∧ s ∈ uniq (allT l)) ∨ (f s = none ∧ needsR l s = [] ∧ s ∉ uniq (allT l)) := by
  have hh : ∀ k, k < z.length → hd z k = (uniq (allT l)).getD k [] := fun k hk => by unfold hd; rw [hj.tg hk]; rfl
  cases hf : f s with
  | some x =>
    obtain ⟨k, hk, h1, h2⟩ := hn.1 s x hf
    rw [hj.nd hk, ← hh k hk, h1] at h2
    obtain ⟨a, c, rfl⟩ := h2.shape
    refine .inl ⟨a, c, rfl, h2, ?_⟩
    rw [← h1, hh k hk]
    exact getD_mem (by rw [← hj.len]; exact hk)
  | none =>
    have hno : s ∉ uniq (allT l) := fun hm => by
      obtain ⟨k, hk, e⟩ := mem_getD hm
      have hk' : k < z.length := by rw [hj.len]; exact hk
      exact hn.2 s hf k hk' (by rw [hh k hk', e])
    exact .inr ⟨rfl, needs_target hno, hno⟩
/-- what Fill hands back -/
def FillPost (l : List Rl) (I : List Mc) (T : List Str) (w : World) (e : Ending) (w' : World) : Prop :=
  ∃ z x v, JoinR l z x ∧ e = .returned (.tuple #[v, .int .i64 (fillR l z x I T).2]) ∧ RIn w' v (fillR l z x I T).1 ∧ Below w.heap.size w w'
theorem rin_nil (w : World) : RIn w (.slice none 0 0) [] := ⟨none, 0, rfl, Nat.le_refl _, Nat.zero_le _, Nat.zero_le _, .inl rfl⟩
set_option maxHeartbeats 8000000 in
theorem fill_any {w : World} {v u t : Value} {l : List Rl} {I : List Mc} {T : List Str} (hr : RIn w v l) (hi : IIn w u I) (ht : SIn w t T) (hT : T.length ≤ 17592186036224) :
    Calls Try.prog 7 #[v, u, t] w (FillPost l I T w) := by
  have JA := Lib.hid (join_any hr)
  have HI := Lib.hid hi
  have HT := Lib.hid ht
  have HTN := Lib.hid hT
  obtain ⟨a, cap, rfl, _⟩ := hr
  obtain ⟨⟨ai, ci, rfl, _⟩, _⟩ := hi
  obtain ⟨at', ct, rfl⟩ := ht.shape
  clear ht hT
  generalize l.length = L at *
  generalize I.length = LI at *
  generalize eT : T.length = LT at *
  have ET := Lib.hid eT; clear eT
  go_enter Try.func7, Try.ntmps7
  go_wp2_with fail
  refine JA.out.mono ?_
  rintro e w1 ⟨vj, z, x, rfl, hj, ro, b1⟩
  have HJ := Lib.hid hj
  have B1 := Lib.hid b1; clear b1
  by_cases hx : x ≠ 0
  · have F := Lib.hid (fillR_join (l := l) (z := z) (I := I) (T := T) hx)
    have hne : (x != 0) = true := by rw [bne_iff_ne]; exact hx
    clear hx hj ro
    go_wp2
    go_ret2
    exact ⟨z, x, _, HJ.out, by rw [F.out]; rfl, by rw [F.out]; exact rin_nil _, B1.out⟩
  obtain rfl : x = 0 := by omega
  have JD := Lib.hid hj.joined
  have RI := Lib.hid (ro.rin (by have := JD.out.rb.1; omega) JD.out.small)
  clear hj ro
  by_cases hE : infE I ≠ 0
  · have F := Lib.hid (fillR_inf (l := l) (z := z) (T := T) hE)
    have CK := Lib.hid (icheck_any (HI.out.later B1.out))
    have hne : (infE I != 0) = true := by rw [bne_iff_ne]; exact hE
    generalize infE I = E at *
    clear hE
    go_wp2_with fail
    refine CK.out.mono ?_
    rintro e w2 ⟨rfl, b2⟩
    have B2 := Lib.hid (B1.out.trans (b2.mono B1.out.size)); clear b2
    go_wp2
    go_ret2
    exact ⟨z, 0, _, HJ.out, by rw [F.out]; rfl, by rw [F.out]; exact rin_nil _, B2.out⟩
  have hE : infE I = 0 := by omega
  have CK := Lib.hid (icheck_any (HI.out.later B1.out))
  rw [hE] at CK
  have HE := Lib.hid hE; clear hE
  clear hx
  obtain ⟨aj, cj, rfl, _⟩ := id RI.out
  generalize ez : z.length = lz at *
  have EZ := Lib.hid ez; clear ez
  go_wp2_with fail
  refine CK.out.mono ?_
  rintro e w2 ⟨rfl, b2⟩
  have B2 := Lib.hid (B1.out.trans (b2.mono B1.out.size))
  have R2 := Lib.hid (RI.out.later b2)
  clear b2 RI
  go_wp2_with fail
  refine (namesOf_any R2.out JD.out.rb).mono ?_
  rintro e w3 ⟨an, cn, rfl, o3, n3, b3⟩
  have B3 := Lib.hid (B2.out.trans (b3.mono B2.out.size))
  have R3 := Lib.hid (R2.out.later b3)
  have NG : Hid ((uniq (namesJ z)).all good = true) := Lib.hid (good_uniq JD.out.good)
  have S3 := Lib.hid (SIn.own o3 (by omega) (small_all NG.out))
  have L3 := Lib.hid n3
  clear b3 R2 o3
  go_wp2_with fail
  refine (merge_any S3.out (HT.out.later B3.out) (by rw [ET.out]; have := HTN.out; have := L3.out; omega)).mono ?_
  rintro e w4 ⟨b4, hm⟩
  have B4 := Lib.hid (B3.out.trans (b4.mono B3.out.size))
  have R4 := Lib.hid (R3.out.later b4)
  have S4 := Lib.hid (S3.out.later b4)
  clear b4 R3 S3
  rcases hm with ⟨hg, h64, vk, rfl, ok⟩ | ⟨hg, h64, rfl⟩ | ⟨hg, rfl⟩
  · have TG : Hid (T.all good = true) := Lib.hid (by rw [List.all_append, Bool.and_eq_true] at hg; exact hg.2)
    have F := Lib.hid (fillR_ok (l := l) HE.out TG.out h64)
    have FS := Lib.hid (fill_small JD.out (I := I) h64 TG.out)
    have K4 := Lib.hid (SIn.own ok (by omega) (small_all (good_uniq hg)))
    have HP : ∀ k, k < z.length → 0 < (tg z k).length ∧ (hd z k).length ≤ maxLen := fun k hk => by
      have e := JD.out.tg hk
      have g : good (hd z k) = true := by
        unfold hd
        rw [e]
        exact List.all_eq_true.1 (good_uniq (allgood JD.out.fine)) _ (getD_mem (by rw [← JD.out.len]; exact hk))
      refine ⟨by rw [e]; simp, ?_⟩
      have := (good_len g).2
      unfold maxLen; omega
    have NB := Lib.hid (needsBy_any R4.out (by rw [EZ.out]; have := JD.out.rb.1; rw [EZ.out] at this; exact this) HP)
    obtain ⟨ak, ck, rfl⟩ := own_shape' ok
    have FL : Hid (fillL l z I T = (uniq (namesJ z)).filterMap (fillOne l I (uniq (uniq (namesJ z) ++ T)))) := rfl
    clear hg ok HP h64
    have KU := Lib.hid (uniq_up (uniq (namesJ z) ++ T))
    have H10 : Hid (∀ k, k < I.length → (nm I k).length ≤ 10) := fun k hk => sufB_len (infE_sufs HE.out k hk).1
    have I4 := Lib.hid (HI.out.later B4.out)
    generalize uniq (uniq (namesJ z) ++ T) = K at *
    generalize uniq (namesJ z) = U at *
    generalize fillL l z I T = FF at *
    go_wp2_with fail
    refine NB.out.mono ?_
    rintro e w5 ⟨f, rfl, mi, nm5, b5⟩
    have B5 := Lib.hid (B4.out.trans (b5.mono B4.out.size))
    have MI5 := Lib.hid mi
    have NM5 := Lib.hid nm5
    have W45 := Lib.hid b5
    have S5 := Lib.hid (S4.out.later b5)
    have K5 := Lib.hid (K4.out.later b5)
    have I5 := Lib.hid (I4.out.later b5)
    obtain ⟨_, _, he5, hc5, _, _, h5⟩ := id S5.out
    injection he5 with e51 e52 e53
    have HC : Hid (∀ W, Below w5.heap.size w5 W → ∀ k, k < U.length → ∃ b off, an = some ⟨b, off, none⟩ ∧ W.cell? ⟨b, off + k, none⟩ = some (.string (bs (U.getD k [])))) := fun W hW k hk => by
      rcases h5 with rfl | ⟨b, off, ha, _, hc⟩
      · exact absurd hk (Nat.not_lt_zero _)
      · exact ⟨b, off, e51.trans ha, cell_later hW (hc k hk)⟩
    have FT : Hid (∀ k, k < U.length → (U.take (k + 1)).filterMap (fillOne l I K) = (U.take k).filterMap (fillOne l I K) ++ (fillOne l I K (U.getD k [])).toList) := fun k hk => fill_take hk
    have FE : Hid ((U.take U.length).filterMap (fillOne l I K) = FF) := Lib.hid (by rw [List.take_length, FL.out])
    have GX : Hid (∀ k, k < U.length → (U.getD k []).length ≤ 40) := fun k hk => (good_len (List.all_eq_true.1 NG.out _ (getD_mem hk))).2
    clear mi nm5 b5 h5 hc5 e51 FL
    generalize eU : U.length = nu at *
    generalize eK : K.length = nk at *
    go_wp2_with fail
    go_loopw [14, 49] (fun o i wr => ∃ (k : Nat) (out : List Rl) (ao : Option Addr) (no co : Nat), k ≤ nu ∧ i = .int .i64 (k : Int) ∧ o = .slice ao no co ∧ out = (U.take k).filterMap (fillOne l I K) ∧ FO w5.heap.size o out wr ∧ out.length ≤ k ∧ Below w5.heap.size w5 wr) (fun _ i _ => nu - (intOf i).toNat)
    case atStart => exact ⟨0, [], none, 0, 0, Nat.zero_le _, rfl, rfl, rfl, FO.nil _ _, Nat.le_refl _, Below.refl _ _⟩
    case round =>
      obtain ⟨k, out, ao, no, co, hk, rfl, rfl, ho, fo, hl, qb⟩ := hrel
      have O1 := Lib.hid ho; have FO1 := Lib.hid fo; have QB := Lib.hid qb; clear ho fo qb
      have HL : Hid (out.length ≤ 8192 ∧ out.length ≤ k) := Lib.hid ⟨by have := L3.out; omega, hl⟩
      clear hl
      by_cases hkl : k < nu
      · obtain ⟨b, off, rfl, c0⟩ := HC.out wr QB.out k hkl
        have FT1 := FT.out k hkl
        clear FT
        have FT := Lib.hid FT1
        clear FT1
        have X40 := GX.out k hkl
        generalize U.getD k [] = x at *
        have NC := Lib.hid (nm_cases JD.out NM5.out x)
        have IF := Lib.hid (inferred_any (I5.out.later QB.out) (K5.out.later QB.out) KU.out x (by omega) H10.out)
        have l1 := (MI5.out.later QB.out).look_ok (t := 59) (e := 24) (z := .slice none 0 0) (x := x) Try.underlying59 (Try.zeroValue24 _) (by unfold maxLen; omega)
        have WB := Lib.hid (B5.out.trans (QB.out.mono B5.out.size))
        rcases NC.out with ⟨ax, cx, hf, sx, hm⟩ | ⟨hf, hn, hm⟩
        · rw [hf] at l1
          have SX : Hid (∀ W, Below w5.heap.size w5 W → HN w5.heap.size (.slice ax (needsR l x).length cx) (needsR l x) W) := fun W hW => .inr ⟨w4, W45.out.size, sx, W45.out.trans (hW.mono W45.out.size)⟩
          by_cases hn : needsR l x = []
          · have e1 := one_inf (I := I) (K := K) hn (n := ofS (inf1 I K (stm x) (sfx x)))
            have e2 := one_made (I := I) (K := K) hn
            have ln : (needsR l x).length = 0 := by rw [hn]; rfl
            rw [ln] at l1 SX
            cases ho : inf1 I K (stm x) (sfx x) with
            | some m =>
              rw [ho] at IF
              have OO := Lib.hid (one_inf (I := I) (K := K) hn ho)
              have em : ofS (some m) = m := rfl
              rw [em] at IF
              clear ho em e1 e2 sx hf
              go_wp2_with fail
              refine IF.out.mono ?_
              rintro e w6 ⟨rfl, b6⟩
              have B6 := Lib.hid (QB.out.trans (b6.mono QB.out.size))
              have F6 := Lib.hid (FO1.out.later (b6.alloc b6.size (.cells #[.string (bs m)] 9)))
              have A6 := Lib.hid (B6.out.alloc B6.out.size (.cells #[.string (bs m)] 9))
              have N6 : Hid (HN w5.heap.size (.slice (some ⟨w6.heap.size, 0, none⟩) 1 1) [m] (w6.alloc (.cells #[.string (bs m)] 9))) := .inl (one_new w6 _ m B6.out.size)
              clear b6
              obtain ⟨a8, n8, c8, w8, r8, f8, b8⟩ := app_two (x := x) (n := [m]) F6.out N6.out rfl (by have := HL.out; omega) A6.out.size
              have hs6 : (w6.alloc (.cells #[.string (bs m)] 9)).heap.size = w6.heap.size + 1 := by simp
              rw [hs6] at r8
              have RR := Lib.hid r8
              have FF5 := Lib.hid f8
              have BB5 := Lib.hid (A6.out.trans (b8.mono (Nat.le_refl _)))
              clear r8 f8 b8
              go_wp2_with (at_builtin; go_must (refine Lib.wpList_append_run _ rfl (.tmp 73) (.tmp 78) 22 22 rfl _ _ rfl rfl _ _ RR.out ?_))
              go_roundw
              case rel => exact ⟨k + 1, _, _, _, _, by omega, by go_num, rfl, by rw [FT.out, O1.out, OO.out]; rfl, FF5.out, by rw [List.length_append]; have := HL.out; simp; omega, BB5.out⟩
              case measure => simp [intOf]; omega
            | none =>
              rw [ho] at IF
              have OO := Lib.hid (one_made (I := I) (K := K) hn ho hm)
              clear ho e1 e2 sx hf
              go_wp2_with fail
              refine IF.out.mono ?_
              rintro e w6 ⟨rfl, b6⟩
              have B6 := Lib.hid (QB.out.trans (b6.mono QB.out.size))
              have F6 := Lib.hid (FO1.out.later b6)
              clear b6
              obtain ⟨a8, n8, c8, w8, r8, f8, b8⟩ := app_two (x := x) (n := []) F6.out (hn ▸ SX.out _ B6.out) rfl (by have := HL.out; omega) B6.out.size
              have RR := Lib.hid r8
              have FF5 := Lib.hid f8
              have BB5 := Lib.hid (B6.out.trans (b8.mono (Nat.le_refl _)))
              clear r8 f8 b8
              go_wp2_with (at_builtin; go_must (refine Lib.wpList_append_run _ rfl (.tmp 73) (.tmp 78) 22 22 rfl _ _ rfl rfl _ _ RR.out ?_))
              go_roundw
              case rel => exact ⟨k + 1, _, _, _, _, by omega, by go_num, rfl, by rw [FT.out, O1.out, OO.out]; rfl, FF5.out, by rw [List.length_append]; have := HL.out; simp; omega, BB5.out⟩
              case measure => simp [intOf]; omega
          · have OO := Lib.hid (one_needs (I := I) (K := K) hn)
            have ln : ¬ ((needsR l x).length : Int) = 0 := fun h => hn (List.length_eq_zero_iff.1 (by omega))
            generalize needsR l x = N at *
            clear hn hf sx
            obtain ⟨a8, n8, c8, w8, r8, f8, b8⟩ := app_two (x := x) (n := N) FO1.out (SX.out _ QB.out) rfl (by have := HL.out; omega) QB.out.size
            have RR := Lib.hid r8
            have FF5 := Lib.hid f8
            have BB5 := Lib.hid (QB.out.trans (b8.mono (Nat.le_refl _)))
            clear r8 f8 b8
            go_wp2_with (at_builtin; go_must (refine Lib.wpList_append_run _ rfl (.tmp 73) (.tmp 78) 22 22 rfl _ _ rfl rfl _ _ RR.out ?_))
            go_roundw
            case rel => exact ⟨k + 1, _, _, _, _, by omega, by go_num, rfl, by rw [FT.out, O1.out, OO.out]; rfl, FF5.out, by rw [List.length_append]; have := HL.out; simp; omega, BB5.out⟩
            case measure => simp [intOf]; omega
        · rw [hf] at l1
          cases ho : inf1 I K (stm x) (sfx x) with
          | some m =>
            rw [ho] at IF
            have OO := Lib.hid (one_inf (I := I) (K := K) hn ho)
            have em : ofS (some m) = m := rfl
            rw [em] at IF
            clear ho em hf
            go_wp2_with fail
            refine IF.out.mono ?_
            rintro e w6 ⟨rfl, b6⟩
            have B6 := Lib.hid (QB.out.trans (b6.mono QB.out.size))
            have F6 := Lib.hid (FO1.out.later (b6.alloc b6.size (.cells #[.string (bs m)] 9)))
            have A6 := Lib.hid (B6.out.alloc B6.out.size (.cells #[.string (bs m)] 9))
            have N6 : Hid (HN w5.heap.size (.slice (some ⟨w6.heap.size, 0, none⟩) 1 1) [m] (w6.alloc (.cells #[.string (bs m)] 9))) := .inl (one_new w6 _ m B6.out.size)
            clear b6
            obtain ⟨a8, n8, c8, w8, r8, f8, b8⟩ := app_two (x := x) (n := [m]) F6.out N6.out rfl (by have := HL.out; omega) A6.out.size
            have hs6 : (w6.alloc (.cells #[.string (bs m)] 9)).heap.size = w6.heap.size + 1 := by simp
            rw [hs6] at r8
            have RR := Lib.hid r8
            have FF5 := Lib.hid f8
            have BB5 := Lib.hid (A6.out.trans (b8.mono (Nat.le_refl _)))
            clear r8 f8 b8
            go_wp2_with (at_builtin; go_must (refine Lib.wpList_append_run _ rfl (.tmp 73) (.tmp 78) 22 22 rfl _ _ rfl rfl _ _ RR.out ?_))
            go_roundw
            case rel => exact ⟨k + 1, _, _, _, _, by omega, by go_num, rfl, by rw [FT.out, O1.out, OO.out]; rfl, FF5.out, by rw [List.length_append]; have := HL.out; simp; omega, BB5.out⟩
            case measure => simp [intOf]; omega
          | none =>
            rw [ho] at IF
            have OO := Lib.hid (one_none (I := I) (K := K) hn ho hm)
            clear ho hf
            go_wp2_with fail
            refine IF.out.mono ?_
            rintro e w6 ⟨rfl, b6⟩
            have B6 := Lib.hid (QB.out.trans (b6.mono QB.out.size))
            have F6 := Lib.hid (FO1.out.later b6)
            clear b6
            go_wp2
            go_roundw
            case rel => exact ⟨k + 1, out, ao, no, co, by omega, by go_num, rfl, by rw [FT.out, O1.out, OO.out]; exact (List.append_nil _).symm, F6.out, by have := HL.out; omega, B6.out⟩
            case measure => simp [intOf]; omega
      · obtain rfl : k = nu := by omega
        have A := O1.out
        rw [FE.out] at A
        subst A
        have RF := Lib.hid (FO1.out.rin (by have := FS.out.1; omega) FS.out.2)
        have BF := Lib.hid (B5.out.trans (QB.out.mono B5.out.size))
        go_wp2
        go_ret2
        exact ⟨z, 0, _, HJ.out, by rw [F.out]; rfl, by rw [F.out]; exact RF.out, BF.out⟩
  · have TG : Hid (T.all good = true) := Lib.hid (by rw [List.all_append, Bool.and_eq_true] at hg; exact hg.2)
    have F := Lib.hid (fillR_many (l := l) HE.out TG.out h64)
    clear hg h64
    go_wp2
    go_ret2
    exact ⟨z, 0, _, HJ.out, by rw [F.out]; rfl, by rw [F.out]; exact rin_nil _, B4.out⟩
  · have TG : Hid (T.all good = false) := Lib.hid (by rw [List.all_append, NG.out, Bool.true_and] at hg; exact hg)
    have F := Lib.hid (fillR_names (l := l) (z := z) HE.out TG.out)
    clear hg
    go_wp2
    go_ret2
    exact ⟨z, 0, _, HJ.out, by rw [F.out]; rfl, by rw [F.out]; exact rin_nil _, B4.out⟩
end Go.Proofs.Ytihiohohocfchaa
