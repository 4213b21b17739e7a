/-
  Package infer: Fill. Condition: the names handed in are at most 2^44 - 8192.
  Plain facts of what Fill answers: each rule has one target, they rise, needs that were there stay, what is new is inferred. No condition.
  Plain facts: how many bits of a word of 64 bits are set, by the sums of math/bits.OnesCount64; nothing of the program. No condition.
  math/bits.Len64 answers how many bits a word wants. No condition.
-/
import Derived.Test.YtebjofffijnihaaGreatDoorGc21INa
import Derived.Test.YtebjofffijnihaaGreatDoorGc12Bv
import Derived.Test.YtebjofffijnihaaGreatDoorRows
import Derived.WalkKit
import Derived.ProofKit
import Derived.OpenShut
import Derived.Handy
import Derived.BigQuiet
import Derived.Deep.QuietTactic
import Derived.Lib.Hide
import Derived.Lib.Walk
import Derived.Lib.Small
import Derived.Lib.BitFns
namespace Go.Proofs.YtebjofffijnihaaGreatDoor
set_option maxRecDepth 100000
set_option linter.unusedVariables false
open Go.ChangeShapes Go.WideShapes Go.ChangeAt Go.RowKit

/-- a rule appended to a row of one's own -/
theorem app_ruleI {w : World} {B q : Nat} {o p1 p2 : Value} {out : List Rl} {t n : List Str} (hf : FO B o out w) (h1 : HN B p1 t w) (h2 : HN B p2 n w)
    (c1 : w.cell? ⟨q, 0, none⟩ = some p1) (c2 : w.cell? ⟨q, 1, none⟩ = some p2) (o1 : p1.oneCell' = true) (o2 : p2.oneCell' = true) (hl : out.length ≤ 100000) (hB : B ≤ w.heap.size) :
    ∃ a n5 c5 w5, (Builtin.append_ #[25, 25] 25 #[o, .slice (some ⟨q, 0, none⟩) 1 1]).run Tryz.prog w = .ok (.slice a n5 c5) w5 ∧ FO B (.slice a n5 c5) (out ++ [(t, n)]) w5 ∧ Below B w w5 := by
  obtain ⟨j0, ji, jz0, jz1, jz2⟩ := info_parts infoRl
  obtain ⟨c, hcl, ho, he⟩ := hf
  obtain ⟨v', w', r, ow, gr, _⟩ := run_append_own (P := Tryz.prog) w B 25 25 40 j0 (.agg #[.slice none 0 0, .slice none 0 0]) 2 48 Tryz.underlying25 ji jz0 jz1 jz2 rfl (by decide) o out.length (rcells c) ho ⟨q, 0, none⟩ 1 1 [p1, p2] rfl (fun j u hj => by
    match j, hj with
    | 0, hj => simp at hj; subst hj; exact c1
    | 1, hj => simp at hj; subst hj; simpa [Addr.add] using c2
    | (j + 2), hj => simp at hj) (by intro u hu; simp at hu; rcases hu with rfl | rfl <;> assumption) (by unfold maxLen; omega) (by omega) hB
  obtain ⟨a5, k5, rfl⟩ := own_shape' ow
  exact ⟨a5, _, k5, w', r, fo_snoc hcl ho he h1 h2 gr ow, (Below.refl _ w).grown gr hB fun k hk => (ho.lt k hk).1⟩
theorem app_two {w : World} {B : Nat} {o p2 : Value} {out : List Rl} {x : Str} {n : List Str} (hf : FO B o out w) (h2 : HN B p2 n w) (o2 : p2.oneCell' = true) (hl : out.length ≤ 100000) (hB : B ≤ w.heap.size) :
    ∃ a n5 c5 w5, (Builtin.append_ #[25, 25] 25 #[o, .slice (some ⟨w.heap.size + 1, 0, none⟩) 1 1]).run Tryz.prog ((w.alloc (.cells #[.string (bs x)] 9)).alloc (.cells #[.slice (some ⟨w.heap.size, 0, none⟩) 1 1, p2] 40)) = .ok (.slice a n5 c5) w5 ∧ FO B (.slice a n5 c5) (out ++ [([x], n)]) w5 ∧ Below B w w5 := by
  have ba : Below w.heap.size w ((w.alloc (.cells #[.string (bs x)] 9)).alloc (.cells #[.slice (some ⟨w.heap.size, 0, none⟩) 1 1, p2] 40)) := ((Below.refl _ w).alloc (Nat.le_refl _) _).alloc (by simp) _
  have hs : (w.alloc (.cells #[.string (bs x)] 9)).heap.size = w.heap.size + 1 := by simp
  have kb := blk_new (w.alloc (.cells #[.string (bs x)] 9)) #[.slice (some ⟨w.heap.size, 0, none⟩) 1 1, p2] 40
  rw [hs] at kb
  obtain ⟨a, n5, c5, w5, r, f5, b5⟩ := app_ruleI (hf.later ba) (.inl ((one_new w B x hB).alloc _)) (h2.later ba) (kb.cell (i := 0) rfl) (kb.cell (i := 1) rfl) rfl o2 hl (Nat.le_trans hB ba.size)
  exact ⟨a, n5, c5, w5, r, f5, (ba.mono hB).trans b5⟩
theorem nm_cases {l z : List Rl} {f : Str → Option Value} {w : World} (hj : Joined l z) (hn : NM z f w) (s : Str) :
    (∃ a c, f s = some (.slice a (needsR l s).length c) ∧ SIn w (.slice a (needsR l s).length c) (needsR l s) ∧ s ∈ uniq (allT l)) ∨ (f s = none ∧ needsR l s = [] ∧ s ∉ uniq (allT l)) := by
  have hh : ∀ k, k < z.length → hd z k = (uniq (allT l)).getD k [] := fun k hk => by unfold hd; rw [hj.tg hk]; rfl
  cases hf : f s with
  | some x =>
    obtain ⟨k, hk, h1, h2⟩ := hn.1 s x hf
    rw [hj.nd hk, ← hh k hk, h1] at h2
    obtain ⟨a, c, rfl⟩ := h2.shape
    refine .inl ⟨a, c, rfl, h2, ?_⟩
    rw [← h1, hh k hk]
    exact getD_mem (by rw [← hj.len]; exact hk)
  | none =>
    have hno : s ∉ uniq (allT l) := fun hm => by
      obtain ⟨k, hk, e⟩ := mem_getD hm
      have hk' : k < z.length := by rw [hj.len]; exact hk
      exact hn.2 s hf k hk' (by rw [hh k hk', e])
    exact .inr ⟨rfl, needs_target hno, hno⟩
/-- what Fill hands back -/
def FillPost (l : List Rl) (I : List Mc) (T : List Str) (w : World) (e : Ending) (w' : World) : Prop :=
  ∃ z x v, JoinR l z x ∧ e = .returned (.tuple #[v, .int .i64 (fillR l z x I T).2]) ∧ RIn w' v (fillR l z x I T).1 ∧ Below w.heap.size w w'
set_option maxHeartbeats 8000000 in
theorem fill_any {w : World} {v u t : Value} {l : List Rl} {I : List Mc} {T : List Str} (hr : RIn w v l) (hi : IIn w u I) (ht : SIn w t T) (hT : T.length ≤ 17592186036224) :
    Calls Tryz.prog 13 #[v, u, t] w (FillPost l I T w) := by
  have JA := Lib.hid (join_any hr)
  have HI := Lib.hid hi
  have HT := Lib.hid ht
  have HTN := Lib.hid hT
  obtain ⟨a, cap, rfl, _⟩ := hr
  obtain ⟨⟨ai, ci, rfl, _⟩, _⟩ := hi
  obtain ⟨at', ct, rfl⟩ := ht.shape
  clear ht hT
  generalize l.length = L at *
  generalize I.length = LI at *
  generalize eT : T.length = LT at *
  have ET := Lib.hid eT; clear eT
  go_enter Tryz.func13, Tryz.ntmps13
  go_wp2_with fail
  refine JA.out.mono ?_
  rintro e w1 ⟨vj, z, x, rfl, hj, ro, b1⟩
  have HJ := Lib.hid hj
  have B1 := Lib.hid b1; clear b1
  by_cases hx : x ≠ 0
  · have F := Lib.hid (fillR_join (l := l) (z := z) (I := I) (T := T) hx)
    have hne : (x != 0) = true := by rw [bne_iff_ne]; exact hx
    clear hx hj ro
    go_wp2
    go_ret2
    exact ⟨z, x, _, HJ.out, by rw [F.out]; rfl, by rw [F.out]; exact rin_nil _, B1.out⟩
  obtain rfl : x = 0 := by omega
  have JD := Lib.hid hj.joined
  have RI := Lib.hid (ro.rin (by have := JD.out.rb.1; omega) JD.out.small)
  clear hj ro
  by_cases hE : infE I ≠ 0
  · have F := Lib.hid (fillR_inf (l := l) (z := z) (T := T) hE)
    have CK := Lib.hid (icheck_any (HI.out.later B1.out))
    have hne : (infE I != 0) = true := by rw [bne_iff_ne]; exact hE
    generalize infE I = E at *
    clear hE
    go_wp2_with fail
    refine CK.out.mono ?_
    rintro e w2 ⟨rfl, b2⟩
    have B2 := Lib.hid (B1.out.trans (b2.mono B1.out.size)); clear b2
    go_wp2
    go_ret2
    exact ⟨z, 0, _, HJ.out, by rw [F.out]; rfl, by rw [F.out]; exact rin_nil _, B2.out⟩
  have hE : infE I = 0 := by omega
  have CK := Lib.hid (icheck_any (HI.out.later B1.out))
  rw [hE] at CK
  have HE := Lib.hid hE; clear hE
  clear hx
  obtain ⟨aj, cj, rfl, _⟩ := id RI.out
  generalize ez : z.length = lz at *
  have EZ := Lib.hid ez; clear ez
  go_wp2_with fail
  refine CK.out.mono ?_
  rintro e w2 ⟨rfl, b2⟩
  have B2 := Lib.hid (B1.out.trans (b2.mono B1.out.size))
  have R2 := Lib.hid (RI.out.later b2)
  clear b2 RI
  go_wp2_with fail
  refine (namesOf_any R2.out JD.out.rb).mono ?_
  rintro e w3 ⟨an, cn, rfl, o3, n3, b3⟩
  have B3 := Lib.hid (B2.out.trans (b3.mono B2.out.size))
  have R3 := Lib.hid (R2.out.later b3)
  have NG : Hid ((uniq (namesJ z)).all good = true) := Lib.hid (good_uniq JD.out.good)
  have S3 := Lib.hid (SIn.own o3 (by omega) (small_all NG.out))
  have L3 := Lib.hid n3
  clear b3 R2 o3
  go_wp2_with fail
  refine (merge_any S3.out (HT.out.later B3.out) (by rw [ET.out]; have := HTN.out; have := L3.out; omega)).mono ?_
  rintro e w4 ⟨b4, hm⟩
  have B4 := Lib.hid (B3.out.trans (b4.mono B3.out.size))
  have R4 := Lib.hid (R3.out.later b4)
  have S4 := Lib.hid (S3.out.later b4)
  clear b4 R3 S3
  rcases hm with ⟨hg, h64, vk, rfl, ok⟩ | ⟨hg, h64, rfl⟩ | ⟨hg, rfl⟩
  · have TG : Hid (T.all good = true) := Lib.hid (by rw [List.all_append, Bool.and_eq_true] at hg; exact hg.2)
    have F := Lib.hid (fillR_ok (l := l) HE.out TG.out h64)
    have FS := Lib.hid (fill_small JD.out (I := I) h64 TG.out)
    have K4 := Lib.hid (SIn.own ok (by omega) (small_all (good_uniq hg)))
    have HP : ∀ k, k < z.length → 0 < (tg z k).length ∧ (hd z k).length ≤ maxLen := fun k hk => by
      have e := JD.out.tg hk
      have g : good (hd z k) = true := by
        unfold hd
        rw [e]
        exact List.all_eq_true.1 (good_uniq (allgood JD.out.fine)) _ (getD_mem (by rw [← JD.out.len]; exact hk))
      refine ⟨by rw [e]; simp, ?_⟩
      have := (good_len g).2
      unfold maxLen; omega
    have NB := Lib.hid (needsBy_any R4.out (by rw [EZ.out]; have := JD.out.rb.1; rw [EZ.out] at this; exact this) HP)
    obtain ⟨ak, ck, rfl⟩ := own_shape' ok
    have FL : Hid (fillL l z I T = (uniq (namesJ z)).filterMap (fillOne l I (uniq (uniq (namesJ z) ++ T)))) := rfl
    clear hg ok HP h64
    have KU := Lib.hid (uniq_up (uniq (namesJ z) ++ T))
    have H10 : Hid (∀ k, k < I.length → (nm I k).length ≤ 10) := fun k hk => sufB_len (infE_sufs HE.out k hk).1
    have I4 := Lib.hid (HI.out.later B4.out)
    generalize uniq (uniq (namesJ z) ++ T) = K at *
    generalize uniq (namesJ z) = U at *
    generalize fillL l z I T = FF at *
    go_wp2_with fail
    refine NB.out.mono ?_
    rintro e w5 ⟨f, rfl, mi, nm5, b5⟩
    have B5 := Lib.hid (B4.out.trans (b5.mono B4.out.size))
    have MI5 := Lib.hid mi
    have NM5 := Lib.hid nm5
    have W45 := Lib.hid b5
    have S5 := Lib.hid (S4.out.later b5)
    have K5 := Lib.hid (K4.out.later b5)
    have I5 := Lib.hid (I4.out.later b5)
    obtain ⟨_, _, he5, hc5, _, _, h5⟩ := id S5.out
    injection he5 with e51 e52 e53
    have HC : Hid (∀ W, Below w5.heap.size w5 W → ∀ k, k < U.length → ∃ b off, an = some ⟨b, off, none⟩ ∧ W.cell? ⟨b, off + k, none⟩ = some (.string (bs (U.getD k [])))) := fun W hW k hk => by
      rcases h5 with rfl | ⟨b, off, ha, _, hc⟩
      · exact absurd hk (Nat.not_lt_zero _)
      · exact ⟨b, off, e51.trans ha, cell_later hW (hc k hk)⟩
    have FT : Hid (∀ k, k < U.length → (U.take (k + 1)).filterMap (fillOne l I K) = (U.take k).filterMap (fillOne l I K) ++ (fillOne l I K (U.getD k [])).toList) := fun k hk => fill_take hk
    have FE : Hid ((U.take U.length).filterMap (fillOne l I K) = FF) := Lib.hid (by rw [List.take_length, FL.out])
    have GX : Hid (∀ k, k < U.length → (U.getD k []).length ≤ 40) := fun k hk => (good_len (List.all_eq_true.1 NG.out _ (getD_mem hk))).2
    clear mi nm5 b5 h5 hc5 e51 FL
    generalize eU : U.length = nu at *
    generalize eK : K.length = nk at *
    go_wp2_with fail
    go_loopw [14, 49] (fun o i wr => ∃ (k : Nat) (out : List Rl) (ao : Option Addr) (no co : Nat), k ≤ nu ∧ i = .int .i64 (k : Int) ∧ o = .slice ao no co ∧ out = (U.take k).filterMap (fillOne l I K) ∧ FO w5.heap.size o out wr ∧ out.length ≤ k ∧ Below w5.heap.size w5 wr) (fun _ i _ => nu - (intOf i).toNat)
    case atStart => exact ⟨0, [], none, 0, 0, Nat.zero_le _, rfl, rfl, rfl, FO.nil _ _, Nat.le_refl _, Below.refl _ _⟩
    case round =>
      obtain ⟨k, out, ao, no, co, hk, rfl, rfl, ho, fo, hl, qb⟩ := hrel
      have O1 := Lib.hid ho; have FO1 := Lib.hid fo; have QB := Lib.hid qb; clear ho fo qb
      have HL : Hid (out.length ≤ 8192 ∧ out.length ≤ k) := Lib.hid ⟨by have := L3.out; omega, hl⟩
      clear hl
      by_cases hkl : k < nu
      · obtain ⟨b, off, rfl, c0⟩ := HC.out wr QB.out k hkl
        have FT1 := FT.out k hkl
        clear FT
        have FT := Lib.hid FT1
        clear FT1
        have X40 := GX.out k hkl
        generalize U.getD k [] = x at *
        have NC := Lib.hid (nm_cases JD.out NM5.out x)
        have IF := Lib.hid (inferred_any (I5.out.later QB.out) (K5.out.later QB.out) KU.out x (by omega) H10.out)
        have l1 := (MI5.out.later QB.out).look_ok (t := 70) (e := 23) (z := .slice none 0 0) (x := x) Tryz.underlying70 (Tryz.zeroValue23 _) (by unfold maxLen; omega)
        have WB := Lib.hid (B5.out.trans (QB.out.mono B5.out.size))
        rcases NC.out with ⟨ax, cx, hf, sx, hm⟩ | ⟨hf, hn, hm⟩
        · rw [hf] at l1
          have SX : Hid (∀ W, Below w5.heap.size w5 W → HN w5.heap.size (.slice ax (needsR l x).length cx) (needsR l x) W) := fun W hW => .inr ⟨w4, W45.out.size, sx, W45.out.trans (hW.mono W45.out.size)⟩
          by_cases hn : needsR l x = []
          · have e1 := one_inf (I := I) (K := K) hn (n := ofS (inf1 I K (stm x) (sfx x)))
            have e2 := one_made (I := I) (K := K) hn
            have ln : (needsR l x).length = 0 := by rw [hn]; rfl
            rw [ln] at l1 SX
            cases ho : inf1 I K (stm x) (sfx x) with
            | some m =>
              rw [ho] at IF
              have OO := Lib.hid (one_inf (I := I) (K := K) hn ho)
              have em : ofS (some m) = m := rfl
              rw [em] at IF
              clear ho em e1 e2 sx hf
              go_wp2_with fail
              refine IF.out.mono ?_
              rintro e w6 ⟨rfl, b6⟩
              have B6 := Lib.hid (QB.out.trans (b6.mono QB.out.size))
              have F6 := Lib.hid (FO1.out.later (b6.alloc b6.size (.cells #[.string (bs m)] 9)))
              have A6 := Lib.hid (B6.out.alloc B6.out.size (.cells #[.string (bs m)] 9))
              have N6 : Hid (HN w5.heap.size (.slice (some ⟨w6.heap.size, 0, none⟩) 1 1) [m] (w6.alloc (.cells #[.string (bs m)] 9))) := .inl (one_new w6 _ m B6.out.size)
              clear b6
              obtain ⟨a8, n8, c8, w8, r8, f8, b8⟩ := app_two (x := x) (n := [m]) F6.out N6.out rfl (by have := HL.out; omega) A6.out.size
              have hs6 : (w6.alloc (.cells #[.string (bs m)] 9)).heap.size = w6.heap.size + 1 := by simp
              rw [hs6] at r8
              have RR := Lib.hid r8
              have FF5 := Lib.hid f8
              have BB5 := Lib.hid (A6.out.trans (b8.mono (Nat.le_refl _)))
              clear r8 f8 b8
              go_wp2_with (at_builtin; go_must (refine Lib.wpList_append_run _ rfl (.tmp 73) (.tmp 78) 25 25 rfl _ _ rfl rfl _ _ RR.out ?_))
              go_roundw
              case rel => exact ⟨k + 1, _, _, _, _, by omega, by go_num, rfl, by rw [FT.out, O1.out, OO.out]; rfl, FF5.out, by rw [List.length_append]; have := HL.out; simp; omega, BB5.out⟩
              case measure => simp [intOf]; omega
            | none =>
              rw [ho] at IF
              have OO := Lib.hid (one_made (I := I) (K := K) hn ho hm)
              clear ho e1 e2 sx hf
              go_wp2_with fail
              refine IF.out.mono ?_
              rintro e w6 ⟨rfl, b6⟩
              have B6 := Lib.hid (QB.out.trans (b6.mono QB.out.size))
              have F6 := Lib.hid (FO1.out.later b6)
              clear b6
              obtain ⟨a8, n8, c8, w8, r8, f8, b8⟩ := app_two (x := x) (n := []) F6.out (hn ▸ SX.out _ B6.out) rfl (by have := HL.out; omega) B6.out.size
              have RR := Lib.hid r8
              have FF5 := Lib.hid f8
              have BB5 := Lib.hid (B6.out.trans (b8.mono (Nat.le_refl _)))
              clear r8 f8 b8
              go_wp2_with (at_builtin; go_must (refine Lib.wpList_append_run _ rfl (.tmp 73) (.tmp 78) 25 25 rfl _ _ rfl rfl _ _ RR.out ?_))
              go_roundw
              case rel => exact ⟨k + 1, _, _, _, _, by omega, by go_num, rfl, by rw [FT.out, O1.out, OO.out]; rfl, FF5.out, by rw [List.length_append]; have := HL.out; simp; omega, BB5.out⟩
              case measure => simp [intOf]; omega
          · have OO := Lib.hid (one_needs (I := I) (K := K) hn)
            have ln : ¬ ((needsR l x).length : Int) = 0 := fun h => hn (List.length_eq_zero_iff.1 (by omega))
            generalize needsR l x = N at *
            clear hn hf sx
            obtain ⟨a8, n8, c8, w8, r8, f8, b8⟩ := app_two (x := x) (n := N) FO1.out (SX.out _ QB.out) rfl (by have := HL.out; omega) QB.out.size
            have RR := Lib.hid r8
            have FF5 := Lib.hid f8
            have BB5 := Lib.hid (QB.out.trans (b8.mono (Nat.le_refl _)))
            clear r8 f8 b8
            go_wp2_with (at_builtin; go_must (refine Lib.wpList_append_run _ rfl (.tmp 73) (.tmp 78) 25 25 rfl _ _ rfl rfl _ _ RR.out ?_))
            go_roundw
            case rel => exact ⟨k + 1, _, _, _, _, by omega, by go_num, rfl, by rw [FT.out, O1.out, OO.out]; rfl, FF5.out, by rw [List.length_append]; have := HL.out; simp; omega, BB5.out⟩
            case measure => simp [intOf]; omega
        · rw [hf] at l1
          cases ho : inf1 I K (stm x) (sfx x) with
          | some m =>
            rw [ho] at IF
            have OO := Lib.hid (one_inf (I := I) (K := K) hn ho)
            have em : ofS (some m) = m := rfl
            rw [em] at IF
            clear ho em hf
            go_wp2_with fail
            refine IF.out.mono ?_
            rintro e w6 ⟨rfl, b6⟩
            have B6 := Lib.hid (QB.out.trans (b6.mono QB.out.size))
            have F6 := Lib.hid (FO1.out.later (b6.alloc b6.size (.cells #[.string (bs m)] 9)))
            have A6 := Lib.hid (B6.out.alloc B6.out.size (.cells #[.string (bs m)] 9))
            have N6 : Hid (HN w5.heap.size (.slice (some ⟨w6.heap.size, 0, none⟩) 1 1) [m] (w6.alloc (.cells #[.string (bs m)] 9))) := .inl (one_new w6 _ m B6.out.size)
            clear b6
            obtain ⟨a8, n8, c8, w8, r8, f8, b8⟩ := app_two (x := x) (n := [m]) F6.out N6.out rfl (by have := HL.out; omega) A6.out.size
            have hs6 : (w6.alloc (.cells #[.string (bs m)] 9)).heap.size = w6.heap.size + 1 := by simp
            rw [hs6] at r8
            have RR := Lib.hid r8
            have FF5 := Lib.hid f8
            have BB5 := Lib.hid (A6.out.trans (b8.mono (Nat.le_refl _)))
            clear r8 f8 b8
            go_wp2_with (at_builtin; go_must (refine Lib.wpList_append_run _ rfl (.tmp 73) (.tmp 78) 25 25 rfl _ _ rfl rfl _ _ RR.out ?_))
            go_roundw
            case rel => exact ⟨k + 1, _, _, _, _, by omega, by go_num, rfl, by rw [FT.out, O1.out, OO.out]; rfl, FF5.out, by rw [List.length_append]; have := HL.out; simp; omega, BB5.out⟩
            case measure => simp [intOf]; omega
          | none =>
            rw [ho] at IF
            have OO := Lib.hid (one_none (I := I) (K := K) hn ho hm)
            clear ho hf
            go_wp2_with fail
            refine IF.out.mono ?_
            rintro e w6 ⟨rfl, b6⟩
            have B6 := Lib.hid (QB.out.trans (b6.mono QB.out.size))
            have F6 := Lib.hid (FO1.out.later b6)
            clear b6
            go_wp2
            go_roundw
            case rel => exact ⟨k + 1, out, ao, no, co, by omega, by go_num, rfl, by rw [FT.out, O1.out, OO.out]; exact (List.append_nil _).symm, F6.out, by have := HL.out; omega, B6.out⟩
            case measure => simp [intOf]; omega
      · obtain rfl : k = nu := by omega
        have A := O1.out
        rw [FE.out] at A
        subst A
        have RF := Lib.hid (FO1.out.rin (by have := FS.out.1; omega) FS.out.2)
        have BF := Lib.hid (B5.out.trans (QB.out.mono B5.out.size))
        go_wp2
        go_ret2
        exact ⟨z, 0, _, HJ.out, by rw [F.out]; rfl, by rw [F.out]; exact RF.out, BF.out⟩
  · have TG : Hid (T.all good = true) := Lib.hid (by rw [List.all_append, Bool.and_eq_true] at hg; exact hg.2)
    have F := Lib.hid (fillR_many (l := l) HE.out TG.out h64)
    clear hg h64
    go_wp2
    go_ret2
    exact ⟨z, 0, _, HJ.out, by rw [F.out]; rfl, by rw [F.out]; exact rin_nil _, B4.out⟩
  · have TG : Hid (T.all good = false) := Lib.hid (by rw [List.all_append, NG.out, Bool.true_and] at hg; exact hg)
    have F := Lib.hid (fillR_names (l := l) (z := z) HE.out TG.out)
    clear hg
    go_wp2
    go_ret2
    exact ⟨z, 0, _, HJ.out, by rw [F.out]; rfl, by rw [F.out]; exact rin_nil _, B4.out⟩
end Go.Proofs.YtebjofffijnihaaGreatDoor
namespace Go.Proofs.YtebjofffijnihaaGreatDoor
set_option maxRecDepth 100000
set_option linter.unusedVariables false
open Go.ChangeShapes Go.WideShapes Go.ChangeAt Go.RowKit

theorem inf1_from : ∀ {I : List Mc} {K : List Str} {st sf n : Str}, inf1 I K st sf = some n → ∃ a, (a, sf) ∈ I ∧ n = st ++ a
  | [], _, _, _, _, h => by cases h
  | y :: r, K, st, sf, n, h => by
    rw [inf1] at h
    split at h
    · rename_i hc
      injection h with h
      refine ⟨y.1, ?_, h.symm⟩
      rw [← hc.1]
      exact List.mem_cons_self
    · obtain ⟨a, h1, h2⟩ := inf1_from h
      exact ⟨a, List.mem_cons_of_mem _ h1, h2⟩
/-- what a rule of Fill's is -/
def FRule (l : List Rl) (I : List Mc) (s : Str) (n : List Str) : Prop :=
  (needsR l s ≠ [] ∧ n = needsR l s) ∨ (needsR l s = [] ∧ n = []) ∨ (needsR l s = [] ∧ ∃ a, (a, sfx s) ∈ I ∧ n = [stm s ++ a])
theorem one_rule {l : List Rl} {I : List Mc} {K : List Str} {s : Str} {r : Rl} (h : fillOne l I K s = some r) : r.1 = [s] ∧ FRule l I s r.2 := by
  unfold fillOne at h
  split at h
  · rename_i h0
    split at h
    · rename_i n hn
      injection h with h
      subst h
      obtain ⟨a, h1, h2⟩ := inf1_from hn
      exact ⟨rfl, .inr (.inr ⟨h0, a, h1, by rw [h2]⟩)⟩
    · split at h
      · injection h with h
        subst h
        exact ⟨rfl, .inr (.inl ⟨h0, rfl⟩)⟩
      · cases h
  · rename_i h0
    injection h with h
    subst h
    exact ⟨rfl, .inl ⟨h0, rfl⟩⟩
theorem fill_rule {l z : List Rl} {I : List Mc} {T : List Str} {k : Nat} (hk : k < (fillL l z I T).length) : ∃ s, s ∈ uniq (namesJ z) ∧ tg (fillL l z I T) k = [s] ∧ FRule l I s (nd (fillL l z I T) k) := by
  have hm := rl_mem hk
  unfold fillL at hm
  obtain ⟨s, hs, h⟩ := List.mem_filterMap.1 hm
  obtain ⟨h1, h2⟩ := one_rule h
  exact ⟨s, hs, h1, h2⟩
theorem hd_at {z : List Rl} {k : Nat} (h : k < z.length) : hd z k = (z[k]'h).1.getD 0 [] := by
  have e : z.getD k ([], []) = z[k] := by rw [List.getD, List.getElem?_eq_getElem h]; rfl
  unfold hd tg
  rw [e]
theorem fill_up {l z : List Rl} {I : List Mc} {T : List Str} {k : Nat} (hk : k + 1 < (fillL l z I T).length) : hd (fillL l z I T) k < hd (fillL l z I T) (k + 1) := by
  have hp : (fillL l z I T).Pairwise fun a b => a.1.getD 0 [] < b.1.getD 0 [] := by
    unfold fillL
    refine List.Pairwise.filterMap _ (fun a a' h b hb b' hb' => ?_) (uniq_up (namesJ z))
    rw [(one_rule hb).1, (one_rule hb').1]
    exact h
  rw [hd_at (by omega), hd_at hk]
  exact (List.pairwise_iff_getElem.1 hp) k (k + 1) (by omega) hk (by omega)
theorem fill_has {l z : List Rl} (hj : Joined l z) {I : List Mc} {T : List Str} {t : Str} (ht : t ∈ uniq (allT l)) : (fillL l z I T).any (fun r => decide (r.1.getD 0 [] = t)) = true := by
  have hU : t ∈ uniq (namesJ z) := by
    refine uniq_mem.2 ?_
    unfold namesJ
    rw [hj.eq]
    exact List.mem_flatMap.2 ⟨oneR l t, List.mem_map.2 ⟨t, ht, rfl⟩, List.mem_append_left _ (List.mem_singleton.2 rfl)⟩
  have hs : ∀ K, ∃ r, fillOne l I K t = some r := fun K => by
    by_cases h0 : needsR l t = []
    · cases h1 : inf1 I K (stm t) (sfx t) with
      | some n => exact ⟨_, one_inf h0 h1⟩
      | none => exact ⟨_, one_made h0 h1 ht⟩
    · exact ⟨_, one_needs h0⟩
  obtain ⟨r, hr⟩ := hs (uniq (uniq (namesJ z) ++ T))
  rw [List.any_eq_true]
  refine ⟨r, ?_, ?_⟩
  · unfold fillL
    exact List.mem_filterMap.2 ⟨t, hU, hr⟩
  · rw [(one_rule hr).1]
    exact decide_eq_true rfl
/-- the joined rules' targets are Fill's targets -/
theorem was_has {l z : List Rl} (hj : Joined l z) {I : List Mc} {T : List Str} : (z.any fun x => !((fillL l z I T).any fun r => decide (r.1.getD 0 [] = x.1.getD 0 []))) = false := by
  rw [List.any_eq_false]
  intro x hx
  have hx' := hx
  rw [hj.eq] at hx'
  obtain ⟨t, ht, rfl⟩ := List.mem_map.1 hx'
  have : (oneR l t).1.getD 0 [] = t := rfl
  rw [this, fill_has hj ht]
  simp
theorem fillR_bad {l z : List Rl} {x : Int} {I : List Mc} {T : List Str} (h : (fillR l z x I T).2 ≠ 0) : (fillR l z x I T).1 = [] := by
  unfold fillR at h ⊢
  split
  · rfl
  · split
    · rfl
    · split
      · rfl
      · split
        · rfl
        · rename_i h1 h2 h3 h4
          rw [if_neg h1, if_neg h2, if_neg h3, if_neg h4] at h
          exact absurd rfl h
theorem fillR_zero {l z : List Rl} {x : Int} {I : List Mc} {T : List Str} (h : (fillR l z x I T).2 = 0) : x = 0 ∧ infE I = 0 ∧ T.all good = true ∧ fillR l z x I T = (fillL l z I T, 0) := by
  unfold fillR at h ⊢
  split at h
  · rename_i h1; exact absurd h h1
  · split at h
    · rename_i h1; exact absurd h h1
    · split at h
      · cases h
      · split at h
        · cases h
        · rename_i h1 h2 h3 h4
          rw [if_neg h1, if_neg h2, if_neg h3, if_neg h4]
          exact ⟨by simpa using h1, by simpa using h2, by simpa using h3, rfl⟩
end Go.Proofs.YtebjofffijnihaaGreatDoor
namespace Go.Proofs.YtebjofffijnihaaGreatDoor
set_option maxRecDepth 100000

/-- how many numbers below n meet p -/
def cntTo (p : Nat → Bool) : Nat → Nat
  | 0 => 0
  | n + 1 => cntTo p n + if p n then 1 else 0
theorem cntTo_le (p : Nat → Bool) : ∀ n, cntTo p n ≤ n
  | 0 => Nat.le_refl _
  | n + 1 => by have := cntTo_le p n; unfold cntTo; split <;> omega
theorem cntTo_congr {p q : Nat → Bool} : ∀ n, (∀ i, i < n → p i = q i) → cntTo p n = cntTo q n
  | 0, _ => rfl
  | n + 1, h => by
    unfold cntTo
    rw [cntTo_congr n fun i hi => h i (by omega), h n (by omega)]
theorem cntTo_add (p : Nat → Bool) (m : Nat) : ∀ n, cntTo p (m + n) = cntTo p m + cntTo (fun i => p (m + i)) n
  | 0 => rfl
  | n + 1 => by
    show cntTo p (m + n) + (if p (m + n) then 1 else 0) = _ + (cntTo _ n + if p (m + n) then 1 else 0)
    rw [cntTo_add p m n]; omega
/-- how many numbers a set has -/
def cnt (s : Bv) : Nat := cntTo s.getLsbD 64
theorem cnt_le (s : Bv) : cnt s ≤ 64 := cntTo_le _ _

/-! the masks, byte by byte -/
def rep (c : Nat) : Nat → Nat
  | 0 => 0
  | k + 1 => 256 * rep c k + c
def f1 (m X : Nat) : Nat := (X / 2 &&& m) + (X &&& m)
def f2 (m X : Nat) : Nat := (X / 4 &&& m) + (X &&& m)
def f3 (m X : Nat) : Nat := (X / 16 + X) &&& m

theorem and_split (x y : Nat) : x &&& y = 256 * ((x / 256) &&& (y / 256)) + ((x % 256) &&& (y % 256)) := by
  have h := Nat.div_add_mod (x &&& y) 256
  have e1 : (x &&& y) / 256 = (x / 256) &&& (y / 256) := Nat.and_div_two_pow (n := 8)
  have e2 : (x &&& y) % 256 = (x % 256) &&& (y % 256) := Nat.and_mod_two_pow (n := 8)
  rw [e1, e2] at h; exact h.symm
theorem and_rep (x c k : Nat) (hc : c < 256) : x &&& rep c (k + 1) = 256 * ((x / 256) &&& rep c k) + (x % 256 &&& c) := by
  rw [and_split, show rep c (k + 1) = 256 * rep c k + c from rfl]
  rw [show (256 * rep c k + c) / 256 = rep c k by omega, show (256 * rep c k + c) % 256 = c by omega]

theorem m1 : ∀ (c : Fin 2) (l : Fin 256), (128 * c.val + l.val / 2) &&& 85 = l.val / 2 &&& 85 := by decide +kernel
theorem m2 : ∀ (c : Fin 4) (l : Fin 256), (64 * c.val + l.val / 4) &&& 51 = l.val / 4 &&& 51 := by decide +kernel
theorem m3 : ∀ (c : Fin 16) (l : Fin 120), (16 * c.val + (l.val / 16 + l.val)) % 256 &&& 15 = (l.val / 16 + l.val) &&& 15 := by decide +kernel
theorem b1 : ∀ l : Fin 256, f1 85 l.val ≤ 170 := by decide +kernel
theorem b2 : ∀ l : Fin 256, f2 51 l.val ≤ 102 := by decide +kernel
theorem b3 : ∀ l : Fin 120, f3 15 l.val ≤ 15 := by decide +kernel
theorem p8 : ∀ l : Fin 256, f3 15 (f2 51 (f1 85 l.val)) = cntTo l.val.testBit 8 := by decide +kernel

theorem f1_rec (k h l : Nat) (hl : l < 256) : f1 (rep 85 (k + 1)) (256 * h + l) = 256 * f1 (rep 85 k) h + f1 85 l := by
  unfold f1
  rw [and_rep _ 85 k (by omega), and_rep _ 85 k (by omega)]
  rw [show (256 * h + l) / 2 / 256 = h / 2 by omega, show (256 * h + l) / 256 = h by omega, show (256 * h + l) % 256 = l by omega,
    show (256 * h + l) / 2 % 256 = 128 * (h % 2) + l / 2 by omega]
  have := m1 ⟨h % 2, by omega⟩ ⟨l, hl⟩
  simp only at this
  rw [this]; omega
theorem f2_rec (k h l : Nat) (hl : l < 256) : f2 (rep 51 (k + 1)) (256 * h + l) = 256 * f2 (rep 51 k) h + f2 51 l := by
  unfold f2
  rw [and_rep _ 51 k (by omega), and_rep _ 51 k (by omega)]
  rw [show (256 * h + l) / 4 / 256 = h / 4 by omega, show (256 * h + l) / 256 = h by omega, show (256 * h + l) % 256 = l by omega,
    show (256 * h + l) / 4 % 256 = 64 * (h % 4) + l / 4 by omega]
  have := m2 ⟨h % 4, by omega⟩ ⟨l, hl⟩
  simp only at this
  rw [this]; omega
theorem f3_rec (k h l : Nat) (hl : l ≤ 102) (hh : h % 16 ≤ 6) : f3 (rep 15 (k + 1)) (256 * h + l) = 256 * f3 (rep 15 k) h + f3 15 l := by
  unfold f3
  rw [and_rep _ 15 k (by omega)]
  rw [show ((256 * h + l) / 16 + (256 * h + l)) / 256 = h / 16 + h by omega,
    show ((256 * h + l) / 16 + (256 * h + l)) % 256 = (16 * (h % 16) + (l / 16 + l)) % 256 by omega]
  have := m3 ⟨h % 16, by omega⟩ ⟨l, by omega⟩
  simp only at this
  rw [this]
theorem and_rep_mod (x k : Nat) : (x &&& rep 51 k) % 16 ≤ 3 := by
  cases k with
  | zero => simp [rep]
  | succ k =>
    rw [and_rep _ 51 k (by omega)]
    have : ∀ l : Fin 256, (l.val &&& 51) % 16 ≤ 3 := by decide +kernel
    have := this ⟨x % 256, by omega⟩
    simp only at this
    omega
theorem f2_mod (k X : Nat) : f2 (rep 51 k) X % 16 ≤ 6 := by
  unfold f2
  have a := and_rep_mod (X / 4) k
  have b := and_rep_mod X k
  omega

/-- the sums within each byte -/
def sums (k X : Nat) : Nat := f3 (rep 15 k) (f2 (rep 51 k) (f1 (rep 85 k) X))
theorem sums_rec (k h l : Nat) (hl : l < 256) : sums (k + 1) (256 * h + l) = 256 * sums k h + cntTo l.testBit 8 := by
  unfold sums
  have e1 := b1 ⟨l, hl⟩
  simp only at e1
  have e2 := b2 ⟨f1 85 l, by omega⟩
  simp only at e2
  rw [f1_rec k h l hl, f2_rec k _ _ (by omega), f3_rec k _ _ (by omega) (f2_mod _ _)]
  have e3 := p8 ⟨l, hl⟩
  simp only at e3
  rw [e3]
theorem sums_zero (X : Nat) : sums 0 X = 0 := by simp [sums, f3, rep]

/-- the bytes' counts, from the lowest on -/
theorem cnt_byte (X n : Nat) : cntTo X.testBit (8 + n) = cntTo (X % 256).testBit 8 + cntTo (X / 256).testBit n := by
  rw [cntTo_add]
  congr 1
  · apply cntTo_congr
    intro i hi
    have : X % 256 = X % 2 ^ 8 := rfl
    rw [this, Nat.testBit_mod_two_pow]; simp [hi]
  · apply cntTo_congr
    intro i hi
    have : X / 256 = X / 2 ^ 8 := rfl
    rw [this, Nat.testBit_div_two_pow, Nat.add_comm]
theorem sums_step (k X : Nat) : sums (k + 1) X = 256 * sums k (X / 256) + cntTo (X % 256).testBit 8 := by
  conv => lhs; rw [show X = 256 * (X / 256) + X % 256 by omega]
  exact sums_rec k _ _ (by omega)

/-- all the bytes' counts, added up as math/bits does it -/
theorem up_a (Y Y1 d0 : Nat) (h0 : d0 ≤ 8) (e0 : Y = 256 * Y1 + d0) : Y / 256 = Y1 := by omega
theorem up_b (Z Z2 c0 c1 : Nat) (h0 : c0 ≤ 16) (h1 : c1 ≤ 16) (e : Z = 65536 * Z2 + 256 * c1 + c0) : Z / 65536 = Z2 := by omega
theorem up_c (V V4 c0 c1 c2 c3 : Nat) (h0 : c0 ≤ 32) (h1 : c1 ≤ 32) (h2 : c2 ≤ 32) (h3 : c3 ≤ 32) (e : V = 4294967296 * V4 + 16777216 * c3 + 65536 * c2 + 256 * c1 + c0) : V / 4294967296 = V4 := by omega
theorem up_d (U c r : Nat) (h : c ≤ 64) (e : U = 256 * r + c) : U % 128 = c := by omega
theorem add_up8 (d0 d1 d2 d3 d4 d5 d6 d7 Y : Nat) (h0 : d0 ≤ 8) (h1 : d1 ≤ 8) (h2 : d2 ≤ 8) (h3 : d3 ≤ 8) (h4 : d4 ≤ 8) (h5 : d5 ≤ 8) (h6 : d6 ≤ 8) (h7 : d7 ≤ 8)
    (hY : Y = 256 * (256 * (256 * (256 * (256 * (256 * (256 * (256 * 0 + d7) + d6) + d5) + d4) + d3) + d2) + d1) + d0) :
    Y < 1152921504606846976 ∧ ∃ Z V U, Z = Y + Y / 256 ∧ Z < 18446744073709551616 ∧ V = Z + Z / 65536 ∧ V < 18446744073709551616 ∧ U = V + V / 4294967296 ∧ U < 18446744073709551616 ∧
      U % 128 = d0 + (d1 + (d2 + (d3 + (d4 + (d5 + (d6 + (d7 + 0))))))) := by
  obtain ⟨Y6, e6⟩ : ∃ y, y = 256 * d7 + d6 := ⟨_, rfl⟩
  obtain ⟨Y5, e5⟩ : ∃ y, y = 256 * Y6 + d5 := ⟨_, rfl⟩
  obtain ⟨Y4, e4⟩ : ∃ y, y = 256 * Y5 + d4 := ⟨_, rfl⟩
  obtain ⟨Y3, e3⟩ : ∃ y, y = 256 * Y4 + d3 := ⟨_, rfl⟩
  obtain ⟨Y2, e2⟩ : ∃ y, y = 256 * Y3 + d2 := ⟨_, rfl⟩
  obtain ⟨Y1, e1⟩ : ∃ y, y = 256 * Y2 + d1 := ⟨_, rfl⟩
  have e0 : Y = 256 * Y1 + d0 := by rw [hY, e1, e2, e3, e4, e5, e6, Nat.mul_zero, Nat.zero_add]
  clear hY
  have b6 : Y6 ≤ 2056 := by omega
  have b5 : Y5 ≤ 526344 := by omega
  have b4 : Y4 ≤ 134744072 := by omega
  have b3 : Y3 ≤ 34494482440 := by omega
  have b2 : Y2 ≤ 8830587504648 := by omega
  have b1 : Y1 ≤ 2260630401189896 := by omega
  have b0 : Y ≤ 578721382704613384 := by omega
  have ya := up_a Y Y1 d0 h0 e0
  have yb := up_b (Y + Y1) (Y2 + Y3) (d0 + d1) (d1 + d2) (by omega) (by omega) (by omega)
  have yc := up_c (Y + Y1 + (Y2 + Y3)) (Y4 + Y5 + Y6 + d7) (d0 + d1 + d2 + d3) (d1 + d2 + d3 + d4) (d2 + d3 + d4 + d5) (d3 + d4 + d5 + d6) (by omega) (by omega) (by omega) (by omega) (by omega)
  have yd := up_d (Y + Y1 + (Y2 + Y3) + (Y4 + Y5 + Y6 + d7)) (d0 + (d1 + (d2 + (d3 + (d4 + (d5 + (d6 + (d7 + 0)))))))) (Y1 + Y2 + Y3 + Y4 + Y5 + Y6 + d7) (by omega) (by omega)
  refine ⟨by omega, Y + Y1, Y + Y1 + (Y2 + Y3), Y + Y1 + (Y2 + Y3) + (Y4 + Y5 + Y6 + d7), by rw [ya], by omega, by rw [yb], by omega, by rw [yc], by omega, yd⟩
theorem add_up (X : Nat) :
    sums 8 X < 1152921504606846976 ∧ ∃ Z V U, Z = sums 8 X + sums 8 X / 256 ∧ Z < 18446744073709551616 ∧ V = Z + Z / 65536 ∧ V < 18446744073709551616 ∧ U = V + V / 4294967296 ∧ U < 18446744073709551616 ∧
      U % 128 = cntTo X.testBit 64 := by
  have e : cntTo X.testBit (8 + (8 + (8 + (8 + (8 + (8 + (8 + (8 + 0)))))))) = cntTo X.testBit 64 := rfl
  rw [← e]
  clear e
  rw [cnt_byte, cnt_byte, cnt_byte, cnt_byte, cnt_byte, cnt_byte, cnt_byte, cnt_byte]
  refine add_up8 _ _ _ _ _ _ _ _ _ (cntTo_le _ 8) (cntTo_le _ 8) (cntTo_le _ 8) (cntTo_le _ 8) (cntTo_le _ 8) (cntTo_le _ 8) (cntTo_le _ 8) (cntTo_le _ 8) ?_
  rw [sums_step, sums_step, sums_step, sums_step, sums_step, sums_step, sums_step, sums_step, sums_zero]

/-! the model's spelling of it -/
def g1 (x : Int) : Int := IntKind.u64.wrap (bits .and .u64 (x / 2) 6148914691236517205 + bits .and .u64 x 6148914691236517205)
def g2 (x : Int) : Int := IntKind.u64.wrap (bits .and .u64 (x / 4) 3689348814741910323 + bits .and .u64 x 3689348814741910323)
def g3 (x : Int) : Int := bits .and .u64 (IntKind.u64.wrap (x / 16 + x)) 1085102592571150095
def g4 (x : Int) : Int := IntKind.u64.wrap (x + x / 256)
def g5 (x : Int) : Int := IntKind.u64.wrap (x + x / 65536)
def g6 (x : Int) : Int := IntKind.u64.wrap (x + x / 4294967296)
theorem and_le (x m : Nat) : x &&& m ≤ m := Nat.and_le_right
theorem g1_eq (X : Nat) (h : X < 18446744073709551616) : g1 (X : Int) = (f1 (rep 85 8) X : Nat) := by
  have e : rep 85 8 = 6148914691236517205 := by decide
  unfold g1 f1
  rw [e, show ((X : Int) / 2) = ((X / 2 : Nat) : Int) by omega, show (6148914691236517205 : Int) = ((6148914691236517205 : Nat) : Int) from rfl,
    bits_and_u64_nat _ _ (by omega) (by omega), bits_and_u64_nat _ _ (by omega) (by omega), IntKind.wrap_u64]
  have a := and_le (X / 2) 6148914691236517205
  have b := and_le X 6148914691236517205
  omega
theorem g2_eq (X : Nat) (h : X < 18446744073709551616) : g2 (X : Int) = (f2 (rep 51 8) X : Nat) := by
  have e : rep 51 8 = 3689348814741910323 := by decide
  unfold g2 f2
  rw [e, show ((X : Int) / 4) = ((X / 4 : Nat) : Int) by omega, show (3689348814741910323 : Int) = ((3689348814741910323 : Nat) : Int) from rfl,
    bits_and_u64_nat _ _ (by omega) (by omega), bits_and_u64_nat _ _ (by omega) (by omega), IntKind.wrap_u64]
  have a := and_le (X / 4) 3689348814741910323
  have b := and_le X 3689348814741910323
  omega
theorem g3_eq (X : Nat) (h : X ≤ 7378697629483820646) : g3 (X : Int) = (f3 (rep 15 8) X : Nat) := by
  have e : rep 15 8 = 1085102592571150095 := by decide
  unfold g3 f3
  rw [e, IntKind.wrap_u64, show ((X : Int) / 16 + X) % 18446744073709551616 = ((X / 16 + X : Nat) : Int) by omega, show (1085102592571150095 : Int) = ((1085102592571150095 : Nat) : Int) from rfl,
    bits_and_u64_nat _ _ (by omega) (by omega)]
theorem f1_lt (X : Nat) : f1 (rep 85 8) X < 18446744073709551616 := by
  have e : rep 85 8 = 6148914691236517205 := by decide
  unfold f1; rw [e]
  have a := and_le (X / 2) 6148914691236517205
  have b := and_le X 6148914691236517205
  omega
theorem f2_le (X : Nat) : f2 (rep 51 8) X ≤ 7378697629483820646 := by
  have e : rep 51 8 = 3689348814741910323 := by decide
  unfold f2; rw [e]
  have a := and_le (X / 4) 3689348814741910323
  have b := and_le X 3689348814741910323
  omega
theorem and127 (u : Nat) (h : u < 18446744073709551616) : bits .and .i64 (IntKind.i64.wrap (u : Int)) 127 = ((u % 128 : Nat) : Int) := by
  show IntKind.i64.wrap ((BitVec.ofInt 64 (IntKind.i64.wrap (u : Int)) &&& BitVec.ofInt 64 127).toNat : Int) = _
  have h1 : BitVec.ofInt 64 (IntKind.i64.wrap (u : Int)) = BitVec.ofNat 64 u := by
    apply BitVec.eq_of_toNat_eq
    rw [BitVec.toNat_ofInt, BitVec.toNat_ofNat]
    simp [IntKind.wrap, IntKind.bits, IntKind.signed]
    omega
  have h2 : (BitVec.ofInt 64 127).toNat = 2 ^ 7 - 1 := by decide
  rw [h1, BitVec.toNat_and, h2, BitVec.toNat_ofNat, Nat.mod_eq_of_lt (by omega), Nat.and_two_pow_sub_one_eq_mod]
  simp [IntKind.wrap, IntKind.bits, IntKind.signed]
  omega
/-- what math/bits.OnesCount64 reckons is how many numbers the set has -/
theorem ones_eq (s : Bv) : bits .and .i64 (IntKind.i64.wrap (g6 (g5 (g4 (g3 (g2 (g1 (s.toNat : Int)))))))) 127 = (cnt s : Int) := by
  rw [g1_eq _ (bv_lt s), g2_eq _ (f1_lt _), g3_eq _ (f2_le _)]
  obtain ⟨hY, Z, V, U, hZ, hZl, hV, hVl, hU, hUl, h⟩ := add_up s.toNat
  have e : f3 (rep 15 8) (f2 (rep 51 8) (f1 (rep 85 8) s.toNat)) = sums 8 s.toNat := rfl
  rw [e]
  generalize sums 8 s.toNat = Y at *
  have e4 : g4 (Y : Int) = (Z : Int) := by unfold g4; rw [IntKind.wrap_u64]; omega
  have e5 : g5 (Z : Int) = (V : Int) := by unfold g5; rw [IntKind.wrap_u64]; omega
  have e6 : g6 (V : Int) = (U : Int) := by unfold g6; rw [IntKind.wrap_u64]; omega
  rw [e4, e5, e6, and127 U hUl, h]
  rfl
end Go.Proofs.YtebjofffijnihaaGreatDoor
namespace Go.Proofs.YtebjofffijnihaaGreatDoor
set_option maxRecDepth 100000
open Go.ChangeShapes Go.WideShapes Go.ChangeAt Go.RowKit

/-- len is how many bits the number x wants -/
def LenN (x len : Nat) : Prop := x < 2 ^ len ∧ (0 < len → 2 ^ (len - 1) ≤ x)
theorem tab_size : Lib.len8tab.size = 256 := by decide +kernel
theorem tab_len : ∀ i : Fin 256, i.val < 2 ^ (Lib.len8tab.get! i.val).toNat ∧ (0 < (Lib.len8tab.get! i.val).toNat → 2 ^ ((Lib.len8tab.get! i.val).toNat - 1) ≤ i.val) ∧ (Lib.len8tab.get! i.val).toNat ≤ 8 := by decide +kernel
theorem tab_at (i : Nat) (h : i < Lib.len8tab.size) : LenN i (Lib.len8tab[i]).toNat ∧ (Lib.len8tab[i]).toNat ≤ 8 := by
  have e : Lib.len8tab[i] = Lib.len8tab.get! i := by
    show Lib.len8tab.data[i] = Lib.len8tab.data[i]!
    rw [getElem!_pos]
  have t := tab_len ⟨i, by rw [tab_size] at h; exact h⟩
  simp only at t
  rw [← e] at t
  exact ⟨⟨t.1, t.2.1⟩, t.2.2⟩
theorem lenN_shift (x y j l : Nat) (hy : y = x / 2 ^ j) (h : LenN y l) (hj : j = 0 ∨ 0 < y) : LenN x (j + l) := by
  obtain ⟨h1, h2⟩ := h
  have hp : 0 < 2 ^ j := Nat.two_pow_pos j
  subst hy
  constructor
  · rw [Nat.pow_add, Nat.mul_comm]; exact (Nat.div_lt_iff_lt_mul hp).1 h1
  · intro hl
    by_cases hl0 : 0 < l
    · rw [show j + l - 1 = (l - 1) + j by omega, Nat.pow_add]; exact (Nat.le_div_iff_mul_le hp).1 (h2 hl0)
    · exfalso
      have : l = 0 := by omega
      subst this
      simp at h1
      rcases hj with rfl | hj
      · omega
      · have := (Nat.div_eq_zero_iff).2 (Or.inr h1)
        omega
/-- what Len64 hands back -/
def LenPost (x : Nat) (w : World) (e : Ending) (w' : World) : Prop := ∃ len : Nat, e = .returned (.int .i64 len) ∧ LenN x len ∧ len ≤ 64 ∧ w = w'
theorem len_close (x : Nat) (w : World) (j : Nat) (y : Int) (_h0 : 0 ≤ y) (hs : y.toNat < Lib.len8tab.size) (hy : y.toNat = x / 2 ^ j) (hj : j = 0 ∨ 1 ≤ y) (hj' : j ≤ 56) :
    LenPost x w (.returned (.int .i64 (wrap64 ((j : Int) + wrap64 ((Lib.len8tab[y.toNat]).toNat : Int))))) w := by
  obtain ⟨t1, t2⟩ := tab_at y.toNat hs
  refine ⟨j + (Lib.len8tab[y.toNat]).toNat, ?_, lenN_shift x y.toNat j _ hy t1 (by omega), by omega, rfl⟩
  generalize (Lib.len8tab[y.toNat]).toNat = l at *
  have e1 : wrap64 (l : Int) = l := by unfold wrap64; omega
  have e2 : wrap64 ((j : Int) + l) = ((j + l : Nat) : Int) := by unfold wrap64; omega
  rw [e1, e2]

set_option maxHeartbeats 1000000 in
set_option maxRecDepth 100000 in
theorem len_any (x : Int) (w : World) (h0 : 0 ≤ x) (h1 : x ≤ 18446744073709551615) :
    Calls Tryz.prog 108 #[.int .u64 x] w (LenPost x.toNat w) := by
  have hts := tab_size
  go_enter Tryz.func108, Tryz.ntmps108
  go_wp2
  all_goals go_ret
  all_goals first
    | (refine len_close x.toNat w 56 (x / 4294967296 / 65536 / 256) (by omega) (by rw [tab_size]; omega) (by omega) (by omega) (by omega))
    | (refine len_close x.toNat w 48 (x / 4294967296 / 65536) (by omega) (by rw [tab_size]; omega) (by omega) (by omega) (by omega))
    | (refine len_close x.toNat w 40 (x / 4294967296 / 256) (by omega) (by rw [tab_size]; omega) (by omega) (by omega) (by omega))
    | (refine len_close x.toNat w 32 (x / 4294967296) (by omega) (by rw [tab_size]; omega) (by omega) (by omega) (by omega))
    | (refine len_close x.toNat w 24 (x / 65536 / 256) (by omega) (by rw [tab_size]; omega) (by omega) (by omega) (by omega))
    | (refine len_close x.toNat w 16 (x / 65536) (by omega) (by rw [tab_size]; omega) (by omega) (by omega) (by omega))
    | (refine len_close x.toNat w 8 (x / 256) (by omega) (by rw [tab_size]; omega) (by omega) (by omega) (by omega))
    | (have h := len_close x.toNat w 0 x (by omega) (by rw [tab_size]; omega) (by omega) (by omega) (by omega); simpa using h)
end Go.Proofs.YtebjofffijnihaaGreatDoor
