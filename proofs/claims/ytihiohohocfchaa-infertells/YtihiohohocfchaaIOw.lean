/-
  The law InferOnce, walked. Condition: the names handed in are at most 2^44 - 8192.
-/
import Derived.Test.YtihiohohocfchaaIOc
import Derived.Test.YtihiohohocfchaaIFw
namespace Go.Proofs.Ytihiohohocfchaa
set_option maxRecDepth 100000
set_option linter.unusedVariables false
open Go.ChangeShapes Go.WideShapes Go.ChangeAt Go.RowKit

theorem fill_at {l z : List Rl} (hj : Joined l z) {I : List Mc} {T : List Str} {k : Nat} (hk : k < (fillL l z I T).length) :
    tg (fillL l z I T) k = [hd (fillL l z I T) k] ∧ (hd (fillL l z I T) k).length ≤ 40 ∧ FRule l I (hd (fillL l z I T) k) (nd (fillL l z I T) k) := by
  obtain ⟨s, h1, h2, h3⟩ := fill_rule hk
  have e : hd (fillL l z I T) k = s := by unfold hd; rw [h2]; rfl
  rw [e]
  exact ⟨h2, (good_len (List.all_eq_true.1 (good_uniq hj.good) s h1)).2, h3⟩
theorem fill_ones {l z : List Rl} {I : List Mc} {T : List Str} : ∀ r ∈ fillL l z I T, ∃ s, r.1 = [s] := fun r hr => by
  unfold fillL at hr
  obtain ⟨s, _, h⟩ := List.mem_filterMap.1 hr
  exact ⟨s, (one_rule h).1⟩
theorem joined_ones {l z : List Rl} (hj : Joined l z) : ∀ r ∈ z, ∃ s, r.1 = [s] := fun r hr => by
  rw [hj.eq] at hr
  obtain ⟨t, _, rfl⟩ := List.mem_map.1 hr
  exact ⟨t, rfl⟩
theorem two_cells (w : World) (x y : Value) (t : TypeId) :
    Below w.heap.size w ((w.alloc (.cells #[x] t)).alloc (.cells #[y] t)) ∧ ((w.alloc (.cells #[x] t)).alloc (.cells #[y] t)).cell? ⟨w.heap.size, 0, none⟩ = some x ∧ ((w.alloc (.cells #[x] t)).alloc (.cells #[y] t)).cell? ⟨w.heap.size + 1, 0, none⟩ = some y := by
  have hs : (w.alloc (.cells #[x] t)).heap.size = w.heap.size + 1 := by simp
  have k0 := (blk_new w #[x] t).alloc (.cells #[y] t)
  have k1 := blk_new (w.alloc (.cells #[x] t)) #[y] t
  rw [hs] at k1
  exact ⟨((Below.refl _ w).alloc (Nat.le_refl _) _).alloc (by simp) _, k0.cell rfl, k1.cell rfl⟩
set_option maxHeartbeats 8000000 in
set_option maxRecDepth 100000 in
theorem walkOnce {w : World} {v u t : Value} {l : List Rl} {I : List Mc} {T : List Str} (hr : RIn w v l) (hi : IIn w u I) (ht : SIn w t T) (hT : T.length ≤ 17592186036224) :
    Calls Try.prog 4 #[v, u, t] w fun e w' => e = .returned (.bool true) ∧ Below w.heap.size w w' := by
  have FA : Hid (∀ W, Below w.heap.size w W → Calls Try.prog 7 #[v, u, t] W (FillPost l I T W)) := fun W hW => fill_any (hr.later hW) (hi.later hW) (ht.later hW) hT
  have JA : Hid (∀ W, Below w.heap.size w W → Calls Try.prog 16 #[v] W (JoinPost l W)) := fun W hW => join_any (hr.later hW)
  have HI := Lib.hid hi
  obtain ⟨a, cap, rfl, _⟩ := hr
  obtain ⟨⟨ai, ci, rfl, _⟩, _⟩ := hi
  obtain ⟨at', ct, rfl⟩ := ht.shape
  clear ht hT
  generalize l.length = L at *
  generalize eI : I.length = LI at *
  have EI := Lib.hid eI; clear eI
  generalize T.length = LT at *
  go_enter Try.func4, Try.ntmps4
  go_wp2_with fail
  refine (infers_true w).mono ?_
  rintro e w1 ⟨rfl, b1⟩
  have B1 := Lib.hid b1; clear b1
  go_wp2_with fail
  refine (FA.out w1 B1.out).mono ?_
  rintro e w2 ⟨z, x, va, hj, rfl, ra, b2⟩
  have B2 := Lib.hid (B1.out.trans (b2.mono B1.out.size)); clear b2
  have HJ := Lib.hid hj; clear hj
  have RA := Lib.hid ra
  obtain ⟨aa, ca, rfl, _⟩ := ra
  have A3 := Lib.hid ((Below.refl w2.heap.size w2).alloc (Nat.le_refl _) (.cells #[.slice aa (fillR l z x I T).1.length ca] 22))
  have B3 := Lib.hid (B2.out.trans (A3.out.mono B2.out.size))
  have RA3 := Lib.hid (RA.out.later A3.out)
  have K3 := Lib.hid (blk_new w2 #[.slice aa (fillR l z x I T).1.length ca] 22)
  clear RA A3
  by_cases hx : (fillR l z x I T).2 = 0
  · obtain ⟨rfl, hE, hTg, hF⟩ := fillR_zero hx
    rw [hF] at K3 RA3 B3 ⊢
    have JD := Lib.hid HJ.out.joined
    have HE := Lib.hid hE
    clear hx hE hTg hF
    have FAT : Hid (∀ k, k < (fillL l z I T).length → tg (fillL l z I T) k = [hd (fillL l z I T) k] ∧ (hd (fillL l z I T) k).length ≤ 40 ∧ FRule l I (hd (fillL l z I T) k) (nd (fillL l z I T) k)) := fun k hk => fill_at JD.out hk
    have FUP : Hid (∀ k, k + 1 < (fillL l z I T).length → hd (fillL l z I T) k < hd (fillL l z I T) (k + 1)) := fun k hk => fill_up hk
    have FON : Hid (∀ r ∈ fillL l z I T, ∃ s, r.1 = [s]) := fill_ones
    have WHS := Lib.hid (was_has JD.out (I := I) (T := T))
    have HI10 : Hid (∀ r ∈ I, r.1.length ≤ 4294967296) := fun r hr => by
      obtain ⟨k, hk, e⟩ := List.getElem_of_mem hr
      have h1 := sufB_len (infE_sufs HE.out k hk).1
      have h2 := at_some hk
      rw [List.getElem?_eq_getElem hk, e] at h2
      injection h2 with h2
      rw [h2]; show (nm I k).length ≤ _; omega
    have HFB : (fillL l z I T).length ≤ 2932031007317 := RA3.out.bound
    generalize fillL l z I T = FF at *
    generalize hFL : FF.length = n at *
    have HFL := Lib.hid hFL; clear hFL
    go_wp2_with fail
    refine (JA.out _ B3.out).mono ?_
    rintro e w4 ⟨v4, z4, x4, rfl, hj4, ro, b4⟩
    obtain ⟨rfl, rfl⟩ := hj4.same HJ.out
    have B4 := Lib.hid (B3.out.trans (b4.mono B3.out.size))
    have RA4 := Lib.hid (RA3.out.later b4)
    have K4 := Lib.hid (K3.out.later b4)
    have RW4 := Lib.hid (ro.rin (by have := JD.out.rb.1; omega) JD.out.small)
    clear b4 hj4 ro K3 RA3 HJ
    obtain ⟨aw, cw, rfl, _⟩ := id RW4.out
    generalize hzl : z4.length = lz at *
    clear hzl
    have d0 := K4.out.cell (i := 0) rfl
    obtain ⟨_, _, he5, _, _, _, h5⟩ := id RA4.out
    rw [HFL.out] at he5
    injection he5 with e51 e52 e53
    have HC : Hid (∀ W, Below w4.heap.size w4 W → ∀ k, k < n → ∃ b off tv uv, aa = some ⟨b, off, none⟩ ∧ W.cell? ⟨b, off + k * 2, none⟩ = some tv ∧ W.cell? ⟨b, off + k * 2 + 1, none⟩ = some uv ∧ SIn W tv (tg FF k) ∧ SIn W uv (nd FF k)) := fun W hW k hk => by
      rcases h5 with rfl | ⟨b, off, ha, hlt, TT, UU, hc⟩
      · rw [← HFL.out] at hk; exact absurd hk (Nat.not_lt_zero _)
      · rw [← HFL.out] at hk
        exact ⟨b, off, TT k, UU k, e51.trans ha, cell_later hW (hc k hk).1, cell_later hW (hc k hk).2.1, (hc k hk).2.2.1.later hW, (hc k hk).2.2.2.later hW⟩
    clear h5 e51
    go_wp2_with fail
    go_loopw [38] (fun i wr => ∃ k : Nat, k ≤ n ∧ i = .int .i64 (k : Int) ∧ Below w4.heap.size w4 wr) (fun i _ => n - (intOf i).toNat)
    case atStart => exact ⟨0, Nat.zero_le _, rfl, Below.refl _ _⟩
    case round =>
      obtain ⟨k, hk, rfl, qb⟩ := hrel
      have QB := Lib.hid qb; clear qb
      by_cases hkl : k < n
      · obtain ⟨b, off, tv, uv, rfl, c0, c1, s0, s1⟩ := HC.out wr QB.out k hkl
        obtain ⟨j1, j2, j3⟩ := FAT.out k hkl
        rw [j1] at s0
        obtain ⟨b3, off3, c3, rfl, h3⟩ := sin_one s0
        have WA : Below w4.heap.size w4 (wr.alloc (.cells #[.slice (some ⟨b3, off3, none⟩) 1 c3, uv] 40)) := QB.out.alloc QB.out.size _
        have K0 := Lib.hid (blk_new wr #[.slice (some ⟨b3, off3, none⟩) 1 c3, uv] 40)
        have BA : Below wr.heap.size wr (wr.alloc (.cells #[.slice (some ⟨b3, off3, none⟩) 1 c3, uv] 40)) := (Below.refl _ _).alloc (Nat.le_refl _) _
        have S1 := Lib.hid (s1.later BA)
        have H3 : Hid (∀ W, Below wr.heap.size wr W → W.cell? ⟨b3, off3, none⟩ = some (.string (bs (hd FF k)))) := h3
        have ON := Lib.hid (once1_any (RW4.out.later WA) JD.out (hd FF k))
        have WAH := Lib.hid WA
        have BAH := Lib.hid BA
        obtain ⟨an', cn, rfl⟩ := s1.shape
        have f0 := K0.out.cell (i := 0) rfl
        have f1 := K0.out.cell (i := 1) rfl
        have f2 := H3.out _ BA
        have J2 := Lib.hid j2
        have J3 := Lib.hid j3
        clear s0 s1 h3 j1 j2 j3 WA BA
        generalize hln : (nd FF k).length = ln at *
        have HLN := Lib.hid hln; clear hln
        go_wp2_with fail
        refine ON.out.mono ?_
        rintro e w6 ⟨ao, co, rfl, sold, b6⟩
        have B6 := Lib.hid (WAH.out.trans (b6.mono WAH.out.size))
        have R6 := Lib.hid (BAH.out.trans (b6.mono BAH.out.size))
        have K6 := Lib.hid (K0.out.later b6)
        have S6 := Lib.hid (S1.out.later b6)
        have SO6 := Lib.hid sold
        clear b6 sold f0 f1 f2 c0 c1 d0
        have d0 := (K4.out.later B6.out).cell (i := 0) rfl
        have f0 := K6.out.cell (i := 0) rfl
        have f1 := K6.out.cell (i := 1) rfl
        have f2 := H3.out _ R6.out
        by_cases hk0 : k = 0
        · have i2 : decide (0 < k) = false := decide_eq_false (by omega)
          have HK := Lib.hid hk0; clear hk0
          rcases J3.out with ⟨hn, he⟩ | ⟨hn, he⟩ | ⟨hn, ya, hy, he⟩
          · have LO : Hid (0 < (needsR l (hd FF k)).length) := Lib.hid (List.length_pos_iff.2 hn)
            have EQ : Hid (∀ q, Calls Try.prog 18 #[.slice ao (needsR l (hd FF k)).length co, .slice an' ln cn] (w6.drewN q) fun e w' => e = .returned (.bool true) ∧ ∃ p, w' = (w6.drewN q).drewN p) := fun q => (equal_of (SO6.out.later (below_drewN (Below.refl _ _) q)) (S6.out.later (below_drewN (Below.refl _ _) q))).mono fun e w' ⟨h1, h2⟩ => ⟨by rw [h1, he]; exact congrArg (fun b => Ending.returned (.bool b)) (decide_eq_true rfl), h2⟩
            generalize hlo : (needsR l (hd FF k)).length = lo at *
            clear hlo he hn
            generalize hd FF k = s at *
            have lo1 : decide (0 < lo) = true := decide_eq_true LO.out
            go_wp2_with fail
            go_quiet (first | (go_at_call 18; exact Calls.quiet_of (EQ.out _)))
            go_wp2
            go_roundw
            case rel => exact ⟨k + 1, by omega, by go_num, below_drewN B6.out _⟩
            case measure => simp [intOf]; omega
          · have lo0 : (needsR l (hd FF k)).length = 0 := by rw [hn]; rfl
            have ln0 : ln = 0 := by rw [← HLN.out, he]; rfl
            rw [lo0] at SO6 ⊢
            rw [ln0] at f1 S6 K6 ⊢
            clear lo0 ln0 hn he
            generalize hd FF k = s at *
            go_wp2_with fail
            go_quiet (fail)
            go_wp2
            go_roundw
            case rel => exact ⟨k + 1, by omega, by go_num, below_drewN B6.out _⟩
            case measure => simp [intOf]; omega
          · have lo0 : (needsR l (hd FF k)).length = 0 := by rw [hn]; rfl
            have ln1 : ln = 1 := by rw [← HLN.out, he]; rfl
            rw [lo0] at SO6 ⊢
            rw [he] at S6
            rw [ln1] at f1 S6 K6 ⊢
            have IA : Hid (I.any (fun y => decide (y.2 = sfx (hd FF k)) && decide (stm (hd FF k) ++ ya = stm (hd FF k) ++ y.1)) = true) := Lib.hid (List.any_eq_true.2 ⟨_, hy, by simp⟩)
            have SL := stm_len (hd FF k)
            have j2 := J2.out
            have SM : Hid (∀ q, Calls Try.prog 19 #[.string (bs (hd FF k))] (w6.drewN q) fun e w' => e = .returned (.tuple #[.string (bs (stm (hd FF k))), .string (bs (sfx (hd FF k)))]) ∧ Below w6.heap.size w6 w') := fun q => (stem_of (hd FF k) (by omega) (w6.drewN q)).mono fun e w' ⟨h1, p, h2⟩ => ⟨h1, by rw [h2]; exact below_drewN (below_drewN (Below.refl _ _) q) p⟩
            clear lo0 ln1 hn he hy
            generalize stm (hd FF k) = st at *
            generalize sfx (hd FF k) = sf at *
            generalize hd FF k = s at *
            go_wp2_with fail
            go_quiet (fail)
            go_wp2_with fail
            refine (SM.out _).mono ?_
            rintro e w7 ⟨rfl, b7⟩
            obtain ⟨t4, t5, t6⟩ := two_cells w7 (.string (bs st)) (.string (bs sf)) 9
            have B8 := Lib.hid (B6.out.trans ((b7.trans (t4.mono b7.size)).mono B6.out.size))
            have B78 := b7.trans (t4.mono b7.size)
            have CO := Lib.hid (icontainsOn _ _ _ (HI.out.1.later (B4.out.trans (B8.out.mono B4.out.size))) ent21 (t2_test (en := sf) (st := st) (n := st ++ ya) t6 t5 (K6.out.later B78) (S6.out.later B78) (by omega) HI10.out))
            rw [IA.out] at CO
            clear d0 f0 f1 f2
            have f1 := (K6.out.later b7).cell (i := 1) rfl
            have f3 := (K6.out.later B78).cell (i := 1) rfl
            clear b7 B78 t4
            go_wp2_with fail
            refine CO.out.mono ?_
            rintro e w9 ⟨rfl, b9⟩
            have B9 := Lib.hid (B8.out.trans (b9.mono B8.out.size))
            clear b9 t5 t6
            go_wp2
            go_roundw
            case rel => exact ⟨k + 1, by omega, by go_num, B9.out⟩
            case measure => simp [intOf]; omega
        · obtain ⟨m, hm⟩ : ∃ m, k = m + 1 := ⟨k - 1, by omega⟩
          have hml : m < n := by omega
          obtain ⟨b', off', tv', uv', e4, p0, p1, s4, _⟩ := HC.out _ B6.out m hml
          cases e4
          rw [(FAT.out m hml).1] at s4
          obtain ⟨b5, off5, c5, rfl, h5⟩ := sin_one s4
          have p2 := h5 _ (Below.refl _ _)
          have LE : Op.bytesLess (bs (hd FF m)).toList (bs (hd FF k)).toList = true := by
            rw [bs_toList, bs_toList, bytesLess_eq, hm]; exact decide_eq_true (FUP.out m (by omega))
          have i1 : (k : Int) - 1 = (m : Int) := by omega
          have i2 : decide (0 < k) = true := decide_eq_true (by omega)
          have HM := Lib.hid hm; clear hm hk0 s4 h5
          generalize hd FF m = xm at *
          rcases J3.out with ⟨hn, he⟩ | ⟨hn, he⟩ | ⟨hn, ya, hy, he⟩
          · have LO : Hid (0 < (needsR l (hd FF k)).length) := Lib.hid (List.length_pos_iff.2 hn)
            have EQ : Hid (∀ q, Calls Try.prog 18 #[.slice ao (needsR l (hd FF k)).length co, .slice an' ln cn] (w6.drewN q) fun e w' => e = .returned (.bool true) ∧ ∃ p, w' = (w6.drewN q).drewN p) := fun q => (equal_of (SO6.out.later (below_drewN (Below.refl _ _) q)) (S6.out.later (below_drewN (Below.refl _ _) q))).mono fun e w' ⟨h1, h2⟩ => ⟨by rw [h1, he]; exact congrArg (fun b => Ending.returned (.bool b)) (decide_eq_true rfl), h2⟩
            generalize hlo : (needsR l (hd FF k)).length = lo at *
            clear hlo he hn
            generalize hd FF k = s at *
            have lo1 : decide (0 < lo) = true := decide_eq_true LO.out
            go_wp2_with fail
            go_quiet (first | (go_at_call 18; exact Calls.quiet_of (EQ.out _)))
            go_wp2
            go_roundw
            case rel => exact ⟨k + 1, by omega, by go_num, below_drewN B6.out _⟩
            case measure => simp [intOf]; omega
          · have lo0 : (needsR l (hd FF k)).length = 0 := by rw [hn]; rfl
            have ln0 : ln = 0 := by rw [← HLN.out, he]; rfl
            rw [lo0] at SO6 ⊢
            rw [ln0] at f1 S6 K6 ⊢
            clear lo0 ln0 hn he
            generalize hd FF k = s at *
            go_wp2_with fail
            go_quiet (fail)
            go_wp2
            go_roundw
            case rel => exact ⟨k + 1, by omega, by go_num, below_drewN B6.out _⟩
            case measure => simp [intOf]; omega
          · have lo0 : (needsR l (hd FF k)).length = 0 := by rw [hn]; rfl
            have ln1 : ln = 1 := by rw [← HLN.out, he]; rfl
            rw [lo0] at SO6 ⊢
            rw [he] at S6
            rw [ln1] at f1 S6 K6 ⊢
            have IA : Hid (I.any (fun y => decide (y.2 = sfx (hd FF k)) && decide (stm (hd FF k) ++ ya = stm (hd FF k) ++ y.1)) = true) := Lib.hid (List.any_eq_true.2 ⟨_, hy, by simp⟩)
            have SL := stm_len (hd FF k)
            have j2 := J2.out
            have SM : Hid (∀ q, Calls Try.prog 19 #[.string (bs (hd FF k))] (w6.drewN q) fun e w' => e = .returned (.tuple #[.string (bs (stm (hd FF k))), .string (bs (sfx (hd FF k)))]) ∧ Below w6.heap.size w6 w') := fun q => (stem_of (hd FF k) (by omega) (w6.drewN q)).mono fun e w' ⟨h1, p, h2⟩ => ⟨h1, by rw [h2]; exact below_drewN (below_drewN (Below.refl _ _) q) p⟩
            clear lo0 ln1 hn he hy
            generalize stm (hd FF k) = st at *
            generalize sfx (hd FF k) = sf at *
            generalize hd FF k = s at *
            go_wp2_with fail
            go_quiet (fail)
            go_wp2_with fail
            refine (SM.out _).mono ?_
            rintro e w7 ⟨rfl, b7⟩
            obtain ⟨t4, t5, t6⟩ := two_cells w7 (.string (bs st)) (.string (bs sf)) 9
            have B8 := Lib.hid (B6.out.trans ((b7.trans (t4.mono b7.size)).mono B6.out.size))
            have B78 := b7.trans (t4.mono b7.size)
            have CO := Lib.hid (icontainsOn _ _ _ (HI.out.1.later (B4.out.trans (B8.out.mono B4.out.size))) ent21 (t2_test (en := sf) (st := st) (n := st ++ ya) t6 t5 (K6.out.later B78) (S6.out.later B78) (by omega) HI10.out))
            rw [IA.out] at CO
            clear d0 f0 f1 f2
            have f1 := (K6.out.later b7).cell (i := 1) rfl
            have f3 := (K6.out.later B78).cell (i := 1) rfl
            clear b7 B78 t4
            go_wp2_with fail
            refine CO.out.mono ?_
            rintro e w9 ⟨rfl, b9⟩
            have B9 := Lib.hid (B8.out.trans (b9.mono B8.out.size))
            clear b9 t5 t6
            go_wp2
            go_roundw
            case rel => exact ⟨k + 1, by omega, by go_num, B9.out⟩
            case measure => simp [intOf]; omega
      · obtain rfl : k = n := by omega
        have K9 := K4.out.later QB.out
        have RW9 := RW4.out.later QB.out
        have RA9 := RA4.out.later QB.out
        have WW := Lib.hid (B4.out.trans (QB.out.mono B4.out.size))
        have CO := Lib.hid (rcontainsOn _ _ _ RW9 ent23 (t3_test (va := .slice aa k ca) (K9.cell (i := 0) rfl) RA9 FON.out (joined_ones JD.out)))
        rw [WHS.out] at CO
        clear K9 RW9 RA9
        go_wp2_with fail
        refine CO.out.mono ?_
        rintro e w9 ⟨rfl, b9⟩
        have B9 := Lib.hid (WW.out.trans (b9.mono WW.out.size))
        clear b9
        go_wp2
        go_ret
        exact ⟨rfl, B9.out⟩
  · have e0 : (fillR l z x I T).1 = [] := fillR_bad hx
    have hne : ((fillR l z x I T).2 != 0) = true := by rw [bne_iff_ne]; exact hx
    rw [e0] at K3 B3 ⊢
    generalize (fillR l z x I T).2 = E at *
    clear hx RA3 e0
    have e1 : ([] : List Rl).length = 0 := rfl
    rw [e1] at K3 B3 ⊢
    go_wp2_with fail
    refine (JA.out _ B3.out).mono ?_
    rintro e w4 ⟨v4, z4, x4, rfl, _, _, b4⟩
    have B4 := Lib.hid (B3.out.trans (b4.mono B3.out.size))
    have K4 := K3.out.later b4
    have d0 := K4.cell (i := 0) rfl
    clear b4 K3 K4
    go_wp2
    go_ret
    exact ⟨rfl, B4.out⟩
end Go.Proofs.Ytihiohohocfchaa
