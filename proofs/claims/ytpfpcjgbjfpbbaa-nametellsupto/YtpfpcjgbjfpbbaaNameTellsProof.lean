/-
  Proved: for arbitrary arguments every function of package name returns what the reference returns (law NameTells answers true). Condition: the arguments are of bulk at most 1048576 (the second form's own).
-/
import Derived.Test.YtpfpcjgbjfpbbaaNRise
import Derived.Test.YtpfpcjgbjfpbbaaNMergeB
import Derived.Test.YtpfpcjgbjfpbbaaNStem
import Derived.ShutString
import Derived.Deep.CondSized
namespace Go.Proofs.Ytpfpcjgbjfpbbaa.nameTells
open Go.ChangeShapes Go.WideShapes Go.ChangeAt Go.RowKit
open Go.ChangeMaps (open_string shut_string)
set_option linter.unusedVariables false

theorem stem_one (s : ByteArray) : ∃ p q : ByteArray, ∀ e, StemPost s e → e = .returned (.tuple #[.string p, .string q]) := by
  rcases Classical.em (∃ i, Cut s i) with ⟨i, h⟩ | h
  · refine ⟨s.extract 0 i, s.extract i s.size, fun e he => ?_⟩
    rcases he with ⟨j, hj, rfl⟩ | ⟨hn, _⟩
    · rw [← h.same hj]
    · exact absurd h (hn i)
  · refine ⟨s, ByteArray.mk #[], fun e he => ?_⟩
    rcases he with ⟨j, hj, _⟩ | ⟨_, rfl⟩
    · exact absurd ⟨j, hj⟩ h
    · rfl

theorem app_any {w : World} {base : Nat} {v v2 : Value} {z1 z2 : List Str} (hown : w.ownsRow base 9 1 v z1.length (z1.map encStr)) (h2 : SIn w v2 z2) (hs : z1.length + z2.length ≤ 4194304) (hbase : base ≤ w.heap.size) :
    ∃ v' w', (Builtin.append_ #[22, 22] 22 #[v, v2]).run Try.prog w = .ok v' w' ∧ w'.ownsRow base 9 1 v' (z1 ++ z2).length ((z1 ++ z2).map encStr) ∧ Below base w w' := by
  rcases h2.open with ⟨rfl, a, c, rfl⟩ | ⟨_, b, off, c, rfl, _, _, hc⟩
  · rw [List.append_nil]
    exact ⟨v, w, app_none _ hown a c, hown, Below.refl _ _⟩
  · obtain ⟨i0, hi, hz0, hz1, hz2⟩ := info_parts infoStr
    obtain ⟨v', w', r, o, gr, _⟩ := run_append_own (P := Try.prog) w base 22 22 9 i0 (.string ByteArray.empty) 1 16 Try.underlying22 hi hz0 hz1 hz2 rfl (by omega) v z1.length (z1.map encStr) hown ⟨b, off, none⟩ z2.length c (z2.map encStr) (by simp) (fun j u hj => by
      obtain ⟨hlt, rfl⟩ := map_at hj
      have := hc j hlt
      rw [List.getD, List.getElem?_eq_getElem hlt] at this
      rw [addrK]; exact this) (map_one _) (by unfold maxLen; omega) (by omega) hbase
    rw [← List.map_append] at o
    rw [List.length_append]
    exact ⟨v', w', r, o, (Below.refl _ w).grown gr hbase fun k hk => (hown.lt k hk).1⟩

theorem all_left {a b : List Str} (h : a.all good = false) : (a ++ b).all good = false := by rw [List.all_append, h]; rfl
theorem all_right {a b : List Str} (h : b.all good = false) : (a ++ b).all good = false := by rw [List.all_append, h, Bool.and_false]
theorem all_both {a b : List Str} (h : a.all good = true) (k : b.all good = true) : (a ++ b).all good = true := by rw [List.all_append, h, k]; rfl
theorem small_app {a b : List Str} (h : ∀ x ∈ a, x.length ≤ 9223372036854775807) (k : ∀ x ∈ b, x.length ≤ 9223372036854775807) : ∀ x ∈ a ++ b, x.length ≤ 9223372036854775807 := fun x hx => by
  rcases List.mem_append.1 hx with q | q
  · exact h x q
  · exact k x q

/-- what Merge has answered, told once -/
def MTold (z : List Str) (w : World) (v : Value) (f : Int) : Prop :=
  (z.all good = true ∧ (uniq z).length ≤ 64 ∧ f = 0 ∧ SIn w v (uniq z)) ∨ (z.all good = true ∧ 64 < (uniq z).length ∧ f = 2 ∧ v = .slice none 0 0) ∨ (z.all good = false ∧ f = 3 ∧ v = .slice none 0 0)
theorem merge_told {z : List Str} {w w' : World} {e : Ending} (h : MergePost z w e w') : Below w.heap.size w w' ∧ ∃ v f, e = .returned (.tuple #[v, .int .i64 f]) ∧ MTold z w' v f := by
  obtain ⟨hb, h⟩ := h
  refine ⟨hb, ?_⟩
  rcases h with ⟨h1, h2, v, rfl, h3⟩ | ⟨h1, h2, rfl⟩ | ⟨h1, rfl⟩
  · exact ⟨v, 0, rfl, .inl ⟨h1, h2, rfl, SIn.own h3 (by omega) (small_all (good_uniq h1))⟩⟩
  · exact ⟨_, 2, rfl, .inr (.inl ⟨h1, h2, rfl, rfl⟩)⟩
  · exact ⟨_, 3, rfl, .inr (.inr ⟨h1, rfl, rfl⟩)⟩
theorem MTold.later {z : List Str} {w w' : World} {v : Value} {f : Int} (h : MTold z w v f) (hb : Below w.heap.size w w') : MTold z w' v f := by
  rcases h with ⟨h1, h2, h3, h4⟩ | h | h
  · exact .inl ⟨h1, h2, h3, h4.later hb⟩
  · exact .inr (.inl h)
  · exact .inr (.inr h)

set_option maxHeartbeats 16000000 in
set_option maxRecDepth 100000 in
theorem walk (a0 : ByteArray) (v1 : Value) (z1 : List Str) (v2 : Value) (z2 : List Str) (w : World) (w0 : a0.size ≤ 4194304) (w1 : SIn w v1 z1) (w2 : SIn w v2 z2) (hs : z1.length + z2.length ≤ 4194304) :
    Calls Try.prog 3 #[.string a0, v1, v2] w fun e w' => e = .returned (.bool true) ∧ Below w.heap.size w w' := by
  obtain ⟨x, rfl⟩ : ∃ x, a0 = bs x := ⟨_, (bs_of a0).symm⟩
  have W0 := Lib.hid w0; clear w0
  have W1 := Lib.hid w1; clear w1
  have W2 := Lib.hid w2; clear w2
  have HS := Lib.hid hs; clear hs
  obtain ⟨p, q, hpq⟩ := stem_one (bs x)
  have PQ := Lib.hid hpq; clear hpq
  obtain ⟨gB, hgB⟩ : ∃ gB, good (bs x).data.toList = gB := ⟨_, rfl⟩
  have GB := Lib.hid hgB; clear hgB
  cases gB
  · -- the text is not a name
    have er : errOf false = 3 := rfl
    go_enter Try.func3, Try.ntmps3
    go_wp2_with fail
    refine (sort_any W1.out).mono ?_
    rintro e wa (⟨hg1, va, rfl, hown, hbel⟩ | ⟨hg1, rfl, rfl⟩)
    · have G1 := Lib.hid hg1
      have IA : Hid (SIn wa va (uniq z1)) := SIn.own hown (by have := uniq_le z1; have := HS.out; omega) (small_all (good_uniq hg1))
      have BA := Lib.hid hbel
      clear hg1 hown hbel
      go_wp2_with fail
      refine (merge_any (W1.out.later BA.out) (W2.out.later BA.out) (by have := HS.out; omega)).mono ?_
      intro e wb hM
      obtain ⟨hbel, vb, f, rfl, hT⟩ := merge_told hM
      have BB := Lib.hid (BA.out.trans (hbel.mono BA.out.size))
      have IA2 := Lib.hid (IA.out.later hbel)
      have M := Lib.hid hT
      clear hbel hM hT IA BA
      go_wp2_with fail
      refine (stem_any (bs x) (by have := W0.out; omega) _).mono ?_
      rintro e wc ⟨he, n1, rfl⟩
      obtain rfl := PQ.out e he
      clear he
      go_wp2_with fail
      refine (stemOf_any (bs x) (by have := W0.out; omega) _).mono ?_
      rintro e wc ⟨he, n2, rfl⟩
      obtain rfl := PQ.out e he
      clear he
      go_wp2_with fail
      refine (goodName_any (bs x) _ (by have := W0.out; omega)).mono ?_
      rw [GB.out]
      rintro e wc ⟨rfl, rfl⟩
      go_wp2_with fail
      refine (check_any (bs x) _ (by have := W0.out; omega)).mono ?_
      rw [GB.out, er]
      rintro e wd ⟨rfl, rfl⟩
      have BC : Hid (Below w.heap.size w ((wb.drewN n1).drewN n2)) := below_drewN (below_drewN BB.out n1) n2
      have BBC : Hid (Below wb.heap.size wb ((wb.drewN n1).drewN n2)) := below_drewN (below_drewN (Below.refl _ _) n1) n2
      have M3 := Lib.hid (M.out.later BBC.out)
      have IA3 := Lib.hid (IA2.out.later BBC.out)
      clear IA2

      clear M BBC
      simp only [World.drewN_drewN] at BC M3 IA3 ⊢
      generalize wb.drewN (n1 + n2) = wd at BC M3 IA3 ⊢
      go_wp2_with fail
      refine (goodNames_of (W1.out.later BC.out)).mono ?_
      rw [G1.out]
      rintro e we ⟨rfl, rfl⟩
      go_wp2_with fail
      refine (rising_of (W1.out.later BC.out) (by have := HS.out; omega)).mono ?_
      rintro e wr ⟨vs, rfl, hown, hbel⟩
      have BR := Lib.hid (BC.out.trans (hbel.mono BC.out.size))
      have IS : Hid (SIn wr vs (uniq z1)) := SIn.own hown (by have := uniq_le z1; have := HS.out; omega) (small_all (good_uniq G1.out))
      have IA4 := Lib.hid (IA3.out.later hbel)
      have M4 := Lib.hid (M3.out.later hbel)
      clear hown hbel IA3 M3 BC
      go_wp2_with fail
      refine (find_of IS.out (uniq_up z1) x).mono ?_
      rintro e wf ⟨hF, n3, rfl⟩
      have BBD : Hid (Below wr.heap.size wr (wr.drewN n3)) := below_drewN (Below.refl _ wr) n3
      have BF := Lib.hid (below_drewN BR.out n3)
      have IS2 := Lib.hid (IS.out.later BBD.out)
      have IA5 := Lib.hid (IA4.out.later BBD.out)
      have M5 := Lib.hid (M4.out.later BBD.out)
      clear IS IA4 M4 BBD BR
      generalize wr.drewN n3 = wf at BF IS2 IA5 M5 ⊢
      rcases hF with ⟨i, hi, hx, rfl⟩ | ⟨hx, rfl⟩
      · go_wp2_with fail
        refine (place_of IS2.out x).mono ?_
        rintro e wg ⟨⟨j, hj, hxj, rfl⟩ | ⟨hnx, rfl⟩, rfl⟩
        · obtain rfl : i = j := up_inj (uniq_up z1) hi hj (hx.trans hxj.symm)
          have hib : i < 17592186044416 := Nat.lt_of_lt_of_le hi IS2.out.bound
          clear hi hj hx hxj
          have hp0 : (0 : Int) ≤ (i : Int) := by omega
          go_wp2_with fail
          refine (equal_of IA5.out IS2.out).mono ?_
          rw [decide_eq_true rfl]
          rintro e wh ⟨rfl, n4, rfl⟩
          have BH := Lib.hid (below_drewN BF.out n4)
          have M6 := Lib.hid (M5.out.later (below_drewN (Below.refl _ wg) n4))
          clear IA5 IS2 M5 BF
          generalize wg.drewN n4 = wh at BH M6 ⊢
          go_wp2_with fail
          obtain ⟨g2, hg2⟩ : ∃ g2, z2.all good = g2 := ⟨_, rfl⟩
          have G2 := Lib.hid hg2
          clear hg2
          refine (goodNames_of (W2.out.later BH.out)).mono ?_
          rw [G2.out]
          rintro e wi ⟨rfl, rfl⟩
          cases g2
          · obtain ⟨rfl, rfl⟩ : f = 3 ∧ vb = .slice none 0 0 := by
              rcases M6.out with ⟨h, _⟩ | ⟨h, _⟩ | ⟨_, h1, h2⟩
              · rw [all_right G2.out] at h; cases h
              · rw [all_right G2.out] at h; cases h
              · exact ⟨h1, h2⟩
            go_wp2
            go_ret
            exact ⟨rfl, BH.out⟩
          · go_wp2_with fail
            refine (clone_of (W1.out.later BH.out)).mono ?_
            rintro e wj ⟨vc, rfl, hown, hbel⟩
            have BI := Lib.hid (BH.out.trans (hbel.mono BH.out.size))
            obtain ⟨vd, wk, r, hown2, hbel2⟩ := app_any hown (W2.out.later BI.out) HS.out hbel.size
            have R := Lib.hid r
            have BJ := Lib.hid (BI.out.trans (hbel2.mono BH.out.size))
            have ID : Hid (SIn wk vd (z1 ++ z2)) := SIn.own hown2 (by rw [List.length_append]; have := HS.out; omega) (small_app W1.out.small W2.out.small)
            have M8 := Lib.hid (M6.out.later (hbel.trans hbel2))
            clear hown hbel hown2 hbel2 r M6 BI BH
            go_wp2_with (at_builtin; refine Lib.wpList_append_run _ rfl _ _ 22 22 rfl _ _ rfl rfl _ _ R.out ?_)
            refine (rising_of ID.out (by rw [List.length_append]; exact HS.out)).mono ?_
            rintro e wl ⟨ve, rfl, hown3, hbel3⟩
            have GG := Lib.hid (all_both G1.out G2.out)
            have UL : Hid ((uniq (z1 ++ z2)).length ≤ 4194304) := Nat.le_trans (uniq_le _) (by rw [List.length_append]; exact HS.out)
            have BK := Lib.hid (BJ.out.trans (hbel3.mono BJ.out.size))
            have IE : Hid (SIn wl ve (uniq (z1 ++ z2))) := SIn.own hown3 (by have := UL.out; omega) (small_all (good_uniq GG.out))
            have M9 := Lib.hid (M8.out.later hbel3)
            clear hown3 hbel3 M8 BJ R ID
            obtain ⟨aE, cE, rfl, _⟩ := id IE.out
            have hu := UL.out
            by_cases h64 : (uniq (z1 ++ z2)).length ≤ 64
            · obtain ⟨rfl, IB⟩ : f = 0 ∧ Hid (SIn wl vb (uniq (z1 ++ z2))) := by
                rcases M9.out with ⟨_, _, h1, h2⟩ | ⟨_, h, _⟩ | ⟨h, _⟩
                · exact ⟨h1, h2⟩
                · omega
                · rw [GG.out] at h; cases h
              clear M9 UL
              generalize (uniq (z1 ++ z2)).length = nu at hu h64 IE ⊢
              go_wp2_with fail
              refine (equal_of IB.out IE.out).mono ?_
              rw [decide_eq_true rfl]
              rintro e wm ⟨rfl, n5, rfl⟩
              go_wp2
              go_ret
              exact ⟨rfl, below_drewN BK.out n5⟩
            · obtain ⟨rfl, rfl⟩ : f = 2 ∧ vb = .slice none 0 0 := by
                rcases M9.out with ⟨_, h, _⟩ | ⟨_, _, h1, h2⟩ | ⟨h, _⟩
                · omega
                · exact ⟨h1, h2⟩
                · rw [GG.out] at h; cases h
              have h65 : 64 < (uniq (z1 ++ z2)).length := by omega
              clear M9 UL IE h64
              generalize (uniq (z1 ++ z2)).length = nu at hu h65 ⊢
              go_wp2
              go_ret
              exact ⟨rfl, BK.out⟩
        · exact absurd (hx ▸ getD_mem hi) hnx
      · go_wp2_with fail
        refine (place_of IS2.out x).mono ?_
        rintro e wg ⟨⟨j, hj, hxj, rfl⟩ | ⟨hnx, rfl⟩, rfl⟩
        · exact absurd (hxj ▸ getD_mem hj) hx
        · clear hx hnx
          go_wp2_with fail
          refine (equal_of IA5.out IS2.out).mono ?_
          rw [decide_eq_true rfl]
          rintro e wh ⟨rfl, n4, rfl⟩
          have BH := Lib.hid (below_drewN BF.out n4)
          have M6 := Lib.hid (M5.out.later (below_drewN (Below.refl _ wg) n4))
          clear IA5 IS2 M5 BF
          generalize wg.drewN n4 = wh at BH M6 ⊢
          go_wp2_with fail
          obtain ⟨g2, hg2⟩ : ∃ g2, z2.all good = g2 := ⟨_, rfl⟩
          have G2 := Lib.hid hg2
          clear hg2
          refine (goodNames_of (W2.out.later BH.out)).mono ?_
          rw [G2.out]
          rintro e wi ⟨rfl, rfl⟩
          cases g2
          · obtain ⟨rfl, rfl⟩ : f = 3 ∧ vb = .slice none 0 0 := by
              rcases M6.out with ⟨h, _⟩ | ⟨h, _⟩ | ⟨_, h1, h2⟩
              · rw [all_right G2.out] at h; cases h
              · rw [all_right G2.out] at h; cases h
              · exact ⟨h1, h2⟩
            go_wp2
            go_ret
            exact ⟨rfl, BH.out⟩
          · go_wp2_with fail
            refine (clone_of (W1.out.later BH.out)).mono ?_
            rintro e wj ⟨vc, rfl, hown, hbel⟩
            have BI := Lib.hid (BH.out.trans (hbel.mono BH.out.size))
            obtain ⟨vd, wk, r, hown2, hbel2⟩ := app_any hown (W2.out.later BI.out) HS.out hbel.size
            have R := Lib.hid r
            have BJ := Lib.hid (BI.out.trans (hbel2.mono BH.out.size))
            have ID : Hid (SIn wk vd (z1 ++ z2)) := SIn.own hown2 (by rw [List.length_append]; have := HS.out; omega) (small_app W1.out.small W2.out.small)
            have M8 := Lib.hid (M6.out.later (hbel.trans hbel2))
            clear hown hbel hown2 hbel2 r M6 BI BH
            go_wp2_with (at_builtin; refine Lib.wpList_append_run _ rfl _ _ 22 22 rfl _ _ rfl rfl _ _ R.out ?_)
            refine (rising_of ID.out (by rw [List.length_append]; exact HS.out)).mono ?_
            rintro e wl ⟨ve, rfl, hown3, hbel3⟩
            have GG := Lib.hid (all_both G1.out G2.out)
            have UL : Hid ((uniq (z1 ++ z2)).length ≤ 4194304) := Nat.le_trans (uniq_le _) (by rw [List.length_append]; exact HS.out)
            have BK := Lib.hid (BJ.out.trans (hbel3.mono BJ.out.size))
            have IE : Hid (SIn wl ve (uniq (z1 ++ z2))) := SIn.own hown3 (by have := UL.out; omega) (small_all (good_uniq GG.out))
            have M9 := Lib.hid (M8.out.later hbel3)
            clear hown3 hbel3 M8 BJ R ID
            obtain ⟨aE, cE, rfl, _⟩ := id IE.out
            have hu := UL.out
            by_cases h64 : (uniq (z1 ++ z2)).length ≤ 64
            · obtain ⟨rfl, IB⟩ : f = 0 ∧ Hid (SIn wl vb (uniq (z1 ++ z2))) := by
                rcases M9.out with ⟨_, _, h1, h2⟩ | ⟨_, h, _⟩ | ⟨h, _⟩
                · exact ⟨h1, h2⟩
                · omega
                · rw [GG.out] at h; cases h
              clear M9 UL
              generalize (uniq (z1 ++ z2)).length = nu at hu h64 IE ⊢
              go_wp2_with fail
              refine (equal_of IB.out IE.out).mono ?_
              rw [decide_eq_true rfl]
              rintro e wm ⟨rfl, n5, rfl⟩
              go_wp2
              go_ret
              exact ⟨rfl, below_drewN BK.out n5⟩
            · obtain ⟨rfl, rfl⟩ : f = 2 ∧ vb = .slice none 0 0 := by
                rcases M9.out with ⟨_, h, _⟩ | ⟨_, _, h1, h2⟩ | ⟨h, _⟩
                · omega
                · exact ⟨h1, h2⟩
                · rw [GG.out] at h; cases h
              have h65 : 64 < (uniq (z1 ++ z2)).length := by omega
              clear M9 UL IE h64
              generalize (uniq (z1 ++ z2)).length = nu at hu h65 ⊢
              go_wp2
              go_ret
              exact ⟨rfl, BK.out⟩
    · have G1 := Lib.hid hg1
      clear hg1
      go_wp2_with fail
      refine (merge_any W1.out W2.out (by have := HS.out; omega)).mono ?_
      intro e wb hM
      obtain ⟨hbel, vb, f, rfl, hT⟩ := merge_told hM
      have BB := Lib.hid hbel
      have M := Lib.hid hT
      clear hbel hM hT
      obtain ⟨rfl, rfl⟩ : f = 3 ∧ vb = .slice none 0 0 := by
        rcases M.out with ⟨h, _⟩ | ⟨h, _⟩ | ⟨_, h1, h2⟩
        · rw [all_left G1.out] at h; cases h
        · rw [all_left G1.out] at h; cases h
        · exact ⟨h1, h2⟩
      go_wp2_with fail
      refine (stem_any (bs x) (by have := W0.out; omega) _).mono ?_
      rintro e wc ⟨he, n1, rfl⟩
      obtain rfl := PQ.out e he
      clear he
      go_wp2_with fail
      refine (stemOf_any (bs x) (by have := W0.out; omega) _).mono ?_
      rintro e wc ⟨he, n2, rfl⟩
      obtain rfl := PQ.out e he
      clear he
      go_wp2_with fail
      refine (goodName_any (bs x) _ (by have := W0.out; omega)).mono ?_
      rw [GB.out]
      rintro e wc ⟨rfl, rfl⟩
      go_wp2_with fail
      refine (check_any (bs x) _ (by have := W0.out; omega)).mono ?_
      rw [GB.out, er]
      rintro e wd ⟨rfl, rfl⟩
      have BC : Hid (Below wa.heap.size wa ((wb.drewN n1).drewN n2)) := below_drewN (below_drewN BB.out n1) n2
      have BBC : Hid (Below wb.heap.size wb ((wb.drewN n1).drewN n2)) := below_drewN (below_drewN (Below.refl _ _) n1) n2
      have M3 := Lib.hid (M.out.later BBC.out)

      clear M BBC
      simp only [World.drewN_drewN] at BC M3 ⊢
      generalize wb.drewN (n1 + n2) = wd at BC M3 ⊢
      go_wp2_with fail
      refine (goodNames_of (W1.out.later BC.out)).mono ?_
      rw [G1.out]
      rintro e we ⟨rfl, rfl⟩
      go_wp2
      go_ret
      exact ⟨rfl, BC.out⟩
  · -- the text is a name
    have er : errOf true = 0 := rfl
    go_enter Try.func3, Try.ntmps3
    go_wp2_with fail
    refine (sort_any W1.out).mono ?_
    rintro e wa (⟨hg1, va, rfl, hown, hbel⟩ | ⟨hg1, rfl, rfl⟩)
    · have G1 := Lib.hid hg1
      have IA : Hid (SIn wa va (uniq z1)) := SIn.own hown (by have := uniq_le z1; have := HS.out; omega) (small_all (good_uniq hg1))
      have BA := Lib.hid hbel
      clear hg1 hown hbel
      go_wp2_with fail
      refine (merge_any (W1.out.later BA.out) (W2.out.later BA.out) (by have := HS.out; omega)).mono ?_
      intro e wb hM
      obtain ⟨hbel, vb, f, rfl, hT⟩ := merge_told hM
      have BB := Lib.hid (BA.out.trans (hbel.mono BA.out.size))
      have IA2 := Lib.hid (IA.out.later hbel)
      have M := Lib.hid hT
      clear hbel hM hT IA BA
      go_wp2_with fail
      refine (stem_any (bs x) (by have := W0.out; omega) _).mono ?_
      rintro e wc ⟨he, n1, rfl⟩
      obtain rfl := PQ.out e he
      clear he
      go_wp2_with fail
      refine (stemOf_any (bs x) (by have := W0.out; omega) _).mono ?_
      rintro e wc ⟨he, n2, rfl⟩
      obtain rfl := PQ.out e he
      clear he
      go_wp2_with fail
      refine (goodName_any (bs x) _ (by have := W0.out; omega)).mono ?_
      rw [GB.out]
      rintro e wc ⟨rfl, rfl⟩
      go_wp2_with fail
      refine (check_any (bs x) _ (by have := W0.out; omega)).mono ?_
      rw [GB.out, er]
      rintro e wd ⟨rfl, rfl⟩
      have BC : Hid (Below w.heap.size w ((wb.drewN n1).drewN n2)) := below_drewN (below_drewN BB.out n1) n2
      have BBC : Hid (Below wb.heap.size wb ((wb.drewN n1).drewN n2)) := below_drewN (below_drewN (Below.refl _ _) n1) n2
      have M3 := Lib.hid (M.out.later BBC.out)
      have IA3 := Lib.hid (IA2.out.later BBC.out)
      clear IA2

      clear M BBC
      simp only [World.drewN_drewN] at BC M3 IA3 ⊢
      generalize wb.drewN (n1 + n2) = wd at BC M3 IA3 ⊢
      go_wp2_with fail
      refine (goodNames_of (W1.out.later BC.out)).mono ?_
      rw [G1.out]
      rintro e we ⟨rfl, rfl⟩
      go_wp2_with fail
      refine (rising_of (W1.out.later BC.out) (by have := HS.out; omega)).mono ?_
      rintro e wr ⟨vs, rfl, hown, hbel⟩
      have BR := Lib.hid (BC.out.trans (hbel.mono BC.out.size))
      have IS : Hid (SIn wr vs (uniq z1)) := SIn.own hown (by have := uniq_le z1; have := HS.out; omega) (small_all (good_uniq G1.out))
      have IA4 := Lib.hid (IA3.out.later hbel)
      have M4 := Lib.hid (M3.out.later hbel)
      clear hown hbel IA3 M3 BC
      go_wp2_with fail
      refine (find_of IS.out (uniq_up z1) x).mono ?_
      rintro e wf ⟨hF, n3, rfl⟩
      have BBD : Hid (Below wr.heap.size wr (wr.drewN n3)) := below_drewN (Below.refl _ wr) n3
      have BF := Lib.hid (below_drewN BR.out n3)
      have IS2 := Lib.hid (IS.out.later BBD.out)
      have IA5 := Lib.hid (IA4.out.later BBD.out)
      have M5 := Lib.hid (M4.out.later BBD.out)
      clear IS IA4 M4 BBD BR
      generalize wr.drewN n3 = wf at BF IS2 IA5 M5 ⊢
      rcases hF with ⟨i, hi, hx, rfl⟩ | ⟨hx, rfl⟩
      · go_wp2_with fail
        refine (place_of IS2.out x).mono ?_
        rintro e wg ⟨⟨j, hj, hxj, rfl⟩ | ⟨hnx, rfl⟩, rfl⟩
        · obtain rfl : i = j := up_inj (uniq_up z1) hi hj (hx.trans hxj.symm)
          have hib : i < 17592186044416 := Nat.lt_of_lt_of_le hi IS2.out.bound
          clear hi hj hx hxj
          have hp0 : (0 : Int) ≤ (i : Int) := by omega
          go_wp2_with fail
          refine (equal_of IA5.out IS2.out).mono ?_
          rw [decide_eq_true rfl]
          rintro e wh ⟨rfl, n4, rfl⟩
          have BH := Lib.hid (below_drewN BF.out n4)
          have M6 := Lib.hid (M5.out.later (below_drewN (Below.refl _ wg) n4))
          clear IA5 IS2 M5 BF
          generalize wg.drewN n4 = wh at BH M6 ⊢
          go_wp2_with fail
          obtain ⟨g2, hg2⟩ : ∃ g2, z2.all good = g2 := ⟨_, rfl⟩
          have G2 := Lib.hid hg2
          clear hg2
          refine (goodNames_of (W2.out.later BH.out)).mono ?_
          rw [G2.out]
          rintro e wi ⟨rfl, rfl⟩
          cases g2
          · obtain ⟨rfl, rfl⟩ : f = 3 ∧ vb = .slice none 0 0 := by
              rcases M6.out with ⟨h, _⟩ | ⟨h, _⟩ | ⟨_, h1, h2⟩
              · rw [all_right G2.out] at h; cases h
              · rw [all_right G2.out] at h; cases h
              · exact ⟨h1, h2⟩
            go_wp2
            go_ret
            exact ⟨rfl, BH.out⟩
          · go_wp2_with fail
            refine (clone_of (W1.out.later BH.out)).mono ?_
            rintro e wj ⟨vc, rfl, hown, hbel⟩
            have BI := Lib.hid (BH.out.trans (hbel.mono BH.out.size))
            obtain ⟨vd, wk, r, hown2, hbel2⟩ := app_any hown (W2.out.later BI.out) HS.out hbel.size
            have R := Lib.hid r
            have BJ := Lib.hid (BI.out.trans (hbel2.mono BH.out.size))
            have ID : Hid (SIn wk vd (z1 ++ z2)) := SIn.own hown2 (by rw [List.length_append]; have := HS.out; omega) (small_app W1.out.small W2.out.small)
            have M8 := Lib.hid (M6.out.later (hbel.trans hbel2))
            clear hown hbel hown2 hbel2 r M6 BI BH
            go_wp2_with (at_builtin; refine Lib.wpList_append_run _ rfl _ _ 22 22 rfl _ _ rfl rfl _ _ R.out ?_)
            refine (rising_of ID.out (by rw [List.length_append]; exact HS.out)).mono ?_
            rintro e wl ⟨ve, rfl, hown3, hbel3⟩
            have GG := Lib.hid (all_both G1.out G2.out)
            have UL : Hid ((uniq (z1 ++ z2)).length ≤ 4194304) := Nat.le_trans (uniq_le _) (by rw [List.length_append]; exact HS.out)
            have BK := Lib.hid (BJ.out.trans (hbel3.mono BJ.out.size))
            have IE : Hid (SIn wl ve (uniq (z1 ++ z2))) := SIn.own hown3 (by have := UL.out; omega) (small_all (good_uniq GG.out))
            have M9 := Lib.hid (M8.out.later hbel3)
            clear hown3 hbel3 M8 BJ R ID
            obtain ⟨aE, cE, rfl, _⟩ := id IE.out
            have hu := UL.out
            by_cases h64 : (uniq (z1 ++ z2)).length ≤ 64
            · obtain ⟨rfl, IB⟩ : f = 0 ∧ Hid (SIn wl vb (uniq (z1 ++ z2))) := by
                rcases M9.out with ⟨_, _, h1, h2⟩ | ⟨_, h, _⟩ | ⟨h, _⟩
                · exact ⟨h1, h2⟩
                · omega
                · rw [GG.out] at h; cases h
              clear M9 UL
              generalize (uniq (z1 ++ z2)).length = nu at hu h64 IE ⊢
              go_wp2_with fail
              refine (equal_of IB.out IE.out).mono ?_
              rw [decide_eq_true rfl]
              rintro e wm ⟨rfl, n5, rfl⟩
              go_wp2
              go_ret
              exact ⟨rfl, below_drewN BK.out n5⟩
            · obtain ⟨rfl, rfl⟩ : f = 2 ∧ vb = .slice none 0 0 := by
                rcases M9.out with ⟨_, h, _⟩ | ⟨_, _, h1, h2⟩ | ⟨h, _⟩
                · omega
                · exact ⟨h1, h2⟩
                · rw [GG.out] at h; cases h
              have h65 : 64 < (uniq (z1 ++ z2)).length := by omega
              clear M9 UL IE h64
              generalize (uniq (z1 ++ z2)).length = nu at hu h65 ⊢
              go_wp2
              go_ret
              exact ⟨rfl, BK.out⟩
        · exact absurd (hx ▸ getD_mem hi) hnx
      · go_wp2_with fail
        refine (place_of IS2.out x).mono ?_
        rintro e wg ⟨⟨j, hj, hxj, rfl⟩ | ⟨hnx, rfl⟩, rfl⟩
        · exact absurd (hxj ▸ getD_mem hj) hx
        · clear hx hnx
          go_wp2_with fail
          refine (equal_of IA5.out IS2.out).mono ?_
          rw [decide_eq_true rfl]
          rintro e wh ⟨rfl, n4, rfl⟩
          have BH := Lib.hid (below_drewN BF.out n4)
          have M6 := Lib.hid (M5.out.later (below_drewN (Below.refl _ wg) n4))
          clear IA5 IS2 M5 BF
          generalize wg.drewN n4 = wh at BH M6 ⊢
          go_wp2_with fail
          obtain ⟨g2, hg2⟩ : ∃ g2, z2.all good = g2 := ⟨_, rfl⟩
          have G2 := Lib.hid hg2
          clear hg2
          refine (goodNames_of (W2.out.later BH.out)).mono ?_
          rw [G2.out]
          rintro e wi ⟨rfl, rfl⟩
          cases g2
          · obtain ⟨rfl, rfl⟩ : f = 3 ∧ vb = .slice none 0 0 := by
              rcases M6.out with ⟨h, _⟩ | ⟨h, _⟩ | ⟨_, h1, h2⟩
              · rw [all_right G2.out] at h; cases h
              · rw [all_right G2.out] at h; cases h
              · exact ⟨h1, h2⟩
            go_wp2
            go_ret
            exact ⟨rfl, BH.out⟩
          · go_wp2_with fail
            refine (clone_of (W1.out.later BH.out)).mono ?_
            rintro e wj ⟨vc, rfl, hown, hbel⟩
            have BI := Lib.hid (BH.out.trans (hbel.mono BH.out.size))
            obtain ⟨vd, wk, r, hown2, hbel2⟩ := app_any hown (W2.out.later BI.out) HS.out hbel.size
            have R := Lib.hid r
            have BJ := Lib.hid (BI.out.trans (hbel2.mono BH.out.size))
            have ID : Hid (SIn wk vd (z1 ++ z2)) := SIn.own hown2 (by rw [List.length_append]; have := HS.out; omega) (small_app W1.out.small W2.out.small)
            have M8 := Lib.hid (M6.out.later (hbel.trans hbel2))
            clear hown hbel hown2 hbel2 r M6 BI BH
            go_wp2_with (at_builtin; refine Lib.wpList_append_run _ rfl _ _ 22 22 rfl _ _ rfl rfl _ _ R.out ?_)
            refine (rising_of ID.out (by rw [List.length_append]; exact HS.out)).mono ?_
            rintro e wl ⟨ve, rfl, hown3, hbel3⟩
            have GG := Lib.hid (all_both G1.out G2.out)
            have UL : Hid ((uniq (z1 ++ z2)).length ≤ 4194304) := Nat.le_trans (uniq_le _) (by rw [List.length_append]; exact HS.out)
            have BK := Lib.hid (BJ.out.trans (hbel3.mono BJ.out.size))
            have IE : Hid (SIn wl ve (uniq (z1 ++ z2))) := SIn.own hown3 (by have := UL.out; omega) (small_all (good_uniq GG.out))
            have M9 := Lib.hid (M8.out.later hbel3)
            clear hown3 hbel3 M8 BJ R ID
            obtain ⟨aE, cE, rfl, _⟩ := id IE.out
            have hu := UL.out
            by_cases h64 : (uniq (z1 ++ z2)).length ≤ 64
            · obtain ⟨rfl, IB⟩ : f = 0 ∧ Hid (SIn wl vb (uniq (z1 ++ z2))) := by
                rcases M9.out with ⟨_, _, h1, h2⟩ | ⟨_, h, _⟩ | ⟨h, _⟩
                · exact ⟨h1, h2⟩
                · omega
                · rw [GG.out] at h; cases h
              clear M9 UL
              generalize (uniq (z1 ++ z2)).length = nu at hu h64 IE ⊢
              go_wp2_with fail
              refine (equal_of IB.out IE.out).mono ?_
              rw [decide_eq_true rfl]
              rintro e wm ⟨rfl, n5, rfl⟩
              go_wp2
              go_ret
              exact ⟨rfl, below_drewN BK.out n5⟩
            · obtain ⟨rfl, rfl⟩ : f = 2 ∧ vb = .slice none 0 0 := by
                rcases M9.out with ⟨_, h, _⟩ | ⟨_, _, h1, h2⟩ | ⟨h, _⟩
                · omega
                · exact ⟨h1, h2⟩
                · rw [GG.out] at h; cases h
              have h65 : 64 < (uniq (z1 ++ z2)).length := by omega
              clear M9 UL IE h64
              generalize (uniq (z1 ++ z2)).length = nu at hu h65 ⊢
              go_wp2
              go_ret
              exact ⟨rfl, BK.out⟩
    · have G1 := Lib.hid hg1
      clear hg1
      go_wp2_with fail
      refine (merge_any W1.out W2.out (by have := HS.out; omega)).mono ?_
      intro e wb hM
      obtain ⟨hbel, vb, f, rfl, hT⟩ := merge_told hM
      have BB := Lib.hid hbel
      have M := Lib.hid hT
      clear hbel hM hT
      obtain ⟨rfl, rfl⟩ : f = 3 ∧ vb = .slice none 0 0 := by
        rcases M.out with ⟨h, _⟩ | ⟨h, _⟩ | ⟨_, h1, h2⟩
        · rw [all_left G1.out] at h; cases h
        · rw [all_left G1.out] at h; cases h
        · exact ⟨h1, h2⟩
      go_wp2_with fail
      refine (stem_any (bs x) (by have := W0.out; omega) _).mono ?_
      rintro e wc ⟨he, n1, rfl⟩
      obtain rfl := PQ.out e he
      clear he
      go_wp2_with fail
      refine (stemOf_any (bs x) (by have := W0.out; omega) _).mono ?_
      rintro e wc ⟨he, n2, rfl⟩
      obtain rfl := PQ.out e he
      clear he
      go_wp2_with fail
      refine (goodName_any (bs x) _ (by have := W0.out; omega)).mono ?_
      rw [GB.out]
      rintro e wc ⟨rfl, rfl⟩
      go_wp2_with fail
      refine (check_any (bs x) _ (by have := W0.out; omega)).mono ?_
      rw [GB.out, er]
      rintro e wd ⟨rfl, rfl⟩
      have BC : Hid (Below wa.heap.size wa ((wb.drewN n1).drewN n2)) := below_drewN (below_drewN BB.out n1) n2
      have BBC : Hid (Below wb.heap.size wb ((wb.drewN n1).drewN n2)) := below_drewN (below_drewN (Below.refl _ _) n1) n2
      have M3 := Lib.hid (M.out.later BBC.out)

      clear M BBC
      simp only [World.drewN_drewN] at BC M3 ⊢
      generalize wb.drewN (n1 + n2) = wd at BC M3 ⊢
      go_wp2_with fail
      refine (goodNames_of (W1.out.later BC.out)).mono ?_
      rw [G1.out]
      rintro e we ⟨rfl, rfl⟩
      go_wp2
      go_ret
      exact ⟨rfl, BC.out⟩

theorem strs_bulk {H : Type} : ∀ ss : List ByteArray, ss.length ≤ Rows.uptoBulkAll (strs (H := H) ss)
  | [] => Nat.zero_le _
  | s :: r => by
    have := strs_bulk (H := H) r
    unfold strs at *
    rw [List.map_cons]
    simp only [Rows.uptoBulkAll, Rows.uptoBulk, List.length_cons]
    omega

/-- a slice's length is within its bulk -/
theorem len_bulk {H : Type} {enc : TypeId × Value → H} {P : Program} {W : World} {t e : TypeId} {v : Value} {d : DataW H} {ps : List MemPlace} {z : List Str}
    (ht : P.underlying t = some (.slice e)) (he : P.underlying e = some .string) (hc : P.cellsOf e = 1) (h : DataW.Trod enc P W 0 (fun _ => true) true t v d ps) (hz : SIn W v z) : z.length ≤ Rows.uptoBulk d := by
  obtain ⟨a', c', rfl, _⟩ := hz
  obtain ⟨fuel, hf⟩ := h
  rcases open_strings ht he hc hf with ⟨hcs, _⟩ | ⟨a, len, cap, ss, hcs, _, hl, _, hss, hx, _⟩
  · simp [Value.cells] at hcs
    omega
  · simp [Value.cells] at hcs
    obtain ⟨_, rfl, _⟩ := hcs
    simp only [if_true] at hss
    simp only [Prod.mk.injEq] at hx
    rw [hx.1]
    have := strs_bulk (H := H) (ss.take z.length)
    simp only [Rows.uptoBulk]
    rw [List.length_take] at this
    omega

theorem own : ownKnob Try.prog.godebug = none := by kernel_rfl
theorem laidOut : laidOutB Try.prog = true := by kernel_rfl

theorem contract (H : Type) (enc : TypeId × Value → H) (W : World) (base : Nat) (args : Array Value) (ds gs : List (DataW H)) (before : List MemPlace)
    (hval : ∀ (j : Nat) t v, Try.f3.params[j]? = some t → args[j]? = some v → Value.okWide Try.prog W .any base t v)
    (hW : DataW.Whole enc Try.prog Try.f3.params.toList Rows.nameTellsSpec.vars false W args.toList ds gs before) (hk : Rows.uptoSmall H (ds ++ gs) = true)
    (hsz : (DataW.weightsEach Try.prog (Try.f3.params.toList ++ Rows.nameTellsSpec.plain.varTypes Try.prog) (ds ++ gs)).all (· ≤ reachBytes) = true) :
    Calls Try.prog 3 args W fun e W' => ∃ v, e = .returned v ∧ Rows.nameTellsSpec.post enc Try.prog Try.f3 false true false false W args v W' := by
  have hW' := hW
  obtain ⟨p, q, hA0, hV, rfl, hfz, hnd⟩ := hW
  have hA : DataW.TrodAll enc Try.prog W 0 (fun _ => true) true Try.f3.params.toList args.toList ds p := hA0
  rw [Try.params3] at hA hval hsz
  obtain ⟨v0, vs0, d0, ds0, p0, q0, hargs, rfl, rfl, h0, r0⟩ := trodAll_cons hA
  obtain ⟨v1, vs1, d1, ds1, p1, q1, rfl, rfl, rfl, h1, r1⟩ := trodAll_cons r0
  obtain ⟨v2, vs2, d2, ds2, p2, q2, rfl, rfl, rfl, h2, r2⟩ := trodAll_cons r1
  obtain ⟨rfl, rfl, rfl⟩ := trodAll_nil r2
  obtain rfl : args = #[v0, v1, v2] := by cases args; simp_all
  obtain ⟨rfl, rfl⟩ := trodVars_none hV
  obtain ⟨a0, rfl, rfl, rfl, w0'⟩ := open_string Try.underlying9 (hval 0 9 v0 rfl rfl) h0
  have k1 := h1
  have lt1 : ∀ x ∈ p1, x.block < W.heap.size := by obtain ⟨m, hm⟩ := k1; exact DataW.trod_lt m _ _ _ hm
  obtain ⟨z1, w1⟩ := open_strs (j := 1) Try.underlying22 Try.underlying9 (by kernel_rfl) (by kernel_rfl) hsz rfl rfl (hval 1 22 v1 rfl rfl) h1
  have k2 := h2
  have lt2 : ∀ x ∈ p2, x.block < W.heap.size := by obtain ⟨m, hm⟩ := k2; exact DataW.trod_lt m _ _ _ hm
  obtain ⟨z2, w2⟩ := open_strs (j := 2) Try.underlying22 Try.underlying9 (by kernel_rfl) (by kernel_rfl) hsz rfl rfl (hval 2 22 v2 rfl rfl) h2
  have b1 := len_bulk Try.underlying22 Try.underlying9 (by kernel_rfl) h1 w1
  have b2 := len_bulk Try.underlying22 Try.underlying9 (by kernel_rfl) h2 w2
  have hb := of_decide_eq_true hk
  simp only [List.append_nil, Rows.uptoBulkAll] at hb
  have b0 : Rows.uptoBulk (DataW.lit (H := H) (.string a0.data.toList)) = a0.size + 1 := by simp only [Rows.uptoBulk]; rw [size_list]
  rw [b0] at hb
  clear hA0
  refine (walk a0 v1 z1 v2 z2 W (by omega) w1 w2 (by omega)).mono fun e W' ⟨he, bel⟩ => ?_
  subst he
  exact ⟨_, rfl, _, _, _, [], _, [], hW', trodAll_mk1 (shut_bool Try.underlying4 _), (trodAll_cons_mk (shut_string Try.underlying9 w0') (trodAll_cons_mk (Below.trod laidOut (by kernel_rfl) (of_decide_eq_true (by kernel_rfl)) k1 bel lt1) (trodAll_cons_mk (Below.trod laidOut (by kernel_rfl) (of_decide_eq_true (by kernel_rfl)) k2 bel lt2) trodAll_mk0))), rfl, bel.frame _, fun h => by cases h⟩

set_option maxRecDepth 100000 in
theorem lifted (os : Os) (started : os.Started) (H : Type) (enc : TypeId × Value → H) (F : Stop.Interp) :
    ReturnsInHanded {} Try.checked os 3 .any ((Rows.OpenSpec.upto Rows.nameTellsSpec).pre6 enc Try.prog Try.f3 Rows.nameTellsUptoRow.domain false) (((Rows.OpenSpec.upto Rows.nameTellsSpec).at F).post enc Try.prog Try.f3 false true false false) := by
  refine returnsInHanded_of_cond_sized (C := Try.checked) (s := Rows.OpenSpec.upto Rows.nameTellsSpec) (k := Rows.uptoSmall) rfl own started (by kernel_rfl) Try.func3
    (OpenSpec.witness (enc := enc) (C := Try.checked) (s := Rows.OpenSpec.upto Rows.nameTellsSpec) (k := Rows.uptoSmall) rfl false ⟨#[], #[.string ByteArray.empty, .slice none 0 0, .slice none 0 0], []⟩ 8 (by kernel_rfl) (by kernel_rfl) (by kernel_rfl)
      (x := ([.lit (.string []), .nil, .nil], [], [])) (by kernel_rfl) rfl (by kernel_rfl)) ?_
  intro W base args ds gs before hval hW _ hk hsz _
  exact contract H enc W base args ds gs before hval hW hk hsz

theorem over : Rows.nameTellsUptoRow.holds Try.pinned (Rows.OpenSpec.upto Rows.nameTellsSpec) :=
  OpenClaim.holds_of_cond 3 Try.f3 rfl rfl rfl rfl rfl rfl rfl ⟨rfl, rfl, rfl, rfl, rfl⟩ rfl rfl rfl rfl rfl (by kernel_rfl) Try.func3 (by kernel_rfl)
    (of_decide_eq_true (by kernel_rfl)) (by unfold Func.isWrapper; first | (rw [if_pos (by decide +kernel)]; kernel_rfl) | (rw [if_neg (by decide +kernel)]; exact ⟨rfl, rfl⟩))
    (fun os started H enc _ F => lifted os started H enc F)

theorem proved : Rows.NameTellsUptoSaid :=
  over
#print axioms proved
end Go.Proofs.Ytpfpcjgbjfpbbaa.nameTells
