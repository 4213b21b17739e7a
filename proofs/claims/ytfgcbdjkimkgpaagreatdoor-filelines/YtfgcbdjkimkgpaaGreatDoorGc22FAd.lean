/-
  Package file's addLine. Condition: the strings have at most 2^32 bytes.
  Package file's Parse. Condition: the strings have at most 2^32 bytes.
  That package file is alive. No condition.
-/
import Derived.Test.YtfgcbdjkimkgpaaGreatDoorGc21FAp
import Derived.Test.YtfgcbdjkimkgpaaGreatDoorGc12NApp
import Derived.Deep.RegionHeld3
import Derived.Test.YtfgcbdjkimkgpaaGreatDoorGc13RPar
import Derived.Test.YtfgcbdjkimkgpaaGreatDoorGc11FRd
namespace Go.Proofs.YtfgcbdjkimkgpaaGreatDoor
set_option maxRecDepth 100000
set_option linter.unusedVariables false
open Go.ChangeShapes Go.WideShapes Go.ChangeAt Go.RowKit

theorem cell_two' (w : World) (x y : Value) (t : TypeId) (N : Nat) (hN : N = w.heap.size) : ∀ j u, [x, y][j]? = some u → (w.alloc (.cells #[x, y] t)).cell? ((⟨N, 0, none⟩ : Addr).add j) = some u := by
  subst hN; exact two_new w x y t
/-- a rule appended to a row of rules -/
theorem app_rule {w : World} {B N n : Nat} {v x y : Value} {xs : List Value} (hown : w.ownsRow B 82 2 v n xs) (hx : x.oneCell' = true) (hy : y.oneCell' = true) (hN : N = w.heap.size) (hn : n ≤ 2932031007316) (hB : B ≤ w.heap.size) :
    ∃ v' w', (Builtin.append_ #[34, 34] 34 #[v, .slice (some ⟨N, 0, none⟩) 1 1]).run Tryz.prog (w.alloc (.cells #[x, y] 82)) = .ok v' w' ∧
      w'.ownsRow B 82 2 v' (n + 1) (xs ++ [x, y]) ∧ (w.alloc (.cells #[x, y] 82)).grownBy w' v.ownBlock := by
  obtain ⟨j0, ji, jz0, jz1, jz2⟩ := info_parts infoRl
  obtain ⟨v', w', h1, h2, h3, _⟩ := run_append_own (P := Tryz.prog) (w.alloc (.cells #[x, y] 82)) B 34 34 82 j0 (.agg #[.slice none 0 0, .slice none 0 0]) 2 48 Tryz.underlying34 ji jz0 jz1 jz2 rfl (by decide) v n xs (hown.alloc _)
    ⟨N, 0, none⟩ 1 1 [x, y] rfl (cell_two' w x y 82 N hN) (by intro u hu; simp at hu; rcases hu with rfl | rfl <;> assumption) (by unfold maxLen; omega) (by omega) (by simp; omega)
  exact ⟨v', w', h1, h2, h3⟩
theorem SO.one {B : Nat} {v : Value} {z : List Str} {w : World} (h : SO B v z w) : v.oneCell' = true := by
  rcases h.2 with ⟨rfl, _⟩ | ⟨g, cap, cur, rfl, _⟩ <;> rfl
variable {B k : Nat} {z : List Mc} {st : St} {vm vp vi vr : Value} {c : List (Value × Value)} {w : World}
theorem own_len {w : World} {B : Nat} {e : TypeId} {s n : Nat} {v : Value} {xs : List Value} (h : w.ownsRow B e s v n xs) : ∃ a c, v = .slice a n c := by
  rcases h.2 with ⟨h, h0⟩ | ⟨g, cap, cur, h, _⟩
  · exact ⟨none, 0, by rw [h, h0]⟩
  · exact ⟨_, _, h⟩
theorem addU_lenI (l : List Mc) (x : Mc) : (addU l x).length ≤ l.length + 1 := by
  unfold addU; split <;> simp
theorem parse_fine {s : Str} (h : (parseR s).2 = 0) : chkR (parseR s).1 = 0 := by
  unfold parseR at *
  cases hc : colon s with
  | none => rw [hc] at h; cases h
  | some p =>
    rw [hc] at h
    simp only [] at h ⊢
    split at h
    · rename_i h1; rw [if_pos h1]; exact h1
    · rename_i h1; exact absurd h h1
/-- what addLine hands back -/
def AdPost (B k : Nat) (z : List Mc) (vm : Value) (a : Int × St) (w : World) (e : Ending) (w' : World) : Prop :=
  e = .returned (.int .i64 a.1) ∧ Below B w w' ∧ (a.1 = 0 → ∃ vp vi vr c, FIs B k z a.2 vm vp vi vr c w')
set_option maxHeartbeats 16000000 in
theorem addLine_any (s : Str) (h : FIs B k z st vm vp vi vr c w) (hp : st.1.length ≤ 20) (hi : st.2.1.length < 200) (hs : s.length ≤ 4294967296) (hx : ∀ m ∈ z, m.1.length ≤ maxLen ∧ m.2.length ≤ 4294967296) :
    Calls Tryz.prog 52 #[.pointer (some ⟨k, 0, none⟩), .string (bs s)] w (AdPost B k z vm (addL z st s) w) := by
  have c0 := h.blk.cell (i := 0) rfl
  have EX := Lib.hid (exp_any z s vm w (McIn.own h.mac (by have := h.bnd.1; omega)) hx hs)
  have HH := Lib.hid h
  have HB := Lib.hid h.base
  have HP := Lib.hid hp
  have HI := Lib.hid hi
  clear h hs hx hp hi
  go_enter Tryz.func52, Tryz.ntmps52
  go_wp2_with fail
  refine EX.out.mono ?_
  intro e w1 h1
  obtain ⟨hb1, a, E, rfl, hA⟩ := ans_of h1
  have B1 : Hid (Below w.heap.size w w1) := hb1
  have W1 : Hid (Below B w w1) := hb1.mono HB.out
  have XE := Lib.hid (expR_eq hA)
  have AL := Lib.hid (ans_len hA)
  clear h1 hb1 hA EX
  by_cases hE : E = 0
  · subst hE
    have AD : Hid (addL z st s = if (parseR a).2 ≠ 0 then ((parseR a).2, st) else putL st (parseR a).1) := by show _ = _; unfold addL; rw [XE.out]; rfl
    have PA := Lib.hid (parseO_any (bs a) w1 (by rw [bs_size]; have := AL.out; omega))
    rw [bs_list] at PA
    go_wp2_with fail
    refine PA.out.mono ?_
    rintro e w2 ⟨vt, vn, rfl, ot, on', hap, hb2⟩
    have B2 : Hid (Below w.heap.size w w2) := B1.out.trans (hb2.mono B1.out.size)
    have PF : Hid ((parseR a).2 = 0 → chkR (parseR a).1 = 0) := parse_fine
    generalize parseR a = R at *
    obtain ⟨⟨t, n⟩, E2⟩ := R
    dsimp only at ot on' AD PF
    have OT := Lib.hid (so_base ot B1.out.size); have ON := Lib.hid (so_base on' B1.out.size); have AP := Lib.hid hap
    obtain ⟨at', ct, rfl⟩ := ot.len
    obtain ⟨an, cn, rfl⟩ := on'.len
    have ba : Below w2.heap.size w2 (w2.alloc (.cells #[.slice at' t.length ct, .slice an n.length cn] 82)) := (Below.refl _ _).alloc (Nat.le_refl _) _
    have B3 : Hid (Below w.heap.size w (w2.alloc (.cells #[.slice at' t.length ct, .slice an n.length cn] 82))) := B2.out.trans (ba.mono B2.out.size)
    have S3 := Lib.hid (blk_new w2 #[.slice at' t.length ct, .slice an n.length cn] 82)
    have OT3 := Lib.hid (own_later OT.out ba); have ON3 := Lib.hid (own_later ON.out ba)
    have F3 := Lib.hid (HH.out.later B3.out)
    obtain ⟨d0, d1⟩ := show _ ∧ _ from ⟨S3.out.cell (i := 0) rfl, S3.out.cell (i := 1) rfl⟩
    have W3 : Hid (Below B w (w2.alloc (.cells #[.slice at' t.length ct, .slice an n.length cn] 82))) := B3.out.mono HB.out
    clear ba ot on' hap hb2 PA OT ON c0
    obtain ⟨w3, hw3⟩ : ∃ w3, w3 = w2.alloc (.cells #[.slice at' t.length ct, .slice an n.length cn] 82) := ⟨_, rfl⟩
    have W2S : Hid (w3.heap.size = w2.heap.size + 1) := by rw [hw3]; show _ = _; simp
    by_cases hE2 : E2 = 0
    · subst hE2
      have AD2 : Hid (addL z st s = putL st (t, n)) := AD.out
      have CK := PF.out rfl
      obtain ⟨k1, k2, k3, k4, k5⟩ := chk_ok CK
      have K1 := Lib.hid k1; have K2 := Lib.hid k2; have K4 := Lib.hid k4; have K5 := Lib.hid k5
      dsimp only at k1 k2
      have ST3 : Hid (SIn w3 (.slice at' t.length ct) t) := by rw [hw3]; exact SIn.own OT3.out (by omega) (small_all k4)
      have SN3 : Hid (SIn w3 (.slice an n.length cn) n) := by rw [hw3]; exact SIn.own ON3.out (by omega) (small_all k5)
      have CO := Lib.hid (contains_of ST3.out phonyW)
      rw [hw3] at CO
      go_wp2_with fail
      refine (show Calls Tryz.prog 86 #[.slice at' t.length ct, .string (ByteArray.mk #[46, 80, 72, 79, 78, 89])] _ _ from CO.out).mono ?_
      rintro e w4 ⟨rfl, rfl⟩
      rw [← hw3] at S3 OT3 ON3 F3 W3 B3 d0 d1 ⊢
      clear hw3 CO
      have LT : Hid (∀ j, vp.ownBlock = some j → j < w.heap.size) := fun j hj => (HH.out.pho.lt j hj).2
      have LB : Hid (∀ (v : Value) (m : Nat) (xs : List Value), w3.ownsRow w.heap.size 9 1 v m xs → Apart v vp) := fun v m xs h j hj e => by have := (h.lt j hj).1; have := LT.out j e; omega
      cases hq : decide (phonyW ∈ t)
      · have AD3 : Hid (addL z st s = match infR (t, n) with
            | some p => (0, (st.1, addU st.2.1 p, st.2.2))
            | none => if 100 < st.2.2.length + 1 then (2, st) else (0, (st.1, st.2.1, st.2.2 ++ [(t, n)]))) := by show _ = _; rw [AD2.out, putL, contains_dec, hq, if_neg (by decide)]; cases infR (t, n) <;> rfl
        have IA := Lib.hid (inf_any t n _ _ w3 ST3.out SN3.out K4.out)
        clear hq AD AD2 CK k1 k2 k3 k4 k5 ST3 SN3 PF
        go_wp2_with fail
        refine IA.out.mono ?_
        rintro e w4 ⟨rfl, hb4⟩
        have B4 : Hid (Below w.heap.size w w4) := B3.out.trans (hb4.mono B3.out.size)
        have S4 := Lib.hid (S3.out.later hb4)
        have OT4 := Lib.hid (own_later OT3.out hb4); have ON4 := Lib.hid (own_later ON3.out hb4)
        have F4 := Lib.hid (F3.out.later hb4)
        have IFT : Hid (∀ p, infR (t, n) = some p → p = (iF (t, n), iT (t, n))) := fun p h => by unfold iF iT; rw [h]; rfl
        have SZ : Hid (w.heap.size ≤ w4.heap.size) := B4.out.size
        clear hb4 IA d0 d1 S3 OT3 ON3 F3 B3 W3
        generalize iF (t, n) = xf at *
        generalize iT (t, n) = xt at *
        have ba : Below w4.heap.size w4 (w4.alloc (.cells #[.string (bs xf), .string (bs xt)] 74)) := (Below.refl _ _).alloc (Nat.le_refl _) _
        have B5 : Hid (Below w.heap.size w (w4.alloc (.cells #[.string (bs xf), .string (bs xt)] 74))) := B4.out.trans (ba.mono B4.out.size)
        have T5 := Lib.hid (blk_new w4 #[.string (bs xf), .string (bs xt)] 74)
        have S5 := Lib.hid (S4.out.later ba)
        have OT5 := Lib.hid (own_later OT4.out ba); have ON5 := Lib.hid (own_later ON4.out ba)
        have F5 := Lib.hid (F4.out.later ba)
        clear ba B4 S4 OT4 ON4 F4
        obtain ⟨d0, d1⟩ := show _ ∧ _ from ⟨S5.out.cell (i := 0) rfl, S5.out.cell (i := 1) rfl⟩
        obtain ⟨t0, t1⟩ := show _ ∧ _ from ⟨T5.out.cell (i := 0) rfl, T5.out.cell (i := 1) rfl⟩
        obtain ⟨fc2, fc3⟩ := show _ ∧ _ from ⟨F5.out.blk.cell (i := 2) rfl, F5.out.blk.cell (i := 3) rfl⟩
        cases hz : (infR (t, n)).isSome
        · have hn0 : infR (t, n) = none := by
            cases h : infR (t, n) with
            | none => rfl
            | some p => rw [h] at hz; cases hz
          rw [hn0] at AD3
          clear hz hn0 IFT t0 t1 T5 fc2
          go_wp2_with fail
          obtain ⟨w5, hw5⟩ : ∃ w5, w5 = w4.alloc (.cells #[.string (bs xf), .string (bs xt)] 74) := ⟨_, rfl⟩
          rw [← hw5] at B5 S5 OT5 ON5 F5 d0 d1 fc3 ⊢
          clear hw5
          have bd : Below w5.heap.size w5 w5.drew := Below.drew (Below.refl _ _)
          have F6 := Lib.hid (F5.out.later bd)
          have B6 : Hid (Below w.heap.size w w5.drew) := B5.out.trans (bd.mono B5.out.size)
          have OT6 := Lib.hid (own_later OT5.out bd); have ON6 := Lib.hid (own_later ON5.out bd)
          have RL : Hid (st.2.2.length ≤ 100) := F5.out.bnd.2.2.2
          obtain ⟨v6, w6, r6, o6, g6⟩ := app_rule (w := w5.drew) (N := w5.heap.size) (x := .slice at' t.length ct) (y := .slice an n.length cn) F6.out.rul.2.1 rfl rfl rfl (by have := RL.out; omega) F6.out.base
          obtain ⟨a6, c6, rfl⟩ := own_len o6
          have ba : Below w5.heap.size w5 (w5.alloc (.cells #[.slice at' t.length ct, .slice an n.length cn] 82)) := (Below.refl _ _).alloc (Nat.le_refl _) _
          have fc4 := cell_later ba fc3
          have bd2 : Below w5.drew.heap.size w5.drew (w5.drew.alloc (.cells #[.slice at' t.length ct, .slice an n.length cn] 82)) := (Below.refl _ _).alloc (Nat.le_refl _) _
          have B7 : Hid (Below w.heap.size w (w5.drew.alloc (.cells #[.slice at' t.length ct, .slice an n.length cn] 82))) := B6.out.trans (bd2.mono B6.out.size)
          have OT7 := Lib.hid (own_later OT6.out bd2); have ON7 := Lib.hid (own_later ON6.out bd2)
          have F7 := Lib.hid (F6.out.later bd2)
          have hk := blk_kept F7.out.blk F7.out.rul.2.1 (by decide) g6
          have k3 := hk.cell (i := 3) rfl
          have k5 := hk.free 3
          have R6 := Lib.hid r6; have O6 := Lib.hid o6; have G6 := Lib.hid g6
          have W8 : Hid (Below B w (w6.setCell ⟨k, 3, none⟩ (.slice a6 (st.2.2.length + 1) c6))) := ((B7.out.mono HB.out).grown G6.out (Nat.le_trans HB.out B7.out.size) (fun j hj => (F7.out.rul.2.1.lt j hj).1)).setCell HH.out.lo _
          clear bd ba bd2 r6 o6 g6 hk
          by_cases h9 : 100 < st.2.2.length + 1
          · have AD4 : Hid (addL z st s = (2, st)) := by show _ = _; rw [AD3.out, if_pos h9]
            clear AD3
            generalize st.2.2.length = lr at *
            go_region_law (refine step_append_run rfl (.tmp 55) (.tmp 57) 34 rfl vr (.slice (some ⟨w5.heap.size, 0, none⟩) 1 1) (by simp [Act.eval]) (by simp [Act.eval]) (.slice a6 (lr + 1) c6) w6 R6.out ?_)
            all_goals go_wp2
            all_goals go_ret
            all_goals exact ⟨by rw [AD4.out]; rfl, W8.out, fun e => by rw [AD4.out] at e; cases e⟩
          · have AD4 : Hid (addL z st s = (0, (st.1, st.2.1, st.2.2 ++ [(t, n)]))) := by show _ = _; rw [AD3.out, if_neg h9]
            have N6 := Lib.hid (HH.out.rules B7.out OT7.out ON7.out AP.out G6.out O6.out (by omega))
            clear AD3
            generalize st.2.2.length = lr at *
            go_region_law (refine step_append_run rfl (.tmp 55) (.tmp 57) 34 rfl vr (.slice (some ⟨w5.heap.size, 0, none⟩) 1 1) (by simp [Act.eval]) (by simp [Act.eval]) (.slice a6 (lr + 1) c6) w6 R6.out ?_)
            all_goals go_wp2
            all_goals go_ret
            all_goals exact ⟨by rw [AD4.out]; rfl, W8.out, fun e => by rw [AD4.out]; exact ⟨_, _, _, _, N6.out⟩⟩
        · obtain ⟨p, hp⟩ := Option.isSome_iff_exists.1 hz
          have := IFT.out p hp
          subst this
          rw [hp] at AD3
          clear hz hp IFT d0 d1 S5 OT5 ON5 fc3
          go_wp2_with fail
          obtain ⟨w5, hw5⟩ : ∃ w5, w5 = w4.alloc (.cells #[.string (bs xf), .string (bs xt)] 74) := ⟨_, rfl⟩
          rw [← hw5] at B5 T5 F5 t0 t1 fc2 ⊢
          clear hw5
          have bd : Below w5.heap.size w5 w5.drew := Below.drew (Below.refl _ _)
          have F6 := Lib.hid (F5.out.later bd)
          have T6 := Lib.hid (T5.out.later bd)
          have B6 : Hid (Below w.heap.size w w5.drew) := B5.out.trans (bd.mono B5.out.size)
          have AI := Lib.hid (appI_any xf xt st.2.1 vi w5.drew F6.out.inf F6.out.base (by have := HI.out; omega))
          have NV : Hid (some w4.heap.size ≠ vi.ownBlock) := fun e => by have h1 := (HH.out.inf.lt _ e.symm).2; have h2 := SZ.out; omega
          have NK : Hid (w4.heap.size ≠ k) := fun e => by have h1 := HH.out.blk.lt; have h2 := SZ.out; omega
          clear bd
          go_region_law (first
            | (go_simp
               go_at_call 89
               refine AI.out.mono ?_
               rintro e w6 ⟨v6, rfl, o6, g6, ow6⟩
               obtain ⟨a6, n6, c6, rfl⟩ := own_shape o6
               have hk := blk_kept F6.out.blk F6.out.inf (by decide) g6
               have ht := T6.out.at (g6.block _ T6.out.lt NV.out)
               have k2 := hk.cell (i := 2) rfl
               have k5 := hk.free 2
               have k3 := ht.cell (i := 0) rfl
               have k4 := ht.cell (i := 1) rfl
               have N6 := Lib.hid (F6.out.pairs o6 g6 (by have := addU_lenI st.2.1 (xf, xt); have := HI.out; omega))
               have G6 := Lib.hid g6
               clear o6 g6 ow6 hk ht))
          all_goals
            have W7 : Hid (Below B w (w6.setCell ⟨k, 2, none⟩ (.slice a6 n6 c6))) := ((B6.out.mono HB.out).grown G6.out (Nat.le_trans HB.out B6.out.size) (fun j hj => (F6.out.inf.lt j hj).1)).setCell HH.out.lo _
            go_wp2
            go_ret
            exact ⟨by rw [AD3.out]; rfl, W7.out, fun _ => by rw [AD3.out]; exact ⟨_, _, _, _, N6.out⟩⟩
      · have AD3 : Hid (addL z st s = phL st (t, n)) := by show _ = _; rw [AD2.out, putL, contains_dec, hq, if_pos rfl]; rfl
        have PH := Lib.hid (phony_any (w := w3) t n _ _ F3.out HP.out ST3.out ON3.out (LB.out _ _ _ ON3.out) K2.out K5.out)
        clear hq AD AD2 CK k1 k2 k3 k4 k5 ST3 SN3 PF
        go_wp2_with fail
        refine PH.out.mono ?_
        rintro e w4 ⟨rfl, hb4, f4⟩
        have W4 : Hid (Below B w w4) := W3.out.trans hb4
        have F4 := Lib.hid f4
        clear hb4 f4 PH d0 d1
        go_wp2
        go_ret
        refine ⟨by rw [AD3.out]; rfl, W4.out, fun e => ?_⟩
        rw [AD3.out] at e ⊢
        obtain ⟨v, hv⟩ := F4.out e
        exact ⟨v, _, _, _, hv⟩
    · have AE : Hid (addL z st s = (E2, st)) := by show _ = _; rw [AD.out, if_pos hE2]
      have z1 : (E2 != 0) = true := by rw [bne_iff_ne]; exact hE2
      have HE := Lib.hid hE2
      clear AD hE2 hw3 PF F3 OT3 ON3
      go_wp2
      go_ret
      exact ⟨by rw [AE.out]; rfl, W3.out, fun e => by rw [AE.out] at e; exact absurd e HE.out⟩
  · have AE : Hid (addL z st s = (E, st)) := by show _ = _; unfold addL; rw [XE.out, if_pos hE]
    have z1 : (E != 0) = true := by rw [bne_iff_ne]; exact hE
    have HE := Lib.hid hE
    clear hE
    go_wp2
    go_ret
    exact ⟨by rw [AE.out]; rfl, W1.out, fun e => by rw [AE.out] at e; exact absurd e HE.out⟩
end Go.Proofs.YtfgcbdjkimkgpaaGreatDoor
namespace Go.Proofs.YtfgcbdjkimkgpaaGreatDoor
set_option maxRecDepth 100000
set_option linter.unusedVariables false
open Go.ChangeShapes Go.WideShapes Go.ChangeAt Go.RowKit

theorem ROb.rin {B : Nat} {v : Value} {z : List Rl} {w : World} {c : List (Value × Value)} (h : ROb B v z w c) (hn : z.length ≤ 2932031007317) (hx : ∀ r ∈ z, chkR r = 0) : RIn w v z := by
  obtain ⟨hcl, ho, he, _⟩ := h
  rcases ho.2 with ⟨hv, h0⟩ | ⟨g, cap, cur, hv, hb, hg, hc, hm, hs, ht⟩
  · have : z = [] := List.length_eq_zero_iff.1 h0
    subst this
    exact ⟨none, 0, hv, Nat.le_refl _, Nat.zero_le _, Nat.zero_le _, .inl rfl⟩
  · refine ⟨_, cap, hv, hc, hm, hn, .inr ⟨g, 0, rfl, ?_, fun k => (c.getD k (.slice none 0 0, .slice none 0 0)).1, fun k => (c.getD k (.slice none 0 0, .slice none 0 0)).2, fun k hk => ?_⟩⟩
    · rcases Nat.lt_or_ge g w.heap.size with h' | h'
      · exact h'
      · simp [Array.getElem?_eq_none h'] at hg
    · have hkc : k < c.length := by omega
      have hp := List.getElem?_eq_getElem hkc
      have hcs := ho.cells (g := g) (by rw [hv]; rfl)
      obtain ⟨h1, h2⟩ := rcells_at c k _ hp
      have e1 := hcs _ _ h1
      have e2 := hcs _ _ h2
      rw [add_off] at e1 e2
      obtain ⟨q1, q2⟩ := he k _ hp
      obtain ⟨b1, b2, _, b3, b4⟩ := chk_ok (hx _ (rl_mem hk))
      have hgd : c.getD k (.slice none 0 0, .slice none 0 0) = c[k] := by rw [List.getD, hp]; rfl
      simp only [hgd, Nat.zero_add]
      dsimp only at b1 b2
      exact ⟨e1, e2, SIn.own q1 (by omega) (small_all b3), SIn.own q2 (by omega) (small_all b4)⟩
/-- a file in memory -/
structure FIn (w : World) (vm vp vi vr : Value) (F : Fil) : Prop where
  mac : McIn w vm F.1
  pho : SIn w vp F.2.1
  inf : McIn w vi F.2.2.1
  rul : RIn w vr F.2.2.2
theorem FIn.later {w w' : World} {vm vp vi vr : Value} {F : Fil} (h : FIn w vm vp vi vr F) (hb : Below w.heap.size w w') : FIn w' vm vp vi vr F := ⟨h.mac.later hb, h.pho.later hb, h.inf.later hb, h.rul.later hb⟩
theorem mcin_nil (w : World) : McIn w (.slice none 0 0) [] := ⟨none, 0, rfl, Nat.le_refl _, Nat.zero_le _, Nat.zero_le _, .inl rfl⟩
theorem rin_nil (w : World) : RIn w (.slice none 0 0) [] := ⟨none, 0, rfl, Nat.le_refl _, Nat.zero_le _, Nat.zero_le _, .inl rfl⟩
theorem FIn.nil (w : World) : FIn w (.slice none 0 0) (.slice none 0 0) (.slice none 0 0) (.slice none 0 0) ([], [], [], []) := ⟨mcin_nil w, sin_none w, mcin_nil w, rin_nil w⟩
/-- the file's rows -/
def FR (B : Nat) (z : List Mc) (st : St) (vm vp vi vr : Value) (c : List (Value × Value)) (w : World) : Prop := MO B vm z w ∧ SO B vp st.1 w ∧ IO B vi st.2.1 w ∧ ROb B vr st.2.2 w c
theorem FR.set {B R i : Nat} {z : List Mc} {st : St} {vm vp vi vr u : Value} {c : List (Value × Value)} {w : World} {ys : Array Value} (h : FR B z st vm vp vi vr c w) (hk : Blk R ys 36 w) : FR B z st vm vp vi vr c (w.setCell ⟨R, i, none⟩ u) :=
  ⟨set_blk h.1 hk (by decide) _, set_blk h.2.1 hk (by decide) _, set_blk h.2.2.1 hk (by decide) _, h.2.2.2.set hk⟩
theorem FR.fin {B : Nat} {z : List Mc} {st : St} {vm vp vi vr : Value} {c : List (Value × Value)} {w : World} (h : FR B z st vm vp vi vr c w) (hb : z.length ≤ 200 ∧ st.1.length ≤ 40 ∧ st.2.1.length ≤ 200 ∧ st.2.2.length ≤ 100) (hs : ∀ y ∈ st.1, y.length ≤ 40) (hr : ∀ r ∈ st.2.2, chkR r = 0) : FIn w vm vp vi vr (z, st) :=
  ⟨McIn.own h.1 (by show z.length ≤ _; omega), SIn.own h.2.1 (by show st.1.length ≤ _; omega) (fun x hx => by have := hs x hx; omega), McIn.ownI h.2.2.1 (by show st.2.1.length ≤ _; omega), h.2.2.2.rin (by show st.2.2.length ≤ _; omega) hr⟩

theorem results_cell_tmp2 {fn : Func} {p u q : Tmp} {ty : TypeId} (h : fn.results = #[.cell p ty, .tmp u, .tmp q]) (tmps : Array Value) (P : Program) (w : World) :
    (results fn tmps).run P w =
      ((asAddr (tmps.getD p undef)).run P w).andThen fun a w₁ => ((loadVar ty a).run P w₁).andThen fun v w₂ => .ok (.tuple #[v, tmps.getD u undef, tmps.getD q undef]) w₂ := by
  simp only [results, h]
  simp [Sem.run_bind, Result.andThen]
theorem addL_inv {z : List Mc} {st : St} {s : Str} (h : (addL z st s).1 = 0) (h1 : st.1.length ≤ 20) (h2 : ∀ r ∈ st.2.2, chkR r = 0) :
    (addL z st s).2.1.length ≤ 20 ∧ (addL z st s).2.2.1.length ≤ st.2.1.length + 1 ∧ ∀ r ∈ (addL z st s).2.2.2, chkR r = 0 := by
  unfold addL at *
  by_cases e1 : (expR z s).2 ≠ 0
  · rw [if_pos e1] at h ⊢; exact absurd h e1
  rw [if_neg e1] at h ⊢
  by_cases e2 : (parseR (expR z s).1).2 ≠ 0
  · rw [if_pos e2] at h ⊢; exact absurd h e2
  rw [if_neg e2] at h ⊢
  have pf := parse_fine (s := (expR z s).1) (by simpa using e2)
  generalize (parseR (expR z s).1).1 = r at *
  unfold putL at *
  by_cases e3 : r.1.contains phonyW = true
  · rw [if_pos e3] at h ⊢
    by_cases e4 : 1 < r.1.length
    · rw [if_pos e4] at h; cases h
    rw [if_neg e4] at h ⊢
    by_cases e5 : 20 < (phN st.1 r.2).length
    · rw [if_pos e5] at h; cases h
    rw [if_neg e5]
    exact ⟨by show (phN st.1 r.2).length ≤ 20; omega, by show st.2.1.length ≤ _; omega, h2⟩
  · rw [if_neg e3] at h ⊢
    cases hi : infR r with
    | some p => exact ⟨h1, addU_lenI _ _, h2⟩
    | none =>
      rw [hi] at h
      simp only [] at h ⊢
      by_cases e5 : 100 < st.2.2.length + 1
      · rw [if_pos e5] at h; cases h
      rw [if_neg e5]
      refine ⟨h1, by show st.2.1.length ≤ _; omega, fun q hq => ?_⟩
      rcases List.mem_append.1 hq with hq | hq
      · exact h2 q hq
      · rw [List.mem_singleton.1 hq]; exact pf
/-- what Parse hands back -/
def PaPost (l : List Str) (w : World) (e : Ending) (w' : World) : Prop :=
  Below w.heap.size w w' ∧ ∃ vm vp vi vr, e = .returned (.tuple #[.agg #[vm, vp, vi, vr], .int .i64 ((parseF l).2.1 : Int), .int .i64 (parseF l).2.2]) ∧ FIn w' vm vp vi vr (parseF l).1
theorem PaPost.bad {l : List Str} {w w' : World} {n : Nat} {E : Int} (h : parseF l = (([], [], [], []), n, E)) (hb : Below w.heap.size w w') : PaPost l w (.returned (.tuple #[.agg #[.slice none 0 0, .slice none 0 0, .slice none 0 0, .slice none 0 0], .int .i64 (n : Int), .int .i64 E])) w' := by
  refine ⟨hb, _, _, _, _, by rw [h], ?_⟩
  rw [h]; exact FIn.nil _
set_option maxHeartbeats 16000000 in
theorem parse_file (l : List Str) (v : Value) (w : World) (h : SIn w v l) (hx : ∀ x ∈ l, x.length ≤ 4294967296) :
    Calls Tryz.prog 19 #[v] w (PaPost l w) := by
  have b0 := blk_new w #[.slice none 0 0, .slice none 0 0, .slice none 0 0, .slice none 0 0] 36
  have ba : Below w.heap.size w (w.alloc (.cells #[.slice none 0 0, .slice none 0 0, .slice none 0 0, .slice none 0 0] 36)) := (Below.refl _ _).alloc (Nat.le_refl _) _
  have BA := Lib.hid ba
  have R0 := Lib.hid b0
  by_cases hl : 200 < l.length
  · have PB := Lib.hid (parseF_large hl)
    obtain ⟨a, cap, rfl⟩ := h.shape
    clear h hx b0 ba
    go_enter Tryz.func19, Tryz.ntmps19
    go_wp2
    (try simp only [Exit.inBlock, Exit.then])
    refine bodyPost_ret (v := .tuple #[.agg #[.slice none 0 0, .slice none 0 0, .slice none 0 0, .slice none 0 0], .int .i64 0, .int .i64 2]) ?_ rfl (PaPost.bad (n := 0) PB.out BA.out)
    rw [results_cell_tmp2 rfl]; go_simp
  · have hl' : l.length ≤ 200 := by omega
    have DA := Lib.hid (defs_any l v _ (h.later ba) hx (by omega))
    have HX : Hid (∀ m ∈ defsR l, m.1.length ≤ maxLen ∧ m.2.length ≤ 4294967296) := fun m hm => by
      obtain ⟨s, hs, e⟩ := List.mem_filterMap.1 hm
      have h1 := defR_len e
      have h2 := hx s hs
      exact ⟨by unfold maxLen; omega, by omega⟩
    have ZL : Hid ((defsR l).length ≤ 200) := by have := defs_len l; show _ ≤ _; omega
    have HS := Lib.hid h
    have HL := Lib.hid hx
    have PG := Lib.hid (parseF_go hl)
    have PF : Hid (∀ E, XErr (defsR l) E → parseF l = (([], [], [], []), 0, E)) := fun E hE => parseF_flat hl hE
    have S0 : Hid ((w.alloc (.cells #[.slice none 0 0, .slice none 0 0, .slice none 0 0, .slice none 0 0] 36)).heap.size = w.heap.size + 1) := by show _ = _; simp
    obtain ⟨a, cap, rfl⟩ := h.shape
    clear h hx b0 ba hl
    go_enter Tryz.func19, Tryz.ntmps19
    go_wp2_with fail
    refine DA.out.mono ?_
    rintro e w2 ⟨vm, rfl, om, hb2⟩
    obtain ⟨w1, hw1⟩ : ∃ w1, w1 = w.alloc (.cells #[.slice none 0 0, .slice none 0 0, .slice none 0 0, .slice none 0 0] 36) := ⟨_, rfl⟩
    rw [← hw1] at om hb2 BA R0 S0
    rw [S0.out] at om hb2
    clear hw1 DA
    have B2 : Hid (Below (w.heap.size + 1) w1 w2) := hb2
    have OM := Lib.hid om
    have R2 : Hid (Blk w.heap.size #[.slice none 0 0, .slice none 0 0, .slice none 0 0, .slice none 0 0] 36 w2) := R0.out.at (hb2.block _ (by omega))
    obtain ⟨am, cm, rfl⟩ := own_len om
    have ba : Below w2.heap.size w2 (w2.alloc (.cells #[.slice am (defsR l).length cm, .slice none 0 0, .slice none 0 0, .slice none 0 0] 36)) := (Below.refl _ _).alloc (Nat.le_refl _) _
    have WS : Hid (w.heap.size + 1 ≤ w2.heap.size) := by have := hb2.size; have := S0.out; show _ ≤ _; omega
    have F3 : Hid (FIs (w.heap.size + 1) w2.heap.size (defsR l) ([], [], []) (.slice am (defsR l).length cm) (.slice none 0 0) (.slice none 0 0) (.slice none 0 0) [] (w2.alloc (.cells #[.slice am (defsR l).length cm, .slice none 0 0, .slice none 0 0, .slice none 0 0] 36))) :=
      ⟨blk_new _ _ _, own_later om ba, World.ownsRow_nil _ _ _ _, World.ownsRow_nil _ _ _ _, ⟨rfl, World.ownsRow_nil _ _ _ _, fun k p h => by simp at h, List.Pairwise.nil⟩, fun u hu => by simp [rcells] at hu, WS.out, ⟨ZL.out, by decide, by decide, by decide⟩, fun y hy => absurd hy List.not_mem_nil⟩
    have B3 : Hid (Below (w.heap.size + 1) w1 (w2.alloc (.cells #[.slice am (defsR l).length cm, .slice none 0 0, .slice none 0 0, .slice none 0 0] 36))) := hb2.trans (ba.mono WS.out)
    have FL := Lib.hid (flat_any (defsR l) (.slice am (defsR l).length cm) _ (McIn.own F3.out.mac (by have := ZL.out; omega)) HX.out)
    have ZZ : Hid ((defsR l).length = (defsR l).length) := rfl
    clear om hb2 ba
    generalize hz : defsR l = z at *
    have HZ := Lib.hid hz; clear hz
    go_wp2_with fail
    refine FL.out.mono ?_
    rintro e w4 ⟨hb4, h4⟩
    have B4 : Hid (Below (w.heap.size + 1) w1 w4) := B3.out.trans (hb4.mono (Nat.le_trans WS.out (by simp)))
    have F4 := Lib.hid (F3.out.later hb4)
    have R4 : Hid (Blk w.heap.size #[.slice none 0 0, .slice none 0 0, .slice none 0 0, .slice none 0 0] 36 w4) := R0.out.at (B4.out.block _ (by omega))
    clear hb4 FL
    obtain ⟨r0, r1, r2, r3⟩ := show _ ∧ _ ∧ _ ∧ _ from ⟨R4.out.cell (i := 0) rfl, R4.out.cell (i := 1) rfl, R4.out.cell (i := 2) rfl, R4.out.cell (i := 3) rfl⟩
    obtain ⟨p0, p1, p2, p3⟩ := show _ ∧ _ ∧ _ ∧ _ from ⟨R4.out.free 0, R4.out.free 1, R4.out.free 2, R4.out.free 3⟩
    have BW : Hid (∀ W, Below (w.heap.size + 1) w1 W → Below w.heap.size w W) := fun W hW => BA.out.trans (hW.mono (by omega))
    rcases h4 with ⟨hF, o, f, v4, ho, hE, hI, rfl⟩ | ⟨E, hE, rfl⟩
    · have FF := Lib.hid hF
      have PP := Lib.hid (PG.out hF)
      have HC : Hid (∀ j, j < l.length → ∃ b off, a = some ⟨b, off, none⟩ ∧ ∀ W, Below (w.heap.size + 1) w1 W → W.cell? ⟨b, off + j, none⟩ = some (.string (bs (l.getD j [])))) := fun j hj => by
        rcases HS.out.open with ⟨h0, _⟩ | ⟨_, b, off, cap', e, _, hlt, hc⟩
        · rw [h0] at hj; cases hj
        · injection e with e1 _ _
          exact ⟨b, off, e1, fun W hW => cell_later (BW.out W hW) (hc j hj)⟩
      have LD : Hid (∀ j, j < l.length → l.drop j = l.getD j [] :: l.drop (j + 1)) := fun j hj => by
        rw [List.drop_eq_getElem_cons hj, List.getD, List.getElem?_eq_getElem hj]; rfl
      have XL : Hid (∀ j, j < l.length → (l.getD j []).length ≤ 4294967296) := fun j hj => HL.out _ (getD_mem hj)
      clear hF ho hE hI PF PG r0 r1 r2 r3 p0 p1 p2 p3 HZ
      go_wp2_with fail
      go_loopw [32] (fun i wr => ∃ (j : Nat) (st : St) (vp vi vr : Value) (c : List (Value × Value)), j ≤ l.length ∧ i = .int .i64 (j : Int) ∧ FIs (w.heap.size + 1) w2.heap.size z st (.slice am z.length cm) vp vi vr c wr ∧ Below (w.heap.size + 1) w1 wr ∧ goL z 0 ([], [], []) l = goL z j st (l.drop j) ∧ st.1.length ≤ 20 ∧ st.2.1.length ≤ j ∧ ∀ r ∈ st.2.2, chkR r = 0) (fun i _ => l.length - (intOf i).toNat)
      case atStart => exact ⟨0, ([], [], []), _, _, _, _, Nat.zero_le _, rfl, F4.out, B4.out, rfl, by decide, by decide, fun r hr => absurd hr List.not_mem_nil⟩
      case round =>
        obtain ⟨j, st, vp, vi, vr, c, hj, rfl, q1, q2, q3, q4, q5, q6⟩ := hrel
        have Q1 := Lib.hid q1; have Q2 := Lib.hid q2; have Q3 := Lib.hid q3; have Q4 := Lib.hid q4; have Q5 := Lib.hid q5; have Q6 := Lib.hid q6
        clear q1 q2 q3 q4 q5 q6
        by_cases hj2 : j < l.length
        · obtain ⟨b, off, rfl, hc⟩ := HC.out j hj2
          have c1 := hc wr Q2.out
          have LJ := Lib.hid (LD.out j hj2)
          have XJ := Lib.hid (XL.out j hj2)
          generalize l.getD j [] = s at *
          clear hc
          have DF := Lib.hid (def_any s wr XJ.out)
          go_wp2_with fail
          refine DF.out.mono ?_
          rintro e w5 ⟨rfl, hb5⟩
          generalize dN s = xa at *
          generalize dV s = xb at *
          have ba : Below w5.heap.size w5 (w5.alloc (.cells #[.string (bs xa), .string (bs xb)] 72)) := (Below.refl _ _).alloc (Nat.le_refl _) _
          have bb := hb5.trans (ba.mono hb5.size)
          have F6 := Lib.hid (Q1.out.later bb)
          have WW : Hid (w.heap.size + 1 ≤ wr.heap.size) := Q1.out.base
          have B6 : Hid (Below (w.heap.size + 1) w1 (w5.alloc (.cells #[.string (bs xa), .string (bs xb)] 72))) := Q2.out.trans (bb.mono WW.out)
          clear hb5 ba bb DF
          cases hd : (defR s).isSome
          · have D0 : defR s = none := by
              cases h : defR s with
              | none => rfl
              | some m => rw [h] at hd; cases hd
            have G0 := Q3.out
            rw [LJ.out] at G0
            have AD := Lib.hid (addLine_any s F6.out Q4.out (by have := Q5.out; omega) XJ.out HX.out)
            by_cases hk : (addL z st s).1 = 0
            · rw [goL_step D0 hk] at G0
              have GG := Lib.hid G0
              obtain ⟨i1, i2, i3⟩ := addL_inv hk Q4.out Q6.out
              have I1 := Lib.hid i1; have I2 := Lib.hid i2; have I3 := Lib.hid i3
              have HK := Lib.hid hk
              clear G0 i1 i2 i3 hk hd D0
              go_wp2_with fail
              refine AD.out.mono ?_
              rintro e w7 ⟨rfl, hb7, f7⟩
              obtain ⟨vp', vi', vr', c', f7⟩ := f7 HK.out
              have F7 := Lib.hid f7
              have B7 : Hid (Below (w.heap.size + 1) w1 w7) := B6.out.trans hb7
              rw [HK.out]
              clear f7 hb7 AD
              go_wp2
              go_roundw
              case rel => exact ⟨j + 1, (addL z st s).2, vp', vi', vr', c', by omega, by go_num, F7.out, B7.out, GG.out, I1.out, by have := I2.out; have := Q5.out; omega, I3.out⟩
              case measure => simp [intOf]; omega
            · rw [goL_bad D0 hk] at G0
              have PE : Hid (parseF l = (([], [], [], []), j + 1, (addL z st s).1)) := by
                show _ = _
                rw [PP.out, G0, if_pos hk]
              have z1 : ((addL z st s).1 != 0) = true := by rw [bne_iff_ne]; exact hk
              clear G0 hk hd D0
              go_wp2_with fail
              refine AD.out.mono ?_
              rintro e w7 ⟨rfl, hb7, f7⟩
              have B7 : Hid (Below (w.heap.size + 1) w1 w7) := B6.out.trans hb7
              have R7 : Hid (Blk w.heap.size #[.slice none 0 0, .slice none 0 0, .slice none 0 0, .slice none 0 0] 36 w7) := R0.out.at (B7.out.block _ (by omega))
              clear f7 hb7 AD
              obtain ⟨r0, r1, r2, r3⟩ := show _ ∧ _ ∧ _ ∧ _ from ⟨R7.out.cell (i := 0) rfl, R7.out.cell (i := 1) rfl, R7.out.cell (i := 2) rfl, R7.out.cell (i := 3) rfl⟩
              obtain ⟨p0, p1, p2, p3⟩ := show _ ∧ _ ∧ _ ∧ _ from ⟨R7.out.free 0, R7.out.free 1, R7.out.free 2, R7.out.free 3⟩
              have BX : Hid (Below w.heap.size w ((((w7.setCell ⟨w.heap.size, 0, none⟩ (.slice none 0 0)).setCell ⟨w.heap.size, 1, none⟩ (.slice none 0 0)).setCell ⟨w.heap.size, 2, none⟩ (.slice none 0 0)).setCell ⟨w.heap.size, 3, none⟩ (.slice none 0 0))) := ((((BW.out _ B7.out).setCell (Nat.le_refl _) _).setCell (Nat.le_refl _) _).setCell (Nat.le_refl _) _).setCell (Nat.le_refl _) _
              generalize (addL z st s).1 = E at *
              go_wp2
              (try simp only [Exit.inBlock, Exit.then])
              refine bodyPost_ret (v := .tuple #[.agg #[.slice none 0 0, .slice none 0 0, .slice none 0 0, .slice none 0 0], .int .i64 ((j : Int) + 1), .int .i64 E]) ?_ rfl (PaPost.bad (n := j + 1) PE.out BX.out)
              rw [results_cell_tmp2 rfl]; go_simp
          · have G0 := Q3.out
            rw [LJ.out, goL_skip hd] at G0
            have GG := Lib.hid G0
            clear G0 hd
            go_wp2
            go_roundw
            case rel => exact ⟨j + 1, st, vp, vi, vr, c, by omega, by go_num, F6.out, B6.out, GG.out, Q4.out, by have := Q5.out; omega, Q6.out⟩
            case measure => simp [intOf]; omega
        · obtain rfl : j = l.length := by omega
          have G0 := Q3.out
          rw [List.drop_length, goL] at G0
          have PE : Hid (parseF l = ((z, st), 0, 0)) := by
            show _ = _
            rw [PP.out, G0, if_neg (fun e => e rfl)]
          have R7 : Hid (Blk w.heap.size #[.slice none 0 0, .slice none 0 0, .slice none 0 0, .slice none 0 0] 36 wr) := R0.out.at (Q2.out.block _ (by omega))
          clear G0 Q3
          obtain ⟨r0, r1, r2, r3⟩ := show _ ∧ _ ∧ _ ∧ _ from ⟨R7.out.cell (i := 0) rfl, R7.out.cell (i := 1) rfl, R7.out.cell (i := 2) rfl, R7.out.cell (i := 3) rfl⟩
          obtain ⟨p0, p1, p2, p3⟩ := show _ ∧ _ ∧ _ ∧ _ from ⟨R7.out.free 0, R7.out.free 1, R7.out.free 2, R7.out.free 3⟩
          obtain ⟨k0, k1, k2, k3⟩ := show _ ∧ _ ∧ _ ∧ _ from ⟨Q1.out.blk.cell (i := 0) rfl, Q1.out.blk.cell (i := 1) rfl, Q1.out.blk.cell (i := 2) rfl, Q1.out.blk.cell (i := 3) rfl⟩
          have BX : Hid (∀ u0 u1 u2 u3, Below w.heap.size w ((((wr.setCell ⟨w.heap.size, 0, none⟩ u0).setCell ⟨w.heap.size, 1, none⟩ u1).setCell ⟨w.heap.size, 2, none⟩ u2).setCell ⟨w.heap.size, 3, none⟩ u3)) := fun _ _ _ _ => ((((BW.out _ Q2.out).setCell (Nat.le_refl _) _).setCell (Nat.le_refl _) _).setCell (Nat.le_refl _) _).setCell (Nat.le_refl _) _
          have FX : Hid (∀ u0 u1 u2 u3, FIn ((((wr.setCell ⟨w.heap.size, 0, none⟩ u0).setCell ⟨w.heap.size, 1, none⟩ u1).setCell ⟨w.heap.size, 2, none⟩ u2).setCell ⟨w.heap.size, 3, none⟩ u3) (.slice am z.length cm) vp vi vr (z, st)) := fun u0 u1 u2 u3 => by
            have f0 : FR (w.heap.size + 1) z st (.slice am z.length cm) vp vi vr c wr := ⟨Q1.out.mac, Q1.out.pho, Q1.out.inf, Q1.out.rul⟩
            have f1 := f0.set (i := 0) (u := u0) R7.out
            have f2 := f1.set (i := 1) (u := u1) (R7.out.set 0 u0)
            have f3 := f2.set (i := 2) (u := u2) ((R7.out.set 0 u0).set 1 u1)
            have f4 := f3.set (i := 3) (u := u3) (((R7.out.set 0 u0).set 1 u1).set 2 u2)
            exact f4.fin Q1.out.bnd Q1.out.sml Q6.out
          obtain ⟨ap, cp, rfl⟩ := own_len Q1.out.pho
          obtain ⟨ai, ci, rfl⟩ := own_len Q1.out.inf
          obtain ⟨ar, cr, rfl⟩ := own_len Q1.out.rul.2.1
          go_wp2
          (try simp only [Exit.inBlock, Exit.then])
          refine bodyPost_ret (v := .tuple #[.agg #[.slice am z.length cm, .slice ap st.1.length cp, .slice ai st.2.1.length ci, .slice ar st.2.2.length cr], .int .i64 0, .int .i64 0]) ?_ rfl ⟨BX.out _ _ _ _, _, _, _, _, by rw [PE.out]; rfl, by rw [PE.out]; exact FX.out _ _ _ _⟩
          rw [results_cell_tmp2 rfl]; go_simp
    · have PE := Lib.hid (PF.out E hE)
      have z1 : (E != 0) = true := by rw [bne_iff_ne]; exact hE.bad.2
      have BX : Hid (Below w.heap.size w ((((w4.setCell ⟨w.heap.size, 0, none⟩ (.slice none 0 0)).setCell ⟨w.heap.size, 1, none⟩ (.slice none 0 0)).setCell ⟨w.heap.size, 2, none⟩ (.slice none 0 0)).setCell ⟨w.heap.size, 3, none⟩ (.slice none 0 0))) := ((((BW.out _ B4.out).setCell (Nat.le_refl _) _).setCell (Nat.le_refl _) _).setCell (Nat.le_refl _) _).setCell (Nat.le_refl _) _
      clear hE PF PG
      go_wp2
      (try simp only [Exit.inBlock, Exit.then])
      refine bodyPost_ret (v := .tuple #[.agg #[.slice none 0 0, .slice none 0 0, .slice none 0 0, .slice none 0 0], .int .i64 0, .int .i64 E]) ?_ rfl (PaPost.bad (n := 0) PE.out BX.out)
      rw [results_cell_tmp2 rfl]; go_simp
end Go.Proofs.YtfgcbdjkimkgpaaGreatDoor
namespace Go.Proofs.YtfgcbdjkimkgpaaGreatDoor
set_option maxRecDepth 100000
set_option linter.unusedVariables false
open Go.ChangeShapes Go.WideShapes Go.ChangeAt Go.RowKit

theorem alive_exp : Ans [] [97, 32, 58, 32, 98] [97, 32, 58, 32, 98] 0 := .inl ⟨rfl, ⟨by decide, by decide, by decide, 0, by decide⟩, 0, by decide⟩
theorem alive_file : parseF [[97, 32, 58, 32, 98]] = (([], [], [], [([[97]], [[98]])]), 0, 0) := by
  have d : defR [97, 32, 58, 32, 98] = none := by decide
  have ds : defsR [[97, 32, 58, 32, 98]] = [] := by unfold defsR; rw [List.filterMap_cons, d]; rfl
  have hF : Fine ([] : List Mc) := ⟨by decide, by decide, by decide, 0, by decide⟩
  have ad : addL [] ([], [], []) [97, 32, 58, 32, 98] = (0, ([], [], [([[97]], [[98]])])) := by
    unfold addL
    rw [expR_eq alive_exp, alive_parse]
    rfl
  have g : goL [] 0 ([], [], []) [[97, 32, 58, 32, 98]] = (([], [], [([[97]], [[98]])]), 0, 0) := by
    rw [goL_step d (by rw [ad]), ad]; rfl
  rw [parseF_go (by decide) (by rw [ds]; exact hF), ds, g]
  rfl
theorem alive_words : words [120] = [[120]] := by decide
theorem alive_lines : linesR [120] [] = ([[120]], 0) := by
  have j : joinR [120] = ([(1, [120])], 0) := by decide +kernel
  have hi : inc [120] = false := by unfold inc; rw [alive_words]; decide
  have r1 : rd1 [] [] 0 [120] = (0, [[120]], 1) := by unfold rd1; rw [if_neg (by decide), if_pos hi]
  have r : rdS [] [] 0 [120] = (0, [[120]], 1) := by
    unfold rdS
    rw [j, if_neg (by decide)]
    simp only [List.map_cons, List.map_nil]
    rw [rd_cons, r1]
    unfold catR
    rw [if_neg (by decide)]
    show ((rd [] [] 1 []).1, [[120]] ++ (rd [] [] 1 []).2.1, (rd [] [] 1 []).2.2) = _
    rw [rd_nil]; rfl
  rw [linesR_go (by rfl), r]; rfl
set_option maxHeartbeats 4000000 in
theorem files_true (w : World) (hm : MX w) : Calls Tryz.prog 24 #[] w fun e w' => e = .returned (.bool true) ∧ Below w.heap.size w w' := by
  have ba : Below w.heap.size w (w.alloc (.cells #[.string (ByteArray.mk #[97, 32, 58, 32, 98])] 9)) := (Below.refl _ _).alloc (Nat.le_refl _) _
  have BA := Lib.hid ba
  have S1 : SIn (w.alloc (.cells #[.string (ByteArray.mk #[97, 32, 58, 32, 98])] 9)) (.slice (some ⟨w.heap.size, 0, none⟩) 1 1) [[97, 32, 58, 32, 98]] := by
    refine ⟨_, 1, rfl, Nat.le_refl _, by decide, by decide, .inr ⟨w.heap.size, 0, rfl, by simp, fun k hk => ?_⟩⟩
    match k, hk with
    | 0, _ => exact (blk_new w #[.string (ByteArray.mk #[97, 32, 58, 32, 98])] 9).cell (i := 0) rfl
  have PA := Lib.hid (parse_file [[97, 32, 58, 32, 98]] _ _ S1 (by decide))
  have HM := Lib.hid hm
  clear ba S1 hm
  go_enter Tryz.func24, Tryz.ntmps24
  go_wp2_with fail
  refine PA.out.mono ?_
  rintro e w1 ⟨hb1, vm, vp, vi, vr, rfl, hf⟩
  rw [alive_file] at hf ⊢
  have B1 : Hid (Below w.heap.size w w1) := BA.out.trans (hb1.mono BA.out.size)
  obtain ⟨ar, cr, rfl, _⟩ := hf.rul
  obtain ⟨am, cm, rfl, _⟩ := hf.mac
  obtain ⟨ap, cp, rfl, _⟩ := hf.pho
  obtain ⟨ai, ci, rfl, _⟩ := hf.inf
  simp only [List.length_cons, List.length_nil, Nat.zero_add]
  have ba : Below w1.heap.size w1 (w1.alloc (.cells #[.slice am 0 cm, .slice ap 0 cp, .slice ai 0 ci, .slice ar 1 cr] 36)) := (Below.refl _ _).alloc (Nat.le_refl _) _
  have B2 : Hid (Below w.heap.size w (w1.alloc (.cells #[.slice am 0 cm, .slice ap 0 cp, .slice ai 0 ci, .slice ar 1 cr] 36))) := B1.out.trans (ba.mono B1.out.size)
  have S2 := Lib.hid (blk_new w1 #[.slice am 0 cm, .slice ap 0 cp, .slice ai 0 ci, .slice ar 1 cr] 36)
  have LI := Lib.hid (flines_any [120] [] (.slice none 0 0) _ (by decide) (mcin_nil _) (fun m hm => absurd hm List.not_mem_nil) (HM.out.later B2.out))
  clear hf hb1 ba PA
  go_wp2_with fail
  refine LI.out.mono ?_
  rintro e w3 ⟨hb3, v3, rfl, hs, _⟩
  rw [alive_lines] at hs ⊢
  obtain ⟨a3, c3, rfl⟩ := hs.shape
  have B3 : Hid (Below w.heap.size w w3) := B2.out.trans (hb3.mono B2.out.size)
  have S3 := Lib.hid (S2.out.later hb3)
  have c3' := S3.out.cell (i := 3) rfl
  clear hs hb3 LI
  go_wp2
  go_ret
  exact ⟨rfl, B3.out⟩
end Go.Proofs.YtfgcbdjkimkgpaaGreatDoor
