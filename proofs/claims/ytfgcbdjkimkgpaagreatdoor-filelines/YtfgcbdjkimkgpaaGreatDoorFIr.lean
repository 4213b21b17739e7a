/-
  What the reference's including answers: the lines of a text behind its includes. Condition: texts of at most 2^32 bytes, at most 20 of them, with names of their own.
-/
import Derived.Test.YtfgcbdjkimkgpaaGreatDoorFIq
import Derived.Lib.SlFresh
import Derived.Deep.RegionHeld3
import Derived.Test.YtfgcbdjkimkgpaaGreatDoorLReN
import Derived.Test.YtfgcbdjkimkgpaaGreatDoorFRr
namespace Go.Proofs.YtfgcbdjkimkgpaaGreatDoor
set_option maxRecDepth 100000
set_option linter.unusedVariables false
open Go.ChangeShapes Go.WideShapes Go.ChangeAt Go.RowKit

/-- what a call of including hands back -/
def IncPost (q n : Nat) (a : Int × List Str × Nat) (w : World) (e : Ending) (w' : World) : Prop :=
  ∃ v n', e = .returned (.tuple #[v, .int .i64 a.1]) ∧ w.grownBy w' (some q) ∧ Blk q #[.int .i64 ((n' : Nat) : Int)] 3 w' ∧ (a.1 ≠ 0 → v = .slice none 0 0) ∧
    (a.1 = 0 → n' = a.2.2 ∧ n' ≤ 200 ∧ SO w.heap.size v a.2.1 w' ∧ a.2.1.length + n ≤ n' ∧ ∀ x ∈ a.2.1, x.length ≤ 20001)
def IncC (w0 : World) (q : Nat) (tv : Value) (T : List Mc) (k : Nat) : Prop := ∀ (op : List Str) (n : Nat) (s : Str) (w : World) (ov : Value) (B : Nat), Below q w0 w → B ≤ w.heap.size → SO B ov op.reverse w → Blk q #[.int .i64 (n : Int)] 3 w → n ≤ 200 → s.length ≤ 4294967296 → un T op < k → op.length + un T op ≤ 20 →
  (∀ x ∈ op, x.length ≤ 9223372036854775807) → Calls Tryz.prog 39 #[.string (bs s), tv, ov, .pointer (some ⟨q, 0, none⟩)] w (IncPost q n (rdS T op n s) w)
theorem rd1_large {T : List Mc} {op : List Str} {n : Nat} {x : Str} (h : 200 ≤ n) : rd1 T op n x = (2, [], 0) := by unfold rd1; rw [if_pos h]
theorem rd1_line {T : List Mc} {op : List Str} {n : Nat} {x : Str} (h : ¬ 200 ≤ n) (k : inc x = false) : rd1 T op n x = (0, [x], n + 1) := by unfold rd1; rw [if_neg h, if_pos k]
theorem rd1_two {T : List Mc} {op : List Str} {n : Nat} {x : Str} (h : ¬ 200 ≤ n) (k : inc x = true) (g : (words x).length ≠ 2) : rd1 T op n x = (3, [], 0) := by unfold rd1; rw [if_neg h, if_neg (by rw [k]; decide), if_pos g]
theorem rd1_inc {T : List Mc} {op : List Str} {n : Nat} {x : Str} (h : ¬ 200 ≤ n) (k : inc x = true) (g : (words x).length = 2) : rd1 T op n x = rdI T op (n + 1) (wd1 x) := by unfold rd1; rw [if_neg h, if_neg (by rw [k]; decide), if_neg (fun e => e g)]
set_option maxHeartbeats 32000000 in
theorem inc_of {w0 : World} {q : Nat} {tv : Value} {T : List Mc} (hT : ∀ W, Below q w0 W → McIn W tv T) (hx : ∀ m ∈ T, m.2.length ≤ 4294967296) (hl : T.length ≤ 20) (hn : (T.map (·.1)).Nodup) (k : Nat) (hR : IncC w0 q tv T k) : IncC w0 q tv T (k + 1) := by
  intro op n s w ov B hw hB ho hq h200 hs hu hopl hops
  obtain ⟨p, hp⟩ : ∃ p, p = op.reverse := ⟨_, rfl⟩
  rw [← hp] at ho
  have LI := Lib.hid (rlines_any (bs s) w (by rw [bs_size]; omega))
  rw [bs_list] at LI
  have HR := Lib.hid hR; have HT := Lib.hid hT; have HN := Lib.hid hn; have HX := Lib.hid hx; have HU := Lib.hid hu; have HW := Lib.hid hw; have HO := Lib.hid ho; have HQ := Lib.hid hq; have OL := Lib.hid hopl; have OS := Lib.hid hops
  have QL := Lib.hid hq.lt
  have RS : Hid (rdS T op n s = if (joinR s).2 ≠ 0 then ((joinR s).2, [], 0) else rd T op n ((joinR s).1.map (·.2))) := rfl
  have FEW := Lib.hid (joinR_few s)
  have SH := Lib.hid (joinR_short s)
  have WD := Lib.hid (joinR_word s)
  obtain ⟨ta, tc, rfl⟩ := (hT w hw).shape
  have hol : p.length ≤ 20 := by rw [hp, List.length_reverse]; omega
  have HP := Lib.hid hp
  obtain ⟨oa, oc, rfl⟩ := own_len ho
  clear hp
  clear hR hT hn hx hu hw ho hq hs
  go_enter Tryz.func39, Tryz.ntmps39
  go_wp2_with fail
  refine LI.out.mono ?_
  rintro e w1 ⟨vl, rfl, o1, b1⟩
  have B1 := Lib.hid b1
  have O1 := Lib.hid o1
  have Q1 := Lib.hid (HQ.out.later b1)
  have S1 := Lib.hid b1.size
  have W1 : Hid (Below q w0 w1) := HW.out.trans (b1.mono (Nat.le_of_lt QL.out))
  have OV1 := Lib.hid (own_later HO.out b1)
  obtain ⟨la, lc, rfl⟩ := own_len o1
  generalize hz : (joinR s).1 = z at *
  generalize he : (joinR s).2 = E at *
  clear hz he o1 b1 LI
  by_cases h0 : E = 0
  · subst h0
    have RR : Hid (rdS T op n s = rd T op n (z.map (·.2))) := by show _ = _; rw [RS.out, if_neg (by decide)]
    have hfew := FEW.out
    have LG : Hid (∀ (W : World), W.ownsRow w.heap.size 115 2 (.slice la z.length lc) z.length (lnCells z) → ∀ j, j < z.length → ∃ b off, la = some ⟨b, off, none⟩ ∧ W.cell? ⟨b, off + j * 2, none⟩ = some (.int .i64 (z.getD j (0, [])).1) ∧ W.cell? ⟨b, off + j * 2 + 1, none⟩ = some (.string (bs (z.getD j (0, [])).2))) := fun W hW j hj => by
      rcases (LIn.own hW (by omega)).open with ⟨h0, _⟩ | ⟨_, b, off, cap, e, _, _, hc⟩
      · rw [h0] at hj; cases hj
      · injection e with e1 _ _
        exact ⟨b, off, e1, hc j _ (by rw [List.getD, List.getElem?_eq_getElem hj]; rfl)⟩
    have LA : Hid (∀ j, j < z.length → (z.map (·.2)).drop j = (z.getD j (0, [])).2 :: (z.map (·.2)).drop (j + 1)) := fun j hj => lines_at hj
    have XS : Hid (∀ j, j < z.length → ((z.getD j (0, [])).2).length ≤ 20001) := fun j hj => SH.out _ (by rw [List.getD, List.getElem?_eq_getElem hj]; exact List.getElem_mem hj)
    have XW : Hid (∀ j, j < z.length → words ((z.getD j (0, [])).2) ≠ []) := fun j hj => WD.out _ (by rw [List.getD, List.getElem?_eq_getElem hj]; exact List.getElem_mem hj)
    clear RS FEW SH WD
    go_wp2_with fail
    go_loopw [12, 31] (fun ou i wr => ∃ (j n' : Nat) (o : List Str), j ≤ z.length ∧ i = .int .i64 (j : Int) ∧ SO w.heap.size ou o wr ∧ (∀ x ∈ o, x.length ≤ 20001) ∧ o.length + n ≤ n' ∧ n' ≤ 200 ∧ Blk q #[.int .i64 (n' : Int)] 3 wr ∧ w.grownBy wr (some q) ∧ wr.ownsRow w.heap.size 115 2 (.slice la z.length lc) z.length (lnCells z) ∧ Goes (rd T op n (z.map (·.2))) o (rd T op n' ((z.map (·.2)).drop j))) (fun _ i _ => z.length - (intOf i).toNat)
    case atStart => exact ⟨0, n, [], Nat.zero_le _, rfl, World.ownsRow_nil _ _ _ _, fun x hx => absurd hx List.not_mem_nil, by simp, h200, Q1.out, grown_below B1.out _, O1.out, Goes.start _⟩
    case round =>
      obtain ⟨j, n', o, hj, rfl, q1, q2, q3, q4, q5, q6, q7, q8⟩ := hrel
      have P1 := Lib.hid q1; have P2 := Lib.hid q2; have P5 := Lib.hid q5; have P6 := Lib.hid q6; have P7 := Lib.hid q7; have P8 := Lib.hid q8
      clear q1 q2 q5 q6 q7 q8
      by_cases hj2 : j < z.length
      · obtain ⟨b, off, rfl, c0, c1⟩ := LG.out wr P7.out j hj2
        have LJ := Lib.hid (LA.out j hj2)
        have XJ := Lib.hid (XS.out j hj2)
        have XV := Lib.hid (XW.out j hj2)
        generalize (z.getD j (0, [])).1 = aj at *
        generalize (z.getD j (0, [])).2 = x at *
        have G := P8.out
        rw [LJ.out] at G
        have HG := Lib.hid G
        clear G LJ P8
        -- the line's block, the count
        have ba : Below wr.heap.size wr (wr.alloc (.cells #[.int .i64 aj, .string (bs x)] 115)) := (Below.refl _ _).alloc (Nat.le_refl _) _
        have qlt := P5.out.lt
        have z1 : wr.heap.size ≠ q := by omega
        have sz : (wr.setCell ⟨q, 0, none⟩ (.int .i64 ((n' : Int) + 1))).heap.size = wr.heap.size := by simp
        obtain ⟨w2, hw2⟩ : ∃ w2, w2 = (wr.setCell ⟨q, 0, none⟩ (.int .i64 ((n' : Int) + 1))).alloc (.cells #[.int .i64 aj, .string (bs x)] 115) := ⟨_, rfl⟩
        have l2 : Blk wr.heap.size #[.int .i64 aj, .string (bs x)] 115 w2 := by
          have := blk_new (wr.setCell ⟨q, 0, none⟩ (.int .i64 ((n' : Int) + 1))) #[.int .i64 aj, .string (bs x)] 115
          rw [sz] at this; rw [hw2]; exact this
        have m2 : Blk q #[.int .i64 ((n' + 1 : Nat) : Int)] 3 w2 := by rw [hw2]; exact (P5.out.set 0 _).alloc _
        have g2 : wr.grownBy w2 (some q) := by rw [hw2]; exact World.grownBy.trans (grown_set _ _ _ _) (grown_alloc _ _ _)
        have L2 := Lib.hid l2; have M2 := Lib.hid m2; have G2 : Hid (w.grownBy w2 (some q)) := World.grownBy.trans P6.out g2
        have U2 : Hid (SO w.heap.size u12 o w2) := own_kq P1.out P5.out (by decide) g2
        have R2 : Hid (w2.ownsRow w.heap.size 115 2 (.slice (some ⟨b, off, none⟩) z.length lc) z.length (lnCells z)) := own_kq P7.out P5.out (by decide) g2
        have S2 : Hid (wr.heap.size < w2.heap.size) := l2.lt
        have kq := P5.out.cell (i := 0) rfl
        have fq := P5.out.free 0
        have hw2' := Lib.hid hw2
        clear l2 m2 g2 ba sz P1 P5 P6 P7
        by_cases hn2 : 200 ≤ n'
        · have h1 := rd1_large (T := T) (op := op) (x := x) hn2
          have GB := Lib.hid (HG.out.bad (by rw [h1]; decide))
          rw [h1] at GB
          have E2 : Hid ((rdS T op n s).1 = 2) := by show _ = _; rw [RR.out, GB.out]
          rw [hw2] at G2 M2
          clear h1 GB HG hw2 hw2' L2 U2 R2 S2
          go_wp2
          go_ret2
          exact ⟨_, n' + 1, by rw [E2.out]; rfl, G2.out, M2.out, fun _ => rfl, fun e => by rw [E2.out] at e; cases e⟩
        · obtain ⟨y0, ys, hw⟩ : ∃ y0 ys, words x = y0 :: ys := by
            cases h : words x with
            | nil => exact absurd h XV.out
            | cons y0 ys => exact ⟨y0, ys, rfl⟩
          have IW := Lib.hid (inc_words hw)
          have WO := Lib.hid (wordsOf_any (bs x) w2 (by rw [bs_size]; have := XJ.out; omega))
          rw [bs_list] at WO
          have WS := Lib.hid (words_small x (by have := XJ.out; omega))
          have HWx := Lib.hid hw
          have kq2 := M2.out.cell (i := 0) rfl
          have l1 := L2.out.cell (i := 1) rfl
          rw [hw2] at kq2 l1
          clear hw
          go_wp2_with fail
          rw [← hw2'.out]
          clear kq fq kq2 l1 hw2 hw2' c0 c1
          refine WO.out.mono ?_
          rintro e w3 ⟨vw, rfl, ow, b3⟩
          have G3 : Hid (w.grownBy w3 (some q)) := World.grownBy.trans G2.out (grown_below b3 _)
          have M3 := Lib.hid (M2.out.later b3); have L3 := Lib.hid (L2.out.later b3)
          have U3 : Hid (SO w.heap.size u12 o w3) := own_later U2.out b3
          have R3 : Hid (w3.ownsRow w.heap.size 115 2 (.slice (some ⟨b, off, none⟩) z.length lc) z.length (lnCells z)) := own_later R2.out b3
          have OW := Lib.hid ow
          have S3 : Hid (wr.heap.size < w3.heap.size) := Nat.lt_of_lt_of_le S2.out b3.size
          obtain ⟨wa, wc, rfl⟩ := own_len ow
          have WI := Lib.hid (SIn.own ow WS.out.1 WS.out.2)
          clear b3 WO ow G2 M2 L2 U2 R2 S2
          obtain ⟨bw, ofw, rfl, e0⟩ := WI.out.get (k := 0) (by rw [HWx.out]; simp)
          simp only [Nat.add_zero] at e0
          have hd0 : (words x).getD 0 [] = y0 := by rw [HWx.out]; rfl
          rw [hd0] at e0
          have l1 := L3.out.cell (i := 1) rfl
          have wl0 : 0 < (words x).length := by rw [HWx.out]; simp
          clear hd0
          by_cases hy : y0 = incW
          · have g1 : ((bs y0).toList == [105, 110, 99, 108, 117, 100, 101]) = true := by rw [bs_toList, hy]; rfl
            have INC : Hid (inc x = true) := by show _ = _; rw [IW.out, decide_eq_true hy]
            clear hy IW
            by_cases h2 : (words x).length = 2
            · have RI : Hid (rd1 T op n' x = rdI T op (n' + 1) (wd1 x)) := rd1_inc hn2 INC.out h2
              have z2 : (((words x).length : Int) != 2) = false := by rw [h2]; rfl
              have B3 : Hid (Below q w0 w3) := HW.out.grown G3.out (Nat.le_of_lt QL.out) (fun k e => by cases e; exact Nat.le_refl _)
              have TM := Lib.hid (HT.out w3 B3.out)
              obtain ⟨bw', ofw', ew, e1⟩ := WI.out.get (k := 1) (by omega)
              injection ew with ew
              injection ew with ew1 ew2 _
              subst ew1 ew2
              have hy1 : (words x).getD 1 [] = wd1 x := rfl
              rw [hy1] at e1
              have YS : Hid ((wd1 x).length ≤ 9223372036854775807) := WS.out.2 _ (by rw [← hy1]; exact getD_mem (by omega))
              have HCt : Hid (∀ W, Below w3.heap.size w3 W → ∀ i, i < T.length → ∃ b off, ta = some ⟨b, off, none⟩ ∧ W.cell? ⟨b, off + i * 2, none⟩ = some (.string (bs (nm T i))) ∧ W.cell? ⟨b, off + i * 2 + 1, none⟩ = some (.string (bs (vl T i)))) := fun W hW i hi => (TM.out.later hW).get hi
              have EW : Hid (∀ W, Below w3.heap.size w3 W → W.cell? ⟨bw, ofw + 1, none⟩ = some (.string (bs (wd1 x)))) := fun W hW => cell_later hW e1
              have EWK : Hid (∀ W W' : World, Below w3.heap.size w3 W → Blk q #[.int .i64 ((n' + 1 : Nat) : Int)] 3 W → W.grownBy W' (some q) → W'.cell? ⟨bw, ofw + 1, none⟩ = some (.string (bs (wd1 x)))) := fun W W' h1 h2 h3 => by
                obtain ⟨b', o', e, c⟩ := (SIn.own (own_kq (own_later OW.out h1) h2 (by decide) h3) WS.out.1 WS.out.2).get (k := 1) (by omega)
                injection e with e
                injection e with f1 f2 _
                subst f1 f2
                exact c
              have OV3 : Hid (SO B (.slice oa p.length oc) p w3) := own_kq HO.out HQ.out (by decide) G3.out
              have wl1 : 1 < (words x).length := by omega
              clear hy1 WI HWx WS h2
              generalize hyy : wd1 x = y at *
              generalize hlw : (words x).length = lw at *
              clear hlw INC
              go_wp2_with fail
              go_loopw [16, 61] (fun kk i wi => ∃ m : Nat, m ≤ T.length ∧ i = .int .i64 (m : Int) ∧ ((kk = .int .i64 (-1) ∧ ∀ i, i < m → nm T i ≠ y) ∨ ∃ i0 : Nat, i0 < m ∧ kk = .int .i64 (i0 : Int) ∧ nm T i0 = y) ∧ Below w3.heap.size w3 wi) (fun _ i _ => T.length - (intOf i).toNat)
              case atStart => exact ⟨0, Nat.zero_le _, rfl, .inl ⟨rfl, fun i h => absurd h (Nat.not_lt_zero _)⟩, Below.refl _ _⟩
              case round =>
                obtain ⟨m, hm, rfl, hk, p4⟩ := hrel
                have P4 := Lib.hid p4; have HK := Lib.hid hk
                clear p4 hk
                rename World => wi
                by_cases hm2 : m < T.length
                · obtain ⟨bt, ot, rfl, t0, t1⟩ := HCt.out wi P4.out m hm2
                  have BA : Hid (Below w3.heap.size w3 (wi.alloc (.cells #[.string (bs (nm T m)), .string (bs (vl T m))] 25))) := P4.out.alloc P4.out.size _
                  have ey := EW.out _ BA.out
                  have TB := Lib.hid (blk_new wi #[.string (bs (nm T m)), .string (bs (vl T m))] 25)
                  obtain ⟨x0, x1⟩ := show _ ∧ _ from ⟨TB.out.cell (i := 0) rfl, TB.out.cell (i := 1) rfl⟩
                  have g2 : ((bs (nm T m)).toList == (bs y).toList) = decide (nm T m = y) := by rw [bs_toList, bs_toList, beq_dec]
                  by_cases hnm : nm T m = y
                  · rw [decide_eq_true hnm] at g2
                    have NX : Hid (∀ (kk : Value), kk = .int .i64 (m : Int) → (kk = .int .i64 (-1) ∧ ∀ i, i < m + 1 → nm T i ≠ y) ∨ ∃ i0 : Nat, i0 < m + 1 ∧ kk = .int .i64 (i0 : Int) ∧ nm T i0 = y) := fun kk hk => .inr ⟨m, Nat.lt_succ_self _, hk, hnm⟩
                    clear hnm HK
                    generalize nm T m = a1 at *
                    generalize vl T m = a2 at *
                    go_wp2_with fail
                    go_quiet (fail)
                    go_wp2
                    go_roundw
                    case rel => exact ⟨m + 1, by omega, by go_num, NX.out _ rfl, below_drewN BA.out _⟩
                    case measure => simp [intOf]; omega
                  · rw [decide_eq_false hnm] at g2
                    have NX : Hid ((u16 = .int .i64 (-1) ∧ ∀ i, i < m + 1 → nm T i ≠ y) ∨ ∃ i0 : Nat, i0 < m + 1 ∧ u16 = .int .i64 (i0 : Int) ∧ nm T i0 = y) := by
                      rcases HK.out with ⟨h1, h2⟩ | ⟨i0, h1, h2, h3⟩
                      · refine .inl ⟨h1, fun i hi => ?_⟩
                        rcases Nat.lt_succ_iff_lt_or_eq.1 hi with q | q
                        · exact h2 i q
                        · rw [q]; exact hnm
                      · exact .inr ⟨i0, by omega, h2, h3⟩
                    clear hnm HK
                    generalize nm T m = a1 at *
                    generalize vl T m = a2 at *
                    go_wp2_with fail
                    go_quiet (fail)
                    go_wp2
                    go_roundw
                    case rel => exact ⟨m + 1, by omega, by go_num, NX.out, below_drewN BA.out _⟩
                    case measure => simp [intOf]; omega
                · obtain rfl : m = T.length := by omega
                  have GI : Hid (w.grownBy wi (some q)) := World.grownBy.trans G3.out (grown_below P4.out _)
                  have MI := Lib.hid (M3.out.later P4.out)
                  have OVI := Lib.hid (own_later OV3.out P4.out)
                  have BI : Hid (Below q w0 wi) := B3.out.trans (P4.out.mono (Nat.le_of_lt M3.out.lt))
                  rcases HK.out with ⟨rfl, hno⟩ | ⟨i0, hi0, rfl, hat⟩
                  · have h1 : rd1 T op n' x = (5, [], 0) := by rw [RI.out]; unfold rdI; rw [look_no hno]
                    have GB := Lib.hid (HG.out.bad (by rw [h1]; decide))
                    rw [h1] at GB
                    have E2 : Hid ((rdS T op n s).1 = 5) := by show _ = _; rw [RR.out, GB.out]
                    clear h1 GB HG RI RR hno HK HCt
                    go_wp2
                    go_ret2
                    exact ⟨_, n' + 1, by rw [E2.out]; rfl, GI.out, MI.out, fun _ => rfl, fun e => by rw [E2.out] at e; cases e⟩
                  · have LK := Lib.hid (look_ix HN.out hi0 hat)
                    have t5 : decide ((i0 : Int) < 0) = false := decide_eq_false (by omega)
                    have PL := Lib.hid (place_of (SIn.own (z := p) OVI.out (by omega) (fun a ha => OS.out a (List.mem_reverse.1 (by rw [← HP.out]; exact ha)))) y)
                    have ey := EW.out wi P4.out
                    clear HK
                    go_wp2_with fail
                    refine PL.out.mono ?_
                    rintro e w' ⟨⟨i, hi, hx', rfl⟩ | ⟨hx', rfl⟩, hww⟩
                    · rw [hww]
                      have hc : op.contains y = true := List.contains_iff_mem.2 (List.mem_reverse.1 (by rw [← HP.out, ← hx']; exact getD_mem hi))
                      have h1 : rd1 T op n' x = (8, [], 0) := by rw [RI.out]; unfold rdI; rw [LK.out]; simp only []; rw [if_pos hc]
                      have GB := Lib.hid (HG.out.bad (by rw [h1]; decide))
                      rw [h1] at GB
                      have E2 : Hid ((rdS T op n s).1 = 8) := by show _ = _; rw [RR.out, GB.out]
                      have t9 : decide (0 ≤ (i : Int)) = true := decide_eq_true (by omega)
                      clear h1 GB HG RI RR hc hi hx' hww HCt LK PL
                      go_wp2
                      go_ret2
                      exact ⟨_, n' + 1, by rw [E2.out]; rfl, GI.out, MI.out, fun _ => rfl, fun e => by rw [E2.out] at e; cases e⟩
                    · rw [hww]
                      have hc : op.contains y = false := by rw [Bool.eq_false_iff]; exact fun h => hx' (by rw [HP.out]; exact List.mem_reverse.2 (List.contains_iff_mem.1 h))
                      have RJ : Hid (rd1 T op n' x = rdS T (y :: op) (n' + 1) (vl T i0)) := by show _ = _; rw [RI.out]; unfold rdI; rw [LK.out]; simp only []; rw [if_neg (by rw [hc]; decide)]
                      have UL := un_lt LK.out hc
                      have REC : Hid (∀ (W : World) (v : Value) (B' : Nat), Below q w0 W → B' ≤ W.heap.size → SO B' v (p ++ [y]) W → Blk q #[.int .i64 ((n' + 1 : Nat) : Int)] 3 W → Calls Tryz.prog 39 #[.string (bs (vl T i0)), .slice ta T.length tc, v, .pointer (some ⟨q, 0, none⟩)] W (IncPost q (n' + 1) (rdS T (y :: op) (n' + 1) (vl T i0)) W)) := fun W v B' h1 h2 h3 h4 =>
                        HR.out (y :: op) (n' + 1) (vl T i0) W v B' h1 h2 (by rw [List.reverse_cons, ← HP.out]; exact h3) h4 (by omega) (HX.out _ (mem_at hi0)) (by have := HU.out; omega) (by have := OL.out; rw [List.length_cons]; omega) (fun a ha => by
                          rcases List.mem_cons.1 ha with rfl | ha
                          · exact YS.out
                          · exact OS.out a ha)
                      obtain ⟨bt, ot, rfl, t0, t1⟩ := HCt.out wi P4.out i0 hi0
                      have TXK : Hid (∀ W' : World, Below q w0 W' → W'.cell? ⟨bt, ot + i0 * 2 + 1, none⟩ = some (.string (bs (vl T i0)))) := fun W' h => by
                        obtain ⟨b', o', e, _, c⟩ := (HT.out W' h).get hi0
                        injection e with e
                        injection e with f1 f2 _
                        subst f1 f2
                        exact c
                      have wlI : (1 : Int) < (lw : Int) := by omega
                      clear hc hx' hww RI LK UL PL HR HU
                      generalize rdS T (y :: op) (n' + 1) (vl T i0) = A at *
                      generalize vl T i0 = tx at *
                      obtain ⟨v1a, c1a, Wa, v2a, c2a, Wb, ra1, ra2, oa2, ba1, ba2⟩ := push_a y OVI.out (by omega)
                      obtain ⟨v1b, c1b, Wc, v2b, c2b, Wd, rb1, rb2, ob2, bb1, bb2⟩ := push_b y OVI.out (by omega)
                      have IA1 := Lib.hid ra1; have IA2 := Lib.hid ra2; have IB1 := Lib.hid rb1; have IB2 := Lib.hid rb2
                      have qi := MI.out.lt
                      have ROA := Lib.hid (REC.out Wb _ _ (BI.out.trans (ba2.mono (Nat.le_of_lt qi))) ba2.size oa2 (MI.out.later ba2))
                      have ROB := Lib.hid (REC.out Wd _ _ (BI.out.trans (bb2.mono (Nat.le_of_lt qi))) bb2.size ob2 (MI.out.later bb2))
                      have GBA : Hid (w.grownBy Wb (some q)) := World.grownBy.trans GI.out (grown_below ba2 _)
                      have GBB : Hid (w.grownBy Wd (some q)) := World.grownBy.trans GI.out (grown_below bb2 _)
                      have QBA : Hid (Blk q #[.int .i64 ((n' + 1 : Nat) : Int)] 3 Wb) := MI.out.later ba2
                      have QBB : Hid (Blk q #[.int .i64 ((n' + 1 : Nat) : Int)] 3 Wd) := MI.out.later bb2
                      have UBA : Hid (SO w.heap.size u12 o Wb) := own_later (own_later U3.out P4.out) ba2
                      have UBB : Hid (SO w.heap.size u12 o Wd) := own_later (own_later U3.out P4.out) bb2
                      have RBA : Hid (Wb.ownsRow w.heap.size 115 2 (.slice (some ⟨b, off, none⟩) z.length lc) z.length (lnCells z)) := own_later (own_later R3.out P4.out) ba2
                      have RBB : Hid (Wd.ownsRow w.heap.size 115 2 (.slice (some ⟨b, off, none⟩) z.length lc) z.length (lnCells z)) := own_later (own_later R3.out P4.out) bb2
                      have y1 := cell_later ba1 ey; have y2 := cell_later ba2 ey; have y3 := cell_later bb1 ey; have y4 := cell_later bb2 ey
                      have x1 := cell_later ba1 t1; have x2 := cell_later ba2 t1; have x3 := cell_later bb1 t1; have x4 := cell_later bb2 t1
                      have BWA : Hid (Below q w0 Wb) := BI.out.trans (ba2.mono (Nat.le_of_lt qi))
                      have BWD : Hid (Below q w0 Wd) := BI.out.trans (bb2.mono (Nat.le_of_lt qi))
                      have EKA : Hid (∀ W' : World, Wb.grownBy W' (some q) → W'.cell? ⟨bw, ofw + 1, none⟩ = some (.string (bs y))) := fun W' g => EWK.out Wb W' (P4.out.trans (ba2.mono P4.out.size)) QBA.out g
                      have EKD : Hid (∀ W' : World, Wd.grownBy W' (some q) → W'.cell? ⟨bw, ofw + 1, none⟩ = some (.string (bs y))) := fun W' g => EWK.out Wd W' (P4.out.trans (bb2.mono P4.out.size)) QBB.out g
                      have QA2 : Hid (q ≤ Wb.heap.size) := Nat.le_trans (Nat.le_of_lt qi) ba2.size
                      have QD2 : Hid (q ≤ Wd.heap.size) := Nat.le_trans (Nat.le_of_lt qi) bb2.size
                      have SWB : Hid (w.heap.size ≤ Wb.heap.size) := Nat.le_trans GI.out.size ba2.size
                      have SWD : Hid (w.heap.size ≤ Wd.heap.size) := Nat.le_trans GI.out.size bb2.size
                      have AB : Hid (A.1 ≠ 0 → (rdS T op n s).1 = A.1) := fun h => by
                        have := HG.out.bad (by rw [RJ.out]; exact h)
                        rw [RR.out, this, RJ.out]
                      have AS : Hid (A.1 = 0 → Goes (rd T op n (z.map (·.2))) (o ++ A.2.1) (rd T op A.2.2 ((z.map (·.2)).drop (j + 1)))) := fun h => by
                        have := HG.out.step (by rw [RJ.out]; exact h)
                        rw [RJ.out] at this
                        exact this
                      have z3 := cell_later (ba1.alloc ba1.size (.cells #[.string (bs y)] 9)) ey
                      have z4 := cell_later (ba1.alloc ba1.size (.cells #[.string (bs y)] 9)) t1
                      clear ra1 ra2 oa2 ba1 ba2 rb1 rb2 ob2 bb1 bb2 REC HCt HG RJ RR OVI GI MI BI U3 R3 M3 L3 t0
                      go_wp2_with fail
                      have IB1d : Hid ((Builtin.append_ #[27, 27] 27 #[.slice none 0 0, .slice oa p.length oc]).run Tryz.prog (wi.alloc (.cells #[.string (bs y)] 9)).drew = .ok (.slice v1b p.length c1b) Wc) := IB1.out
                      have z1 := cell_later ((Below.refl wi.heap.size wi).alloc (Nat.le_refl _) (.cells #[.string (bs y)] 9)) ey
                      have z2 := cell_later ((Below.refl wi.heap.size wi).alloc (Nat.le_refl _) (.cells #[.string (bs y)] 9)) t1
                      go_region_held3 (fun w' => w'.cell? ⟨bt, ot + i0 * 2 + 1, none⟩ = some (.string (bs tx)) ∧ w'.cell? ⟨bw, ofw + 1, none⟩ = some (.string (bs y))) (first | with_reducible exact ⟨t1, ey⟩ | with_reducible exact ⟨x1, y1⟩ | with_reducible exact ⟨x2, y2⟩ | with_reducible exact ⟨x3, y3⟩ | with_reducible exact ⟨x4, y4⟩ | with_reducible exact ⟨z2, z1⟩ | with_reducible exact ⟨z4, z3⟩ | with_reducible exact ⟨s2, s1⟩ | go_keep) (first
                        | (refine step_append_run rfl (.const (.slice none 0 0)) (.tmp 89) 27 rfl (.slice none 0 0) (.slice oa p.length oc) ?_ ?_ (.slice v1a p.length c1a) Wa ?_ ?_
                           · simp [Act.eval]
                           · simp [Act.eval]
                           · with_reducible exact IA1.out)
                        | (refine step_append_run rfl (.const (.slice none 0 0)) (.tmp 89) 27 rfl (.slice none 0 0) (.slice oa p.length oc) ?_ ?_ (.slice v1b p.length c1b) Wc ?_ ?_
                           · simp [Act.eval]
                           · simp [Act.eval]
                           · first | with_reducible exact IB1d.out | with_reducible exact IB1.out)
                        | (refine step_append_run rfl (.tmp 90) (.tmp 94) 27 rfl (.slice v1a p.length c1a) (.slice (some ⟨Wa.heap.size, 0, none⟩) 1 1) ?_ ?_ (.slice v2a (p.length + 1) c2a) Wb ?_ ?_
                           · simp [Act.eval]; done
                           · simp [Act.eval]; done
                           · with_reducible exact IA2.out)
                        | (refine step_append_run rfl (.tmp 90) (.tmp 94) 27 rfl (.slice v1b p.length c1b) (.slice (some ⟨wi.heap.size, 0, none⟩) 1 1) ?_ ?_ (.slice v2b (p.length + 1) c2b) Wd ?_ ?_
                           · simp [Act.eval]; done
                           · simp [Act.eval]; done
                           · with_reducible exact IB2.out)
                        | (go_at_call 39
                           with_reducible refine ROA.out.mono ?_
                           rintro e w7 ⟨v7, n7, rfl, g7, m7, f7, h7⟩
                           have s1 := EKA.out w7 g7
                           have s2 := TXK.out w7 (BWA.out.grown g7 QA2.out (fun k e => by cases e; exact Nat.le_refl _))
                           have G7 := Lib.hid (World.grownBy.trans GBA.out g7)
                           have M7 := Lib.hid m7; have F7 := Lib.hid f7; have H7 := Lib.hid h7
                           have U7 : Hid (SO w.heap.size u12 o w7) := own_kq UBA.out QBA.out (by decide) g7
                           have R7 := Lib.hid (own_kq RBA.out QBA.out (by decide) g7)
                           have S7' : Hid (w.heap.size ≤ w7.heap.size) := Nat.le_trans SWB.out g7.size
                           clear g7 m7 f7 h7)
                        | (go_at_call 39
                           with_reducible refine ROB.out.mono ?_
                           rintro e w7 ⟨v7, n7, rfl, g7, m7, f7, h7⟩
                           have s1 := EKD.out w7 g7
                           have s2 := TXK.out w7 (BWD.out.grown g7 QD2.out (fun k e => by cases e; exact Nat.le_refl _))
                           have G7 := Lib.hid (World.grownBy.trans GBB.out g7)
                           have M7 := Lib.hid m7; have F7 := Lib.hid f7; have H7 := Lib.hid h7
                           have U7 : Hid (SO w.heap.size u12 o w7) := own_kq UBB.out QBB.out (by decide) g7
                           have R7 := Lib.hid (own_kq RBB.out QBB.out (by decide) g7)
                           have S7' : Hid (w.heap.size ≤ w7.heap.size) := Nat.le_trans SWD.out g7.size
                           clear g7 m7 f7 h7))
                      all_goals
                        have AB7 := AB
                        have AS7 := AS
                        by_cases hA : A.1 = 0
                        · obtain ⟨i1, i2, i3, i4, i5⟩ := H7.out hA
                          obtain ⟨a7, c7, rfl⟩ := own_len i3
                          obtain ⟨a8, c8, w8, r8, o8, g8⟩ := app_list U7.out i3 (by omega) S7'.out
                          rw [List.length_append] at r8 o8
                          have R8 := Lib.hid r8
                          have O8 := Lib.hid o8
                          have M8 := Lib.hid (blk_kept M7.out U7.out (by decide) g8)
                          have L8 := Lib.hid (own_kept R7.out U7.out (by decide) g8)
                          have G8 := Lib.hid (grown_out G7.out g8 (fun k e => (U7.out.lt k e).1))
                          have GS := Lib.hid (AS.out hA)
                          have I5 : Hid (∀ x ∈ o ++ A.2.1, x.length ≤ 20001) := fun a ha => by
                            rcases List.mem_append.1 ha with h | h
                            · exact P2.out a h
                            · exact i5 a h
                          have LL : Hid ((o ++ A.2.1).length + n ≤ n7) := by show _ ≤ _; rw [List.length_append]; omega
                          have E7 := Lib.hid i1
                          rw [hA]
                          clear hA i1 i5 r8 o8 g8 AB AS AB7 AS7 H7 F7
                          go_wp2_with (at_builtin; go_must (refine Lib.wpList_append_run_sl _ rfl (.tmp 103) (.tmp 104) 27 rfl u12 (.slice a7 A.2.1.length c7) (by simp [Act.eval]) (by simp [Act.eval]) R8.out ?_))
                          go_roundw
                          case rel => exact ⟨j + 1, n7, o ++ A.2.1, by omega, by go_num, O8.out, I5.out, LL.out, i2, M8.out, G8.out, L8.out, by rw [E7.out]; exact GS.out⟩
                          case measure => simp [intOf]; omega
                        · have z9 : (A.1 != 0) = true := by rw [bne_iff_ne]; exact hA
                          have EB := Lib.hid (AB.out hA)
                          have NA := Lib.hid hA
                          clear hA AS AS7 AB7 AB H7
                          go_wp2
                          go_ret2
                          exact ⟨_, n7, by rw [EB.out]; rfl, G7.out, M7.out, fun _ => rfl, fun e => by rw [EB.out] at e; exact absurd e NA.out⟩
            · have h1 : rd1 T op n' x = (3, [], 0) := rd1_two hn2 INC.out h2
              have GB := Lib.hid (HG.out.bad (by rw [h1]; decide))
              rw [h1] at GB
              have E2 : Hid ((rdS T op n s).1 = 3) := by show _ = _; rw [RR.out, GB.out]
              have z2 : (((words x).length : Int) != 2) = true := by rw [bne_iff_ne]; omega
              clear h1 GB HG h2 INC HWx WI RR
              generalize (words x).length = lw at *
              go_wp2
              go_ret2
              exact ⟨_, n' + 1, by rw [E2.out]; rfl, G3.out, M3.out, fun _ => rfl, fun e => by rw [E2.out] at e; cases e⟩
          · have g1 : ((bs y0).toList == [105, 110, 99, 108, 117, 100, 101]) = false := by rw [bs_toList, beq_eq_false_iff_ne]; exact hy
            have h1 : rd1 T op n' x = (0, [x], n' + 1) := rd1_line hn2 (by rw [IW.out, decide_eq_false hy])
            have GS := HG.out.step (by rw [h1])
            rw [h1] at GS
            have HGS := Lib.hid GS
            clear h1 GS HG hy IW HWx WI
            generalize (words x).length = lw at *
            have OA : Hid (∀ ob, (w3.alloc ob).ownsRow w.heap.size 9 1 u12 o.length (o.map encStr)) := fun ob => World.ownsRow.alloc U3.out ob
            have SA : Hid (∀ ob, w.heap.size ≤ (w3.alloc ob).heap.size) := fun ob => by have := G3.out.size; simp; omega
            have ol : o.length ≤ 200 := by omega
            have MA : Hid (∀ ob, Blk q #[.int .i64 ((n' + 1 : Nat) : Int)] 3 (w3.alloc ob)) := fun ob => M3.out.alloc ob
            have RA : Hid (∀ ob, (w3.alloc ob).ownsRow w.heap.size 115 2 (.slice (some ⟨b, off, none⟩) z.length lc) z.length (lnCells z)) := fun ob => World.ownsRow.alloc R3.out ob
            have LV : Hid (∀ k, u12.ownBlock = some k → w.heap.size ≤ k) := fun k hk => (U3.out.lt k hk).1
            have GA : Hid (∀ ob, w.grownBy (w3.alloc ob) (some q)) := fun ob => World.grownBy.trans G3.out (grown_alloc _ _ _)
            obtain ⟨s0, hs0, sz0, sz1, sz2⟩ := info_parts infoStr
            have SHs := Lib.hid hs0
            clear hs0
            go_wp2_with (at_builtin; go_must (refine wpList_append_own _ rfl (.tmp 51) (.tmp 54) 27 rfl w.heap.size 9 s0 (.string ByteArray.empty) 1 16 Tryz.underlying27 SHs.out sz0 sz1 sz2 rfl (by decide) _ _ _ rfl (OA.out _) ⟨w3.heap.size, 0, none⟩ 1 1 [.string (bs x)] rfl rfl (cell_one' _ _ _) (by intro u hu; simp at hu; rcases hu with rfl; rfl) (by unfold maxLen; omega) (by omega) (SA.out _) ?_; intro v4 w4 p1 p2 p3; have O4 := Lib.hid (SO.snoc p1); have G4 := Lib.hid (grown_out (GA.out _) p2 LV.out); have M4 := Lib.hid (blk_kept (MA.out _) (OA.out _) (by decide) p2); have R4 := Lib.hid (own_kept (RA.out _) (OA.out _) (by decide) p2); clear p1 p2 p3))
            go_roundw
            case rel => exact ⟨j + 1, n' + 1, o ++ [x], by omega, by go_num, O4.out, fun y hy => by
                rcases List.mem_append.1 hy with hy | hy
                · exact P2.out y hy
                · rw [List.mem_singleton.1 hy]; exact XJ.out, by rw [List.length_append, List.length_singleton]; omega, by omega, M4.out, G4.out, R4.out, HGS.out⟩
            case measure => simp [intOf]; omega
      · obtain rfl : j = z.length := by omega
        have D := P8.out
        rw [show (z.map (·.2)).drop z.length = [] by rw [← List.length_map (f := fun x : Ln => x.2), List.drop_length]] at D
        have DN := Lib.hid D.done
        clear D P8
        obtain ⟨ua, uc, rfl⟩ := own_len P1.out
        go_wp2
        go_ret2
        obtain ⟨d1, d2, d3⟩ := DN.out
        refine ⟨_, n', by rw [RR.out, d1]; rfl, P6.out, P5.out, fun e => by rw [RR.out] at e; exact absurd d1 e, fun _ => ?_⟩
        rw [RR.out, d2, d3]
        exact ⟨rfl, q4, P1.out, q3, P2.out⟩
  · have RR : Hid (rdS T op n s = (E, [], 0)) := by show _ = _; rw [RS.out, if_pos h0]
    have z1 : (E != 0) = true := by rw [bne_iff_ne]; exact h0
    have H0 := Lib.hid h0
    clear RS h0
    go_wp2
    go_ret2
    exact ⟨_, n, by rw [RR.out]; rfl, grown_below B1.out _, Q1.out, fun _ => rfl, fun e => by rw [RR.out] at e; exact absurd e H0.out⟩
theorem inc_all {w0 : World} {q : Nat} {tv : Value} {T : List Mc} (hT : ∀ W, Below q w0 W → McIn W tv T) (hx : ∀ m ∈ T, m.2.length ≤ 4294967296) (hl : T.length ≤ 20) (hn : (T.map (·.1)).Nodup) : ∀ k, IncC w0 q tv T k
  | 0 => fun op n s w ov B _ _ _ _ _ _ hu _ _ => absurd hu (Nat.not_lt_zero _)
  | k + 1 => inc_of hT hx hl hn k (inc_all hT hx hl hn k)
end Go.Proofs.YtfgcbdjkimkgpaaGreatDoor
