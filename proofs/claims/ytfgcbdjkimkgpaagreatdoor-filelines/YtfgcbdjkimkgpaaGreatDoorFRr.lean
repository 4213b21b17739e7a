/-
  What the reference's FileRead answers: what Parse answers. Condition: the strings have at most 2^32 bytes.
-/
import Derived.Test.YtfgcbdjkimkgpaaGreatDoorFRo
import Derived.Test.YtfgcbdjkimkgpaaGreatDoorFDr
namespace Go.Proofs.YtfgcbdjkimkgpaaGreatDoor
set_option maxRecDepth 100000
set_option linter.unusedVariables false
open Go.ChangeShapes Go.WideShapes Go.ChangeAt Go.RowKit

theorem set4_below {w0 w : World} {k : Nat} (h : Below k w0 w) (u0 u1 u2 u3 : Value) : Below k w0 ((((w.setCell ⟨k, 0, none⟩ u0).setCell ⟨k, 1, none⟩ u1).setCell ⟨k, 2, none⟩ u2).setCell ⟨k, 3, none⟩ u3) :=
  (((h.setCell (Nat.le_refl _) _).setCell (Nat.le_refl _) _).setCell (Nat.le_refl _) _).setCell (Nat.le_refl _) _
theorem SIn.get {w : World} {a : Option Addr} {n c : Nat} {z : List Str} (h : SIn w (.slice a n c) z) {k : Nat} (hk : k < z.length) :
    ∃ b off, a = some ⟨b, off, none⟩ ∧ w.cell? ⟨b, off + k, none⟩ = some (.string (bs (z.getD k []))) := by
  rcases h.open with ⟨h0, _⟩ | ⟨_, b, off, cap', e, _, hlt, hc⟩
  · rw [h0] at hk; cases hk
  · injection e with e1 _ _
    exact ⟨b, off, e1, hc k hk⟩
theorem McIn.get {w : World} {a : Option Addr} {n c : Nat} {z : List Mc} (h : McIn w (.slice a n c) z) {k : Nat} (hk : k < z.length) :
    ∃ b off, a = some ⟨b, off, none⟩ ∧ w.cell? ⟨b, off + k * 2, none⟩ = some (.string (bs (nm z k))) ∧ w.cell? ⟨b, off + k * 2 + 1, none⟩ = some (.string (bs (vl z k))) := by
  rcases h.open with ⟨h0, _⟩ | ⟨_, b, off, cap', e, _, hlt, hc⟩
  · rw [h0] at hk; cases hk
  · injection e with e1 _ _
    exact ⟨b, off, e1, hc k _ (at_some hk)⟩
theorem McIn.shape {w : World} {v : Value} {z : List Mc} (h : McIn w v z) : ∃ a c, v = .slice a z.length c := by obtain ⟨a, c, h, _⟩ := h; exact ⟨a, c, h⟩
theorem McIn.bound {w : World} {v : Value} {z : List Mc} (h : McIn w v z) : z.length ≤ 8796093022208 := by obtain ⟨_, _, _, _, _, h4, _⟩ := h; exact h4
theorem RIn.shape {w : World} {v : Value} {z : List Rl} (h : RIn w v z) : ∃ a c, v = .slice a z.length c := by obtain ⟨a, c, h, _⟩ := h; exact ⟨a, c, h⟩

theorem contains_take {z : List Mc} {p q : Mc} {k : Nat} (h : z[k]? = some q) : (z.take (k + 1)).contains p = ((z.take k).contains p || decide (p = q)) := by
  rw [List.take_add_one, h, Bool.eq_iff_iff, Bool.or_eq_true, List.contains_iff_mem, List.contains_iff_mem, decide_eq_true_iff, List.mem_append]
  simp
set_option maxHeartbeats 32000000 in
theorem fread_any (l : List Str) (v : Value) (w : World) (h : SIn w v l) (hx : ∀ x ∈ l, x.length ≤ 4294967296) :
    Calls Tryz.prog 16 #[v] w (PaPost l w) := by
  obtain ⟨a, cap, rfl⟩ := h.shape
  have hbd := h.bound
  by_cases hl : 200 < l.length
  · have PB := Lib.hid (parseF_large hl)
    have B2 : Hid (Below w.heap.size w ((w.alloc (.cells #[.slice none 0 0, .slice none 0 0, .slice none 0 0, .slice none 0 0] 36)).alloc (.cells #[.slice none 0 0, .slice none 0 0, .slice none 0 0, .slice none 0 0] 36))) := ((Below.refl _ _).alloc (Nat.le_refl _) _).alloc (by simp) _
    clear h hx
    go_enter Tryz.func16, Tryz.ntmps16
    go_wp2
    (try simp only [Exit.inBlock, Exit.then])
    refine bodyPost_ret (v := .tuple #[.agg #[.slice none 0 0, .slice none 0 0, .slice none 0 0, .slice none 0 0], .int .i64 0, .int .i64 2]) ?_ rfl (PaPost.bad (n := 0) PB.out (by first | exact B2.out | exact set4_below B2.out _ _ _ _))
    rw [results_cell_tmp2 rfl]; go_simp
  · have hl' : l.length ≤ 200 := by omega
    obtain ⟨w1, hw1⟩ : ∃ w1, w1 = (((w.alloc (.cells #[.slice none 0 0, .slice none 0 0, .slice none 0 0, .slice none 0 0] 36)).alloc (.cells #[.slice none 0 0, .slice none 0 0, .slice none 0 0, .slice none 0 0] 36)).alloc (.cells #[.slice none 0 0, .slice none 0 0, .slice none 0 0, .slice none 0 0] 36)) := ⟨_, rfl⟩
    have z1 : w1.heap.size = w.heap.size + 3 := by rw [hw1]; simp
    have b1 : Below w.heap.size w w1 := by rw [hw1]; exact (((Below.refl _ _).alloc (Nat.le_refl _) _).alloc (by simp) _).alloc (by simp; omega) _
    have r1 : Blk w.heap.size #[.slice none 0 0, .slice none 0 0, .slice none 0 0, .slice none 0 0] 36 w1 := by rw [hw1]; exact ((blk_new w _ _).alloc _).alloc _
    have n1 : Blk (w.heap.size + 1) #[.slice none 0 0, .slice none 0 0, .slice none 0 0, .slice none 0 0] 36 w1 := by
      have := (blk_new (w.alloc (.cells #[.slice none 0 0, .slice none 0 0, .slice none 0 0, .slice none 0 0] 36)) #[.slice none 0 0, .slice none 0 0, .slice none 0 0, .slice none 0 0] 36).alloc (.cells #[.slice none 0 0, .slice none 0 0, .slice none 0 0, .slice none 0 0] 36)
      rw [hw1]
      rw [show (w.alloc (.cells #[.slice none 0 0, .slice none 0 0, .slice none 0 0, .slice none 0 0] 36)).heap.size = w.heap.size + 1 by simp] at this
      exact this
    have k1 : Blk (w.heap.size + 1 + 1) #[.slice none 0 0, .slice none 0 0, .slice none 0 0, .slice none 0 0] 36 w1 := by
      have := blk_new ((w.alloc (.cells #[.slice none 0 0, .slice none 0 0, .slice none 0 0, .slice none 0 0] 36)).alloc (.cells #[.slice none 0 0, .slice none 0 0, .slice none 0 0, .slice none 0 0] 36)) #[.slice none 0 0, .slice none 0 0, .slice none 0 0, .slice none 0 0] 36
      rw [hw1]
      rw [show ((w.alloc (.cells #[.slice none 0 0, .slice none 0 0, .slice none 0 0, .slice none 0 0] 36)).alloc (.cells #[.slice none 0 0, .slice none 0 0, .slice none 0 0, .slice none 0 0] 36)).heap.size = w.heap.size + 1 + 1 by simp] at this
      exact this
    have K1 := Lib.hid k1
    have W1 := Lib.hid hw1
    have HC : Hid (∀ j, j < l.length → ∃ b off, a = some ⟨b, off, none⟩ ∧ ∀ W, Below (w.heap.size + 1 + 1) w1 W → W.cell? ⟨b, off + j, none⟩ = some (.string (bs (l.getD j [])))) := fun j hj => by
      rcases h.open with ⟨h0, _⟩ | ⟨_, b, off, cap', e, _, hlt, hc⟩
      · rw [h0] at hj; cases hj
      · injection e with e1 _ _
        exact ⟨b, off, e1, fun W hW => cell_later (b1.trans (hW.mono (by omega))) (hc j hj)⟩
    have BW : Hid (∀ W, Below (w.heap.size + 1 + 1) w1 W → Below w.heap.size w W) := fun W hW => b1.trans (hW.mono (by omega))
    have RW : Hid (∀ W, Below (w.heap.size + 1 + 1) w1 W → Blk w.heap.size #[.slice none 0 0, .slice none 0 0, .slice none 0 0, .slice none 0 0] 36 W) := fun W hW => r1.at (hW.block _ (by omega))
    have NW : Hid (∀ W, Below (w.heap.size + 1 + 1) w1 W → Blk (w.heap.size + 1) #[.slice none 0 0, .slice none 0 0, .slice none 0 0, .slice none 0 0] 36 W) := fun W hW => n1.at (hW.block _ (by omega))
    have SW : Hid (∀ W, Below (w.heap.size + 1 + 1) w1 W → w.heap.size + 3 ≤ W.heap.size) := fun W hW => by have := hW.size; omega
    have HX : Hid (∀ m ∈ defsR l, m.1.length ≤ maxLen ∧ m.2.length ≤ 4294967296) := fun m hm => by
      obtain ⟨s, hs, e⟩ := List.mem_filterMap.1 hm
      have h1 := defR_len e
      have h2 := hx s hs
      exact ⟨by unfold maxLen; omega, by omega⟩
    have ZL : Hid ((defsR l).length ≤ 200) := by have := defs_len l; show _ ≤ _; omega
    have XL : Hid (∀ j, j < l.length → (bs (l.getD j [])).size ≤ 4294967296) := fun j hj => by rw [bs_size]; exact hx _ (getD_mem hj)
    have LD : Hid (∀ j, j < l.length → l.drop j = l.getD j [] :: l.drop (j + 1)) := fun j hj => by
      rw [List.drop_eq_getElem_cons hj, List.getD, List.getElem?_eq_getElem hj]; rfl
    have DS : Hid (∀ k, k < l.length → defsR (l.take (k + 1)) = if (defR (l.getD k [])).isSome then defsR (l.take k) ++ [(dN (l.getD k []), dV (l.getD k []))] else defsR (l.take k)) := fun k hk => defs_step hk
    have DL : Hid (∀ k, (defsR (l.take k)).length ≤ k) := fun k => Nat.le_trans (defs_len _) (List.length_take_le _ _)
    have TL := Lib.hid (List.take_length (l := l))
    have PG := Lib.hid (parseF_go hl)
    have PF : Hid (∀ E, XErr (defsR l) E → parseF l = (([], [], [], []), 0, E)) := fun E hE => parseF_flat hl hE
    obtain ⟨i0, hi, hz0, hz1, hz2⟩ := info_parts infoMc
    have IH := Lib.hid hi
    clear h hx hl hi b1 r1 n1 k1 z1
    go_enter Tryz.func16, Tryz.ntmps16
    go_wp2_with fail
    rw [← W1.out]
    clear W1 hw1
    go_loopw [33] (fun i wr => ∃ (j : Nat) (vm : Value), j ≤ l.length ∧ i = .int .i64 (j : Int) ∧ Blk (w.heap.size + 1 + 1) #[vm, .slice none 0 0, .slice none 0 0, .slice none 0 0] 36 wr ∧ MO (w.heap.size + 1 + 1) vm (defsR (l.take j)) wr ∧ Below (w.heap.size + 1 + 1) w1 wr) (fun i _ => l.length - (intOf i).toNat)
    case atStart => exact ⟨0, _, Nat.zero_le _, rfl, K1.out, World.ownsRow_nil _ _ _ _, Below.refl _ _⟩
    case round =>
      obtain ⟨j, vm, hj, rfl, q1, q2, q3⟩ := hrel
      have Q1 := Lib.hid q1; have Q2 := Lib.hid q2; have Q3 := Lib.hid q3; clear q1 q2 q3
      by_cases hj2 : j < l.length
      · obtain ⟨b, off, rfl, hc⟩ := HC.out j hj2
        have c1 := hc wr Q3.out
        have XJ := Lib.hid (XL.out j hj2)
        have S1 := Lib.hid (DS.out j hj2)
        have ll := DL.out j
        generalize l.getD j [] = x at *
        clear hc
        have DF := Lib.hid (rdef_any (bs x) wr XJ.out)
        rw [bs_list] at DF
        go_wp2_with fail
        refine DF.out.mono ?_
        rintro e w5 ⟨rfl, hb5⟩
        generalize dN x = xa at *
        generalize dV x = xb at *
        have ba : Below w5.heap.size w5 (w5.alloc (.cells #[.string (bs xa), .string (bs xb)] 72)) := (Below.refl _ _).alloc (Nat.le_refl _) _
        have bb := hb5.trans (ba.mono hb5.size)
        have WW := SW.out wr Q3.out
        have B6 : Hid (Below (w.heap.size + 1 + 1) w1 (w5.alloc (.cells #[.string (bs xa), .string (bs xb)] 72))) := Q3.out.trans (bb.mono (by omega))
        have K6 := Lib.hid (Q1.out.later bb)
        have O6 : Hid (MO (w.heap.size + 1 + 1) vm (defsR (l.take j)) (w5.alloc (.cells #[.string (bs xa), .string (bs xb)] 72))) := own_later Q2.out bb
        have T6 := Lib.hid (blk_new w5 #[.string (bs xa), .string (bs xb)] 72)
        clear hb5 ba bb DF
        cases hq : (defR x).isSome
        · rw [hq] at S1
          clear hq
          go_wp2
          go_roundw
          case rel => exact ⟨j + 1, vm, by omega, by go_num, K6.out, by rw [S1.out]; exact O6.out, B6.out⟩
          case measure => simp [intOf]; omega
        · rw [hq] at S1
          clear hq
          have k0 := K6.out.cell (i := 0) rfl
          obtain ⟨t0, t1⟩ := show _ ∧ _ from ⟨T6.out.cell (i := 0) rfl, T6.out.cell (i := 1) rfl⟩
          have TN : Hid (∀ j u, [Value.string (bs xa), Value.string (bs xb)][j]? = some u → ((w5.alloc (.cells #[.string (bs xa), .string (bs xb)] 72)).alloc (.cells #[.string (bs xa), .string (bs xb)] 72)).cell? ((⟨w5.heap.size + 1, 0, none⟩ : Addr).add j) = some u) := fun j u hj => by
            have := two_new (w5.alloc (.cells #[.string (bs xa), .string (bs xb)] 72)) (.string (bs xa)) (.string (bs xb)) 72 j u hj
            rw [show (w5.alloc (.cells #[.string (bs xa), .string (bs xb)] 72)).heap.size = w5.heap.size + 1 by simp] at this
            exact this
          have OA : Hid (∀ o, ((w5.alloc (.cells #[.string (bs xa), .string (bs xb)] 72)).alloc o).ownsRow (w.heap.size + 1 + 1) 72 2 vm (defsR (l.take j)).length (mcCells (defsR (l.take j)))) := fun o => World.ownsRow.alloc O6.out o
          have SB := SW.out _ B6.out
          have SA : Hid (∀ o, w.heap.size + 1 + 1 ≤ ((w5.alloc (.cells #[.string (bs xa), .string (bs xb)] 72)).alloc o).heap.size) := fun o => by simp at SB ⊢; omega
          have BB : Hid (∀ o, Below (w.heap.size + 1 + 1) w1 ((w5.alloc (.cells #[.string (bs xa), .string (bs xb)] 72)).alloc o)) := fun o => B6.out.alloc (by omega) o
          have KK : Hid (∀ o, Blk (w.heap.size + 1 + 1) #[vm, .slice none 0 0, .slice none 0 0, .slice none 0 0] 36 ((w5.alloc (.cells #[.string (bs xa), .string (bs xb)] 72)).alloc o)) := fun o => K6.out.alloc o
          have LV : Hid (∀ j, vm.ownBlock = some j → w.heap.size + 1 + 1 ≤ j) := fun j hj => (O6.out.lt j hj).1
          clear SB
          go_wp2_with (at_builtin; go_must (refine wpList_append_own _ rfl (.tmp 44) (.tmp 46) 32 rfl (w.heap.size + 1 + 1) 72 i0 (.agg #[.string ByteArray.empty, .string ByteArray.empty]) 2 32 Tryz.underlying32 IH.out hz0 hz1 hz2 rfl (by decide) _ _ _ rfl (OA.out _) ⟨w5.heap.size + 1, 0, none⟩ 1 1 [.string (bs xa), .string (bs xb)] rfl rfl TN.out (by intro u hu; simp at hu; rcases hu with rfl | rfl <;> rfl) (by unfold maxLen; omega) (by omega) (SA.out _) ?_; intro v5 w7 q1 q2 q3; obtain ⟨a5, n5, c5, rfl⟩ := own_shape q1; have O5 := Lib.hid q1; have G5 := Lib.hid q2; have hk := blk_kept (KK.out _) (OA.out _) (by decide) q2; have K7 := Lib.hid hk; have k7 := hk.free 0; have k8 := hk.cell (i := 0) rfl; clear q1 q2 q3 hk))
          go_wp2
          go_roundw
          case rel => exact ⟨j + 1, _, by omega, by go_num, K7.out.set 0 _, by rw [S1.out, if_pos trivial]; exact set_blk (MO.snoc O5.out) K7.out (by decide) _, ((BB.out _).grown G5.out (SA.out _) LV.out).setCell (Nat.le_refl _) _⟩
          case measure => simp [intOf]; omega
      · obtain rfl : j = l.length := by omega
        rw [TL.out] at Q2
        obtain ⟨am, cm, rfl⟩ := own_len Q2.out
        have F3 : Hid (FIs (w.heap.size + 1 + 1) (w.heap.size + 1 + 1) (defsR l) ([], [], []) (.slice am (defsR l).length cm) (.slice none 0 0) (.slice none 0 0) (.slice none 0 0) [] wr) :=
          ⟨Q1.out, Q2.out, World.ownsRow_nil _ _ _ _, World.ownsRow_nil _ _ _ _, ⟨rfl, World.ownsRow_nil _ _ _ _, fun k p h => by simp at h, List.Pairwise.nil⟩, fun u hu => by simp [rcells] at hu, Nat.le_refl _, ⟨ZL.out, by decide, by decide, by decide⟩, fun y hy => absurd hy List.not_mem_nil⟩
        have FL := Lib.hid (rflat_any (defsR l) _ wr (McIn.own Q2.out (by have := ZL.out; omega)) HX.out)
        have k0 := Q1.out.cell (i := 0) rfl
        have HB := Lib.hid (show w.heap.size + 1 + 1 ≤ wr.heap.size by have := SW.out wr Q3.out; omega)
        have NB : Hid (w.heap.size + 1 ≠ w.heap.size + 1 + 1 ∧ w.heap.size ≠ w.heap.size + 1 + 1) := ⟨by omega, by omega⟩
        clear Q1 Q2 TL DS DL IH hz0 hz1 hz2 K1 SW
        generalize hz : defsR l = z at *
        clear hz
        generalize hB : w.heap.size + 1 + 1 = B at *
        clear hB
        generalize hN : w.heap.size + 1 = N at *
        clear hN
        go_wp2_with fail
        refine FL.out.mono ?_
        rintro e w4 ⟨hb4, h4⟩
        have B4 : Hid (Below B w1 w4) := Q3.out.trans (hb4.mono HB.out)
        have F4 := Lib.hid (F3.out.later hb4)
        clear hb4 FL k0 F3 HB Q3
        rcases h4 with ⟨hF, o, f, v4, ho, hE, hI, rfl⟩ | ⟨E, hE, rfl⟩
        · have PP := Lib.hid (PG.out hF)
          clear hF ho hE hI PF PG
          go_wp2_with fail
          go_loopw [62] (fun i wr => ∃ (j : Nat) (st : St) (vp vi vr : Value) (c : List (Value × Value)), j ≤ l.length ∧ i = .int .i64 (j : Int) ∧ FIs B B z st (.slice am z.length cm) vp vi vr c wr ∧ Below B w1 wr ∧ goL z 0 ([], [], []) l = goL z j st (l.drop j) ∧ st.1.length ≤ 20 ∧ st.2.1.length ≤ j ∧ ∀ r ∈ st.2.2, chkR r = 0) (fun i _ => l.length - (intOf i).toNat)
          case atStart => exact ⟨0, ([], [], []), _, _, _, _, Nat.zero_le _, rfl, F4.out, B4.out, rfl, by decide, by decide, fun r hr => absurd hr List.not_mem_nil⟩
          case round =>
            obtain ⟨j, st, vp, vi, vr, c, hj, rfl, q1, q2, q3, q4, q5, q6⟩ := hrel
            have Q1 := Lib.hid q1; have Q2 := Lib.hid q2; have Q3 := Lib.hid q3; have Q4 := Lib.hid q4; have Q5 := Lib.hid q5; have Q6 := Lib.hid q6
            clear q1 q2 q3 q4 q5 q6 F4 B4
            by_cases hj2 : j < l.length
            · obtain ⟨b, off, rfl, hc⟩ := HC.out j hj2
              have c1 := hc wr Q2.out
              have LJ := Lib.hid (LD.out j hj2)
              have XJ := Lib.hid (XL.out j hj2)
              generalize l.getD j [] = s at *
              clear hc
              have DF := Lib.hid (rdef_any (bs s) wr XJ.out)
              rw [bs_list] at DF
              go_wp2_with fail
              refine DF.out.mono ?_
              rintro e w5 ⟨rfl, hb5⟩
              generalize dN s = xa at *
              generalize dV s = xb at *
              have ba : Below w5.heap.size w5 (w5.alloc (.cells #[.string (bs xa), .string (bs xb)] 72)) := (Below.refl _ _).alloc (Nat.le_refl _) _
              have bb := hb5.trans (ba.mono hb5.size)
              have F6 := Lib.hid (Q1.out.later bb)
              have B6 : Hid (Below B w1 (w5.alloc (.cells #[.string (bs xa), .string (bs xb)] 72))) := Q2.out.trans (bb.mono Q1.out.base)
              clear hb5 ba bb DF
              cases hd : (defR s).isSome
              · have D0 : defR s = none := by
                  cases h : defR s with
                  | none => rfl
                  | some m => rw [h] at hd; cases hd
                have G0 := Q3.out
                rw [LJ.out] at G0
                have NEXT : Hid (∀ st', addL z st s = (0, st') → goL z 0 ([], [], []) l = goL z (j + 1) st' (l.drop (j + 1)) ∧ st'.1.length ≤ 20 ∧ st'.2.1.length ≤ j + 1 ∧ ∀ r ∈ st'.2.2, chkR r = 0) := fun st' hA => by
                  have hk : (addL z st s).1 = 0 := by rw [hA]
                  have g := G0
                  rw [goL_step D0 hk, hA] at g
                  obtain ⟨i1, i2, i3⟩ := addL_inv hk Q4.out Q6.out
                  rw [hA] at i1 i2 i3
                  exact ⟨g, i1, Nat.le_trans i2 (Nat.succ_le_succ Q5.out), i3⟩
                have STOP : Hid (∀ E st', addL z st s = (E, st') → E ≠ 0 → parseF l = (([], [], [], []), j + 1, E)) := fun E st' hA hE => by
                  have hk : (addL z st s).1 ≠ 0 := by rw [hA]; exact hE
                  have g := G0
                  rw [goL_bad D0 hk, hA] at g
                  rw [PP.out, g, if_pos hE]
                clear G0 D0 hd Q3
                have k0 := F6.out.blk.cell (i := 0) rfl
                have EX := Lib.hid (exd_any z s (.slice am z.length cm) _ (McIn.own F6.out.mac (by have := F6.out.bnd.1; omega)) HX.out (by have := XJ.out; rw [bs_size] at this; exact this))
                go_wp2_with fail
                refine EX.out.mono ?_
                intro e w7 h7
                obtain ⟨hb7, a7, E, rfl, hA⟩ := ans_of h7
                have B7 : Hid (Below B w1 w7) := B6.out.trans (hb7.mono F6.out.base)
                have F7 := Lib.hid (F6.out.later hb7)
                have XE := Lib.hid (expR_eq hA)
                have AL := Lib.hid (ans_len hA)
                clear h7 hb7 hA EX k0 F6 B6
                by_cases hE : E = 0
                · subst hE
                  have AD : Hid (addL z st s = if (parseR a7).2 ≠ 0 then ((parseR a7).2, st) else putL st (parseR a7).1) := by show _ = _; unfold addL; rw [XE.out]; rfl
                  have PA := Lib.hid (readO_any (bs a7) w7 (by rw [bs_size]; have := AL.out; omega))
                  rw [bs_list] at PA
                  go_wp2_with fail
                  refine PA.out.mono ?_
                  rintro e w8 ⟨vt, vn, rfl, ot, on', hap, hb8⟩
                  have B8 : Hid (Below B w1 w8) := B7.out.trans (hb8.mono F7.out.base)
                  have PF8 : Hid ((parseR a7).2 = 0 → chkR (parseR a7).1 = 0) := parse_fine
                  generalize parseR a7 = R at *
                  obtain ⟨⟨t, n⟩, E2⟩ := R
                  dsimp only at ot on' AD PF8
                  obtain ⟨at', ct, rfl⟩ := ot.len
                  obtain ⟨an, cn, rfl⟩ := on'.len
                  have ba : Below w8.heap.size w8 (w8.alloc (.cells #[.slice at' t.length ct, .slice an n.length cn] 82)) := (Below.refl _ _).alloc (Nat.le_refl _) _
                  have b9 : Below w7.heap.size w7 (w8.alloc (.cells #[.slice at' t.length ct, .slice an n.length cn] 82)) := hb8.trans (ba.mono hb8.size)
                  have s9 := blk_new w8 #[.slice at' t.length ct, .slice an n.length cn] 82
                  have OT := Lib.hid (own_later ot ba); have ON := Lib.hid (own_later on' ba); have AP := Lib.hid hap
                  obtain ⟨w9, hw9⟩ : ∃ w9, w9 = w8.alloc (.cells #[.slice at' t.length ct, .slice an n.length cn] 82) := ⟨_, rfl⟩
                  rw [← hw9] at b9 s9 OT ON
                  have S9 := Lib.hid s9
                  have N9 : Hid (w8.heap.size < w9.heap.size) := s9.lt
                  have B9 : Hid (Below B w1 w9) := B7.out.trans (b9.mono F7.out.base)
                  have F9 := Lib.hid (F7.out.later b9)
                  have L9 := Lib.hid b9
                  have W9 := Lib.hid hw9
                  clear ba b9 s9 ot on' hap hb8 PA B8
                  by_cases hE2 : E2 = 0
                  · subst hE2
                    have AD2 : Hid (addL z st s = putL st (t, n)) := AD.out
                    have CK := PF8.out rfl
                    obtain ⟨k1, k2, k3, k4, k5⟩ := chk_ok CK
                    have K4 := Lib.hid k4; have K5 := Lib.hid k5
                    dsimp only at k1 k2 k3
                    have ST := Lib.hid (SIn.own OT.out (by omega) (small_all k4))
                    have SN := Lib.hid (SIn.own ON.out (by omega) (small_all k5))
                    have PL := Lib.hid (place_of ST.out phonyW)
                    obtain ⟨d0, d1⟩ := show _ ∧ _ from ⟨S9.out.cell (i := 0) rfl, S9.out.cell (i := 1) rfl⟩
                    clear AD PF8 k4 k5 CK
                    go_wp2_with fail
                    rw [← W9.out]
                    clear W9 hw9
                    refine (show Calls Tryz.prog 46 #[.slice at' t.length ct, .string (ByteArray.mk #[46, 80, 72, 79, 78, 89])] w9 _ from PL.out).mono ?_
                    rintro e w' ⟨hpl, hw⟩
                    rw [hw]
                    clear hw
                    rcases hpl with ⟨i, hi, hx, rfl⟩ | ⟨hx, rfl⟩
                    · have hc : t.contains phonyW = true := List.contains_iff_mem.2 (by rw [← hx]; exact getD_mem hi)
                      have AD3 : Hid (addL z st s = phL st (t, n)) := by show _ = _; rw [AD2.out, putL, if_pos hc]; rfl
                      have t9 : decide (0 ≤ (i : Int)) = true := decide_eq_true (by omega)
                      clear hi hx hc AD2
                      by_cases h1 : 1 < t.length
                      · have AE : Hid (addL z st s = (3, st)) := by show _ = _; rw [AD3.out, phL, if_pos h1]
                        have z1 : ((t.length : Int) != 1) = true := by rw [bne_iff_ne]; omega
                        have PE := Lib.hid (STOP.out _ _ AE.out (by decide))
                        obtain ⟨n0, n1, n2, n3⟩ := show _ ∧ _ ∧ _ ∧ _ from ⟨(NW.out _ B9.out).cell (i := 0) rfl, (NW.out _ B9.out).cell (i := 1) rfl, (NW.out _ B9.out).cell (i := 2) rfl, (NW.out _ B9.out).cell (i := 3) rfl⟩
                        obtain ⟨p0, p1, p2, p3⟩ := show _ ∧ _ ∧ _ ∧ _ from ⟨(RW.out _ B9.out).free 0, (RW.out _ B9.out).free 1, (RW.out _ B9.out).free 2, (RW.out _ B9.out).free 3⟩
                        obtain ⟨r0, r1, r2, r3⟩ := show _ ∧ _ ∧ _ ∧ _ from ⟨(RW.out _ B9.out).cell (i := 0) rfl, (RW.out _ B9.out).cell (i := 1) rfl, (RW.out _ B9.out).cell (i := 2) rfl, (RW.out _ B9.out).cell (i := 3) rfl⟩
                        have BX := Lib.hid (BW.out _ B9.out)
                        go_wp2
                        (try simp only [Exit.inBlock, Exit.then])
                        refine bodyPost_ret (v := .tuple #[.agg #[.slice none 0 0, .slice none 0 0, .slice none 0 0, .slice none 0 0], .int .i64 ((j : Int) + 1), .int .i64 3]) ?_ rfl (PaPost.bad (n := j + 1) PE.out (by first | exact set4_below BX.out _ _ _ _ | exact BX.out))
                        rw [results_cell_tmp2 rfl]; go_simp
                      · have h1' : t.length = 1 := by omega
                        have z1 : ((t.length : Int) != 1) = false := by rw [h1']; rfl
                        have AD4 : Hid (addL z st s = if 20 < (phN st.1 n).length then (2, st) else (0, (phN st.1 n, st.2))) := by show _ = _; rw [AD3.out, phL, if_neg h1]
                        have PS : Hid (∀ m, m ≤ n.length → (phN st.1 (n.take m)).length ≤ 40 ∧ ∀ y ∈ phN st.1 (n.take m), y.length ≤ 40) := fun m hm => by
                          refine ⟨?_, fun y hy => ?_⟩
                          · have e1 := phN_len st.1 (n.take m); rw [List.length_take] at e1; have := Q4.out; omega
                          · rcases phN_mem _ _ hy with hy | hy
                            · exact F9.out.sml y hy
                            · exact (good_len (List.all_eq_true.1 K5.out y (List.mem_of_mem_take hy))).2
                        have STP : Hid (∀ m, m < n.length → phN st.1 (n.take (m + 1)) = addU (phN st.1 (n.take m)) (n.getD m [])) := fun m hm => phN_step _ hm
                        have TLn := Lib.hid (List.take_length (l := n))
                        have SMn : Hid (∀ y ∈ n, y.length ≤ 9223372036854775807) := small_all K5.out
                        have AV : Hid (Apart (.slice an n.length cn) vp) := fun j hj e => by have := (ON.out.lt j hj).1; have := (F7.out.pho.lt j e).2; omega
                        have ONB : Hid (SO B (.slice an n.length cn) n w9) := so_base ON.out F7.out.base
                        obtain ⟨s0, hs0, sz0, sz1, sz2⟩ := info_parts infoStr
                        have SH := Lib.hid hs0
                        clear hs0 AD3 h1 h1'
                        go_wp2_with fail
                        go_loopw [111] (fun i wi => ∃ (m : Nat) (vq : Value), m ≤ n.length ∧ i = .int .i64 (m : Int) ∧ FIs B B z (phN st.1 (n.take m), st.2) (.slice am z.length cm) vq vi vr c wi ∧ SO B (.slice an n.length cn) n wi ∧ Apart (.slice an n.length cn) vq ∧ Below B w1 wi) (fun i _ => n.length - (intOf i).toNat)
                        case atStart => exact ⟨0, vp, Nat.zero_le _, rfl, F9.out, ONB.out, AV.out, B9.out⟩
                        case round =>
                          obtain ⟨m, vq, hm, rfl, p1, p2, p3, p4⟩ := hrel
                          have P1 := Lib.hid p1; have P2 := Lib.hid p2; have P3 := Lib.hid p3; have P4 := Lib.hid p4
                          clear p1 p2 p3 p4
                          rename World => wi
                          by_cases hm2 : m < n.length
                          · have NI : SIn wi (.slice an n.length cn) n := SIn.own P2.out (by omega) SMn.out
                            obtain ⟨g, o, rfl, e0⟩ := NI.get hm2
                            have SM := Lib.hid (STP.out m hm2)
                            have PM := Lib.hid (PS.out m hm); have PM1 := Lib.hid (PS.out (m + 1) hm2)
                            generalize n.getD m [] = y at *
                            have VI := Lib.hid (place_of (SIn.own P1.out.pho (by have := PM.out.1; show (phN st.1 (n.take m)).length ≤ _; omega) (fun x hx => by have := PM.out.2 x hx; omega)) y)
                            have f1 := P1.out.blk.cell (i := 1) rfl
                            clear NI
                            go_wp2_with fail
                            refine VI.out.mono ?_
                            rintro e w' ⟨⟨i, hi, hx, rfl⟩ | ⟨hx, rfl⟩, hw⟩
                            · rw [hw]
                              have SE : Hid (phN st.1 (n.take (m + 1)) = phN st.1 (n.take m)) := by show _ = _; rw [SM.out, addU, if_pos (List.contains_iff_mem.2 (by rw [← hx]; exact getD_mem hi))]
                              have t8 : decide ((i : Int) < 0) = false := decide_eq_false (by omega)
                              clear hi hx hw
                              go_wp2
                              go_roundw
                              case rel => exact ⟨m + 1, vq, by omega, by go_num, by rw [SE.out]; exact P1.out, P2.out, P3.out, P4.out⟩
                              case measure => simp [intOf]; omega
                            · rw [hw]
                              have SE : Hid (phN st.1 (n.take (m + 1)) = phN st.1 (n.take m) ++ [y]) := by show _ = _; rw [SM.out, addU, if_neg (fun h => hx (List.contains_iff_mem.1 h))]
                              have OA : Hid (∀ o, (wi.alloc o).ownsRow B 9 1 vq (phN st.1 (n.take m)).length ((phN st.1 (n.take m)).map encStr)) := fun o => World.ownsRow.alloc P1.out.pho o
                              have SA : Hid (∀ o, B ≤ (wi.alloc o).heap.size) := fun o => by have := P1.out.base; simp; omega
                              have FA : Hid (∀ o, Blk B #[.slice am z.length cm, vq, vi, vr] 36 (wi.alloc o)) := fun o => P1.out.blk.alloc o
                              have pl := PM.out.1
                              clear hx hw
                              go_wp2_with (at_builtin; go_must (refine wpList_append_own_at _ rfl (.tmp 121) (.tmp 123) 27 rfl B 9 s0 (.string ByteArray.empty) 1 16 Tryz.underlying27 SH.out sz0 sz1 sz2 rfl (by decide) _ _ _ rfl (OA.out _) ⟨wi.heap.size, 0, none⟩ 1 1 [.string (bs y)] rfl rfl (cell_one' _ _ _) (by intro u hu; simp at hu; rcases hu with rfl; rfl) (by unfold maxLen; omega) (by omega) (SA.out _) ?_; intro v4 w4' q1 q2 q3 q4; obtain ⟨a4, n4, c4, rfl⟩ := own_shape q1; have O4 := Lib.hid q1; have G4 := Lib.hid q2; have P5 := Lib.hid q4; have hk := blk_kept (FA.out _) (OA.out _) (by decide) q2; have KX := Lib.hid hk; have k8 := hk.cell (i := 1) rfl; have k9 := hk.free 1; clear q1 q2 q3 q4 hk))
                              go_wp2
                              go_roundw
                              case rel =>
                                have g4 : wi.grownBy w4' vq.ownBlock := World.grownBy.trans (grown_alloc wi _ _) G4.out
                                have ow : Ow vq (.slice a4 n4 c4) wi := ow_at P5.out (by simp)
                                have h1 : (phN st.1 (n.take (m + 1))).length ≤ 40 := PM1.out.1
                                have h2 : ∀ y ∈ phN st.1 (n.take (m + 1)), y.length ≤ 40 := PM1.out.2
                                have h3 : SO B (.slice a4 n4 c4) (phN st.1 (n.take (m + 1))) w4' := by rw [SE.out]; exact SO.snoc O4.out
                                have h4 : FIs B B z (phN st.1 (n.take (m + 1)), st.2) (.slice am z.length cm) (.slice a4 n4 c4) vi vr c (w4'.setCell ⟨B, 1, none⟩ (.slice a4 n4 c4)) := FIs.ph (st := (phN st.1 (n.take m), st.2)) P1.out h3 g4 ow h1 h2
                                have h5 : SO B (.slice (some ⟨g, o, none⟩) n.length cn) n w4' := apart_kept P2.out g4 P3.out
                                have h6 : SO B (.slice (some ⟨g, o, none⟩) n.length cn) n (w4'.setCell ⟨B, 1, none⟩ (.slice a4 n4 c4)) := set_blk h5 KX.out (by decide) _
                                have h7 : Apart (.slice (some ⟨g, o, none⟩) n.length cn) (.slice a4 n4 c4) := fun j hj e => by
                                  rcases ow j e with q | q
                                  · exact P3.out j hj q
                                  · have := (P2.out.lt j hj).2; omega
                                have h8 : Below B w1 w4' := P4.out.grown g4 P1.out.base (fun j hj => (P1.out.pho.lt j hj).1)
                                exact ⟨m + 1, .slice a4 n4 c4, hm2, by go_num, h4, h6, h7, h8.setCell (Nat.le_refl _) _⟩
                              case measure => simp [intOf]; omega
                          · obtain rfl : m = n.length := by omega
                            rw [TLn.out] at P1
                            have f1 := P1.out.blk.cell (i := 1) rfl
                            have hpo : SO B vq (phN st.1 n) wi := P1.out.pho
                            obtain ⟨aq, cq, rfl⟩ := own_len hpo
                            clear hpo P2 P3 PS STP TLn
                            by_cases h20 : 20 < (phN st.1 n).length
                            · have AE : Hid (addL z st s = (2, st)) := by show _ = _; rw [AD4.out, if_pos h20]
                              have PE := Lib.hid (STOP.out _ _ AE.out (by decide))
                              obtain ⟨n0, n1, n2, n3⟩ := show _ ∧ _ ∧ _ ∧ _ from ⟨(NW.out _ P4.out).cell (i := 0) rfl, (NW.out _ P4.out).cell (i := 1) rfl, (NW.out _ P4.out).cell (i := 2) rfl, (NW.out _ P4.out).cell (i := 3) rfl⟩
                              obtain ⟨p0, p1, p2, p3⟩ := show _ ∧ _ ∧ _ ∧ _ from ⟨(RW.out _ P4.out).free 0, (RW.out _ P4.out).free 1, (RW.out _ P4.out).free 2, (RW.out _ P4.out).free 3⟩
                              obtain ⟨r0, r1, r2, r3⟩ := show _ ∧ _ ∧ _ ∧ _ from ⟨(RW.out _ P4.out).cell (i := 0) rfl, (RW.out _ P4.out).cell (i := 1) rfl, (RW.out _ P4.out).cell (i := 2) rfl, (RW.out _ P4.out).cell (i := 3) rfl⟩
                              have BX := Lib.hid (BW.out _ P4.out)
                              go_wp2
                              (try simp only [Exit.inBlock, Exit.then])
                              refine bodyPost_ret (v := .tuple #[.agg #[.slice none 0 0, .slice none 0 0, .slice none 0 0, .slice none 0 0], .int .i64 ((j : Int) + 1), .int .i64 2]) ?_ rfl (PaPost.bad (n := j + 1) PE.out (by first | exact set4_below BX.out _ _ _ _ | exact BX.out))
                              rw [results_cell_tmp2 rfl]; go_simp
                            · have AE : Hid (addL z st s = (0, (phN st.1 n, st.2))) := by show _ = _; rw [AD4.out, if_neg h20]
                              go_wp2
                              go_roundw
                              case rel =>
                                obtain ⟨x1, x2, x3, x4⟩ := NEXT.out _ AE.out
                                exact ⟨j + 1, _, _, _, _, _, by omega, by go_num, P1.out, P4.out, x1, x2, x3, x4⟩
                              case measure => simp [intOf]; omega
                    · have hc : t.contains phonyW = false := by rw [Bool.eq_false_iff]; exact fun h => hx (List.contains_iff_mem.1 h)
                      have AD3 : Hid (addL z st s = match infR (t, n) with
                          | some p => (0, (st.1, addU st.2.1 p, st.2.2))
                          | none => if 100 < st.2.2.length + 1 then (2, st) else (0, (st.1, st.2.1, st.2.2 ++ [(t, n)]))) := by show _ = _; rw [AD2.out, putL, if_neg (by rw [hc]; decide)]; cases infR (t, n) <;> rfl
                      clear hx hc AD2
                      obtain ⟨g, o, rfl, e0⟩ := ST.out.get (k := 0) k3
                      simp only [Nat.add_zero] at e0
                      have TG := (good_len (List.all_eq_true.1 K4.out _ (getD_mem k3))).2
                      have PO := Lib.hid (rpair_any (bs (t.getD 0 [])) w9 (by rw [bs_size]; omega))
                      rw [bs_list] at PO
                      have IF : Hid (infR (t, n) = if t.length = 1 ∧ n.length = 0 then pairR (t.getD 0 []) else none) := rfl
                      have PX : Hid (∀ p, pairR (t.getD 0 []) = some p → p = (pF (t.getD 0 []), pT (t.getD 0 []))) := fun p h => by unfold pF pT; rw [h]; rfl
                      clear TG ST SN PL
                      generalize t.getD 0 [] = tx at *
                      go_wp2_with fail
                      refine PO.out.mono ?_
                      rintro e w10 ⟨rfl, hb10⟩
                      generalize pF tx = xf at *
                      generalize pT tx = xt at *
                      have ba : Below w10.heap.size w10 (w10.alloc (.cells #[.string (bs xf), .string (bs xt)] 74)) := (Below.refl _ _).alloc (Nat.le_refl _) _
                      have b10 := hb10.trans (ba.mono hb10.size)
                      obtain ⟨w11, hw11⟩ : ∃ w11, w11 = w10.alloc (.cells #[.string (bs xf), .string (bs xt)] 74) := ⟨_, rfl⟩
                      have t11 := blk_new w10 #[.string (bs xf), .string (bs xt)] 74
                      rw [← hw11] at b10 t11
                      have T11 := Lib.hid t11
                      have F11 := Lib.hid (F9.out.later b10)
                      have S11 := Lib.hid (S9.out.later b10)
                      have OT11 : Hid (SO w7.heap.size (.slice (some ⟨g, o, none⟩) t.length ct) t w11) := own_later OT.out b10
                      have ON11 : Hid (SO w7.heap.size (.slice an n.length cn) n w11) := own_later ON.out b10
                      have L11 : Hid (Below w7.heap.size w7 w11) := L9.out.trans (b10.mono L9.out.size)
                      have B11 : Hid (Below B w1 w11) := B9.out.trans (b10.mono F9.out.base)
                      have W11 := Lib.hid hw11
                      clear ba b10 t11 hb10 PO F9 S9 OT ON B9 L9 d0 d1 e0
                      go_upto_region 38 with (fail)
                      rw [← W11.out]
                      clear W11 hw11
                      cases hz : (pairR tx).isSome
                      · have INo : Hid (infR (t, n) = none) := by
                          show _ = _
                          rw [IF.out]
                          cases h : pairR tx with
                          | none => split <;> rfl
                          | some p => rw [h] at hz; cases hz
                        clear IF PX hz
                        have AD4 : Hid (addL z st s = if 100 < st.2.2.length + 1 then (2, st) else (0, (st.1, st.2.1, st.2.2 ++ [(t, n)]))) := by show _ = _; rw [AD3.out, INo.out]
                        obtain ⟨d0, d1⟩ := show _ ∧ _ from ⟨S11.out.cell (i := 0) rfl, S11.out.cell (i := 1) rfl⟩
                        have f3 := F11.out.blk.cell (i := 3) rfl
                        have OA : Hid (∀ ob, (w11.alloc ob).ownsRow B 82 2 vr st.2.2.length (rcells c)) := fun ob => World.ownsRow.alloc F11.out.rul.2.1 ob
                        have SA : Hid (∀ ob, B ≤ (w11.alloc ob).heap.size) := fun ob => by have := F11.out.base; simp; omega
                        have FA : Hid (∀ ob, Blk B #[.slice am z.length cm, vp, vi, vr] 36 (w11.alloc ob)) := fun ob => F11.out.blk.alloc ob
                        have RL := F11.out.bnd.2.2.2
                        have BA : Hid (∀ ob, Below w7.heap.size w7 (w11.alloc ob)) := fun ob => L11.out.alloc L11.out.size ob
                        have BB : Hid (∀ ob, Below B w1 (w11.alloc ob)) := fun ob => B11.out.alloc F11.out.base ob
                        have OT12 : Hid (∀ ob, SO w7.heap.size (.slice (some ⟨g, o, none⟩) t.length ct) t (w11.alloc ob)) := fun ob => World.ownsRow.alloc OT11.out ob
                        have ON12 : Hid (∀ ob, SO w7.heap.size (.slice an n.length cn) n (w11.alloc ob)) := fun ob => World.ownsRow.alloc ON11.out ob
                        have LV : Hid (∀ j, vr.ownBlock = some j → B ≤ j) := fun j hj => (F11.out.rul.2.1.lt j hj).1
                        obtain ⟨j0, hj0, jz0, jz1, jz2⟩ := info_parts infoRl
                        have JI := Lib.hid hj0
                        clear hj0
                        by_cases h9 : 100 < st.2.2.length + 1
                        · have AE : Hid (addL z st s = (2, st)) := by show _ = _; rw [AD4.out, if_pos h9]
                          have PE := Lib.hid (STOP.out _ _ AE.out (by decide))
                          generalize hlr : st.2.2.length = lr at *
                          go_upto_region 48 with (at_builtin; go_must (refine wpList_append_own _ rfl (.tmp 178) (.tmp 180) 34 rfl B 82 j0 (.agg #[.slice none 0 0, .slice none 0 0]) 2 48 Tryz.underlying34 JI.out jz0 jz1 jz2 rfl (by decide) _ _ _ rfl (OA.out _) ⟨w11.heap.size, 0, none⟩ 1 1 [.slice (some ⟨g, o, none⟩) t.length ct, .slice an n.length cn] rfl rfl (cell_two' _ _ _ _ _ rfl) (by intro u hu; simp at hu; rcases hu with rfl | rfl <;> rfl) (by unfold maxLen; omega) (by omega) (SA.out _) ?_; intro v12 w12 q1 q2 q3; obtain ⟨a12, c12, rfl⟩ := own_len q1; have G12 := Lib.hid q2; have hk := blk_kept (FA.out _) (OA.out _) (by decide) q2; have k8 := hk.cell (i := 3) rfl; have k9 := hk.free 3; have K13 := Lib.hid (hk.set 3 (.slice a12 (lr + 1) c12)); have B13 : Hid (Below B w1 (w12.setCell ⟨B, 3, none⟩ (.slice a12 (lr + 1) c12))) := (((BB.out _).grown q2 (SA.out _) LV.out).setCell (Nat.le_refl _) _); clear q1 q2 q3 hk))
                          obtain ⟨w13, hw13⟩ : ∃ w13, w13 = w12.setCell ⟨B, 3, none⟩ (.slice a12 (lr + 1) c12) := ⟨_, rfl⟩
                          rw [← hw13] at B13 K13 ⊢
                          have k13 := K13.out.cell (i := 3) rfl
                          clear hw13 k8 k9
                          obtain ⟨n0, n1, n2, n3⟩ := show _ ∧ _ ∧ _ ∧ _ from ⟨(NW.out _ B13.out).cell (i := 0) rfl, (NW.out _ B13.out).cell (i := 1) rfl, (NW.out _ B13.out).cell (i := 2) rfl, (NW.out _ B13.out).cell (i := 3) rfl⟩
                          obtain ⟨p0, p1, p2, p3⟩ := show _ ∧ _ ∧ _ ∧ _ from ⟨(RW.out _ B13.out).free 0, (RW.out _ B13.out).free 1, (RW.out _ B13.out).free 2, (RW.out _ B13.out).free 3⟩
                          obtain ⟨r0, r1, r2, r3⟩ := show _ ∧ _ ∧ _ ∧ _ from ⟨(RW.out _ B13.out).cell (i := 0) rfl, (RW.out _ B13.out).cell (i := 1) rfl, (RW.out _ B13.out).cell (i := 2) rfl, (RW.out _ B13.out).cell (i := 3) rfl⟩
                          have BX := Lib.hid (BW.out _ B13.out)
                          go_wp2
                          (try simp only [Exit.inBlock, Exit.then])
                          refine bodyPost_ret (v := .tuple #[.agg #[.slice none 0 0, .slice none 0 0, .slice none 0 0, .slice none 0 0], .int .i64 ((j : Int) + 1), .int .i64 2]) ?_ rfl (PaPost.bad (n := j + 1) PE.out (by first | exact set4_below BX.out _ _ _ _ | exact BX.out))
                          rw [results_cell_tmp2 rfl]; go_simp
                        · have AE : Hid (addL z st s = (0, (st.1, st.2.1, st.2.2 ++ [(t, n)]))) := by show _ = _; rw [AD4.out, if_neg h9]
                          have HR : Hid (∀ (w2 : World) (v : Value) ob, (w11.alloc ob).grownBy w2 vr.ownBlock → w2.ownsRow B 82 2 v (st.2.2.length + 1) (rcells c ++ [.slice (some ⟨g, o, none⟩) t.length ct, .slice an n.length cn]) → FIs B B z (st.1, st.2.1, st.2.2 ++ [(t, n)]) (.slice am z.length cm) vp vi v (c ++ [(.slice (some ⟨g, o, none⟩) t.length ct, .slice an n.length cn)]) (w2.setCell ⟨B, 3, none⟩ v)) := fun w2 v ob gg qq => F7.out.rules (BA.out ob) (OT12.out ob) (ON12.out ob) AP.out gg qq (by omega)
                          generalize hlr : st.2.2.length = lr at *
                          go_wp2_with (at_builtin; go_must (refine wpList_append_own _ rfl (.tmp 178) (.tmp 180) 34 rfl B 82 j0 (.agg #[.slice none 0 0, .slice none 0 0]) 2 48 Tryz.underlying34 JI.out jz0 jz1 jz2 rfl (by decide) _ _ _ rfl (OA.out _) ⟨w11.heap.size, 0, none⟩ 1 1 [.slice (some ⟨g, o, none⟩) t.length ct, .slice an n.length cn] rfl rfl (cell_two' _ _ _ _ _ rfl) (by intro u hu; simp at hu; rcases hu with rfl | rfl <;> rfl) (by unfold maxLen; omega) (by omega) (SA.out _) ?_; intro v12 w12 q1 q2 q3; obtain ⟨a12, c12, rfl⟩ := own_len q1; have F13 := Lib.hid (HR.out _ _ _ q2 q1); have hk := blk_kept (FA.out _) (OA.out _) (by decide) q2; have k8 := hk.cell (i := 3) rfl; have k9 := hk.free 3; have B13 : Hid (Below B w1 (w12.setCell ⟨B, 3, none⟩ (.slice a12 (lr + 1) c12))) := (((BB.out _).grown q2 (SA.out _) LV.out).setCell (Nat.le_refl _) _); clear q1 q2 q3 hk))
                          go_wp2
                          go_roundw
                          case rel =>
                            obtain ⟨x1, x2, x3, x4⟩ := NEXT.out _ AE.out
                            exact ⟨j + 1, _, _, _, _, _, by omega, by go_num, F13.out, B13.out, x1, x2, x3, x4⟩
                          case measure => simp [intOf]; omega
                      · by_cases l1 : t.length = 1
                        · by_cases l0 : n.length = 0
                          · have IYes : Hid (infR (t, n) = pairR tx) := by show _ = _; rw [IF.out, if_pos ⟨l1, l0⟩]
                            have u1 : ((t.length : Int) == 1) = true := by rw [l1]; rfl
                            have u0 : ((n.length : Int) == 0) = true := by rw [l0]; rfl
                            clear IF l1 l0
                            obtain ⟨p, hp⟩ := Option.isSome_iff_exists.1 hz
                            have hpe := PX.out p hp
                            subst hpe
                            have AD4 : Hid (addL z st s = (0, (st.1, addU st.2.1 (xf, xt), st.2.2))) := by show _ = _; rw [AD3.out, IYes.out, hp]
                            obtain ⟨ai, ci, rfl⟩ := own_len F11.out.inf
                            have f2 := F11.out.blk.cell (i := 2) rfl
                            have IL := F11.out.bnd.2.2.1
                            obtain ⟨d0, d1⟩ := show _ ∧ _ from ⟨S11.out.cell (i := 0) rfl, S11.out.cell (i := 1) rfl⟩
                            have MI : McIn w11 (.slice ai st.2.1.length ci) st.2.1 := McIn.ownI F11.out.inf (by omega)
                            have HI2 : Hid (∀ W, Below w11.heap.size w11 W → ∀ k, k < st.2.1.length → ∃ b off, ai = some ⟨b, off, none⟩ ∧ W.cell? ⟨b, off + k * 2, none⟩ = some (.string (bs (nm st.2.1 k))) ∧ W.cell? ⟨b, off + k * 2 + 1, none⟩ = some (.string (bs (vl st.2.1 k)))) := fun W hW k hk => (MI.later hW).get hk
                            have CT : Hid (∀ k, k < st.2.1.length → (st.2.1.take (k + 1)).contains (xf, xt) = ((st.2.1.take k).contains (xf, xt) || decide ((xf, xt) = (nm st.2.1 k, vl st.2.1 k)))) := fun k hk => contains_take (at_some hk)
                            have TLi := Lib.hid (List.take_length (l := st.2.1))
                            clear MI hz hp AD3 IYes PX
                            generalize hnf : nm st.2.1 = nf at *
                            generalize hvf : vl st.2.1 = vf at *
                            clear hnf hvf
                            go_wp2_with fail
                            go_loopw [24, 158] (fun th i wi => ∃ m : Nat, m ≤ st.2.1.length ∧ i = .int .i64 (m : Int) ∧ th = .bool ((st.2.1.take m).contains (xf, xt)) ∧ Below w11.heap.size w11 wi) (fun _ i _ => st.2.1.length - (intOf i).toNat)
                            case atStart => exact ⟨0, Nat.zero_le _, rfl, rfl, Below.refl _ _⟩
                            case round =>
                              obtain ⟨m, hm, rfl, rfl, p4⟩ := hrel
                              have P4 := Lib.hid p4
                              clear p4
                              rename World => wi
                              by_cases hm2 : m < st.2.1.length
                              · obtain ⟨b, off, rfl, e0, e1⟩ := HI2.out wi P4.out m hm2
                                have CM := Lib.hid (CT.out m hm2)
                                generalize nf m = yf at *
                                generalize vf m = yt at *
                                have ba : Below wi.heap.size wi (wi.alloc (.cells #[.string (bs yf), .string (bs yt)] 74)) := (Below.refl _ _).alloc (Nat.le_refl _) _
                                have TX := Lib.hid ((T11.out.later P4.out).later ba)
                                have TY := Lib.hid (blk_new wi #[.string (bs yf), .string (bs yt)] 74)
                                have P5 : Hid (Below w11.heap.size w11 (wi.alloc (.cells #[.string (bs yf), .string (bs yt)] 74))) := P4.out.trans (ba.mono P4.out.size)
                                obtain ⟨t0, t1⟩ := show _ ∧ _ from ⟨TX.out.cell (i := 0) rfl, TX.out.cell (i := 1) rfl⟩
                                obtain ⟨y0, y1⟩ := show _ ∧ _ from ⟨TY.out.cell (i := 0) rfl, TY.out.cell (i := 1) rfl⟩
                                have g1 : ((bs xf).toList == (bs yf).toList) = decide (xf = yf) := by rw [bs_toList, bs_toList, beq_dec]
                                have g2 : ((bs xt).toList == (bs yt).toList) = decide (xt = yt) := by rw [bs_toList, bs_toList, beq_dec]
                                clear ba
                                cases hth : (st.2.1.take m).contains (xf, xt)
                                · rw [hth, Bool.false_or] at CM
                                  clear hth
                                  by_cases hx : xf = yf
                                  · by_cases hy : xt = yt
                                    · have CE : Hid ((st.2.1.take (m + 1)).contains (xf, xt) = true) := by show _ = _; rw [CM.out]; exact decide_eq_true (by rw [hx, hy])
                                      rw [decide_eq_true hx] at g1
                                      rw [decide_eq_true hy] at g2
                                      clear hx hy
                                      go_wp2
                                      go_roundw
                                      case rel => exact ⟨m + 1, by omega, by go_num, by rw [CE.out]; try rfl, P5.out⟩
                                      case measure => simp [intOf]; omega
                                    · have CE : Hid ((st.2.1.take (m + 1)).contains (xf, xt) = false) := by show _ = _; rw [CM.out]; exact decide_eq_false fun e => hy (Prod.mk.inj e).2
                                      rw [decide_eq_true hx] at g1
                                      rw [decide_eq_false hy] at g2
                                      clear hx hy
                                      go_wp2
                                      go_roundw
                                      case rel => exact ⟨m + 1, by omega, by go_num, by rw [CE.out]; try rfl, P5.out⟩
                                      case measure => simp [intOf]; omega
                                  · have CE : Hid ((st.2.1.take (m + 1)).contains (xf, xt) = false) := by show _ = _; rw [CM.out]; exact decide_eq_false fun e => hx (Prod.mk.inj e).1
                                    rw [decide_eq_false hx] at g1
                                    clear hx
                                    go_wp2
                                    go_roundw
                                    case rel => exact ⟨m + 1, by omega, by go_num, by rw [CE.out]; try rfl, P5.out⟩
                                    case measure => simp [intOf]; omega
                                · have CE : Hid ((st.2.1.take (m + 1)).contains (xf, xt) = true) := by show _ = _; rw [CM.out, hth]; rfl
                                  clear hth
                                  go_wp2
                                  go_roundw
                                  case rel => exact ⟨m + 1, by omega, by go_num, by rw [CE.out]; try rfl, P5.out⟩
                                  case measure => simp [intOf]; omega
                              · obtain rfl : m = st.2.1.length := by omega
                                rw [TLi.out]
                                have F14 := Lib.hid (F11.out.later P4.out)
                                have B14 : Hid (Below B w1 wi) := B11.out.trans (P4.out.mono F11.out.base)
                                have T14 := Lib.hid (T11.out.later P4.out)
                                clear HI2 CT TLi
                                cases hth : st.2.1.contains (xf, xt)
                                · have AE : Hid (addL z st s = (0, (st.1, st.2.1 ++ [(xf, xt)], st.2.2))) := by show _ = _; rw [AD4.out, addU, hth]; rfl
                                  clear hth AD4
                                  obtain ⟨t0, t1⟩ := show _ ∧ _ from ⟨T14.out.cell (i := 0) rfl, T14.out.cell (i := 1) rfl⟩
                                  have f5 := F14.out.blk.cell (i := 2) rfl
                                  have OA : Hid (∀ o, (wi.alloc o).ownsRow B 74 2 (.slice ai st.2.1.length ci) st.2.1.length (mcCells st.2.1)) := fun o => World.ownsRow.alloc F14.out.inf o
                                  have SA : Hid (∀ o, B ≤ (wi.alloc o).heap.size) := fun o => by have := F14.out.base; simp; omega
                                  have FA : Hid (∀ o, Blk B #[.slice am z.length cm, vp, .slice ai st.2.1.length ci, vr] 36 (wi.alloc o)) := fun o => F14.out.blk.alloc o
                                  have BB : Hid (∀ o, Below B w1 (wi.alloc o)) := fun o => B14.out.alloc F14.out.base o
                                  have LV : Hid (∀ j, (Value.slice ai st.2.1.length ci).ownBlock = some j → B ≤ j) := fun j hj => (F14.out.inf.lt j hj).1
                                  have Q5' := Q5.out
                                  obtain ⟨f0, hf0, fz0, fz1, fz2⟩ := info_parts infoInf
                                  have FI := Lib.hid hf0
                                  clear hf0
                                  go_wp2_with (at_builtin; go_must (refine wpList_append_own_at _ rfl (.tmp 172) (.tmp 174) 33 rfl B 74 f0 (.agg #[.string ByteArray.empty, .string ByteArray.empty]) 2 32 Tryz.underlying33 FI.out fz0 fz1 fz2 rfl (by decide) _ _ _ rfl (OA.out _) ⟨wi.heap.size, 0, none⟩ 1 1 [.string (bs xf), .string (bs xt)] rfl rfl (two_new _ _ _ _) (by intro u hu; simp at hu; rcases hu with rfl | rfl <;> rfl) (by unfold maxLen; omega) (by omega) (SA.out _) ?_; intro v15 w15 q1 q2 q3 q4; obtain ⟨a15, c15, rfl⟩ := own_len q1; have F15 := Lib.hid (F14.out.pairs (snocI q1) (World.grownBy.trans (grown_alloc _ _ _) q2) (by rw [List.length_append, List.length_singleton]; omega)); have hk := blk_kept (FA.out _) (OA.out _) (by decide) q2; have k8 := hk.cell (i := 2) rfl; have k9 := hk.free 2; have B15 : Hid (Below B w1 (w15.setCell ⟨B, 2, none⟩ (.slice a15 (st.2.1.length + 1) c15))) := (((BB.out _).grown q2 (SA.out _) LV.out).setCell (Nat.le_refl _) _); clear q1 q2 q3 q4 hk))
                                  go_wp2
                                  go_roundw
                                  case rel =>
                                    obtain ⟨x1, x2, x3, x4⟩ := NEXT.out _ AE.out
                                    exact ⟨j + 1, _, _, _, _, _, by omega, by go_num, F15.out, B15.out, x1, x2, x3, x4⟩
                                  case measure => simp [intOf]; omega
                                · have AE : Hid (addL z st s = (0, st)) := by show _ = _; rw [AD4.out, addU, hth]; rfl
                                  clear hth AD4
                                  go_wp2
                                  go_roundw
                                  case rel =>
                                    obtain ⟨x1, x2, x3, x4⟩ := NEXT.out _ AE.out
                                    exact ⟨j + 1, _, _, _, _, _, by omega, by go_num, F14.out, B14.out, x1, x2, x3, x4⟩
                                  case measure => simp [intOf]; omega
                          · have INo : Hid (infR (t, n) = none) := by show _ = _; rw [IF.out, if_neg (fun e => l0 e.2)]
                            have u1 : ((t.length : Int) == 1) = true := by rw [l1]; rfl
                            have u0 : ((n.length : Int) == 0) = false := by rw [beq_eq_false_iff_ne]; omega
                            clear IF PX hz l1 l0
                            have AD4 : Hid (addL z st s = if 100 < st.2.2.length + 1 then (2, st) else (0, (st.1, st.2.1, st.2.2 ++ [(t, n)]))) := by show _ = _; rw [AD3.out, INo.out]
                            obtain ⟨d0, d1⟩ := show _ ∧ _ from ⟨S11.out.cell (i := 0) rfl, S11.out.cell (i := 1) rfl⟩
                            have f3 := F11.out.blk.cell (i := 3) rfl
                            have OA : Hid (∀ ob, (w11.alloc ob).ownsRow B 82 2 vr st.2.2.length (rcells c)) := fun ob => World.ownsRow.alloc F11.out.rul.2.1 ob
                            have SA : Hid (∀ ob, B ≤ (w11.alloc ob).heap.size) := fun ob => by have := F11.out.base; simp; omega
                            have FA : Hid (∀ ob, Blk B #[.slice am z.length cm, vp, vi, vr] 36 (w11.alloc ob)) := fun ob => F11.out.blk.alloc ob
                            have RL := F11.out.bnd.2.2.2
                            have BA : Hid (∀ ob, Below w7.heap.size w7 (w11.alloc ob)) := fun ob => L11.out.alloc L11.out.size ob
                            have BB : Hid (∀ ob, Below B w1 (w11.alloc ob)) := fun ob => B11.out.alloc F11.out.base ob
                            have OT12 : Hid (∀ ob, SO w7.heap.size (.slice (some ⟨g, o, none⟩) t.length ct) t (w11.alloc ob)) := fun ob => World.ownsRow.alloc OT11.out ob
                            have ON12 : Hid (∀ ob, SO w7.heap.size (.slice an n.length cn) n (w11.alloc ob)) := fun ob => World.ownsRow.alloc ON11.out ob
                            have LV : Hid (∀ j, vr.ownBlock = some j → B ≤ j) := fun j hj => (F11.out.rul.2.1.lt j hj).1
                            obtain ⟨j0, hj0, jz0, jz1, jz2⟩ := info_parts infoRl
                            have JI := Lib.hid hj0
                            clear hj0
                            by_cases h9 : 100 < st.2.2.length + 1
                            · have AE : Hid (addL z st s = (2, st)) := by show _ = _; rw [AD4.out, if_pos h9]
                              have PE := Lib.hid (STOP.out _ _ AE.out (by decide))
                              generalize hlr : st.2.2.length = lr at *
                              go_upto_region 48 with (at_builtin; go_must (refine wpList_append_own _ rfl (.tmp 178) (.tmp 180) 34 rfl B 82 j0 (.agg #[.slice none 0 0, .slice none 0 0]) 2 48 Tryz.underlying34 JI.out jz0 jz1 jz2 rfl (by decide) _ _ _ rfl (OA.out _) ⟨w11.heap.size, 0, none⟩ 1 1 [.slice (some ⟨g, o, none⟩) t.length ct, .slice an n.length cn] rfl rfl (cell_two' _ _ _ _ _ rfl) (by intro u hu; simp at hu; rcases hu with rfl | rfl <;> rfl) (by unfold maxLen; omega) (by omega) (SA.out _) ?_; intro v12 w12 q1 q2 q3; obtain ⟨a12, c12, rfl⟩ := own_len q1; have G12 := Lib.hid q2; have hk := blk_kept (FA.out _) (OA.out _) (by decide) q2; have k8 := hk.cell (i := 3) rfl; have k9 := hk.free 3; have K13 := Lib.hid (hk.set 3 (.slice a12 (lr + 1) c12)); have B13 : Hid (Below B w1 (w12.setCell ⟨B, 3, none⟩ (.slice a12 (lr + 1) c12))) := (((BB.out _).grown q2 (SA.out _) LV.out).setCell (Nat.le_refl _) _); clear q1 q2 q3 hk))
                              obtain ⟨w13, hw13⟩ : ∃ w13, w13 = w12.setCell ⟨B, 3, none⟩ (.slice a12 (lr + 1) c12) := ⟨_, rfl⟩
                              rw [← hw13] at B13 K13 ⊢
                              have k13 := K13.out.cell (i := 3) rfl
                              clear hw13 k8 k9
                              obtain ⟨n0, n1, n2, n3⟩ := show _ ∧ _ ∧ _ ∧ _ from ⟨(NW.out _ B13.out).cell (i := 0) rfl, (NW.out _ B13.out).cell (i := 1) rfl, (NW.out _ B13.out).cell (i := 2) rfl, (NW.out _ B13.out).cell (i := 3) rfl⟩
                              obtain ⟨p0, p1, p2, p3⟩ := show _ ∧ _ ∧ _ ∧ _ from ⟨(RW.out _ B13.out).free 0, (RW.out _ B13.out).free 1, (RW.out _ B13.out).free 2, (RW.out _ B13.out).free 3⟩
                              obtain ⟨r0, r1, r2, r3⟩ := show _ ∧ _ ∧ _ ∧ _ from ⟨(RW.out _ B13.out).cell (i := 0) rfl, (RW.out _ B13.out).cell (i := 1) rfl, (RW.out _ B13.out).cell (i := 2) rfl, (RW.out _ B13.out).cell (i := 3) rfl⟩
                              have BX := Lib.hid (BW.out _ B13.out)
                              go_wp2
                              (try simp only [Exit.inBlock, Exit.then])
                              refine bodyPost_ret (v := .tuple #[.agg #[.slice none 0 0, .slice none 0 0, .slice none 0 0, .slice none 0 0], .int .i64 ((j : Int) + 1), .int .i64 2]) ?_ rfl (PaPost.bad (n := j + 1) PE.out (by first | exact set4_below BX.out _ _ _ _ | exact BX.out))
                              rw [results_cell_tmp2 rfl]; go_simp
                            · have AE : Hid (addL z st s = (0, (st.1, st.2.1, st.2.2 ++ [(t, n)]))) := by show _ = _; rw [AD4.out, if_neg h9]
                              have HR : Hid (∀ (w2 : World) (v : Value) ob, (w11.alloc ob).grownBy w2 vr.ownBlock → w2.ownsRow B 82 2 v (st.2.2.length + 1) (rcells c ++ [.slice (some ⟨g, o, none⟩) t.length ct, .slice an n.length cn]) → FIs B B z (st.1, st.2.1, st.2.2 ++ [(t, n)]) (.slice am z.length cm) vp vi v (c ++ [(.slice (some ⟨g, o, none⟩) t.length ct, .slice an n.length cn)]) (w2.setCell ⟨B, 3, none⟩ v)) := fun w2 v ob gg qq => F7.out.rules (BA.out ob) (OT12.out ob) (ON12.out ob) AP.out gg qq (by omega)
                              generalize hlr : st.2.2.length = lr at *
                              go_wp2_with (at_builtin; go_must (refine wpList_append_own _ rfl (.tmp 178) (.tmp 180) 34 rfl B 82 j0 (.agg #[.slice none 0 0, .slice none 0 0]) 2 48 Tryz.underlying34 JI.out jz0 jz1 jz2 rfl (by decide) _ _ _ rfl (OA.out _) ⟨w11.heap.size, 0, none⟩ 1 1 [.slice (some ⟨g, o, none⟩) t.length ct, .slice an n.length cn] rfl rfl (cell_two' _ _ _ _ _ rfl) (by intro u hu; simp at hu; rcases hu with rfl | rfl <;> rfl) (by unfold maxLen; omega) (by omega) (SA.out _) ?_; intro v12 w12 q1 q2 q3; obtain ⟨a12, c12, rfl⟩ := own_len q1; have F13 := Lib.hid (HR.out _ _ _ q2 q1); have hk := blk_kept (FA.out _) (OA.out _) (by decide) q2; have k8 := hk.cell (i := 3) rfl; have k9 := hk.free 3; have B13 : Hid (Below B w1 (w12.setCell ⟨B, 3, none⟩ (.slice a12 (lr + 1) c12))) := (((BB.out _).grown q2 (SA.out _) LV.out).setCell (Nat.le_refl _) _); clear q1 q2 q3 hk))
                              go_wp2
                              go_roundw
                              case rel =>
                                obtain ⟨x1, x2, x3, x4⟩ := NEXT.out _ AE.out
                                exact ⟨j + 1, _, _, _, _, _, by omega, by go_num, F13.out, B13.out, x1, x2, x3, x4⟩
                              case measure => simp [intOf]; omega
                        · have INo : Hid (infR (t, n) = none) := by show _ = _; rw [IF.out, if_neg (fun e => l1 e.1)]
                          have u1 : ((t.length : Int) == 1) = false := by rw [beq_eq_false_iff_ne]; omega
                          clear IF PX hz l1
                          have AD4 : Hid (addL z st s = if 100 < st.2.2.length + 1 then (2, st) else (0, (st.1, st.2.1, st.2.2 ++ [(t, n)]))) := by show _ = _; rw [AD3.out, INo.out]
                          obtain ⟨d0, d1⟩ := show _ ∧ _ from ⟨S11.out.cell (i := 0) rfl, S11.out.cell (i := 1) rfl⟩
                          have f3 := F11.out.blk.cell (i := 3) rfl
                          have OA : Hid (∀ ob, (w11.alloc ob).ownsRow B 82 2 vr st.2.2.length (rcells c)) := fun ob => World.ownsRow.alloc F11.out.rul.2.1 ob
                          have SA : Hid (∀ ob, B ≤ (w11.alloc ob).heap.size) := fun ob => by have := F11.out.base; simp; omega
                          have FA : Hid (∀ ob, Blk B #[.slice am z.length cm, vp, vi, vr] 36 (w11.alloc ob)) := fun ob => F11.out.blk.alloc ob
                          have RL := F11.out.bnd.2.2.2
                          have BA : Hid (∀ ob, Below w7.heap.size w7 (w11.alloc ob)) := fun ob => L11.out.alloc L11.out.size ob
                          have BB : Hid (∀ ob, Below B w1 (w11.alloc ob)) := fun ob => B11.out.alloc F11.out.base ob
                          have OT12 : Hid (∀ ob, SO w7.heap.size (.slice (some ⟨g, o, none⟩) t.length ct) t (w11.alloc ob)) := fun ob => World.ownsRow.alloc OT11.out ob
                          have ON12 : Hid (∀ ob, SO w7.heap.size (.slice an n.length cn) n (w11.alloc ob)) := fun ob => World.ownsRow.alloc ON11.out ob
                          have LV : Hid (∀ j, vr.ownBlock = some j → B ≤ j) := fun j hj => (F11.out.rul.2.1.lt j hj).1
                          obtain ⟨j0, hj0, jz0, jz1, jz2⟩ := info_parts infoRl
                          have JI := Lib.hid hj0
                          clear hj0
                          by_cases h9 : 100 < st.2.2.length + 1
                          · have AE : Hid (addL z st s = (2, st)) := by show _ = _; rw [AD4.out, if_pos h9]
                            have PE := Lib.hid (STOP.out _ _ AE.out (by decide))
                            generalize hlr : st.2.2.length = lr at *
                            go_upto_region 48 with (at_builtin; go_must (refine wpList_append_own _ rfl (.tmp 178) (.tmp 180) 34 rfl B 82 j0 (.agg #[.slice none 0 0, .slice none 0 0]) 2 48 Tryz.underlying34 JI.out jz0 jz1 jz2 rfl (by decide) _ _ _ rfl (OA.out _) ⟨w11.heap.size, 0, none⟩ 1 1 [.slice (some ⟨g, o, none⟩) t.length ct, .slice an n.length cn] rfl rfl (cell_two' _ _ _ _ _ rfl) (by intro u hu; simp at hu; rcases hu with rfl | rfl <;> rfl) (by unfold maxLen; omega) (by omega) (SA.out _) ?_; intro v12 w12 q1 q2 q3; obtain ⟨a12, c12, rfl⟩ := own_len q1; have G12 := Lib.hid q2; have hk := blk_kept (FA.out _) (OA.out _) (by decide) q2; have k8 := hk.cell (i := 3) rfl; have k9 := hk.free 3; have K13 := Lib.hid (hk.set 3 (.slice a12 (lr + 1) c12)); have B13 : Hid (Below B w1 (w12.setCell ⟨B, 3, none⟩ (.slice a12 (lr + 1) c12))) := (((BB.out _).grown q2 (SA.out _) LV.out).setCell (Nat.le_refl _) _); clear q1 q2 q3 hk))
                            obtain ⟨w13, hw13⟩ : ∃ w13, w13 = w12.setCell ⟨B, 3, none⟩ (.slice a12 (lr + 1) c12) := ⟨_, rfl⟩
                            rw [← hw13] at B13 K13 ⊢
                            have k13 := K13.out.cell (i := 3) rfl
                            clear hw13 k8 k9
                            obtain ⟨n0, n1, n2, n3⟩ := show _ ∧ _ ∧ _ ∧ _ from ⟨(NW.out _ B13.out).cell (i := 0) rfl, (NW.out _ B13.out).cell (i := 1) rfl, (NW.out _ B13.out).cell (i := 2) rfl, (NW.out _ B13.out).cell (i := 3) rfl⟩
                            obtain ⟨p0, p1, p2, p3⟩ := show _ ∧ _ ∧ _ ∧ _ from ⟨(RW.out _ B13.out).free 0, (RW.out _ B13.out).free 1, (RW.out _ B13.out).free 2, (RW.out _ B13.out).free 3⟩
                            obtain ⟨r0, r1, r2, r3⟩ := show _ ∧ _ ∧ _ ∧ _ from ⟨(RW.out _ B13.out).cell (i := 0) rfl, (RW.out _ B13.out).cell (i := 1) rfl, (RW.out _ B13.out).cell (i := 2) rfl, (RW.out _ B13.out).cell (i := 3) rfl⟩
                            have BX := Lib.hid (BW.out _ B13.out)
                            go_wp2
                            (try simp only [Exit.inBlock, Exit.then])
                            refine bodyPost_ret (v := .tuple #[.agg #[.slice none 0 0, .slice none 0 0, .slice none 0 0, .slice none 0 0], .int .i64 ((j : Int) + 1), .int .i64 2]) ?_ rfl (PaPost.bad (n := j + 1) PE.out (by first | exact set4_below BX.out _ _ _ _ | exact BX.out))
                            rw [results_cell_tmp2 rfl]; go_simp
                          · have AE : Hid (addL z st s = (0, (st.1, st.2.1, st.2.2 ++ [(t, n)]))) := by show _ = _; rw [AD4.out, if_neg h9]
                            have HR : Hid (∀ (w2 : World) (v : Value) ob, (w11.alloc ob).grownBy w2 vr.ownBlock → w2.ownsRow B 82 2 v (st.2.2.length + 1) (rcells c ++ [.slice (some ⟨g, o, none⟩) t.length ct, .slice an n.length cn]) → FIs B B z (st.1, st.2.1, st.2.2 ++ [(t, n)]) (.slice am z.length cm) vp vi v (c ++ [(.slice (some ⟨g, o, none⟩) t.length ct, .slice an n.length cn)]) (w2.setCell ⟨B, 3, none⟩ v)) := fun w2 v ob gg qq => F7.out.rules (BA.out ob) (OT12.out ob) (ON12.out ob) AP.out gg qq (by omega)
                            generalize hlr : st.2.2.length = lr at *
                            go_wp2_with (at_builtin; go_must (refine wpList_append_own _ rfl (.tmp 178) (.tmp 180) 34 rfl B 82 j0 (.agg #[.slice none 0 0, .slice none 0 0]) 2 48 Tryz.underlying34 JI.out jz0 jz1 jz2 rfl (by decide) _ _ _ rfl (OA.out _) ⟨w11.heap.size, 0, none⟩ 1 1 [.slice (some ⟨g, o, none⟩) t.length ct, .slice an n.length cn] rfl rfl (cell_two' _ _ _ _ _ rfl) (by intro u hu; simp at hu; rcases hu with rfl | rfl <;> rfl) (by unfold maxLen; omega) (by omega) (SA.out _) ?_; intro v12 w12 q1 q2 q3; obtain ⟨a12, c12, rfl⟩ := own_len q1; have F13 := Lib.hid (HR.out _ _ _ q2 q1); have hk := blk_kept (FA.out _) (OA.out _) (by decide) q2; have k8 := hk.cell (i := 3) rfl; have k9 := hk.free 3; have B13 : Hid (Below B w1 (w12.setCell ⟨B, 3, none⟩ (.slice a12 (lr + 1) c12))) := (((BB.out _).grown q2 (SA.out _) LV.out).setCell (Nat.le_refl _) _); clear q1 q2 q3 hk))
                            go_wp2
                            go_roundw
                            case rel =>
                              obtain ⟨x1, x2, x3, x4⟩ := NEXT.out _ AE.out
                              exact ⟨j + 1, _, _, _, _, _, by omega, by go_num, F13.out, B13.out, x1, x2, x3, x4⟩
                            case measure => simp [intOf]; omega
                  · have AE : Hid (addL z st s = (E2, st)) := by show _ = _; rw [AD.out, if_pos hE2]
                    have z1 : (E2 != 0) = true := by rw [bne_iff_ne]; exact hE2
                    have PE := Lib.hid (STOP.out _ _ AE.out hE2)
                    rw [hw9] at B9
                    clear AD hE2 hw9 PF8 F9 OT ON S9 N9 L9 W9
                    obtain ⟨n0, n1, n2, n3⟩ := show _ ∧ _ ∧ _ ∧ _ from ⟨(NW.out _ B9.out).cell (i := 0) rfl, (NW.out _ B9.out).cell (i := 1) rfl, (NW.out _ B9.out).cell (i := 2) rfl, (NW.out _ B9.out).cell (i := 3) rfl⟩
                    obtain ⟨p0, p1, p2, p3⟩ := show _ ∧ _ ∧ _ ∧ _ from ⟨(RW.out _ B9.out).free 0, (RW.out _ B9.out).free 1, (RW.out _ B9.out).free 2, (RW.out _ B9.out).free 3⟩
                    obtain ⟨r0, r1, r2, r3⟩ := show _ ∧ _ ∧ _ ∧ _ from ⟨(RW.out _ B9.out).cell (i := 0) rfl, (RW.out _ B9.out).cell (i := 1) rfl, (RW.out _ B9.out).cell (i := 2) rfl, (RW.out _ B9.out).cell (i := 3) rfl⟩
                    have BX := Lib.hid (BW.out _ B9.out)
                    go_wp2
                    (try simp only [Exit.inBlock, Exit.then])
                    refine bodyPost_ret (v := .tuple #[.agg #[.slice none 0 0, .slice none 0 0, .slice none 0 0, .slice none 0 0], .int .i64 ((j : Int) + 1), .int .i64 E2]) ?_ rfl (PaPost.bad (n := j + 1) PE.out (by first | exact set4_below BX.out _ _ _ _ | exact BX.out))
                    rw [results_cell_tmp2 rfl]; go_simp
                · have AE : Hid (addL z st s = (E, st)) := by show _ = _; unfold addL; rw [XE.out, if_pos hE]
                  have z1 : (E != 0) = true := by rw [bne_iff_ne]; exact hE
                  have PE := Lib.hid (STOP.out _ _ AE.out hE)
                  clear hE
                  obtain ⟨n0, n1, n2, n3⟩ := show _ ∧ _ ∧ _ ∧ _ from ⟨(NW.out _ B7.out).cell (i := 0) rfl, (NW.out _ B7.out).cell (i := 1) rfl, (NW.out _ B7.out).cell (i := 2) rfl, (NW.out _ B7.out).cell (i := 3) rfl⟩
                  obtain ⟨p0, p1, p2, p3⟩ := show _ ∧ _ ∧ _ ∧ _ from ⟨(RW.out _ B7.out).free 0, (RW.out _ B7.out).free 1, (RW.out _ B7.out).free 2, (RW.out _ B7.out).free 3⟩
                  obtain ⟨r0, r1, r2, r3⟩ := show _ ∧ _ ∧ _ ∧ _ from ⟨(RW.out _ B7.out).cell (i := 0) rfl, (RW.out _ B7.out).cell (i := 1) rfl, (RW.out _ B7.out).cell (i := 2) rfl, (RW.out _ B7.out).cell (i := 3) rfl⟩
                  have BX := Lib.hid (BW.out _ B7.out)
                  go_wp2
                  (try simp only [Exit.inBlock, Exit.then])
                  refine bodyPost_ret (v := .tuple #[.agg #[.slice none 0 0, .slice none 0 0, .slice none 0 0, .slice none 0 0], .int .i64 ((j : Int) + 1), .int .i64 E]) ?_ rfl (PaPost.bad (n := j + 1) PE.out (by first | exact set4_below BX.out _ _ _ _ | exact BX.out))
                  rw [results_cell_tmp2 rfl]; go_simp
              · have G0 := Q3.out
                rw [LJ.out, goL_skip hd] at G0
                have GG := Lib.hid G0
                clear G0 hd
                go_wp2
                go_roundw
                case rel => exact ⟨j + 1, st, vp, vi, vr, c, by omega, by go_num, F6.out, B6.out, GG.out, Q4.out, by have := Q5.out; omega, Q6.out⟩
                case measure => simp [intOf]; omega
            · obtain rfl : j = l.length := by omega
              have G0 := Q3.out
              rw [List.drop_length, goL] at G0
              have PE : Hid (parseF l = ((z, st), 0, 0)) := by
                show _ = _
                rw [PP.out, G0, if_neg (fun e => e rfl)]
              have R7 := Lib.hid (RW.out wr Q2.out)
              clear G0 Q3
              obtain ⟨r0, r1, r2, r3⟩ := show _ ∧ _ ∧ _ ∧ _ from ⟨R7.out.cell (i := 0) rfl, R7.out.cell (i := 1) rfl, R7.out.cell (i := 2) rfl, R7.out.cell (i := 3) rfl⟩
              obtain ⟨p0, p1, p2, p3⟩ := show _ ∧ _ ∧ _ ∧ _ from ⟨R7.out.free 0, R7.out.free 1, R7.out.free 2, R7.out.free 3⟩
              obtain ⟨k0, k1, k2, k3⟩ := show _ ∧ _ ∧ _ ∧ _ from ⟨Q1.out.blk.cell (i := 0) rfl, Q1.out.blk.cell (i := 1) rfl, Q1.out.blk.cell (i := 2) rfl, Q1.out.blk.cell (i := 3) rfl⟩
              have BX : Hid (∀ u0 u1 u2 u3, Below w.heap.size w ((((wr.setCell ⟨w.heap.size, 0, none⟩ u0).setCell ⟨w.heap.size, 1, none⟩ u1).setCell ⟨w.heap.size, 2, none⟩ u2).setCell ⟨w.heap.size, 3, none⟩ u3)) := fun _ _ _ _ => set4_below (BW.out _ Q2.out) _ _ _ _
              have FX : Hid (∀ u0 u1 u2 u3, FIn ((((wr.setCell ⟨w.heap.size, 0, none⟩ u0).setCell ⟨w.heap.size, 1, none⟩ u1).setCell ⟨w.heap.size, 2, none⟩ u2).setCell ⟨w.heap.size, 3, none⟩ u3) (.slice am z.length cm) vp vi vr (z, st)) := fun u0 u1 u2 u3 => by
                have f0 : FR B z st (.slice am z.length cm) vp vi vr c wr := ⟨Q1.out.mac, Q1.out.pho, Q1.out.inf, Q1.out.rul⟩
                have f1 := f0.set (i := 0) (u := u0) R7.out
                have f2 := f1.set (i := 1) (u := u1) (R7.out.set 0 u0)
                have f3 := f2.set (i := 2) (u := u2) ((R7.out.set 0 u0).set 1 u1)
                have f4 := f3.set (i := 3) (u := u3) (((R7.out.set 0 u0).set 1 u1).set 2 u2)
                exact f4.fin Q1.out.bnd Q1.out.sml Q6.out
              obtain ⟨ap, cp, rfl⟩ := own_len Q1.out.pho
              obtain ⟨ai, ci, rfl⟩ := own_len Q1.out.inf
              obtain ⟨ar, cr, rfl⟩ := own_len Q1.out.rul.2.1
              go_wp2
              (try simp only [Exit.inBlock, Exit.then])
              refine bodyPost_ret (v := .tuple #[.agg #[.slice am z.length cm, .slice ap st.1.length cp, .slice ai st.2.1.length ci, .slice ar st.2.2.length cr], .int .i64 0, .int .i64 0]) ?_ rfl ⟨BX.out _ _ _ _, _, _, _, _, by rw [PE.out]; rfl, by rw [PE.out]; exact FX.out _ _ _ _⟩
              rw [results_cell_tmp2 rfl]; go_simp
        · have PE := Lib.hid (PF.out E hE)
          have z1 : (E != 0) = true := by rw [bne_iff_ne]; exact hE.bad.2
          clear hE PF PG
          obtain ⟨n0, n1, n2, n3⟩ := show _ ∧ _ ∧ _ ∧ _ from ⟨(NW.out _ B4.out).cell (i := 0) rfl, (NW.out _ B4.out).cell (i := 1) rfl, (NW.out _ B4.out).cell (i := 2) rfl, (NW.out _ B4.out).cell (i := 3) rfl⟩
          obtain ⟨p0, p1, p2, p3⟩ := show _ ∧ _ ∧ _ ∧ _ from ⟨(RW.out _ B4.out).free 0, (RW.out _ B4.out).free 1, (RW.out _ B4.out).free 2, (RW.out _ B4.out).free 3⟩
          obtain ⟨r0, r1, r2, r3⟩ := show _ ∧ _ ∧ _ ∧ _ from ⟨(RW.out _ B4.out).cell (i := 0) rfl, (RW.out _ B4.out).cell (i := 1) rfl, (RW.out _ B4.out).cell (i := 2) rfl, (RW.out _ B4.out).cell (i := 3) rfl⟩
          have BX := Lib.hid (BW.out _ B4.out)
          go_wp2
          (try simp only [Exit.inBlock, Exit.then])
          refine bodyPost_ret (v := .tuple #[.agg #[.slice none 0 0, .slice none 0 0, .slice none 0 0, .slice none 0 0], .int .i64 0, .int .i64 E]) ?_ rfl (PaPost.bad (n := 0) PE.out (by first | exact set4_below BX.out _ _ _ _ | exact BX.out))
          rw [results_cell_tmp2 rfl]; go_simp
end Go.Proofs.YtfgcbdjkimkgpaaGreatDoor
