/-
  Package file's Parse. Condition: the strings have at most 2^32 bytes.
-/
import Derived.Test.YtebjofffijnihaaGreatDoorGc15FFs
import Derived.Test.YtebjofffijnihaaGreatDoorGc11MPerm
namespace Go.Proofs.YtebjofffijnihaaGreatDoor
set_option maxRecDepth 100000
set_option linter.unusedVariables false
open Go.ChangeShapes Go.WideShapes Go.ChangeAt Go.RowKit

theorem ROb.rin {B : Nat} {v : Value} {z : List Rl} {w : World} {c : List (Value × Value)} (h : ROb B v z w c) (hn : z.length ≤ 2932031007317) (hx : ∀ r ∈ z, chkR r = 0) : RIn w v z := by
  obtain ⟨hcl, ho, he, _⟩ := h
  rcases ho.2 with ⟨hv, h0⟩ | ⟨g, cap, cur, hv, hb, hg, hc, hm, hs, ht⟩
  · have : z = [] := List.length_eq_zero_iff.1 h0
    subst this
    exact ⟨none, 0, hv, Nat.le_refl _, Nat.zero_le _, Nat.zero_le _, .inl rfl⟩
  · refine ⟨_, cap, hv, hc, hm, hn, .inr ⟨g, 0, rfl, ?_, fun k => (c.getD k (.slice none 0 0, .slice none 0 0)).1, fun k => (c.getD k (.slice none 0 0, .slice none 0 0)).2, fun k hk => ?_⟩⟩
    · rcases Nat.lt_or_ge g w.heap.size with h' | h'
      · exact h'
      · simp [Array.getElem?_eq_none h'] at hg
    · have hkc : k < c.length := by omega
      have hp := List.getElem?_eq_getElem hkc
      have hcs := ho.cells (g := g) (by rw [hv]; rfl)
      obtain ⟨h1, h2⟩ := rcells_at c k _ hp
      have e1 := hcs _ _ h1
      have e2 := hcs _ _ h2
      rw [add_off] at e1 e2
      obtain ⟨q1, q2⟩ := he k _ hp
      obtain ⟨b1, b2, _, b3, b4⟩ := chk_ok (hx _ (rl_mem hk))
      have hgd : c.getD k (.slice none 0 0, .slice none 0 0) = c[k] := by rw [List.getD, hp]; rfl
      simp only [hgd, Nat.zero_add]
      dsimp only at b1 b2
      exact ⟨e1, e2, SIn.own q1 (by omega) (small_all b3), SIn.own q2 (by omega) (small_all b4)⟩
/-- a file in memory -/
structure FIn (w : World) (vm vp vi vr : Value) (F : Fil) : Prop where
  mac : McIn w vm F.1
  pho : SIn w vp F.2.1
  inf : McIn w vi F.2.2.1
  rul : RIn w vr F.2.2.2
theorem FIn.later {w w' : World} {vm vp vi vr : Value} {F : Fil} (h : FIn w vm vp vi vr F) (hb : Below w.heap.size w w') : FIn w' vm vp vi vr F := ⟨h.mac.later hb, h.pho.later hb, h.inf.later hb, h.rul.later hb⟩
theorem mcin_nil (w : World) : McIn w (.slice none 0 0) [] := ⟨none, 0, rfl, Nat.le_refl _, Nat.zero_le _, Nat.zero_le _, .inl rfl⟩
theorem rin_nil (w : World) : RIn w (.slice none 0 0) [] := ⟨none, 0, rfl, Nat.le_refl _, Nat.zero_le _, Nat.zero_le _, .inl rfl⟩
theorem FIn.nil (w : World) : FIn w (.slice none 0 0) (.slice none 0 0) (.slice none 0 0) (.slice none 0 0) ([], [], [], []) := ⟨mcin_nil w, sin_none w, mcin_nil w, rin_nil w⟩
/-- the file's rows -/
def FR (B : Nat) (z : List Mc) (st : St) (vm vp vi vr : Value) (c : List (Value × Value)) (w : World) : Prop := MO B vm z w ∧ SO B vp st.1 w ∧ IO B vi st.2.1 w ∧ ROb B vr st.2.2 w c
theorem FR.set {B R i : Nat} {z : List Mc} {st : St} {vm vp vi vr u : Value} {c : List (Value × Value)} {w : World} {ys : Array Value} (h : FR B z st vm vp vi vr c w) (hk : Blk R ys 27 w) : FR B z st vm vp vi vr c (w.setCell ⟨R, i, none⟩ u) :=
  ⟨set_blk h.1 hk (by decide) _, set_blk h.2.1 hk (by decide) _, set_blk h.2.2.1 hk (by decide) _, h.2.2.2.set hk⟩
theorem FR.fin {B : Nat} {z : List Mc} {st : St} {vm vp vi vr : Value} {c : List (Value × Value)} {w : World} (h : FR B z st vm vp vi vr c w) (hb : z.length ≤ 200 ∧ st.1.length ≤ 40 ∧ st.2.1.length ≤ 200 ∧ st.2.2.length ≤ 100) (hs : ∀ y ∈ st.1, y.length ≤ 40) (hr : ∀ r ∈ st.2.2, chkR r = 0) : FIn w vm vp vi vr (z, st) :=
  ⟨McIn.own h.1 (by show z.length ≤ _; omega), SIn.own h.2.1 (by show st.1.length ≤ _; omega) (fun x hx => by have := hs x hx; omega), McIn.ownI h.2.2.1 (by show st.2.1.length ≤ _; omega), h.2.2.2.rin (by show st.2.2.length ≤ _; omega) hr⟩

theorem results_cell_tmp2 {fn : Func} {p u q : Tmp} {ty : TypeId} (h : fn.results = #[.cell p ty, .tmp u, .tmp q]) (tmps : Array Value) (P : Program) (w : World) :
    (results fn tmps).run P w =
      ((asAddr (tmps.getD p undef)).run P w).andThen fun a w₁ => ((loadVar ty a).run P w₁).andThen fun v w₂ => .ok (.tuple #[v, tmps.getD u undef, tmps.getD q undef]) w₂ := by
  simp only [results, h]
  simp [Sem.run_bind, Result.andThen]
theorem addL_inv {z : List Mc} {st : St} {s : Str} (h : (addL z st s).1 = 0) (h1 : st.1.length ≤ 20) (h2 : ∀ r ∈ st.2.2, chkR r = 0) :
    (addL z st s).2.1.length ≤ 20 ∧ (addL z st s).2.2.1.length ≤ st.2.1.length + 1 ∧ ∀ r ∈ (addL z st s).2.2.2, chkR r = 0 := by
  unfold addL at *
  by_cases e1 : (expR z s).2 ≠ 0
  · rw [if_pos e1] at h ⊢; exact absurd h e1
  rw [if_neg e1] at h ⊢
  by_cases e2 : (parseR (expR z s).1).2 ≠ 0
  · rw [if_pos e2] at h ⊢; exact absurd h e2
  rw [if_neg e2] at h ⊢
  have pf := parse_fine (s := (expR z s).1) (by simpa using e2)
  generalize (parseR (expR z s).1).1 = r at *
  unfold putL at *
  by_cases e3 : r.1.contains phonyW = true
  · rw [if_pos e3] at h ⊢
    by_cases e4 : 1 < r.1.length
    · rw [if_pos e4] at h; cases h
    rw [if_neg e4] at h ⊢
    by_cases e5 : 20 < (phN st.1 r.2).length
    · rw [if_pos e5] at h; cases h
    rw [if_neg e5]
    exact ⟨by show (phN st.1 r.2).length ≤ 20; omega, by show st.2.1.length ≤ _; omega, h2⟩
  · rw [if_neg e3] at h ⊢
    cases hi : infR r with
    | some p => exact ⟨h1, addU_lenI _ _, h2⟩
    | none =>
      rw [hi] at h
      simp only [] at h ⊢
      by_cases e5 : 100 < st.2.2.length + 1
      · rw [if_pos e5] at h; cases h
      rw [if_neg e5]
      refine ⟨h1, by show st.2.1.length ≤ _; omega, fun q hq => ?_⟩
      rcases List.mem_append.1 hq with hq | hq
      · exact h2 q hq
      · rw [List.mem_singleton.1 hq]; exact pf
/-- what Parse hands back -/
def PaPost (l : List Str) (w : World) (e : Ending) (w' : World) : Prop :=
  Below w.heap.size w w' ∧ ∃ vm vp vi vr, e = .returned (.tuple #[.agg #[vm, vp, vi, vr], .int .i64 ((parseF l).2.1 : Int), .int .i64 (parseF l).2.2]) ∧ FIn w' vm vp vi vr (parseF l).1
theorem PaPost.bad {l : List Str} {w w' : World} {n : Nat} {E : Int} (h : parseF l = (([], [], [], []), n, E)) (hb : Below w.heap.size w w') : PaPost l w (.returned (.tuple #[.agg #[.slice none 0 0, .slice none 0 0, .slice none 0 0, .slice none 0 0], .int .i64 (n : Int), .int .i64 E])) w' := by
  refine ⟨hb, _, _, _, _, by rw [h], ?_⟩
  rw [h]; exact FIn.nil _
set_option maxHeartbeats 16000000 in
theorem parse_file (l : List Str) (v : Value) (w : World) (h : SIn w v l) (hx : ∀ x ∈ l, x.length ≤ 4294967296) :
    Calls Tryz.prog 47 #[v] w (PaPost l w) := by
  have b0 := blk_new w #[.slice none 0 0, .slice none 0 0, .slice none 0 0, .slice none 0 0] 27
  have ba : Below w.heap.size w (w.alloc (.cells #[.slice none 0 0, .slice none 0 0, .slice none 0 0, .slice none 0 0] 27)) := (Below.refl _ _).alloc (Nat.le_refl _) _
  have BA := Lib.hid ba
  have R0 := Lib.hid b0
  by_cases hl : 200 < l.length
  · have PB := Lib.hid (parseF_large hl)
    obtain ⟨a, cap, rfl⟩ := h.shape
    clear h hx b0 ba
    go_enter Tryz.func47, Tryz.ntmps47
    go_wp2
    (try simp only [Exit.inBlock, Exit.then])
    refine bodyPost_ret (v := .tuple #[.agg #[.slice none 0 0, .slice none 0 0, .slice none 0 0, .slice none 0 0], .int .i64 0, .int .i64 2]) ?_ rfl (PaPost.bad (n := 0) PB.out BA.out)
    rw [results_cell_tmp2 rfl]; go_simp
  · have hl' : l.length ≤ 200 := by omega
    have DA := Lib.hid (defs_any l v _ (h.later ba) hx (by omega))
    have HX : Hid (∀ m ∈ defsR l, m.1.length ≤ maxLen ∧ m.2.length ≤ 4294967296) := fun m hm => by
      obtain ⟨s, hs, e⟩ := List.mem_filterMap.1 hm
      have h1 := defR_len e
      have h2 := hx s hs
      exact ⟨by unfold maxLen; omega, by omega⟩
    have ZL : Hid ((defsR l).length ≤ 200) := by have := defs_len l; show _ ≤ _; omega
    have HS := Lib.hid h
    have HL := Lib.hid hx
    have PG := Lib.hid (parseF_go hl)
    have PF : Hid (∀ E, XErr (defsR l) E → parseF l = (([], [], [], []), 0, E)) := fun E hE => parseF_flat hl hE
    have S0 : Hid ((w.alloc (.cells #[.slice none 0 0, .slice none 0 0, .slice none 0 0, .slice none 0 0] 27)).heap.size = w.heap.size + 1) := by show _ = _; simp
    obtain ⟨a, cap, rfl⟩ := h.shape
    clear h hx b0 ba hl
    go_enter Tryz.func47, Tryz.ntmps47
    go_wp2_with fail
    refine DA.out.mono ?_
    rintro e w2 ⟨vm, rfl, om, hb2⟩
    obtain ⟨w1, hw1⟩ : ∃ w1, w1 = w.alloc (.cells #[.slice none 0 0, .slice none 0 0, .slice none 0 0, .slice none 0 0] 27) := ⟨_, rfl⟩
    rw [← hw1] at om hb2 BA R0 S0
    rw [S0.out] at om hb2
    clear hw1 DA
    have B2 : Hid (Below (w.heap.size + 1) w1 w2) := hb2
    have OM := Lib.hid om
    have R2 : Hid (Blk w.heap.size #[.slice none 0 0, .slice none 0 0, .slice none 0 0, .slice none 0 0] 27 w2) := R0.out.at (hb2.block _ (by omega))
    obtain ⟨am, cm, rfl⟩ := own_len om
    have ba : Below w2.heap.size w2 (w2.alloc (.cells #[.slice am (defsR l).length cm, .slice none 0 0, .slice none 0 0, .slice none 0 0] 27)) := (Below.refl _ _).alloc (Nat.le_refl _) _
    have WS : Hid (w.heap.size + 1 ≤ w2.heap.size) := by have := hb2.size; have := S0.out; show _ ≤ _; omega
    have F3 : Hid (FIs (w.heap.size + 1) w2.heap.size (defsR l) ([], [], []) (.slice am (defsR l).length cm) (.slice none 0 0) (.slice none 0 0) (.slice none 0 0) [] (w2.alloc (.cells #[.slice am (defsR l).length cm, .slice none 0 0, .slice none 0 0, .slice none 0 0] 27))) :=
      ⟨blk_new _ _ _, own_later om ba, World.ownsRow_nil _ _ _ _, World.ownsRow_nil _ _ _ _, ⟨rfl, World.ownsRow_nil _ _ _ _, fun k p h => by simp at h, List.Pairwise.nil⟩, fun u hu => by simp [rcells] at hu, WS.out, ⟨ZL.out, by decide, by decide, by decide⟩, fun y hy => absurd hy List.not_mem_nil⟩
    have B3 : Hid (Below (w.heap.size + 1) w1 (w2.alloc (.cells #[.slice am (defsR l).length cm, .slice none 0 0, .slice none 0 0, .slice none 0 0] 27))) := hb2.trans (ba.mono WS.out)
    have FL := Lib.hid (flat_any (defsR l) (.slice am (defsR l).length cm) _ (McIn.own F3.out.mac (by have := ZL.out; omega)) HX.out)
    have ZZ : Hid ((defsR l).length = (defsR l).length) := rfl
    clear om hb2 ba
    generalize hz : defsR l = z at *
    have HZ := Lib.hid hz; clear hz
    go_wp2_with fail
    refine FL.out.mono ?_
    rintro e w4 ⟨hb4, h4⟩
    have B4 : Hid (Below (w.heap.size + 1) w1 w4) := B3.out.trans (hb4.mono (Nat.le_trans WS.out (by simp)))
    have F4 := Lib.hid (F3.out.later hb4)
    have R4 : Hid (Blk w.heap.size #[.slice none 0 0, .slice none 0 0, .slice none 0 0, .slice none 0 0] 27 w4) := R0.out.at (B4.out.block _ (by omega))
    clear hb4 FL
    obtain ⟨r0, r1, r2, r3⟩ := show _ ∧ _ ∧ _ ∧ _ from ⟨R4.out.cell (i := 0) rfl, R4.out.cell (i := 1) rfl, R4.out.cell (i := 2) rfl, R4.out.cell (i := 3) rfl⟩
    obtain ⟨p0, p1, p2, p3⟩ := show _ ∧ _ ∧ _ ∧ _ from ⟨R4.out.free 0, R4.out.free 1, R4.out.free 2, R4.out.free 3⟩
    have BW : Hid (∀ W, Below (w.heap.size + 1) w1 W → Below w.heap.size w W) := fun W hW => BA.out.trans (hW.mono (by omega))
    rcases h4 with ⟨hF, o, f, v4, ho, hE, hI, rfl⟩ | ⟨E, hE, rfl⟩
    · have FF := Lib.hid hF
      have PP := Lib.hid (PG.out hF)
      have HC : Hid (∀ j, j < l.length → ∃ b off, a = some ⟨b, off, none⟩ ∧ ∀ W, Below (w.heap.size + 1) w1 W → W.cell? ⟨b, off + j, none⟩ = some (.string (bs (l.getD j [])))) := fun j hj => by
        rcases HS.out.open with ⟨h0, _⟩ | ⟨_, b, off, cap', e, _, hlt, hc⟩
        · rw [h0] at hj; cases hj
        · injection e with e1 _ _
          exact ⟨b, off, e1, fun W hW => cell_later (BW.out W hW) (hc j hj)⟩
      have LD : Hid (∀ j, j < l.length → l.drop j = l.getD j [] :: l.drop (j + 1)) := fun j hj => by
        rw [List.drop_eq_getElem_cons hj, List.getD, List.getElem?_eq_getElem hj]; rfl
      have XL : Hid (∀ j, j < l.length → (l.getD j []).length ≤ 4294967296) := fun j hj => HL.out _ (getD_mem hj)
      clear hF ho hE hI PF PG r0 r1 r2 r3 p0 p1 p2 p3 HZ
      go_wp2_with fail
      go_loopw [32] (fun i wr => ∃ (j : Nat) (st : St) (vp vi vr : Value) (c : List (Value × Value)), j ≤ l.length ∧ i = .int .i64 (j : Int) ∧ FIs (w.heap.size + 1) w2.heap.size z st (.slice am z.length cm) vp vi vr c wr ∧ Below (w.heap.size + 1) w1 wr ∧ goL z 0 ([], [], []) l = goL z j st (l.drop j) ∧ st.1.length ≤ 20 ∧ st.2.1.length ≤ j ∧ ∀ r ∈ st.2.2, chkR r = 0) (fun i _ => l.length - (intOf i).toNat)
      case atStart => exact ⟨0, ([], [], []), _, _, _, _, Nat.zero_le _, rfl, F4.out, B4.out, rfl, by decide, by decide, fun r hr => absurd hr List.not_mem_nil⟩
      case round =>
        obtain ⟨j, st, vp, vi, vr, c, hj, rfl, q1, q2, q3, q4, q5, q6⟩ := hrel
        have Q1 := Lib.hid q1; have Q2 := Lib.hid q2; have Q3 := Lib.hid q3; have Q4 := Lib.hid q4; have Q5 := Lib.hid q5; have Q6 := Lib.hid q6
        clear q1 q2 q3 q4 q5 q6
        by_cases hj2 : j < l.length
        · obtain ⟨b, off, rfl, hc⟩ := HC.out j hj2
          have c1 := hc wr Q2.out
          have LJ := Lib.hid (LD.out j hj2)
          have XJ := Lib.hid (XL.out j hj2)
          generalize l.getD j [] = s at *
          clear hc
          have DF := Lib.hid (def_any s wr XJ.out)
          go_wp2_with fail
          refine DF.out.mono ?_
          rintro e w5 ⟨rfl, hb5⟩
          generalize dN s = xa at *
          generalize dV s = xb at *
          have ba : Below w5.heap.size w5 (w5.alloc (.cells #[.string (bs xa), .string (bs xb)] 109)) := (Below.refl _ _).alloc (Nat.le_refl _) _
          have bb := hb5.trans (ba.mono hb5.size)
          have F6 := Lib.hid (Q1.out.later bb)
          have WW : Hid (w.heap.size + 1 ≤ wr.heap.size) := Q1.out.base
          have B6 : Hid (Below (w.heap.size + 1) w1 (w5.alloc (.cells #[.string (bs xa), .string (bs xb)] 109))) := Q2.out.trans (bb.mono WW.out)
          clear hb5 ba bb DF
          cases hd : (defR s).isSome
          · have D0 : defR s = none := by
              cases h : defR s with
              | none => rfl
              | some m => rw [h] at hd; cases hd
            have G0 := Q3.out
            rw [LJ.out] at G0
            have AD := Lib.hid (addLine_any s F6.out Q4.out (by have := Q5.out; omega) XJ.out HX.out)
            by_cases hk : (addL z st s).1 = 0
            · rw [goL_step D0 hk] at G0
              have GG := Lib.hid G0
              obtain ⟨i1, i2, i3⟩ := addL_inv hk Q4.out Q6.out
              have I1 := Lib.hid i1; have I2 := Lib.hid i2; have I3 := Lib.hid i3
              have HK := Lib.hid hk
              clear G0 i1 i2 i3 hk hd D0
              go_wp2_with fail
              refine AD.out.mono ?_
              rintro e w7 ⟨rfl, hb7, f7⟩
              obtain ⟨vp', vi', vr', c', f7⟩ := f7 HK.out
              have F7 := Lib.hid f7
              have B7 : Hid (Below (w.heap.size + 1) w1 w7) := B6.out.trans hb7
              rw [HK.out]
              clear f7 hb7 AD
              go_wp2
              go_roundw
              case rel => exact ⟨j + 1, (addL z st s).2, vp', vi', vr', c', by omega, by go_num, F7.out, B7.out, GG.out, I1.out, by have := I2.out; have := Q5.out; omega, I3.out⟩
              case measure => simp [intOf]; omega
            · rw [goL_bad D0 hk] at G0
              have PE : Hid (parseF l = (([], [], [], []), j + 1, (addL z st s).1)) := by
                show _ = _
                rw [PP.out, G0, if_pos hk]
              have z1 : ((addL z st s).1 != 0) = true := by rw [bne_iff_ne]; exact hk
              clear G0 hk hd D0
              go_wp2_with fail
              refine AD.out.mono ?_
              rintro e w7 ⟨rfl, hb7, f7⟩
              have B7 : Hid (Below (w.heap.size + 1) w1 w7) := B6.out.trans hb7
              have R7 : Hid (Blk w.heap.size #[.slice none 0 0, .slice none 0 0, .slice none 0 0, .slice none 0 0] 27 w7) := R0.out.at (B7.out.block _ (by omega))
              clear f7 hb7 AD
              obtain ⟨r0, r1, r2, r3⟩ := show _ ∧ _ ∧ _ ∧ _ from ⟨R7.out.cell (i := 0) rfl, R7.out.cell (i := 1) rfl, R7.out.cell (i := 2) rfl, R7.out.cell (i := 3) rfl⟩
              obtain ⟨p0, p1, p2, p3⟩ := show _ ∧ _ ∧ _ ∧ _ from ⟨R7.out.free 0, R7.out.free 1, R7.out.free 2, R7.out.free 3⟩
              have BX : Hid (Below w.heap.size w ((((w7.setCell ⟨w.heap.size, 0, none⟩ (.slice none 0 0)).setCell ⟨w.heap.size, 1, none⟩ (.slice none 0 0)).setCell ⟨w.heap.size, 2, none⟩ (.slice none 0 0)).setCell ⟨w.heap.size, 3, none⟩ (.slice none 0 0))) := ((((BW.out _ B7.out).setCell (Nat.le_refl _) _).setCell (Nat.le_refl _) _).setCell (Nat.le_refl _) _).setCell (Nat.le_refl _) _
              generalize (addL z st s).1 = E at *
              go_wp2
              (try simp only [Exit.inBlock, Exit.then])
              refine bodyPost_ret (v := .tuple #[.agg #[.slice none 0 0, .slice none 0 0, .slice none 0 0, .slice none 0 0], .int .i64 ((j : Int) + 1), .int .i64 E]) ?_ rfl (PaPost.bad (n := j + 1) PE.out BX.out)
              rw [results_cell_tmp2 rfl]; go_simp
          · have G0 := Q3.out
            rw [LJ.out, goL_skip hd] at G0
            have GG := Lib.hid G0
            clear G0 hd
            go_wp2
            go_roundw
            case rel => exact ⟨j + 1, st, vp, vi, vr, c, by omega, by go_num, F6.out, B6.out, GG.out, Q4.out, by have := Q5.out; omega, Q6.out⟩
            case measure => simp [intOf]; omega
        · obtain rfl : j = l.length := by omega
          have G0 := Q3.out
          rw [List.drop_length, goL] at G0
          have PE : Hid (parseF l = ((z, st), 0, 0)) := by
            show _ = _
            rw [PP.out, G0, if_neg (fun e => e rfl)]
          have R7 : Hid (Blk w.heap.size #[.slice none 0 0, .slice none 0 0, .slice none 0 0, .slice none 0 0] 27 wr) := R0.out.at (Q2.out.block _ (by omega))
          clear G0 Q3
          obtain ⟨r0, r1, r2, r3⟩ := show _ ∧ _ ∧ _ ∧ _ from ⟨R7.out.cell (i := 0) rfl, R7.out.cell (i := 1) rfl, R7.out.cell (i := 2) rfl, R7.out.cell (i := 3) rfl⟩
          obtain ⟨p0, p1, p2, p3⟩ := show _ ∧ _ ∧ _ ∧ _ from ⟨R7.out.free 0, R7.out.free 1, R7.out.free 2, R7.out.free 3⟩
          obtain ⟨k0, k1, k2, k3⟩ := show _ ∧ _ ∧ _ ∧ _ from ⟨Q1.out.blk.cell (i := 0) rfl, Q1.out.blk.cell (i := 1) rfl, Q1.out.blk.cell (i := 2) rfl, Q1.out.blk.cell (i := 3) rfl⟩
          have BX : Hid (∀ u0 u1 u2 u3, Below w.heap.size w ((((wr.setCell ⟨w.heap.size, 0, none⟩ u0).setCell ⟨w.heap.size, 1, none⟩ u1).setCell ⟨w.heap.size, 2, none⟩ u2).setCell ⟨w.heap.size, 3, none⟩ u3)) := fun _ _ _ _ => ((((BW.out _ Q2.out).setCell (Nat.le_refl _) _).setCell (Nat.le_refl _) _).setCell (Nat.le_refl _) _).setCell (Nat.le_refl _) _
          have FX : Hid (∀ u0 u1 u2 u3, FIn ((((wr.setCell ⟨w.heap.size, 0, none⟩ u0).setCell ⟨w.heap.size, 1, none⟩ u1).setCell ⟨w.heap.size, 2, none⟩ u2).setCell ⟨w.heap.size, 3, none⟩ u3) (.slice am z.length cm) vp vi vr (z, st)) := fun u0 u1 u2 u3 => by
            have f0 : FR (w.heap.size + 1) z st (.slice am z.length cm) vp vi vr c wr := ⟨Q1.out.mac, Q1.out.pho, Q1.out.inf, Q1.out.rul⟩
            have f1 := f0.set (i := 0) (u := u0) R7.out
            have f2 := f1.set (i := 1) (u := u1) (R7.out.set 0 u0)
            have f3 := f2.set (i := 2) (u := u2) ((R7.out.set 0 u0).set 1 u1)
            have f4 := f3.set (i := 3) (u := u3) (((R7.out.set 0 u0).set 1 u1).set 2 u2)
            exact f4.fin Q1.out.bnd Q1.out.sml Q6.out
          obtain ⟨ap, cp, rfl⟩ := own_len Q1.out.pho
          obtain ⟨ai, ci, rfl⟩ := own_len Q1.out.inf
          obtain ⟨ar, cr, rfl⟩ := own_len Q1.out.rul.2.1
          go_wp2
          (try simp only [Exit.inBlock, Exit.then])
          refine bodyPost_ret (v := .tuple #[.agg #[.slice am z.length cm, .slice ap st.1.length cp, .slice ai st.2.1.length ci, .slice ar st.2.2.length cr], .int .i64 0, .int .i64 0]) ?_ rfl ⟨BX.out _ _ _ _, _, _, _, _, by rw [PE.out]; rfl, by rw [PE.out]; exact FX.out _ _ _ _⟩
          rw [results_cell_tmp2 rfl]; go_simp
    · have PE := Lib.hid (PF.out E hE)
      have z1 : (E != 0) = true := by rw [bne_iff_ne]; exact hE.bad.2
      have BX : Hid (Below w.heap.size w ((((w4.setCell ⟨w.heap.size, 0, none⟩ (.slice none 0 0)).setCell ⟨w.heap.size, 1, none⟩ (.slice none 0 0)).setCell ⟨w.heap.size, 2, none⟩ (.slice none 0 0)).setCell ⟨w.heap.size, 3, none⟩ (.slice none 0 0))) := ((((BW.out _ B4.out).setCell (Nat.le_refl _) _).setCell (Nat.le_refl _) _).setCell (Nat.le_refl _) _).setCell (Nat.le_refl _) _
      clear hE PF PG
      go_wp2
      (try simp only [Exit.inBlock, Exit.then])
      refine bodyPost_ret (v := .tuple #[.agg #[.slice none 0 0, .slice none 0 0, .slice none 0 0, .slice none 0 0], .int .i64 0, .int .i64 E]) ?_ rfl (PaPost.bad (n := 0) PE.out BX.out)
      rw [results_cell_tmp2 rfl]; go_simp
end Go.Proofs.YtebjofffijnihaaGreatDoor
