/-
  What the reference's LinesOf answers at every string: what Join answers. No condition.
-/
import Derived.Test.YtfgcbdjkimkgpaaGreatDoorLRp
import Derived.Test.YtfgcbdjkimkgpaaGreatDoorLRb
import Derived.Deep.CutRange
import Derived.Deep.CutBlock
namespace Go.Proofs.YtfgcbdjkimkgpaaGreatDoor
set_option maxRecDepth 100000
open Go.ChangeShapes Go.WideShapes Go.ChangeAt Go.RowKit

def StayN (k : Nat) (x : Value) (y : Value) (w : World) : Prop := w.heap[k]? = some (.cells #[x, y] 115 (0, 0))
theorem StayN.cells {k : Nat} {x y : Value} {w : World} (h : StayN k x y w) : w.cell? ⟨k, 0, none⟩ = some x ∧ w.cell? ⟨k, 1, none⟩ = some y := by
  unfold StayN at h
  unfold World.cell?
  simp [h]
theorem StayN.later {k : Nat} {x y : Value} {w w' : World} (h : StayN k x y w) (hb : Below w.heap.size w w') : StayN k x y w' := by
  unfold StayN at h ⊢
  have hk : k < w.heap.size := by
    rcases Nat.lt_or_ge k w.heap.size with h' | h'
    · exact h'
    · simp [Array.getElem?_eq_none h'] at h
  exact (hb.block _ hk).trans h
theorem stayN_new (w : World) (x y : Value) : StayN w.heap.size x y (w.alloc (.cells #[x, y] 115)) := by unfold StayN; exact heap_alloc_new _ _
theorem StayN.frozen {k : Nat} {x y : Value} {w : World} (h : StayN k x y w) (j : Nat) : w.frozen? ⟨k, j, none⟩ = false := frozen_of_row w k j _ _ h
theorem StayN.put {k : Nat} {x y : Value} {w : World} (h : StayN k x y w) (u : Value) : StayN k x u (w.setCell ⟨k, 1, none⟩ u) := by
  unfold StayN at h ⊢
  rw [heap_setCell_same w k 1 _ _ u h]; rfl
theorem StayN.lt {k : Nat} {x y : Value} {w : World} (h : StayN k x y w) : k < w.heap.size := by
  unfold StayN at h
  rcases Nat.lt_or_ge k w.heap.size with h' | h'
  · exact h'
  · simp [Array.getElem?_eq_none h'] at h
theorem SO.sin {B : Nat} {v : Value} {z : List Str} {w : World} (h : SO B v z w) (hn : z.length ≤ 17592186044416) (hx : ∀ x ∈ z, x.length ≤ 9223372036854775807) : SIn w v z := SIn.own h hn hx
theorem cut_bound (s : Str) : (cutNL s).length ≤ s.length + 1 ∧ ∀ x ∈ cutNL s, x.length ≤ s.length := by
  induction s with
  | nil => simp [cutNL]
  | cons c r ih =>
    rw [cutNL]
    split
    · refine ⟨by simp; omega, fun x hx => ?_⟩
      rcases List.mem_cons.1 hx with rfl | hx
      · simp
      · have := ih.2 x hx; simp; omega
    · split
      · simp
      · rename_i y t e
        rw [e] at ih
        refine ⟨by simp at ih ⊢; omega, fun x hx => ?_⟩
        rcases List.mem_cons.1 hx with rfl | hx
        · have := ih.2 y (by simp); simp; omega
        · have := ih.2 x (by simp [hx]); simp; omega
/-- the same, one shorter -/
theorem SIn.init {w : World} {g n cap : Nat} {dl : List Str} {x : Str} (h : SIn w (.slice (some ⟨g, 0, none⟩) n cap) (dl ++ [x])) (m : Nat) (hm : m = dl.length) : SIn w (.slice (some ⟨g, 0, none⟩) m cap) dl := by
  subst hm
  obtain ⟨a, c, hv, h2, h3, h4, h5⟩ := h
  cases hv
  have hl : (dl ++ [x]).length = dl.length + 1 := by simp
  rw [hl] at h2 h3
  refine ⟨_, _, rfl, by omega, by omega, fun y hy => h4 y (by simp [hy]), ?_⟩
  rcases h5 with h5 | ⟨b, off, e, h6, h7⟩
  · simp at h5
  · cases e
    refine .inr ⟨g, 0, rfl, h6, fun k hk => ?_⟩
    rw [h7 k (by omega)]
    simp [List.getD, List.getElem?_append_left hk]

/-- the line in hand (block xb, its text t), the lines so far -/
def XI (B xb : Nat) (P : Int) (t : Str) (o : Value) (out : List Ln) (w1 w : World) : Prop := StayN xb (.int .i64 P) (.string (bs t)) w ∧ w.ownsRow B 115 2 o out.length (lnCells out) ∧ Below B w1 w
theorem XI.put {B xb : Nat} {P : Int} {t : Str} {o : Value} {out : List Ln} {w1 w : World} (h : XI B xb P t o out w1 w) (hn : o.ownBlock ≠ some xb) (hb : B ≤ xb) (t' : Str) : XI B xb P t' o out w1 (w.setCell ⟨xb, 1, none⟩ (.string (bs t'))) :=
  ⟨h.1.put _, ownsRow_setCell_other h.2.1 hn _, h.2.2.setCell hb _⟩
theorem list_cells {w : World} {gb m cap : Nat} {L : List Str} (h : SIn w (.slice (some ⟨gb, 0, none⟩) m cap) L) : m = L.length ∧ m ≤ cap ∧ ∀ W, Below w.heap.size w W → ∀ k, k < L.length → W.cell? ⟨gb, k, none⟩ = some (.string (bs (lk L k))) := by
  obtain ⟨a, c, hv, h2, h3, h4, h5⟩ := h
  cases hv
  refine ⟨rfl, h2, fun W hW k hk => ?_⟩
  rcases h5 with rfl | ⟨b, off, e, h6, h7⟩
  · simp at hk
  · cases e
    have := cell_later hW (h7 k hk)
    rw [Nat.zero_add] at this
    exact this

theorem may_mid {c : UInt8} (h1 : 32 ≤ c.toNat) (h2 : c.toNat ≤ 126) : may c = true := by unfold may; exact decide_eq_true (by omega)
theorem may_eq {c : UInt8} (h : c.toNat = 9 ∨ c.toNat = 10) : may c = true := by unfold may; exact decide_eq_true (by omega)
theorem may_not {c : UInt8} (h : 126 < c.toNat ∨ (c.toNat < 32 ∧ c.toNat ≠ 9 ∧ c.toNat ≠ 10)) : may c = false := by unfold may; exact decide_eq_false (by omega)

set_option maxHeartbeats 8000000 in
set_option maxRecDepth 100000 in
theorem rlines_any (S : ByteArray) (w : World) (hs : S.size ≤ 9223372036854775807) :
    Calls Tryz.prog 71 #[.string S] w (JPost S.data.toList w) := by
  have hsz := size_list S
  by_cases hbig : 20000 < S.size
  · have e : Hid (joinR S.data.toList = ([], 2)) := Lib.hid (by unfold joinR; rw [if_pos (by omega)])
    clear hsz
    go_enter Tryz.func71, Tryz.ntmps71
    go_wp2
    go_ret2
    unfold JPost; rw [e.out]
    exact ⟨_, rfl, World.ownsRow_nil _ _ _ _, Below.refl _ _⟩
  have HF : Hid (∀ k (h : k < S.size), S[k].toNat = (gB S k).toNat) := may_nat S
  have E3 : Hid (∀ k, k < S.size → may (gB S k) = false → joinR S.data.toList = ([], 3)) := fun k hk h => by
    unfold joinR; rw [if_neg (by omega), may_bad hk h]; rfl
  have E0 : Hid ((∀ k, k < S.size → may (gB S k) = true) → joinR S.data.toList = (linesAt 0 (phys S.data.toList), 0)) := fun h => by
    unfold joinR; rw [if_neg (by omega), may_all h, if_pos rfl]
  have SP := Lib.hid (splitNL_any S w (by omega))
  obtain ⟨dl, x, hcut⟩ := cut_last S.data.toList
  have hcb := cut_bound S.data.toList
  have PO := Lib.hid (phys_of_cut hcut)
  rw [hcut] at SP hcb
  obtain ⟨hcb1, hcb2⟩ := hcb
  have CB := Lib.hid hcb2
  have hdl : dl.length ≤ 20000 := by rw [List.length_append] at hcb1; simp at hcb1; omega
  have hxl : x.length ≤ 20000 := by have := hcb2 x (by simp); omega
  have SI : Hid (∀ v W, SO w.heap.size v (dl ++ [x]) W → SIn W v (dl ++ [x])) := fun v W h => h.sin (by rw [List.length_append] at hcb1 ⊢; simp at hcb1 ⊢; omega) (fun y hy => by have := hcb2 y hy; omega)
  clear hcut hcb1 hcb2
  have PC := Lib.hid (phys_count S.data.toList)
  have PB := Lib.hid (bulk_text (s := S.data.toList) (by omega))
  have LL := Lib.hid (linesAt_length 0 (phys S.data.toList))
  have ST : Hid (∀ p, p < (phys S.data.toList).length → _) := fun p hp => lines_step (L := phys S.data.toList) (p := p) hp
  have SZ := Lib.hid hsz; clear hsz
  generalize gB S = g at *
  generalize hS : S.data.toList = s at *
  clear hS
  obtain ⟨i0, hi, hz0, hz1, hz2⟩ := info_parts infoLn
  have HI := Lib.hid hi; clear hi
  go_enter Tryz.func71, Tryz.ntmps71
  go_wp2_with fail
  go_loopw [15] (fun i wr => ∃ k : Nat, k ≤ S.size ∧ i = .int .i64 (k : Int) ∧ (∀ j, j < k → may (g j) = true) ∧ wr = w) (fun i _ => S.size - (intOf i).toNat)
  case atStart => exact ⟨0, by omega, rfl, fun _ h => absurd h (Nat.not_lt_zero _), rfl⟩
  case round =>
    obtain ⟨k, hk, rfl, hall, rfl⟩ := hrel
    have HA := Lib.hid hall; clear hall
    by_cases hlt : k < S.size
    · have hb := HF.out k hlt
      have E3k : Hid (may (g k) = false → joinR s = ([], 3)) := E3.out k hlt
      have M1 : Hid (∀ (h1 : 32 ≤ (g k).toNat) (h2 : (g k).toNat ≤ 126), may (g k) = true) := may_mid
      have M2 : Hid (∀ (h : (g k).toNat = 9 ∨ (g k).toNat = 10), may (g k) = true) := may_eq
      have M3 : Hid (∀ (h : 126 < (g k).toNat ∨ ((g k).toNat < 32 ∧ (g k).toNat ≠ 9 ∧ (g k).toNat ≠ 10)), may (g k) = false) := may_not
      generalize hgk : may (g k) = mk at *
      have HG := Lib.hid hgk; clear hgk
      generalize (g k).toNat = n at *
      have YES : ∀ {P : Prop}, mk = true → Hid (∀ j, j < k + 1 → may (g j) = true) := fun hm j hj => by
        rcases Nat.lt_succ_iff_lt_or_eq.1 hj with h | h
        · exact HA.out j h
        · rw [h, HG.out]; exact hm
      by_cases h1 : 126 < n
      · have R3 := Lib.hid (E3k.out (M3.out (.inl h1)))
        go_wp2
        go_ret2
        unfold JPost; rw [R3.out]
        exact ⟨_, rfl, World.ownsRow_nil _ _ _ _, Below.refl _ _⟩
      · by_cases h2 : n < 32
        · by_cases h9 : n = 9
          · have Y := @YES True (M2.out (.inl h9))
            subst h9
            go_wp2
            go_roundw
            case rel => exact ⟨k + 1, by omega, by go_num, Y.out, trivial⟩
            case measure => simp [intOf]; omega
          · by_cases h10 : n = 10
            · have Y := @YES True (M2.out (.inr h10))
              subst h10
              go_wp2
              go_roundw
              case rel => exact ⟨k + 1, by omega, by go_num, Y.out, trivial⟩
              case measure => simp [intOf]; omega
            · have R3 := Lib.hid (E3k.out (M3.out (.inr ⟨h2, h9, h10⟩)))
              have t9 : ((n : Int) != 9) = true := by rw [bne_iff_ne]; omega
              have t10 : ((n : Int) != 10) = true := by rw [bne_iff_ne]; omega
              go_wp2
              go_ret2
              unfold JPost; rw [R3.out]
              exact ⟨_, rfl, World.ownsRow_nil _ _ _ _, Below.refl _ _⟩
        · have Y := @YES True (M1.out (by omega) (by omega))
          go_wp2
          go_roundw
          case rel => exact ⟨k + 1, by omega, by go_num, Y.out, trivial⟩
          case measure => simp [intOf]; omega
    · obtain rfl : k = S.size := by omega
      have HE := Lib.hid (E0.out HA.out)
      clear E3 E0 HA HF hlt hk
      go_wp2_with fail
      refine SP.out.mono ?_
      rintro e w1 ⟨v1, rfl, q1, q2⟩
      have Q2 := Lib.hid q2; clear q2
      have SL := Lib.hid (SI.out _ _ q1)
      obtain ⟨gb, cap, rfl, _, c1, _, _⟩ := q1.last
      clear q1
      go_upto_if 49 with fail
      go_cut [5] from 43 to 54 (fun s5 wx => ∃ m : Nat, s5 = .slice (some ⟨gb, 0, none⟩) m cap ∧ Hid (SIn w1 (.slice (some ⟨gb, 0, none⟩) m cap) (phys s)) ∧ wx = w1)
      case first =>
        by_cases hx : x = []
        · have z : (bs x).toList.isEmpty = true := by rw [hx]; exact bs_none
          rw [if_pos hx] at PO
          have hcap : dl.length + 1 ≤ cap := (list_cells SL.out).2.1
          rw [z]
          clear hx z
          go_wp2_with fail
          go_meet
          case rel => exact ⟨dl.length, rfl, by show SIn _ _ _; rw [PO.out]; exact SL.out.init _ rfl, rfl⟩
        · have z : (bs x).toList.isEmpty = false := bs_some hx
          rw [if_neg hx] at PO
          rw [z]
          clear hx z
          go_wp2_with fail
          go_meet
          case rel => exact ⟨dl.length + 1, rfl, by show SIn _ _ _; rw [PO.out]; exact SL.out, rfl⟩
      case rest =>
        obtain ⟨m, rfl, QS, hwx⟩ := hcut
        have hwx := hwx.symm
        subst hwx
        obtain ⟨hm, hmc, hcells⟩ := list_cells QS.out
        have HC := Lib.hid hcells
        clear hcells PO SL c1 SI CB hdl hxl SP
        generalize hL : phys s = L at *
        clear hL
        have hn : L.length ≤ 20000 := by have := PC.out; have := SZ.out; omega
        subst hm
        go_wp2_with fail
        go_loopw [6, 7] (fun s6 s7 wr => ∃ (p : Nat) (out : List Ln), p ≤ L.length ∧ s7 = .int .i64 (p : Int) ∧ wr.ownsRow w1.heap.size 115 2 s6 out.length (lnCells out) ∧ Below w1.heap.size w1 wr ∧ linesAt 0 L = out ++ linesAt p (L.drop p)) (fun _ s7 _ => L.length - (intOf s7).toNat)
        case atStart => exact ⟨0, [], Nat.zero_le _, rfl, World.ownsRow_nil _ _ _ _, Below.refl _ _, by simp⟩
        case round =>
          obtain ⟨p, out, hp, rfl, qo, qw, ql⟩ := hrel
          have QO := Lib.hid qo; have QW := Lib.hid qw; have QL := Lib.hid ql; clear qo qw ql
          by_cases hp2 : p < L.length
          · obtain ⟨T, c, st1, st2, st3, st4, st5⟩ := ST.out p hp2
            have S5 := Lib.hid st5
            have FS : Hid (fin (lk L p) (L.drop (p + 1)) = (T, c)) := Lib.hid (by rw [← fin_start hp2, st1])
            have hol : out.length ≤ L.length := by have h1 := LL.out; rw [QL.out, List.length_append] at h1; omega
            clear st1 st5
            have cp := HC.out wr QW.out p hp2
            have NX : Hid (u6.ownBlock ≠ some wr.heap.size) := fun h => by have := (QO.out.lt _ h).2; omega
            have GX : Hid (w1.heap.size ≤ wr.heap.size) := QW.out.size
            have X0 : Hid (XI w1.heap.size wr.heap.size ((p : Int) + 1) (lk L p) u6 out w1 (wr.alloc (.cells #[.int .i64 ((p : Int) + 1), .string (bs (lk L p))] 115))) := ⟨stayN_new _ _ _, QO.out.alloc _, QW.out.alloc QW.out.size _⟩
            go_wp2_with fail
            rename World => w2
            clear cp
            go_loopw [7] (fun s7 wi => ∃ (q : Nat) (t : Str), p ≤ q ∧ q < L.length ∧ s7 = .int .i64 (q : Int) ∧ XI w1.heap.size w2.heap.size ((p : Int) + 1) t u6 out w1 wi ∧ (fin t (L.drop (q + 1))).1 = T ∧ (fin t (L.drop (q + 1))).2 + q = c + p) (fun s7 _ => L.length - (intOf s7).toNat)
            case atStart => exact ⟨p, lk L p, Nat.le_refl _, hp2, rfl, X0.out, by rw [FS.out], by rw [FS.out]⟩
            case round =>
              obtain ⟨q, t, hpq, hq, rfl, qx, qf, qn⟩ := hrel
              have QX := Lib.hid qx; have QF := Lib.hid qf; have QN := Lib.hid qn; clear qx qf qn
              rename World => w3
              have tl : t.length ≤ 20002 := by have := fin_len t (L.drop (q + 1)); rw [QF.out] at this; have := PB.out; omega
              rcases List.eq_nil_or_concat t with rfl | ⟨r, ch, rfl⟩
              · rw [fin_stop (show ends92 [] = false from rfl)] at QF QN
                have HQ : Hid (q + 1 = p + c) := Lib.hid (by have := QN.out; simp at this; omega)
                have eT : T = [] := QF.out.symm
                have z0 : (bs T).toList.isEmpty = true := by rw [eT]; exact bs_none
                have XJ : Hid (XI w1.heap.size w2.heap.size ((p : Int) + 1) T u6 out w1 w3) := by rw [eT]; exact QX.out
                clear eT QX QF QN tl
                obtain ⟨d1, d2⟩ := XJ.out.1.cells
                have f1 := XJ.out.1.frozen 1
                have tz : (bs T).size ≤ 20001 := by rw [bs_size]; have := PB.out; omega
                go_wp2_with fail
                skip
                have XU := Lib.hid (XJ.out.put NX.out GX.out (unc T))
                obtain ⟨e1, e2⟩ := XU.out.1.cells
                have uz : (bs (unc T)).size ≤ 20001 := by rw [bs_size]; have := unc_le T; have := PB.out; omega
                refine (aside_any (bs T) _ (by omega)).mono ?_
                rintro e w' ⟨rfl, hw'⟩
                rw [hw', bs_list]
                clear hw' w' tz
                go_upto_if 121 with fail
                obtain ⟨w5, hW5⟩ : ∃ w5, w5 = w3.setCell ⟨w2.heap.size, 1, none⟩ (.string (bs (unc T))) := ⟨_, rfl⟩
                rw [← hW5] at XU e1 e2 ⊢
                clear hW5 XJ d1 d2 f1
                by_cases hu : unc T = []
                · have z : (bs (unc T)).toList.isEmpty = true := by rw [hu]; exact bs_none
                  rw [if_pos hu] at S5
                  rw [z]
                  clear hu z
                  go_wp2
                  go_roundw
                  case rel =>
                    refine ⟨q + 1, out, by omega, by go_num, XU.out.2.1, XU.out.2.2, ?_⟩
                    rw [QL.out, S5.out, List.nil_append, HQ.out]
                  case measure => simp [intOf]; omega
                · have z : (bs (unc T)).toList.isEmpty = false := bs_some hu
                  rw [if_neg hu] at S5
                  rw [z]
                  clear hu z
                  have OA : Hid (∀ o, (w5.alloc o).ownsRow w1.heap.size 115 2 u6 out.length (lnCells out)) := fun o => XU.out.2.1.alloc o
                  have SA : Hid (∀ o, w1.heap.size ≤ (w5.alloc o).heap.size) := fun o => by have := XU.out.2.2.size; simp; omega
                  have LT : Hid (∀ k, u6.ownBlock = some k → w1.heap.size ≤ k) := fun k hk => (XU.out.2.1.lt k hk).1
                  have WA : Hid (∀ o, Below w1.heap.size w1 (w5.alloc o)) := fun o => XU.out.2.2.alloc XU.out.2.2.size o
                  generalize unc T = ut at *
                  go_wp2_with (at_builtin; go_must (refine wpList_append_own _ rfl (.tmp 122) (.tmp 124) 111 rfl w1.heap.size 115 i0 (.agg #[.int .i64 0, .string ByteArray.empty]) 2 24 Tryz.underlying111 HI.out hz0 hz1 hz2 rfl (by decide) _ _ _ rfl (OA.out _) ⟨w5.heap.size, 0, none⟩ 1 1 [.int .i64 ((p : Int) + 1), .string (bs ut)] rfl rfl (cell_two_new' _ _ _ _) (by intro u hu; simp at hu; rcases hu with rfl | rfl <;> rfl) (by unfold maxLen; omega) (by omega) (SA.out _) ?_; intro v4 w4 q1 q2 q3; have O4 := Lib.hid q1; have G4 := Lib.hid q2; clear q1 q2 q3))
                  go_roundw
                  case rel =>
                    refine ⟨q + 1, out ++ [((p : Int) + 1, ut)], by omega, by go_num, ?_, (WA.out _).grown G4.out (SA.out _) LT.out, ?_⟩
                    · rw [List.length_append, lnCells_snoc]; exact O4.out
                    · rw [QL.out, S5.out, HQ.out, List.append_assoc]; rfl
                  case measure => simp [intOf]; omega
              · rw [List.concat_eq_append] at *
                have he := eq92' ch
                have es := ends_snoc r ch
                obtain ⟨X, hX⟩ : ∃ X, X = bs (r ++ [ch]) := ⟨_, rfl⟩
                have z0 : X.size = r.length + 1 := by rw [hX, bs_size]; simp
                have ne : X.toList.isEmpty = false := by rw [hX]; exact bs_some (by simp)
                have i1 : ((X.size : Int) - 1).toNat = X.size - 1 := by omega
                have i2 : (0 : Int) ≤ (X.size : Int) - 1 := by omega
                have i3 : (X.size : Int) - 1 < (X.size : Int) := by omega
                have i4 : X.size ≤ 20002 := by rw [hX, bs_size]; exact tl
                have j0 : X.size - 1 < X.size := by omega
                have hb0 : ∀ h : X.size - 1 < X.size, X[X.size - 1].toNat = ch.toNat := by
                  subst hX
                  intro h
                  have := bs_snoc_get r ch (by rw [bs_size]; simp)
                  have e : (bs (r ++ [ch])).size - 1 = r.length := by rw [z0]; rfl
                  simp only [e]
                  exact this
                have hb := hb0 j0
                clear hb0
                have hx : X.extract 0 (X.size - 1) = bs r := by rw [z0, hX]; exact bs_init r ch
                have hrl : r.length ≤ 20002 := by simp at tl; omega
                have rz : (bs r).size ≤ 20002 := by rw [bs_size]; exact hrl
                by_cases hc : ch = 92
                · rw [decide_eq_true hc] at he es
                  subst hc
                  have DL : Hid ((r ++ [92]).dropLast = r) := List.dropLast_concat
                  have XS := Lib.hid (QX.out.put NX.out GX.out r)
                  obtain ⟨d1, d2⟩ := QX.out.1.cells
                  have f1 := QX.out.1.frozen 1
                  rw [← hX] at d2
                  obtain ⟨e1, e2⟩ := XS.out.1.cells
                  by_cases hl1 : q + 1 = L.length
                  · have t1 : ((q : Int) + 1 == (L.length : Int)) = true := by rw [beq_iff_eq]; omega
                    have DN : Hid (L.drop (q + 1) = []) := Lib.hid (by rw [hl1]; exact List.drop_length)
                    rw [DN.out, fin_last es, DL.out] at QF QN
                    have HQ : Hid (q + 1 = p + c) := Lib.hid (by have := QN.out; simp at this; omega)
                    have eT : r = T := QF.out
                    rw [eT] at XS hx e2 rz
                    have XJ := XS
                    clear eT QF QN tl es hl1 XS QX hX z0 DN DL hrl
                    have tz : (bs T).size ≤ 20001 := by rw [bs_size]; have := PB.out; omega
                    go_wp2_with fail
                    obtain ⟨w4, hW4⟩ : ∃ w4, w4 = w3.setCell ⟨w2.heap.size, 1, none⟩ (.string (bs T)) := ⟨_, rfl⟩
                    rw [← hW4] at XJ ⊢
                    clear hW4 d1 d2 e1 e2 f1
                    have XU := Lib.hid (XJ.out.put NX.out GX.out (unc T))
                    obtain ⟨e1, e2⟩ := XU.out.1.cells
                    have uz : (bs (unc T)).size ≤ 20001 := by rw [bs_size]; have := unc_le T; have := PB.out; omega
                    have f1 := XJ.out.1.frozen 1
                    obtain ⟨d1, d2⟩ := XJ.out.1.cells
                    refine (aside_any (bs T) _ (by omega)).mono ?_
                    rintro e w' ⟨rfl, hw'⟩
                    rw [hw', bs_list]
                    clear hw' w' tz
                    go_upto_if 121 with fail
                    obtain ⟨w5, hW5⟩ : ∃ w5, w5 = w4.setCell ⟨w2.heap.size, 1, none⟩ (.string (bs (unc T))) := ⟨_, rfl⟩
                    rw [← hW5] at XU e1 e2 ⊢
                    clear hW5 XJ
                    by_cases hu : unc T = []
                    · have z : (bs (unc T)).toList.isEmpty = true := by rw [hu]; exact bs_none
                      rw [if_pos hu] at S5
                      rw [z]
                      clear hu z
                      go_wp2
                      go_roundw
                      case rel =>
                        refine ⟨q + 1, out, by omega, by go_num, XU.out.2.1, XU.out.2.2, ?_⟩
                        rw [QL.out, S5.out, List.nil_append, HQ.out]
                      case measure => simp [intOf]; omega
                    · have z : (bs (unc T)).toList.isEmpty = false := bs_some hu
                      rw [if_neg hu] at S5
                      rw [z]
                      clear hu z
                      have OA : Hid (∀ o, (w5.alloc o).ownsRow w1.heap.size 115 2 u6 out.length (lnCells out)) := fun o => XU.out.2.1.alloc o
                      have SA : Hid (∀ o, w1.heap.size ≤ (w5.alloc o).heap.size) := fun o => by have := XU.out.2.2.size; simp; omega
                      have LT : Hid (∀ k, u6.ownBlock = some k → w1.heap.size ≤ k) := fun k hk => (XU.out.2.1.lt k hk).1
                      have WA : Hid (∀ o, Below w1.heap.size w1 (w5.alloc o)) := fun o => XU.out.2.2.alloc XU.out.2.2.size o
                      generalize unc T = ut at *
                      go_wp2_with (at_builtin; go_must (refine wpList_append_own _ rfl (.tmp 122) (.tmp 124) 111 rfl w1.heap.size 115 i0 (.agg #[.int .i64 0, .string ByteArray.empty]) 2 24 Tryz.underlying111 HI.out hz0 hz1 hz2 rfl (by decide) _ _ _ rfl (OA.out _) ⟨w5.heap.size, 0, none⟩ 1 1 [.int .i64 ((p : Int) + 1), .string (bs ut)] rfl rfl (cell_two_new' _ _ _ _) (by intro u hu; simp at hu; rcases hu with rfl | rfl <;> rfl) (by unfold maxLen; omega) (by omega) (SA.out _) ?_; intro v4 w4 q1 q2 q3; have O4 := Lib.hid q1; have G4 := Lib.hid q2; clear q1 q2 q3))
                      go_roundw
                      case rel =>
                        refine ⟨q + 1, out ++ [((p : Int) + 1, ut)], by omega, by go_num, ?_, (WA.out _).grown G4.out (SA.out _) LT.out, ?_⟩
                        · rw [List.length_append, lnCells_snoc]; exact O4.out
                        · rw [QL.out, S5.out, HQ.out, List.append_assoc]; rfl
                      case measure => simp [intOf]; omega
                  · have t1 : ((q : Int) + 1 == (L.length : Int)) = false := by rw [beq_eq_false_iff_ne]; omega
                    have hq2 : q + 1 < L.length := by omega
                    have FN := Lib.hid (fin_next hq2 es)
                    rw [DL.out] at FN
                    have cn := HC.out _ XS.out.2.2 (q + 1) hq2
                    have ll : (lk L (q + 1)).length ≤ 20001 := Nat.le_trans (bulk_mem (getD_mem hq2)) PB.out
                    clear es hX z0 DL hrl hl1 tl
                    go_wp2_with fail
                    obtain ⟨w4, hW4⟩ : ∃ w4, w4 = w3.setCell ⟨w2.heap.size, 1, none⟩ (.string (bs r)) := ⟨_, rfl⟩
                    rw [← hW4] at XS ⊢
                    clear hW4 d1 d2 e1 e2 f1 cn QX he hb ne i1 i2 i3 i4 j0 hx
                    go_loopw [9] (fun s9 wk => ∃ y : Str, s9 = .string (bs y) ∧ triml y = triml (lk L (q + 1)) ∧ y.length ≤ 20001 ∧ wk = w4) (fun s9 _ => strOf' s9)
                    case atStart => exact ⟨_, rfl, rfl, ll, rfl⟩
                    case round =>
                      obtain ⟨y, rfl, hy, hyl, hwk⟩ := hrel
                      have hwk := hwk.symm
                      subst hwk
                      have HY := Lib.hid hy; clear hy
                      cases y with
                      | nil =>
                        have z0 := bs_none
                        have HZ : Hid (triml (lk L (q + 1)) = []) := Lib.hid HY.out.symm
                        have CAT : Hid (bs r ++ (ByteArray.mk #[32] ++ bs []) = bs (r ++ 32 :: [])) := Lib.hid (by rw [show ByteArray.mk #[32] = bs [32] from rfl, bs_app, bs_app]; rfl)
                        have yz : (bs []).size ≤ 20001 := by rw [bs_size]; exact hyl
                        obtain ⟨d1, d2⟩ := XS.out.1.cells
                        have f1 := XS.out.1.frozen 1
                        rw [HZ.out] at FN
                        have FA : Hid ((fin (r ++ 32 :: []) (L.drop (q + 1 + 1))).1 = T) := Lib.hid (by rw [← QF.out, FN.out])
                        have FB : Hid ((fin (r ++ 32 :: []) (L.drop (q + 1 + 1))).2 + (q + 1) = c + p) := Lib.hid (by have := QN.out; rw [FN.out] at this; dsimp only at this; omega)
                        go_wp2
                        go_roundw
                        case rel =>
                          refine ⟨q + 1, r ++ 32 :: [], by omega, by omega, by go_num, ?_, FA.out, FB.out⟩
                          rw [CAT.out]; exact XS.out.put NX.out GX.out _
                        case measure => simp [intOf]; omega
                      | cons cy y =>
                        obtain ⟨Y, hY⟩ : ∃ Y, Y = bs (cy :: y) := ⟨_, rfl⟩
                        have z0 : Y.size = y.length + 1 := by rw [hY, bs_size]; simp
                        have ne : Y.toList.isEmpty = false := by rw [hY]; exact bs_some (by simp)
                        have i3 : 0 < Y.size := by omega
                        have hb0 : ∀ h : 0 < Y.size, Y[0].toNat = cy.toNat := by
                          subst hY
                          intro h; rfl
                        have hb := hb0 i3
                        clear hb0
                        have hx : Y.extract 1 Y.size = bs y := by rw [hY]; exact bs_tail cy y
                        have TS := Lib.hid (triml_cons cy y)
                        have i4 : Y.size ≤ 20001 := by rw [hY, bs_size]; exact hyl
                        have i5 : 1 ≤ Y.size := i3
                        have YY := Lib.hid hY
                        have Z0 := Lib.hid z0
                        have hyl2 : y.length ≤ 20001 := by simp at hyl; omega
                        rw [← hY]
                        clear hY z0
                        go_wp2_with fail
                        refine (blank_any cy _).mono ?_
                        rintro e w' ⟨rfl, hw'⟩
                        rw [hw']
                        clear hw' w'
                        cases hc : bl cy with
                        | true =>
                          rw [hc] at TS
                          clear hc
                          go_wp2
                          go_roundw
                          case rel => exact ⟨y, rfl, by rw [← HY.out, TS.out]; simp, hyl2, trivial⟩
                          case measure =>
                            show (bs y).size < Y.size
                            rw [bs_size, Z0.out]; omega
                        | false =>
                          rw [hc] at TS
                          clear hc
                          have HZ : Hid (triml (lk L (q + 1)) = cy :: y) := Lib.hid (by rw [← HY.out, TS.out]; simp)
                          rw [YY.out]
                          clear hb hx i3 i4 i5 ne YY Z0 TS HY
                          have CAT : Hid (bs r ++ (ByteArray.mk #[32] ++ bs (cy :: y)) = bs (r ++ 32 :: (cy :: y))) := Lib.hid (by rw [show ByteArray.mk #[32] = bs [32] from rfl, bs_app, bs_app]; rfl)
                          have yz : (bs (cy :: y)).size ≤ 20001 := by rw [bs_size]; exact hyl
                          obtain ⟨d1, d2⟩ := XS.out.1.cells
                          have f1 := XS.out.1.frozen 1
                          rw [HZ.out] at FN
                          have FA : Hid ((fin (r ++ 32 :: (cy :: y)) (L.drop (q + 1 + 1))).1 = T) := Lib.hid (by rw [← QF.out, FN.out])
                          have FB : Hid ((fin (r ++ 32 :: (cy :: y)) (L.drop (q + 1 + 1))).2 + (q + 1) = c + p) := Lib.hid (by have := QN.out; rw [FN.out] at this; dsimp only at this; omega)
                          go_wp2
                          go_roundw
                          case rel =>
                            refine ⟨q + 1, r ++ 32 :: (cy :: y), by omega, by omega, by go_num, ?_, FA.out, FB.out⟩
                            rw [CAT.out]; exact XS.out.put NX.out GX.out _
                          case measure => simp [intOf]; omega
                · rw [decide_eq_false hc] at he es
                  rw [fin_stop es] at QF QN
                  have HQ : Hid (q + 1 = p + c) := Lib.hid (by have := QN.out; simp at this; omega)
                  have eT : r ++ [ch] = T := QF.out
                  rw [eT] at hX QX
                  have XJ := QX
                  subst hX
                  clear eT QX QF QN tl hx rz hrl es hc z0
                  obtain ⟨d1, d2⟩ := XJ.out.1.cells
                  have f1 := XJ.out.1.frozen 1
                  have tz : (bs T).size ≤ 20001 := by rw [bs_size]; have := PB.out; omega
                  go_wp2_with fail
                  skip
                  have XU := Lib.hid (XJ.out.put NX.out GX.out (unc T))
                  obtain ⟨e1, e2⟩ := XU.out.1.cells
                  have uz : (bs (unc T)).size ≤ 20001 := by rw [bs_size]; have := unc_le T; have := PB.out; omega
                  refine (aside_any (bs T) _ (by omega)).mono ?_
                  rintro e w' ⟨rfl, hw'⟩
                  rw [hw', bs_list]
                  clear hw' w' tz
                  go_upto_if 121 with fail
                  obtain ⟨w5, hW5⟩ : ∃ w5, w5 = w3.setCell ⟨w2.heap.size, 1, none⟩ (.string (bs (unc T))) := ⟨_, rfl⟩
                  rw [← hW5] at XU e1 e2 ⊢
                  clear hW5 XJ d1 d2 f1
                  by_cases hu : unc T = []
                  · have z : (bs (unc T)).toList.isEmpty = true := by rw [hu]; exact bs_none
                    rw [if_pos hu] at S5
                    rw [z]
                    clear hu z
                    go_wp2
                    go_roundw
                    case rel =>
                      refine ⟨q + 1, out, by omega, by go_num, XU.out.2.1, XU.out.2.2, ?_⟩
                      rw [QL.out, S5.out, List.nil_append, HQ.out]
                    case measure => simp [intOf]; omega
                  · have z : (bs (unc T)).toList.isEmpty = false := bs_some hu
                    rw [if_neg hu] at S5
                    rw [z]
                    clear hu z
                    have OA : Hid (∀ o, (w5.alloc o).ownsRow w1.heap.size 115 2 u6 out.length (lnCells out)) := fun o => XU.out.2.1.alloc o
                    have SA : Hid (∀ o, w1.heap.size ≤ (w5.alloc o).heap.size) := fun o => by have := XU.out.2.2.size; simp; omega
                    have LT : Hid (∀ k, u6.ownBlock = some k → w1.heap.size ≤ k) := fun k hk => (XU.out.2.1.lt k hk).1
                    have WA : Hid (∀ o, Below w1.heap.size w1 (w5.alloc o)) := fun o => XU.out.2.2.alloc XU.out.2.2.size o
                    generalize unc T = ut at *
                    go_wp2_with (at_builtin; go_must (refine wpList_append_own _ rfl (.tmp 122) (.tmp 124) 111 rfl w1.heap.size 115 i0 (.agg #[.int .i64 0, .string ByteArray.empty]) 2 24 Tryz.underlying111 HI.out hz0 hz1 hz2 rfl (by decide) _ _ _ rfl (OA.out _) ⟨w5.heap.size, 0, none⟩ 1 1 [.int .i64 ((p : Int) + 1), .string (bs ut)] rfl rfl (cell_two_new' _ _ _ _) (by intro u hu; simp at hu; rcases hu with rfl | rfl <;> rfl) (by unfold maxLen; omega) (by omega) (SA.out _) ?_; intro v4 w4 q1 q2 q3; have O4 := Lib.hid q1; have G4 := Lib.hid q2; clear q1 q2 q3))
                    go_roundw
                    case rel =>
                      refine ⟨q + 1, out ++ [((p : Int) + 1, ut)], by omega, by go_num, ?_, (WA.out _).grown G4.out (SA.out _) LT.out, ?_⟩
                      · rw [List.length_append, lnCells_snoc]; exact O4.out
                      · rw [QL.out, S5.out, HQ.out, List.append_assoc]; rfl
                    case measure => simp [intOf]; omega
          · obtain rfl : p = L.length := by omega
            go_wp2
            go_ret2
            unfold JPost; rw [HE.out, QL.out, List.drop_length, linesAt_nil, List.append_nil]
            exact ⟨_, rfl, QO.out.mono Q2.out.size, Q2.out.trans (QW.out.mono Q2.out.size)⟩
end Go.Proofs.YtfgcbdjkimkgpaaGreatDoor
