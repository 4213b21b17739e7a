/-
  Package graph's Part: what it hands back. Condition: the table of math/bits lies in memory as its text lays it (the card ties this).
-/
import Derived.Test.YtpjcdfphllbonaaDoorGTu
namespace Go.Proofs.YtpjcdfphllbonaaDoor
set_option maxRecDepth 100000
set_option linter.unusedVariables false
open Go.ChangeShapes Go.WideShapes Go.ChangeAt Go.RowKit

/-- a string appended -/
theorem app_str {w : World} {B q : Nat} {u : Value} {z : List Str} {x : Str} (ho : SO B u z w) (ht : Tl u w) (c0 : w.cell? ⟨q, 0, none⟩ = some (.string (bs x))) (hx : x.length ≤ 4294967296) (hl : z.length ≤ 1048576) (hB : B ≤ w.heap.size) :
    ∃ a n c w', (Builtin.append_ #[22, 22] 22 #[u, .slice (some ⟨q, 0, none⟩) 1 1]).run Tryd.prog w = .ok (.slice a n c) w' ∧ SO B (.slice a n c) (z ++ [x]) w' ∧ w.grownBy w' u.ownBlock ∧ Tl (.slice a n c) w' := by
  obtain ⟨i0, hi, hz0, hz1, hz2⟩ := info_parts infoStr
  obtain ⟨v', w', r, o, g, t⟩ := run_append_tl w B 22 i0 hi hz0 hz1 hz2 u z.length (z.map encStr) ho ht ⟨q, 0, none⟩ 1 (bs x) (fun j v hj => by
    match j, hj with
    | 0, hj => simp at hj; subst hj; exact c0
    | (j + 1), hj => simp at hj) (by rw [bs_size]; exact hx) (by unfold maxLen; omega) (by omega) hB
  obtain ⟨a, n, c, rfl⟩ : ∃ a n c, v' = .slice a n c := by
    rcases o.2 with ⟨h, _⟩ | ⟨g, cap, _, h, _⟩
    · exact ⟨_, _, _, h⟩
    · exact ⟨_, _, _, h⟩
  exact ⟨a, n, c, w', r, SO.snoc o, g, t⟩
/-- a set appended -/
theorem app_w {w : World} {B q : Nat} {u : Value} {r : List Bv} {x : Bv} (ho : WO B u r w) (c0 : w.cell? ⟨q, 0, none⟩ = some (.int .u64 (x.toNat : Int))) (hl : r.length ≤ 1048576) (hB : B ≤ w.heap.size) :
    ∃ a n c w', (Builtin.append_ #[27, 27] 27 #[u, .slice (some ⟨q, 0, none⟩) 1 1]).run Tryd.prog w = .ok (.slice a n c) w' ∧ WO B (.slice a n c) (r ++ [x]) w' ∧ w.grownBy w' u.ownBlock := by
  obtain ⟨i0, hi, hz0, hz1, hz2⟩ := info_parts infoW
  obtain ⟨v', w', rr, o, g, _⟩ := run_append_own (P := Tryd.prog) w B 27 27 24 i0 (.int .u64 0) 1 8 Tryd.underlying27 hi hz0 hz1 hz2 rfl (by decide) u r.length (r.map encW) ho ⟨q, 0, none⟩ 1 1 [.int .u64 (x.toNat : Int)] rfl (fun j v hj => by
    match j, hj with
    | 0, hj => simp at hj; subst hj; exact c0
    | (j + 1), hj => simp at hj) (by intro u hu; simp at hu; subst hu; rfl) (by unfold maxLen; omega) (by omega) hB
  obtain ⟨a, n, c, rfl⟩ : ∃ a n c, v' = .slice a n c := by
    rcases o.2 with ⟨h, _⟩ | ⟨g, cap, _, h, _⟩
    · exact ⟨_, _, _, h⟩
    · exact ⟨_, _, _, h⟩
  refine ⟨a, n, c, w', rr, ?_, g⟩
  unfold WO
  rw [List.length_append, List.map_append]
  exact o

/-- what Part hands back -/
def PartPost (g : Gr) (s : Bv) (w : World) (e : Ending) (w' : World) : Prop := Below w.heap.size w w' ∧
  ((ckG g ≠ 0 ∧ e = .returned (.tuple #[zeroG, .int .i64 (ckG g)])) ∨
   (Valid g ∧ ((¬ SetIn g.ns.length s ∧ e = .returned (.tuple #[zeroG, .int .i64 4])) ∨ (SetIn g.ns.length s ∧ ∃ v, e = .returned (.tuple #[v, .int .i64 0]) ∧ GO w.heap.size v (partG g s) w'))))
def pr (g : Gr) (s : Bv) (j : Nat) : List Bv := ((nums s).take j).map fun n => renum (wAt (rowsTo g.ns.length g.es) n) s
theorem pr_next {g : Gr} {s : Bv} {j n : Nat} (h : (nums s)[j]? = some n) : pr g s (j + 1) = pr g s j ++ [renum (wAt (rowsTo g.ns.length g.es) n) s] := by
  unfold pr; rw [List.take_add_one, h, List.map_append]; rfl
theorem pr_len (g : Gr) (s : Bv) (j : Nat) : (pr g s j).length ≤ 64 := by
  unfold pr; rw [List.length_map, List.length_take, nums_length]; have := cnt_le s; omega
set_option maxHeartbeats 8000000 in
theorem part_any (s : Bv) {w : World} {v : Value} {g : Gr} (h : GIn w v g) (ht : Tab w) : Calls Tryd.prog 9 #[v, .int .u64 (s.toNat : Int)] w (PartPost g s w) := by
  have CK := Lib.hid (fun W (hW : Below w.heap.size w W) => check_graph (h.later hW))
  have CZ : Hid (ckG g = 0 → Valid g) := ckG_zero
  have RO := Lib.hid (fun W (hW : Below w.heap.size w W) (hv : Valid g) => rowsOf_any (h.later hW) hv.len hv.ein)
  obtain ⟨nv, ev, rfl, h1, h2⟩ := h
  have HT := Lib.hid ht
  have KR0 := Lib.hid (kr_new w nv ev g)
  have W0 := Lib.hid (below2 w (.cells #[nv, ev, .int .u64 (g.ph.toNat : Int), .int .u64 (g.md.toNat : Int)] 26) (.cells #[.slice none 0 0, .slice none 0 0, .int .u64 0, .int .u64 0] 26))
  have Z0 : Hid (w.heap.size + 2 ≤ ((w.alloc (.cells #[nv, ev, .int .u64 (g.ph.toNat : Int), .int .u64 (g.md.toNat : Int)] 26)).alloc (.cells #[.slice none 0 0, .slice none 0 0, .int .u64 0, .int .u64 0] 26)).heap.size) := Lib.hid (by simp)
  obtain ⟨a1, c1, rfl, hns⟩ := sin_at h1
  obtain ⟨a2, c2, rfl⟩ := h2.shape2
  have HN := Lib.hid hns
  obtain ⟨d0, d1, d2, d3⟩ := KR0.out.1.get
  obtain ⟨⟨r0, r1, r2, r3⟩, f0, f1, f2, f3⟩ := KR0.out.res
  clear h1 h2 hns ht
  go_enter Tryd.func9, Tryd.ntmps9
  go_wp2_with fail
  refine (CK.out _ W0.out).mono ?_
  rintro e w1 ⟨rfl, b1⟩
  have B1 := Lib.hid (W0.out.trans (b1.mono W0.out.size))
  have KR1 := Lib.hid (KR0.out.later b1)
  have Z1 := Lib.hid (Nat.le_trans Z0.out b1.size)
  clear d0 d1 d2 d3 r0 r1 r2 r3 f0 f1 f2 f3 b1 KR0 W0 Z0
  obtain ⟨d0, d1, d2, d3⟩ := KR1.out.1.get
  obtain ⟨⟨r0, r1, r2, r3⟩, f0, f1, f2, f3⟩ := KR1.out.res
  by_cases hcz : ckG g ≠ 0
  · have t := zero_ne hcz
    have HNZ := Lib.hid hcz
    clear hcz CZ CK
    generalize hC : ckG g = C at *
    have EC := Lib.hid hC; clear hC
    go_wp2
    (try simp only [Exit.inBlock, Exit.then])
    refine bodyPost_ret (v := .tuple #[zeroG, .int .i64 C]) ?_ rfl ⟨?_, .inl ⟨by rw [EC.out]; exact HNZ.out, by rw [EC.out]⟩⟩
    · rw [results_cell_tmp rfl]; go_simp; rfl
    · exact below_grown B1.out (set4_grown w1 (w.heap.size + 1) _ _ _ _) B1.out.size (by omega)
  have hcz0 := Decidable.not_not.1 hcz
  have HV := Lib.hid (CZ.out hcz0)
  rw [hcz0]
  clear CZ hcz hcz0 CK
  have hl := HV.out.len
  have AN := Lib.hid (fun W => areNumbers_any s g.ns.length W hl)
  go_wp2_with fail
  refine (AN.out _).mono ?_
  rintro e w2 ⟨⟨q, rfl, hq⟩, rfl⟩
  cases q
  · have NS : Hid (¬ SetIn g.ns.length s) := Lib.hid fun h => by cases hq.2 h
    clear hq
    go_wp2
    (try simp only [Exit.inBlock, Exit.then])
    refine bodyPost_ret (v := .tuple #[zeroG, .int .i64 4]) ?_ rfl ⟨?_, .inr ⟨HV.out, .inl ⟨NS.out, rfl⟩⟩⟩
    · rw [results_cell_tmp rfl]; go_simp; rfl
    · exact below_grown B1.out (set4_grown w2 (w.heap.size + 1) _ _ _ _) B1.out.size (by omega)
  have HS := Lib.hid (hq.1 rfl)
  clear hq r0 r1 r2 r3 f0 f1 f2 f3
  go_wp2_with fail
  refine (RO.out _ B1.out HV.out).mono ?_
  rintro e w3 ⟨rb, rfl, hrb, o3, b3⟩
  have WI3 := Lib.hid o3.win
  have B3 := Lib.hid (B1.out.trans (b3.mono B1.out.size))
  have KR3 := Lib.hid (KR1.out.later b3)
  have Z3 := Lib.hid (Nat.le_trans Z1.out b3.size)
  have LA := Lib.hid ((list_any s w3 (HT.out.below B3.out HT.out.1)).mono (fun _ _ => list_blk))
  clear d0 d1 d2 d3 o3 b3 hrb RO KR1 Z1
  obtain ⟨d0, d1, d2, d3⟩ := KR3.out.1.get
  go_wp2_with fail
  refine LA.out.mono ?_
  rintro e w4 ⟨rfl, b4, cur, k4, hcur⟩
  have HR := Lib.hid hcur
  have B4 := Lib.hid b4
  have K4 := Lib.hid k4
  have KF : Hid (∀ W, Below w3.heap.size w3 W → KR W w.heap.size (.slice a1 g.ns.length c1) (.slice a2 g.es.length c2) g) := fun W hW => KR3.out.later hW
  have BT : Hid (∀ W, Below w3.heap.size w3 W → Below w.heap.size w W) := fun W hW => B3.out.trans (hW.mono B3.out.size)
  have NC : Hid (∀ W, Below w3.heap.size w3 W → ∀ k, k < g.ns.length → ∃ b off, a1 = some ⟨b, off, none⟩ ∧ W.cell? ⟨b, off + k, none⟩ = some (.string (bs (g.ns.getD k [])))) := fun W hW => HN.out W (BT.out W hW)
  have RC : Hid (∀ W, Below w3.heap.size w3 W → ∀ k, k < g.ns.length → W.cell? ⟨rb, k, none⟩ = some (.int .u64 ((wAt (rowsTo g.ns.length g.es) k).toNat : Int))) := fun W hW k hk => by
    obtain ⟨a, c, e, hc⟩ := WI3.out.later hW
    obtain ⟨b, off, e2, c2⟩ := hc k (by rw [rowsTo_length]; exact hk)
    injection e with e _ _
    rw [← e] at e2
    injection e2 with e2
    injection e2 with e3 e4
    subst e3 e4
    rw [Nat.zero_add] at c2
    exact c2
  have RNM := Lib.hid (fun (t : Bv) W (hW : Below w.heap.size w W) => renum_any t s W (HT.out.below hW HT.out.1))
  have EOF := Lib.hid (fun W V r (hW : Below w.heap.size w W) (hv : WIn W V r) (hl : r.length ≤ 64) => edgesOf_any hv hl (HT.out.below hW HT.out.1))
  have NG := Lib.hid (fun j hj => nums_get s j hj)
  have SL : Hid (∀ n, s.getLsbD n = true → n < g.ns.length) := fun n hn => in_len HS.out hn
  have GL : Hid (∀ n, n < g.ns.length → (g.ns.getD n []).length ≤ 40) := fun n hn => (good_len (HV.out.all _ (by rw [List.getD, List.getElem?_eq_getElem hn]; exact List.getElem_mem hn))).2
  have PNX := Lib.hid (fun (j n : Nat) (h : (nums s)[j]? = some n) => pn_next (g := g) h)
  have PRX := Lib.hid (fun (j n : Nat) (h : (nums s)[j]? = some n) => pr_next (g := g) h)
  have PNL := Lib.hid (pn_len g s)
  have PRL := Lib.hid (pr_len g s)
  have PN0 : Hid (pn g s 0 = []) := Lib.hid rfl
  have PR0 : Hid (pr g s 0 = []) := Lib.hid rfl
  have hcn := cnt_le s
  have PF : Hid (partG g s = ⟨pn g s (cnt s), edgesL (pr g s (cnt s)), renum g.ph s, renum g.md s⟩) := Lib.hid (by
    unfold pn pr; rw [List.take_of_length_le (by rw [nums_length]; exact Nat.le_refl _)]; rfl)
  have BH : Hid (w.heap.size ≤ w3.heap.size) := B3.out.size
  obtain ⟨e0, e1, e2, e3⟩ := (KF.out w4 b4).1.get
  clear d0 d1 d2 d3 b4 k4 hcur LA WI3 HN KR3 AN
  generalize nums s = ns at *
  generalize cnt s = C at *
  generalize hb : w3.heap.size = q at *
  have HB := Lib.hid hb; clear hb
  go_wp2_with fail
  go_loopw [8, 9, 30] (fun u r i wr => ∃ (j : Nat) (na : Option Addr) (nn nc : Nat) (ra : Option Addr) (rn rc : Nat), j ≤ C ∧ i = .int .i64 (j : Int) ∧ u = .slice na nn nc ∧ r = .slice ra rn rc ∧ SO q u (pn g s j) wr ∧ Tl u wr ∧ WO q r (pr g s j) wr ∧ Blk q cur 3 wr ∧ Below q w3 wr) (fun _ _ i _ => C - (intOf i).toNat)
  case atStart => exact ⟨0, none, 0, 0, none, 0, 0, Nat.zero_le _, rfl, rfl, rfl, by rw [PN0.out]; exact World.ownsRow_nil _ _ _ _, Tl.nil _ _ _, by rw [PR0.out]; exact World.ownsRow_nil _ _ _ _, K4.out, B4.out⟩
  case round =>
    obtain ⟨j, na, nn, nc, ra, rn, rc, hj, rfl, rfl, rfl, qn, qt, qr, qk, qb⟩ := hrel
    have QN := Lib.hid qn; have QT := Lib.hid qt; have QR := Lib.hid qr; have QK := Lib.hid qk; have QB := Lib.hid qb
    clear qn qt qr qk qb
    have hsz : q ≤ wr.heap.size := by have := QB.out.size; rw [HB.out] at this; exact this
    by_cases hjl : j < C
    · obtain ⟨n, n1, n2, _, n4⟩ := NG.out j hjl
      have cj := QK.out.cell (HR.out j n n4)
      have hnL := SL.out n n2
      have X1 := Lib.hid (PNX.out j n n4); have X2 := Lib.hid (PRX.out j n n4)
      obtain ⟨nb, noff, rfl, cn⟩ := NC.out wr QB.out n hnL
      have ll := GL.out n hnL
      obtain ⟨d0, d1, d2, d3⟩ := (KF.out wr QB.out).1.get
      have i1 : (0 : Int) ≤ (n : Int) := by omega
      have i2 : (n : Int) < (g.ns.length : Int) := by omega
      have RCn := Lib.hid (fun W hW => RC.out W hW n hnL)
      have pl := PNL.out j; have pl2 := PRL.out j
      generalize g.ns.getD n [] = x at *
      generalize wAt (rowsTo g.ns.length g.es) n = t at *
      have WA : Hid (Below q w3 (wr.alloc (.cells #[.string (bs x)] 9))) := QB.out.alloc hsz _
      have OA : SO q (.slice na nn nc) (pn g s j) (wr.alloc (.cells #[.string (bs x)] 9)) := World.ownsRow.alloc QN.out _
      obtain ⟨a5, n5, c5, w5, r5, o5, g5, t5⟩ := app_str OA (QT.out.alloc _) ((blk_new wr #[.string (bs x)] 9).cell rfl) (by omega) (by omega) (by simp; omega)
      have B5 : Hid (Below q w3 w5) := WA.out.grown g5 (by simp; omega) (fun k hk => (OA.lt k hk).1)
      have K5 := Lib.hid (blk_app (QK.out.alloc _) OA (by decide) g5)
      have R5 : Hid (WO q (.slice ra rn rc) (pr g s j) w5) := World.ownsRow.kept (World.ownsRow.alloc QR.out _) g5 (own_differ (World.ownsRow.alloc QR.out _) OA (by decide))
      have hs5 : q ≤ w5.heap.size := by have := B5.out.size; rw [HB.out] at this; exact this
      have RR5 := Lib.hid r5; have O5 := Lib.hid o5; have T5 := Lib.hid t5
      have cr := RCn.out w5 B5.out
      have RN5 := Lib.hid (RNM.out t w5 (BT.out _ B5.out))
      clear OA r5 o5 g5 t5
      go_wp2_with (at_builtin; go_must (refine Lib.wpList_append_run _ rfl (.tmp 34) (.tmp 40) 22 22 rfl _ _ rfl rfl _ _ RR5.out ?_))
      refine RN5.out.mono ?_
      rintro e w6 ⟨rfl, b6⟩
      have B6 : Hid (Below q w3 w6) := B5.out.trans (b6.mono hs5)
      have hs6 : q ≤ w6.heap.size := Nat.le_trans hs5 b6.size
      have O6 := Lib.hid (own_later O5.out b6); have T6 := Lib.hid (T5.out.later b6)
      have R6 := Lib.hid (own_later R5.out b6); have K6 := Lib.hid (K5.out.later b6)
      have R6A : WO q (.slice ra rn rc) (pr g s j) (w6.alloc (.cells #[.int .u64 ((renum t s).toNat : Int)] 24)) := World.ownsRow.alloc R6.out _
      have WB : Hid (Below q w3 (w6.alloc (.cells #[.int .u64 ((renum t s).toNat : Int)] 24))) := B6.out.alloc hs6 _
      obtain ⟨a7, n7, c7, w7, r7, o7, g7⟩ := app_w R6A ((blk_new w6 #[.int .u64 ((renum t s).toNat : Int)] 24).cell rfl) (by omega) (by simp; omega)
      have O7 : Hid (SO q (.slice a5 n5 c5) (pn g s j ++ [x]) w7) := World.ownsRow.kept (World.ownsRow.alloc O6.out _) g7 (own_differ (World.ownsRow.alloc O6.out _) R6A (by decide))
      have T7 : Hid (Tl (.slice a5 n5 c5) w7) := (T6.out.alloc _).kept g7 (own_differ (World.ownsRow.alloc O6.out _) R6A (by decide))
      have K7 := Lib.hid (blk_app (K6.out.alloc _) R6A (by decide) g7)
      have B7 : Hid (Below q w3 w7) := WB.out.grown g7 (by simp; omega) (fun k hk => (R6A.lt k hk).1)
      have RR7 := Lib.hid r7; have R7 := Lib.hid o7
      clear b6 R6A r7 o7 g7 cr cn cj d0 d1 d2 d3
      generalize renum t s = y at *
      go_wp2_with (at_builtin; go_must (refine Lib.wpList_append_run _ rfl (.tmp 42) (.tmp 49) 27 27 rfl _ _ rfl rfl _ _ RR7.out ?_))
      go_roundw
      case rel => exact ⟨j + 1, _, _, _, _, _, _, by omega, by go_num, rfl, rfl, by rw [X1.out]; exact O7.out, T7.out, by rw [X2.out]; exact R7.out, K7.out, B7.out⟩
      case measure => simp [intOf]; omega
    · obtain rfl : j = C := by omega
      obtain ⟨d0, d1, d2, d3⟩ := (KF.out wr QB.out).1.get
      have WI := Lib.hid (WO.win QR.out)
      have pl2 := Lib.hid (PRL.out j)
      have BD : Hid (Below wr.heap.size wr wr.drew) := (Below.refl _ _).drew
      have BW1 : Hid (∀ W, Below wr.heap.size wr W → Below q w3 W) := fun W hW => QB.out.trans (hW.mono hsz)
      have BWr : Hid (∀ W, Below wr.heap.size wr W → Below w.heap.size w W) := fun W hW => BT.out _ (BW1.out _ hW)
      have KQ : Hid (∀ W, Below wr.heap.size wr W → KR W w.heap.size (.slice a1 g.ns.length c1) (.slice a2 g.es.length c2) g) := fun W hW => KF.out _ (BW1.out _ hW)
      have KG : Hid (∀ W, Below wr.heap.size wr W → W.cell? ⟨w.heap.size, 2, none⟩ = some (.int .u64 (g.ph.toNat : Int)) ∧ W.cell? ⟨w.heap.size, 3, none⟩ = some (.int .u64 (g.md.toNat : Int))) := fun W hW => by
        obtain ⟨_, _, q2, q3⟩ := (KQ.out W hW).1.get
        exact ⟨q2, q3⟩
      have LB : Hid (∀ W, Below wr.heap.size wr W → q ≤ W.heap.size) := fun W hW => Nat.le_trans hsz hW.size
      have EO1 := Lib.hid (fun W (hW : Below wr.heap.size wr W) => EOF.out W _ _ (BWr.out _ hW) (WI.out.later hW) pl2.out)
      have RP := Lib.hid (fun W (hW : Below wr.heap.size wr W) => RNM.out g.ph W (BWr.out _ hW))
      have RM := Lib.hid (fun W (hW : Below wr.heap.size wr W) => RNM.out g.md W (BWr.out _ hW))
      have NF := Lib.hid (fun W (hW : Below wr.heap.size wr W) => own_later QN.out hW)
      have TF := Lib.hid (fun W (hW : Below wr.heap.size wr W) => QT.out.later hW)
      have GG : Hid (∀ W a n c, SO q (.slice na nn nc) (pn g s j) W → Tl (.slice na nn nc) W → EO q (.slice a n c) (edgesL (pr g s j)) W → TlE (.slice a n c) W → GO q (.agg #[.slice na nn nc, .slice a n c, .int .u64 ((renum g.ph s).toNat : Int), .int .u64 ((renum g.md s).toNat : Int)]) (partG g s) W) := fun W a n c q1 q2 q3 q4 => by
        rw [PF.out]; exact ⟨_, _, rfl, q1, q2, q3, q4⟩
      clear d0 d1 d2 d3 WI QN QT QR QK QB BT NC RC RNM EOF NG SL GL PNX PRX PNL PRL PN0 PR0 PF hsz KF BW1 K4 HR B4 hcn HT
      obtain ⟨d2, d3⟩ := KG.out wr (Below.refl _ _)
      have Z4 : Hid (w.heap.size + 1 < q) := Lib.hid (by have := Z3.out; omega)
      clear Z3
      generalize hP : (g.ph.toNat : Int) = P at *
      generalize hQ : (g.md.toNat : Int) = Q at *
      clear hP hQ
      generalize ((renum g.ph s).toNat : Int) = P' at *
      generalize ((renum g.md s).toNat : Int) = Q' at *
      go_wp2_with fail
      go_region_held3 (fun w' => w'.cell? ⟨w.heap.size, 2, none⟩ = some (.int .u64 P) ∧ w'.cell? ⟨w.heap.size, 3, none⟩ = some (.int .u64 Q)) (first | exact ⟨d2, d3⟩ | exact ⟨k2, k3⟩ | assumption | go_keep) (first
        | (go_at_call_of 36 (Value.int .u64 P); refine (RP.out _ BD.out).mono ?_; rintro e w5 ⟨rfl, b5⟩
           (try have OE := Lib.hid (own_later OE.out b5)); (try have TE1 := Lib.hid (TE1.out.later b5))
           have BD := Lib.hid (BD.out.trans (b5.mono BD.out.size))
           obtain ⟨k2, k3⟩ := KG.out _ BD.out
           obtain ⟨⟨r0, r1, r2, r3⟩, f0, f1, f2, f3⟩ := (KQ.out _ BD.out).res
           clear b5)
        | (go_at_call_of 36 (Value.int .u64 Q); refine (RM.out _ BD.out).mono ?_; rintro e w5 ⟨rfl, b5⟩
           (try have OE := Lib.hid (own_later OE.out b5)); (try have TE1 := Lib.hid (TE1.out.later b5))
           have BD := Lib.hid (BD.out.trans (b5.mono BD.out.size))
           obtain ⟨k2, k3⟩ := KG.out _ BD.out
           obtain ⟨⟨r0, r1, r2, r3⟩, f0, f1, f2, f3⟩ := (KQ.out _ BD.out).res
           clear b5)
        | (go_at_call 34; refine (EO1.out _ BD.out).mono ?_; rintro e w6 ⟨ae, ne, ce, rfl, o6, t6, b6⟩
           have OE := Lib.hid (own_base o6 (LB.out _ BD.out)); have TE1 := Lib.hid t6
           have BD := Lib.hid (BD.out.trans (b6.mono BD.out.size))
           obtain ⟨k2, k3⟩ := KG.out _ BD.out
           obtain ⟨⟨r0, r1, r2, r3⟩, f0, f1, f2, f3⟩ := (KQ.out _ BD.out).res
           clear o6 t6 b6))
      all_goals
        have BF := Lib.hid (BWr.out _ BD.out)
        have GX := Lib.hid (GG.out _ _ _ _ (NF.out _ BD.out) (TF.out _ BD.out) OE.out TE1.out)
        clear d2 d3 k2 k3
        go_wp2
        (try simp only [Exit.inBlock, Exit.then])
        refine bodyPost_ret (v := .tuple #[.agg #[.slice na nn nc, .slice ae ne ce, .int .u64 P', .int .u64 Q'], .int .i64 0]) ?_ rfl ⟨below_grown BF.out (set4_grown _ (w.heap.size + 1) _ _ _ _) BF.out.size (by omega), .inr ⟨HV.out, .inr ⟨HS.out, _, rfl, ?_⟩⟩⟩
        · rw [results_cell_tmp rfl]; go_simp; try rfl
        · exact (GO.kept GX.out (set4_grown _ _ _ _ _ _) Z4.out).base BH.out
end Go.Proofs.YtpjcdfphllbonaaDoor
