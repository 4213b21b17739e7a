/-
  The document's answer (package millwrightref) for graphs: GraphPart. No condition.
-/
import Derived.Test.YtpjcdfphllbonaaDoorGRo
import Derived.Laws.Rows
import Derived.Laws.ResultCell
namespace Go.Proofs.YtpjcdfphllbonaaDoor
set_option maxRecDepth 100000
set_option linter.unusedVariables false
open Go.ChangeShapes Go.WideShapes Go.ChangeAt Go.RowKit

/-- the set of the first j numbers of x that are in t, by their indices -/
def InTo (x t : Bv) (j : Nat) (u : Bv) : Prop := ∀ i, i < 64 → (u.getLsbD i = true ↔ ∃ n, i < j ∧ (nums x)[i]? = some n ∧ t.getLsbD n = true)
theorem inTo_zero (x t : Bv) : InTo x t 0 0#64 := fun i _ => by simp
theorem inTo_yes {x t u : Bv} {j n : Nat} (h : InTo x t j u) (hn : (nums x)[j]? = some n) (ht : t.getLsbD n = true) : InTo x t (j + 1) (u ||| one j) := fun i hi => by
  rw [BitVec.getLsbD_or, one_bit j i hi, Bool.or_eq_true, decide_eq_true_iff, h i hi]
  constructor
  · rintro (⟨m, h1, h2, h3⟩ | rfl)
    · exact ⟨m, by omega, h2, h3⟩
    · exact ⟨n, by omega, hn, ht⟩
  · rintro ⟨m, h1, h2, h3⟩
    rcases Nat.lt_succ_iff_lt_or_eq.1 h1 with h' | rfl
    · exact .inl ⟨m, h', h2, h3⟩
    · exact .inr rfl
theorem inTo_no {x t u : Bv} {j n : Nat} (h : InTo x t j u) (hn : (nums x)[j]? = some n) (ht : t.getLsbD n = false) : InTo x t (j + 1) u := fun i hi => by
  rw [h i hi]
  constructor
  · rintro ⟨m, h1, h2, h3⟩; exact ⟨m, by omega, h2, h3⟩
  · rintro ⟨m, h1, h2, h3⟩
    rcases Nat.lt_succ_iff_lt_or_eq.1 h1 with h' | rfl
    · exact ⟨m, h', h2, h3⟩
    · rw [hn] at h2; injection h2 with h2; subst h2; rw [ht] at h3; cases h3
theorem inTo_all {x t u : Bv} (h : InTo x t (cnt x) u) : u = renum t x := by
  refine bv_ext fun i hi => ?_
  rw [Bool.eq_iff_iff, h i hi, renum_bit]
  constructor
  · rintro ⟨n, h1, h2, h3⟩
    obtain ⟨m, m1, m2, m3, m4⟩ := nums_get x i h1
    rw [h2] at m4; injection m4 with m4; subst m4
    exact ⟨n, m1, h3, m2, m3⟩
  · rintro ⟨n, n1, n2, n3, rfl⟩
    exact ⟨n, rank_lt n3, nums_rank n3, n2⟩
/-- the rows of a part, as far as the first j -/
def RwTo (g : Gr) (s : Bv) (j : Nat) (O : List Bv) : Prop := O.length = cnt s ∧ ∀ i, i < cnt s → wAt O i = if i < j then wAt ((nums s).map fun n => renum (wAt (rowsTo g.ns.length g.es) n) s) i else 0#64
theorem rwTo_zero (g : Gr) (s : Bv) : RwTo g s 0 (List.replicate (cnt s) 0#64) := ⟨List.length_replicate, fun i _ => by rw [wAt_replicate]; simp⟩
theorem rwTo_at {g : Gr} {s : Bv} {j n : Nat} {O : List Bv} (h : RwTo g s j O) (hj : j < cnt s) : wAt O j = 0#64 := by rw [h.2 j hj]; simp
theorem rwTo_next {g : Gr} {s : Bv} {j n : Nat} {O U : List Bv} (h : RwTo g s j O) (hj : (nums s)[j]? = some n) (hl : U.length = O.length) (hk : ∀ i, i ≠ j → wAt U i = wAt O i) (hU : wAt U j = renum (wAt (rowsTo g.ns.length g.es) n) s) : RwTo g s (j + 1) U := by
  refine ⟨by rw [hl, h.1], fun i hi => ?_⟩
  by_cases e : i = j
  · subst e
    rw [hU, if_pos (by omega)]
    show _ = (List.map (fun n => renum (wAt (rowsTo g.ns.length g.es) n) s) (nums s)).getD i 0#64
    rw [List.getD_eq_getElem?_getD, List.getElem?_map, hj]; rfl
  · rw [hk i e, h.2 i hi]
    by_cases h2 : i < j
    · rw [if_pos h2, if_pos (by omega)]
    · rw [if_neg h2, if_neg (by omega)]
theorem rwTo_all {g : Gr} {s : Bv} {O : List Bv} (h : RwTo g s (cnt s) O) : O = (nums s).map fun n => renum (wAt (rowsTo g.ns.length g.es) n) s := by
  refine rows_ext (by rw [h.1, List.length_map, nums_length]) fun i hi => ?_
  rw [h.1] at hi
  rw [h.2 i hi, if_pos hi]
def pn (g : Gr) (s : Bv) (j : Nat) : List Str := ((nums s).take j).map fun n => g.ns.getD n []
theorem pn_next {g : Gr} {s : Bv} {j n : Nat} (h : (nums s)[j]? = some n) : pn g s (j + 1) = pn g s j ++ [g.ns.getD n []] := by
  unfold pn; rw [List.take_add_one, h, List.map_append]; rfl
theorem pn_len (g : Gr) (s : Bv) (j : Nat) : (pn g s j).length ≤ 64 := by
  unfold pn; rw [List.length_map, List.length_take, nums_length]; have := cnt_le s; omega
/-- the result's cells, and the argument's -/
def KR (w : World) (k : Nat) (nv ev : Value) (g : Gr) : Prop := GBlk k nv ev g w ∧ Blk (k + 1) #[.slice none 0 0, .slice none 0 0, .int .u64 0, .int .u64 0] 26 w
theorem KR.later {w w' : World} {k : Nat} {nv ev : Value} {g : Gr} (h : KR w k nv ev g) (hb : Below w.heap.size w w') : KR w' k nv ev g := ⟨h.1.later hb, h.2.later hb⟩
theorem KR.res {w : World} {k : Nat} {nv ev : Value} {g : Gr} (h : KR w k nv ev g) : (w.cell? ⟨k + 1, 0, none⟩ = some (.slice none 0 0) ∧ w.cell? ⟨k + 1, 1, none⟩ = some (.slice none 0 0) ∧ w.cell? ⟨k + 1, 2, none⟩ = some (.int .u64 0) ∧ w.cell? ⟨k + 1, 3, none⟩ = some (.int .u64 0)) ∧
    w.frozen? ⟨k + 1, 0, none⟩ = false ∧ w.frozen? ⟨k + 1, 1, none⟩ = false ∧ w.frozen? ⟨k + 1, 2, none⟩ = false ∧ w.frozen? ⟨k + 1, 3, none⟩ = false :=
  ⟨⟨h.2.cell rfl, h.2.cell rfl, h.2.cell rfl, h.2.cell rfl⟩, h.2.free 0, h.2.free 1, h.2.free 2, h.2.free 3⟩
theorem kr_new (w : World) (nv ev : Value) (g : Gr) : KR ((w.alloc (.cells #[nv, ev, .int .u64 (g.ph.toNat : Int), .int .u64 (g.md.toNat : Int)] 26)).alloc (.cells #[.slice none 0 0, .slice none 0 0, .int .u64 0, .int .u64 0] 26)) w.heap.size nv ev g := by
  refine ⟨(blk_new w _ 26).alloc _, ?_⟩
  have := blk_new (w.alloc (.cells #[nv, ev, .int .u64 (g.ph.toNat : Int), .int .u64 (g.md.toNat : Int)] 26)) #[.slice none 0 0, .slice none 0 0, .int .u64 0, .int .u64 0] 26
  rwa [show (w.alloc (.cells #[nv, ev, .int .u64 (g.ph.toNat : Int), .int .u64 (g.md.toNat : Int)] 26)).heap.size = w.heap.size + 1 by simp] at this
/-- a string appended to a row of one's own -/
theorem app_s {w : World} {B q : Nat} {u : Value} {z : List Str} {x : Str} (ho : SO B u z w) (c0 : w.cell? ⟨q, 0, none⟩ = some (.string (bs x))) (hl : z.length ≤ 1048576) (hB : B ≤ w.heap.size) :
    ∃ a n c w', (Builtin.append_ #[22, 22] 22 #[u, .slice (some ⟨q, 0, none⟩) 1 1]).run Tryd.prog w = .ok (.slice a n c) w' ∧ SO B (.slice a n c) (z ++ [x]) w' ∧ w.grownBy w' u.ownBlock := by
  obtain ⟨i0, hi, hz0, hz1, hz2⟩ := info_parts infoStr
  obtain ⟨v', w', rr, o, g, _⟩ := run_append_own (P := Tryd.prog) w B 22 22 9 i0 (.string ByteArray.empty) 1 16 Tryd.underlying22 hi hz0 hz1 hz2 rfl (by decide) u z.length (z.map encStr) ho ⟨q, 0, none⟩ 1 1 [.string (bs x)] rfl (fun j v hj => by
    match j, hj with
    | 0, hj => simp at hj; subst hj; exact c0
    | (j + 1), hj => simp at hj) (by intro u hu; simp at hu; subst hu; rfl) (by unfold maxLen; omega) (by omega) hB
  obtain ⟨a, n, c, rfl⟩ : ∃ a n c, v' = .slice a n c := by
    rcases o.2 with ⟨h, _⟩ | ⟨g, cap, _, h, _⟩
    · exact ⟨_, _, _, h⟩
    · exact ⟨_, _, _, h⟩
  exact ⟨a, n, c, w', rr, SO.snoc o, g⟩
theorem own_differ {w : World} {B B' : Nat} {e e' : TypeId} {s s' n n' : Nat} {u v : Value} {xs ys : List Value} (h : w.ownsRow B e s v n xs) (o : w.ownsRow B' e' s' u n' ys) (hne : e ≠ e') : v.ownBlock = none ∨ v.ownBlock ≠ u.ownBlock := by
  rcases h.2 with ⟨rfl, _⟩ | ⟨g, cap, cur, rfl, _, hg, _⟩
  · exact .inl rfl
  · right
    intro hq
    rcases o.2 with ⟨rfl, _⟩ | ⟨g', cap', cur', rfl, _, hg', _⟩
    · cases hq
    · have e1 : g = g' := Option.some.inj hq
      subst e1
      rw [hg] at hg'
      injection hg' with hg'
      injection hg' with _ h2
      exact hne h2
set_option maxHeartbeats 16000000 in
theorem refPart_any (s : Bv) {w : World} {v : Value} {g : Gr} (h : GIn w v g) (hv : Valid g) (hs : SetIn g.ns.length s) :
    Calls Tryd.prog 20 #[v, .int .u64 (s.toNat : Int)] w fun e w' => ∃ v', e = .returned v' ∧ GIn w' v' (partG g s) ∧ Below w.heap.size w w' := by
  have RO := Lib.hid (fun W (hW : Below w.heap.size w W) => rowsR_any (h.later hW) hv.len hv.ein)
  obtain ⟨i0, hi, hz0, hz1, hz2⟩ := info_parts infoW
  obtain ⟨nv, ev, rfl, h1, h2⟩ := h
  have HV := Lib.hid hv
  have KR0 := Lib.hid (kr_new w nv ev g)
  have W0 := Lib.hid (below2 w (.cells #[nv, ev, .int .u64 (g.ph.toNat : Int), .int .u64 (g.md.toNat : Int)] 26) (.cells #[.slice none 0 0, .slice none 0 0, .int .u64 0, .int .u64 0] 26))
  have Z0 : Hid (w.heap.size + 2 ≤ ((w.alloc (.cells #[nv, ev, .int .u64 (g.ph.toNat : Int), .int .u64 (g.md.toNat : Int)] 26)).alloc (.cells #[.slice none 0 0, .slice none 0 0, .int .u64 0, .int .u64 0] 26)).heap.size) := Lib.hid (by simp)
  obtain ⟨a1, c1, rfl, hns⟩ := sin_at h1
  obtain ⟨a2, c2, rfl⟩ := h2.shape2
  have HN := Lib.hid hns
  have hcn := cnt_le s
  have NGx := Lib.hid (fun j hj => nums_get s j hj)
  have SL : Hid (∀ n, s.getLsbD n = true → n < g.ns.length) := fun n hn => in_len hs hn
  have GL : Hid (∀ n, n < g.ns.length → (g.ns.getD n []).length ≤ 40) := fun n hn => (good_len (hv.all _ (by rw [List.getD, List.getElem?_eq_getElem hn]; exact List.getElem_mem hn))).2
  have PNX := Lib.hid (fun (j n : Nat) (h : (nums s)[j]? = some n) => pn_next (g := g) h)
  have PNL := Lib.hid (pn_len g s)
  have PN0 : Hid (pn g s 0 = []) := Lib.hid rfl
  have PNG : Hid (∀ j, ∀ x ∈ pn g s j, x.length ≤ 40) := fun j x hx => by
    obtain ⟨n, hn, rfl⟩ := List.mem_map.1 hx
    exact GL.out n (SL.out n (nums_mem.1 (List.mem_of_mem_take hn)).2)
  have IY := Lib.hid (fun (t u : Bv) (j n : Nat) (h : InTo s t j u) h2 h3 => inTo_yes (n := n) h h2 h3)
  have IN := Lib.hid (fun (t u : Bv) (j n : Nat) (h : InTo s t j u) h2 h3 => inTo_no (n := n) h h2 h3)
  have IA := Lib.hid (fun (t u : Bv) (h : InTo s t (cnt s) u) => inTo_all h)
  have I0 := Lib.hid (inTo_zero s)
  have RZ := Lib.hid (rwTo_zero g s)
  have RAt := Lib.hid (fun (j : Nat) (O : List Bv) (h : RwTo g s j O) hj => rwTo_at (n := 0) h hj)
  have RNx := Lib.hid (fun (j n : Nat) (O U : List Bv) (h : RwTo g s j O) hj hl hk hU => rwTo_next (n := n) (U := U) h hj hl hk hU)
  have RAl := Lib.hid (fun (O : List Bv) (h : RwTo g s (cnt s) O) => rwTo_all h)
  have RLn : Hid (∀ j O, RwTo g s j O → O.length = cnt s) := fun j O h => h.1
  have PF : Hid (partG g s = ⟨pn g s (cnt s), edgesL ((nums s).map fun n => renum (wAt (rowsTo g.ns.length g.es) n) s), renum g.ph s, renum g.md s⟩) := Lib.hid (by
    unfold pn; rw [List.take_of_length_le (by rw [nums_length]; exact Nat.le_refl _)]; rfl)
  clear h1 h2 hns
  go_enter Tryd.func20, Tryd.ntmps20
  go_wp2_with fail
  refine (numbers_any s _).mono ?_
  rintro e w1 ⟨lv, rfl, lo, b1⟩
  have B1 := Lib.hid (W0.out.trans (b1.mono W0.out.size))
  have KR1 := Lib.hid (KR0.out.later b1)
  have Z1 := Lib.hid (Nat.le_trans Z0.out b1.size)
  obtain ⟨la, lc, rfl, hlist⟩ := nums_own lo
  have L1 : Hid (LB la (cnt s) (nums s) w1) := Lib.hid (hlist.imp id fun ⟨b, cur, h1, _, h2, h3⟩ => ⟨b, cur, h1, h2, h3⟩)
  clear hlist lo b1 KR0 Z0 W0
  obtain ⟨d0, d1, d2, d3⟩ := KR1.out.1.get
  go_wp2_with fail
  refine (RO.out _ B1.out).mono ?_
  rintro e w2 ⟨rb, rfl, hrb, o2, b2⟩
  have B2 := Lib.hid (B1.out.trans (b2.mono B1.out.size))
  have WI2 := Lib.hid o2.win
  have KR2 := Lib.hid (KR1.out.later b2)
  have Z2 := Lib.hid (Nat.le_trans Z1.out b2.size)
  have L2 : Hid (LB la (cnt s) (nums s) w2) := Lib.hid (L1.out.at fun b cur hb => hb.later b2)
  obtain ⟨w3, rmk, o3, g3⟩ := run_make_full (P := Tryd.prog) w2 w2.heap.size 27 24 i0 (.int .u64 0) 1 Tryd.underlying27 hi hz0 hz1 .i64 .i64 (cnt s) (by rw [hz2]; omega) (by unfold maxLen; omega) (Nat.le_refl _)
  rw [zeros_w] at o3
  have B3 : Hid (Below w2.heap.size w2 w3) := (Below.refl _ _).grown g3 (Nat.le_refl _) (fun q hq => by cases hq)
  have O3 : Hid (WO w2.heap.size (.slice (some ⟨w2.heap.size, 0, none⟩) (cnt s) (cnt s)) (List.replicate (cnt s) 0#64) w3) := by
    show World.ownsRow _ _ _ _ _ _ _
    rw [List.length_replicate]; exact o3
  have BT : Hid (∀ W, Below w2.heap.size w2 W → Below w.heap.size w W) := fun W hW => B2.out.trans (hW.mono B2.out.size)
  have KF : Hid (∀ W, Below w2.heap.size w2 W → KR W w.heap.size (.slice a1 g.ns.length c1) (.slice a2 g.es.length c2) g) := fun W hW => KR2.out.later hW
  have LF : Hid (∀ W, Below w2.heap.size w2 W → LB la (cnt s) (nums s) W) := fun W hW => L2.out.at fun b cur hb => hb.later hW
  have NC : Hid (∀ W, Below w2.heap.size w2 W → ∀ k, k < g.ns.length → ∃ b off, a1 = some ⟨b, off, none⟩ ∧ W.cell? ⟨b, off + k, none⟩ = some (.string (bs (g.ns.getD k [])))) := fun W hW => HN.out W (BT.out W hW)
  have RC : Hid (∀ W, Below w2.heap.size w2 W → ∀ k, k < g.ns.length → W.cell? ⟨rb, k, none⟩ = some (.int .u64 ((wAt (rowsTo g.ns.length g.es) k).toNat : Int))) := fun W hW k hk => by
    obtain ⟨a, c, e, hc⟩ := WI2.out.later hW
    obtain ⟨b, off, e2, c2⟩ := hc k (by rw [rowsTo_length]; exact hk)
    injection e with e _ _
    rw [← e] at e2
    injection e2 with e2
    injection e2 with e3 e4
    subst e3 e4
    rw [Nat.zero_add] at c2
    exact c2
  have BH : Hid (w.heap.size ≤ w2.heap.size) := B2.out.size
  clear d0 d1 d2 d3 hrb o2 b2 o3 g3 hi hz0 hz1 hz2 L1 L2 KR1 KR2 WI2 B1 Z1 HN RO
  generalize hns : nums s = ns at *
  generalize hC : cnt s = C at *
  generalize hb : w2.heap.size = b at *
  have HB := Lib.hid hb; clear hb hns hC
  go_wp2_with fail
  go_loopw [7, 9, 10, 24] (fun u p m i wr => ∃ (j : Nat) (na : Option Addr) (nn nc : Nat) (ph md : Bv) (O : List Bv), j ≤ C ∧ i = .int .i64 (j : Int) ∧ u = .slice na nn nc ∧ p = .int .u64 (ph.toNat : Int) ∧ m = .int .u64 (md.toNat : Int) ∧ InTo s g.ph j ph ∧ InTo s g.md j md ∧ RwTo g s j O ∧ SO (b + 1) u (pn g s j) wr ∧ WO b (.slice (some ⟨b, 0, none⟩) C C) O wr ∧ Below b w2 wr) (fun _ _ _ i _ => C - (intOf i).toNat)
  case atStart => exact ⟨0, none, 0, 0, 0#64, 0#64, _, Nat.zero_le _, rfl, rfl, rfl, rfl, I0.out _, I0.out _, RZ.out, by rw [PN0.out]; exact World.ownsRow_nil _ _ _ _, O3.out, B3.out⟩
  case round =>
    obtain ⟨j, na, nn, nc, ph, md, O, hj, rfl, rfl, rfl, rfl, qp, qm, qr, qn, qo, qb⟩ := hrel
    have QP := Lib.hid qp; have QM := Lib.hid qm; have QR := Lib.hid qr; have QN := Lib.hid qn; have QO := Lib.hid qo; have QB := Lib.hid qb
    clear qp qm qr qn qo qb
    have hsz : b ≤ wr.heap.size := by have := QB.out.size; rw [HB.out] at this; exact this
    have ol := RLn.out _ _ QR.out
    by_cases hjl : j < C
    · obtain ⟨n, n1, n2, _, n4⟩ := NGx.out j hjl
      obtain ⟨lb, cur, rfl, lk, hcur⟩ := (LF.out wr QB.out).resolve_left (by omega)
      have cj := lk.cell (hcur j n n4)
      have hnL := SL.out n n2
      have X1 := Lib.hid (PNX.out j n n4)
      obtain ⟨nb, noff, rfl, cn⟩ := NC.out wr QB.out n hnL
      obtain ⟨d0, d1, d2, d3⟩ := (KF.out wr QB.out).1.get
      have i1 : (0 : Int) ≤ (n : Int) := by omega
      have i2 : (n : Int) < (g.ns.length : Int) := by omega
      have pl := PNL.out j
      have N4 := Lib.hid n4
      have R0x := RAt.out j O QR.out hjl
      have RNj := Lib.hid (fun U hl hk hU => RNx.out j n O U QR.out n4 hl hk hU)
      generalize g.ns.getD n [] = x at *
      have WA : Hid (Below b w2 (wr.alloc (.cells #[.string (bs x)] 9))) := QB.out.alloc hsz _
      have OA : SO (b + 1) (.slice na nn nc) (pn g s j) (wr.alloc (.cells #[.string (bs x)] 9)) := World.ownsRow.alloc QN.out _
      have hbb : b + 1 ≤ wr.heap.size := by have := (QO.out.lt b rfl).2; omega
      obtain ⟨a5, n5, c5, w5, r5, o5, g5⟩ := app_s OA ((blk_new wr #[.string (bs x)] 9).cell rfl) (by omega) (by simp; omega)
      have B5 : Hid (Below b w2 w5) := WA.out.grown g5 (by simp; omega) (fun k hk => by have := (OA.lt k hk).1; omega)
      have R5 : Hid (WO b (.slice (some ⟨b, 0, none⟩) C C) O w5) := World.ownsRow.kept (World.ownsRow.alloc QO.out _) g5 (own_differ (World.ownsRow.alloc QO.out _) OA (by decide))
      have RR5 := Lib.hid r5; have O5 := Lib.hid o5
      obtain ⟨e0, e1, e2, e3⟩ := (KF.out w5 B5.out).1.get
      have HPx : ∃ ph', (g.ph.getLsbD n = true ∧ ph' = ph ||| one j ∨ g.ph.getLsbD n = false ∧ ph' = ph) ∧ InTo s g.ph (j + 1) ph' := by
        cases h : g.ph.getLsbD n
        · exact ⟨ph, .inr ⟨rfl, rfl⟩, IN.out _ _ _ _ QP.out n4 h⟩
        · exact ⟨_, .inl ⟨rfl, rfl⟩, IY.out _ _ _ _ QP.out n4 h⟩
      have HMx : ∃ md', (g.md.getLsbD n = true ∧ md' = md ||| one j ∨ g.md.getLsbD n = false ∧ md' = md) ∧ InTo s g.md (j + 1) md' := by
        cases h : g.md.getLsbD n
        · exact ⟨md, .inr ⟨rfl, rfl⟩, IN.out _ _ _ _ QM.out n4 h⟩
        · exact ⟨_, .inl ⟨rfl, rfl⟩, IY.out _ _ _ _ QM.out n4 h⟩
      obtain ⟨ph', hp', hpi⟩ := HPx
      obtain ⟨md', hm', hmi⟩ := HMx
      have NPI := Lib.hid hpi; have NMI := Lib.hid hmi
      have hj64 : (j : Int) < 64 := by omega
      have ep : bits .or .u64 (ph.toNat : Int) (IntKind.u64.wrap (2 ^ j)) = ((ph ||| one j).toNat : Int) := by rw [one_walk j (by omega), bv_or]
      have em : bits .or .u64 (md.toNat : Int) (IntKind.u64.wrap (2 ^ j)) = ((md ||| one j).toNat : Int) := by rw [one_walk j (by omega), bv_or]
      have NH : Hid (n < 64) := Lib.hid n1
      have RCn := Lib.hid (fun W hW => RC.out W hW n hnL)
      clear OA r5 o5 g5 lk hcur hpi hmi QP QM QN QO PNX n4 n1 n2 RNx QR
      rcases hp' with ⟨hb1, rfl⟩ | ⟨hb1, rfl⟩ <;> rcases hm' with ⟨hb2, rfl⟩ | ⟨hb2, rfl⟩
      all_goals
        have I1 := Lib.hid (in_q g.ph n w5 NH.out _ hb1)
        have I2 := Lib.hid (in_q g.md n w5 NH.out _ hb2)
        clear hb1 hb2
        go_wp2_with (at_builtin; go_must (refine Lib.wpList_append_run _ rfl (.tmp 29) (.tmp 35) 22 22 rfl _ _ rfl rfl _ _ RR5.out ?_))
        refine I1.out.mono ?_
        rintro e w' ⟨rfl, rfl⟩
        go_wp2_with fail
        refine I2.out.mono ?_
        rintro e w' ⟨rfl, rfl⟩
        clear cn d0 d1 d2 d3 e0 e1 e2 e3 cj
        go_wp2_with fail
        go_loopw [55] (fun i wq => ∃ (k : Nat) (U : List Bv), k ≤ C ∧ i = .int .i64 (k : Int) ∧ U.length = O.length ∧ (∀ i, i ≠ j → wAt U i = wAt O i) ∧ InTo s (wAt (rowsTo g.ns.length g.es) n) k (wAt U j) ∧ SO (b + 1) (.slice a5 n5 c5) (pn g s j ++ [x]) wq ∧ WO b (.slice (some ⟨b, 0, none⟩) C C) U wq ∧ Below b w2 wq) (fun i _ => C - (intOf i).toNat)
        case atStart => exact ⟨0, O, Nat.zero_le _, rfl, rfl, fun _ _ => rfl, by rw [R0x]; exact I0.out _, O5.out, R5.out, B5.out⟩
        case round =>
          obtain ⟨k, U, hk, rfl, pl1, pk, pi, ps, po, pb⟩ := hrel
          have PL := Lib.hid pl1; have PK := Lib.hid pk; have PI := Lib.hid pi; have PS := Lib.hid ps; have PO := Lib.hid po; have PB := Lib.hid pb
          clear pl1 pk pi ps po pb
          rename World => W4
          by_cases hkl : k < C
          · obtain ⟨m, m1, m2, _, m4⟩ := NGx.out k hkl
            obtain ⟨lb', cur', el, lk', hcur'⟩ := (LF.out W4 PB.out).resolve_left (by omega)
            injection el with el; injection el with el1 _; subst el1
            have ck := lk'.cell (hcur' k m m4)
            have cr := RCn.out W4 PB.out
            have ul : U.length = C := by rw [PL.out]; exact ol
            have hsz4 : b ≤ W4.heap.size := by have := PB.out.size; rw [HB.out] at this; exact this
            have j1 : (0 : Int) ≤ (j : Int) := by omega
            have j2 : (j : Int) < (C : Int) := by omega
            have hk64 : (k : Int) < 64 := by omega
            have hm64 : (m : Int) < 64 := by omega
            clear lk' hcur'
            cases hbit : (wAt (rowsTo g.ns.length g.es) n).getLsbD m
            · have NX := Lib.hid (IN.out _ _ _ _ PI.out m4 hbit)
              have IQ := Lib.hid (in_q (wAt (rowsTo g.ns.length g.es) n) m W4 m1 false hbit)
              clear hbit
              generalize (wAt (rowsTo g.ns.length g.es) n).toNat = xr at *
              go_wp2_with fail
              refine IQ.out.mono ?_
              rintro e w' ⟨rfl, rfl⟩
              go_wp2
              go_roundw
              case rel => exact ⟨k + 1, U, by omega, by go_num, PL.out, PK.out, NX.out, PS.out, PO.out, PB.out⟩
              case measure => simp [intOf]; omega
            · have NX := Lib.hid (IY.out _ _ _ _ PI.out m4 hbit)
              have IQ := Lib.hid (in_q (wAt (rowsTo g.ns.length g.es) n) m W4 m1 true hbit)
              have OA : WO b (.slice (some ⟨b, 0, none⟩) U.length C) U W4 := by rw [ul]; exact PO.out
              have c0 := OA.cell (i := j) (by omega)
              have fr := OA.frozen j
              obtain ⟨O7, G7⟩ := OA.store j (one k)
              have e1 : bits .or .u64 ((wAt U j).toNat : Int) (IntKind.u64.wrap (2 ^ k)) = ((wAt U j ||| one k).toNat : Int) := by rw [one_walk k (by omega), bv_or]
              have WJ : Hid (wAt (orAt U j (one k)) j = wAt U j ||| one k) := Lib.hid (by rw [wAt_orAt _ _ _ _ (by omega), if_pos rfl])
              have WK : Hid (∀ i, i ≠ j → wAt (orAt U j (one k)) i = wAt O i) := fun i hi => by rw [wAt_orAt _ _ _ _ (by omega), if_neg hi]; exact PK.out i hi
              have WL : Hid ((orAt U j (one k)).length = O.length) := Lib.hid (by rw [orAt_length]; exact PL.out)
              have O7' := Lib.hid O7
              rw [ul] at O7'
              have S7 : Hid (SO (b + 1) (.slice a5 n5 c5) (pn g s j ++ [x]) (W4.setCell ⟨b, j, none⟩ (.int .u64 ((wAt U j ||| one k).toNat : Int)))) := World.ownsRow.kept PS.out G7 (own_ne PS.out (by omega))
              have B7 := Lib.hid (below_grown' PB.out G7 hsz4 (Nat.le_refl _))
              rw [← WJ.out] at NX
              clear O7 G7 OA hbit
              generalize orAt U j (one k) = U' at *
              generalize (wAt (rowsTo g.ns.length g.es) n).toNat = xr at *
              generalize ((wAt U j).toNat : Int) = y at *
              generalize ((wAt U j ||| one k).toNat : Int) = z at *
              go_wp2_with fail
              refine IQ.out.mono ?_
              rintro e w' ⟨rfl, rfl⟩
              go_wp2_with fail
              go_region
              go_wp2
              go_roundw
              case rel => exact ⟨k + 1, U', by omega, by go_num, WL.out, WK.out, NX.out, S7.out, O7'.out, B7.out.drew⟩
              case measure => simp [intOf]; omega
          · obtain rfl : k = C := by omega
            have NR := Lib.hid (RNj.out U PL.out PK.out (IA.out _ _ PI.out))
            go_wp2
            go_roundw
            case rel => exact ⟨j + 1, _, _, _, _, _, U, by omega, by go_num, rfl, rfl, rfl, NPI.out, NMI.out, NR.out, by rw [X1.out]; exact PS.out, PO.out, PB.out⟩
            case measure => simp [intOf]; omega
    · obtain rfl : j = C := by omega
      have EP := IA.out _ _ QP.out
      have EM := IA.out _ _ QM.out
      have EO1 := RAl.out _ QR.out
      subst EP EM EO1
      have WI := WO.win QO.out
      have NS := SIn.own QN.out (by have := PNL.out j; omega) (fun x hx => by have := PNG.out j x hx; omega)
      have GO1 := Lib.hid (graphOf_any (renum g.ph s) (renum g.md s) NS WI (by rw [ol]; omega))
      have Z4 : Hid (w.heap.size + 1 < b) := Lib.hid (by have := Z2.out; omega)
      clear WI NS IA IY IN I0 RZ RAt RNx RAl RLn QP QM QR QO RC NC LF PNX PN0 NGx SL GL
      go_wp2_with fail
      refine GO1.out.mono ?_
      rintro e w5 ⟨ea, en, ec, rfl, o5, l5, b5⟩
      have B5 : Hid (Below b w2 w5) := QB.out.trans (b5.mono hsz)
      have KR5 := Lib.hid (KF.out w5 B5.out)
      have N5 := Lib.hid (own_later QN.out b5)
      have O5 := Lib.hid o5
      have L5 := Lib.hid l5
      obtain ⟨⟨r0, r1, r2, r3⟩, f0, f1, f2, f3⟩ := KR5.out.res
      clear o5 l5 b5 GO1
      go_wp2
      have R7 : Blk (w.heap.size + 1) #[.slice na nn nc, .slice ea en ec, .int .u64 ((renum g.ph s).toNat : Int), .int .u64 ((renum g.md s).toNat : Int)] 26 ((((w5.setCell ⟨w.heap.size + 1, 0, none⟩ (.slice na nn nc)).setCell ⟨w.heap.size + 1, 1, none⟩ (.slice ea en ec)).setCell ⟨w.heap.size + 1, 2, none⟩ (.int .u64 ((renum g.ph s).toNat : Int))).setCell ⟨w.heap.size + 1, 3, none⟩ (.int .u64 ((renum g.md s).toNat : Int))) := (((KR5.out.2.set 0 _).set 1 _).set 2 _).set 3 _
      have SG := set4_grown w5 (w.heap.size + 1) (.slice na nn nc) (.slice ea en ec) (.int .u64 ((renum g.ph s).toNat : Int)) (.int .u64 ((renum g.md s).toNat : Int))
      have N7 := World.ownsRow.kept N5.out SG (own_ne N5.out (by have := Z4.out; omega))
      have E7 := World.ownsRow.kept O5.out SG (own_ne O5.out (by have := Z4.out; omega))
      have B7 := below_grown' (BT.out _ B5.out) SG (BT.out _ B5.out).size (by omega)
      refine bodyPost_ret (results_cell_row rfl _ _ (w.heap.size + 1) 26 _ (0, 0) _ rfl R7 Tryd.underlying26 rfl (by kernel_rfl)) rfl ⟨_, rfl, ?_, B7⟩
      rw [PF.out]
      exact ⟨_, _, rfl, SIn.own N7 (by have := PNL.out j; show (pn g s j).length ≤ _; omega) (fun x hx => by have := PNG.out j x hx; omega), EIn.own E7 L5.out⟩
end Go.Proofs.YtpjcdfphllbonaaDoor
