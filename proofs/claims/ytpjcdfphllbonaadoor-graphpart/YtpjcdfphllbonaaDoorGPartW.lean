/-
  The law GraphPart, whatever the graph and the sets. Condition: the table of math/bits lies in memory as its text lays it (the card ties this).
-/
import Derived.Test.YtpjcdfphllbonaaDoorGPa
import Derived.Test.YtpjcdfphllbonaaDoorGSg
import Derived.Test.YtpjcdfphllbonaaDoorGOpen
namespace Go.Proofs.YtpjcdfphllbonaaDoor
set_option maxRecDepth 100000
set_option linter.unusedVariables false
open Go.ChangeShapes Go.WideShapes Go.ChangeAt Go.RowKit

theorem part_len {g : Gr} {s : Bv} : (partG g s).es.length ≤ 8796093022208 := by
  show (edgesL _).length ≤ _
  exact edgesL_len _ (by rw [List.length_map, nums_length]; exact cnt_le s)
theorem part_ok (s : Bv) {w : World} {v : Value} {g : Gr} (h : GIn w v g) (hv : Valid g) (hs : SetIn g.ns.length s) (ht : Tab w) :
    Calls Tryd.prog 9 #[v, .int .u64 (s.toNat : Int)] w fun e w' => ∃ a n c b m d, e = .returned (.tuple #[.agg #[.slice a n c, .slice b m d, .int .u64 ((partG g s).ph.toNat : Int), .int .u64 ((partG g s).md.toNat : Int)], .int .i64 0]) ∧ GIn w' (.agg #[.slice a n c, .slice b m d, .int .u64 ((partG g s).ph.toNat : Int), .int .u64 ((partG g s).md.toNat : Int)]) (partG g s) ∧ Below w.heap.size w w' := by
  refine (part_any s h ht).mono ?_
  rintro e w' ⟨hb, ⟨hc, _⟩ | ⟨_, ⟨hn, _⟩ | ⟨_, v', rfl, ho⟩⟩⟩
  · exact absurd (ckG_valid hv) hc
  · exact absurd hs hn
  · have vp := valid_part hv hs
    have gi := ho.gin vp.len vp.all part_len
    obtain ⟨nv, ev, rfl, q1, q2⟩ := gi
    obtain ⟨a, c, rfl⟩ := q1.shape2
    obtain ⟨b, d, rfl⟩ := q2.shape2
    exact ⟨_, _, _, _, _, _, rfl, ⟨_, _, rfl, q1, q2⟩, hb⟩
theorem turn_ok {w : World} {v : Value} {g : Gr} (h : GIn w v g) (hv : Valid g) (ht : Tab w) :
    Calls Tryd.prog 8 #[v] w fun e w' => ∃ a n c b m d, e = .returned (.tuple #[.agg #[.slice a n c, .slice b m d, .int .u64 ((turnG g).ph.toNat : Int), .int .u64 ((turnG g).md.toNat : Int)], .int .i64 0]) ∧ GIn w' (.agg #[.slice a n c, .slice b m d, .int .u64 ((turnG g).ph.toNat : Int), .int .u64 ((turnG g).md.toNat : Int)]) (turnG g) ∧ Below w.heap.size w w' := by
  refine (turn_any h ht).mono ?_
  rintro e w' ⟨hb, ⟨hc, _⟩ | ⟨_, v', rfl, ho⟩⟩
  · exact absurd (ckG_valid hv) hc
  · have gi := ho.gin hv.len hv.all (by show (edgesL _).length ≤ _; exact edgesL_len _ (by rw [rowsTo_length]; exact hv.len))
    obtain ⟨nv, ev, rfl, q1, q2⟩ := gi
    obtain ⟨a, c, rfl⟩ := q1.shape2
    obtain ⟨b, d, rfl⟩ := q2.shape2
    exact ⟨_, _, _, _, _, _, rfl, ⟨_, _, rfl, q1, q2⟩, hb⟩
theorem belowX_any (n : Nat) (w : World) (hn : 64 < n) :
    Calls Tryd.prog 24 #[.int .i64 (n : Int)] w fun e w' => e = .returned (.tuple #[.int .u64 0, .int .i64 4]) ∧ w' = w := by
  have h1 : ¬ ((n : Int) < 0) := by omega
  have h2 : (64 : Int) < (n : Int) := by omega
  clear hn
  go_enter Tryd.func24, Tryd.ntmps24
  go_wp2
  go_ret2
  exact ⟨rfl, rfl⟩
theorem and_one (t : Bv) (n : Nat) : bits .and .u64 ((t.toNat : Int) / 2 ^ n) 1 = if t.getLsbD n then 1 else 0 := by
  have h : bits .and .u64 ((t.toNat : Int) / 2 ^ n) 1 = (((t >>> n) &&& 1#64).toNat : Int) := by rw [bv_shr]; exact bv_and _ 1#64
  have hb : t.getLsbD n = decide (t.toNat / 2 ^ n % 2 = 1) := by
    show t.toNat.testBit n = _
    rw [Nat.testBit_eq_decide_div_mod_eq]
  rw [h, hb, BitVec.toNat_and, BitVec.toNat_ushiftRight, Nat.shiftRight_eq_div_pow, show (1#64 : Bv).toNat = 1 from rfl, Nat.and_one_is_mod]
  by_cases h2 : t.toNat / 2 ^ n % 2 = 1
  · rw [h2]; simp
  · have h3 : t.toNat / 2 ^ n % 2 = 0 := by omega
    rw [h3]; simp
/-- the law's own set behind j rounds -/
def InTo (x t : Bv) (j : Nat) (u : Bv) : Prop := ∀ i, i < 64 → (u.getLsbD i = true ↔ ∃ n, i < j ∧ (nums x)[i]? = some n ∧ t.getLsbD n = true)
theorem inTo_zero (x t : Bv) : InTo x t 0 0#64 := fun i _ => by simp
theorem inTo_yes {x t u : Bv} {j n : Nat} (h : InTo x t j u) (hn : (nums x)[j]? = some n) (ht : t.getLsbD n = true) : InTo x t (j + 1) (u ||| one j) := fun i hi => by
  rw [BitVec.getLsbD_or, one_bit j i hi, Bool.or_eq_true, decide_eq_true_iff, h i hi]
  constructor
  · rintro (⟨m, h1, h2, h3⟩ | rfl)
    · exact ⟨m, by omega, h2, h3⟩
    · exact ⟨n, by omega, hn, ht⟩
  · rintro ⟨m, h1, h2, h3⟩
    rcases Nat.lt_succ_iff_lt_or_eq.1 h1 with h' | rfl
    · exact .inl ⟨m, h', h2, h3⟩
    · exact .inr rfl
theorem inTo_no {x t u : Bv} {j n : Nat} (h : InTo x t j u) (hn : (nums x)[j]? = some n) (ht : t.getLsbD n = false) : InTo x t (j + 1) u := fun i hi => by
  rw [h i hi]
  constructor
  · rintro ⟨m, h1, h2, h3⟩; exact ⟨m, by omega, h2, h3⟩
  · rintro ⟨m, h1, h2, h3⟩
    rcases Nat.lt_succ_iff_lt_or_eq.1 h1 with h' | rfl
    · exact ⟨m, h', h2, h3⟩
    · rw [hn] at h2; injection h2 with h2; subst h2; rw [ht] at h3; cases h3
theorem inTo_all {x t u : Bv} (h : InTo x t (cnt x) u) : u = renum t x := by
  refine bv_ext fun i hi => ?_
  rw [Bool.eq_iff_iff, h i hi, renum_bit]
  constructor
  · rintro ⟨n, h1, h2, h3⟩
    obtain ⟨m, m1, m2, m3, m4⟩ := nums_get x i h1
    rw [h2] at m4; injection m4 with m4; subst m4
    exact ⟨n, m1, h3, m2, m3⟩
  · rintro ⟨n, n1, n2, n3, rfl⟩
    exact ⟨n, rank_lt n3, nums_rank n3, n2⟩
theorem or_zero (u : Bv) : bits .or .u64 (u.toNat : Int) 0 = (u.toNat : Int) := by
  have := bv_or u 0#64
  rw [show ((0#64 : Bv).toNat : Int) = 0 from rfl] at this
  rw [this]; simp
theorem zeros2 (w : World) (o : Obj) (n : Nat) (cs : Array Value) (t : TypeId) (hc : ∀ i, i < n → cs[i]? = some (.int .i64 0)) : ∀ i, i < n → ((w.alloc o).alloc (.cells cs t)).cell? ⟨w.heap.size + 1, i, none⟩ = some (.int .i64 0) := fun i hi => by
  have := (blk_new (w.alloc o) cs t).cell (hc i hi)
  rwa [show (w.alloc o).heap.size = w.heap.size + 1 by simp] at this
set_option maxHeartbeats 16000000 in
theorem graphPart_any (s t : Bv) {w : World} {v : Value} {g : Gr} (h : GIn w v g) (ht : Tab w) :
    Calls Tryd.prog 5 #[v, .int .u64 (s.toNat : Int), .int .u64 (t.toNat : Int)] w fun e w' => e = .returned (.bool true) ∧ Below w.heap.size w w' := by
  have H := Lib.hid h
  have HT : Hid (∀ W, Below w.heap.size w W → Tab W) := fun W hW => ht.below hW ht.1
  obtain ⟨nv, ev, rfl, h1, h2⟩ := h
  have K0 : Hid (Blk w.heap.size #[nv, ev, .int .u64 (g.ph.toNat : Int), .int .u64 (g.md.toNat : Int)] 26 (w.alloc (.cells #[nv, ev, .int .u64 (g.ph.toNat : Int), .int .u64 (g.md.toNat : Int)] 26))) := blk_new _ _ _
  have W0 := Lib.hid (below_al w (.cells #[nv, ev, .int .u64 (g.ph.toNat : Int), .int .u64 (g.md.toNat : Int)] 26))
  obtain ⟨ag, cg, rfl⟩ := h1.shape2
  obtain ⟨bg, dg, rfl⟩ := h2.shape2
  clear h1 h2 ht
  generalize hng : g.ns.length = ng at *
  have NG := Lib.hid hng; clear hng
  generalize g.es.length = mg at *
  have hA := bv_and s (low ng)
  have hAT := bv_and s t
  have hAA := bv_and (s &&& t) (low ng)
  go_enter Tryd.func5, Tryd.ntmps5
  go_wp2_with fail
  refine (graphs_true _).mono ?_
  rintro e w1 ⟨rfl, b1⟩
  have B1 := Lib.hid (W0.out.trans (b1.mono W0.out.size))
  have K1 := Lib.hid (K0.out.later b1)
  clear b1 W0 K0
  obtain ⟨k0, k1, k2, k3⟩ := show _ ∧ _ ∧ _ ∧ _ from ⟨K1.out.cell (i := 0) rfl, K1.out.cell (i := 1) rfl, K1.out.cell (i := 2) rfl, K1.out.cell (i := 3) rfl⟩
  by_cases hl : 64 < ng
  · go_wp2_with fail
    refine (belowX_any ng _ hl).mono ?_
    rintro e w' ⟨rfl, rfl⟩
    go_wp2
    go_ret
    exact ⟨rfl, B1.out⟩
  have hl2 : ng ≤ 64 := by omega
  have BL := Lib.hid (fun W => belowT_any ng W hl2)
  have CK := Lib.hid (check_graph (H.out.later B1.out))
  clear hl
  go_wp2_with fail
  refine (BL.out _).mono ?_
  rintro e w' ⟨rfl, rfl⟩
  go_wp2_with fail
  refine CK.out.mono ?_
  rintro e w2 ⟨rfl, b2⟩
  have B2 := Lib.hid (B1.out.trans (b2.mono B1.out.size))
  have K2 := Lib.hid (K1.out.later b2)
  clear b2 k0 k1 k2 k3 CK BL K1
  by_cases hc : ckG g ≠ 0
  · have t1 := zero_ne hc
    clear hc
    generalize ckG g = C at *
    go_wp2
    go_ret
    exact ⟨rfl, B2.out⟩
  have HV := Lib.hid (ckG_zero (Decidable.not_not.1 hc))
  rw [Decidable.not_not.1 hc]
  clear hc
  have HL := Lib.hid hl2
  have SI : Hid (SetIn g.ns.length (s &&& low ng)) := Lib.hid (by rw [NG.out]; exact setIn_low hl2 s)
  have SA : Hid (SetIn g.ns.length (low ng)) := Lib.hid (by rw [NG.out]; intro i hi; cases h : (low ng).getLsbD i; rfl; have := (low_in hl2).1 h; omega)
  have ST : Hid (SetIn g.ns.length ((s &&& t) &&& low ng)) := Lib.hid (by rw [NG.out]; exact setIn_low hl2 _)
  have PA : Hid (partG g (low ng) = g) := Lib.hid (by rw [← NG.out]; exact part_all HV.out)
  have VP := Lib.hid (valid_part HV.out SI.out)
  have VT := Lib.hid (valid_turn HV.out)
  have SB : Hid ((s &&& low ng) &&& t = (s &&& t) &&& low ng) := Lib.hid (by rw [BitVec.and_assoc, BitVec.and_assoc, BitVec.and_comm (low ng) t])
  have PP := Lib.hid (part_part HV.out SI.out t)
  rw [SB.out] at PP
  have PT := Lib.hid (part_turn HV.out SI.out)
  have SR : Hid (SetIn (partG g (s &&& low ng)).ns.length (renum t (s &&& low ng))) := Lib.hid (by
    have e : (partG g (s &&& low ng)).ns.length = cnt (s &&& low ng) := by show (List.map _ _).length = _; rw [List.length_map, nums_length]
    rw [e]; exact fun i hi => renum_high _ _ hi)
  have LN := Lib.hid (fun W hW => (list_any (s &&& low ng) W (HT.out W hW)).mono (fun _ _ => list_blk))
  have NU := Lib.hid (fun j hj => nums_get (s &&& low ng) j hj)
  have hcn := cnt_le (s &&& low ng)
  have IY := Lib.hid (fun (u : Bv) (j n : Nat) (h : InTo (s &&& low ng) t j u) h2 h3 => inTo_yes (n := n) h h2 h3)
  have IN := Lib.hid (fun (u : Bv) (j n : Nat) (h : InTo (s &&& low ng) t j u) h2 h3 => inTo_no (n := n) h h2 h3)
  have IA := Lib.hid (fun (u : Bv) (h : InTo (s &&& low ng) t (cnt (s &&& low ng)) u) => inTo_all h)
  have I0 := Lib.hid (inTo_zero (s &&& low ng) t)
  obtain ⟨k0, k1, k2, k3⟩ := show _ ∧ _ ∧ _ ∧ _ from ⟨K2.out.cell (i := 0) rfl, K2.out.cell (i := 1) rfl, K2.out.cell (i := 2) rfl, K2.out.cell (i := 3) rfl⟩
  have CX := Lib.hid (part_ok (low ng) (H.out.later B2.out) HV.out SA.out (HT.out _ B2.out))
  go_wp2_with fail
  refine CX.out.mono ?_
  rintro e w3 ⟨aa, na, ca, ba, ma, da, rfl, gi, bb⟩
  have B3 := Lib.hid (B2.out.trans (bb.mono B2.out.size))
  have Wa := Lib.hid (below_al w3 (.cells #[.slice aa na ca, .slice ba ma da, .int .u64 ((partG g (low ng)).ph.toNat : Int), .int .u64 ((partG g (low ng)).md.toNat : Int)] 26))
  have K3 := Lib.hid (K2.out.later bb)
  have K4 := Lib.hid (K3.out.later Wa.out)
  have Ja4 : Hid (Blk w3.heap.size #[.slice aa na ca, .slice ba ma da, .int .u64 ((partG g (low ng)).ph.toNat : Int), .int .u64 ((partG g (low ng)).md.toNat : Int)] 26 (w3.alloc (.cells #[.slice aa na ca, .slice ba ma da, .int .u64 ((partG g (low ng)).ph.toNat : Int), .int .u64 ((partG g (low ng)).md.toNat : Int)] 26))) := blk_new _ _ _
  have B4 := Lib.hid (B3.out.trans (Wa.out.mono B3.out.size))
  have Ga := Lib.hid (gi.later Wa.out)
  clear k0 k1 k2 k3 CX gi bb K2 K3 B2 B3
  obtain ⟨k0, k1, k2, k3⟩ := show _ ∧ _ ∧ _ ∧ _ from ⟨K4.out.cell (i := 0) rfl, K4.out.cell (i := 1) rfl, K4.out.cell (i := 2) rfl, K4.out.cell (i := 3) rfl⟩
  have CX := Lib.hid (part_ok (s &&& low ng) (H.out.later B4.out) HV.out SI.out (HT.out _ B4.out))
  go_wp2_with fail
  refine CX.out.mono ?_
  rintro e w5 ⟨ap, np, cp, bp, mp, dp, rfl, gi, bb⟩
  have B5 := Lib.hid (B4.out.trans (bb.mono B4.out.size))
  have Wp := Lib.hid (below_al w5 (.cells #[.slice ap np cp, .slice bp mp dp, .int .u64 ((partG g (s &&& low ng)).ph.toNat : Int), .int .u64 ((partG g (s &&& low ng)).md.toNat : Int)] 26))
  have K5 := Lib.hid (K4.out.later bb)
  have K6 := Lib.hid (K5.out.later Wp.out)
  have Ja5 := Lib.hid (Ja4.out.later bb)
  have Ja6 := Lib.hid (Ja5.out.later Wp.out)
  have Jp6 : Hid (Blk w5.heap.size #[.slice ap np cp, .slice bp mp dp, .int .u64 ((partG g (s &&& low ng)).ph.toNat : Int), .int .u64 ((partG g (s &&& low ng)).md.toNat : Int)] 26 (w5.alloc (.cells #[.slice ap np cp, .slice bp mp dp, .int .u64 ((partG g (s &&& low ng)).ph.toNat : Int), .int .u64 ((partG g (s &&& low ng)).md.toNat : Int)] 26))) := blk_new _ _ _
  have B6 := Lib.hid (B5.out.trans (Wp.out.mono B5.out.size))
  have Ga := Lib.hid ((Ga.out.later bb).later Wp.out)
  have Gp := Lib.hid (gi.later Wp.out)
  clear k0 k1 k2 k3 CX gi bb K4 K5 Ja4 Ja5 B4 B5
  have WZ := Lib.hid (below_al (w5.alloc (.cells #[.slice ap np cp, .slice bp mp dp, .int .u64 ((partG g (s &&& low ng)).ph.toNat : Int), .int .u64 ((partG g (s &&& low ng)).md.toNat : Int)] 26)) (.cells #[.int .i64 0, .int .i64 0] 28))
  have GZ := Lib.hid (goodZ_any (w5.heap.size + 1) 2 _ (by omega) (zeros2 w5 (.cells #[.slice ap np cp, .slice bp mp dp, .int .u64 ((partG g (s &&& low ng)).ph.toNat : Int), .int .u64 ((partG g (s &&& low ng)).md.toNat : Int)] 26) 2 #[.int .i64 0, .int .i64 0] 28 (fun i hi => by match i, hi with | 0, _ => rfl | 1, _ => rfl)))
  have B7 := Lib.hid (B6.out.trans (WZ.out.mono B6.out.size))
  have K7 := Lib.hid (K6.out.later WZ.out); have Ja7 := Lib.hid (Ja6.out.later WZ.out); have Jp7 := Lib.hid (Jp6.out.later WZ.out)
  have GA7 := Lib.hid (Ga.out.later WZ.out)
  rw [PA.out] at GA7 Ja7
  have SG := Lib.hid (sameG_any GA7.out (H.out.later B7.out))
  rw [PA.out]
  obtain ⟨k0, k1, k2, k3⟩ := show _ ∧ _ ∧ _ ∧ _ from ⟨K7.out.cell (i := 0) rfl, K7.out.cell (i := 1) rfl, K7.out.cell (i := 2) rfl, K7.out.cell (i := 3) rfl⟩
  obtain ⟨j0, j1, j2, j3⟩ := show _ ∧ _ ∧ _ ∧ _ from ⟨Ja7.out.cell (i := 0) rfl, Ja7.out.cell (i := 1) rfl, Ja7.out.cell (i := 2) rfl, Ja7.out.cell (i := 3) rfl⟩
  go_wp2_with fail
  refine GZ.out.mono ?_
  rintro e w' ⟨rfl, rfl⟩
  go_wp2_with fail
  refine SG.out.mono ?_
  rintro e w8 ⟨rfl, b8⟩
  have B8 := Lib.hid (B7.out.trans (b8.mono B7.out.size))
  have K8 := Lib.hid (K7.out.later b8); have Jp8 := Lib.hid (Jp7.out.later b8)
  have GP8 := Lib.hid ((Gp.out.later WZ.out).later b8)
  have CP := Lib.hid (check_graph GP8.out)
  rw [ckG_valid VP.out] at CP
  clear b8 SG GZ k0 k1 k2 k3 j0 j1 j2 j3 Ga Gp GA7 K6 K7 Ja6 Ja7 Jp6 Jp7
  obtain ⟨j0, j1, j2, j3⟩ := show _ ∧ _ ∧ _ ∧ _ from ⟨Jp8.out.cell (i := 0) rfl, Jp8.out.cell (i := 1) rfl, Jp8.out.cell (i := 2) rfl, Jp8.out.cell (i := 3) rfl⟩
  go_wp2_with fail
  refine CP.out.mono ?_
  rintro e w9 ⟨rfl, b9⟩
  have B9 := Lib.hid (B8.out.trans (b9.mono B8.out.size))
  have K9 := Lib.hid (K8.out.later b9); have Jp9 := Lib.hid (Jp8.out.later b9)
  have Gp := Lib.hid (GP8.out.later b9)
  have LNW := Lib.hid (LN.out _ B9.out)
  clear b9 CP GP8 j0 j1 j2 j3 K8 Jp8 LN WZ B6 B7 B8 Wa Wp PA
  go_wp2_with fail
  refine LNW.out.mono ?_
  rintro e w10 ⟨rfl, b10, cur, k10, hcur⟩
  have B10 := Lib.hid (B9.out.trans (b10.mono B9.out.size))
  have K10 := Lib.hid (K9.out.later b10); have Jp10 := Lib.hid (Jp9.out.later b10)
  have Gp := Lib.hid (Gp.out.later b10)
  have CB := Lib.hid k10
  have HR := Lib.hid hcur
  clear b10 k10 hcur LNW K9 Jp9 B9
  generalize hy : (s &&& t) &&& low ng = y at *
  generalize hst : s &&& t = st at *
  clear hy hst SB
  generalize hx : s &&& low ng = x at *
  have HX := Lib.hid hx; clear hx
  generalize nums x = ns at *
  generalize cnt x = C at *
  go_wp2_with fail
  go_loopw [13, 77] (fun u i wr => ∃ (j : Nat) (U : Bv), j ≤ C ∧ i = .int .i64 (j : Int) ∧ u = .int .u64 (U.toNat : Int) ∧ InTo x t j U ∧ wr = w10) (fun _ i _ => C - (intOf i).toNat)
  case atStart => exact ⟨0, 0#64, Nat.zero_le _, rfl, rfl, I0.out, rfl⟩
  case round =>
    obtain ⟨j, U, hj, rfl, rfl, qi, rfl⟩ := hrel
    have QI := Lib.hid qi; clear qi
    by_cases hjl : j < C
    · obtain ⟨n, n1, n2, _, n4⟩ := NU.out j hjl
      have cj := CB.out.cell (HR.out j n n4)
      have e1 := and_one t n
      have hn64 : (n : Int) < 64 := by omega
      have hj64 : (j : Int) < 64 := by omega
      cases htn : t.getLsbD n
      · rw [htn] at e1
        have NX := Lib.hid (IN.out U j n QI.out n4 htn)
        have e1' : bits .and .u64 ((t.toNat : Int) / 2 ^ n) 1 = 0 := by rw [e1]; rfl
        have e2 := or_zero U
        clear e1 htn n1 n2 n4
        generalize (t.toNat : Int) = T at *
        go_wp2
        go_roundw
        case rel => exact ⟨j + 1, U, by omega, by go_num, by rfl, NX.out, trivial⟩
        case measure => simp [intOf]; omega
      · rw [htn] at e1
        have NX := Lib.hid (IY.out U j n QI.out n4 htn)
        have e1' : bits .and .u64 ((t.toNat : Int) / 2 ^ n) 1 = 1 := by rw [e1]; rfl
        have e2 : bits .or .u64 (U.toNat : Int) (IntKind.u64.wrap (2 ^ j)) = ((U ||| one j).toNat : Int) := by rw [one_walk j (by omega), bv_or]
        clear e1 htn n1 n2 n4
        generalize (t.toNat : Int) = T at *
        go_wp2
        go_roundw
        case rel => exact ⟨j + 1, U ||| one j, by omega, by go_num, by rfl, NX.out, trivial⟩
        case measure => simp [intOf]; omega
    · obtain rfl : j = C := by omega
      have UE := IA.out U QI.out
      subst UE
      clear QI IA IY IN NU HR CB cur hjl I0
      obtain ⟨k0, k1, k2, k3⟩ := show _ ∧ _ ∧ _ ∧ _ from ⟨Jp10.out.cell (i := 0) rfl, Jp10.out.cell (i := 1) rfl, Jp10.out.cell (i := 2) rfl, Jp10.out.cell (i := 3) rfl⟩
      have CX := Lib.hid (part_ok (renum t x) Gp.out VP.out SR.out (HT.out _ B10.out))
      go_wp2_with fail
      refine CX.out.mono ?_
      rintro e w11 ⟨aq, nq, cq, bq, mq, dq, rfl, gi, bb⟩
      have B11 := Lib.hid (B10.out.trans (bb.mono B10.out.size))
      have Wq := Lib.hid (below_al w11 (.cells #[.slice aq nq cq, .slice bq mq dq, .int .u64 ((partG (partG g x) (renum t x)).ph.toNat : Int), .int .u64 ((partG (partG g x) (renum t x)).md.toNat : Int)] 26))
      have K11 := Lib.hid (K10.out.later bb)
      have K12 := Lib.hid (K11.out.later Wq.out)
      have Jp11 := Lib.hid (Jp10.out.later bb)
      have Jp12 := Lib.hid (Jp11.out.later Wq.out)
      have Jq12 : Hid (Blk w11.heap.size #[.slice aq nq cq, .slice bq mq dq, .int .u64 ((partG (partG g x) (renum t x)).ph.toNat : Int), .int .u64 ((partG (partG g x) (renum t x)).md.toNat : Int)] 26 (w11.alloc (.cells #[.slice aq nq cq, .slice bq mq dq, .int .u64 ((partG (partG g x) (renum t x)).ph.toNat : Int), .int .u64 ((partG (partG g x) (renum t x)).md.toNat : Int)] 26))) := blk_new _ _ _
      have B12 := Lib.hid (B11.out.trans (Wq.out.mono B11.out.size))
      have Gp := Lib.hid ((Gp.out.later bb).later Wq.out)
      have Gq := Lib.hid (gi.later Wq.out)
      clear k0 k1 k2 k3 CX gi bb K10 K11 Jp10 Jp11 B10 B11
      obtain ⟨k0, k1, k2, k3⟩ := show _ ∧ _ ∧ _ ∧ _ from ⟨K12.out.cell (i := 0) rfl, K12.out.cell (i := 1) rfl, K12.out.cell (i := 2) rfl, K12.out.cell (i := 3) rfl⟩
      have CX := Lib.hid (part_ok y (H.out.later B12.out) HV.out ST.out (HT.out _ B12.out))
      go_wp2_with fail
      refine CX.out.mono ?_
      rintro e w13 ⟨ar, nr, cr, br, mr, dr, rfl, gi, bb⟩
      have B13 := Lib.hid (B12.out.trans (bb.mono B12.out.size))
      have Wr := Lib.hid (below_al w13 (.cells #[.slice ar nr cr, .slice br mr dr, .int .u64 ((partG g y).ph.toNat : Int), .int .u64 ((partG g y).md.toNat : Int)] 26))
      have K13 := Lib.hid (K12.out.later bb)
      have K14 := Lib.hid (K13.out.later Wr.out)
      have Jp13 := Lib.hid (Jp12.out.later bb)
      have Jp14 := Lib.hid (Jp13.out.later Wr.out)
      have Jq13 := Lib.hid (Jq12.out.later bb)
      have Jq14 := Lib.hid (Jq13.out.later Wr.out)
      have Jr14 : Hid (Blk w13.heap.size #[.slice ar nr cr, .slice br mr dr, .int .u64 ((partG g y).ph.toNat : Int), .int .u64 ((partG g y).md.toNat : Int)] 26 (w13.alloc (.cells #[.slice ar nr cr, .slice br mr dr, .int .u64 ((partG g y).ph.toNat : Int), .int .u64 ((partG g y).md.toNat : Int)] 26))) := blk_new _ _ _
      have B14 := Lib.hid (B13.out.trans (Wr.out.mono B13.out.size))
      have Gp := Lib.hid ((Gp.out.later bb).later Wr.out)
      have Gq := Lib.hid ((Gq.out.later bb).later Wr.out)
      have Gr := Lib.hid (gi.later Wr.out)
      clear k0 k1 k2 k3 CX gi bb K12 K13 Jp12 Jp13 Jq12 Jq13 B12 B13
      obtain ⟨k0, k1, k2, k3⟩ := show _ ∧ _ ∧ _ ∧ _ from ⟨K14.out.cell (i := 0) rfl, K14.out.cell (i := 1) rfl, K14.out.cell (i := 2) rfl, K14.out.cell (i := 3) rfl⟩
      have CX := Lib.hid (turn_ok (H.out.later B14.out) HV.out (HT.out _ B14.out))
      go_wp2_with fail
      refine CX.out.mono ?_
      rintro e w15 ⟨ad, nd, cd, bd, md, dd, rfl, gi, bb⟩
      have B15 := Lib.hid (B14.out.trans (bb.mono B14.out.size))
      have Wd := Lib.hid (below_al w15 (.cells #[.slice ad nd cd, .slice bd md dd, .int .u64 ((turnG g).ph.toNat : Int), .int .u64 ((turnG g).md.toNat : Int)] 26))
      have K15 := Lib.hid (K14.out.later bb)
      have K16 := Lib.hid (K15.out.later Wd.out)
      have Jp15 := Lib.hid (Jp14.out.later bb)
      have Jp16 := Lib.hid (Jp15.out.later Wd.out)
      have Jq15 := Lib.hid (Jq14.out.later bb)
      have Jq16 := Lib.hid (Jq15.out.later Wd.out)
      have Jr15 := Lib.hid (Jr14.out.later bb)
      have Jr16 := Lib.hid (Jr15.out.later Wd.out)
      have Jd16 : Hid (Blk w15.heap.size #[.slice ad nd cd, .slice bd md dd, .int .u64 ((turnG g).ph.toNat : Int), .int .u64 ((turnG g).md.toNat : Int)] 26 (w15.alloc (.cells #[.slice ad nd cd, .slice bd md dd, .int .u64 ((turnG g).ph.toNat : Int), .int .u64 ((turnG g).md.toNat : Int)] 26))) := blk_new _ _ _
      have B16 := Lib.hid (B15.out.trans (Wd.out.mono B15.out.size))
      have Gp := Lib.hid ((Gp.out.later bb).later Wd.out)
      have Gq := Lib.hid ((Gq.out.later bb).later Wd.out)
      have Gr := Lib.hid ((Gr.out.later bb).later Wd.out)
      have Gd := Lib.hid (gi.later Wd.out)
      clear k0 k1 k2 k3 CX gi bb K14 K15 Jp14 Jp15 Jq14 Jq15 Jr14 Jr15 B14 B15
      obtain ⟨k0, k1, k2, k3⟩ := show _ ∧ _ ∧ _ ∧ _ from ⟨Jd16.out.cell (i := 0) rfl, Jd16.out.cell (i := 1) rfl, Jd16.out.cell (i := 2) rfl, Jd16.out.cell (i := 3) rfl⟩
      have CX := Lib.hid (part_ok x Gd.out VT.out SI.out (HT.out _ B16.out))
      go_wp2_with fail
      refine CX.out.mono ?_
      rintro e w17 ⟨ax, nx, cx, bx, mx, dx, rfl, gi, bb⟩
      have B17 := Lib.hid (B16.out.trans (bb.mono B16.out.size))
      have Wx := Lib.hid (below_al w17 (.cells #[.slice ax nx cx, .slice bx mx dx, .int .u64 ((partG (turnG g) x).ph.toNat : Int), .int .u64 ((partG (turnG g) x).md.toNat : Int)] 26))
      have K17 := Lib.hid (K16.out.later bb)
      have K18 := Lib.hid (K17.out.later Wx.out)
      have Jp17 := Lib.hid (Jp16.out.later bb)
      have Jp18 := Lib.hid (Jp17.out.later Wx.out)
      have Jq17 := Lib.hid (Jq16.out.later bb)
      have Jq18 := Lib.hid (Jq17.out.later Wx.out)
      have Jr17 := Lib.hid (Jr16.out.later bb)
      have Jr18 := Lib.hid (Jr17.out.later Wx.out)
      have Jd17 := Lib.hid (Jd16.out.later bb)
      have Jd18 := Lib.hid (Jd17.out.later Wx.out)
      have Jx18 : Hid (Blk w17.heap.size #[.slice ax nx cx, .slice bx mx dx, .int .u64 ((partG (turnG g) x).ph.toNat : Int), .int .u64 ((partG (turnG g) x).md.toNat : Int)] 26 (w17.alloc (.cells #[.slice ax nx cx, .slice bx mx dx, .int .u64 ((partG (turnG g) x).ph.toNat : Int), .int .u64 ((partG (turnG g) x).md.toNat : Int)] 26))) := blk_new _ _ _
      have B18 := Lib.hid (B17.out.trans (Wx.out.mono B17.out.size))
      have Gp := Lib.hid ((Gp.out.later bb).later Wx.out)
      have Gq := Lib.hid ((Gq.out.later bb).later Wx.out)
      have Gr := Lib.hid ((Gr.out.later bb).later Wx.out)
      have Gd := Lib.hid ((Gd.out.later bb).later Wx.out)
      have Gx := Lib.hid (gi.later Wx.out)
      clear k0 k1 k2 k3 CX gi bb K16 K17 Jp16 Jp17 Jq16 Jq17 Jr16 Jr17 Jd16 Jd17 B16 B17
      obtain ⟨k0, k1, k2, k3⟩ := show _ ∧ _ ∧ _ ∧ _ from ⟨Jp18.out.cell (i := 0) rfl, Jp18.out.cell (i := 1) rfl, Jp18.out.cell (i := 2) rfl, Jp18.out.cell (i := 3) rfl⟩
      have CX := Lib.hid (turn_ok Gp.out VP.out (HT.out _ B18.out))
      go_wp2_with fail
      refine CX.out.mono ?_
      rintro e w19 ⟨az, nz, cz, bz, mz, dz, rfl, gi, bb⟩
      have B19 := Lib.hid (B18.out.trans (bb.mono B18.out.size))
      have Wz := Lib.hid (below_al w19 (.cells #[.slice az nz cz, .slice bz mz dz, .int .u64 ((turnG (partG g x)).ph.toNat : Int), .int .u64 ((turnG (partG g x)).md.toNat : Int)] 26))
      have K19 := Lib.hid (K18.out.later bb)
      have K20 := Lib.hid (K19.out.later Wz.out)
      have Jp19 := Lib.hid (Jp18.out.later bb)
      have Jp20 := Lib.hid (Jp19.out.later Wz.out)
      have Jq19 := Lib.hid (Jq18.out.later bb)
      have Jq20 := Lib.hid (Jq19.out.later Wz.out)
      have Jr19 := Lib.hid (Jr18.out.later bb)
      have Jr20 := Lib.hid (Jr19.out.later Wz.out)
      have Jd19 := Lib.hid (Jd18.out.later bb)
      have Jd20 := Lib.hid (Jd19.out.later Wz.out)
      have Jx19 := Lib.hid (Jx18.out.later bb)
      have Jx20 := Lib.hid (Jx19.out.later Wz.out)
      have Jz20 : Hid (Blk w19.heap.size #[.slice az nz cz, .slice bz mz dz, .int .u64 ((turnG (partG g x)).ph.toNat : Int), .int .u64 ((turnG (partG g x)).md.toNat : Int)] 26 (w19.alloc (.cells #[.slice az nz cz, .slice bz mz dz, .int .u64 ((turnG (partG g x)).ph.toNat : Int), .int .u64 ((turnG (partG g x)).md.toNat : Int)] 26))) := blk_new _ _ _
      have B20 := Lib.hid (B19.out.trans (Wz.out.mono B19.out.size))
      have Gp := Lib.hid ((Gp.out.later bb).later Wz.out)
      have Gq := Lib.hid ((Gq.out.later bb).later Wz.out)
      have Gr := Lib.hid ((Gr.out.later bb).later Wz.out)
      have Gd := Lib.hid ((Gd.out.later bb).later Wz.out)
      have Gx := Lib.hid ((Gx.out.later bb).later Wz.out)
      have Gz := Lib.hid (gi.later Wz.out)
      clear k0 k1 k2 k3 CX gi bb K18 K19 Jp18 Jp19 Jq18 Jq19 Jr18 Jr19 Jd18 Jd19 Jx18 Jx19 B18 B19
      have WZ := Lib.hid (below_al (w19.alloc (.cells #[.slice az nz cz, .slice bz mz dz, .int .u64 ((turnG (partG g x)).ph.toNat : Int), .int .u64 ((turnG (partG g x)).md.toNat : Int)] 26)) (.cells #[.int .i64 0, .int .i64 0, .int .i64 0, .int .i64 0, .int .i64 0] 28))
      have GZ := Lib.hid (goodZ_any (w19.heap.size + 1) 5 _ (by omega) (zeros2 w19 (.cells #[.slice az nz cz, .slice bz mz dz, .int .u64 ((turnG (partG g x)).ph.toNat : Int), .int .u64 ((turnG (partG g x)).md.toNat : Int)] 26) 5 #[.int .i64 0, .int .i64 0, .int .i64 0, .int .i64 0, .int .i64 0] 28 (fun i hi => by match i, hi with | 0, _ => rfl | 1, _ => rfl | 2, _ => rfl | 3, _ => rfl | 4, _ => rfl)))
      have B21 := Lib.hid (B20.out.trans (WZ.out.mono B20.out.size))
      rw [PP.out] at Gq Jq20
      rw [PT.out] at Gx Jx20
      rw [PP.out, PT.out]
      have Jq21 := Lib.hid (Jq20.out.later WZ.out); have Jr21 := Lib.hid (Jr20.out.later WZ.out); have Jx21 := Lib.hid (Jx20.out.later WZ.out); have Jz21 := Lib.hid (Jz20.out.later WZ.out)
      have S1 := Lib.hid (sameG_any (Gq.out.later WZ.out) (Gr.out.later WZ.out))
      have GX := Lib.hid (Gx.out.later WZ.out); have GY := Lib.hid (Gz.out.later WZ.out)
      obtain ⟨i0, i1, i2, i3⟩ := show _ ∧ _ ∧ _ ∧ _ from ⟨Jq21.out.cell (i := 0) rfl, Jq21.out.cell (i := 1) rfl, Jq21.out.cell (i := 2) rfl, Jq21.out.cell (i := 3) rfl⟩
      obtain ⟨j0, j1, j2, j3⟩ := show _ ∧ _ ∧ _ ∧ _ from ⟨Jr21.out.cell (i := 0) rfl, Jr21.out.cell (i := 1) rfl, Jr21.out.cell (i := 2) rfl, Jr21.out.cell (i := 3) rfl⟩
      go_wp2_with fail
      refine GZ.out.mono ?_
      rintro e w' ⟨rfl, rfl⟩
      go_wp2_with fail
      refine S1.out.mono ?_
      rintro e w22 ⟨rfl, b22⟩
      have B22 := Lib.hid (B21.out.trans (b22.mono B21.out.size))
      have S2 := Lib.hid (sameG_any (GX.out.later b22) (GY.out.later b22))
      have Jx22 := Lib.hid (Jx21.out.later b22); have Jz22 := Lib.hid (Jz21.out.later b22)
      clear i0 i1 i2 i3 j0 j1 j2 j3 b22 S1 GZ
      obtain ⟨i0, i1, i2, i3⟩ := show _ ∧ _ ∧ _ ∧ _ from ⟨Jx22.out.cell (i := 0) rfl, Jx22.out.cell (i := 1) rfl, Jx22.out.cell (i := 2) rfl, Jx22.out.cell (i := 3) rfl⟩
      obtain ⟨j0, j1, j2, j3⟩ := show _ ∧ _ ∧ _ ∧ _ from ⟨Jz22.out.cell (i := 0) rfl, Jz22.out.cell (i := 1) rfl, Jz22.out.cell (i := 2) rfl, Jz22.out.cell (i := 3) rfl⟩
      go_wp2_with fail
      refine S2.out.mono ?_
      rintro e w23 ⟨rfl, b23⟩
      have B23 := Lib.hid (B22.out.trans (b23.mono B22.out.size))
      clear i0 i1 i2 i3 j0 j1 j2 j3 b23 S2
      go_wp2
      go_ret
      exact ⟨rfl, B23.out⟩
end Go.Proofs.YtpjcdfphllbonaaDoor
