/-
  The law GraphTells, whatever the graph, the set and the string. Condition: the table of math/bits lies in memory as its text lays it (the card ties this).
-/
import Derived.Test.YtpjcdfphllbonaaDoorGPa
import Derived.Test.YtpjcdfphllbonaaDoorGPr
import Derived.Test.YtpjcdfphllbonaaDoorGFt
import Derived.Test.YtpjcdfphllbonaaDoorGOpen
namespace Go.Proofs.YtpjcdfphllbonaaDoor
set_option maxRecDepth 100000
set_option linter.unusedVariables false
open Go.ChangeShapes Go.WideShapes Go.ChangeAt Go.RowKit

set_option maxHeartbeats 4000000 in
theorem equalW_same {w : World} {v1 v2 : Value} {r : List Bv} (h1 : WIn w v1 r) (h2 : WIn w v2 r) (hl : r.length ≤ 64) :
    Calls Tryd.prog 15 #[v1, v2] w fun e w' => e = .returned (.bool true) ∧ ∃ q, w' = w.drewN q := by
  obtain ⟨a, c, rfl, hc⟩ := h1
  obtain ⟨a', c', rfl, hc'⟩ := h2
  have HC := Lib.hid hc; have HC' := Lib.hid hc'
  clear hc hc'
  generalize r.length = L at *
  go_enter Tryd.func15, Tryd.ntmps15
  go_wp2_with fail
  go_loopw [13] (fun i wr => ∃ k : Nat, k ≤ L ∧ i = .int .i64 k ∧ ∃ m, wr = w.drewN m) (fun i _ => L - (intOf i).toNat)
  case atStart => exact ⟨0, Nat.zero_le _, rfl, 0, rfl⟩
  case round =>
    obtain ⟨k, hk, rfl, m, rfl⟩ := hrel
    by_cases hkl : k < L
    · obtain ⟨b, off, rfl, c1⟩ := HC.out k hkl
      obtain ⟨b', off', rfl, c3⟩ := HC'.out k hkl
      generalize ((wAt r k).toNat : Int) = p at *
      have e1 : (p != p) = false := by simp
      go_wp2_with fail
      go_quiet (fail)
      go_wp2
      go_roundw
      case rel => exact ⟨k + 1, by omega, by go_num, _, rfl⟩
      case measure => simp [intOf]; omega
    · obtain rfl : k = L := by omega
      go_wp2
      go_ret
      exact ⟨rfl, _, rfl⟩
def zeroGr : Gr := ⟨[], [], 0#64, 0#64⟩
theorem zero_gin (w : World) : GIn w zeroG zeroGr := ⟨_, _, rfl, sin_nil w, ein_nil w⟩
theorem part_len {g : Gr} {s : Bv} : (partG g s).es.length ≤ 8796093022208 := by
  show (edgesL _).length ≤ _
  exact edgesL_len _ (by rw [List.length_map, nums_length]; exact cnt_le s)
theorem zero_cells : zeroG = .agg #[.slice none 0 0, .slice none 0 0, .int .u64 0, .int .u64 0] := rfl
set_option maxHeartbeats 16000000 in
theorem graphTells_bad (s : Bv) (x : Str) {w : World} {v : Value} {g : Gr} (h : GIn w v g) (ht : Tab w) (hc : ckG g ≠ 0) :
    Calls Tryd.prog 3 #[v, .int .u64 (s.toNat : Int), .string (bs x)] w fun e w' => e = .returned (.bool true) ∧ Below w.heap.size w w' := by
  have H := Lib.hid h
  have HT : Hid (∀ W, Below w.heap.size w W → Tab W) := fun W hW => ht.below hW ht.1
  obtain ⟨nv, ev, rfl, h1, h2⟩ := h
  have W0 := Lib.hid (below_al w (.cells #[nv, ev, .int .u64 (g.ph.toNat : Int), .int .u64 (g.md.toNat : Int)] 26))
  have K0 : Hid (GBlk w.heap.size nv ev g (w.alloc (.cells #[nv, ev, .int .u64 (g.ph.toNat : Int), .int .u64 (g.md.toNat : Int)] 26))) := blk_new _ _ _
  obtain ⟨ag, cg, rfl⟩ := h1.shape2
  obtain ⟨bg, dg, rfl⟩ := h2.shape2
  have t1 := zero_ne hc
  have t2 : (ckG g != ckG g) = false := by simp
  have t3 : (ckG g == ckG g) = true := by simp
  have HCZ := Lib.hid hc
  clear h1 h2 ht hc
  have RW := Lib.hid (rows_any (H.out.later W0.out))
  obtain ⟨d0, d1, d2, d3⟩ := K0.out.get
  generalize g.ns.length = ng at *
  generalize g.es.length = mg at *
  go_enter Tryd.func3, Tryd.ntmps3
  go_wp2_with fail
  refine RW.out.mono ?_
  rintro e w1 ⟨b1, ⟨_, rfl⟩ | ⟨hv, _⟩⟩
  rotate_left
  · exact absurd (ckG_valid hv) HCZ.out
  have B1 := Lib.hid (W0.out.trans (b1.mono W0.out.size))
  have K1 := Lib.hid (K0.out.later b1)
  have TU := Lib.hid (turn_any (H.out.later B1.out) (HT.out _ B1.out))
  clear b1 RW d0 d1 d2 d3 W0 K0
  obtain ⟨d0, d1, d2, d3⟩ := K1.out.get
  go_wp2_with fail
  refine TU.out.mono ?_
  rintro e w2 ⟨b2, ⟨_, rfl⟩ | ⟨hv, _⟩⟩
  rotate_left
  · exact absurd (ckG_valid hv) HCZ.out
  rw [zero_cells]
  have B2 := Lib.hid (B1.out.trans (b2.mono B1.out.size))
  have K2 := Lib.hid (K1.out.later b2)
  have A2 := Lib.hid (below_al w2 (.cells #[.slice none 0 0, .slice none 0 0, .int .u64 0, .int .u64 0] 26))
  have B3 := Lib.hid (B2.out.trans (A2.out.mono B2.out.size))
  have K3 := Lib.hid (K2.out.later A2.out)
  have Jb3 : Hid (Blk w2.heap.size #[.slice none 0 0, .slice none 0 0, .int .u64 0, .int .u64 0] 26 (w2.alloc (.cells #[.slice none 0 0, .slice none 0 0, .int .u64 0, .int .u64 0] 26))) := blk_new _ _ _
  have PA := Lib.hid (part_any s (H.out.later B3.out) (HT.out _ B3.out))
  clear b2 TU d0 d1 d2 d3 B1 K1 B2 K2
  obtain ⟨d0, d1, d2, d3⟩ := K3.out.get
  go_wp2_with fail
  refine PA.out.mono ?_
  rintro e w4 ⟨b4, ⟨_, rfl⟩ | ⟨hv, _⟩⟩
  rotate_left
  · exact absurd (ckG_valid hv) HCZ.out
  rw [zero_cells]
  have B4 := Lib.hid (B3.out.trans (b4.mono B3.out.size))
  have K4 := Lib.hid (K3.out.later b4); have Jb4 := Lib.hid (Jb3.out.later b4)
  have A4 := Lib.hid (below_al w4 (.cells #[.slice none 0 0, .slice none 0 0, .int .u64 0, .int .u64 0] 26))
  have B5 := Lib.hid (B4.out.trans (A4.out.mono B4.out.size))
  have K5 := Lib.hid (K4.out.later A4.out); have Jb5 := Lib.hid (Jb4.out.later A4.out)
  have Jc5 : Hid (Blk w4.heap.size #[.slice none 0 0, .slice none 0 0, .int .u64 0, .int .u64 0] 26 (w4.alloc (.cells #[.slice none 0 0, .slice none 0 0, .int .u64 0, .int .u64 0] 26))) := blk_new _ _ _
  have NU := Lib.hid (number_any x (H.out.later B5.out))
  clear b4 PA d0 d1 d2 d3 B3 K3 Jb3 B4 K4 Jb4 A2
  obtain ⟨d0, d1, d2, d3⟩ := K5.out.get
  go_wp2_with fail
  refine NU.out.mono ?_
  rintro e w6 ⟨b6, ⟨_, rfl⟩ | ⟨hv, _⟩⟩
  rotate_left
  · exact absurd (ckG_valid hv) HCZ.out
  have B6 := Lib.hid (B5.out.trans (b6.mono B5.out.size))
  have K6 := Lib.hid (K5.out.later b6); have Jb6 := Lib.hid (Jb5.out.later b6); have Jc6 := Lib.hid (Jc5.out.later b6)
  have RF := Lib.hid (refFault_any (H.out.later B6.out))
  clear b6 NU d0 d1 d2 d3 B5 K5 Jb5 Jc5 A4
  obtain ⟨d0, d1, d2, d3⟩ := K6.out.get
  go_wp2_with fail
  refine RF.out.mono ?_
  rintro e w7 ⟨rfl, b7⟩
  have B7 := Lib.hid (B6.out.trans (b7.mono B6.out.size))
  have K7 := Lib.hid (K6.out.later b7); have Jb7 := Lib.hid (Jb6.out.later b7); have Jc7 := Lib.hid (Jc6.out.later b7)
  have CK := Lib.hid (check_graph (H.out.later B7.out))
  clear b7 RF d0 d1 d2 d3 B6 K6 Jb6 Jc6
  obtain ⟨d0, d1, d2, d3⟩ := K7.out.get
  go_wp2_with fail
  refine CK.out.mono ?_
  rintro e w8 ⟨rfl, b8⟩
  have B8 := Lib.hid (B7.out.trans (b8.mono B7.out.size))
  have Jb8 := Lib.hid (Jb7.out.later b8); have Jc8 := Lib.hid (Jc7.out.later b8)
  have A8 := Lib.hid (below_al w8 (.cells #[.slice none 0 0, .slice none 0 0, .int .u64 0, .int .u64 0] 26))
  have B9 := Lib.hid (B8.out.trans (A8.out.mono B8.out.size))
  have Jb9 := Lib.hid (Jb8.out.later A8.out); have Jc9 := Lib.hid (Jc8.out.later A8.out)
  have Jn9 : Hid (Blk w8.heap.size #[.slice none 0 0, .slice none 0 0, .int .u64 0, .int .u64 0] 26 (w8.alloc (.cells #[.slice none 0 0, .slice none 0 0, .int .u64 0, .int .u64 0] 26))) := blk_new _ _ _
  have SG := Lib.hid (fun W => sameGR_any (zero_gin W) (zero_gin W))
  rw [zero_cells] at SG
  clear b8 CK d0 d1 d2 d3 B7 K7 Jb7 Jc7 B8 Jb8 Jc8
  obtain ⟨i0, i1, i2, i3⟩ := show _ ∧ _ ∧ _ ∧ _ from ⟨Jb9.out.cell (i := 0) rfl, Jb9.out.cell (i := 1) rfl, Jb9.out.cell (i := 2) rfl, Jb9.out.cell (i := 3) rfl⟩
  obtain ⟨n0, n1, n2, n3⟩ := show _ ∧ _ ∧ _ ∧ _ from ⟨Jn9.out.cell (i := 0) rfl, Jn9.out.cell (i := 1) rfl, Jn9.out.cell (i := 2) rfl, Jn9.out.cell (i := 3) rfl⟩
  generalize ckG g = C at *
  go_wp2_with fail
  refine (SG.out _).mono ?_
  rintro e w10 ⟨rfl, b10⟩
  have B10 := Lib.hid (B9.out.trans (b10.mono B9.out.size))
  have Jc10 := Lib.hid (Jc9.out.later b10); have Jn10 := Lib.hid (Jn9.out.later b10)
  clear i0 i1 i2 i3 n0 n1 n2 n3 b10
  obtain ⟨i0, i1, i2, i3⟩ := show _ ∧ _ ∧ _ ∧ _ from ⟨Jc10.out.cell (i := 0) rfl, Jc10.out.cell (i := 1) rfl, Jc10.out.cell (i := 2) rfl, Jc10.out.cell (i := 3) rfl⟩
  obtain ⟨n0, n1, n2, n3⟩ := show _ ∧ _ ∧ _ ∧ _ from ⟨Jn10.out.cell (i := 0) rfl, Jn10.out.cell (i := 1) rfl, Jn10.out.cell (i := 2) rfl, Jn10.out.cell (i := 3) rfl⟩
  go_wp2_with fail
  refine (SG.out _).mono ?_
  rintro e w11 ⟨rfl, b11⟩
  have B11 := Lib.hid (B10.out.trans (b11.mono B10.out.size))
  clear i0 i1 i2 i3 n0 n1 n2 n3 b11
  go_wp2
  go_ret
  exact ⟨rfl, B11.out⟩
/-! a valid graph -/
theorem turn_ok {w : World} {v : Value} {g : Gr} (h : GIn w v g) (hv : Valid g) (ht : Tab w) :
    Calls Tryd.prog 8 #[v] w fun e w' => ∃ a n c b m d, e = .returned (.tuple #[.agg #[.slice a n c, .slice b m d, .int .u64 (g.ph.toNat : Int), .int .u64 (g.md.toNat : Int)], .int .i64 0]) ∧ GIn w' (.agg #[.slice a n c, .slice b m d, .int .u64 (g.ph.toNat : Int), .int .u64 (g.md.toNat : Int)]) (turnG g) ∧ Below w.heap.size w w' := by
  refine (turn_any h ht).mono ?_
  rintro e w' ⟨hb, ⟨hc, _⟩ | ⟨_, v', rfl, ho⟩⟩
  · exact absurd (ckG_valid hv) hc
  · have gi := ho.gin hv.len hv.all (by show (edgesL _).length ≤ _; exact edgesL_len _ (by rw [rowsTo_length]; exact hv.len))
    obtain ⟨nv, ev, rfl, q1, q2⟩ := gi
    obtain ⟨a, c, rfl⟩ := q1.shape2
    obtain ⟨b, d, rfl⟩ := q2.shape2
    exact ⟨_, _, _, _, _, _, rfl, ⟨_, _, rfl, q1, q2⟩, hb⟩
theorem part_two (s : Bv) {w : World} {v : Value} {g : Gr} (h : GIn w v g) (hv : Valid g) (ht : Tab w) :
    Calls Tryd.prog 9 #[v, .int .u64 (s.toNat : Int)] w fun e w' => ∃ a n c b m d Gc hc, e = .returned (.tuple #[.agg #[.slice a n c, .slice b m d, .int .u64 (Gc.ph.toNat : Int), .int .u64 (Gc.md.toNat : Int)], .int .i64 hc]) ∧ GIn w' (.agg #[.slice a n c, .slice b m d, .int .u64 (Gc.ph.toNat : Int), .int .u64 (Gc.md.toNat : Int)]) Gc ∧ Below w.heap.size w w' ∧
      ((¬ SetIn g.ns.length s ∧ Gc = zeroGr ∧ hc = 4) ∨ (SetIn g.ns.length s ∧ Gc = partG g s ∧ hc = 0)) := by
  refine (part_any s h ht).mono ?_
  rintro e w' ⟨hb, ⟨hc, _⟩ | ⟨_, ⟨hn, rfl⟩ | ⟨hs, v', rfl, ho⟩⟩⟩
  · exact absurd (ckG_valid hv) hc
  · exact ⟨none, 0, 0, none, 0, 0, zeroGr, 4, rfl, zero_gin w', hb, .inl ⟨hn, rfl, rfl⟩⟩
  · have vp := valid_part hv hs
    have gi := ho.gin vp.len vp.all part_len
    obtain ⟨nv, ev, rfl, q1, q2⟩ := gi
    obtain ⟨a, c, rfl⟩ := q1.shape2
    obtain ⟨b, d, rfl⟩ := q2.shape2
    exact ⟨_, _, _, _, _, _, partG g s, 0, rfl, ⟨_, _, rfl, q1, q2⟩, hb, .inr ⟨hs, rfl, rfl⟩⟩
theorem number_two (x : Str) {w : World} {v : Value} {g : Gr} (h : GIn w v g) (hv : Valid g) :
    Calls Tryd.prog 10 #[v, .string (bs x)] w fun e w' => ∃ nv nc : Int, e = .returned (.tuple #[.int .i64 nv, .int .i64 nc]) ∧ Below w.heap.size w w' ∧
      ((∃ i : Nat, i < g.ns.length ∧ g.ns.getD i [] = x ∧ nv = (i : Int) ∧ nc = 0) ∨ (x ∉ g.ns ∧ nv = 0 ∧ nc = 5)) := by
  refine (number_any x h).mono ?_
  rintro e w' ⟨hb, ⟨hc, _⟩ | ⟨_, ⟨i, h1, h2, rfl⟩ | ⟨h1, rfl⟩⟩⟩
  · exact absurd (ckG_valid hv) hc
  · exact ⟨_, _, rfl, hb, .inl ⟨i, h1, h2, rfl, rfl⟩⟩
  · exact ⟨_, _, rfl, hb, .inr ⟨h1, rfl, rfl⟩⟩
theorem rows_two {w : World} {v : Value} {g : Gr} (h : GIn w v g) (hv : Valid g) :
    Calls Tryd.prog 7 #[v] w fun e w' => ∃ b, e = .returned (.tuple #[.slice (some ⟨b, 0, none⟩) g.ns.length g.ns.length, .int .i64 0]) ∧ WIn w' (.slice (some ⟨b, 0, none⟩) g.ns.length g.ns.length) (rowsTo g.ns.length g.es) ∧ Below w.heap.size w w' := by
  refine (rows_any h).mono ?_
  rintro e w' ⟨hb, ⟨hc, _⟩ | ⟨_, b, rfl, _, ho⟩⟩
  · exact absurd (ckG_valid hv) hc
  · exact ⟨b, rfl, ho.win, hb⟩
theorem rows_in {n : Nat} {es : List Ed} (h : EdIn n es) (hn : n ≤ 64) (i : Nat) : SetIn n (wAt (rowsTo n es) i) := fun k hk => by
  rcases Nat.lt_or_ge k 64 with h' | h'
  · cases hb : (wAt (rowsTo n es) i).getLsbD k
    · rfl
    · have := h _ ((rowsTo_bit h i k h').1 hb)
      simp at this; omega
  · exact bit_ge _ h'
theorem win_one (w : World) (s : Bv) : WIn (w.alloc (.cells #[.int .u64 (s.toNat : Int)] 24)) (.slice (some ⟨w.heap.size, 0, none⟩) 1 1) [s] :=
  ⟨_, _, rfl, fun k hk => ⟨_, 0, rfl, by
    match k, hk with
    | 0, _ => exact (blk_new w #[.int .u64 (s.toNat : Int)] 24).cell (i := 0) rfl⟩⟩
set_option maxHeartbeats 16000000 in
theorem graphTells_ok (s : Bv) (x : Str) {w : World} {v : Value} {g : Gr} (h : GIn w v g) (ht : Tab w) (hv : Valid g) :
    Calls Tryd.prog 3 #[v, .int .u64 (s.toNat : Int), .string (bs x)] w fun e w' => e = .returned (.bool true) ∧ Below w.heap.size w w' := by
  have H := Lib.hid h
  have HT : Hid (∀ W, Below w.heap.size w W → Tab W) := fun W hW => ht.below hW ht.1
  have HV := Lib.hid hv
  have C0 := ckG_valid hv
  obtain ⟨nv, ev, rfl, h1, h2⟩ := h
  have W0 := Lib.hid (below_al w (.cells #[nv, ev, .int .u64 (g.ph.toNat : Int), .int .u64 (g.md.toNat : Int)] 26))
  have K0 : Hid (GBlk w.heap.size nv ev g (w.alloc (.cells #[nv, ev, .int .u64 (g.ph.toNat : Int), .int .u64 (g.md.toNat : Int)] 26))) := blk_new _ _ _
  obtain ⟨ag, cg, rfl⟩ := h1.shape2
  obtain ⟨bg, dg, rfl⟩ := h2.shape2
  have HS1 := Lib.hid h1
  have hl := hv.len
  clear h1 h2 ht hv
  have RW := Lib.hid (rows_two (H.out.later W0.out) HV.out)
  obtain ⟨d0, d1, d2, d3⟩ := K0.out.get
  generalize hng : g.ns.length = ng at *
  have NG := Lib.hid hng; clear hng
  generalize g.es.length = mg at *
  go_enter Tryd.func3, Tryd.ntmps3
  go_wp2_with fail
  refine RW.out.mono ?_
  rintro e w1 ⟨rb, rfl, wi, b1⟩
  have B1 := Lib.hid (W0.out.trans (b1.mono W0.out.size))
  have K1 := Lib.hid (K0.out.later b1)
  have WI := Lib.hid wi
  have TU := Lib.hid (turn_ok (H.out.later B1.out) HV.out (HT.out _ B1.out))
  clear b1 RW d0 d1 d2 d3 W0 K0 wi
  obtain ⟨d0, d1, d2, d3⟩ := K1.out.get
  go_wp2_with fail
  refine TU.out.mono ?_
  rintro e w2 ⟨a1, n1, c1, e1, m1, f1, rfl, gt, b2⟩
  have B2 := Lib.hid (B1.out.trans (b2.mono B1.out.size))
  have K2 := Lib.hid (K1.out.later b2)
  have A2 := Lib.hid (below_al w2 (.cells #[.slice a1 n1 c1, .slice e1 m1 f1, .int .u64 (g.ph.toNat : Int), .int .u64 (g.md.toNat : Int)] 26))
  have B3 := Lib.hid (B2.out.trans (A2.out.mono B2.out.size))
  have K3 := Lib.hid (K2.out.later A2.out)
  have WI := Lib.hid ((WI.out.later b2).later A2.out)
  have GB := Lib.hid (gt.later A2.out)
  have Jb3 : Hid (Blk w2.heap.size #[.slice a1 n1 c1, .slice e1 m1 f1, .int .u64 (g.ph.toNat : Int), .int .u64 (g.md.toNat : Int)] 26 (w2.alloc (.cells #[.slice a1 n1 c1, .slice e1 m1 f1, .int .u64 (g.ph.toNat : Int), .int .u64 (g.md.toNat : Int)] 26))) := blk_new _ _ _
  have PA := Lib.hid (part_two s (H.out.later B3.out) HV.out (HT.out _ B3.out))
  clear b2 TU d0 d1 d2 d3 B1 K1 B2 K2 gt
  obtain ⟨d0, d1, d2, d3⟩ := K3.out.get
  go_wp2_with fail
  refine PA.out.mono ?_
  rintro e w4 ⟨a2, n2, c2, e2, m2, f2, Gc, hcode, rfl, gc, b4, hcs⟩
  have HCS := Lib.hid hcs
  rw [NG.out] at HCS
  have B4 := Lib.hid (B3.out.trans (b4.mono B3.out.size))
  have K4 := Lib.hid (K3.out.later b4); have Jb4 := Lib.hid (Jb3.out.later b4)
  have A4 := Lib.hid (below_al w4 (.cells #[.slice a2 n2 c2, .slice e2 m2 f2, .int .u64 (Gc.ph.toNat : Int), .int .u64 (Gc.md.toNat : Int)] 26))
  have B5 := Lib.hid (B4.out.trans (A4.out.mono B4.out.size))
  have K5 := Lib.hid (K4.out.later A4.out); have Jb5 := Lib.hid (Jb4.out.later A4.out)
  have WI := Lib.hid ((WI.out.later b4).later A4.out); have GB := Lib.hid ((GB.out.later b4).later A4.out); have GC := Lib.hid (gc.later A4.out)
  have Jc5 : Hid (Blk w4.heap.size #[.slice a2 n2 c2, .slice e2 m2 f2, .int .u64 (Gc.ph.toNat : Int), .int .u64 (Gc.md.toNat : Int)] 26 (w4.alloc (.cells #[.slice a2 n2 c2, .slice e2 m2 f2, .int .u64 (Gc.ph.toNat : Int), .int .u64 (Gc.md.toNat : Int)] 26))) := blk_new _ _ _
  have NU := Lib.hid (number_two x (H.out.later B5.out) HV.out)
  clear b4 PA d0 d1 d2 d3 B3 K3 Jb3 B4 K4 Jb4 A2 gc hcs
  obtain ⟨d0, d1, d2, d3⟩ := K5.out.get
  go_wp2_with fail
  refine NU.out.mono ?_
  rintro e w6 ⟨nval, ncode, rfl, b6, hnum⟩
  have HNU := Lib.hid hnum
  rw [NG.out] at HNU
  have B6 := Lib.hid (B5.out.trans (b6.mono B5.out.size))
  have K6 := Lib.hid (K5.out.later b6); have Jb6 := Lib.hid (Jb5.out.later b6); have Jc6 := Lib.hid (Jc5.out.later b6)
  have WI := Lib.hid (WI.out.later b6); have GB := Lib.hid (GB.out.later b6); have GC := Lib.hid (GC.out.later b6)
  have RF := Lib.hid (refFault_any (H.out.later B6.out))
  rw [C0] at RF
  clear b6 NU d0 d1 d2 d3 B5 K5 Jb5 Jc5 A4 hnum
  obtain ⟨d0, d1, d2, d3⟩ := K6.out.get
  go_wp2_with fail
  refine RF.out.mono ?_
  rintro e w7 ⟨rfl, b7⟩
  have B7 := Lib.hid (B6.out.trans (b7.mono B6.out.size))
  have K7 := Lib.hid (K6.out.later b7); have Jb7 := Lib.hid (Jb6.out.later b7); have Jc7 := Lib.hid (Jc6.out.later b7)
  have WI := Lib.hid (WI.out.later b7); have GB := Lib.hid (GB.out.later b7); have GC := Lib.hid (GC.out.later b7)
  have CK := Lib.hid (check_graph (H.out.later B7.out))
  rw [C0] at CK
  clear b7 RF d0 d1 d2 d3 B6 K6 Jb6 Jc6
  obtain ⟨d0, d1, d2, d3⟩ := K7.out.get
  go_wp2_with fail
  refine CK.out.mono ?_
  rintro e w8 ⟨rfl, b8⟩
  have B8 := Lib.hid (B7.out.trans (b8.mono B7.out.size))
  have K8 := Lib.hid (K7.out.later b8); have Jb8 := Lib.hid (Jb7.out.later b8); have Jc8 := Lib.hid (Jc7.out.later b8)
  have A8 := Lib.hid (below_al w8 (.cells #[.slice none 0 0, .slice none 0 0, .int .u64 0, .int .u64 0] 26))
  have B9 := Lib.hid (B8.out.trans (A8.out.mono B8.out.size))
  have K9 := Lib.hid (K8.out.later A8.out); have Jb9 := Lib.hid (Jb8.out.later A8.out); have Jc9 := Lib.hid (Jc8.out.later A8.out)
  have Jn9 : Hid (Blk w8.heap.size #[.slice none 0 0, .slice none 0 0, .int .u64 0, .int .u64 0] 26 (w8.alloc (.cells #[.slice none 0 0, .slice none 0 0, .int .u64 0, .int .u64 0] 26))) := blk_new _ _ _
  have WI := Lib.hid ((WI.out.later b8).later A8.out); have GB := Lib.hid ((GB.out.later b8).later A8.out); have GC := Lib.hid ((GC.out.later b8).later A8.out)
  have RR := Lib.hid (rowsR_any (H.out.later B9.out) (by rw [NG.out]; exact hl) HV.out.ein)
  rw [NG.out] at RR
  clear b8 CK d0 d1 d2 d3 B7 K7 Jb7 Jc7 B8 K8 Jb8 Jc8
  obtain ⟨d0, d1, d2, d3⟩ := K9.out.get
  go_wp2_with fail
  refine RR.out.mono ?_
  rintro e w10 ⟨rr, rfl, _, ro, b10⟩
  have B10 := Lib.hid (B9.out.trans (b10.mono B9.out.size))
  have K10 := Lib.hid (K9.out.later b10); have Jb10 := Lib.hid (Jb9.out.later b10); have Jc10 := Lib.hid (Jc9.out.later b10); have Jn10 := Lib.hid (Jn9.out.later b10)
  have WI := Lib.hid (WI.out.later b10); have GB := Lib.hid (GB.out.later b10); have GC := Lib.hid (GC.out.later b10)
  have WR := Lib.hid ro.win
  have RL := rowsTo_length ng g.es
  clear b10 RR d0 d1 d2 d3 B9 K9 Jb9 Jc9 Jn9 A8 ro
  have EI : EdIn ng g.es := by have := HV.out.ein; rwa [NG.out] at this
  have BD : Hid (Below w10.heap.size w10 w10.drew) := (Below.refl _ _).drew
  have BW : Hid (∀ W, Below w10.heap.size w10 W → Below w.heap.size w W) := fun W hW => B10.out.trans (hW.mono B10.out.size)
  have EQ := Lib.hid (fun W (hW : Below w10.heap.size w10 W) => (equalW_same (WI.out.later hW) (WR.out.later hW) (by rw [RL]; exact hl)).mono (fun e w' (h : e = .returned (.bool true) ∧ ∃ q, w' = W.drewN q) => (show e = .returned (.bool true) ∧ Below W.heap.size W w' from ⟨h.1, by obtain ⟨q, rfl⟩ := h.2; exact below_drewN (Below.refl _ _) q⟩)))
  have TD : Hid (∀ W, Below w10.heap.size w10 W → Calls Tryd.prog 17 #[.slice (some ⟨rr, 0, none⟩) ng ng] W fun e w' => ∃ b, e = .returned (.slice (some ⟨b, 0, none⟩) ng ng) ∧ WIn w' (.slice (some ⟨b, 0, none⟩) ng ng) (rowsTo ng (g.es.map sw)) ∧ Below W.heap.size W w') := fun W hW => by
    have := turned_any (WR.out.later hW) (by rw [RL]; exact hl)
    rw [RL] at this
    refine this.mono ?_
    rintro e w' ⟨b, O, rfl, tn, wo, hb⟩
    have e1 := tn_all hl EI tn
    subst e1
    exact ⟨b, rfl, wo.win, hb⟩
  have GF := Lib.hid (fun W V (hW : Below w.heap.size w W) (hw : WIn W V (rowsTo ng (g.es.map sw))) => graphOf_any g.ph g.md (HS1.out.later hW) hw (by rw [rowsTo_length]; exact hl))
  have SG1 : Hid (∀ W a n c, Below w10.heap.size w10 W → EO W.heap.size (.slice a n c) (edgesL (rowsTo ng (g.es.map sw))) W ∨ EIn W (.slice a n c) (edgesL (rowsTo ng (g.es.map sw))) → EIn W (.slice a n c) (edgesL (rowsTo ng (g.es.map sw))) → Calls Tryd.prog 13 #[.agg #[.slice a1 n1 c1, .slice e1 m1 f1, .int .u64 (g.ph.toNat : Int), .int .u64 (g.md.toNat : Int)], .agg #[.slice ag ng cg, .slice a n c, .int .u64 (g.ph.toNat : Int), .int .u64 (g.md.toNat : Int)]] W fun e w' => e = .returned (.bool true) ∧ Below W.heap.size W w') := fun W a n c hW _ he => by
    refine sameGR_any (g := turnG g) (GB.out.later hW) ⟨_, _, rfl, HS1.out.later (BW.out _ hW), ?_⟩
    show EIn W _ (edgesL (rowsTo g.ns.length (g.es.map sw)))
    rw [NG.out]; exact he
  have KG : Hid (∀ W, Below w10.heap.size w10 W → (W.cell? ⟨w.heap.size, 0, none⟩ = some (.slice ag ng cg) ∧ W.cell? ⟨w.heap.size, 2, none⟩ = some (.int .u64 (g.ph.toNat : Int)) ∧ W.cell? ⟨w.heap.size, 3, none⟩ = some (.int .u64 (g.md.toNat : Int))) ∧ W.cell? ⟨w2.heap.size, 0, none⟩ = some (.slice a1 n1 c1) ∧ W.cell? ⟨w2.heap.size, 1, none⟩ = some (.slice e1 m1 f1) ∧ W.cell? ⟨w2.heap.size, 2, none⟩ = some (.int .u64 (g.ph.toNat : Int)) ∧ W.cell? ⟨w2.heap.size, 3, none⟩ = some (.int .u64 (g.md.toNat : Int))) := fun W hW => by
    obtain ⟨k0, k1, k2, k3⟩ := (K10.out.later hW).get
    have := Jb10.out.later hW
    exact ⟨⟨k0, k2, k3⟩, this.cell rfl, this.cell rfl, this.cell rfl, this.cell rfl⟩
  obtain ⟨⟨d0, d2, d3⟩, j0, j1, j2, j3⟩ := KG.out _ (Below.refl _ _)
  have hn0 : ((0 : Int) != 0) = false := by simp
  go_wp2_with fail
  go_region_held3 (fun w' => (w'.cell? ⟨w.heap.size, 0, none⟩ = some (.slice ag ng cg) ∧ w'.cell? ⟨w.heap.size, 2, none⟩ = some (.int .u64 (g.ph.toNat : Int)) ∧ w'.cell? ⟨w.heap.size, 3, none⟩ = some (.int .u64 (g.md.toNat : Int))) ∧ w'.cell? ⟨w2.heap.size, 0, none⟩ = some (.slice a1 n1 c1) ∧ w'.cell? ⟨w2.heap.size, 1, none⟩ = some (.slice e1 m1 f1) ∧ w'.cell? ⟨w2.heap.size, 2, none⟩ = some (.int .u64 (g.ph.toNat : Int)) ∧ w'.cell? ⟨w2.heap.size, 3, none⟩ = some (.int .u64 (g.md.toNat : Int)))
    (first | exact KG.out _ BD.out | exact KG.out _ (Below.refl _ _) | assumption | go_keep) (first
    | (go_at_call 15; refine (EQ.out _ BD.out).mono ?_; rintro e w11 ⟨rfl, b11⟩; have BD := Lib.hid (BD.out.trans (b11.mono BD.out.size)); clear b11)
    | (go_at_call 17; refine (TD.out _ BD.out).mono ?_; rintro e w12 ⟨tb, rfl, tw, b12⟩; have BD := Lib.hid (BD.out.trans (b12.mono BD.out.size)); have TW := Lib.hid tw; clear b12 tw)
    | (go_at_call 16; refine (GF.out _ _ (BW.out _ BD.out) TW.out).mono ?_; rintro e w13 ⟨ga, gn, gc, rfl, go, gl, b13⟩; have BD := Lib.hid (BD.out.trans (b13.mono BD.out.size)); have GE := Lib.hid (EIn.own go gl); clear b13 go gl)
    | (go_at_call 13; refine (SG1.out _ _ _ _ BD.out (.inr GE.out) GE.out).mono ?_; rintro e w14 ⟨rfl, b14⟩; have BD := Lib.hid (BD.out.trans (b14.mono BD.out.size)); clear b14))
  all_goals
    rename World => W
    have B15 := Lib.hid (BW.out _ BD.out)
    have BX : Hid (∀ V, Below W.heap.size W V → Below w10.heap.size w10 V) := fun V hV => BD.out.trans (hV.mono BD.out.size)
    have PL := Lib.hid (place_of (HS1.out.later B15.out) x)
    have RFx : Hid (∀ V sv, Below W.heap.size W V → WIn V sv [s] → Calls Tryd.prog 19 #[.slice (some ⟨rr, 0, none⟩) ng ng, sv] V fun e w' => ((SetIn ng s ∧ e = .returned (.int .i64 0)) ∨ (¬ SetIn ng s ∧ e = .returned (.int .i64 4))) ∧ Below V.heap.size V w') := fun V sv hV hs => by
      have := rowsFault_any s sv (WR.out.later (BX.out _ hV)) hs (by rw [RL]; exact hl) (fun i _ => by rw [RL]; exact rows_in EI hl i)
      rw [RL] at this
      exact this
    have KX : Hid (∀ V, Below W.heap.size W V → (V.cell? ⟨w.heap.size, 0, none⟩ = some (.slice ag ng cg) ∧ V.cell? ⟨w.heap.size, 1, none⟩ = some (.slice bg mg dg) ∧ V.cell? ⟨w.heap.size, 2, none⟩ = some (.int .u64 (g.ph.toNat : Int)) ∧ V.cell? ⟨w.heap.size, 3, none⟩ = some (.int .u64 (g.md.toNat : Int))) ∧
        (V.cell? ⟨w4.heap.size, 0, none⟩ = some (.slice a2 n2 c2) ∧ V.cell? ⟨w4.heap.size, 1, none⟩ = some (.slice e2 m2 f2) ∧ V.cell? ⟨w4.heap.size, 2, none⟩ = some (.int .u64 (Gc.ph.toNat : Int)) ∧ V.cell? ⟨w4.heap.size, 3, none⟩ = some (.int .u64 (Gc.md.toNat : Int))) ∧
        V.cell? ⟨w8.heap.size, 0, none⟩ = some (.slice none 0 0) ∧ V.cell? ⟨w8.heap.size, 1, none⟩ = some (.slice none 0 0) ∧ V.cell? ⟨w8.heap.size, 2, none⟩ = some (.int .u64 0) ∧ V.cell? ⟨w8.heap.size, 3, none⟩ = some (.int .u64 0)) := fun V hV => by
      have q1 := Jc10.out.later (BX.out _ hV)
      have q2 := Jn10.out.later (BX.out _ hV)
      exact ⟨(K10.out.later (BX.out _ hV)).get, ⟨q1.cell rfl, q1.cell rfl, q1.cell rfl, q1.cell rfl⟩, q2.cell rfl, q2.cell rfl, q2.cell rfl, q2.cell rfl⟩
    have GCx : Hid (∀ V, Below W.heap.size W V → GIn V (.agg #[.slice a2 n2 c2, .slice e2 m2 f2, .int .u64 (Gc.ph.toNat : Int), .int .u64 (Gc.md.toNat : Int)]) Gc) := fun V hV => GC.out.later (BX.out _ hV)
    have HGx : Hid (∀ V, Below W.heap.size W V → GIn V (.agg #[.slice ag ng cg, .slice bg mg dg, .int .u64 (g.ph.toNat : Int), .int .u64 (g.md.toNat : Int)]) g) := fun V hV => H.out.later (BW.out _ (BX.out _ hV))
    have BZ : Hid (∀ V, Below W.heap.size W V → Below w.heap.size w V) := fun V hV => BW.out _ (BX.out _ hV)
    have UI := Lib.hid (fun (i j : Nat) (hi : i < g.ns.length) (hj : j < g.ns.length) e => up_inj HV.out.up hi hj e)
    obtain ⟨⟨k0, k1, k2, k3⟩, _⟩ := KX.out W (Below.refl _ _)
    clear d0 d2 d3 j0 j1 j2 j3 EQ TD GF SG1 KG BD TW GE WI WR RL K10 Jb10 Jc10 Jn10 GB GC BX BW B10 H HT HS1
    go_wp2_with fail
    refine PL.out.mono ?_
    rintro e w' ⟨hp, rfl⟩
    have HPX : Hid (∃ pk : Int, e = .returned (.int .i64 pk) ∧ ((0 ≤ pk ∧ nval = pk ∧ ncode = 0) ∨ (pk < 0 ∧ nval = 0 ∧ ncode = 5))) := by
      rcases hp with ⟨i, i1, i2, rfl⟩ | ⟨i1, rfl⟩
      · refine ⟨i, rfl, .inl ⟨by omega, ?_⟩⟩
        rcases HNU.out with ⟨j, q1, q2, q3, q4⟩ | ⟨q1, _, _⟩
        · have := UI.out i j i1 (by rw [NG.out]; exact q1) (i2.trans q2.symm)
          subst this
          exact ⟨q3, q4⟩
        · exact absurd (i2 ▸ (by rw [List.getD, List.getElem?_eq_getElem i1]; exact List.getElem_mem i1 : g.ns.getD i [] ∈ g.ns)) q1
      · refine ⟨-1, rfl, .inr ⟨by omega, ?_⟩⟩
        rcases HNU.out with ⟨j, q1, q2, q3, q4⟩ | ⟨_, q3, q4⟩
        · exact absurd (q2 ▸ (by rw [List.getD, List.getElem?_eq_getElem (by rw [NG.out]; exact q1)]; exact List.getElem_mem _ : g.ns.getD j [] ∈ g.ns)) i1
        · exact ⟨q3, q4⟩
    obtain ⟨pk, rfl, hpk⟩ := HPX.out
    clear hp HPX HNU UI PL k0 k1 k2 k3
    have W1 := Lib.hid (win_one w' s)
    have A1 := Lib.hid (below_al w' (.cells #[.int .u64 (s.toNat : Int)] 24))
    have RFy := Lib.hid (RFx.out _ _ A1.out W1.out)
    clear RFx W1
    have q1 : (pk != pk) = false := by simp
    rcases hpk with ⟨p1, rfl, rfl⟩ | ⟨p1, rfl, rfl⟩
    all_goals
      go_wp2_with fail
      refine RFy.out.mono ?_
      rintro e w16 ⟨⟨hS, rfl⟩ | ⟨hS, rfl⟩, b16⟩
      · obtain ⟨hS1, rfl, rfl⟩ : SetIn ng s ∧ Gc = partG g s ∧ hcode = 0 := HCS.out.resolve_left (fun h => h.1 hS)
        have B16 := Lib.hid (A1.out.trans (b16.mono A1.out.size))
        have RP := Lib.hid (fun V (hV : Below w'.heap.size w' V) => refPart_any s (HGx.out V hV) HV.out (by rw [NG.out]; exact hS1))
        have SGx := Lib.hid (fun V v' (hV : Below w'.heap.size w' V) (hg : GIn V v' (partG g s)) => sameGR_any (GCx.out V hV) hg)
        have BD : Hid (Below w'.heap.size w' w16.drew) := B16.out.drew
        have KY : Hid (∀ V, Below w'.heap.size w' V → (V.cell? ⟨w.heap.size, 0, none⟩ = some (.slice ag ng cg) ∧ V.cell? ⟨w.heap.size, 1, none⟩ = some (.slice bg mg dg) ∧ V.cell? ⟨w.heap.size, 2, none⟩ = some (.int .u64 (g.ph.toNat : Int)) ∧ V.cell? ⟨w.heap.size, 3, none⟩ = some (.int .u64 (g.md.toNat : Int))) ∧
            (V.cell? ⟨w4.heap.size, 0, none⟩ = some (.slice a2 n2 c2) ∧ V.cell? ⟨w4.heap.size, 1, none⟩ = some (.slice e2 m2 f2) ∧ V.cell? ⟨w4.heap.size, 2, none⟩ = some (.int .u64 ((partG g s).ph.toNat : Int)) ∧ V.cell? ⟨w4.heap.size, 3, none⟩ = some (.int .u64 ((partG g s).md.toNat : Int)))) := fun V hV => ⟨(KX.out V hV).1, (KX.out V hV).2.1⟩
        obtain ⟨⟨k0, k1, k2, k3⟩, j0, j1, j2, j3⟩ := KY.out w16 B16.out
        clear b16 KX HCS GCx HGx RFy HV
        generalize (partG g s).ph = pp at *
        generalize (partG g s).md = pm at *
        go_wp2_with fail
        go_region_held3 (fun w' => (w'.cell? ⟨w.heap.size, 0, none⟩ = some (.slice ag ng cg) ∧ w'.cell? ⟨w.heap.size, 1, none⟩ = some (.slice bg mg dg) ∧ w'.cell? ⟨w.heap.size, 2, none⟩ = some (.int .u64 (g.ph.toNat : Int)) ∧ w'.cell? ⟨w.heap.size, 3, none⟩ = some (.int .u64 (g.md.toNat : Int))) ∧ (w'.cell? ⟨w4.heap.size, 0, none⟩ = some (.slice a2 n2 c2) ∧ w'.cell? ⟨w4.heap.size, 1, none⟩ = some (.slice e2 m2 f2) ∧ w'.cell? ⟨w4.heap.size, 2, none⟩ = some (.int .u64 (pp.toNat : Int)) ∧ w'.cell? ⟨w4.heap.size, 3, none⟩ = some (.int .u64 (pm.toNat : Int))))
          (first | exact KY.out _ BD.out | exact KY.out _ B16.out | assumption | go_keep) (first
          | (go_at_call 20; refine (RP.out _ BD.out).mono ?_; rintro e w17 ⟨vp, rfl, gp, b17⟩; have BD := Lib.hid (BD.out.trans (b17.mono BD.out.size)); have SGy := Lib.hid (SGx.out _ _ BD.out gp); clear b17 gp)
          | (go_at_call 13; refine SGy.out.mono ?_; rintro e w18 ⟨rfl, b18⟩; have BD := Lib.hid (BD.out.trans (b18.mono BD.out.size)); clear b18))
        all_goals
          go_wp2
          go_ret
          exact ⟨rfl, BZ.out _ BD.out⟩
      · obtain ⟨hS1, rfl, rfl⟩ : ¬ SetIn ng s ∧ Gc = zeroGr ∧ hcode = 4 := HCS.out.resolve_right (fun h => hS h.1)
        have B16 := Lib.hid (A1.out.trans (b16.mono A1.out.size))
        have SGz := Lib.hid (sameGR_any (GCx.out _ B16.out) (zero_gin w16))
        rw [zero_cells] at SGz
        obtain ⟨_, ⟨j0, j1, j2, j3⟩, z0, z1, z2, z3⟩ := KX.out w16 B16.out
        clear b16 KX HCS GCx HGx RFy HV
        generalize (zeroGr.ph.toNat : Int) = pp at *
        generalize (zeroGr.md.toNat : Int) = pm at *
        go_wp2_with fail
        refine SGz.out.mono ?_
        rintro e w17 ⟨rfl, b17⟩
        have B17 := Lib.hid (B16.out.trans (b17.mono B16.out.size))
        clear b17 j0 j1 j2 j3 z0 z1 z2 z3
        go_wp2
        go_ret
        exact ⟨rfl, BZ.out _ B17.out⟩
theorem graphTells_any (s : Bv) (x : Str) {w : World} {v : Value} {g : Gr} (h : GIn w v g) (ht : Tab w) :
    Calls Tryd.prog 3 #[v, .int .u64 (s.toNat : Int), .string (bs x)] w fun e w' => e = .returned (.bool true) ∧ Below w.heap.size w w' := by
  by_cases hc : ckG g = 0
  · exact graphTells_ok s x h ht (ckG_zero hc)
  · exact graphTells_bad s x h ht hc
theorem graphTells_b (s : Bv) (x : ByteArray) {w : World} {v : Value} {g : Gr} (h : GIn w v g) (ht : Tab w) :
    Calls Tryd.prog 3 #[v, .int .u64 (s.toNat : Int), .string x] w fun e w' => e = .returned (.bool true) ∧ Below w.heap.size w w' := by
  have q := graphTells_any s x.data.toList h ht
  rw [bs_of] at q
  exact q
end Go.Proofs.YtpjcdfphllbonaaDoor
