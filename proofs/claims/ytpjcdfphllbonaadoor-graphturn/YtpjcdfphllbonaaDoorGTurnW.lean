/-
  The law GraphTurn, whatever the graph and the numbers. Condition: the table of math/bits lies in memory as its text lays it (the card ties this).
-/
import Derived.Test.YtpjcdfphllbonaaDoorGTu
import Derived.Test.YtpjcdfphllbonaaDoorGSg
import Derived.Test.YtpjcdfphllbonaaDoorGOpen
namespace Go.Proofs.YtpjcdfphllbonaaDoor
set_option maxRecDepth 100000
set_option linter.unusedVariables false
open Go.ChangeShapes Go.WideShapes Go.ChangeAt Go.RowKit

def zeroGr : Gr := ⟨[], [], 0#64, 0#64⟩
theorem zero_gin (w : World) : GIn w zeroG zeroGr := ⟨_, _, rfl, sin_nil w, ein_nil w⟩
theorem turn_gin {B : Nat} {v : Value} {g : Gr} {w : World} (h : GO B v (turnG g) w) (hv : Valid g) : GIn w v (turnG g) :=
  h.gin hv.len hv.all (by show (edgesL _).length ≤ _; exact edgesL_len _ (by rw [rowsTo_length]; exact hv.len))
theorem gblk_cells {k : Nat} {v : Value} {nv ev : Value} {g : Gr} {w : World} (h : GBlk k nv ev g w) : Blk k #[nv, ev, .int .u64 (g.ph.toNat : Int), .int .u64 (g.md.toNat : Int)] 26 w := h
set_option maxHeartbeats 8000000 in
theorem graphTurn_any {w : World} {v : Value} {g : Gr} (a b : Int) (h : GIn w v g) (ht : Tab w) :
    Calls Tryd.prog 4 #[v, .int .i64 a, .int .i64 b] w fun e w' => e = .returned (.bool true) ∧ Below w.heap.size w w' := by
  have H := Lib.hid h
  have HT := Lib.hid ht
  have TV := Lib.hid (fun W (hW : Below w.heap.size w W) => turn_any (h.later hW) (ht.below hW ht.1))
  obtain ⟨nv, ev, rfl, h1, h2⟩ := h
  have HE := Lib.hid h2
  have WA := Lib.hid (below_al w (.cells #[nv, ev, .int .u64 (g.ph.toNat : Int), .int .u64 (g.md.toNat : Int)] 26))
  have K0 : Hid (GBlk w.heap.size nv ev g (w.alloc (.cells #[nv, ev, .int .u64 (g.ph.toNat : Int), .int .u64 (g.md.toNat : Int)] 26))) := blk_new _ _ _
  obtain ⟨a1, c1, rfl⟩ := h1.shape2
  obtain ⟨a2, c2, rfl⟩ := h2.shape2
  clear h1 h2 ht
  generalize g.ns.length = L at *
  generalize g.es.length = M at *
  go_enter Tryd.func4, Tryd.ntmps4
  go_wp2_with fail
  refine (graphs_true _).mono ?_
  rintro e w1 ⟨rfl, b1⟩
  have B1 := Lib.hid (WA.out.trans (b1.mono WA.out.size))
  have K1 := Lib.hid (K0.out.later b1)
  clear b1
  obtain ⟨d0, d1, d2, d3⟩ := K1.out.get
  go_wp2_with fail
  refine (TV.out _ B1.out).mono ?_
  rintro e w2 ⟨b2, ⟨hc, rfl⟩ | ⟨hv, tv, rfl, go⟩⟩
  · have B2 := Lib.hid (B1.out.trans (b2.mono B1.out.size))
    have t1 := zero_ne hc
    have ZG := Lib.hid (fun W => sameG_any (zero_gin W) (zero_gin W))
    unfold zeroG at ZG ⊢
    have BA : Hid (Below w.heap.size w (w2.alloc (.cells #[.slice none 0 0, .slice none 0 0, .int .u64 0, .int .u64 0] 26))) := B2.out.alloc B2.out.size _
    clear b2 hc d0 d1 d2 d3
    generalize ckG g = C at *
    go_wp2_with fail
    refine (ZG.out _).mono ?_
    rintro e w3 ⟨rfl, b3⟩
    have B3 := Lib.hid (BA.out.trans (b3.mono BA.out.size))
    clear b3
    go_wp2
    go_ret
    exact ⟨rfl, B3.out⟩
  · have B2 := Lib.hid (B1.out.trans (b2.mono B1.out.size))
    have K2 := Lib.hid (K1.out.later b2)
    have HV := Lib.hid hv
    have TG := Lib.hid (turn_gin go hv)
    clear b2 go hv d0 d1 d2 d3
    obtain ⟨nt, et, rfl, q1, q2⟩ := TG.out
    have TE := Lib.hid q2
    obtain ⟨x1, y1, rfl⟩ := q1.shape2
    obtain ⟨x2, y2, rfl⟩ := q2.shape2
    clear q1 q2
    have TP : (turnG g).ph = g.ph := rfl
    have TM : (turnG g).md = g.md := rfl
    rw [TP, TM] at TG ⊢
    have WB : Hid (Below w2.heap.size w2 (w2.alloc (.cells #[.slice x1 (turnG g).ns.length y1, .slice x2 (turnG g).es.length y2, .int .u64 (g.ph.toNat : Int), .int .u64 (g.md.toNat : Int)] 26))) := below_al _ _
    have J0 : Hid (GBlk w2.heap.size (.slice x1 (turnG g).ns.length y1) (.slice x2 (turnG g).es.length y2) g (w2.alloc (.cells #[.slice x1 (turnG g).ns.length y1, .slice x2 (turnG g).es.length y2, .int .u64 (g.ph.toNat : Int), .int .u64 (g.md.toNat : Int)] 26))) := blk_new _ _ _
    have B3 := Lib.hid (B2.out.trans (WB.out.mono B2.out.size))
    have K3 := Lib.hid (K2.out.later WB.out)
    have T2 := Lib.hid (turn_any (TG.out.later WB.out) (HT.out.below B3.out HT.out.1))
    have TT := turn_turn HV.out
    have VT := Lib.hid (valid_turn HV.out)
    generalize (turnG g).ns.length = L2 at *
    generalize (turnG g).es.length = M2 at *
    obtain ⟨d0, d1, d2, d3⟩ := K3.out.get
    obtain ⟨e0, e1, e2, e3⟩ := J0.out.get
    go_wp2_with fail
    refine T2.out.mono ?_
    rintro e w4 ⟨b4, ⟨hc, _⟩ | ⟨_, uv, rfl, go⟩⟩
    · exact absurd (ckG_valid VT.out) hc
    have UG : Hid (GIn w4 uv g) := Lib.hid (by have := turn_gin go VT.out; rwa [TT] at this)
    have B4 := Lib.hid (B3.out.trans (b4.mono B3.out.size))
    have K4 := Lib.hid (K3.out.later b4)
    have J4 := Lib.hid (J0.out.later b4)
    have B42 := Lib.hid (WB.out.trans (b4.mono WB.out.size))
    clear d0 d1 d2 d3 e0 e1 e2 e3 go T2 b4 TT J0
    obtain ⟨nu, eu, rfl, q1, q2⟩ := UG.out
    obtain ⟨x3, y3, rfl⟩ := q1.shape2
    obtain ⟨x4, y4, rfl⟩ := q2.shape2
    clear q1 q2
    generalize g.ns.length = L3 at *
    generalize g.es.length = M3 at *
    obtain ⟨q, hq⟩ : ∃ q : Bool, q = true ↔ ((a, b) : Ed) ∈ g.es := ⟨@decide _ (Classical.propDecidable _), @decide_eq_true_iff _ (Classical.propDecidable _)⟩
    have hq2 : q = true ↔ ((b, a) : Ed) ∈ (turnG g).es := hq.trans (turn_mem HV.out (b, a)).symm
    have WU : Hid (Below w4.heap.size w4 (w4.alloc (.cells #[.slice x3 L3 y3, .slice x4 M3 y4, .int .u64 (g.ph.toNat : Int), .int .u64 (g.md.toNat : Int)] 26))) := below_al _ _
    have U0 : GBlk w4.heap.size (.slice x3 L3 y3) (.slice x4 M3 y4) g (w4.alloc (.cells #[.slice x3 L3 y3, .slice x4 M3 y4, .int .u64 (g.ph.toNat : Int), .int .u64 (g.md.toNat : Int)] 26)) := blk_new _ _ _
    have B5 := Lib.hid (B4.out.trans (WU.out.mono B4.out.size))
    have B52 := Lib.hid (B42.out.trans (WU.out.mono B42.out.size))
    have K5 := K4.out.later WU.out
    have J5 := J4.out.later WU.out
    obtain ⟨w5, h5⟩ : ∃ w5, w5 = w4.alloc (.cells #[.slice x3 L3 y3, .slice x4 M3 y4, .int .u64 (g.ph.toNat : Int), .int .u64 (g.md.toNat : Int)] 26) := ⟨_, rfl⟩
    have KF : Hid (∀ W, Below w5.heap.size w5 W → (W.cell? ⟨w.heap.size, 0, none⟩ = some (.slice a1 L c1) ∧ W.cell? ⟨w.heap.size, 1, none⟩ = some (.slice a2 M c2) ∧ W.cell? ⟨w.heap.size, 2, none⟩ = some (.int .u64 (g.ph.toNat : Int)) ∧ W.cell? ⟨w.heap.size, 3, none⟩ = some (.int .u64 (g.md.toNat : Int))) ∧
        (W.cell? ⟨w2.heap.size, 0, none⟩ = some (.slice x1 L2 y1) ∧ W.cell? ⟨w2.heap.size, 1, none⟩ = some (.slice x2 M2 y2) ∧ W.cell? ⟨w2.heap.size, 2, none⟩ = some (.int .u64 (g.ph.toNat : Int)) ∧ W.cell? ⟨w2.heap.size, 3, none⟩ = some (.int .u64 (g.md.toNat : Int))) ∧
        (W.cell? ⟨w4.heap.size, 0, none⟩ = some (.slice x3 L3 y3) ∧ W.cell? ⟨w4.heap.size, 1, none⟩ = some (.slice x4 M3 y4) ∧ W.cell? ⟨w4.heap.size, 2, none⟩ = some (.int .u64 (g.ph.toNat : Int)) ∧ W.cell? ⟨w4.heap.size, 3, none⟩ = some (.int .u64 (g.md.toNat : Int)))) := fun W hW => by
      subst h5
      exact ⟨(K5.later hW).get, (J5.later hW).get, (U0.later hW).get⟩
    have BD : Hid (Below w5.heap.size w5 w5.drew) := (Below.refl _ _).drew
    have BW : Hid (∀ W, Below w5.heap.size w5 W → Below w.heap.size w W) := fun W hW => by
      subst h5; exact B5.out.trans (hW.mono B5.out.size)
    have BW2 : Hid (∀ W, Below w5.heap.size w5 W → Below w2.heap.size w2 W) := fun W hW => by
      subst h5; exact B52.out.trans (hW.mono B52.out.size)
    have BW4 : Hid (∀ W, Below w5.heap.size w5 W → Below w4.heap.size w4 W) := fun W hW => by
      subst h5; exact WU.out.trans (hW.mono WU.out.size)
    have SG : Hid (∀ W, Below w5.heap.size w5 W → Calls Tryd.prog 22 #[.agg #[.slice x3 L3 y3, .slice x4 M3 y4, .int .u64 (g.ph.toNat : Int), .int .u64 (g.md.toNat : Int)], .agg #[.slice a1 L c1, .slice a2 M c2, .int .u64 (g.ph.toNat : Int), .int .u64 (g.md.toNat : Int)]] W fun e w' => e = .returned (.bool true) ∧ Below W.heap.size W w') := fun W hW => sameG_any (UG.out.later (BW4.out _ hW)) (H.out.later (BW.out _ hW))
    have CKT : Hid (∀ W, Below w5.heap.size w5 W → Calls Tryd.prog 12 #[.agg #[.slice x1 L2 y1, .slice x2 M2 y2, .int .u64 (g.ph.toNat : Int), .int .u64 (g.md.toNat : Int)]] W fun e w' => e = .returned (.int .i64 0) ∧ Below W.heap.size W w') := fun W hW => by
      have := check_graph (TG.out.later (BW2.out _ hW))
      rw [ckG_valid VT.out] at this
      exact this
    have CG : Hid (∀ W, Below w5.heap.size w5 W → Calls Tryd.prog 23 #[.slice a2 M c2, .agg #[.int .i64 a, .int .i64 b]] W fun e w' => e = .returned (.bool q) ∧ Below W.heap.size W w') := fun W hW => (conE_any g.es a b _ W (HE.out.later (BW.out _ hW))).mono fun e w' => by
      rintro ⟨⟨r, rfl, hr⟩, hb⟩
      have : r = q := by rw [Bool.eq_iff_iff, hr, hq]
      rw [this]; exact ⟨rfl, hb⟩
    have CT : Hid (∀ W, Below w5.heap.size w5 W → Calls Tryd.prog 23 #[.slice x2 M2 y2, .agg #[.int .i64 b, .int .i64 a]] W fun e w' => e = .returned (.bool q) ∧ Below W.heap.size W w') := fun W hW => (conE_any (turnG g).es b a _ W (TE.out.later (BW2.out _ hW))).mono fun e w' => by
      rintro ⟨⟨r, rfl, hr⟩, hb⟩
      have : r = q := by rw [Bool.eq_iff_iff, hr, hq2]
      rw [this]; exact ⟨rfl, hb⟩
    have H5 := Lib.hid h5
    obtain ⟨⟨d0, d1, d2, d3⟩, ⟨e0, e1, e2, e3⟩, u0, u1, u2, u3⟩ := KF.out w5 (Below.refl _ _)
    clear hq hq2 K5 J5 U0 h5 H TG UG TE HE TV K4 J4 WU WB B42 B52 HT HV VT K0 K1 K2 K3 WA
    generalize (g.ph.toNat : Int) = P at *
    generalize (g.md.toNat : Int) = Q at *
    go_wp2_with fail
    rw [← H5.out]
    go_region_held3 (fun w' => (w'.cell? ⟨w.heap.size, 0, none⟩ = some (.slice a1 L c1) ∧ w'.cell? ⟨w.heap.size, 1, none⟩ = some (.slice a2 M c2) ∧ w'.cell? ⟨w.heap.size, 2, none⟩ = some (.int .u64 P) ∧ w'.cell? ⟨w.heap.size, 3, none⟩ = some (.int .u64 Q)) ∧
        (w'.cell? ⟨w2.heap.size, 0, none⟩ = some (.slice x1 L2 y1) ∧ w'.cell? ⟨w2.heap.size, 1, none⟩ = some (.slice x2 M2 y2) ∧ w'.cell? ⟨w2.heap.size, 2, none⟩ = some (.int .u64 P) ∧ w'.cell? ⟨w2.heap.size, 3, none⟩ = some (.int .u64 Q)) ∧
        (w'.cell? ⟨w4.heap.size, 0, none⟩ = some (.slice x3 L3 y3) ∧ w'.cell? ⟨w4.heap.size, 1, none⟩ = some (.slice x4 M3 y4) ∧ w'.cell? ⟨w4.heap.size, 2, none⟩ = some (.int .u64 P) ∧ w'.cell? ⟨w4.heap.size, 3, none⟩ = some (.int .u64 Q)))
      (first | exact KF.out _ BD.out | exact KF.out _ (Below.refl _ _) | assumption | go_keep) (first
      | (go_at_call 22; refine (SG.out _ BD.out).mono ?_; rintro e w6 ⟨rfl, b6⟩; have BD := Lib.hid (BD.out.trans (b6.mono BD.out.size)); clear b6)
      | (go_at_call 12; refine (CKT.out _ BD.out).mono ?_; rintro e w6 ⟨rfl, b6⟩; have BD := Lib.hid (BD.out.trans (b6.mono BD.out.size)); clear b6)
      | (go_at_call_of 23 (Value.slice a2 M c2); refine (CG.out _ BD.out).mono ?_; rintro e w6 ⟨rfl, b6⟩; have BD := Lib.hid (BD.out.trans (b6.mono BD.out.size)); clear b6)
      | (go_at_call_of 23 (Value.slice x2 M2 y2); refine (CT.out _ BD.out).mono ?_; rintro e w6 ⟨rfl, b6⟩; have BD := Lib.hid (BD.out.trans (b6.mono BD.out.size)); clear b6))
    all_goals
      go_wp2
      go_ret
      exact ⟨rfl, BW.out _ BD.out⟩
end Go.Proofs.YtpjcdfphllbonaaDoor
