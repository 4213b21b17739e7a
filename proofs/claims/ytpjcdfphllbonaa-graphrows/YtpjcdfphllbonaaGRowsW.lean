/-
  The law GraphRows, whatever the graph and the numbers. No condition.
-/
import Derived.Test.YtpjcdfphllbonaaGCt
import Derived.Test.YtpjcdfphllbonaaGOpen
namespace Go.Proofs.Ytpjcdfphllbonaa
set_option maxRecDepth 100000
set_option linter.unusedVariables false
open Go.ChangeShapes Go.WideShapes Go.ChangeAt Go.RowKit

theorem bit_walk (s : Bv) (k : Nat) : (bits .and .u64 ((s.toNat : Int) / 2 ^ k) 1 == 1) = s.getLsbD k := by
  have h : bits .and .u64 ((s.toNat : Int) / 2 ^ k) 1 = (((s >>> k) &&& 1#64).toNat : Int) := by rw [bv_shr]; exact bv_and _ 1#64
  have hb : s.getLsbD k = decide (s.toNat / 2 ^ k % 2 = 1) := by
    show s.toNat.testBit k = _
    rw [Nat.testBit_eq_decide_div_mod_eq]
  rw [h, hb, BitVec.toNat_and, BitVec.toNat_ushiftRight, Nat.shiftRight_eq_div_pow, show (1#64 : Bv).toNat = 1 from rfl, Nat.and_one_is_mod, Bool.eq_iff_iff, beq_iff_eq, decide_eq_true_iff]
  omega
set_option maxHeartbeats 8000000 in
theorem graphRows_any {w : World} {v : Value} {g : Gr} (a b : Int) (h : GIn w v g) :
    Calls Try.prog 3 #[v, .int .i64 a, .int .i64 b] w fun e w' => e = .returned (.bool true) ∧ Below w.heap.size w w' := by
  have H := Lib.hid h
  have RV := Lib.hid (fun W (hW : Below w.heap.size w W) => rows_any (h.later hW))
  have NV := Lib.hid (fun W (hW : Below w.heap.size w W) x => number_any x (h.later hW))
  obtain ⟨nv, ev, rfl, h1, h2⟩ := h
  have CV := Lib.hid (fun W (hW : Below w.heap.size w W) x y => conE_any g.es x y ev W (h2.later hW))
  have WA := Lib.hid (below_al w (.cells #[nv, ev, .int .u64 (g.ph.toNat : Int), .int .u64 (g.md.toNat : Int)] 26))
  have K0 : Hid (GBlk w.heap.size nv ev g (w.alloc (.cells #[nv, ev, .int .u64 (g.ph.toNat : Int), .int .u64 (g.md.toNat : Int)] 26))) := blk_new _ _ _
  obtain ⟨a1, c1, rfl, hns⟩ := sin_at h1
  have HN := Lib.hid hns
  obtain ⟨a2, c2, rfl⟩ := h2.shape2
  clear h1 h2 hns
  go_enter Try.func3, Try.ntmps3
  go_wp2_with fail
  refine (graphs_true _).mono ?_
  rintro e w1 ⟨rfl, b1⟩
  have B1 := Lib.hid (WA.out.trans (b1.mono WA.out.size))
  have K1 := Lib.hid (K0.out.later b1)
  clear b1
  obtain ⟨d0, d1, d2, d3⟩ := K1.out.get
  go_wp2_with fail
  refine (RV.out _ B1.out).mono ?_
  rintro e w2 ⟨b2, ⟨hc, rfl⟩ | ⟨hv, rb, rfl, hb, o2⟩⟩
  · have B2 := Lib.hid (B1.out.trans (b2.mono B1.out.size))
    have t1 := zero_ne hc
    have t2 : (ckG g == 0) = false := by rw [beq_eq_false_iff_ne]; exact hc
    clear b2 hc d0 d1 d2 d3
    generalize ckG g = C at *
    go_wp2
    go_ret
    exact ⟨rfl, B2.out⟩
  · have B2 := Lib.hid (B1.out.trans (b2.mono B1.out.size))
    have K2 := Lib.hid (K1.out.later b2)
    have HV := Lib.hid hv
    have O2 := Lib.hid o2
    have HL := Lib.hid hv.len
    clear b2 hv hb o2 d0 d1 d2 d3
    have hl := HL.out
    generalize hL : g.ns.length = L at *
    have EL := Lib.hid hL; clear hL
    by_cases ha : a < 0
    · go_wp2
      go_ret
      exact ⟨rfl, B2.out⟩
    by_cases ha2 : (L : Int) ≤ a
    · go_wp2
      go_ret
      exact ⟨rfl, B2.out⟩
    by_cases hb : b < 0
    · go_wp2
      go_ret
      exact ⟨rfl, B2.out⟩
    by_cases hb2 : (L : Int) ≤ b
    · go_wp2
      go_ret
      exact ⟨rfl, B2.out⟩
    obtain ⟨i, rfl⟩ : ∃ i : Nat, a = (i : Int) := ⟨a.toNat, by omega⟩
    obtain ⟨j, rfl⟩ : ∃ j : Nat, b = (j : Int) := ⟨b.toNat, by omega⟩
    have hi : i < L := by omega
    have hj : j < L := by omega
    have t1 : decide ((i : Int) < 0) = false := decide_eq_false ha
    have t2 : decide ((L : Int) ≤ (i : Int)) = false := decide_eq_false ha2
    have t3 : decide ((j : Int) < 0) = false := decide_eq_false hb
    have t4 : decide ((L : Int) ≤ (j : Int)) = false := decide_eq_false hb2
    have i1 : (0 : Int) ≤ (i : Int) := by omega
    have i2 : (i : Int) < (L : Int) := by omega
    clear ha ha2 hb hb2
    obtain ⟨nb, noff, rfl, cn⟩ := HN.out w2 B2.out i hi
    obtain ⟨d0, d1, d2, d3⟩ := K2.out.get
    have N2 : Hid (Calls Try.prog 6 #[.agg #[.slice (some ⟨nb, noff, none⟩) L c1, .slice a2 g.es.length c2, .int .u64 (g.ph.toNat : Int), .int .u64 (g.md.toNat : Int)], .string (bs (g.ns.getD i []))] w2.drew fun e w' => e = .returned (.tuple #[.int .i64 (i : Int), .int .i64 0]) ∧ Below w2.heap.size w2 w') := by
      refine (NV.out w2.drew B2.out.drew (g.ns.getD i [])).mono ?_
      rintro e w3 ⟨b3, ⟨hc, _⟩ | ⟨_, ⟨i', h1, h2, rfl⟩ | ⟨h1, _⟩⟩⟩
      · exact absurd (ckG_valid HV.out) hc
      · obtain rfl : i' = i := up_inj HV.out.up h1 (by rw [EL.out]; exact hi) h2
        exact ⟨rfl, (Below.refl _ _).drew.trans b3⟩
      · refine absurd ?_ h1
        have : i < g.ns.length := by rw [EL.out]; exact hi
        rw [List.getD, List.getElem?_eq_getElem this]; exact List.getElem_mem this
    have CK : Hid (∀ W, Below w2.heap.size w2 W → W.cell? ⟨w.heap.size, 0, none⟩ = some (.slice (some ⟨nb, noff, none⟩) L c1) ∧ W.cell? ⟨w.heap.size, 1, none⟩ = some (.slice a2 g.es.length c2) ∧ W.cell? ⟨w.heap.size, 2, none⟩ = some (.int .u64 (g.ph.toNat : Int)) ∧ W.cell? ⟨w.heap.size, 3, none⟩ = some (.int .u64 (g.md.toNat : Int)) ∧ W.cell? ⟨nb, noff + i, none⟩ = some (.string (bs (g.ns.getD i [])))) := fun W hW => by
      obtain ⟨e0, e1, e2, e3⟩ := (K2.out.later hW).get
      exact ⟨e0, e1, e2, e3, cell_later hW cn⟩
    have RL := rowsTo_length L g.es
    have cr0 := WO.cell (r := rowsTo L g.es) (i := i) (by rw [RL]; exact O2.out) (by omega)
    obtain ⟨B, hB⟩ : ∃ B, B = (wAt (rowsTo L g.es) i).getLsbD j := ⟨_, rfl⟩
    have e1 := bit_walk (wAt (rowsTo L g.es) i) j
    rw [← hB] at e1
    have hbit := rowsTo_bit (by have := HV.out.ein; rwa [EL.out] at this) i j (es := g.es) (n := L) (by have := HL.out; omega)
    rw [← hB] at hbit
    have C3 : Hid (∀ W, Below w.heap.size w W → Calls Try.prog 7 #[.slice a2 g.es.length c2, .agg #[.int .i64 (i : Int), .int .i64 (j : Int)]] W fun e w' => e = .returned (.bool B) ∧ Below W.heap.size W w') := fun W hW => (CV.out W hW (i : Int) (j : Int)).mono fun e w' => by
      rintro ⟨⟨q, rfl, hq⟩, hb⟩
      have : q = B := by rw [Bool.eq_iff_iff, hq, hbit]
      rw [this]
      exact ⟨rfl, hb⟩
    have CR : Hid (∀ W, Below w2.heap.size w2 W → W.cell? ⟨rb, i, none⟩ = some (.int .u64 ((wAt (rowsTo L g.es) i).toNat : Int))) := fun W hW => cell_later hW cr0
    have BW : Hid (∀ W, Below w2.heap.size w2 W → Below w.heap.size w W) := fun W hW => B2.out.trans (hW.mono B2.out.size)
    have hj64 : (j : Int) < 64 := by have := HL.out; omega
    clear hB hbit cr0 RL NV CV RV HN H O2 K0 K1 EL
    generalize (wAt (rowsTo L g.es) i).toNat = x at *
    generalize bs (g.ns.getD i []) = nm0 at *
    generalize g.es.length = M at *
    generalize (g.ph.toNat : Int) = P at *
    generalize (g.md.toNat : Int) = Q at *
    go_wp2_with fail
    go_region_held3 (fun w' => w'.cell? ⟨w.heap.size, 0, none⟩ = some (.slice (some ⟨nb, noff, none⟩) L c1) ∧ w'.cell? ⟨w.heap.size, 1, none⟩ = some (.slice a2 M c2) ∧ w'.cell? ⟨w.heap.size, 2, none⟩ = some (.int .u64 P) ∧ w'.cell? ⟨w.heap.size, 3, none⟩ = some (.int .u64 Q) ∧ w'.cell? ⟨nb, noff + i, none⟩ = some (.string nm0)) (first | exact ⟨d0, d1, d2, d3, cn⟩ | exact ⟨k0, k1, k2, k3, k4⟩ | assumption | go_keep) (first
      | (go_at_call 6; refine N2.out.mono ?_; rintro e w3 ⟨rfl, b3⟩; have B3 := Lib.hid b3; obtain ⟨k0, k1, k2, k3, k4⟩ := CK.out _ b3; clear b3))
    all_goals
      have cr := CR.out _ B3.out
      clear d0 d1 d2 d3 cn
      have B3W := Lib.hid (BW.out _ B3.out)
      go_wp2_with fail
      go_region_held3 (fun w' => w'.cell? ⟨w.heap.size, 1, none⟩ = some (.slice a2 M c2) ∧ w'.cell? ⟨rb, i, none⟩ = some (.int .u64 (x : Int))) (first | exact ⟨k1, cr⟩ | exact ⟨l1, l2⟩ | assumption | go_keep) (first
        | (go_at_call 7; refine (C3.out _ B3W.out.drew).mono ?_; rintro e w4 ⟨rfl, b4⟩; have B4 : Hid (Below w3.heap.size w3 w4) := (Below.refl _ _).drew.trans b4; have l1 := cell_later B4.out k1; have l2 := cell_later B4.out cr; clear b4))
    all_goals
      have B5 := Lib.hid (B3W.out.trans (B4.out.mono B3W.out.size))
      go_wp2
      go_ret
      exact ⟨rfl, B5.out⟩
end Go.Proofs.Ytpjcdfphllbonaa
