/-
  The document's answer (package millwrightref) for graphs: SameTexts and SameGraph at the same graphs, Turned, RowsFault. No condition.
-/
import Derived.Test.YtpjcdfphllbonaaDoorGRf
import Derived.Laws.StructEq
namespace Go.Proofs.YtpjcdfphllbonaaDoor
set_option maxRecDepth 100000
set_option linter.unusedVariables false
open Go.ChangeShapes Go.WideShapes Go.ChangeAt Go.RowKit

set_option maxHeartbeats 4000000 in
theorem sameTexts_any {w : World} {v1 v2 : Value} {z : List Str} (h1 : SIn w v1 z) (h2 : SIn w v2 z) :
    Calls Tryd.prog 42 #[v1, v2] w fun e w' => e = .returned (.bool true) ∧ ∃ q, w' = w.drewN q := by
  have hb := h1.bound
  obtain ⟨a, c, rfl, hc⟩ := sin_at h1
  obtain ⟨a', c', rfl, hc'⟩ := sin_at h2
  have HC := Lib.hid (hc w (Below.refl _ _)); have HC' := Lib.hid (hc' w (Below.refl _ _))
  clear hc hc' h1 h2
  generalize z.length = L at *
  go_enter Tryd.func42, Tryd.ntmps42
  go_wp2_with fail
  go_loopw [13] (fun i wr => ∃ k : Nat, k ≤ L ∧ i = .int .i64 k ∧ ∃ m, wr = w.drewN m) (fun i _ => L - (intOf i).toNat)
  case atStart => exact ⟨0, Nat.zero_le _, rfl, 0, rfl⟩
  case round =>
    obtain ⟨k, hk, rfl, m, rfl⟩ := hrel
    by_cases hkl : k < L
    · obtain ⟨b, off, rfl, c1⟩ := HC.out k hkl
      obtain ⟨b', off', rfl, c3⟩ := HC'.out k hkl
      have e1 : ((bs (z.getD k [])).toList == (bs (z.getD k [])).toList) = true := by simp
      generalize bs (z.getD k []) = p at *
      go_wp2_with fail
      go_quiet (fail)
      go_wp2
      go_roundw
      case rel => exact ⟨k + 1, by omega, by go_num, _, rfl⟩
      case measure => simp [intOf]; omega
    · obtain rfl : k = L := by omega
      go_wp2
      go_ret
      exact ⟨rfl, _, rfl⟩
set_option maxHeartbeats 8000000 in
theorem sameGR_any {w : World} {v1 v2 : Value} {g : Gr} (h1 : GIn w v1 g) (h2 : GIn w v2 g) :
    Calls Tryd.prog 13 #[v1, v2] w fun e w' => e = .returned (.bool true) ∧ Below w.heap.size w w' := by
  obtain ⟨nv, ev, rfl, n1, e1⟩ := h1
  obtain ⟨nu, eu, rfl, n2, e2⟩ := h2
  have hb := e1.bound
  have SN := Lib.hid (fun W (hW : Below w.heap.size w W) => sameTexts_any (n1.later hW) (n2.later hW))
  have W0 : Hid (Below w.heap.size w ((w.alloc (.cells #[nv, ev, .int .u64 (g.ph.toNat : Int), .int .u64 (g.md.toNat : Int)] 26)).alloc (.cells #[nu, eu, .int .u64 (g.ph.toNat : Int), .int .u64 (g.md.toNat : Int)] 26))) := (below_al w _).alloc (below_al w _).size _
  have k1 : GBlk w.heap.size nv ev g ((w.alloc (.cells #[nv, ev, .int .u64 (g.ph.toNat : Int), .int .u64 (g.md.toNat : Int)] 26)).alloc (.cells #[nu, eu, .int .u64 (g.ph.toNat : Int), .int .u64 (g.md.toNat : Int)] 26)) := (blk_new w _ 26).alloc _
  have k2 : GBlk (w.heap.size + 1) nu eu g ((w.alloc (.cells #[nv, ev, .int .u64 (g.ph.toNat : Int), .int .u64 (g.md.toNat : Int)] 26)).alloc (.cells #[nu, eu, .int .u64 (g.ph.toNat : Int), .int .u64 (g.md.toNat : Int)] 26)) := by
    have := blk_new (w.alloc (.cells #[nv, ev, .int .u64 (g.ph.toNat : Int), .int .u64 (g.md.toNat : Int)] 26)) #[nu, eu, .int .u64 (g.ph.toNat : Int), .int .u64 (g.md.toNat : Int)] 26
    rwa [show (w.alloc (.cells #[nv, ev, .int .u64 (g.ph.toNat : Int), .int .u64 (g.md.toNat : Int)] 26)).heap.size = w.heap.size + 1 by simp] at this
  obtain ⟨a0, a1, a2, a3⟩ := k1.get
  obtain ⟨b0, b1, b2, b3⟩ := k2.get
  obtain ⟨x1, y1, rfl⟩ := n1.shape2
  obtain ⟨x2, y2, rfl, hc⟩ := ein_at e1
  obtain ⟨x3, y3, rfl⟩ := n2.shape2
  obtain ⟨x4, y4, rfl, hc'⟩ := ein_at e2
  have HC := Lib.hid (fun W (hW : Below w.heap.size w W) => hc W hW)
  have HC' := Lib.hid (fun W (hW : Below w.heap.size w W) => hc' W hW)
  have Q1 : ((g.ph.toNat : Int) != (g.ph.toNat : Int)) = false := by simp
  have Q2 : ((g.md.toNat : Int) != (g.md.toNat : Int)) = false := by simp
  clear n1 n2 e1 e2 k1 k2 hc hc'
  generalize (g.ph.toNat : Int) = P at *
  generalize (g.md.toNat : Int) = Q at *
  generalize g.ns.length = L at *
  generalize g.es.length = M at *
  go_enter Tryd.func13, Tryd.ntmps13
  go_wp2_with fail
  refine (SN.out _ W0.out).mono ?_
  rintro e w' ⟨rfl, q, rfl⟩
  have hne : ((M : Int) != (M : Int)) = false := by simp
  go_wp2_with fail
  obtain ⟨W, hW⟩ : ∃ W, W = (w.alloc (.cells #[.slice x1 L y1, .slice x2 M y2, .int .u64 P, .int .u64 Q] 26)).alloc (.cells #[.slice x3 L y3, .slice x4 M y4, .int .u64 P, .int .u64 Q] 26) := ⟨_, rfl⟩
  rw [← hW] at W0 a1 b1 ⊢
  have HC1 := Lib.hid (HC.out W W0.out); have HC2 := Lib.hid (HC'.out W W0.out)
  clear hW HC HC' SN a0 a2 a3 b0 b2 b3
  go_loopw [38] (fun i wr => ∃ k : Nat, k ≤ M ∧ i = .int .i64 k ∧ ∃ m, wr = W.drewN m) (fun i _ => M - (intOf i).toNat)
  case atStart => exact ⟨0, Nat.zero_le _, rfl, q, rfl⟩
  case round =>
    obtain ⟨k, hk, rfl, m, rfl⟩ := hrel
    by_cases hkl : k < M
    · obtain ⟨b, off, rfl, c1, c2⟩ := HC1.out k hkl
      obtain ⟨b', off', rfl, c3, c4⟩ := HC2.out k hkl
      generalize (edAt g.es k).1 = p at *
      generalize (edAt g.es k).2 = r at *
      have e1 : (p == p) = true := by simp
      have e2 : (r == r) = true := by simp
      go_wp2_with fail
      go_quiet (fail)
      go_wp2
      go_roundw
      case rel => exact ⟨k + 1, by omega, by go_num, _, rfl⟩
      case measure => simp [intOf]; omega
    · obtain rfl : k = M := by omega
      go_wp2
      go_ret
      exact ⟨rfl, below_drewN W0.out _⟩

/-! Turned -/
/-- the rows turned as far as row i, and in row i as far as k -/
def Tn (r : List Bv) (i k : Nat) (O : List Bv) : Prop := O.length = r.length ∧ ∀ a b, a < r.length → b < 64 → ((wAt O a).getLsbD b = true ↔ (a < i ∨ a = i ∧ b < k) ∧ b < r.length ∧ (wAt r b).getLsbD a = true)
theorem tn_zero (r : List Bv) : Tn r 0 0 (List.replicate r.length 0#64) := ⟨List.length_replicate, fun a b _ _ => by
  rw [wAt_replicate]; simp⟩
theorem tn_row {r O : List Bv} {i : Nat} (h : Tn r i r.length O) : Tn r (i + 1) 0 O := ⟨h.1, fun a b ha hb => by
  rw [h.2 a b ha hb]
  constructor
  · rintro ⟨h1, h2⟩; exact ⟨by omega, h2⟩
  · rintro ⟨h1, h2, h3⟩; exact ⟨by omega, h2, h3⟩⟩
theorem tn_no {r O : List Bv} {i k : Nat} (h : Tn r i k O) (hb : (wAt r k).getLsbD i = false) : Tn r i (k + 1) O := ⟨h.1, fun a b ha hb' => by
  rw [h.2 a b ha hb']
  constructor
  · rintro ⟨h1, h2⟩; exact ⟨by omega, h2⟩
  · rintro ⟨h1, h2, h3⟩
    refine ⟨?_, h2, h3⟩
    rcases h1 with h1 | ⟨h1, h4⟩
    · exact .inl h1
    · right
      refine ⟨h1, ?_⟩
      by_cases e : b = k
      · subst e h1; rw [hb] at h3; cases h3
      · omega⟩
theorem tn_yes {r O : List Bv} {i k : Nat} (h : Tn r i k O) (hi : i < r.length) (hk : k < r.length) (hb : (wAt r k).getLsbD i = true) : Tn r i (k + 1) (orAt O i (one k)) := ⟨by rw [orAt_length, h.1], fun a b ha hb' => by
  rw [wAt_orAt _ _ _ _ (by rw [h.1]; exact hi)]
  by_cases e : a = i
  · subst e
    rw [if_pos rfl, BitVec.getLsbD_or, one_bit k b hb', Bool.or_eq_true, decide_eq_true_iff, h.2 a b ha hb']
    constructor
    · rintro (⟨h1, h2⟩ | rfl)
      · exact ⟨by omega, h2⟩
      · exact ⟨by omega, hk, hb⟩
    · rintro ⟨h1, h2, h3⟩
      by_cases e : b = k
      · exact .inr e
      · exact .inl ⟨by omega, h2, h3⟩
  · rw [if_neg e, h.2 a b ha hb']
    constructor
    · rintro ⟨h1, h2⟩; exact ⟨by omega, h2⟩
    · rintro ⟨h1, h2⟩; exact ⟨by omega, h2⟩⟩
theorem rows_ext {a b : List Bv} (h1 : a.length = b.length) (h2 : ∀ i, i < a.length → wAt a i = wAt b i) : a = b := by
  apply List.ext_getElem h1
  intro i hi hj
  have := h2 i hi
  unfold wAt at this
  rwa [List.getD, List.getD, List.getElem?_eq_getElem hi, List.getElem?_eq_getElem hj] at this
theorem tn_all {n : Nat} {es : List Ed} {O : List Bv} (hn : n ≤ 64) (he : EdIn n es) (h : Tn (rowsTo n es) n 0 O) : O = rowsTo n (es.map sw) := by
  have hl := rowsTo_length n es
  refine rows_ext (by rw [h.1, hl, rowsTo_length]) fun i hi => bv_ext fun k hk => ?_
  rw [h.1, hl] at hi
  rw [Bool.eq_iff_iff, h.2 i k (by rw [hl]; exact hi) hk, rowsTo_bit he.sw i k hk, hl]
  constructor
  · rintro ⟨_, h2, h3⟩
    rw [rowsTo_bit he k i (by omega)] at h3
    exact List.mem_map.2 ⟨_, h3, rfl⟩
  · intro hm
    obtain ⟨x, hx, e⟩ := List.mem_map.1 hm
    obtain ⟨b1, b2, b3, b4⟩ := he x hx
    have e1 : x.2 = (i : Int) := congrArg Prod.fst e
    have e2 : x.1 = (k : Int) := congrArg Prod.snd e
    refine ⟨.inl hi, by omega, ?_⟩
    rw [rowsTo_bit he k i (by omega)]
    have : ((k : Int), (i : Int)) = x := Prod.ext (by rw [e2]) (by rw [e1])
    rw [this]; exact hx
theorem below_grown' {B k : Nat} {w0 w w' : World} (h : Below B w0 w) (hg : w.grownBy w' (some k)) (hB : B ≤ w.heap.size) (hk : B ≤ k) : Below B w0 w' := h.grown hg hB (fun q hq => by cases hq; exact hk)
set_option maxHeartbeats 8000000 in
theorem turned_any {w : World} {v : Value} {r : List Bv} (h : WIn w v r) (hl : r.length ≤ 64) :
    Calls Tryd.prog 17 #[v] w fun e w' => ∃ b O, e = .returned (.slice (some ⟨b, 0, none⟩) r.length r.length) ∧ Tn r r.length 0 O ∧ WO w.heap.size (.slice (some ⟨b, 0, none⟩) r.length r.length) O w' ∧ Below w.heap.size w w' := by
  obtain ⟨i0, hi, hz0, hz1, hz2⟩ := info_parts infoW
  obtain ⟨a, cap, rfl, hc⟩ := h
  have HC : Hid (∀ W, Below w.heap.size w W → ∀ k, k < r.length → ∃ b off, a = some ⟨b, off, none⟩ ∧ W.cell? ⟨b, off + k, none⟩ = some (.int .u64 ((wAt r k).toNat : Int))) := fun W hW k hk => by
    obtain ⟨b, off, e, c⟩ := hc k hk
    exact ⟨b, off, e, cell_later hW c⟩
  have T0 := Lib.hid (tn_zero r)
  have TR := Lib.hid (fun (O : List Bv) i (h : Tn r i r.length O) => tn_row h)
  have TNo := Lib.hid (fun (O : List Bv) i k (h : Tn r i k O) hb => tn_no h hb)
  have TY := Lib.hid (fun (O : List Bv) i k (h : Tn r i k O) hi hk hb => tn_yes h hi hk hb)
  have TL : Hid (∀ O i k, Tn r i k O → O.length = r.length) := fun O i k h => h.1
  obtain ⟨w2, rmk, o2, g2⟩ := run_make_full (P := Tryd.prog) w w.heap.size 27 24 i0 (.int .u64 0) 1 Tryd.underlying27 hi hz0 hz1 .i64 .i64 r.length (by rw [hz2]; omega) (by unfold maxLen; omega) (Nat.le_refl _)
  rw [zeros_w] at o2
  have B2 : Hid (Below w.heap.size w w2) := (Below.refl _ _).grown g2 (Nat.le_refl _) (fun q hq => by cases hq)
  have O2 : Hid (WO w.heap.size (.slice (some ⟨w.heap.size, 0, none⟩) r.length r.length) (List.replicate r.length 0#64) w2) := by
    show World.ownsRow _ _ _ _ _ _ _
    rw [List.length_replicate]; exact o2
  clear hc o2 g2 hi hz0 hz1 hz2
  generalize hL : r.length = L at *
  generalize hb : w.heap.size = b at *
  have HB := Lib.hid hb; have EL := Lib.hid hL; clear hb hL
  go_enter Tryd.func17, Tryd.ntmps17
  go_wp2_with fail
  go_loopw [11] (fun i wr => ∃ (p : Nat) (O : List Bv), p ≤ L ∧ i = .int .i64 (p : Int) ∧ Tn r p 0 O ∧ WO b (.slice (some ⟨b, 0, none⟩) L L) O wr ∧ Below b w wr) (fun i _ => L - (intOf i).toNat)
  case atStart => exact ⟨0, _, Nat.zero_le _, rfl, T0.out, O2.out, B2.out⟩
  case round =>
    obtain ⟨p, O, hp, rfl, qt, qo, qb⟩ := hrel
    have QT := Lib.hid qt; have QO := Lib.hid qo; have QB := Lib.hid qb; clear qt qo qb
    by_cases hpl : p < L
    · go_wp2_with fail
      go_loopw [16] (fun i wr => ∃ (k : Nat) (O : List Bv), k ≤ L ∧ i = .int .i64 (k : Int) ∧ Tn r p k O ∧ WO b (.slice (some ⟨b, 0, none⟩) L L) O wr ∧ Below b w wr) (fun i _ => L - (intOf i).toNat)
      case atStart => exact ⟨0, O, Nat.zero_le _, rfl, QT.out, QO.out, QB.out⟩
      case round =>
        obtain ⟨k, U, hk, rfl, pt, po, pb⟩ := hrel
        have PT := Lib.hid pt; have PO := Lib.hid po; have PB := Lib.hid pb; clear pt po pb
        rename World => W4
        by_cases hkl : k < L
        · obtain ⟨ab, off, rfl, c0⟩ := HC.out W4 PB.out k hkl
          have ul := TL.out _ _ _ PT.out
          have i1 : (0 : Int) ≤ (p : Int) := by omega
          have i2 : (p : Int) < (L : Int) := by omega
          have hk64 : (k : Int) < 64 := by omega
          cases hbit : (wAt r k).getLsbD p
          · have NX := Lib.hid (TNo.out _ _ _ PT.out hbit)
            have IQ := Lib.hid (in_q (wAt r k) p W4 (by omega) false hbit)
            clear hbit
            generalize (wAt r k).toNat = x at *
            go_wp2_with fail
            refine IQ.out.mono ?_
            rintro e w' ⟨rfl, rfl⟩
            go_wp2
            go_roundw
            case rel => exact ⟨k + 1, U, by omega, by go_num, NX.out, PO.out, PB.out⟩
            case measure => simp [intOf]; omega
          · have NX := Lib.hid (TY.out _ _ _ PT.out hpl hkl hbit)
            have IQ := Lib.hid (in_q (wAt r k) p W4 (by omega) true hbit)
            have OA : WO b (.slice (some ⟨b, 0, none⟩) U.length L) U W4 := by rw [ul]; exact PO.out
            have cr := OA.cell (i := p) (by omega)
            have fr := OA.frozen p
            obtain ⟨O3, G3⟩ := OA.store p (one k)
            have e1 : bits .or .u64 ((wAt U p).toNat : Int) (IntKind.u64.wrap (2 ^ k)) = ((wAt U p ||| one k).toNat : Int) := by rw [one_walk k (by omega), bv_or]
            have O3' := Lib.hid O3
            have hsz : b ≤ W4.heap.size := by have := PB.out.size; rw [HB.out] at this; exact this
            have B3 := Lib.hid (below_grown' PB.out G3 hsz (Nat.le_refl _))
            rw [ul] at O3'
            clear O3 G3 OA hbit
            generalize (wAt r k).toNat = x at *
            generalize ((wAt U p).toNat : Int) = y at *
            generalize ((wAt U p ||| one k).toNat : Int) = z at *
            go_wp2_with fail
            refine IQ.out.mono ?_
            rintro e w' ⟨rfl, rfl⟩
            go_wp2_with fail
            go_region
            go_wp2
            go_roundw
            case rel => exact ⟨k + 1, _, by omega, by go_num, NX.out, O3'.out, B3.out.drew⟩
            case measure => simp [intOf]; omega
        · obtain rfl : k = L := by omega
          have NX := Lib.hid (TR.out _ _ PT.out)
          go_wp2
          go_roundw
          case rel => exact ⟨p + 1, U, by omega, by go_num, NX.out, PO.out, PB.out⟩
          case measure => simp [intOf]; omega
    · obtain rfl : p = L := by omega
      go_wp2
      go_ret
      exact ⟨b, O, rfl, QT.out, QO.out, QB.out⟩
end Go.Proofs.YtpjcdfphllbonaaDoor
