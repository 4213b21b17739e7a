/-
  The document's answer (package millwrightref) for graphs: In, Numbers, RowsOf, Turned, SameTexts, SameGraph, RowsFault. No condition.
-/
import Derived.Test.YtpjcdfphllbonaaDoorGEo
import Derived.Test.YtpjcdfphllbonaaDoorNGood
import Derived.Deep.QuietTactic
namespace Go.Proofs.YtpjcdfphllbonaaDoor
set_option maxRecDepth 100000
set_option linter.unusedVariables false
open Go.ChangeShapes Go.WideShapes Go.ChangeAt Go.RowKit

/-! In -/
theorem in_walk (s : Bv) (n : Nat) : (((s.toNat : Int) / 2 ^ n).tmod 2 == 1) = s.getLsbD n := by
  have e : ((s.toNat : Int) / 2 ^ n) = ((s.toNat / 2 ^ n : Nat) : Int) := by simp
  have hb : s.getLsbD n = decide (s.toNat / 2 ^ n % 2 = 1) := by
    show s.toNat.testBit n = _
    rw [Nat.testBit_eq_decide_div_mod_eq]
  rw [e, hb, Int.tmod_eq_emod_of_nonneg (Int.natCast_nonneg _)]
  generalize s.toNat / 2 ^ n = x
  by_cases h : x % 2 = 1
  · rw [decide_eq_true h, beq_iff_eq]; omega
  · rw [decide_eq_false h]
    cases hc : ((x : Int) % 2 == 1)
    · rfl
    · rw [beq_iff_eq] at hc; omega
theorem in_nat (s : Bv) (n : Nat) (w : World) (hn : n < 64) (b : Bool) (hb : s.getLsbD n = b) :
    Calls Tryd.prog 39 #[.int .u64 s.toNat, .int .i64 n] w fun e w' => e = .returned (.bool b) ∧ w = w' := by
  have h1 : ((n : Int) < 64) := by omega
  have HB := Lib.hid hb; clear hb
  go_enter Tryd.func39, Tryd.ntmps39
  go_wp2
  go_ret
  refine ⟨?_, rfl⟩
  show Ending.returned (.bool (((s.toNat : Int) / 2 ^ n).tmod 2 == 1)) = _
  rw [in_walk, HB.out]

/-! UpTo -/
theorem bv_add (x y : Bv) : IntKind.u64.wrap ((x.toNat : Int) + (y.toNat : Int)) = ((x + y).toNat : Int) := by
  rw [IntKind.wrap_u64, BitVec.toNat_add]; simp
theorem add_one_or (x : Bv) (n : Nat) (h : x.getLsbD n = false) : x + one n = x ||| one n := by
  apply BitVec.add_eq_or_of_and_eq_zero
  apply bv_ext
  intro i hi
  rw [BitVec.getLsbD_and, one_bit n i hi]
  by_cases e : i = n
  · subst e; simp [h]
  · simp [e]
theorem plus_walk (x : Bv) (n : Nat) (hn : n < 64) (h : x.getLsbD n = false) : IntKind.u64.wrap ((x.toNat : Int) + IntKind.u64.wrap (2 ^ n)) = ((x ||| one n).toNat : Int) := by
  rw [one_walk n hn, bv_add, add_one_or x n h]
/-! Numbers -/
def NumsPost (s : Bv) (w : World) (e : Ending) (w' : World) : Prop :=
  ∃ v, e = .returned v ∧ w'.ownsRow w.heap.size 3 1 v (cnt s) (ints (nums s)) ∧ Below w.heap.size w w'
theorem numsTo_succ (s : Bv) (k : Nat) : numsTo s (k + 1) = if s.getLsbD k then numsTo s k ++ [k] else numsTo s k := rfl

set_option maxHeartbeats 1000000 in
theorem numbers_any (s : Bv) (w : World) : Calls Tryd.prog 43 #[.int .u64 s.toNat] w (NumsPost s w) := by
  obtain ⟨i0, hi, hz0, hz1, hz2⟩ := info_parts infoInt
  have HI := Lib.hid hi; clear hi
  have HZ0 := Lib.hid hz0; clear hz0
  have HZ1 := Lib.hid hz1; clear hz1
  have HZ2 := Lib.hid hz2; clear hz2
  go_enter Tryd.func43, Tryd.ntmps43
  go_wp2_with fail
  go_loopw [3, 5] (fun v i wr => ∃ k : Nat, k ≤ 64 ∧ i = .int .i64 k ∧ wr.ownsRow w.heap.size 3 1 v (cntTo s.getLsbD k) (ints (numsTo s k)) ∧ Below w.heap.size w wr) (fun _ i _ => 64 - (intOf i).toNat)
  case atStart => exact ⟨0, by omega, rfl, World.ownsRow_nil _ _ _ _, Below.refl _ _⟩
  case round =>
    obtain ⟨k, hk, rfl, hown, hb⟩ := hrel
    have HO := Lib.hid hown; clear hown
    have HB := Lib.hid hb; clear hb
    by_cases hlt : k < 64
    · cases hs : s.getLsbD k
      · have HS := Lib.hid hs; clear hs
        go_wp2_with fail
        refine (in_nat s k _ hlt false HS.out).mono ?_
        rintro e w' ⟨rfl, rfl⟩
        go_wp2
        go_roundw
        case rel =>
          refine ⟨k + 1, by omega, by go_num, ?_, HB.out⟩
          rw [cntTo_succ, numsTo_succ, HS.out]
          exact HO.out
        case measure => simp [intOf]; omega
      · have HS := Lib.hid hs; clear hs
        have hcl := cntTo_le s.getLsbD k
        go_wp2_with fail
        refine (in_nat s k _ hlt true HS.out).mono ?_
        rintro e w' ⟨rfl, rfl⟩
        go_wp2_with (at_builtin; refine wpList_append_own _ rfl _ _ 54 rfl w.heap.size 3 i0 (.int .i64 0) 1 8 Tryd.underlying54 HI.out HZ0.out HZ1.out HZ2.out rfl (by decide) _ _ _ rfl (HO.out.alloc _) ⟨wr.heap.size, 0, none⟩ 1 1 [.int .i64 (k : Int)] rfl rfl ?c1 ?c2 ?c3 ?c4 ?c5 ?_)
        case c1 =>
          intro i u hu
          match i, hu with
          | 0, hu => simp at hu; subst hu; simp [Addr.add]
        case c2 => intro u hu; simp at hu; subst hu; rfl
        case c3 => unfold maxLen; omega
        case c4 => omega
        case c5 => have := HB.out.size; simp; omega
        intro v' w1 hown1 hgrow1 _
        have hb1 : Below w.heap.size w w1 := (HB.out.alloc HB.out.size _).grown hgrow1 (by have := HB.out.size; simp; omega) (fun g hg => (HO.out.lt g hg).1)
        have HB1 := Lib.hid hb1; clear hb1 hgrow1
        have HO1 := Lib.hid hown1; clear hown1
        go_wp2
        go_roundw
        case rel =>
          refine ⟨k + 1, by omega, by go_num, ?_, HB1.out⟩
          rw [cntTo_succ, numsTo_succ, HS.out, if_pos rfl, if_pos rfl, ints_append]
          exact HO1.out
        case measure => simp [intOf]; omega
    · obtain rfl : k = 64 := by omega
      go_wp2
      go_ret
      exact ⟨_, rfl, HO.out, HB.out⟩
theorem in_q (s : Bv) (n : Nat) (w : World) (hn : n < 64) (b : Bool) (hb : s.getLsbD n = b) :
    Calls Tryd.prog 39 #[.int .u64 s.toNat, .int .i64 n] w fun e w' => e = .returned (.bool b) ∧ w' = w := (in_nat s n w hn b hb).mono fun _ _ h => ⟨h.1, h.2.symm⟩
theorem or_has {x : Bv} {n : Nat} (h : x.getLsbD n = true) : x ||| one n = x := by
  refine bv_ext fun i hi => ?_
  rw [BitVec.getLsbD_or, one_bit n i hi]
  by_cases e : i = n
  · subst e; simp [h]
  · simp [e]
theorem orAt_has {r : List Bv} {f t : Nat} (hf : f < r.length) (h : (wAt r f).getLsbD t = true) : orAt r f (one t) = r := by
  unfold orAt
  rw [or_has h]
  unfold wAt
  apply List.ext_getElem?
  intro i
  rw [List.getElem?_set]
  by_cases e : f = i
  · subst e; rw [if_pos rfl, if_pos hf, List.getD, List.getElem?_eq_getElem hf]; rfl
  · rw [if_neg e]

/-! RowsOf -/
set_option maxHeartbeats 4000000 in
theorem rowsR_any {w : World} {v : Value} {g : Gr} (h : GIn w v g) (hl : g.ns.length ≤ 64) (he : EdIn g.ns.length g.es) :
    Calls Tryd.prog 14 #[v] w fun e w' => ∃ b, e = .returned (.slice (some ⟨b, 0, none⟩) g.ns.length g.ns.length) ∧ w.heap.size ≤ b ∧ WO w.heap.size (.slice (some ⟨b, 0, none⟩) g.ns.length g.ns.length) (rowsTo g.ns.length g.es) w' ∧ Below w.heap.size w w' := by
  obtain ⟨nv, ev, rfl, h1, h2⟩ := h
  have hb2 := h2.bound
  obtain ⟨i0, hi, hz0, hz1, hz2⟩ := info_parts infoW
  have WA := Lib.hid (below_al w (.cells #[nv, ev, .int .u64 (g.ph.toNat : Int), .int .u64 (g.md.toNat : Int)] 26))
  have K0 : Hid (GBlk w.heap.size nv ev g (w.alloc (.cells #[nv, ev, .int .u64 (g.ph.toNat : Int), .int .u64 (g.md.toNat : Int)] 26))) := blk_new _ _ _
  obtain ⟨a1, c1, rfl⟩ := h1.shape2
  obtain ⟨a2, c2, rfl, hc⟩ := ein_at h2
  have HC := Lib.hid hc; clear hc h1 h2
  obtain ⟨d0, d1, d2, d3⟩ := K0.out.get
  have RB := Lib.hid (fun k hk => rows_bound he (k := k) hk)
  have RS : Hid (∀ k, k < g.es.length → rowsTo g.ns.length (g.es.take (k + 1)) = orAt (rowsTo g.ns.length (g.es.take k)) (edAt g.es k).1.toNat (one (edAt g.es k).2.toNat)) := fun k hk => by rw [ed_take hk, rowsTo_snoc]
  have RT : Hid (rowsTo g.ns.length (g.es.take g.es.length) = rowsTo g.ns.length g.es) := Lib.hid (by rw [List.take_length])
  have RL : Hid (∀ k, (rowsTo g.ns.length (g.es.take k)).length = g.ns.length) := fun k => rowsTo_length _ _
  have R0 : Hid (rowsTo g.ns.length (g.es.take 0) = List.replicate g.ns.length 0#64) := Lib.hid rfl
  clear he
  generalize g.ns.length = L at *
  generalize hM : g.es.length = M at *
  obtain ⟨w2, rmk, o2, g2⟩ := run_make_full (P := Tryd.prog) (w.alloc (.cells #[.slice a1 L c1, .slice a2 M c2, .int .u64 (g.ph.toNat : Int), .int .u64 (g.md.toNat : Int)] 26)) w.heap.size 27 24 i0 (.int .u64 0) 1 Tryd.underlying27 hi hz0 hz1 .i64 .i64 L (by rw [hz2]; omega) (by unfold maxLen; omega) WA.out.size
  rw [zeros_w] at o2
  have W2 := Lib.hid (WA.out.grown g2 WA.out.size (fun q hq => by cases hq))
  have BS : Hid (w.heap.size ≤ (w.alloc (.cells #[.slice a1 L c1, .slice a2 M c2, .int .u64 (g.ph.toNat : Int), .int .u64 (g.md.toNat : Int)] 26)).heap.size) := WA.out.size
  have K2 := Lib.hid (blk_grown K0.out g2 (fun q hq => by cases hq))
  generalize (w.alloc (.cells #[.slice a1 L c1, .slice a2 M c2, .int .u64 (g.ph.toNat : Int), .int .u64 (g.md.toNat : Int)] 26)).heap.size = b at *
  have O2 : Hid (WO w.heap.size (.slice (some ⟨b, 0, none⟩) L L) (rowsTo L (g.es.take 0)) w2) := by
    show World.ownsRow _ _ _ _ _ _ _
    rw [R0.out, List.length_replicate]; exact o2
  have d1' := (show GBlk w.heap.size _ _ g w2 from K2.out).get.2.1
  clear o2 g2 hi hz0 hz1 hz2 WA K0 K2 R0
  go_enter Tryd.func14, Tryd.ntmps14
  go_wp2_with fail
  go_loopw [13] (fun i wr => ∃ k : Nat, k ≤ M ∧ i = .int .i64 (k : Int) ∧ WO w.heap.size (.slice (some ⟨b, 0, none⟩) L L) (rowsTo L (g.es.take k)) wr ∧ Below w.heap.size w wr) (fun i _ => M - (intOf i).toNat)
  case atStart => exact ⟨0, Nat.zero_le _, rfl, O2.out, W2.out⟩
  case round =>
    obtain ⟨k, hk, rfl, qo, qb⟩ := hrel
    have QO := Lib.hid qo; have QB := Lib.hid qb; clear qo qb
    by_cases hkl : k < M
    · obtain ⟨eb, off, rfl, c0, c1'⟩ := HC.out wr QB.out k hkl
      have RSk := Lib.hid (RS.out k hkl)
      have RLk := RL.out k
      obtain ⟨f, t, he, hf, ht⟩ := RB.out k hkl
      rw [he] at c0 c1' RSk
      simp only [Int.toNat_natCast] at RSk c0 c1'
      generalize rowsTo L (g.es.take k) = r at *
      have WA : Hid (Below w.heap.size w (wr.alloc (.cells #[.int .i64 (f : Int), .int .i64 (t : Int)] 49))) := QB.out.alloc QB.out.size _
      have OA : WO w.heap.size (.slice (some ⟨b, 0, none⟩) r.length L) r (wr.alloc (.cells #[.int .i64 (f : Int), .int .i64 (t : Int)] 49)) := by rw [RLk]; exact World.ownsRow.alloc QO.out _
      have cr := OA.cell (i := f) (by omega)
      have fr := OA.frozen f
      have hf' : (f : Int) < (L : Int) := by omega
      have ht' : (t : Int) < 64 := by omega
      have i1 : (0 : Int) ≤ (f : Int) := by omega
      cases hbit : (wAt r f).getLsbD t
      · obtain ⟨O3, G3⟩ := OA.store f (one t)
        have e1 : IntKind.u64.wrap (((wAt r f).toNat : Int) + IntKind.u64.wrap (2 ^ t)) = ((wAt r f ||| one t).toNat : Int) := plus_walk _ t (by omega) hbit
        have O3' := Lib.hid O3
        have B3 := Lib.hid (grown_below WA.out G3 WA.out.size BS.out)
        rw [RLk] at O3'
        have IQ := Lib.hid (fun W => in_q (wAt r f) t W (by omega) false hbit)
        clear O3 G3 OA he hbit
        generalize ((wAt r f).toNat : Int) = x at *
        generalize ((wAt r f ||| one t).toNat : Int) = y at *
        go_wp2_with fail
        go_quiet (first | (go_at_call 39; exact Calls.quiet_of_same (IQ.out _)))
        go_wp2_with fail
        trace_state
        go_region
        go_wp2
        go_roundw
        case rel => exact ⟨k + 1, by omega, by go_num, by rw [RSk.out]; exact O3'.out, (below_drewN B3.out _).drew⟩
        case measure => simp [intOf]; omega
      · have RK : Hid (rowsTo L (g.es.take (k + 1)) = r) := Lib.hid (by rw [RSk.out]; exact orAt_has (by omega) hbit)
        have IQ := Lib.hid (fun W => in_q (wAt r f) t W (by omega) true hbit)
        have OA' := Lib.hid OA
        rw [RLk] at OA'
        clear OA he hbit RSk
        generalize ((wAt r f).toNat : Int) = x at *
        go_wp2_with fail
        go_quiet (first | (go_at_call 39; exact Calls.quiet_of_same (IQ.out _)))
        go_wp2
        go_roundw
        case rel => exact ⟨k + 1, by omega, by go_num, by rw [RK.out]; exact OA'.out, below_drewN WA.out _⟩
        case measure => simp [intOf]; omega
    · obtain rfl : k = M := by omega
      have QR := QO.out
      rw [RT.out] at QR
      have Q2 := Lib.hid QR
      clear QR
      go_wp2
      go_ret
      exact ⟨b, rfl, BS.out, Q2.out, QB.out⟩
end Go.Proofs.YtpjcdfphllbonaaDoor
