/-
  Package knot: the sort and the compaction of the sets, partsOf, Parts, Fold. Condition: the table of math/bits lies in memory as its text lays it (the card ties this).
-/
import Derived.Test.YtbippnldofalbaaDoorHKb
import Derived.Test.YtbippnldofalbaaDoorLaysA
import Derived.Lib.OwnBridge
import Derived.Lib.AppendIntMem
namespace Go.Proofs.YtbippnldofalbaaDoor
set_option maxRecDepth 100000
set_option linter.unusedVariables false
open Go.ChangeShapes Go.WideShapes Go.ChangeAt Go.RowKit

theorem ltH (x y : Bv) : ltOf cfH x y = decide (headW x < headW y) := by
  unfold ltOf cfH
  by_cases h : headW x < headW y
  · rw [if_pos h, decide_eq_true h]; rfl
  · rw [if_neg h, decide_eq_false h]
    by_cases k : headW y < headW x
    · rw [if_pos k]; rfl
    · rw [if_neg k]; rfl
theorem swoH : Go.Sort.SWO (ltOf cfH) where
  irrefl x := by rw [ltH]; exact decide_eq_false (by omega)
  trans x y z h1 h2 := by
    rw [ltH] at *
    have := of_decide_eq_true h1
    have := of_decide_eq_true h2
    exact decide_eq_true (by omega)
  ntrans x y z h1 h2 := by
    rw [ltH] at *
    have := of_decide_eq_false h1
    have := of_decide_eq_false h2
    exact decide_eq_false (by omega)
theorem eqlW (P : Program) (T : TypeId) : EqlAt P T encW (fun x y => decide (x = y)) := by
  refine ⟨fun x y w => ?_, fun op a b x y w => GuardAt.int P T .u64 op a b _ _ w⟩
  show (binOp .eql T (Value.int .u64 (x.toNat : Int)) (Value.int .u64 (y.toNat : Int))).run P w = _
  rw [(EqlAt.int P T .u64).1]
  congr 2
  rw [Bool.eq_iff_iff, beq_iff_eq, decide_eq_true_iff]
  exact ⟨fun h => BitVec.eq_of_toNat_eq (by omega), fun h => by rw [h]⟩
theorem neqW (P : Program) (T : TypeId) : NeqAt P T encW (fun x y => decide (x = y)) := by
  refine ⟨fun x y w => ?_, fun op a b x y w => GuardAt.int P T .u64 op a b _ _ w⟩
  show (binOp .neq T (Value.int .u64 (x.toNat : Int)) (Value.int .u64 (y.toNat : Int))).run P w = _
  rw [(NeqAt.intD P T .u64).1]
  congr 3
  rw [Bool.eq_iff_iff, decide_eq_true_iff, decide_eq_true_iff]
  exact ⟨fun h => BitVec.eq_of_toNat_eq (by omega), fun h => by rw [h]⟩
theorem wo_lt {B b L c : Nat} {z : List Bv} {w : World} (o : WO B (.slice (some ⟨b, 0, none⟩) L c) z w) : B ≤ b ∧ b < w.heap.size ∧ z.length = L := by
  rcases o.2 with ⟨h, _⟩ | ⟨g, cap, cur, h, hB, hg, _⟩
  · cases h
  · simp only [Value.slice.injEq, Option.some.injEq, Addr.mk.injEq, and_true] at h
    obtain ⟨rfl, rfl, _⟩ := h
    refine ⟨hB, ?_, rfl⟩
    rcases Nat.lt_or_ge b w.heap.size with h' | h'
    · exact h'
    · simp [Array.getElem?_eq_none h'] at hg
/-- the sets tied to each number, sorted -/
theorem sortT_own {r : List Bv} {B b L : Nat} {w w0 : World} (o : WO B (.slice (some ⟨b, 0, none⟩) L L) (tiesR r) w) (hr : RowsIn r) (ht : Tab w0) (hB : 0 < B) (hb : Below B w0 w) :
    Calls Tryd.prog 51 #[.slice (some ⟨b, 0, none⟩) L L, .func (.func 52) #[] #[]] w fun e w' =>
      e = .returned (.tuple #[]) ∧ ∃ d : Array Bv, d.size = L ∧ Lib.compactUpTo d d.size = partsR r ∧ WO B (.slice (some ⟨b, 0, none⟩) L L) d.toList w' ∧ Below B w0 w' := by
  obtain ⟨hBb, hbw, hl⟩ := wo_lt o
  have hl' : L = r.length := by rw [← hl, tiesR_length]
  have hn := hr.len
  have o1 : w.ownsRow B 32 1 (.slice (some ⟨b, 0, none⟩) L L) L ((tiesR r).map encW) := by
    have o0 := o; unfold WO at o0; rwa [hl] at o0
  obtain ⟨g, cap, e, _, _, _, _, _, hH⟩ := Lib.holds_of_ownsRow o1 (by simp)
  simp only [Value.slice.injEq, Option.some.injEq, Addr.mk.injEq, and_true, true_and] at e
  obtain ⟨rfl, rfl⟩ := e
  have hs : (tiesR r).toArray.size = L := by simpa using hl
  have eg : ∀ args w, (callFunc 52 args).run Tryd.prog w = .ok (.enter 52 args) w := enters_of Tryd.func52 (by kernel_rfl) rfl
  have BW : ∀ m (dk : Array Bv) os, Below B w0 (sortWorld encW w b 0 m dk os) := fun m dk os =>
    (Lib.below_putRow (enc := encW) (q := m) (d := dk) hb hBb).trans (Lib.below_grow B _ (by rw [size_putRow]; show B ≤ w.heap.size; omega) 0 os)
  have hcmp : CmpLays1 Tryd.prog 52 #[] encW cfH b 0 (tiesR r).toArray.size w :=
    CmpReads.lays fun m os dk _ x y => (cmpH_any x y _ (ht.below (BW m dk os) hB)).mono fun _ _ k => ⟨k.1, 0, by rw [k.2]; rfl⟩
  have hS := Any.slices_SortFunc sortL encW (fun _ => rfl) cfH swoH 52 #[] b 0 L (tiesR r).toArray w eg hcmp hH hbw (by omega)
  rw [hs] at hS
  refine Calls.mono (show Calls Tryd.prog 51 _ _ _ from hS) ?_
  rintro e w' ⟨he, d, n, os, hp, hsd, rfl⟩
  have hds : d.size = L := by rw [← hs]; exact hp.1
  rw [hl'] at hp hsd
  refine ⟨he, d, hds, sort_parts hr hp (fun i j a1 a2 a3 => (ltH _ _).symm.trans (hsd i j a1 a2 a3)), ?_, BW n d os⟩
  have h1 := Lib.ownsRow_putRow (q := n) (ys := d.toList) o1 (by simpa using hds) (Nat.le_refl L)
  rw [List.take_of_length_le (by simp; omega), Array.toArray_toList] at h1
  have h2 := Lib.ownsRow_grow h1 0 os
  unfold WO
  rw [Array.length_toList, hds]
  exact h2
theorem compactT_own {p : List Bv} {d : Array Bv} {B b L : Nat} {w w0 : World} (o : WO B (.slice (some ⟨b, 0, none⟩) L L) d.toList w) (hd : d.size = L) (hL : L ≤ 64) (hc : Lib.compactUpTo d d.size = p) (hb : Below B w0 w) :
    Calls Tryd.prog 55 #[.slice (some ⟨b, 0, none⟩) L L] w fun e w' =>
      e = .returned (.slice (some ⟨b, 0, none⟩) p.length L) ∧ WO B (.slice (some ⟨b, 0, none⟩) p.length L) p w' ∧ Below B w0 w' := by
  obtain ⟨hBb, hbw, _⟩ := wo_lt o
  have o1 : w.ownsRow B 32 1 (.slice (some ⟨b, 0, none⟩) L L) L (d.toList.map encW) := by
    have o0 := o; unfold WO at o0; rwa [Array.length_toList, hd] at o0
  obtain ⟨g, cap, e, _, _, _, _, _, hH⟩ := Lib.holds_of_ownsRow o1 (by simp)
  simp only [Value.slice.injEq, Option.some.injEq, Addr.mk.injEq, and_true, true_and] at e
  obtain ⟨rfl, rfl⟩ := e
  rw [Array.toArray_toList] at hH
  have hS := AnyE.slices_Compact compactL encW (fun _ => rfl) (eqlW _ _) (neqW _ _) 0#64 (fun w => Tryd.zeroValue32 w) b 0 L d w hH (by omega) (by omega)
  rw [hc, hd] at hS
  refine Calls.mono (show Calls Tryd.prog 55 _ _ _ from hS) ?_
  rintro e w' ⟨he, q, rfl⟩
  have hk : p.length ≤ L := by
    rw [← hc, ← hd]
    unfold Lib.compactUpTo
    rw [List.length_map]
    exact Nat.le_trans (List.length_filter_le _ _) (by rw [List.length_range]; exact Nat.le_refl _)
  have h1 := Lib.ownsRow_putRow (q := q) (ys := p ++ List.replicate (L - p.length) 0#64) o1 (by rw [List.length_append, List.length_replicate]; omega) hk
  rw [List.take_left] at h1
  exact ⟨he, h1, Lib.below_putRow (enc := encW) (q := q) hb hBb⟩

/-! partsOf -/
/-- filled cell by cell -/
def Fi (f : Nat → Bv) (L k : Nat) (O : List Bv) : Prop := O.length = L ∧ ∀ i, i < L → wAt O i = if i < k then f i else 0#64
theorem fi_zero (f : Nat → Bv) (L : Nat) : Fi f L 0 (List.replicate L 0#64) := ⟨List.length_replicate, fun i _ => by rw [wAt_replicate, if_neg (Nat.not_lt_zero i)]⟩
theorem fi_at {f : Nat → Bv} {L k : Nat} {O : List Bv} (h : Fi f L k O) (hk : k < L) : wAt O k ||| f k = f k := by
  rw [h.2 k hk, if_neg (Nat.lt_irrefl _)]; simp
theorem fi_next {f : Nat → Bv} {L k : Nat} {O : List Bv} (h : Fi f L k O) (hk : k < L) : Fi f L (k + 1) (orAt O k (f k)) := ⟨by rw [orAt_length, h.1], fun i hi => by
  rw [wAt_orAt _ _ _ _ (by rw [h.1]; exact hk)]
  by_cases e : i = k
  · subst e; rw [if_pos rfl, fi_at h hk, if_pos (Nat.lt_succ_self _)]
  · rw [if_neg e, h.2 i hi]
    by_cases h' : i < k
    · rw [if_pos h', if_pos (by omega)]
    · rw [if_neg h', if_neg (by omega)]⟩
theorem fi_all {f : Nat → Bv} {L : Nat} {O : List Bv} (h : Fi f L L O) : O = (List.range L).map f := by
  refine rows_same (by rw [h.1, List.length_map, List.length_range]) fun i hi k _ => ?_
  rw [h.1] at hi
  rw [h.2 i hi, if_pos hi]
  unfold wAt
  rw [List.getD, List.getElem?_map, List.getElem?_range hi]
  exact Iff.rfl
set_option maxHeartbeats 8000000 in
theorem partsOf_any {w : World} {v : Value} {r : List Bv} (h : WIn w v (closeR r)) (hr : RowsIn r) (ht : Tab w) :
    Calls Tryd.prog 33 #[v] w fun e w' => ∃ u, e = .returned u ∧ WO w.heap.size u (partsR r) w' ∧ Below w.heap.size w w' := by
  obtain ⟨i0, hi, hz0, hz1, hz2⟩ := info_parts infoW
  have hl := hr.len
  have TT := Lib.hid (fun W (hW : Below w.heap.size w W) n hn => tiedTo_any n (h.later hW) hr hn (ht.below hW ht.1))
  obtain ⟨a, cap, rfl, hc⟩ := h
  rw [closeR_length] at *
  have T0 := Lib.hid (fi_zero (tied r) r.length)
  have TN := Lib.hid (fun (O : List Bv) k (h : Fi (tied r) r.length k O) hk => fi_next h hk)
  have TQ := Lib.hid (fun (O : List Bv) k (h : Fi (tied r) r.length k O) hk => fi_at h hk)
  have TA : Hid (∀ O, Fi (tied r) r.length r.length O → O = tiesR r) := fun O h => fi_all h
  have TL : Hid (∀ O k, Fi (tied r) r.length k O → O.length = r.length) := fun O k h => h.1
  have SO := Lib.hid (fun W (o : WO w.heap.size (.slice (some ⟨w.heap.size, 0, none⟩) r.length r.length) (tiesR r) W) (hb : Below w.heap.size w W) => sortT_own o hr ht ht.1 hb)
  have CO := Lib.hid (fun W (d : Array Bv) (o : WO w.heap.size (.slice (some ⟨w.heap.size, 0, none⟩) r.length r.length) d.toList W) (hd : d.size = r.length) (hc : Lib.compactUpTo d d.size = partsR r) (hb : Below w.heap.size w W) => compactT_own o hd hl hc hb)
  obtain ⟨w2, rmk, o2, g2⟩ := run_make_full (P := Tryd.prog) w w.heap.size 22 32 i0 (.int .u64 0) 1 Tryd.underlying22 hi hz0 hz1 .i64 .i64 r.length (by rw [hz2]; omega) (by unfold maxLen; omega) (Nat.le_refl _)
  rw [zeros_w] at o2
  have B2 : Hid (Below w.heap.size w w2) := (Below.refl _ _).grown g2 (Nat.le_refl _) (fun q hq => by cases hq)
  have O2 : Hid (WO w.heap.size (.slice (some ⟨w.heap.size, 0, none⟩) r.length r.length) (List.replicate r.length 0#64) w2) := by
    show World.ownsRow _ _ _ _ _ _ _
    rw [List.length_replicate]; exact o2
  clear hc o2 g2 hi hz0 hz1 hz2 hr ht
  generalize partsR r = P at *
  generalize tiesR r = TS at *
  generalize hL : r.length = L at *
  clear hL
  generalize hb : w.heap.size = b at *
  have HB := Lib.hid hb; clear hb
  go_enter Tryd.func33, Tryd.ntmps33
  go_wp2_with fail
  go_loopw [10] (fun i wr => ∃ (p : Nat) (O : List Bv), p ≤ L ∧ i = .int .i64 (p : Int) ∧ Fi (tied r) L p O ∧ WO b (.slice (some ⟨b, 0, none⟩) L L) O wr ∧ Below b w wr) (fun i _ => L - (intOf i).toNat)
  case atStart => exact ⟨0, _, Nat.zero_le _, rfl, T0.out, O2.out, B2.out⟩
  case round =>
    obtain ⟨p, O, hp, rfl, qt, qo, qb⟩ := hrel
    have QT := Lib.hid qt; have QO := Lib.hid qo; have QB := Lib.hid qb; clear qt qo qb
    rename World => wr
    by_cases hpl : p < L
    · have ul := TL.out _ _ QT.out
      have NX := Lib.hid (TN.out O p QT.out hpl)
      have VQ := TQ.out O p QT.out hpl
      have RE1 := Lib.hid (TT.out wr QB.out p hpl)
      have i2 : (p : Int) < (L : Int) := by omega
      have hsz : b ≤ wr.heap.size := by have := QB.out.size; rw [HB.out] at this; exact this
      have STO : Hid (∀ W, Below wr.heap.size wr W → W.frozen? ⟨b, p, none⟩ = false ∧ (∃ u, W.cell? ⟨b, p, none⟩ = some u) ∧
          WO b (.slice (some ⟨b, 0, none⟩) L L) (orAt O p (tied r p)) (W.setCell ⟨b, p, none⟩ (.int .u64 ((tied r p).toNat : Int))) ∧ Below b w (W.setCell ⟨b, p, none⟩ (.int .u64 ((tied r p).toNat : Int)))) := fun W hW => by
        have OA : WO b (.slice (some ⟨b, 0, none⟩) O.length L) O W := by rw [ul]; exact own_later QO.out hW
        obtain ⟨O5, G5⟩ := OA.store p (tied r p)
        rw [VQ] at O5 G5
        rw [ul] at O5
        have BW := QB.out.trans (hW.mono hsz)
        have hW2 : b ≤ W.heap.size := Nat.le_trans hsz hW.size
        exact ⟨OA.frozen p, ⟨_, OA.cell (i := p) (by omega)⟩, O5, below_grown' BW G5 hW2 (Nat.le_refl _)⟩
      clear VQ ul hsz
      generalize hx : tied r p = x at *
      have HX := Lib.hid hx; clear hx
      go_wp2_with fail
      refine RE1.out.mono ?_
      rintro e w4 ⟨rfl, b4⟩
      obtain ⟨fr, ⟨u, cu⟩, o5, b5⟩ := STO.out w4 b4
      have O5 := Lib.hid o5; have B5 := Lib.hid b5
      clear o5 b5 b4 STO
      go_wp2
      go_roundw
      case rel => exact ⟨p + 1, _, by omega, by go_num, NX.out, O5.out, B5.out⟩
      case measure => simp [intOf]; omega
    · obtain rfl : p = L := by omega
      have E := TA.out O QT.out
      subst E
      have S1 := Lib.hid (SO.out wr QO.out QB.out)
      clear SO
      go_wp2_with fail
      refine S1.out.mono ?_
      rintro e w3 ⟨rfl, d, hd, hcp, o3, b3⟩
      have C3 := Lib.hid (CO.out w3 d o3 hd hcp b3)
      clear hd hcp o3 b3 CO
      go_wp2_with fail
      refine C3.out.mono ?_
      rintro e w4 ⟨rfl, o4, b4⟩
      have O4 := Lib.hid o4; have B4 := Lib.hid b4
      clear o4 b4
      go_wp2
      go_ret
      exact ⟨_, rfl, O4.out, B4.out⟩

/-! Parts -/
noncomputable def partsA (r : List Bv) : List Bv := if ckR r = 0 then partsR r else []
theorem partsA_ok {r : List Bv} (h : ckR r = 0) : partsA r = partsR r := by unfold partsA; rw [if_pos h]
theorem partsA_bad {r : List Bv} (h : ckR r ≠ 0) : partsA r = [] := by unfold partsA; rw [if_neg h]
/-- what Parts and Fold hand back: the fault of the rows, and sets -/
def SetsPost (r z : List Bv) (w : World) (e : Ending) (w' : World) : Prop :=
  Below w.heap.size w w' ∧ ∃ u, e = .returned (.tuple #[u, .int .i64 (ckR r)]) ∧ WO w.heap.size u z w'
set_option maxHeartbeats 4000000 in
theorem parts_any {w : World} {v : Value} {r : List Bv} (h : WIn w v r) (ht : Tab w) : Calls Tryd.prog 8 #[v] w (SetsPost r (partsA r) w) := by
  have CL := Lib.hid (close_any h ht)
  have PO := Lib.hid (fun W (u : Value) (hW : Below w.heap.size w W) (hu : WIn W u (closeR r)) (hr : RowsIn r) => partsOf_any hu hr (ht.below hW ht.1))
  have CZ : Hid (ckR r = 0 → RowsIn r ∧ partsA r = partsR r) := fun h => ⟨ckR_zero h, partsA_ok h⟩
  have BD : Hid (ckR r ≠ 0 → partsA r = []) := partsA_bad
  have RP : Hid (∀ e w', SetsPost r (partsA r) w e w' ↔ (Below w.heap.size w w' ∧ ∃ u, e = .returned (.tuple #[u, .int .i64 (ckR r)]) ∧ WO w.heap.size u (partsA r) w')) := fun _ _ => Iff.rfl
  obtain ⟨a, c, rfl, _⟩ := h
  clear ht
  go_enter Tryd.func8, Tryd.ntmps8
  go_wp2_with fail
  refine CL.out.mono ?_
  rintro e w2 ⟨b2, ⟨hc, rfl⟩ | ⟨hc, q, rfl, o2⟩⟩
  · have B2 := Lib.hid b2
    have t1 := zero_ne hc
    have E := Lib.hid (BD.out hc)
    clear b2 hc PO CZ BD
    go_wp2
    go_ret2
    exact (RP.out _ _).2 ⟨B2.out, _, rfl, by rw [E.out]; exact World.ownsRow_nil _ _ _ _⟩
  · have B2 := Lib.hid b2
    obtain ⟨hr, E⟩ := CZ.out hc
    have e2 := o2.win
    have P1 := Lib.hid (PO.out w2 _ b2 e2 hr)
    have HE := Lib.hid E
    have HC0 := Lib.hid hc
    clear b2 o2 e2 hc PO CZ BD hr E
    go_wp2_with fail
    refine P1.out.mono ?_
    rintro e w3 ⟨u, rfl, o3, b3⟩
    have B3 := Lib.hid (B2.out.trans (b3.mono B2.out.size))
    have O3 := Lib.hid (wo_base o3 B2.out.size)
    clear b3 o3
    go_wp2
    go_ret2
    exact (RP.out _ _).2 ⟨B3.out, _, ret_vi HC0.out.symm, by rw [HE.out]; exact O3.out⟩
end Go.Proofs.YtbippnldofalbaaDoor
