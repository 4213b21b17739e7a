/-
  Package reach: the reversed rows, From, Within, Back, Close, Between. Condition: the table of math/bits lies in memory as its text lays it (the card ties this).
-/
import Derived.Test.YtcgabgmhmeppeaaDoorHRa
namespace Go.Proofs.YtcgabgmhmeppeaaDoor
set_option maxRecDepth 100000
set_option linter.unusedVariables false
open Go.ChangeShapes Go.WideShapes Go.ChangeAt Go.RowKit

theorem win_one (w : World) (s : Bv) (t : TypeId) : WIn (w.alloc (.cells #[.int .u64 (s.toNat : Int)] t)) (.slice (some ⟨w.heap.size, 0, none⟩) 1 1) [s] :=
  ⟨_, 1, rfl, fun k hk => ⟨w.heap.size, 0, rfl, by
    obtain rfl : k = 0 := by simpa using hk
    exact (blk_new w #[.int .u64 (s.toNat : Int)] t).cell rfl⟩⟩
theorem win_two (w : World) (a b : Bv) (t : TypeId) : WIn (w.alloc (.cells #[.int .u64 (a.toNat : Int), .int .u64 (b.toNat : Int)] t)) (.slice (some ⟨w.heap.size, 0, none⟩) 2 2) [a, b] :=
  ⟨_, 2, rfl, fun k hk => ⟨w.heap.size, 0, rfl, by
    have B := blk_new w #[.int .u64 (a.toNat : Int), .int .u64 (b.toNat : Int)] t
    match k, hk with
    | 0, _ => exact B.cell rfl
    | 1, _ => exact B.cell rfl
    | k + 2, hk => exact absurd hk (by simp)⟩⟩
theorem ret_uc {a b : Bv} {c d : Int} (h : a = b) (k : c = d) : Ending.returned (.tuple #[.int .u64 (a.toNat : Int), .int .i64 c]) = .returned (.tuple #[.int .u64 (b.toNat : Int), .int .i64 d]) := by rw [h, k]

/-! From, Within -/
set_option maxHeartbeats 4000000 in
theorem from_any {w : World} {v : Value} {r : List Bv} (s : Bv) (h : WIn w v r) (ht : Tab w) :
    Calls Tryd.prog 9 #[v, .int .u64 (s.toNat : Int)] w fun e w' => e = .returned (.tuple #[.int .u64 ((frR r s).toNat : Int), .int .i64 (ckW r [s])]) ∧ Below w.heap.size w w' := by
  have CK := Lib.hid (fun T => checkWith_any (h.later (below_al w (.cells #[.int .u64 (s.toNat : Int)] T))) (win_one w s T) (by simp))
  have RE := Lib.hid (fun W (hW : Below w.heap.size w W) (hr : RowsIn r) (hs : SetIn r.length s) => reached_any s (h.later hW) hr hs (ht.below hW ht.1))
  have BD : Hid (ckW r [s] ≠ 0 → frR r s = 0#64) := frR_bad
  have OK : Hid (ckW r [s] = 0 → (RowsIn r ∧ SetIn r.length s) ∧ frR r s = allR r s) := fun h => ⟨ckW_one.1 h, frR_ok h⟩
  have WA := Lib.hid (fun T => below_al w (.cells #[.int .u64 (s.toNat : Int)] T))
  obtain ⟨a, c, rfl, _⟩ := h
  clear ht
  generalize ckW r [s] = C at *
  generalize frR r s = X at *
  generalize allR r s = A at *
  generalize r.length = L at *
  go_enter Tryd.func9, Tryd.ntmps9
  go_wp2_with fail
  refine (CK.out _).mono ?_
  rintro e w2 ⟨rfl, rfl⟩
  by_cases hc : C = 0
  · subst hc
    obtain ⟨⟨s1, s2⟩, s3⟩ := OK.out rfl
    have EE := Lib.hid s3
    have RE1 := Lib.hid (fun T => RE.out _ (WA.out T) s1 s2)
    clear s1 s2 s3 OK BD RE
    go_wp2_with fail
    refine (RE1.out _).mono ?_
    rintro e w3 ⟨rfl, b3⟩
    have B3 := Lib.hid ((WA.out _).trans (b3.mono (WA.out _).size))
    clear b3
    go_wp2
    go_ret2
    exact ⟨ret_uc EE.out.symm rfl, B3.out⟩
  · have t1 := zero_ne hc
    have EE := Lib.hid (BD.out hc)
    clear hc OK BD RE
    go_wp2
    go_ret2
    exact ⟨ret_uc (a := 0#64) EE.out.symm rfl, WA.out _⟩
set_option maxHeartbeats 4000000 in
theorem within_any {w : World} {v : Value} {r : List Bv} (s : Bv) (d : Int) (h : WIn w v r) (hd : d ≤ 9223372036854775807) (ht : Tab w) :
    Calls Tryd.prog 10 #[v, .int .u64 (s.toNat : Int), .int .i64 d] w fun e w' => e = .returned (.tuple #[.int .u64 ((wiR r s d).toNat : Int), .int .i64 (wiC r s d)]) ∧ Below w.heap.size w w' := by
  have CK := Lib.hid (fun T => checkWith_any (h.later (below_al w (.cells #[.int .u64 (s.toNat : Int)] T))) (win_one w s T) (by simp))
  have RE : Hid (∀ W, Below w.heap.size w W → RowsIn r → SetIn r.length s → 0 ≤ d → Calls Tryd.prog 25 #[v, .int .u64 (s.toNat : Int), .int .i64 d] W fun e w' => e = .returned (.int .u64 ((steps r s d.toNat).toNat : Int)) ∧ Below W.heap.size W w') := fun W hW hr hs h0 => by
    have := reachedWithin_any s d.toNat (h.later hW) hr hs (by omega) (ht.below hW ht.1)
    rwa [Int.toNat_of_nonneg h0] at this
  have BD : Hid (ckW r [s] ≠ 0 → wiC r s d = ckW r [s] ∧ wiR r s d = 0#64) := fun h => ⟨wiC_bad h, wiR_bad (by rw [wiC_bad h]; exact h)⟩
  have NG : Hid (ckW r [s] = 0 → d < 0 → wiC r s d = 1 ∧ wiR r s d = 0#64) := fun h k => ⟨wiC_neg h k, wiR_bad (by rw [wiC_neg h k]; decide)⟩
  have OK : Hid (ckW r [s] = 0 → 0 ≤ d → (RowsIn r ∧ SetIn r.length s) ∧ wiC r s d = 0 ∧ wiR r s d = steps r s d.toNat) := fun h k => ⟨ckW_one.1 h, wiC_ok h k, wiR_ok (wiC_ok h k)⟩
  have WA := Lib.hid (fun T => below_al w (.cells #[.int .u64 (s.toNat : Int)] T))
  obtain ⟨a, c, rfl, _⟩ := h
  clear ht
  generalize ckW r [s] = C at *
  generalize wiC r s d = Y at *
  generalize wiR r s d = X at *
  generalize steps r s d.toNat = A at *
  generalize r.length = L at *
  go_enter Tryd.func10, Tryd.ntmps10
  go_wp2_with fail
  refine (CK.out _).mono ?_
  rintro e w2 ⟨rfl, rfl⟩
  by_cases hc : C = 0
  · subst hc
    by_cases hn : d < 0
    · obtain ⟨s1, s2⟩ := NG.out rfl hn
      have E1 := Lib.hid s1; have E2 := Lib.hid s2
      clear s1 s2 OK BD RE NG
      go_wp2
      go_ret2
      exact ⟨ret_uc (a := 0#64) E2.out.symm E1.out.symm, WA.out _⟩
    · have h0 : 0 ≤ d := by omega
      obtain ⟨⟨s1, s2⟩, s3, s4⟩ := OK.out rfl h0
      have E1 := Lib.hid s3; have E2 := Lib.hid s4
      have RE1 := Lib.hid (fun T => RE.out _ (WA.out T) s1 s2 h0)
      clear s1 s2 s3 s4 OK BD RE NG
      go_wp2_with fail
      refine (RE1.out _).mono ?_
      rintro e w3 ⟨rfl, b3⟩
      have B3 := Lib.hid ((WA.out _).trans (b3.mono (WA.out _).size))
      clear b3
      go_wp2
      go_ret2
      exact ⟨ret_uc E2.out.symm E1.out.symm, B3.out⟩
  · have t1 := zero_ne hc
    obtain ⟨s1, s2⟩ := BD.out hc
    have E1 := Lib.hid s1; have E2 := Lib.hid s2
    clear hc OK BD RE NG s1 s2
    go_wp2
    go_ret2
    exact ⟨ret_uc (a := 0#64) E2.out.symm E1.out.symm, WA.out _⟩

/-! the reversed rows -/
set_option maxHeartbeats 8000000 in
theorem reversed_any {w : World} {v : Value} {r : List Bv} (h : WIn w v r) (hr : RowsIn r) (ht : Tab w) :
    Calls Tryd.prog 26 #[v] w fun e w' => ∃ b, e = .returned (.slice (some ⟨b, 0, none⟩) r.length r.length) ∧ WO w.heap.size (.slice (some ⟨b, 0, none⟩) r.length r.length) (turnR r) w' ∧ Below w.heap.size w w' := by
  obtain ⟨i0, hi, hz0, hz1, hz2⟩ := info_parts infoW
  have LA := Lib.hid (fun s W (hW : Below w.heap.size w W) => (list_any s W (ht.below hW ht.1)).mono (fun _ _ => list_blk))
  obtain ⟨a, cap, rfl, hc⟩ := h
  have hl := hr.len
  have HC : Hid (∀ W, Below w.heap.size w W → ∀ k, k < r.length → ∃ b off, a = some ⟨b, off, none⟩ ∧ W.cell? ⟨b, off + k, none⟩ = some (.int .u64 ((wAt r k).toNat : Int))) := fun W hW k hk => by
    obtain ⟨b, off, e, c⟩ := hc k hk
    exact ⟨b, off, e, cell_later hW c⟩
  have T0 := Lib.hid (rv_zero r)
  have TR := Lib.hid (fun (O : List Bv) i (h : Rv r i (cnt (wAt r i)) O) => rv_row h)
  have TY := Lib.hid (fun (O : List Bv) i j n (h : Rv r i j O) hn hj => rv_next (n := n) h hn hj)
  have TA := Lib.hid (fun (O : List Bv) (h : Rv r r.length 0 O) => rv_all hr h)
  have TL : Hid (∀ O i k, Rv r i k O → O.length = r.length) := fun O i k h => h.1
  have NG : Hid (∀ k j, j < cnt (wAt r k) → ∃ n, n < r.length ∧ (nums (wAt r k))[j]? = some n) := fun k j hj => by
    obtain ⟨n, _, h2, _, h4⟩ := nums_get (wAt r k) j hj
    refine ⟨n, ?_, h4⟩
    rcases Nat.lt_or_ge n r.length with h' | h'
    · exact h'
    · rw [hr.row k n h'] at h2; cases h2
  obtain ⟨w2, rmk, o2, g2⟩ := run_make_full (P := Tryd.prog) w w.heap.size 22 23 i0 (.int .u64 0) 1 Tryd.underlying22 hi hz0 hz1 .i64 .i64 r.length (by rw [hz2]; omega) (by unfold maxLen; omega) (Nat.le_refl _)
  rw [zeros_w] at o2
  have B2 : Hid (Below w.heap.size w w2) := (Below.refl _ _).grown g2 (Nat.le_refl _) (fun q hq => by cases hq)
  have O2 : Hid (WO w.heap.size (.slice (some ⟨w.heap.size, 0, none⟩) r.length r.length) (List.replicate r.length 0#64) w2) := by
    show World.ownsRow _ _ _ _ _ _ _
    rw [List.length_replicate]; exact o2
  clear hc o2 g2 hi hz0 hz1 hz2 hr ht
  generalize turnR r = RES at *
  generalize hL : r.length = L at *
  generalize hb : w.heap.size = b at *
  have HB := Lib.hid hb; have EL := Lib.hid hL; clear hb hL
  go_enter Tryd.func26, Tryd.ntmps26
  go_wp2_with fail
  go_loopw [13] (fun i wr => ∃ (p : Nat) (O : List Bv), p ≤ L ∧ i = .int .i64 (p : Int) ∧ Rv r p 0 O ∧ WO b (.slice (some ⟨b, 0, none⟩) L L) O wr ∧ Below b w wr) (fun i _ => L - (intOf i).toNat)
  case atStart => exact ⟨0, _, Nat.zero_le _, rfl, T0.out, O2.out, B2.out⟩
  case round =>
    obtain ⟨p, O, hp, rfl, qt, qo, qb⟩ := hrel
    have QT := Lib.hid qt; have QO := Lib.hid qo; have QB := Lib.hid qb; clear qt qo qb
    by_cases hpl : p < L
    · obtain ⟨ab, off, rfl, c0⟩ := HC.out wr QB.out p hpl
      have TYp := Lib.hid (fun (O : List Bv) j n => TY.out O p j n)
      have TRp := Lib.hid (fun (O : List Bv) => TR.out O p)
      have NGp := Lib.hid (NG.out p)
      have hcn := cnt_le (wAt r p)
      have LA1 := Lib.hid (LA.out (wAt r p) wr QB.out)
      generalize hx : wAt r p = x at *
      have HX := Lib.hid hx; clear hx
      go_wp2_with fail
      refine LA1.out.mono ?_
      rintro e w3 ⟨rfl, b3, cur, k3, hcur⟩
      have hq : b ≤ wr.heap.size := by have := QB.out.size; rw [HB.out] at this; exact this
      have B3 := Lib.hid (QB.out.trans (b3.mono hq))
      have K3 := Lib.hid k3
      have HR := Lib.hid hcur
      have O3 : Hid (WO b (.slice (some ⟨b, 0, none⟩) L L) O w3) := Lib.hid (own_later QO.out b3)
      have HQ : Hid (b < wr.heap.size) := Lib.hid (by
        rcases QO.out.2 with ⟨h, _⟩ | ⟨g, cap, cur, h, _, hg, _⟩
        · cases h
        · simp only [Value.slice.injEq, Option.some.injEq, Addr.mk.injEq, and_true] at h
          obtain ⟨rfl, _⟩ := h
          rcases Nat.lt_or_ge b wr.heap.size with h' | h'
          · exact h'
          · simp [Array.getElem?_eq_none h'] at hg)
      generalize wr.heap.size = q at *
      clear b3 k3 hcur hq LA1 c0
      generalize cnt x = C at *
      go_wp2_with fail
      go_loopw [21] (fun i wq => ∃ (j : Nat) (U : List Bv), j ≤ C ∧ i = .int .i64 (j : Int) ∧ Rv r p j U ∧ WO b (.slice (some ⟨b, 0, none⟩) L L) U wq ∧ Blk q cur 3 wq ∧ Below b w wq) (fun i _ => C - (intOf i).toNat)
      case atStart => exact ⟨0, O, Nat.zero_le _, rfl, QT.out, O3.out, K3.out, B3.out⟩
      case round =>
        obtain ⟨j, U, hj, rfl, pt, po, pk, pb⟩ := hrel
        have PT := Lib.hid pt; have PO := Lib.hid po; have PB := Lib.hid pb; have PK := Lib.hid pk; clear pt po pb pk
        rename World => W4
        by_cases hjl : j < C
        · obtain ⟨n, n1, n4⟩ := NGp.out j hjl
          have cj := PK.out.cell (HR.out j n n4)
          have NX := Lib.hid (TYp.out U j n PT.out n1 n4)
          have ul := TL.out _ _ _ PT.out
          have i1 : (0 : Int) ≤ (n : Int) := by omega
          have i2 : (n : Int) < (L : Int) := by omega
          have hk64 : (p : Int) < 64 := by omega
          have OA : WO b (.slice (some ⟨b, 0, none⟩) U.length L) U W4 := by rw [ul]; exact PO.out
          have cr := OA.cell (i := n) (by omega)
          have fr := OA.frozen n
          obtain ⟨O5, G5⟩ := OA.store n (one p)
          have e1 : bits .or .u64 ((wAt U n).toNat : Int) (IntKind.u64.wrap (2 ^ p)) = ((wAt U n ||| one p).toNat : Int) := by rw [one_walk p (by omega), bv_or]
          have O5' := Lib.hid O5
          have hsz : b ≤ W4.heap.size := by have := PB.out.size; rw [HB.out] at this; exact this
          have B5 := Lib.hid (below_grown' PB.out G5 hsz (Nat.le_refl _))
          have K5 := Lib.hid (blk_grown PK.out G5 (fun z hz => by cases hz; exact HQ.out))
          rw [ul] at O5'
          clear O5 G5 OA n4
          generalize ((wAt U n).toNat : Int) = y at *
          generalize ((wAt U n ||| one p).toNat : Int) = z at *
          go_wp2_with fail
          go_region
          go_wp2
          go_roundw
          case rel => exact ⟨j + 1, _, by omega, by go_num, NX.out, O5'.out, K5.out, B5.out.drew⟩
          case measure => simp [intOf]; omega
        · obtain rfl : j = C := by omega
          have NX := Lib.hid (TRp.out U PT.out)
          go_wp2
          go_roundw
          case rel => exact ⟨p + 1, U, by omega, by go_num, NX.out, PO.out, PB.out⟩
          case measure => simp [intOf]; omega
    · obtain rfl : p = L := by omega
      have E := TA.out O QT.out
      subst E
      go_wp2
      go_ret
      exact ⟨b, rfl, QO.out, QB.out⟩
end Go.Proofs.YtcgabgmhmeppeaaDoor
