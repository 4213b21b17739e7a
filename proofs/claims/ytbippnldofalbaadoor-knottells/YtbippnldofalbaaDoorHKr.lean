/-
  The document's answer (package millwrightref) for knots: Tied, TiedParts, Numbers, FoldedRows. No condition.
-/
import Derived.Test.YtbippnldofalbaaDoorHKe
import Derived.Test.YtbippnldofalbaaDoorHRf
import Derived.Test.YtbippnldofalbaaDoorHKa
namespace Go.Proofs.YtbippnldofalbaaDoor
set_option maxRecDepth 100000
set_option linter.unusedVariables false
open Go.ChangeShapes Go.WideShapes Go.ChangeAt Go.RowKit

/-! Tied -/
theorem stR_all (r : List Bv) (s : Bv) : stR r s (-1) = allR r s := by unfold stR; rw [if_pos (by decide)]
set_option maxHeartbeats 4000000 in
theorem tiedR_any {w : World} {v : Value} {r : List Bv} (n : Nat) (h : WIn w v r) (hr : RowsIn r) (hn : n < r.length) :
    Calls Tryd.prog 41 #[v, .int .i64 (n : Int)] w fun e w' => e = .returned (.int .u64 ((tied r n).toNat : Int)) ∧ w' = w := by
  have hl := hr.len
  have ST : Hid (∀ k, k < r.length → Calls Tryd.prog 60 #[v, .int .u64 ((one k).toNat : Int), .int .i64 (-1)] w fun e w' => e = .returned (.int .u64 ((allR r (one k)).toNat : Int)) ∧ w' = w) := fun k hk => by
    have := stepsR_any (one k) (-1) h hr (setIn_one hk hl)
    rwa [stR_all] at this
  have TG : Hid (∀ k, k < r.length → (tied r n).getLsbD k = ((allR r (one n)).getLsbD k && (allR r (one k)).getLsbD n)) := fun k hk => tied_get hr hn hk
  have TE : Hid (setTo (fun k => (tied r n).getLsbD k) r.length = tied r n) := Lib.hid (tied_set hr hn)
  generalize tied r n = R at *
  obtain ⟨a, c, rfl, _⟩ := h
  generalize r.length = L at *
  have TS : Hid (∀ m, setTo (fun k => R.getLsbD k) (m + 1) = if R.getLsbD m then setTo (fun k => R.getLsbD k) m ||| one m else setTo (fun k => R.getLsbD k) m) := fun m => rfl
  have TZ : Hid (setTo (fun k => R.getLsbD k) 0 = 0#64) := Lib.hid rfl
  generalize setTo (fun k => R.getLsbD k) = f at *
  have hn64 : (n : Int) < 64 := by omega
  have e0 : IntKind.u64.wrap (2 ^ n) = ((one n).toNat : Int) := one_walk n (by omega)
  have IQ := Lib.hid (fun S k hk b hb => in_q S k w hk b hb)
  have ST0 := Lib.hid (ST.out n hn)
  clear hr
  go_enter Tryd.func41, Tryd.ntmps41
  go_wp2_with fail
  refine ST0.out.mono ?_
  rintro e w1 ⟨rfl, rfl⟩
  go_wp2_with fail
  go_loopw [5, 14] (fun u i wr => ∃ m : Nat, m ≤ L ∧ i = .int .i64 (m : Int) ∧ u = .int .u64 ((f m).toNat : Int) ∧ wr = w1) (fun _ i _ => L - (intOf i).toNat)
  case atStart => exact ⟨0, Nat.zero_le _, rfl, by rw [TZ.out]; rfl, rfl⟩
  case round =>
    obtain ⟨m, hm, rfl, rfl, rfl⟩ := hrel
    by_cases hml : m < L
    · have T1 := TG.out m hml
      have T2 := TS.out m
      rw [T1] at T2
      have hm64 : (m : Int) < 64 := by omega
      have e1 : IntKind.u64.wrap (2 ^ m) = ((one m).toNat : Int) := one_walk m (by omega)
      have e2 : bits .or .u64 ((f m).toNat : Int) ((one m).toNat : Int) = ((f m ||| one m).toNat : Int) := bv_or _ _
      have STm := Lib.hid (ST.out m hml)
      have I1 := Lib.hid (IQ.out (allR r (one n)) m (by omega) _ rfl)
      have I2 := Lib.hid (IQ.out (allR r (one m)) n (by omega) _ rfl)
      clear T1
      generalize (allR r (one n)).getLsbD m = b1 at *
      generalize (allR r (one m)).getLsbD n = b2 at *
      cases b1
      · rw [Bool.false_and, if_neg (by simp)] at T2
        have T3 := Lib.hid (congrArg BitVec.toNat T2)
        clear T2 e2 STm I2
        generalize (f m).toNat = x at *
        go_wp2_with fail
        refine I1.out.mono ?_
        rintro e w2 ⟨rfl, rfl⟩
        go_wp2
        go_roundw
        case rel => exact ⟨m + 1, by omega, by go_num, by rw [T3.out], trivial⟩
        case measure => simp [intOf]; omega
      · rw [Bool.true_and] at T2
        cases b2
        · rw [if_neg (by simp)] at T2
          have T3 := Lib.hid (congrArg BitVec.toNat T2)
          clear T2 e2
          generalize (f m).toNat = x at *
          go_wp2_with fail
          refine I1.out.mono ?_
          rintro e w2 ⟨rfl, rfl⟩
          go_wp2_with fail
          refine STm.out.mono ?_
          rintro e w2 ⟨rfl, rfl⟩
          go_wp2_with fail
          refine I2.out.mono ?_
          rintro e w2 ⟨rfl, rfl⟩
          go_wp2
          go_roundw
          case rel => exact ⟨m + 1, by omega, by go_num, by rw [T3.out], trivial⟩
          case measure => simp [intOf]; omega
        · rw [if_pos rfl] at T2
          have T3 := Lib.hid (congrArg BitVec.toNat T2)
          clear T2
          generalize (f m ||| one m).toNat = y at *
          generalize (f m).toNat = x at *
          go_wp2_with fail
          refine I1.out.mono ?_
          rintro e w2 ⟨rfl, rfl⟩
          go_wp2_with fail
          refine STm.out.mono ?_
          rintro e w2 ⟨rfl, rfl⟩
          go_wp2_with fail
          refine I2.out.mono ?_
          rintro e w2 ⟨rfl, rfl⟩
          go_wp2
          go_roundw
          case rel => exact ⟨m + 1, by omega, by go_num, by rw [T3.out], trivial⟩
          case measure => simp [intOf]; omega
    · obtain rfl : m = L := by omega
      rw [TE.out]
      go_wp2
      go_ret
      exact ⟨rfl, rfl⟩

/-! TiedParts -/
set_option maxHeartbeats 8000000 in
theorem tiedParts_any {w : World} {v : Value} {r : List Bv} (h : WIn w v r) (hr : RowsIn r) :
    Calls Tryd.prog 15 #[v] w fun e w' => ∃ u, e = .returned u ∧ WO w.heap.size u (partsR r) w' ∧ Below w.heap.size w w' := by
  obtain ⟨i0, hi, hz0, hz1, hz2⟩ := info_parts infoW
  have HI := Lib.hid hi; clear hi
  have HZ0 := Lib.hid hz0; clear hz0
  have HZ1 := Lib.hid hz1; clear hz1
  have HZ2 := Lib.hid hz2; clear hz2
  have hl := hr.len
  have TD := Lib.hid (fun W (hW : Below w.heap.size w W) n hn => tiedR_any n (h.later hW) hr hn)
  have DH : Hid (∀ m, m < r.length → (doneTo r m).getLsbD m = !headR r m) := fun m hm => done_head hr hm
  have DS : Hid (∀ m, doneTo r (m + 1) = if headR r m then doneTo r m ||| tied r m else doneTo r m) := fun m => rfl
  have PS : Hid (∀ m, partsTo r (m + 1) = if headR r m then partsTo r m ++ [tied r m] else partsTo r m) := fun m => partsTo_succ r m
  have PL : Hid (∀ m, (partsTo r m).length ≤ m) := fun m => by rw [partsTo_length]; exact headsTo_length r m
  have PE : Hid (partsTo r r.length = partsR r) := Lib.hid rfl
  have P0 : Hid (partsTo r 0 = []) := Lib.hid rfl
  have D0 : Hid (doneTo r 0 = 0#64) := Lib.hid rfl
  obtain ⟨a, c, rfl, _⟩ := h
  clear hr
  generalize partsR r = PR at *
  generalize r.length = L at *
  go_enter Tryd.func15, Tryd.ntmps15
  go_wp2_with fail
  go_loopw [3, 4, 9] (fun o d i wr => ∃ m : Nat, m ≤ L ∧ i = .int .i64 (m : Int) ∧ d = .int .u64 ((doneTo r m).toNat : Int) ∧ WO w.heap.size o (partsTo r m) wr ∧ Below w.heap.size w wr) (fun _ _ i _ => L - (intOf i).toNat)
  case atStart => exact ⟨0, Nat.zero_le _, rfl, by rw [D0.out]; rfl, by rw [P0.out]; exact World.ownsRow_nil _ _ _ _, Below.refl _ _⟩
  case round =>
    rename_i wr
    obtain ⟨m, hm, rfl, rfl, qo, qb⟩ := hrel
    have QO := Lib.hid qo; have QB := Lib.hid qb; clear qo qb
    by_cases hml : m < L
    · have IQ := Lib.hid (in_q (doneTo r m) m wr (by omega) _ (DH.out m hml))
      have D1 := DS.out m
      have P1 := PS.out m
      have pl := PL.out m
      have TDm := Lib.hid (TD.out wr QB.out m hml)
      have e1 : bits .or .u64 ((doneTo r m).toNat : Int) ((tied r m).toNat : Int) = ((doneTo r m ||| tied r m).toNat : Int) := bv_or _ _
      cases hb : headR r m
      · rw [hb] at IQ D1 P1
        rw [if_neg (by simp)] at D1 P1
        have D2 := Lib.hid (congrArg BitVec.toNat D1)
        have P2 := Lib.hid P1
        clear D1 P1 e1 TDm hb
        generalize (doneTo r m).toNat = x at *
        go_wp2_with fail
        refine IQ.out.mono ?_
        rintro e w2 ⟨rfl, rfl⟩
        go_wp2
        go_roundw
        case rel => exact ⟨m + 1, by omega, by go_num, by rw [D2.out], by rw [P2.out]; exact QO.out, QB.out⟩
        case measure => simp [intOf]; omega
      · rw [hb] at IQ D1 P1
        rw [if_pos rfl] at D1 P1
        have D2 := Lib.hid (congrArg BitVec.toNat D1)
        have P2 := Lib.hid P1
        clear D1 P1 hb
        generalize (doneTo r m ||| tied r m).toNat = y at *
        generalize (doneTo r m).toNat = x at *
        have OM : Hid (WO w.heap.size _ (partsTo r m) wr) := QO
        generalize hs : tied r m = s at *
        generalize hp : partsTo r m = p at *
        have HS := Lib.hid hs; have HP := Lib.hid hp; clear hs hp
        clear OM
        go_wp2_with fail
        refine IQ.out.mono ?_
        rintro e w2 ⟨rfl, rfl⟩
        go_wp2_with fail
        refine TDm.out.mono ?_
        rintro e w3 ⟨rfl, rfl⟩
        go_wp2_with (at_builtin; refine wpList_append_own _ rfl _ _ 22 rfl w.heap.size 32 i0 (.int .u64 0) 1 8 Tryd.underlying22 HI.out HZ0.out HZ1.out HZ2.out rfl (by decide) _ _ _ rfl (World.ownsRow.alloc QO.out _) ⟨w3.heap.size, 0, none⟩ 1 1 [.int .u64 (s.toNat : Int)] rfl rfl ?c1 ?c2 ?c3 ?c4 ?c5 ?_)
        case c1 =>
          intro i u hu
          match i, hu with
          | 0, hu => simp at hu; subst hu; simp [Addr.add]
        case c2 => intro u hu; simp at hu; subst hu; rfl
        case c3 => unfold maxLen; omega
        case c4 => omega
        case c5 => have := QB.out.size; simp; omega
        intro v' w4 hown4 hgrow4 _
        have B4 := Lib.hid ((QB.out.alloc QB.out.size _).grown hgrow4 (by have := QB.out.size; simp; omega) (fun g hg => (QO.out.lt g hg).1))
        have O4 : Hid (WO w.heap.size v' (p ++ [s]) w4) := Lib.hid (by
          unfold WO
          rw [List.length_append, List.map_append]
          exact hown4)
        clear hgrow4 hown4
        go_wp2
        go_roundw
        case rel => exact ⟨m + 1, by omega, by go_num, by rw [D2.out], by rw [P2.out]; exact O4.out, B4.out⟩
        case measure => simp [intOf]; omega
    · obtain rfl : m = L := by omega
      rw [PE.out] at QO
      go_wp2
      go_ret
      exact ⟨_, rfl, QO.out, QB.out⟩

/-! Numbers -/
def NumsPost (s : Bv) (w : World) (e : Ending) (w' : World) : Prop :=
  ∃ v, e = .returned v ∧ w'.ownsRow w.heap.size 3 1 v (cnt s) (ints (nums s)) ∧ Below w.heap.size w w'
theorem numsTo_succ (s : Bv) (k : Nat) : numsTo s (k + 1) = if s.getLsbD k then numsTo s k ++ [k] else numsTo s k := rfl
set_option maxHeartbeats 1000000 in
theorem numbers_any (s : Bv) (w : World) : Calls Tryd.prog 42 #[.int .u64 s.toNat] w (NumsPost s w) := by
  obtain ⟨i0, hi, hz0, hz1, hz2⟩ := info_parts infoInt
  have HI := Lib.hid hi; clear hi
  have HZ0 := Lib.hid hz0; clear hz0
  have HZ1 := Lib.hid hz1; clear hz1
  have HZ2 := Lib.hid hz2; clear hz2
  go_enter Tryd.func42, Tryd.ntmps42
  go_wp2_with fail
  go_loopw [3, 5] (fun v i wr => ∃ k : Nat, k ≤ 64 ∧ i = .int .i64 k ∧ wr.ownsRow w.heap.size 3 1 v (cntTo s.getLsbD k) (ints (numsTo s k)) ∧ Below w.heap.size w wr) (fun _ i _ => 64 - (intOf i).toNat)
  case atStart => exact ⟨0, by omega, rfl, World.ownsRow_nil _ _ _ _, Below.refl _ _⟩
  case round =>
    obtain ⟨k, hk, rfl, hown, hb⟩ := hrel
    have HO := Lib.hid hown; clear hown
    have HB := Lib.hid hb; clear hb
    by_cases hlt : k < 64
    · cases hs : s.getLsbD k
      · have HS := Lib.hid hs; clear hs
        go_wp2_with fail
        refine (in_nat s k _ hlt false HS.out).mono ?_
        rintro e w' ⟨rfl, rfl⟩
        go_wp2
        go_roundw
        case rel =>
          refine ⟨k + 1, by omega, by go_num, ?_, HB.out⟩
          rw [cntTo_succ, numsTo_succ, HS.out]
          exact HO.out
        case measure => simp [intOf]; omega
      · have HS := Lib.hid hs; clear hs
        have hcl := cntTo_le s.getLsbD k
        go_wp2_with fail
        refine (in_nat s k _ hlt true HS.out).mono ?_
        rintro e w' ⟨rfl, rfl⟩
        go_wp2_with (at_builtin; refine wpList_append_own _ rfl _ _ 26 rfl w.heap.size 3 i0 (.int .i64 0) 1 8 Tryd.underlying26 HI.out HZ0.out HZ1.out HZ2.out rfl (by decide) _ _ _ rfl (HO.out.alloc _) ⟨wr.heap.size, 0, none⟩ 1 1 [.int .i64 (k : Int)] rfl rfl ?c1 ?c2 ?c3 ?c4 ?c5 ?_)
        case c1 =>
          intro i u hu
          match i, hu with
          | 0, hu => simp at hu; subst hu; simp [Addr.add]
        case c2 => intro u hu; simp at hu; subst hu; rfl
        case c3 => unfold maxLen; omega
        case c4 => omega
        case c5 => have := HB.out.size; simp; omega
        intro v' w1 hown1 hgrow1 _
        have hb1 : Below w.heap.size w w1 := (HB.out.alloc HB.out.size _).grown hgrow1 (by have := HB.out.size; simp; omega) (fun g hg => (HO.out.lt g hg).1)
        have HB1 := Lib.hid hb1; clear hb1 hgrow1
        have HO1 := Lib.hid hown1; clear hown1
        go_wp2
        go_roundw
        case rel =>
          refine ⟨k + 1, by omega, by go_num, ?_, HB1.out⟩
          rw [cntTo_succ, numsTo_succ, HS.out, if_pos rfl, if_pos rfl, ints_append]
          exact HO1.out
        case measure => simp [intOf]; omega
    · obtain rfl : k = 64 := by omega
      go_wp2
      go_ret
      exact ⟨_, rfl, HO.out, HB.out⟩
end Go.Proofs.YtbippnldofalbaaDoor
