/-
  Package knot: Fold. Condition: the table of math/bits lies in memory as its text lays it (the card ties this).
-/
import Derived.Test.YtbippnldofalbaaDoorHKc
namespace Go.Proofs.YtbippnldofalbaaDoor
set_option maxRecDepth 100000
set_option linter.unusedVariables false
open Go.ChangeShapes Go.WideShapes Go.ChangeAt Go.RowKit

noncomputable def foldA (r : List Bv) : List Bv := if ckR r = 0 then foldR r else []
theorem foldA_ok {r : List Bv} (h : ckR r = 0) : foldA r = foldR r := by unfold foldA; rw [if_pos h]
theorem foldA_bad {r : List Bv} (h : ckR r ≠ 0) : foldA r = [] := by unfold foldA; rw [if_neg h]
set_option maxHeartbeats 16000000 in
theorem fold_any {w : World} {v : Value} {r : List Bv} (h : WIn w v r) (ht : Tab w) : Calls Tryd.prog 9 #[v] w (SetsPost r (foldA r) w) := by
  obtain ⟨i0, hi, hz0, hz1, hz2⟩ := info_parts infoW
  have PA := Lib.hid (parts_any h ht)
  have NB := Lib.hid (fun W (hW : Below w.heap.size w W) s (hs : SetIn r.length s) => neededK_any s (h.later hW) hs (ht.below hW ht.1))
  have BD : Hid (ckR r ≠ 0 → partsA r = [] ∧ foldA r = []) := fun h => ⟨partsA_bad h, foldA_bad h⟩
  have OK : Hid (ckR r = 0 → partsA r = partsR r ∧ foldA r = foldR r ∧ (partsR r).length ≤ 64 ∧ (∀ i, i < (partsR r).length → SetIn r.length (wAt (partsR r) i)) ∧ (∀ i k, i < (partsR r).length → k < (partsR r).length → decide ((needR r (wAt (partsR r) i) &&& ~~~wAt (partsR r) i) &&& wAt (partsR r) k ≠ 0#64) = fT r (partsR r) i k)) := fun h => by
    have hr := ckR_zero h
    have := parts_le r
    have := hr.len
    exact ⟨partsA_ok h, foldA_ok h, by omega, fun i hi => part_in hr hi, fun i k hi hk => fold_test hr hi hk⟩
  have RP : Hid (∀ e w', SetsPost r (foldA r) w e w' ↔ (Below w.heap.size w w' ∧ ∃ u, e = .returned (.tuple #[u, .int .i64 (ckR r)]) ∧ WO w.heap.size u (foldA r) w')) := fun _ _ => Iff.rfl
  have FA : Hid (∀ O, Fo r (partsR r) (partsR r).length 0 false O → O = foldR r) := fun O h => fo_all h
  have F0 := Lib.hid (fo_zero r (partsR r))
  obtain ⟨a, c, rfl, _⟩ := h
  clear ht
  generalize hp : partsR r = p at *
  clear hp
  have FW := Lib.hid (fun (O : List Bv) i (h : Fo r p i p.length false O) => fo_row h)
  have FN := Lib.hid (fun (O : List Bv) i k b (h : Fo r p i k b O) hb => fo_next h hb)
  have FY := Lib.hid (fun (O : List Bv) i k b (h : Fo r p i k b O) hi => fo_yes h hi)
  have FL : Hid (∀ O i k b, Fo r p i k b O → O.length = p.length) := fun O i k b h => h.1
  have MK := Lib.hid (fun W (hl : p.length ≤ 64) => run_make_full (P := Tryd.prog) W W.heap.size 22 32 i0 (.int .u64 0) 1 Tryd.underlying22 hi hz0 hz1 .i64 .i64 p.length (by rw [hz2]; omega) (by unfold maxLen; omega) (Nat.le_refl _))
  clear hi hz0 hz1 hz2
  go_enter Tryd.func9, Tryd.ntmps9
  go_wp2_with fail
  refine PA.out.mono ?_
  rintro e w1 ⟨b1, u, rfl, o1⟩
  have B1 := Lib.hid b1
  by_cases hc : ckR r = 0
  · obtain ⟨s1, s2, hpl, s4, s5⟩ := OK.out hc
    have HC0 := Lib.hid hc
    have E2 := Lib.hid s2
    have PI := Lib.hid s4
    have TS := Lib.hid s5
    rw [s1] at o1
    have P1 := Lib.hid o1.win
    obtain ⟨w2, rmk, o2, g2⟩ := MK.out w1 hpl
    rw [zeros_w] at o2
    have G2 : Hid (Below w1.heap.size w1 w2) := (Below.refl _ _).grown g2 (Nat.le_refl _) (fun q hq => by cases hq)
    have P2 := Lib.hid (P1.out.later G2.out)
    obtain ⟨pa, pc, rfl, pc0⟩ := P2.out
    have PC : Hid (∀ W, Below w1.heap.size w1 W → ∀ k, k < p.length → ∃ b off, pa = some ⟨b, off, none⟩ ∧ W.cell? ⟨b, off + k, none⟩ = some (.int .u64 ((wAt p k).toNat : Int))) := fun W hW k hk => by
      obtain ⟨a', c', e, hh⟩ := P1.out.later hW
      cases e
      exact hh k hk
    have O2 : Hid (WO w1.heap.size (.slice (some ⟨w1.heap.size, 0, none⟩) p.length p.length) (List.replicate p.length 0#64) w2) := by
      show World.ownsRow _ _ _ _ _ _ _
      rw [List.length_replicate]; exact o2
    have HB := B1.out.size
    rw [hc]
    generalize hb : w1.heap.size = b at *
    have HBb := Lib.hid hb
    clear o2 g2 MK P1 P2 pc0 hb s1 s2 s4 s5 hc b1 o1 OK BD PA
    have GG : Hid (∀ W, Below b w1 W → Below w.heap.size w W) := fun W hW => B1.out.trans (hW.mono HB)
    generalize p.length = M at *
    go_wp2_with fail
    go_loopw [25] (fun i wr => ∃ (m : Nat) (O : List Bv), m ≤ M ∧ i = .int .i64 (m : Int) ∧ Fo r p m 0 false O ∧ WO b (.slice (some ⟨b, 0, none⟩) M M) O wr ∧ Below b w1 wr) (fun i _ => M - (intOf i).toNat)
    case atStart => exact ⟨0, _, Nat.zero_le _, rfl, F0.out, O2.out, G2.out⟩
    case round =>
      obtain ⟨m, O, hm, rfl, qt, qo, qb⟩ := hrel
      have QT := Lib.hid qt; have QO := Lib.hid qo; have QB := Lib.hid qb; clear qt qo qb
      rename World => wr
      by_cases hml : m < M
      · obtain ⟨pb, poff, rfl, c1⟩ := PC.out wr QB.out m hml
        have ND := Lib.hid (NB.out wr (GG.out _ QB.out) _ (PI.out m hml))
        have TSm := Lib.hid (fun k hk => TS.out m k hml hk)
        have e1 : bits .andNot .u64 ((needR r (wAt p m)).toNat : Int) ((wAt p m).toNat : Int) = ((needR r (wAt p m) &&& ~~~wAt p m).toNat : Int) := bv_andNot _ _
        have hbW : b ≤ wr.heap.size := by have := QB.out.size; rw [HBb.out] at this; exact this
        generalize needR r (wAt p m) &&& ~~~wAt p m = nd at *
        generalize hpm : wAt p m = pm at *
        have HPM := Lib.hid hpm; clear hpm
        generalize needR r pm = q at *
        go_wp2_with fail
        refine ND.out.mono ?_
        rintro e w5 ⟨rfl, b5⟩
        have B5 := Lib.hid (QB.out.trans (b5.mono hbW))
        have O5 : Hid (WO b (.slice (some ⟨b, 0, none⟩) M M) O w5) := Lib.hid (own_later QO.out b5)
        clear b5 ND hbW c1
        go_wp2_with fail
        go_loopw [37] (fun i wq => ∃ (k : Nat) (V : List Bv), k ≤ M ∧ i = .int .i64 (k : Int) ∧ Fo r p m k false V ∧ WO b (.slice (some ⟨b, 0, none⟩) M M) V wq ∧ Below b w1 wq) (fun i _ => M - (intOf i).toNat)
        case atStart => exact ⟨0, O, Nat.zero_le _, rfl, QT.out, O5.out, B5.out⟩
        case round =>
          obtain ⟨k, V, hk, rfl, rt, ro, rb⟩ := hrel
          have RT := Lib.hid rt; have RO := Lib.hid ro; have RB := Lib.hid rb; clear rt ro rb
          rename World => W6
          by_cases hkl : k < M
          · obtain ⟨_, _, e, c2⟩ := PC.out W6 RB.out k hkl
            cases e
            have TK := TSm.out k hkl
            have i2 : (k : Int) < (M : Int) := by omega
            have i3 : (m : Int) < (M : Int) := by omega
            have hk64 : (k : Int) < 64 := by omega
            by_cases hz : nd &&& wAt p k = 0#64
            · have t2 : (bits .and .u64 (nd.toNat : Int) ((wAt p k).toNat : Int) != 0) = false := by rw [bv_and, hz]; rfl
              rw [decide_eq_false (by simp [hz])] at TK
              have NX := Lib.hid (FN.out _ _ _ _ RT.out TK)
              clear hz TK
              generalize wAt p k = y at *
              go_wp2
              go_roundw
              case rel => exact ⟨k + 1, V, by omega, by go_num, NX.out, RO.out, RB.out⟩
              case measure => simp [intOf]; omega
            · have t2 : (bits .and .u64 (nd.toNat : Int) ((wAt p k).toNat : Int) != 0) = true := by rw [bv_and, bv_ne_zero, bne_iff_ne]; exact hz
              rw [decide_eq_true hz] at TK
              have ul := FL.out _ _ _ _ RT.out
              have NX := Lib.hid (FN.out _ _ _ _ (FY.out _ _ _ _ RT.out hml) TK)
              have OA : WO b (.slice (some ⟨b, 0, none⟩) V.length M) V W6 := by rw [ul]; exact RO.out
              have cr := OA.cell (i := m) (by omega)
              have fr := OA.frozen m
              obtain ⟨O7, G7⟩ := OA.store m (one k)
              have e2 : bits .or .u64 ((wAt V m).toNat : Int) (IntKind.u64.wrap (2 ^ k)) = ((wAt V m ||| one k).toNat : Int) := by rw [one_walk k (by omega), bv_or]
              have O7' := Lib.hid O7
              have hsz : b ≤ W6.heap.size := by have := RB.out.size; rw [HBb.out] at this; exact this
              have B7 := Lib.hid (below_grown' RB.out G7 hsz (Nat.le_refl _))
              rw [ul] at O7'
              clear hz O7 G7 OA TK
              generalize wAt p k = y at *
              generalize ((wAt V m).toNat : Int) = x at *
              generalize ((wAt V m ||| one k).toNat : Int) = z at *
              go_wp2_with fail
              go_region
              go_wp2
              go_roundw
              case rel => exact ⟨k + 1, _, by omega, by go_num, NX.out, O7'.out, B7.out.drew⟩
              case measure => simp [intOf]; omega
          · obtain rfl : k = M := by omega
            have NX := Lib.hid (FW.out _ _ RT.out)
            go_wp2
            go_roundw
            case rel => exact ⟨m + 1, V, by omega, by go_num, NX.out, RO.out, RB.out⟩
            case measure => simp [intOf]; omega
      · obtain rfl : m = M := by omega
        have E := FA.out O QT.out
        have OR := Lib.hid (wo_base QO.out HB)
        have BR := Lib.hid (GG.out _ QB.out)
        clear QT QO QB
        go_wp2
        go_ret2
        exact (RP.out _ _).2 ⟨BR.out, _, ret_vi HC0.out.symm, by rw [E2.out, ← E]; exact OR.out⟩
  · have t1 := zero_ne hc
    obtain ⟨e1, e2⟩ := BD.out hc
    have E2 := Lib.hid e2
    rw [e1] at o1
    obtain ⟨oa, oc, rfl, _⟩ := o1.win
    clear hc OK BD e1 e2 b1 o1
    go_wp2
    go_ret2
    exact (RP.out _ _).2 ⟨B1.out, _, rfl, by rw [E2.out]; exact World.ownsRow_nil _ _ _ _⟩
end Go.Proofs.YtbippnldofalbaaDoor
