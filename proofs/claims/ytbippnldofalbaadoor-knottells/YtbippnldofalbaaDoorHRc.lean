/-
  Package reach: Back, Close, Between. Condition: the table of math/bits lies in memory as its text lays it (the card ties this).
-/
import Derived.Test.YtbippnldofalbaaDoorHRb
namespace Go.Proofs.YtbippnldofalbaaDoor
set_option maxRecDepth 100000
set_option linter.unusedVariables false
open Go.ChangeShapes Go.WideShapes Go.ChangeAt Go.RowKit

/-- what Back and Close hand back: a fault, or the rows x -/
def RowPost (r x : List Bv) (w : World) (e : Ending) (w' : World) : Prop := Below w.heap.size w w' ∧
  ((ckR r ≠ 0 ∧ e = .returned (.tuple #[.slice none 0 0, .int .i64 (ckR r)])) ∨
   (ckR r = 0 ∧ ∃ b, e = .returned (.tuple #[.slice (some ⟨b, 0, none⟩) r.length r.length, .int .i64 0]) ∧ WO w.heap.size (.slice (some ⟨b, 0, none⟩) r.length r.length) x w'))
theorem ret_vc {v : Value} {c d : Int} (k : c = d) : Ending.returned (.tuple #[v, .int .i64 c]) = .returned (.tuple #[v, .int .i64 d]) := by rw [k]
set_option maxHeartbeats 8000000 in
theorem close_any {w : World} {v : Value} {r : List Bv} (h : WIn w v r) (ht : Tab w) : Calls Tryd.prog 32 #[v] w (RowPost r (closeR r) w) := by
  obtain ⟨i0, hi, hz0, hz1, hz2⟩ := info_parts infoW
  have CK := Lib.hid (check_any h)
  have RE : Hid (∀ W, Below w.heap.size w W → RowsIn r → ∀ k, Calls Tryd.prog 47 #[v, .int .u64 ((wAt r k).toNat : Int)] W fun e w' => e = .returned (.int .u64 ((allR r (wAt r k)).toNat : Int)) ∧ Below W.heap.size W w') :=
    fun W hW hr k => reached_any (wAt r k) (h.later hW) hr (hr.row k) (ht.below hW ht.1)
  have CZ : Hid (ckR r = 0 → RowsIn r) := ckR_zero
  have RP : Hid (∀ e w', RowPost r (closeR r) w e w' ↔ (Below w.heap.size w w' ∧ ((ckR r ≠ 0 ∧ e = .returned (.tuple #[.slice none 0 0, .int .i64 (ckR r)])) ∨
    (ckR r = 0 ∧ ∃ b, e = .returned (.tuple #[.slice (some ⟨b, 0, none⟩) r.length r.length, .int .i64 0]) ∧ WO w.heap.size (.slice (some ⟨b, 0, none⟩) r.length r.length) (closeR r) w')))) := fun _ _ => Iff.rfl
  obtain ⟨a, c, rfl, hc0⟩ := h
  have HC : Hid (∀ W, Below w.heap.size w W → ∀ k, k < r.length → ∃ b off, a = some ⟨b, off, none⟩ ∧ W.cell? ⟨b, off + k, none⟩ = some (.int .u64 ((wAt r k).toNat : Int))) := fun W hW k hk => by
    obtain ⟨b, off, e, c⟩ := hc0 k hk
    exact ⟨b, off, e, cell_later hW c⟩
  have T0 := Lib.hid (cl_zero r)
  have TN := Lib.hid (fun (O : List Bv) k (h : Cl r k O) hk => cl_next h hk)
  have TQ := Lib.hid (fun (O : List Bv) k (h : Cl r k O) hk => cl_at h hk)
  have TA := Lib.hid (fun (O : List Bv) (h : Cl r r.length O) => cl_all h)
  have TL : Hid (∀ O k, Cl r k O → O.length = r.length) := fun O k h => h.1
  have LN : Hid (ckR r = 0 → r.length ≤ 64) := fun h => (ckR_zero h).len
  have MK := Lib.hid (fun (hl : r.length ≤ 64) => run_make_full (P := Tryd.prog) w w.heap.size 22 32 i0 (.int .u64 0) 1 Tryd.underlying22 hi hz0 hz1 .i64 .i64 r.length (by rw [hz2]; omega) (by unfold maxLen; omega) (Nat.le_refl _))
  have RL : Hid ((List.replicate r.length 0#64).length = r.length) := Lib.hid List.length_replicate
  clear hc0 ht hi hz0 hz1 hz2
  generalize ckR r = C at *
  generalize closeR r = X at *
  generalize hL : r.length = L at *
  clear hL
  generalize hb : w.heap.size = b at *
  have HB := Lib.hid hb; clear hb
  go_enter Tryd.func32, Tryd.ntmps32
  go_wp2_with fail
  refine CK.out.mono ?_
  rintro e w1 ⟨rfl, rfl⟩
  by_cases hc : C = 0
  · subst hc
    have HR := Lib.hid (CZ.out rfl)
    have hl := LN.out rfl
    obtain ⟨w2, rmk, o2, g2⟩ := MK.out hl
    rw [zeros_w] at o2
    have B2 : Hid (Below b w1 w2) := Lib.hid (by
      have := (Below.refl w1.heap.size w1).grown g2 (Nat.le_refl _) (fun q hq => by cases hq)
      rwa [HB.out] at this)
    have O2 : Hid (WO b (.slice (some ⟨b, 0, none⟩) L L) (List.replicate L 0#64) w2) := by
      show World.ownsRow _ _ _ _ _ _ _
      rw [List.length_replicate]; exact o2
    clear o2 g2 MK CZ LN
    go_wp2_with fail
    go_loopw [18] (fun i wr => ∃ (p : Nat) (O : List Bv), p ≤ L ∧ i = .int .i64 (p : Int) ∧ Cl r p O ∧ WO b (.slice (some ⟨b, 0, none⟩) L L) O wr ∧ Below b w1 wr) (fun i _ => L - (intOf i).toNat)
    case atStart => exact ⟨0, _, Nat.zero_le _, rfl, T0.out, O2.out, B2.out⟩
    case round =>
      obtain ⟨p, O, hp, rfl, qt, qo, qb⟩ := hrel
      have QT := Lib.hid qt; have QO := Lib.hid qo; have QB := Lib.hid qb; clear qt qo qb
      by_cases hpl : p < L
      · obtain ⟨ab, off, rfl, c0⟩ := HC.out wr QB.out p hpl
        have ul := TL.out _ _ QT.out
        have NX := Lib.hid (TN.out O p QT.out hpl)
        have VQ := TQ.out O p QT.out hpl
        have RE1 := Lib.hid (RE.out wr QB.out HR.out p)
        have i2 : (p : Int) < (L : Int) := by omega
        have hsz : b ≤ wr.heap.size := by have := QB.out.size; rw [HB.out] at this; exact this
        have STO : Hid (∀ W, Below wr.heap.size wr W → W.frozen? ⟨b, p, none⟩ = false ∧ (∃ u, W.cell? ⟨b, p, none⟩ = some u) ∧
            WO b (.slice (some ⟨b, 0, none⟩) L L) (orAt O p (allR r (wAt r p))) (W.setCell ⟨b, p, none⟩ (.int .u64 ((allR r (wAt r p)).toNat : Int))) ∧ Below b w1 (W.setCell ⟨b, p, none⟩ (.int .u64 ((allR r (wAt r p)).toNat : Int)))) := fun W hW => by
          have OA : WO b (.slice (some ⟨b, 0, none⟩) O.length L) O W := by rw [ul]; exact own_later QO.out hW
          obtain ⟨O5, G5⟩ := OA.store p (allR r (wAt r p))
          rw [VQ] at O5 G5
          rw [ul] at O5
          have BW := QB.out.trans (hW.mono hsz)
          have hW2 : b ≤ W.heap.size := Nat.le_trans hsz hW.size
          exact ⟨OA.frozen p, ⟨_, OA.cell (i := p) (by omega)⟩, O5, below_grown' BW G5 hW2 (Nat.le_refl _)⟩
        clear VQ ul hsz
        generalize allR r (wAt r p) = x at *
        generalize wAt r p = y at *
        go_wp2_with fail
        refine RE1.out.mono ?_
        rintro e w4 ⟨rfl, b4⟩
        obtain ⟨fr, ⟨u, cu⟩, o5, b5⟩ := STO.out w4 b4
        have O5 := Lib.hid o5; have B5 := Lib.hid b5
        clear o5 b5 b4 STO
        go_wp2
        go_roundw
        case rel => exact ⟨p + 1, _, by omega, by go_num, NX.out, O5.out, B5.out⟩
        case measure => simp [intOf]; omega
      · obtain rfl : p = L := by omega
        have E := TA.out O QT.out
        subst E
        go_wp2
        go_ret2
        exact (RP.out _ _).2 ⟨QB.out, .inr ⟨trivial, b, rfl, QO.out⟩⟩
  · have t1 := zero_ne hc
    have HC := Lib.hid hc
    have BR : Hid (Below b w1 w1) := Below.refl _ _
    clear hc CZ MK LN
    go_wp2
    go_ret2
    exact (RP.out _ _).2 ⟨BR.out, .inl ⟨HC.out, rfl⟩⟩
end Go.Proofs.YtbippnldofalbaaDoor
