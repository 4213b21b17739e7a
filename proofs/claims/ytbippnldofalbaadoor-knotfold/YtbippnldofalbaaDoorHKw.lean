/-
  The law KnotFold, whatever its arguments. Condition: the table of math/bits lies in memory as its text lays it (the card ties this).
-/
import Derived.Test.YtbippnldofalbaaDoorHKv
import Derived.Test.YtbippnldofalbaaDoorHKo
namespace Go.Proofs.YtbippnldofalbaaDoor
set_option maxRecDepth 100000
set_option linter.unusedVariables false
open Go.ChangeShapes Go.WideShapes Go.ChangeAt Go.RowKit

theorem fold_ord {r : List Bv} (hr : RowsIn r) : ordC (foldR r) = 0 := ordC_ok (ckR_rows (foldR_in hr)) ((ord_full (foldR_in hr)).2 (fold_tree hr))
theorem fold_walks {r : List Bv} (hr : RowsIn r) {x y i k : Nat} (hi : i < (partsR r).length) (hk : k < (partsR r).length) (ha : hasI (wAt (partsR r) i) (x : Int) = true) (hb : hasI (wAt (partsR r) k) (y : Int) = true) :
    x < r.length ∧ y < r.length ∧ (allR r (one x)).getLsbD y = (allR (foldR r) (one i)).getLsbD k := by
  rw [hasI_nat] at ha hb
  refine ⟨part_lt hr hi ha, part_lt hr hk hb, ?_⟩
  rw [Bool.eq_iff_iff, all_one hr (part_lt hr hi ha), all_one (foldR_in hr) (by rw [foldR_length]; exact hi)]
  exact walk_fold hr hi hk ha hb
theorem same_beq' (b : Bool) : (b == b) = true := by cases b <;> rfl
set_option maxHeartbeats 16000000 in
theorem knotFold_any {w : World} {v : Value} {r : List Bv} (a b : Int) (h : WIn w v r) (ht : Tab w) :
    Calls Tryd.prog 5 #[v, .int .i64 a, .int .i64 b] w fun e w' => e = .returned (.bool true) ∧ Below w.heap.size w w' := by
  have H := Lib.hid (fun W (hW : Below w.heap.size w W) => h.later hW)
  have TB := Lib.hid (fun W (hW : Below w.heap.size w W) => ht.below hW ht.1)
  have KN := Lib.hid (knots_true w ht)
  have FO := Lib.hid (fun W (hW : Below w.heap.size w W) => fold_any (h.later hW) (ht.below hW ht.1))
  have PA := Lib.hid (fun W (hW : Below w.heap.size w W) => parts_any (h.later hW) (ht.below hW ht.1))
  have OK : Hid (ckR r = 0 → partsA r = partsR r ∧ foldA r = foldR r ∧ RowsIn r ∧ (partsR r).length ≤ 64) := fun h => by
    have hr := ckR_zero h
    have := parts_le r
    have := hr.len
    exact ⟨partsA_ok h, foldA_ok h, hr, by omega⟩
  have BD : Hid (ckR r ≠ 0 → partsA r = [] ∧ foldA r = []) := fun h => ⟨partsA_bad h, foldA_bad h⟩
  have en := Tryd.call28
  obtain ⟨va, vc, rfl, hc0⟩ := h
  clear ht hc0
  go_enter Tryd.func5, Tryd.ntmps5
  go_wp2_with fail
  refine KN.out.mono ?_
  rintro e w1 ⟨rfl, b1⟩
  have B1 := Lib.hid b1
  clear b1 KN
  go_wp2_with fail
  refine (FO.out _ B1.out).mono ?_
  rintro e w2 ⟨b2, u2, rfl, o2⟩
  have B2 := Lib.hid (B1.out.trans (b2.mono B1.out.size))
  have O2 := Lib.hid o2.win
  clear b2 o2 FO B1
  go_wp2_with fail
  refine (PA.out _ B2.out).mono ?_
  rintro e w3 ⟨b3, u3, rfl, o3⟩
  have B3 := Lib.hid (B2.out.trans (b3.mono B2.out.size))
  have O23 := Lib.hid (O2.out.later b3)
  have O3 := Lib.hid o3.win
  clear b3 o3 PA B2 O2
  obtain ⟨fa, fc, rfl, fc0⟩ := O23.out
  obtain ⟨pa, pc, rfl, pc0⟩ := O3.out
  clear fc0 pc0
  by_cases hc : ckR r = 0
  · obtain ⟨s1, s2, hr, hpl⟩ := OK.out hc
    rw [s1] at O3
    rw [s2] at O23
    rw [hc, s1, s2]
    have FO0 := Lib.hid (fold_ord hr)
    have FW := Lib.hid (fun x y i k hi hk ha hb => fold_walks hr (x := x) (y := y) (i := i) (k := k) hi hk ha hb)
    have hl64 := hr.len
    have e0 := foldR_length r
    have FG := Lib.hid (fun W (hW : Below w.heap.size w W) u x (hu : WIn W u (foldR r)) (hx : x < (partsR r).length) => fromK_one (i := x) hu (foldR_in hr) (by rw [foldR_length]; exact hx) (TB.out W hW))
    have FR := Lib.hid (fun W (hW : Below w.heap.size w W) x hx => fromK_one (i := x) (H.out W hW) hr hx (TB.out W hW))
    have BX : Hid (∀ W, W = w3.alloc (.cells #[.slice pa (partsR r).length pc] 22) → Below w3.heap.size w3 W ∧ ∀ W', Below W.heap.size W W' → W'.cell? ⟨w3.heap.size, 0, none⟩ = some (.slice pa (partsR r).length pc)) := fun W hW => by
      subst hW
      exact ⟨below_al _ _, fun W' hW' => ((blk_new w3 _ _).later hW').cell rfl⟩
    have KF := Lib.hid (fun W n (hp : WIn W (.slice pa (partsR r).length pc) (partsR r)) (hc : W.cell? ⟨w3.heap.size, 0, none⟩ = some (.slice pa (partsR r).length pc)) => ofK_any n hp hpl hc)
    have HB := B3.out.size
    clear hc OK BD hr s1 s2
    generalize (foldR r).length = M' at *
    subst e0
    generalize foldR r = f at *
    generalize partsR r = p at *
    generalize p.length = M at *
    generalize r.length = L at *
    go_wp2_with fail
    generalize hW4 : w3.alloc (.cells #[.slice pa M pc] 22) = w4
    obtain ⟨q1, q2⟩ := BX.out w4 hW4.symm
    have B4 := Lib.hid (B3.out.trans (q1.mono HB))
    have F4 := Lib.hid (O23.out.later q1)
    have P4 := Lib.hid (O3.out.later q1)
    have Q4 := Lib.hid q2
    clear q1 q2 BX hW4 O23 O3 B3 HB
    generalize w3.heap.size = q at *
    refine (order_any F4.out (TB.out _ B4.out)).mono ?_
    rintro e w5 ⟨b5, u5, rfl, _⟩
    rw [FO0.out]
    have B5 := Lib.hid (B4.out.trans (b5.mono B4.out.size))
    have F5 := Lib.hid (F4.out.later b5)
    have P5 := Lib.hid (P4.out.later b5)
    have Q5 : Hid (∀ W', Below w5.heap.size w5 W' → W'.cell? ⟨q, 0, none⟩ = some (.slice pa M pc)) := fun W' hW' => Q4.out _ (b5.trans (hW'.mono b5.size))
    have c5 := Q5.out _ (Below.refl _ _)
    have KA := Lib.hid (KF.out _ a P5.out c5)
    clear b5 B4 F4 P4 Q4 FO0
    have t1 : ((M : Int) != (M : Int)) = false := by simp
    go_wp2_with fail
    refine KA.out.mono ?_
    rintro e w6 ⟨hA, b6⟩
    have B6 := Lib.hid (B5.out.trans (b6.mono B5.out.size))
    have F6 := Lib.hid (F5.out.later b6)
    have P6 := Lib.hid (P5.out.later b6)
    have c6 := Q5.out _ b6
    have KB := Lib.hid (KF.out _ b P6.out c6)
    have HA := Lib.hid hA
    clear hA b6 F5 P5 Q5 c5 B5 KA
    obtain ⟨i, hi, hxi, rfl⟩ | ⟨_, rfl⟩ := HA.out
    · go_wp2_with fail
      refine KB.out.mono ?_
      rintro e w7 ⟨hB, b7⟩
      have B7 := Lib.hid (B6.out.trans (b7.mono B6.out.size))
      have F7 := Lib.hid (F6.out.later b7)
      clear b7 F6 P6 c6 B6 KB KF
      obtain ⟨k, hk, hyk, rfl⟩ | ⟨_, rfl⟩ := hB
      · have hxi' := hxi
        have hyk' := hyk
        obtain ⟨x, rfl, hx64, _⟩ := hasI_some hxi'
        obtain ⟨y, rfl, hy64, _⟩ := hasI_some hyk'
        obtain ⟨hxl, hyl, ew⟩ := FW.out x y i k hi hk hxi hyk
        have e1 := one_walk x hx64
        have e2 := one_walk i (by omega)
        have i1 : (x : Int) < 64 := by omega
        have i2 : (i : Int) < 64 := by omega
        have i3 : ¬ (i : Int) < 0 := by omega
        have i4 : ¬ (k : Int) < 0 := by omega
        have F1 := Lib.hid (FR.out _ B7.out x hxl)
        have F2 := Lib.hid (fun W (hW : Below w7.heap.size w7 W) => FG.out W (B7.out.trans (hW.mono B7.out.size)) _ i (F7.out.later hW) hi)
        have HA1 := Lib.hid (fun W => has_any (allR r (one x)) y W hy64)
        have HA2 := Lib.hid (fun W => has_any (allR f (one i)) k W (by omega))
        rw [← ew] at HA2
        clear FW FR FG HA hxi hxi' hyk hyk' ew
        generalize (allR r (one x)).getLsbD y = bx at *
        generalize allR r (one x) = A1 at *
        generalize allR f (one i) = A2 at *
        go_wp2_with fail
        refine F1.out.mono ?_
        rintro e w8 ⟨rfl, b8⟩
        have B8 := Lib.hid (B7.out.trans (b8.mono B7.out.size))
        have F2' := Lib.hid (F2.out _ b8)
        clear b8 F1 F2
        go_wp2_with fail
        refine F2'.out.mono ?_
        rintro e w9 ⟨rfl, b9⟩
        have B9 := Lib.hid (B8.out.trans (b9.mono B8.out.size))
        have GD : Hid (∀ T, Calls Tryd.prog 27 #[.slice (some ⟨w9.heap.size, 0, none⟩) 2 2] (w9.alloc (.cells #[.int .i64 0, .int .i64 0] T)) fun e w' => e = .returned (.bool true) ∧ w' = w9.alloc (.cells #[.int .i64 0, .int .i64 0] T)) := fun T => (good2_any 0 0 w9 T).mono fun e w' h => by
          rcases h with ⟨⟨h1, _⟩ | ⟨_, h1⟩, h2⟩
          · rcases h1 with h1 | h1 <;> exact absurd rfl h1
          · exact ⟨h1, h2⟩
        have RA : Hid (∀ o, Below w.heap.size w (w9.alloc o)) := fun o => B9.out.alloc B9.out.size o
        clear b9 F2' B8 B7 F7
        go_wp2_with fail
        refine (GD.out _).mono ?_
        rintro e w8 ⟨rfl, rfl⟩
        go_wp2_with fail
        refine (HA1.out _).mono ?_
        rintro e w9 ⟨rfl, rfl⟩
        go_wp2_with fail
        refine (HA2.out _).mono ?_
        rintro e w9 ⟨rfl, rfl⟩
        have t2 := same_beq' bx
        go_wp2
        go_ret
        exact ⟨rfl, RA.out _⟩
      · go_wp2
        go_ret
        exact ⟨rfl, B7.out⟩
    · go_wp2_with fail
      refine KB.out.mono ?_
      rintro e w7 ⟨hB, b7⟩
      have B7 := Lib.hid (B6.out.trans (b7.mono B6.out.size))
      obtain ⟨k, hk, hyk, rfl⟩ | ⟨_, rfl⟩ := hB
      · go_wp2
        go_ret
        exact ⟨rfl, B7.out⟩
      · go_wp2
        go_ret
        exact ⟨rfl, B7.out⟩
  · have t1 := zero_ne hc
    obtain ⟨e1, e2⟩ := BD.out hc
    rw [e1] at O3
    rw [e2] at O23
    rw [e1, e2]
    generalize ckR r = C at *
    clear hc OK BD e1 e2
    have BA : Hid (∀ o, Below w.heap.size w (w3.alloc o)) := fun o => B3.out.alloc B3.out.size o
    go_wp2
    go_ret
    exact ⟨rfl, BA.out _⟩
end Go.Proofs.YtbippnldofalbaaDoor
