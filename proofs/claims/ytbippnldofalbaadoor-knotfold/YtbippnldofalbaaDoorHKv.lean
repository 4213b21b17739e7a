/-
  The law KnotParts, whatever its arguments. Condition: the table of math/bits lies in memory as its text lays it (the card ties this).
-/
import Derived.Test.YtbippnldofalbaaDoorHKe
import Derived.Test.YtbippnldofalbaaDoorHKd
namespace Go.Proofs.YtbippnldofalbaaDoor
set_option maxRecDepth 100000
set_option linter.unusedVariables false
open Go.ChangeShapes Go.WideShapes Go.ChangeAt Go.RowKit

theorem nextK_any {s : Bv} (h : s ≠ 0#64) (w : World) (ht : Tab w) :
    Calls Tryd.prog 21 #[.int .u64 (s.toNat : Int), .int .i64 0] w fun e w' => e = .returned (.tuple #[.int .i64 ((headW s : Nat) : Int), .bool true]) ∧ w' = w := by
  refine (next_any s 0 w ht).mono ?_
  intro e w' hp
  rw [show clamp 0 = 0 from clamp_nat 0 (by omega)] at hp
  obtain ⟨h1, ⟨h2, h3⟩ | ⟨m, h2, h3, _, h5, h6⟩⟩ := hp
  · exfalso
    exact h (bv_ext fun i hi => by rw [h3 i (Nat.zero_le _) hi]; simp)
  · refine ⟨?_, h1.symm⟩
    rw [headW_least ⟨h3, h5, fun i hi => h6 i (Nat.zero_le _) hi⟩]; exact h2
theorem fromK_one {w : World} {v : Value} {r : List Bv} {i : Nat} (h : WIn w v r) (hr : RowsIn r) (hi : i < r.length) (ht : Tab w) :
    Calls Tryd.prog 23 #[v, .int .u64 ((one i).toNat : Int)] w fun e w' => e = .returned (.tuple #[.int .u64 ((allR r (one i)).toNat : Int), .int .i64 0]) ∧ Below w.heap.size w w' := by
  have c : ckW r [one i] = 0 := ckW_one.2 ⟨hr, setIn_one hi hr.len⟩
  have := from_any (one i) h ht
  rwa [c, frR_ok c] at this
/-- the least number of the part before -/
def lastP (p : List Bv) : Nat → Int
  | 0 => -1
  | j + 1 => ((headW (wAt p j) : Nat) : Int)
theorem wAt_mem {p : List Bv} {j : Nat} (h : j < p.length) : wAt p j ∈ p := by
  unfold wAt; rw [List.getD, List.getElem?_eq_getElem h]; exact List.getElem_mem h
theorem last_less {r : List Bv} (hr : RowsIn r) {j : Nat} (hj : j < (partsR r).length) : lastP (partsR r) j < ((headW (wAt (partsR r) j) : Nat) : Int) := by
  cases j with
  | zero => show (-1 : Int) < _; omega
  | succ j =>
    show ((headW (wAt (partsR r) j) : Nat) : Int) < _
    have := List.pairwise_iff_getElem.1 (parts_up hr) j (j + 1) (by omega) hj (by omega)
    unfold wAt
    rw [List.getD, List.getD, List.getElem?_eq_getElem hj, List.getElem?_eq_getElem (show j < (partsR r).length by omega)]
    show ((headW (partsR r)[j] : Nat) : Int) < ((headW (partsR r)[j + 1] : Nat) : Int)
    omega
theorem part_nz {r : List Bv} (hr : RowsIn r) {j : Nat} (hj : j < (partsR r).length) : wAt (partsR r) j ≠ 0#64 := nonzero_iff.2 (part_some hr hj)
theorem part_walks {r : List Bv} (hr : RowsIn r) {a b : Nat} (ha : a < r.length) (hb : b < r.length) : (∃ k, k < (partsR r).length ∧ (hasI (wAt (partsR r) k) (a : Int) && hasI (wAt (partsR r) k) (b : Int)) = true) ↔ ((allR r (one a)).getLsbD b && (allR r (one b)).getLsbD a) = true := by
  rw [Bool.and_eq_true, all_one hr ha, all_one hr hb]
  refine Iff.trans ?_ (parts_one hr ha hb)
  constructor
  · rintro ⟨k, h1, h2⟩
    rw [hasI_nat, hasI_nat, Bool.and_eq_true] at h2
    exact ⟨k, h1, h2.1, h2.2⟩
  · rintro ⟨k, h1, h2, h3⟩
    refine ⟨k, h1, ?_⟩
    rw [hasI_nat, hasI_nat, h2, h3]; rfl
set_option maxHeartbeats 16000000 in
theorem knotParts_any {w : World} {v : Value} {r : List Bv} (a b : Int) (h : WIn w v r) (ht : Tab w) :
    Calls Tryd.prog 4 #[v, .int .i64 a, .int .i64 b] w fun e w' => e = .returned (.bool true) ∧ Below w.heap.size w w' := by
  have BX : Hid (∀ W, W = (w.alloc (.cells #[.int .i64 a] 3)).alloc (.cells #[.int .i64 b] 3) → Below w.heap.size w W ∧ (∀ W', Below W.heap.size W W' → Below w.heap.size w W' ∧ W'.cell? ⟨w.heap.size, 0, none⟩ = some (.int .i64 a) ∧ W'.cell? ⟨w.heap.size + 1, 0, none⟩ = some (.int .i64 b))) := fun W hW => by
    have q1 := below_al w (.cells #[.int .i64 a] 3)
    have k1 := blk_new w #[.int .i64 a] 3
    have q2 := below_al (w.alloc (.cells #[.int .i64 a] 3)) (.cells #[.int .i64 b] 3)
    have k2 := blk_new (w.alloc (.cells #[.int .i64 a] 3)) #[.int .i64 b] 3
    have k3 := k1.later q2
    have hs : (w.alloc (.cells #[.int .i64 a] 3)).heap.size = w.heap.size + 1 := by simp
    rw [← hW] at q2 k2 k3
    rw [hs] at k2
    have q := q1.trans (q2.mono q1.size)
    refine ⟨q, fun W' hW' => ⟨q.trans (hW'.mono q.size), ?_, ?_⟩⟩
    · exact (k3.later hW').cell rfl
    · exact (k2.later hW').cell rfl
  have H := Lib.hid (fun W (hW : Below w.heap.size w W) => h.later hW)
  have TB := Lib.hid (fun W (hW : Below w.heap.size w W) => ht.below hW ht.1)
  have OK : Hid (ckR r = 0 → partsA r = partsR r ∧ RowsIn r ∧ (partsR r).length ≤ 64) := fun h => by
    have hr := ckR_zero h
    have := parts_le r
    have := hr.len
    exact ⟨partsA_ok h, hr, by omega⟩
  have BD : Hid (ckR r ≠ 0 → partsA r = []) := partsA_bad
  obtain ⟨va, vc, rfl, hc0⟩ := h
  clear ht hc0
  go_enter Tryd.func4, Tryd.ntmps4
  go_wp2_with fail
  generalize hW1 : (w.alloc (.cells #[.int .i64 a] 3)).alloc (.cells #[.int .i64 b] 3) = w1
  obtain ⟨q1, q2⟩ := BX.out w1 hW1.symm
  have Q1 := Lib.hid q1; have Q2 := Lib.hid q2
  clear q1 q2 BX hW1
  refine (knots_true w1 (TB.out _ Q1.out)).mono ?_
  rintro e w2 ⟨rfl, b2⟩
  have B2 := Lib.hid b2
  have PP := Lib.hid (parts_any (H.out _ (Q2.out _ b2).1) (TB.out _ (Q2.out _ b2).1))
  clear b2
  go_wp2_with fail
  refine PP.out.mono ?_
  rintro e w3 ⟨b3, u, rfl, o3⟩
  have B3 := Lib.hid (B2.out.trans (b3.mono B2.out.size))
  have R3 := Lib.hid (Q2.out _ B3.out).1
  clear b3 PP B2
  by_cases hc : ckR r = 0
  · obtain ⟨s1, hr, hpl⟩ := OK.out hc
    rw [s1] at o3
    have P3 := Lib.hid o3.win
    have hl64 := hr.len
    have HR := Lib.hid hr
    have NX := Lib.hid (fun W j hj hW => nextK_any (part_nz hr (j := j) hj) W (TB.out W hW))
    have LL := Lib.hid (fun j hj => last_less hr (j := j) hj)
    have AP := Lib.hid (fun j hj => parts_apart hr (j := j) hj)
    have AE := Lib.hid (parts_all hr)
    have BE := Lib.hid (fun W => belowT_any r.length W hl64)
    have PW := Lib.hid (fun x y hx hy => part_walks hr (a := x) (b := y) hx hy)
    have FR := Lib.hid (fun W (hW : Below w.heap.size w W) x hx => fromK_one (i := x) (H.out W hW) hr hx (TB.out W hW))
    rw [hc]
    clear hc OK BD s1 o3 hr
    generalize partsR r = p at *
    have U0 : Hid (unionTo p 0 = 0#64) := Lib.hid rfl
    have UN : Hid (∀ j, unionTo p (j + 1) = unionTo p j ||| wAt p j) := fun j => rfl
    have L0 : Hid (lastP p 0 = -1) := Lib.hid rfl
    have LN : Hid (∀ j, lastP p (j + 1) = ((headW (wAt p j) : Nat) : Int)) := fun j => rfl
    obtain ⟨pa, pc, rfl, pc0⟩ := P3.out
    have PC : Hid (∀ k, k < p.length → ∃ b off, pa = some ⟨b, off, none⟩ ∧ w3.cell? ⟨b, off + k, none⟩ = some (.int .u64 ((wAt p k).toNat : Int))) := pc0
    have CT := Lib.hid (fun W x y ax bx (hW : Below w3.heap.size w3 W) => conTwo_any (p := ax) (q := bx) (a := x) (b := y) (P3.out.later hW) hpl)
    clear pc0 P3
    generalize p.length = M at *
    generalize r.length = L at *
    go_wp2_with fail
    go_loopw [9, 10, 36] (fun u l i wr => ∃ j : Nat, j ≤ M ∧ i = .int .i64 (j : Int) ∧ u = .int .u64 ((unionTo p j).toNat : Int) ∧ l = .int .i64 (lastP p j) ∧ wr = w3) (fun _ _ i _ => M - (intOf i).toNat)
    case atStart => exact ⟨0, Nat.zero_le _, rfl, by rw [U0.out]; rfl, by rw [L0.out], rfl⟩
    case round =>
      obtain ⟨j, hj, rfl, rfl, rfl, rfl⟩ := hrel
      rename World => wr
      by_cases hjl : j < M
      · obtain ⟨pb, poff, rfl, c1⟩ := PC.out j hjl
        have NXj := Lib.hid (NX.out wr j hjl R3.out)
        have LLj := LL.out j hjl
        have e0 : (bits .and .u64 ((unionTo p j).toNat : Int) ((wAt p j).toNat : Int) != 0) = false := by rw [bv_and, AP.out j hjl]; rfl
        have e1 : bits .or .u64 ((unionTo p j).toNat : Int) ((wAt p j).toNat : Int) = ((unionTo p (j + 1)).toNat : Int) := by rw [bv_or, UN.out]
        have LNj := Lib.hid (LN.out j)
        have i1 : ¬ ((headW (wAt p j) : Nat) : Int) ≤ lastP p j := by omega
        generalize headW (wAt p j) = h0 at *
        generalize wAt p j = s at *
        generalize lastP p j = l0 at *
        generalize hy : (unionTo p (j + 1)).toNat = y at *
        have HY := Lib.hid hy; clear hy
        generalize (unionTo p j).toNat = x at *
        go_wp2_with fail
        refine NXj.out.mono ?_
        rintro e w4 ⟨rfl, rfl⟩
        go_wp2
        go_roundw
        case rel => exact ⟨j + 1, by omega, by go_num, by rw [HY.out], by rw [LNj.out], trivial⟩
        case measure => simp [intOf]; omega
      · obtain rfl : j = M := by omega
        rw [AE.out]
        have t1 : (((low L).toNat : Int) != ((low L).toNat : Int)) = false := by simp
        have ca := (Q2.out _ B3.out).2.1
        have cb := (Q2.out _ B3.out).2.2
        generalize lastP p j = l0 at *
        clear NX LL AP AE U0 UN L0 LN PC
        go_wp2_with fail
        refine (BE.out _).mono ?_
        rintro e w4 ⟨rfl, rfl⟩
        by_cases hx0 : a < 0
        · go_wp2
          go_ret
          exact ⟨rfl, R3.out⟩
        by_cases hx1 : (L : Int) ≤ a
        · go_wp2
          go_ret
          exact ⟨rfl, R3.out⟩
        by_cases hy0 : b < 0
        · go_wp2
          go_ret
          exact ⟨rfl, R3.out⟩
        by_cases hy1 : (L : Int) ≤ b
        · go_wp2
          go_ret
          exact ⟨rfl, R3.out⟩
        obtain ⟨x, rfl⟩ : ∃ x : Nat, a = (x : Int) := ⟨a.toNat, by omega⟩
        obtain ⟨y, rfl⟩ : ∃ y : Nat, b = (y : Int) := ⟨b.toNat, by omega⟩
        have e1 := one_walk x (by omega)
        have e2 := one_walk y (by omega)
        have hx64 : (x : Int) < 64 := by omega
        have hy64 : (y : Int) < 64 := by omega
        have PWx := Lib.hid (PW.out x y (by omega) (by omega))
        have F1 := Lib.hid (fun W hW => FR.out W hW x (by omega))
        have F2 := Lib.hid (fun W hW => FR.out W hW y (by omega))
        have HA1 := Lib.hid (fun W => has_any (allR r (one x)) y W (by omega))
        have HA2 := Lib.hid (fun W => has_any (allR r (one y)) x W (by omega))
        clear PW FR
        generalize (allR r (one x)).getLsbD y = bx at *
        generalize (allR r (one y)).getLsbD x = by' at *
        generalize allR r (one x) = A1 at *
        generalize allR r (one y) = A2 at *
        go_wp2_with fail
        refine (F1.out _ R3.out).mono ?_
        rintro e w5 ⟨rfl, b5⟩
        have R5 := Lib.hid (R3.out.trans (b5.mono R3.out.size))
        have C5 := Lib.hid b5
        have B5 := Lib.hid (B3.out.trans (b5.mono B3.out.size))
        have cb5 := (Q2.out _ B5.out).2.2
        clear b5
        go_wp2_with fail
        refine (F2.out _ R5.out).mono ?_
        rintro e w6 ⟨rfl, b6⟩
        have R6 := Lib.hid (R5.out.trans (b6.mono R5.out.size))
        have C6 := Lib.hid (C5.out.trans (b6.mono C5.out.size))
        have B6 := Lib.hid (B5.out.trans (b6.mono B5.out.size))
        have ca6 := (Q2.out _ B6.out).2.1
        have cb6 := (Q2.out _ B6.out).2.2
        have CT6 := Lib.hid (CT.out w6 _ _ _ _ C6.out ca6 cb6)
        clear b6 F1 F2 CT
        go_wp2_with fail
        refine CT6.out.mono ?_
        have AC : Hid (∀ o, Below w1.heap.size w1 (w6.alloc o)) := fun o => B6.out.alloc B6.out.size o
        have GD : Hid (∀ T, Calls Tryd.prog 27 #[.slice (some ⟨w6.heap.size, 0, none⟩) 2 2] (w6.alloc (.cells #[.int .i64 0, .int .i64 0] T)) fun e w' => e = .returned (.bool true) ∧ w' = w6.alloc (.cells #[.int .i64 0, .int .i64 0] T)) := fun T => (good2_any 0 0 w6 T).mono fun e w' h => by
          rcases h with ⟨⟨h1, _⟩ | ⟨_, h1⟩, h2⟩
          · rcases h1 with h1 | h1 <;> exact absurd rfl h1
          · exact ⟨h1, h2⟩
        have RA : Hid (∀ o, Below w.heap.size w (w6.alloc o)) := fun o => R6.out.alloc R6.out.size o
        have CA : Hid (∀ o, (w6.alloc o).cell? ⟨w.heap.size, 0, none⟩ = some (.int .i64 (x : Int)) ∧ (w6.alloc o).cell? ⟨w.heap.size + 1, 0, none⟩ = some (.int .i64 (y : Int))) := fun o => (Q2.out _ (AC.out o)).2
        have ca7 := fun T => (CA.out (.cells #[.int .i64 0, .int .i64 0] T)).1
        have cb7 := fun T => (CA.out (.cells #[.int .i64 0, .int .i64 0] T)).2
        rintro e w7 ⟨⟨k, hk, hx, rfl⟩ | ⟨hx, rfl⟩, rfl⟩
        · have EE := PWx.out.1 ⟨k, hk, hx⟩
          rw [Bool.and_eq_true] at EE
          obtain ⟨rfl, rfl⟩ := EE
          clear hx CT6 PWx
          go_wp2_with fail
          refine (GD.out _).mono ?_
          rintro e w8 ⟨rfl, rfl⟩
          go_wp2_with fail
          refine (HA1.out _).mono ?_
          rintro e w9 ⟨rfl, rfl⟩
          go_wp2_with fail
          refine (HA2.out _).mono ?_
          rintro e w9 ⟨rfl, rfl⟩
          go_wp2
          go_ret
          exact ⟨rfl, RA.out _⟩
        · have EE : ¬ (bx && by') = true := fun h => by
            obtain ⟨k, hk, hx'⟩ := PWx.out.2 h
            rw [hx k hk] at hx'; cases hx'
          clear hx CT6 PWx
          cases bx
          · go_wp2_with fail
            refine (GD.out _).mono ?_
            rintro e w8 ⟨rfl, rfl⟩
            go_wp2_with fail
            refine (HA1.out _).mono ?_
            rintro e w9 ⟨rfl, rfl⟩
            go_wp2
            go_ret
            exact ⟨rfl, RA.out _⟩
          · have hy' : by' = false := by simpa using EE
            subst hy'
            clear EE
            go_wp2_with fail
            refine (GD.out _).mono ?_
            rintro e w8 ⟨rfl, rfl⟩
            go_wp2_with fail
            refine (HA1.out _).mono ?_
            rintro e w9 ⟨rfl, rfl⟩
            go_wp2_with fail
            refine (HA2.out _).mono ?_
            rintro e w9 ⟨rfl, rfl⟩
            go_wp2
            go_ret
            exact ⟨rfl, RA.out _⟩
  · have t1 := zero_ne hc
    rw [BD.out hc] at o3
    obtain ⟨oa, oc, rfl, _⟩ := o3.win
    generalize ckR r = C at *
    clear hc OK BD o3
    go_wp2
    go_ret
    exact ⟨rfl, R3.out⟩
end Go.Proofs.YtbippnldofalbaaDoor
