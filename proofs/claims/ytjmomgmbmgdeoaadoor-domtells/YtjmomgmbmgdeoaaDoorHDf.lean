/-
  The law DomTells, whatever its arguments. Condition: the table of math/bits lies in memory as its text lays it (the card ties this).
-/
import Derived.Test.YtjmomgmbmgdeoaaDoorHDe
namespace Go.Proofs.YtjmomgmbmgdeoaaDoor
set_option maxRecDepth 100000
set_option linter.unusedVariables false
open Go.ChangeShapes Go.WideShapes Go.ChangeAt Go.RowKit

/-- what the three calls hand back, and the law's own calls, in all worlds that grew out of the first -/
theorem tells_doms {w : World} {v : Value} {r : List Bv} (o : Int) (h : WIn w v r) (ht : Tab w) : ∀ W, Below w.heap.size w W → Calls Tryd.prog 7 #[v, .int .i64 o] W fun e w' =>
    ∃ a c, e = .returned (.tuple #[.slice a (domsA r o).length c, .int .i64 (rangeC r [o])]) ∧ ZIn w' (.slice a (domsA r o).length c) (domsA r o) ∧ Below W.heap.size W w' := fun W hW =>
  (domsP_any o (h.later hW) (ht.below hW ht.1)).mono fun _ _ ⟨h1, u, h2, h3⟩ => by
    obtain ⟨a, c, rfl, hc⟩ := h3.zin
    exact ⟨a, c, h2, ⟨a, c, rfl, hc⟩, h1⟩
theorem tells_over {w : World} {v : Value} {r : List Bv} (o b : Int) (h : WIn w v r) (ht : Tab w) : ∀ W, Below w.heap.size w W → Calls Tryd.prog 8 #[v, .int .i64 o, .int .i64 b] W fun e w' =>
    ∃ a c, e = .returned (.tuple #[.slice a (overA r o b).length c, .int .i64 (rangeC r [o, b])]) ∧ NI w' (.slice a (overA r o b).length c) (overA r o b) ∧ Below W.heap.size W w' := fun W hW =>
  (overP_any o b (h.later hW) (ht.below hW ht.1)).mono fun _ _ ⟨h1, u, h2, h3⟩ => by
    obtain ⟨a, c, rfl, hc⟩ := h3.ni
    exact ⟨a, c, h2, ⟨a, c, rfl, hc⟩, h1⟩
theorem tells_fault {w : World} {v : Value} {r : List Bv} (h : WIn w v r) : ∀ W, Below w.heap.size w W → Calls Tryd.prog 10 #[v, .slice none 0 0] W fun e w' => e = .returned (.int .i64 (ckR r)) ∧ Below W.heap.size W w' := fun W hW => by
  have := rowsFaultZ_any (h.later hW) (winD_nil W) (by simp)
  rwa [ckW_nil] at this
theorem tells_ranged {W : World} {r : List Bv} {a : Option Addr} {c q1 q2 n : Nat} (hn : W.heap.size = n) (h1 : W.cell? ⟨q1, 0, none⟩ = some (.int .i64 (ckR r))) (h2 : W.cell? ⟨q2, 0, none⟩ = some (.slice a r.length c)) (x : Int) (t : TypeId) :
    Calls Tryd.prog 11 #[.slice (some ⟨n, 0, none⟩) 1 1, .pointer (some ⟨q1, 0, none⟩), .pointer (some ⟨q2, 0, none⟩)] (W.alloc (.cells #[.int .i64 x] t)) fun e w' => e = .returned (.int .i64 (rangeC r [x])) ∧ Below W.heap.size W w' := by
  subst hn
  exact (ranged_any (zin_one W x t) (cell_later (below_al W _) h1) (cell_later (below_al W _) h2)).mono fun _ _ ⟨e1, e2⟩ => ⟨e1, by rw [e2]; exact below_al W _⟩
set_option maxHeartbeats 4000000 in
theorem domTells_bad {w : World} {v : Value} {r : List Bv} (o a b : Int) (h : WIn w v r) (ht : Tab w) (hc : rangeC r [o] ≠ 0) :
    Calls Tryd.prog 3 #[v, .int .i64 o, .int .i64 a, .int .i64 b] w fun e w' => e = .returned (.bool true) ∧ Below w.heap.size w w' := by
  have C2 : rangeC r [o, b] = rangeC r [o] := range_sub (by simp) hc
  have C3 : rangeC r [o, a, b] = rangeC r [o] := range_sub (by simp) hc
  have DO := Lib.hid (tells_doms o h ht)
  have OV := Lib.hid (tells_over o b h ht)
  have RU : Hid (∀ W, Below w.heap.size w W → Calls Tryd.prog 9 #[v, .int .i64 o, .int .i64 a, .int .i64 b] W fun e w' => e = .returned (.tuple #[.bool (rulesA r o a b), .int .i64 (rangeC r [o, a, b])]) ∧ Below W.heap.size W w') := fun W hW => rulesP_any o a b (h.later hW) (ht.below hW ht.1)
  have RF := Lib.hid (tells_fault h)
  have D0 : (domsA r o).length = 0 := by rw [domsA_bad hc]; rfl
  have O0 : (overA r o b).length = 0 := by rw [overA_bad (by rw [C2]; exact hc)]; rfl
  have R0 : rulesA r o a b = false := rulesA_bad (by rw [C3]; exact hc)
  rw [D0] at DO
  rw [O0, C2] at OV
  rw [R0, C3] at RU
  have t1 := zero_ne hc
  have t2 := eqD_same (rangeC r [o])
  have BX : Hid (∀ T, Blk w.heap.size #[v] T (w.alloc (.cells #[v] T))) := fun T => blk_new w #[v] T
  have BA : Hid (∀ T, Below w.heap.size w (w.alloc (.cells #[v] T)) ∧ (w.alloc (.cells #[v] T)).heap.size = w.heap.size + 1) := fun T => ⟨below_al w _, by simp⟩
  clear D0 O0 R0 C2 C3
  obtain ⟨sa, sc, rfl, _⟩ := h
  clear ht hc
  have RG := Lib.hid (fun W q1 q2 n hn h1 h2 t => tells_ranged (W := W) (r := r) (a := sa) (c := sc) (q1 := q1) (q2 := q2) (n := n) hn h1 h2 o t)
  generalize rangeC r [o] = C at *
  generalize ckR r = E at *
  generalize domsA r o = D at *
  generalize overA r o b = P at *
  generalize r.length = L at *
  have en := Tryd.call11
  go_enter Tryd.func3, Tryd.ntmps3
  go_wp2_with fail
  obtain ⟨bA, sA⟩ := BA.out 22
  have B1 := Lib.hid bA; have K1 : Hid (World.cell? (w.alloc (.cells #[Value.slice sa L sc] 22)) ⟨w.heap.size, 0, none⟩ = some (Value.slice sa L sc)) := Lib.hid ((BX.out 22).cell (i := 0) rfl)
  clear bA sA BA BX
  generalize w.alloc (.cells #[Value.slice sa L sc] 22) = w1 at *
  refine (DO.out _ B1.out).mono ?_
  rintro e w2 ⟨a2, c2, rfl, _, b2⟩
  have B2 := Lib.hid (B1.out.trans (b2.mono B1.out.size)); have k2 := cell_later b2 K1.out; have K2 := Lib.hid k2; clear b2 DO B1 K1
  go_wp2_with fail
  refine (OV.out _ B2.out).mono ?_
  rintro e w3 ⟨a3, c3, rfl, _, b3⟩
  clear k2
  have B3 := Lib.hid (B2.out.trans (b3.mono B2.out.size)); have k3 := cell_later b3 K2.out; have K3 := Lib.hid k3; clear b3 OV B2 K2
  go_wp2_with fail
  refine (RU.out _ B3.out).mono ?_
  rintro e w4 ⟨rfl, b4⟩
  clear k3
  have B4 := Lib.hid (B3.out.trans (b4.mono B3.out.size)); have k4 := cell_later b4 K3.out; have K4 := Lib.hid k4; clear b4 RU B3 K3
  go_wp2_with fail
  refine (RF.out _ B4.out).mono ?_
  rintro e w5 ⟨rfl, b5⟩
  clear k4
  have B5 := Lib.hid (B4.out.trans (b5.mono B4.out.size)); have K5 := Lib.hid (cell_later b5 K4.out); clear b5 RF B4 K4
  have BY : Hid (∀ T, (w5.alloc (.cells #[.int .i64 E] T)).cell? ⟨w5.heap.size, 0, none⟩ = some (.int .i64 E) ∧ Below w5.heap.size w5 (w5.alloc (.cells #[.int .i64 E] T)) ∧ (w5.alloc (.cells #[.int .i64 E] T)).heap.size = w5.heap.size + 1) := fun T => ⟨(blk_new w5 _ T).cell (i := 0) rfl, below_al w5 _, by simp⟩
  go_wp2_with fail
  obtain ⟨k6, b6, s6⟩ := BY.out 24
  have j6 := cell_later b6 K5.out
  have B6 := Lib.hid (B5.out.trans (b6.mono B5.out.size))
  clear b6 B5 K5 BY
  generalize w5.alloc (.cells #[Value.int .i64 E] 24) = w6 at *
  refine (RG.out w6 w5.heap.size w.heap.size _ s6 k6 j6 _).mono ?_
  rintro e w7 ⟨rfl, b7⟩
  have B7 := Lib.hid (B6.out.trans (b7.mono B6.out.size))
  clear b7 B6 RG k6 j6 s6
  go_wp2
  go_ret
  exact ⟨rfl, B7.out⟩
end Go.Proofs.YtjmomgmbmgdeoaaDoor
