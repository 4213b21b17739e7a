/-
  slices.order2Ordered, medianOrdered, medianAdjacentOrdered and choosePivotOrdered at uint64: the index they hand back lies in the part; the row stays as it is. No condition.
-/
import Derived.Test.YtejceacoopgjkaaUPins
import Derived.OneCell
namespace Go.Proofs.Ytejceacoopgjkaa
set_option linter.unusedVariables false
open Go.ChangeShapes Go.WideShapes Go.ChangeAt Go.RowKit
open Go.Sort (swp PermIn SortedIn SWO)

/-- the row, and beside it a new cell at block s that holds a number of kind k -/
def BX (base g cap : Nat) (w0 : World) (d : Array Bv) (s : Nat) (P : Int → Prop) (k : IntKind) (w : World) : Prop :=
  UR base g cap w0 d w ∧ w0.heap.size ≤ s ∧ ∃ (x : Int) (t : TypeId), P x ∧ w.heap[s]? = some (.cells #[.int k x] t (0, 0))
section
variable {base g cap s : Nat} {w0 w : World} {d : Array Bv} {P : Int → Prop} {k : IntKind}
theorem BX.drewN (h : BX base g cap w0 d s P k w) (m : Nat) : BX base g cap w0 d s P k (w.drewN m) := ⟨h.1.drewN m, h.2.1, h.2.2⟩
theorem grown_set (w : World) (b i : Nat) (v : Value) : w.grownBy (w.setCell ⟨b, i, none⟩ v) (some b) :=
  ⟨rfl, rfl, rfl, by rw [World.size_setCell]; exact Nat.le_refl _, fun k _ hr => Below.heap_setCell _ _ _ k (fun e => hr (by rw [e]))⟩
theorem UR.far (h : UR base g cap w0 d w) (hs : w0.heap.size ≤ s) (v : Value) : UR base g cap w0 d (w.setCell ⟨s, 0, none⟩ v) := by
  have hne : g ≠ s := by have := h.2.2; omega
  refine ⟨ownsRow_setCell_other h.1 (by intro e; exact hne (by simpa [Value.ownBlock] using e)) v, ?_, h.2.2⟩
  have k := grown_set w s 0 v
  exact ⟨k.os.trans h.2.1.os, k.tape.trans h.2.1.tape, k.output.trans h.2.1.output, Nat.le_trans h.2.1.size k.size, fun i hi hr => (k.block i (Nat.lt_of_lt_of_le hi h.2.1.size) (by intro e; cases e; omega)).trans (h.2.1.block i hi hr)⟩
theorem BX.put (h : BX base g cap w0 d s P k w) {y : Int} (hy : P y) : BX base g cap w0 d s P k (w.setCell ⟨s, 0, none⟩ (.int k y)) := by
  obtain ⟨h1, h2, x, t, _, hc⟩ := h
  exact ⟨h1.far h2 _, h2, y, t, hy, one_setCell hc⟩
theorem BX.look (h : BX base g cap w0 d s P k w) : ∃ x, P x ∧ w.cell? ⟨s, 0, none⟩ = some (.int k x) ∧ w.frozen? ⟨s, 0, none⟩ = false := by
  obtain ⟨-, -, x, t, hp, hc⟩ := h
  exact ⟨x, hp, cell_of_one hc, free_of_one hc⟩
theorem UR.box (h : UR base g cap w0 d w) {x : Int} (hx : P x) (t : TypeId) : BX base g cap w0 d w.heap.size P k (w.alloc (.cells #[.int k x] t (0, 0))) :=
  ⟨h.alloc _, h.2.1.size, x, t, hx, (Array.getElem?_push_size (xs := w.heap))⟩
end

set_option maxHeartbeats 2000000 in
theorem order2_any (base g cap a b s : Nat) (w0 : World) (d : Array Bv) (w : World) (h : BX base g cap w0 d s (fun _ => True) .i64 w) (ha : a < d.size) (hb : b < d.size) (hn : d.size ≤ 1000000000000000) :
    Calls Try.prog 82 #[.slice (some ⟨g, 0, none⟩) d.size cap, .int .i64 a, .int .i64 b, .pointer (some ⟨s, 0, none⟩)] w fun e w' => ∃ p q : Nat, e = .returned (.tuple #[.int .i64 p, .int .i64 q]) ∧ (p = a ∨ p = b) ∧ (q = a ∨ q = b) ∧ BX base g cap w0 d s (fun _ => True) .i64 w' := by
  have H := Lib.hid h; clear h
  have c1 := H.out.1.cell (i := a) ha
  have c2 := H.out.1.cell (i := b) hb
  generalize d[a]! = xa at c1
  generalize d[b]! = xb at c2
  have z1 : (a : Int) < (d.size : Int) := by omega
  have z2 : (b : Int) < (d.size : Int) := by omega
  go_enter Try.func82, Try.ntmps82
  go_wp2_with fail
  go_quiet (first | (go_at_call 60; exact Calls.quiet_of_same (less_any _ _ _)))
  have HU : Hid (BX base g cap w0 d s (fun _ => True) .i64 (w.drewN nq)) := H.out.drewN nq
  clear c1 c2 H
  generalize w.drewN nq = w2 at HU ⊢
  obtain ⟨x, -, hc, hf⟩ := HU.out.look
  generalize ltU xb xa = t
  cases t
  · go_wp2
    go_ret2
    exact ⟨a, b, rfl, .inl rfl, .inr rfl, HU.out⟩
  · go_wp2
    go_ret2
    exact ⟨b, a, rfl, .inr rfl, .inl rfl, HU.out.put True.intro⟩

set_option maxHeartbeats 2000000 in
theorem median_any (base g cap a b c s : Nat) (w0 : World) (d : Array Bv) (w : World) (h : BX base g cap w0 d s (fun _ => True) .i64 w) (ha : a < d.size) (hb : b < d.size) (hc : c < d.size) (hn : d.size ≤ 1000000000000000) :
    Calls Try.prog 77 #[.slice (some ⟨g, 0, none⟩) d.size cap, .int .i64 a, .int .i64 b, .int .i64 c, .pointer (some ⟨s, 0, none⟩)] w fun e w' => ∃ r : Nat, e = .returned (.int .i64 r) ∧ (r = a ∨ r = b ∨ r = c) ∧ BX base g cap w0 d s (fun _ => True) .i64 w' := by
  go_enter Try.func77, Try.ntmps77
  go_wp2_with fail
  refine (order2_any base g cap a b s w0 d w h ha hb hn).mono ?_
  rintro e w1 ⟨p1, q1, rfl, hp1, hq1, H1⟩
  have lp1 : p1 < d.size := by omega
  have lq1 : q1 < d.size := by omega
  go_wp2_with fail
  refine (order2_any base g cap q1 c s w0 d w1 H1 lq1 hc hn).mono ?_
  rintro e w2 ⟨p2, q2, rfl, hp2, hq2, H2⟩
  have lp2 : p2 < d.size := by omega
  go_wp2_with fail
  refine (order2_any base g cap p1 p2 s w0 d w2 H2 lp1 lp2 hn).mono ?_
  rintro e w3 ⟨p3, q3, rfl, hp3, hq3, H3⟩
  go_wp2
  go_ret
  exact ⟨q3, rfl, by omega, H3⟩

set_option maxHeartbeats 2000000 in
theorem medAdj_any (base g cap a b c s : Nat) (w0 : World) (d : Array Bv) (w : World) (h : BX base g cap w0 d s (fun _ => True) .i64 w) (e1 : a + 1 = b) (e2 : b + 1 = c) (hc : c < d.size) (hn : d.size ≤ 1000000000000000) :
    Calls Try.prog 76 #[.slice (some ⟨g, 0, none⟩) d.size cap, .int .i64 b, .pointer (some ⟨s, 0, none⟩)] w fun e w' => ∃ r : Nat, e = .returned (.int .i64 r) ∧ a ≤ r ∧ r ≤ c ∧ BX base g cap w0 d s (fun _ => True) .i64 w' := by
  have q1 : (b : Int) - 1 = (a : Int) := by omega
  have q2 : (b : Int) + 1 = (c : Int) := by omega
  have l1 : a < b := by omega
  have l2 : b < c := by omega
  clear e1 e2
  go_enter Try.func76, Try.ntmps76
  go_wp2_with fail
  refine (median_any base g cap a b c s w0 d w h (by omega) (by omega) hc hn).mono ?_
  rintro e w1 ⟨r, rfl, hr, H1⟩
  go_wp2
  go_ret
  exact ⟨r, rfl, by omega, by omega, H1⟩

set_option maxRecDepth 100000 in
set_option maxHeartbeats 4000000 in
theorem choose_any (base g cap a b : Nat) (w0 : World) (d : Array Bv) (w : World) (h : UR base g cap w0 d w) (hab : a + 12 < b) (hb : b ≤ d.size) (hn : d.size ≤ 1000000000000000) :
    Calls Try.prog 57 #[.slice (some ⟨g, 0, none⟩) d.size cap, .int .i64 a, .int .i64 b] w fun e w' => ∃ p t : Nat, e = .returned (.tuple #[.int .i64 p, .int .i64 t]) ∧ a ≤ p ∧ p < b ∧ UR base g cap w0 d w' := by
  have H := Lib.hid h; clear h
  obtain ⟨L, hL⟩ : ∃ L, b = a + L := ⟨b - a, by omega⟩
  have eL : (b : Int) - (a : Int) = (L : Int) := by omega
  obtain ⟨Q, hQ, eQ⟩ : ∃ Q : Nat, Q = L / 4 ∧ (L : Int).tdiv 4 = (Q : Int) := ⟨L / 4, rfl, (Int.ofNat_tdiv L 4).symm⟩
  have h8 : (8 : Int) ≤ (L : Int) := by omega
  have hQ1 : 3 ≤ Q := by omega
  have hQ2 : 4 * Q ≤ L := by omega
  have HB : Hid (a + 3 * Q + 2 < b) := by show _ < _; omega
  have hQ3 : a + 3 * Q < b := by omega
  obtain ⟨i, hi⟩ : ∃ i, i = a + Q := ⟨_, rfl⟩
  obtain ⟨j, hj⟩ : ∃ j, j = a + Q * 2 := ⟨_, rfl⟩
  obtain ⟨k, hk⟩ : ∃ k, k = a + Q * 3 := ⟨_, rfl⟩
  have ei : (a : Int) + (Q : Int) = (i : Int) := by omega
  have ej : (a : Int) + (Q : Int) * 2 = (j : Int) := by omega
  have ek : (a : Int) + (Q : Int) * 3 = (k : Int) := by omega
  have li : a + 2 < i := by omega
  have lj : a + 2 < j := by omega
  have lk : a + 2 < k := by omega
  have ui : i + 2 < b := by omega
  have uj : j + 2 < b := by omega
  have uk : k + 2 < b := by omega
  clear hQ hL hi hj hk
  have HA : Hid _ := UR.box (P := fun _ => True) (k := .i64) (x := 0) H.out True.intro 3
  generalize hwa : w.alloc (.cells #[.int .i64 0] 3 (0, 0)) = wa at HA
  by_cases h50 : (50 : Int) ≤ (L : Int)
  · go_enter Try.func57, Try.ntmps57
    go_wp2_with fail
    generalize w.heap.size = s at HA ⊢
    refine (medAdj_any base g cap (i - 1) i (i + 1) s w0 d wa HA.out (by omega) rfl (by omega) hn).mono ?_
    rintro e w1 ⟨r1, rfl, l1, u1, H1⟩
    have H1 := Lib.hid H1
    go_wp2_with fail
    refine (medAdj_any base g cap (j - 1) j (j + 1) s w0 d w1 H1.out (by omega) rfl (by omega) hn).mono ?_
    rintro e w2 ⟨r2, rfl, l2, u2, H2⟩
    have H2 := Lib.hid H2
    go_wp2_with fail
    refine (medAdj_any base g cap (k - 1) k (k + 1) s w0 d w2 H2.out (by omega) rfl (by omega) hn).mono ?_
    rintro e w3 ⟨r3, rfl, l3, u3, H3⟩
    have H3 := Lib.hid H3
    go_wp2_with fail
    refine (median_any base g cap r1 r2 r3 s w0 d w3 H3.out (by omega) (by omega) (by omega) hn).mono ?_
    rintro e w4 ⟨r, rfl, hr, H4⟩
    have H4 := Lib.hid H4
    have lr : a ≤ r := by omega
    have ur : r < b := by omega
    obtain ⟨x, -, hc, hf⟩ := H4.out.look
    clear hr H3 H2 H1 HA
    go_wp2
    all_goals go_ret2
    all_goals exact ⟨r, _, rfl, lr, ur, H4.out.1⟩
  · go_enter Try.func57, Try.ntmps57
    go_wp2_with fail
    generalize w.heap.size = s at HA ⊢
    refine (median_any base g cap i j k s w0 d wa HA.out (by omega) (by omega) (by omega) hn).mono ?_
    rintro e w4 ⟨r, rfl, hr, H4⟩
    have H4 := Lib.hid H4
    have lr : a ≤ r := by omega
    have ur : r < b := by omega
    obtain ⟨x, -, hc, hf⟩ := H4.out.look
    clear hr HA
    go_wp2
    all_goals go_ret2
    all_goals exact ⟨r, _, rfl, lr, ur, H4.out.1⟩
end Go.Proofs.Ytejceacoopgjkaa
