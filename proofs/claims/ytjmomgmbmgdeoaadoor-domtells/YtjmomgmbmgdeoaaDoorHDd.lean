/-
  Package dom's Over, Rules, Doms, whatever their arguments. Condition: the table of math/bits lies in memory as its text lays it (the card ties this).
-/
import Derived.Test.YtjmomgmbmgdeoaaDoorHDo
namespace Go.Proofs.YtjmomgmbmgdeoaaDoor
set_option maxRecDepth 100000
set_option linter.unusedVariables false
open Go.ChangeShapes Go.WideShapes Go.ChangeAt Go.RowKit

theorem zin_one (w : World) (a : Int) (t : TypeId) : ZIn (w.alloc (.cells #[.int .i64 a] t)) (.slice (some ⟨w.heap.size, 0, none⟩) 1 1) [a] :=
  ⟨_, 1, rfl, fun k hk => ⟨w.heap.size, 0, rfl, by
    obtain rfl : k = 0 := by simpa using hk
    exact (blk_new w #[.int .i64 a] t).cell rfl⟩⟩
theorem zin_two (w : World) (a b : Int) (t : TypeId) : ZIn (w.alloc (.cells #[.int .i64 a, .int .i64 b] t)) (.slice (some ⟨w.heap.size, 0, none⟩) 2 2) [a, b] :=
  ⟨_, 2, rfl, fun k hk => ⟨w.heap.size, 0, rfl, by
    have B := blk_new w #[.int .i64 a, .int .i64 b] t
    match k, hk with
    | 0, _ => exact B.cell rfl
    | 1, _ => exact B.cell rfl⟩⟩
theorem zin_three (w : World) (a b c : Int) (t : TypeId) : ZIn (w.alloc (.cells #[.int .i64 a, .int .i64 b, .int .i64 c] t)) (.slice (some ⟨w.heap.size, 0, none⟩) 3 3) [a, b, c] :=
  ⟨_, 3, rfl, fun k hk => ⟨w.heap.size, 0, rfl, by
    have B := blk_new w #[.int .i64 a, .int .i64 b, .int .i64 c] t
    match k, hk with
    | 0, _ => exact B.cell rfl
    | 1, _ => exact B.cell rfl
    | 2, _ => exact B.cell rfl⟩⟩

/-! Over -/
/-- what Over hands back -/
noncomputable def overA (r : List Bv) (o n : Int) : List Nat := if rangeC r [o, n] = 0 then overR r o.toNat n.toNat else []
theorem overA_ok {r : List Bv} {o n : Int} (h : rangeC r [o, n] = 0) : overA r o n = overR r o.toNat n.toNat := by unfold overA; rw [if_pos h]
theorem overA_bad {r : List Bv} {o n : Int} (h : rangeC r [o, n] ≠ 0) : overA r o n = [] := by unfold overA; rw [if_neg h]
theorem range_one {r : List Bv} {o : Int} (h : rangeC r [o] = 0) : RowsIn r ∧ ∃ p : Nat, o = (p : Int) ∧ p < r.length := by
  obtain ⟨hr, ha⟩ := range_zero.1 h
  have h1 := ha o (by simp)
  exact ⟨hr, o.toNat, by omega, by omega⟩
theorem range_two {r : List Bv} {o n : Int} (h : rangeC r [o, n] = 0) : RowsIn r ∧ ∃ p k : Nat, o = (p : Int) ∧ n = (k : Int) ∧ p < r.length ∧ k < r.length := by
  obtain ⟨hr, ha⟩ := range_zero.1 h
  have h1 := ha o (by simp)
  have h2 := ha n (by simp)
  exact ⟨hr, o.toNat, n.toNat, by omega, by omega, by omega, by omega⟩
theorem range_three {r : List Bv} {o a b : Int} (h : rangeC r [o, a, b] = 0) : RowsIn r ∧ ∃ p k m : Nat, o = (p : Int) ∧ a = (k : Int) ∧ b = (m : Int) ∧ p < r.length ∧ k < r.length ∧ m < r.length := by
  obtain ⟨hr, ha⟩ := range_zero.1 h
  have h1 := ha o (by simp)
  have h2 := ha a (by simp)
  have h3 := ha b (by simp)
  exact ⟨hr, o.toNat, a.toNat, b.toNat, by omega, by omega, by omega, by omega, by omega, by omega⟩
def OverPost (r : List Bv) (o n : Int) (w : World) (e : Ending) (w' : World) : Prop :=
  Below w.heap.size w w' ∧ ∃ u, e = .returned (.tuple #[u, .int .i64 (rangeC r [o, n])]) ∧ NO w.heap.size u (overA r o n) w'
set_option maxHeartbeats 4000000 in
theorem overP_any {w : World} {v : Value} {r : List Bv} (o n : Int) (h : WIn w v r) (ht : Tab w) : Calls Tryd.prog 8 #[v, .int .i64 o, .int .i64 n] w (OverPost r o n w) := by
  have CK : Hid (∀ T, Calls Tryd.prog 22 #[v, .slice (some ⟨w.heap.size, 0, none⟩) 2 2] (w.alloc (.cells #[.int .i64 o, .int .i64 n] T)) fun e w' => e = .returned (.int .i64 (rangeC r [o, n])) ∧ w' = w.alloc (.cells #[.int .i64 o, .int .i64 n] T)) := fun T =>
    checkD_any (h.later (below_al w _)) (zin_two w o n T) (by simp)
  have BA : Hid (∀ T, Below w.heap.size w (w.alloc (.cells #[.int .i64 o, .int .i64 n] T))) := fun T => below_al w _
  have EA : Hid (∀ W (p : Nat), Below w.heap.size w W → RowsIn r → p < r.length → Calls Tryd.prog 23 #[v, .int .i64 (p : Int)] W fun e w' => ∃ u, e = .returned u ∧ WIn w' u (ruL r p) ∧ Below W.heap.size W w') := fun W p hW hr hp =>
    (each_any (h.later hW) hr hp (ht.below hW ht.1)).mono fun _ _ ⟨b, h1, h2, h3⟩ => ⟨_, h1, WO.win (B := W.heap.size) (by unfold WO at *; rw [ruL_length] at *; exact h2), h3⟩
  have OV := Lib.hid (fun W u p k (hu : WIn W u (ruL r p)) (hr : RowsIn r) (hp : p < r.length) (hk : k < r.length) => overD_any hu hr hp hk)
  have R2 : Hid (rangeC r [o, n] = 0 → RowsIn r ∧ ∃ p k : Nat, o = (p : Int) ∧ n = (k : Int) ∧ p < r.length ∧ k < r.length ∧ overA r o n = overR r p k) := fun h => by
    obtain ⟨hr, p, k, rfl, rfl, hp, hk⟩ := range_two h
    exact ⟨hr, p, k, rfl, rfl, hp, hk, overA_ok h⟩
  have BD : Hid (rangeC r [o, n] ≠ 0 → overA r o n = []) := overA_bad
  have RP : Hid (∀ e w', OverPost r o n w e w' ↔ (Below w.heap.size w w' ∧ ∃ u, e = .returned (.tuple #[u, .int .i64 (rangeC r [o, n])]) ∧ NO w.heap.size u (overA r o n) w')) := fun _ _ => Iff.rfl
  obtain ⟨a, c, rfl, _⟩ := h
  clear ht
  generalize rangeC r [o, n] = C at *
  generalize overA r o n = ov at *
  generalize r.length = L at *
  go_enter Tryd.func8, Tryd.ntmps8
  go_wp2_with fail
  refine (CK.out _).mono ?_
  rintro e w1 ⟨rfl, rfl⟩
  have B1 := Lib.hid (BA.out 3)
  clear CK BA
  generalize w.alloc (.cells #[.int .i64 o, .int .i64 n] 3) = w1 at *
  by_cases hz : C = 0
  · obtain ⟨hr, p, k, rfl, rfl, hp, hk, rfl⟩ := R2.out hz
    have E1 := Lib.hid (EA.out w1 p B1.out hr hp)
    have O1 := Lib.hid (fun W u (hu : WIn W u (ruL r p)) => OV.out W u p k hu hr hp hk)
    subst hz
    clear EA OV R2 BD hr
    go_wp2_with fail
    refine E1.out.mono ?_
    rintro e w2 ⟨u, rfl, hu, b2⟩
    have B2 := Lib.hid (B1.out.trans (b2.mono B1.out.size))
    have O2 := Lib.hid (O1.out w2 u hu)
    clear b2 hu O1 E1
    go_wp2_with fail
    refine O2.out.mono ?_
    rintro e w3 ⟨x, rfl, o3, b3⟩
    have B3 := Lib.hid (B2.out.trans (b3.mono B2.out.size))
    have O3 := Lib.hid (no_base o3 B2.out.size)
    clear b3 o3 O2
    go_wp2
    go_ret2
    exact (RP.out _ _).2 ⟨B3.out, _, rfl, O3.out⟩
  · have t1 := zero_ne hz
    have E := Lib.hid (BD.out hz)
    clear hz R2 BD EA OV
    go_wp2
    go_ret2
    exact (RP.out _ _).2 ⟨B1.out, _, rfl, by rw [E.out]; exact no_nil _ _⟩

/-! Rules -/
open Classical in
/-- what Rules hands back -/
noncomputable def rulesA (r : List Bv) (o a b : Int) : Bool := if rangeC r [o, a, b] = 0 then decide (Dm r o.toNat a.toNat b.toNat) else false
theorem rulesA_ok {r : List Bv} {p k m : Nat} (h : rangeC r [(p : Int), (k : Int), (m : Int)] = 0) : rulesA r (p : Int) (k : Int) (m : Int) = true ↔ Dm r p k m := by
  unfold rulesA
  rw [if_pos h]
  exact @decide_eq_true_iff _ (Classical.propDecidable _)
theorem rulesA_bad {r : List Bv} {o a b : Int} (h : rangeC r [o, a, b] ≠ 0) : rulesA r o a b = false := by unfold rulesA; rw [if_neg h]
theorem ret_bc {a b : Bool} {c : Int} (h : a = b) : Ending.returned (.tuple #[.bool a, .int .i64 c]) = .returned (.tuple #[.bool b, .int .i64 c]) := by rw [h]
set_option maxHeartbeats 4000000 in
theorem rulesP_any {w : World} {v : Value} {r : List Bv} (o a b : Int) (h : WIn w v r) (ht : Tab w) :
    Calls Tryd.prog 9 #[v, .int .i64 o, .int .i64 a, .int .i64 b] w fun e w' => e = .returned (.tuple #[.bool (rulesA r o a b), .int .i64 (rangeC r [o, a, b])]) ∧ Below w.heap.size w w' := by
  have CK : Hid (∀ T, Calls Tryd.prog 22 #[v, .slice (some ⟨w.heap.size, 0, none⟩) 3 3] (w.alloc (.cells #[.int .i64 o, .int .i64 a, .int .i64 b] T)) fun e w' => e = .returned (.int .i64 (rangeC r [o, a, b])) ∧ w' = w.alloc (.cells #[.int .i64 o, .int .i64 a, .int .i64 b] T)) := fun T =>
    checkD_any (h.later (below_al w _)) (zin_three w o a b T) (by simp)
  have BA : Hid (∀ T, Below w.heap.size w (w.alloc (.cells #[.int .i64 o, .int .i64 a, .int .i64 b] T))) := fun T => below_al w _
  have RA : Hid (∀ W (p : Nat), Below w.heap.size w W → RowsIn r → p < r.length → Calls Tryd.prog 25 #[v, .int .i64 (p : Int)] W fun e w' => e = .returned (.int .u64 ((allR r (one p)).toNat : Int)) ∧ Below W.heap.size W w') := fun W p hW hr hp => reachedD_any (h.later hW) hr hp (ht.below hW ht.1)
  have RW : Hid (∀ W (p k : Nat), Below w.heap.size w W → RowsIn r → p < r.length → k < r.length → Calls Tryd.prog 26 #[v, .int .i64 (p : Int), .int .i64 (k : Int)] W fun e w' => e = .returned (.int .u64 ((woW r p k).toNat : Int)) ∧ Below W.heap.size W w') := fun W p k hW hr hp hk => stoppedD_any (h.later hW) hr hp hk (ht.below hW ht.1)
  have R3 : Hid (rangeC r [o, a, b] = 0 → RowsIn r ∧ ∃ p k m : Nat, o = (p : Int) ∧ a = (k : Int) ∧ b = (m : Int) ∧ p < r.length ∧ k < r.length ∧ m < r.length ∧ bits .andNot .u64 ((allR r (one p)).toNat : Int) ((woW r p k).toNat : Int) = ((ruW r p k).toNat : Int) ∧ (bits .and .u64 ((ruW r p k).toNat : Int) (IntKind.u64.wrap (2 ^ m)) != 0) = rulesA r o a b ∧ (m : Int) < 64) := fun h => by
    obtain ⟨hr, p, k, m, rfl, rfl, rfl, hp, hk, hm⟩ := range_three h
    have hl := hr.len
    refine ⟨hr, p, k, m, rfl, rfl, rfl, hp, hk, hm, by rw [bv_andNot]; rfl, ?_, by omega⟩
    rw [and_one _ m (by omega), Bool.eq_iff_iff, ruW_bit hr hp hk, rulesA_ok h]
  have BD : Hid (rangeC r [o, a, b] ≠ 0 → rulesA r o a b = false) := rulesA_bad
  obtain ⟨sa, c, rfl, _⟩ := h
  clear ht
  generalize rangeC r [o, a, b] = C at *
  generalize rulesA r o a b = IS at *
  generalize r.length = L at *
  go_enter Tryd.func9, Tryd.ntmps9
  go_wp2_with fail
  refine (CK.out _).mono ?_
  rintro e w1 ⟨rfl, rfl⟩
  have B1 := Lib.hid (BA.out 3)
  clear CK BA
  generalize w.alloc (.cells #[.int .i64 o, .int .i64 a, .int .i64 b] 3) = w1 at *
  by_cases hz : C = 0
  · obtain ⟨hr, p, k, m, rfl, rfl, rfl, hp, hk, hm, e1, e2, hm64⟩ := R3.out hz
    have E1 := Lib.hid (RA.out w1 p B1.out hr hp)
    have E2 := Lib.hid (fun W hW => RW.out W p k hW hr hp hk)
    subst hz
    clear RA RW R3 BD hr
    generalize (allR r (one p)).toNat = x at *
    generalize (woW r p k).toNat = y at *
    generalize (ruW r p k).toNat = z at *
    go_wp2_with fail
    refine E1.out.mono ?_
    rintro e w2 ⟨rfl, b2⟩
    have B2 := Lib.hid (B1.out.trans (b2.mono B1.out.size))
    have O2 := Lib.hid (E2.out w2 B2.out)
    clear b2 E1 E2
    go_wp2_with fail
    refine O2.out.mono ?_
    rintro e w3 ⟨rfl, b3⟩
    have B3 := Lib.hid (B2.out.trans (b3.mono B2.out.size))
    clear b3 O2
    go_wp2
    go_ret2
    exact ⟨rfl, B3.out⟩
  · have t1 := zero_ne hz
    have E := Lib.hid (BD.out hz)
    clear hz R3 BD RA RW
    go_wp2
    go_ret2
    exact ⟨ret_bc E.out.symm, B1.out⟩

/-! Doms -/
/-- a row of any numbers of one's own -/
def zcells (l : List Int) : List Value := l.map fun n => .int .i64 n
def ZO (B : Nat) (v : Value) (l : List Int) (w : World) : Prop := w.ownsRow B 3 1 v l.length (zcells l)
theorem zeros_z (n : Nat) : (madeCells (Value.cells (.int .i64 0)) (n * 1)).toList = zcells (List.replicate n 0) := by
  rw [Nat.mul_one, show Value.cells (.int .i64 0) = #[.int .i64 0] from rfl, toList_madeCells_one]; unfold zcells; rw [List.map_replicate]
theorem ZO.cell {B : Nat} {g c : Nat} {l : List Int} {w : World} (h : ZO B (.slice (some ⟨g, 0, none⟩) l.length c) l w) {i : Nat} (hi : i < l.length) : w.cell? ⟨g, i, none⟩ = some (.int .i64 (l.getD i 0)) := by
  rw [World.ownsRow.cellAt h i (by omega)]
  unfold zcells
  rw [List.getElem?_map, List.getD, List.getElem?_eq_getElem hi]; rfl
theorem ZO.put {B : Nat} {g c : Nat} {l : List Int} {w : World} (h : ZO B (.slice (some ⟨g, 0, none⟩) l.length c) l w) (i : Nat) (x : Int) :
    ZO B (.slice (some ⟨g, 0, none⟩) l.length c) (l.set i x) (w.setCell ⟨g, i, none⟩ (.int .i64 x)) ∧ w.grownBy (w.setCell ⟨g, i, none⟩ (.int .i64 x)) (some g) := by
  have := World.ownsRow.stored h i (.int .i64 x)
  refine ⟨?_, this.2⟩
  unfold ZO zcells
  rw [List.length_set, List.map_set]
  exact this.1
theorem ZO.zin {B : Nat} {v : Value} {l : List Int} {w : World} (h : ZO B v l w) : ZIn w v l := by
  rcases h.2 with ⟨hv, h0⟩ | ⟨g, cap, cur, hv, _⟩
  · exact ⟨none, 0, by rw [hv, h0], fun k hk => by omega⟩
  · subst hv
    exact ⟨_, cap, rfl, fun k hk => ⟨g, 0, rfl, by rw [Nat.zero_add]; exact ZO.cell h hk⟩⟩
theorem ZIn.later {w w' : World} {v : Value} {l : List Int} (h : ZIn w v l) (hb : Below w.heap.size w w') : ZIn w' v l := by
  obtain ⟨a, cap, h1, h2⟩ := h
  refine ⟨a, cap, h1, fun k hk => ?_⟩
  obtain ⟨b, off, e, c⟩ := h2 k hk
  exact ⟨b, off, e, cell_later hb c⟩
theorem zo_base {B B' : Nat} {v : Value} {l : List Int} {w : World} (h : ZO B v l w) (hb : B' ≤ B) : ZO B' v l w := by
  refine ⟨h.1, h.2.imp id ?_⟩
  rintro ⟨g, cap, cur, h1, h2, h3⟩
  exact ⟨g, cap, cur, h1, Nat.le_trans hb h2, h3⟩
/-- the immediate dominators of all numbers -/
noncomputable def idomL (r : List Bv) (o : Nat) : List Int := (List.range r.length).map (idomR r o)
theorem idomL_length (r : List Bv) (o : Nat) : (idomL r o).length = r.length := by unfold idomL; rw [List.length_map, List.length_range]
theorem idomL_at {r : List Bv} {o i : Nat} (h : i < r.length) : (idomL r o).getD i 0 = idomR r o i := by
  unfold idomL
  rw [List.getD, List.getElem?_map, List.getElem?_range h]; rfl
/-- the first j are there, the others 0 -/
def Fm (r : List Bv) (o j : Nat) (O : List Int) : Prop := O = ((List.range j).map (idomR r o)) ++ List.replicate (r.length - j) 0
theorem fm_zero (r : List Bv) (o : Nat) : Fm r o 0 (List.replicate r.length 0) := rfl
theorem fm_all {r : List Bv} {o : Nat} {O : List Int} (h : Fm r o r.length O) : O = idomL r o := by
  unfold Fm at h
  rw [Nat.sub_self, List.replicate_zero, List.append_nil] at h
  exact h
theorem fm_length {r : List Bv} {o j : Nat} {O : List Int} (h : Fm r o j O) (hj : j ≤ r.length) : O.length = r.length := by
  rw [h, List.length_append, List.length_map, List.length_range, List.length_replicate]; omega
theorem fm_next {r : List Bv} {o j : Nat} {O : List Int} (h : Fm r o j O) (hj : j < r.length) : Fm r o (j + 1) (O.set j (idomR r o j)) := by
  unfold Fm at h ⊢
  have e : r.length - j = (r.length - (j + 1)) + 1 := by omega
  rw [h, e, List.replicate_succ, List.set_append, if_neg (by rw [List.length_map, List.length_range]; omega), List.length_map, List.length_range, Nat.sub_self, List.set_cons_zero, List.range_succ, List.map_append, List.append_assoc]
  rfl
/-- what Doms hands back -/
noncomputable def domsA (r : List Bv) (o : Int) : List Int := if rangeC r [o] = 0 then idomL r o.toNat else []
theorem domsA_ok {r : List Bv} {o : Int} (h : rangeC r [o] = 0) : domsA r o = idomL r o.toNat := by unfold domsA; rw [if_pos h]
theorem domsA_bad {r : List Bv} {o : Int} (h : rangeC r [o] ≠ 0) : domsA r o = [] := by unfold domsA; rw [if_neg h]
def DomsPost (r : List Bv) (o : Int) (w : World) (e : Ending) (w' : World) : Prop :=
  Below w.heap.size w w' ∧ ∃ u, e = .returned (.tuple #[u, .int .i64 (rangeC r [o])]) ∧ ZO w.heap.size u (domsA r o) w'
set_option maxHeartbeats 8000000 in
theorem domsP_any {w : World} {v : Value} {r : List Bv} (o : Int) (h : WIn w v r) (ht : Tab w) : Calls Tryd.prog 7 #[v, .int .i64 o] w (DomsPost r o w) := by
  obtain ⟨i0, hi, hz0, hz1, hz2⟩ := info_parts infoInt
  have CK : Hid (∀ T, Calls Tryd.prog 22 #[v, .slice (some ⟨w.heap.size, 0, none⟩) 1 1] (w.alloc (.cells #[.int .i64 o] T)) fun e w' => e = .returned (.int .i64 (rangeC r [o])) ∧ w' = w.alloc (.cells #[.int .i64 o] T)) := fun T =>
    checkD_any (h.later (below_al w _)) (zin_one w o T) (by simp)
  have BA : Hid (∀ T, Below w.heap.size w (w.alloc (.cells #[.int .i64 o] T))) := fun T => below_al w _
  have EA : Hid (∀ W (p : Nat), Below w.heap.size w W → RowsIn r → p < r.length → Calls Tryd.prog 23 #[v, .int .i64 (p : Int)] W fun e w' => ∃ u, e = .returned u ∧ WIn w' u (ruL r p) ∧ Below W.heap.size W w') := fun W p hW hr hp =>
    (each_any (h.later hW) hr hp (ht.below hW ht.1)).mono fun _ _ ⟨b, h1, h2, h3⟩ => ⟨_, h1, WO.win (B := W.heap.size) (by unfold WO at *; rw [ruL_length] at *; exact h2), h3⟩
  have OV := Lib.hid (fun W u p k (hu : WIn W u (ruL r p)) (hr : RowsIn r) (hp : p < r.length) (hk : k < r.length) => overD_any hu hr hp hk)
  have R1 : Hid (rangeC r [o] = 0 → RowsIn r ∧ ∃ p : Nat, o = (p : Int) ∧ p < r.length ∧ domsA r o = idomL r p) := fun h => by
    obtain ⟨hr, p, rfl, hp⟩ := range_one h
    exact ⟨hr, p, rfl, hp, domsA_ok h⟩
  have BD : Hid (rangeC r [o] ≠ 0 → domsA r o = []) := domsA_bad
  have RP : Hid (∀ e w', DomsPost r o w e w' ↔ (Below w.heap.size w w' ∧ ∃ u, e = .returned (.tuple #[u, .int .i64 (rangeC r [o])]) ∧ ZO w.heap.size u (domsA r o) w')) := fun _ _ => Iff.rfl
  have F0 := Lib.hid (fun p => fm_zero r p)
  have FN := Lib.hid (fun p O j (h : Fm r p j O) hj => fm_next h hj)
  have FA := Lib.hid (fun p O (h : Fm r p r.length O) => fm_all h)
  have FL := Lib.hid (fun p O j (h : Fm r p j O) hj => fm_length h hj)
  have ZW := Lib.hid (zeros_z r.length)
  have PU : Hid (∀ W B b O i x, ZO B (.slice (some ⟨b, 0, none⟩) r.length r.length) O W → O.length = r.length → i < r.length →
      W.frozen? ⟨b, i, none⟩ = false ∧ (∃ u, W.cell? ⟨b, i, none⟩ = some u) ∧ ZO B (.slice (some ⟨b, 0, none⟩) r.length r.length) (O.set i x) (W.setCell ⟨b, i, none⟩ (.int .i64 x)) ∧ W.grownBy (W.setCell ⟨b, i, none⟩ (.int .i64 x)) (some b) ∧ B ≤ b ∧ b < W.heap.size) := fun W B b O i x hO hl hi => by
    rw [← hl] at hO hi ⊢
    obtain ⟨h1, h2⟩ := hO.put i x
    have h3 := hO.lt b rfl
    exact ⟨World.ownsRow.frozenAt hO i, ⟨_, hO.cell hi⟩, h1, h2, h3.1, h3.2⟩
  have IM := Lib.hid (fun (hr : RowsIn r) p k (hp : p < r.length) (h : 1 < (overR r p k).length) => idom_more (n := k) hr hp h)
  have IF := Lib.hid (fun (hr : RowsIn r) p k (hp : p < r.length) (h : ¬ 1 < (overR r p k).length) => idom_few (n := k) hr hp h)
  have OL := Lib.hid (fun (hr : RowsIn r) p k (hp : p < r.length) => overR_len hr hp k)
  have HL : Hid (RowsIn r → r.length ≤ 64) := fun hr => hr.len
  obtain ⟨a, c, rfl, _⟩ := h
  clear ht
  generalize rangeC r [o] = C at *
  generalize domsA r o = ov at *
  generalize hL : r.length = L at *
  clear hL
  go_enter Tryd.func7, Tryd.ntmps7
  go_wp2_with fail
  refine (CK.out _).mono ?_
  rintro e w1 ⟨rfl, rfl⟩
  have B1 := Lib.hid (BA.out 3)
  clear CK BA
  generalize w.alloc (.cells #[.int .i64 o] 3) = w1 at *
  by_cases hz : C = 0
  · obtain ⟨hr, p, rfl, hp, rfl⟩ := R1.out hz
    have E1 := Lib.hid (EA.out w1 p B1.out hr hp)
    have O1 := Lib.hid (fun W u k (hu : WIn W u (ruL r p)) hk => OV.out W u p k hu hr hp hk)
    have M1 := Lib.hid (fun k h => IM.out hr p k hp h)
    have M2 := Lib.hid (fun k h => IF.out hr p k hp h)
    have M3 := Lib.hid (fun k => OL.out hr p k hp)
    have hl := HL.out hr
    subst hz
    clear EA OV R1 BD hr IM IF OL HL
    go_wp2_with fail
    refine E1.out.mono ?_
    rintro e w2 ⟨u, rfl, hu, b2⟩
    have B2 := Lib.hid (B1.out.trans (b2.mono B1.out.size))
    have HU := Lib.hid (fun W (hW : Below w2.heap.size w2 W) => hu.later hW)
    clear b2 hu E1
    obtain ⟨w3, rmk, o3, g3⟩ := run_make_full (P := Tryd.prog) w2 w2.heap.size 23 3 i0 (.int .i64 0) 1 Tryd.underlying23 hi hz0 hz1 .i64 .i64 L (by rw [hz2]; omega) (by unfold maxLen; omega) (Nat.le_refl _)
    rw [ZW.out] at o3
    have B3 : Hid (Below w2.heap.size w2 w3) := (Below.refl _ _).grown g3 (Nat.le_refl _) (fun q hq => by cases hq)
    have O3 : Hid (ZO w2.heap.size (.slice (some ⟨w2.heap.size, 0, none⟩) L L) (List.replicate L 0) w3) := by
      show World.ownsRow _ _ _ _ _ _ _
      rw [List.length_replicate]; exact o3
    clear o3 g3 hi hz0 hz1 hz2 ZW
    generalize hq : w2.heap.size = q at *
    have HQ := Lib.hid hq; clear hq
    go_wp2_with fail
    go_loopw [26] (fun i wr => ∃ (k : Nat) (O : List Int), k ≤ L ∧ i = .int .i64 (k : Int) ∧ Fm r p k O ∧ ZO q (.slice (some ⟨q, 0, none⟩) L L) O wr ∧ Below q w2 wr) (fun i _ => L - (intOf i).toNat)
    case atStart => exact ⟨0, _, Nat.zero_le _, rfl, F0.out p, O3.out, B3.out⟩
    case round =>
      obtain ⟨k, O, hk, rfl, qt, qo, qb⟩ := hrel
      have QT := Lib.hid qt; have QO := Lib.hid qo; have QB := Lib.hid qb; clear qt qo qb
      rename World => wr
      by_cases hkl : k < L
      · have NX := Lib.hid (FN.out p O k QT.out hkl)
        have ul := Lib.hid (FL.out p O k QT.out hk)
        have i2 : (k : Int) < (L : Int) := by omega
        obtain ⟨fr, ⟨u1, cu⟩, o4, g4, _, hqs⟩ := PU.out wr q q O k (-1) QO.out ul.out hkl
        have B4 := Lib.hid (below_grown' QB.out g4 (by omega) (Nat.le_refl _))
        have O4 := Lib.hid o4
        have S1 := Lib.hid (O1.out _ u k (HU.out _ B4.out) hkl)
        have V1 := Lib.hid (M1.out k); have V2 := Lib.hid (M2.out k); have V3 := M3.out k
        clear o4 g4 hqs
        go_wp2_with fail
        refine S1.out.mono ?_
        rintro e w5 ⟨x, rfl, o5, b5⟩
        have O5 : Hid (ZO q (.slice (some ⟨q, 0, none⟩) L L) (O.set k (-1)) w5) := Lib.hid (own_later O4.out b5)
        have B5 := Lib.hid (B4.out.trans (b5.mono (by have := B4.out.size; rw [HQ.out] at this; exact this)))
        have hq5 : q ≤ w5.heap.size := by have := B5.out.size; rw [HQ.out] at this; exact this
        obtain ⟨xa, xc, rfl, hxc, hcell⟩ := o5.ni
        clear O4 B4 b5 o5 S1 fr cu
        generalize overR r p k = ov2 at *
        by_cases h1 : 1 < ov2.length
        · have EV := V1.out h1
          obtain ⟨m, hm⟩ : ∃ m, ov2.length = m + 2 := ⟨ov2.length - 2, by omega⟩
          obtain ⟨xb, xo, rfl, c5⟩ := hcell m (by omega)
          rw [show ov2.length - 2 = m by omega] at EV
          have c6 : w5.cell? ⟨xb, xo + m, none⟩ = some (.int .i64 (idomR r p k)) := by rw [c5, EV]; rfl
          obtain ⟨fr5, ⟨u5, cu5⟩, o6, g6, _, _⟩ := PU.out w5 q q (O.set k (-1)) k (idomR r p k) O5.out (by rw [List.length_set]; exact ul.out) hkl
          rw [List.set_set] at o6
          have B6 := Lib.hid (below_grown' B5.out g6 hq5 (Nat.le_refl _))
          have O6 := Lib.hid o6
          have e1 : (ov2.length : Int) - 2 = (m : Int) := by omega
          have e2 : (m : Int) < (ov2.length : Int) := by omega
          have e3 : (1 : Int) < (ov2.length : Int) := by omega
          clear EV c5 o6 g6 hcell V1 V2 hm h1
          generalize idomR r p k = z at *
          generalize ov2.length = M at *
          go_wp2
          go_roundw
          case rel => exact ⟨k + 1, _, by omega, by go_num, NX.out, O6.out, B6.out⟩
          case measure => simp [intOf]; omega
        · have EV := V2.out h1
          rw [EV] at NX
          have e3 : ¬ (1 : Int) < (ov2.length : Int) := by omega
          clear EV hcell V1 V2 h1
          generalize ov2.length = M at *
          go_wp2
          go_roundw
          case rel => exact ⟨k + 1, _, by omega, by go_num, NX.out, O5.out, B5.out⟩
          case measure => simp [intOf]; omega
      · obtain rfl : k = L := by omega
        have E := FA.out p O QT.out
        subst E
        go_wp2
        go_ret2
        exact (RP.out _ _).2 ⟨B2.out.trans (QB.out.mono (by have := B2.out.size; rw [HQ.out] at this; exact this)), _, rfl, zo_base QO.out (by have := B2.out.size; rw [HQ.out] at this; exact this)⟩
  · have t1 := zero_ne hz
    have E := Lib.hid (BD.out hz)
    clear hz R1 BD EA OV
    go_wp2
    go_ret2
    exact (RP.out _ _).2 ⟨B1.out, _, rfl, by rw [E.out]; exact World.ownsRow_nil _ _ _ _⟩
end Go.Proofs.YtjmomgmbmgdeoaaDoor
