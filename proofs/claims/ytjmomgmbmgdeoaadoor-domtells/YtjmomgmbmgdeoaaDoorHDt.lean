/-
  The law DomTree, whatever its arguments; slices.Reverse at numbers. Condition: the table of math/bits lies in memory as its text lays it (the card ties this).
-/
import Derived.Test.YtjmomgmbmgdeoaaDoorHDw
import Derived.Test.YtjmomgmbmgdeoaaDoorHKy
namespace Go.Proofs.YtjmomgmbmgdeoaaDoor
set_option maxRecDepth 100000
set_option linter.unusedVariables false
open Go.ChangeShapes Go.WideShapes Go.ChangeAt Go.RowKit

/-! slices.Reverse of numbers of the call's own -/
theorem NO.put {B : Nat} {g c : Nat} {l : List Nat} {w : World} (h : NO B (.slice (some ⟨g, 0, none⟩) l.length c) l w) (i x : Nat) :
    NO B (.slice (some ⟨g, 0, none⟩) l.length c) (l.set i x) (w.setCell ⟨g, i, none⟩ (.int .i64 (x : Int))) := by
  have := World.ownsRow.stored h i (.int .i64 (x : Int))
  unfold NO ints
  rw [List.length_set, List.map_set]
  exact this.1
theorem ints_ext {a b : List Nat} (hl : a.length = b.length) (h : ∀ i, i < a.length → iAt a i = iAt b i) : a = b := by
  refine List.ext_getElem hl fun i h1 h2 => ?_
  have := h i h1
  unfold iAt at this
  rwa [List.getD, List.getD, List.getElem?_eq_getElem h1, List.getElem?_eq_getElem h2] at this
theorem iAt_set {l : List Nat} {j i x : Nat} (hj : j < l.length) : iAt (l.set j x) i = if i = j then x else iAt l i := by
  unfold iAt
  rw [List.getD, List.getElem?_set]
  by_cases h : j = i
  · subst h; rw [if_pos rfl, if_pos hj, if_pos rfl]; rfl
  · rw [if_neg h, if_neg (Ne.symm h)]; rfl
theorem iAt_rev {l : List Nat} {i : Nat} (h : i < l.length) : iAt l.reverse i = iAt l (l.length - 1 - i) := by
  unfold iAt
  rw [List.getD, List.getElem?_reverse h]; rfl
/-- the first i and the last i have changed their places -/
def Rw (z : List Nat) (i : Nat) (p : List Nat) : Prop := p.length = z.length ∧ ∀ t, t < z.length → iAt p t = if t < i ∨ z.length - i ≤ t then iAt z (z.length - 1 - t) else iAt z t
theorem rw_zero (z : List Nat) : Rw z 0 z := ⟨rfl, fun t ht => by rw [if_neg (by omega)]⟩
theorem rw_next {z p : List Nat} {i j : Nat} (h : Rw z i p) (hij : i < j) (hj : i + j + 1 = z.length) : Rw z (i + 1) ((p.set i (iAt p j)).set j (iAt p i)) := by
  refine ⟨by rw [List.length_set, List.length_set, h.1], fun t ht => ?_⟩
  rw [iAt_set (by rw [List.length_set, h.1]; omega), iAt_set (by rw [h.1]; omega)]
  by_cases e1 : t = j
  · subst e1
    rw [if_pos rfl, h.2 i (by omega), if_neg (by omega), if_pos (by omega)]
    congr 1; omega
  · rw [if_neg e1]
    by_cases e2 : t = i
    · subst e2
      rw [if_pos rfl, h.2 j (by omega), if_neg (by omega), if_pos (by omega)]
      congr 1; omega
    · rw [if_neg e2, h.2 t ht]
      by_cases e3 : t < i ∨ z.length - i ≤ t
      · rw [if_pos e3, if_pos (by omega)]
      · rw [if_neg e3, if_neg (by omega)]
theorem rw_all {z p : List Nat} {i : Nat} (h : Rw z i p) (hi : z.length ≤ i + i + 1) : p = z.reverse := by
  refine ints_ext (by rw [List.length_reverse, h.1]) fun t ht => ?_
  rw [h.1] at ht
  rw [iAt_rev ht, h.2 t ht]
  by_cases e : t < i ∨ z.length - i ≤ t
  · rw [if_pos e]
  · rw [if_neg e]; congr 1; omega
set_option maxHeartbeats 4000000 in
theorem revI_any {w w0 : World} {B g c : Nat} {z : List Nat} (h : NO B (.slice (some ⟨g, 0, none⟩) z.length c) z w) (hb : Below B w0 w) (h0 : 0 < z.length) (hl : z.length ≤ 64) :
    Calls Tryd.prog 21 #[.slice (some ⟨g, 0, none⟩) z.length c] w fun e w' => e = .returned (.tuple #[]) ∧ NO B (.slice (some ⟨g, 0, none⟩) z.length c) z.reverse w' ∧ Below B w0 w' := by
  have H := Lib.hid h
  have hgB := (World.ownsRow.lt h g rfl).1
  have R0 := Lib.hid (rw_zero z)
  have RN := Lib.hid (fun p i j (h : Rw z i p) hij hj => rw_next (j := j) h hij hj)
  have RA := Lib.hid (fun p i (h : Rw z i p) hi => rw_all h hi)
  have ST : Hid (∀ W p i j, i < z.length → j < z.length → Rw z i p → NO B (.slice (some ⟨g, 0, none⟩) z.length c) p W → Below B w0 W →
      W.frozen? ⟨g, i, none⟩ = false ∧ W.frozen? ⟨g, j, none⟩ = false ∧ W.cell? ⟨g, i, none⟩ = some (.int .i64 ((iAt p i : Nat) : Int)) ∧ W.cell? ⟨g, j, none⟩ = some (.int .i64 ((iAt p j : Nat) : Int)) ∧
      NO B (.slice (some ⟨g, 0, none⟩) z.length c) ((p.set i (iAt p j)).set j (iAt p i)) ((W.setCell ⟨g, i, none⟩ (.int .i64 ((iAt p j : Nat) : Int))).setCell ⟨g, j, none⟩ (.int .i64 ((iAt p i : Nat) : Int))).drew ∧ Below B w0 ((W.setCell ⟨g, i, none⟩ (.int .i64 ((iAt p j : Nat) : Int))).setCell ⟨g, j, none⟩ (.int .i64 ((iAt p i : Nat) : Int))).drew) := fun W p i j hi hj hR hO hW => by
    have hO1 : NO B (.slice (some ⟨g, 0, none⟩) p.length c) p W := by rw [hR.1]; exact hO
    have h1 := hO1.put i (iAt p j)
    rw [show p.length = (p.set i (iAt p j)).length by rw [List.length_set]] at h1
    have h2 := h1.put j (iAt p i)
    rw [List.length_set, hR.1] at h2
    exact ⟨World.ownsRow.frozenAt hO1 i, World.ownsRow.frozenAt hO1 j, hO1.cell (by rw [hR.1]; exact hi), hO1.cell (by rw [hR.1]; exact hj), own_later h2 (Below.refl _ _).drew, ((hW.setCell hgB _).setCell hgB _).drew⟩
  clear h
  generalize hrv : z.reverse = zr at *
  clear hrv
  generalize hM : z.length = M at *
  have HM := Lib.hid hM; clear hM
  go_enter Tryd.func21, Tryd.ntmps21
  go_wp2_with fail
  go_loopw [2, 3] (fun vi vj wr => ∃ (i j : Nat) (p : List Nat), vi = .int .i64 (i : Int) ∧ vj = .int .i64 ((j : Int) - 1) ∧ i + j = M ∧ Rw z i p ∧ NO B (.slice (some ⟨g, 0, none⟩) M c) p wr ∧ Below B w0 wr) (fun _ vj _ => (intOf vj + 1).toNat)
  case atStart => exact ⟨0, M, z, rfl, by go_num, by omega, R0.out, H.out, hb⟩
  case round =>
    obtain ⟨i, j, p, rfl, rfl, hij, q1, q2, q3⟩ := hrel
    have Q1 := Lib.hid q1; have Q2 := Lib.hid q2; have Q3 := Lib.hid q3
    clear q1 q2 q3
    by_cases hlt : i + 1 < j
    · obtain ⟨m, rfl⟩ : ∃ m : Nat, j = m + 1 := ⟨j - 1, by omega⟩
      obtain ⟨f1, f2, c1, c2, o5, b5⟩ := ST.out _ p i m (by omega) (by omega) Q1.out Q2.out Q3.out
      have O5 := Lib.hid o5; have B5 := Lib.hid b5
      have NX := Lib.hid (RN.out p i m Q1.out (by omega) (by omega))
      have e1 : ((m + 1 : Nat) : Int) - 1 = (m : Int) := by omega
      have i1 : (i : Int) < (m : Int) := by omega
      have i2 : (i : Int) < (M : Int) := by omega
      have i3 : (m : Int) < (M : Int) := by omega
      clear o5 b5 ST RN RA
      rw [e1]
      clear e1
      generalize iAt p i = x at *
      generalize iAt p m = y at *
      go_wp2_with fail
      go_region
      go_wp2
      go_roundw
      case rel => exact ⟨i + 1, m, _, by go_num, by go_num, by omega, NX.out, O5.out, B5.out⟩
      case measure => simp [intOf]
    · have E := RA.out p i Q1.out (by omega)
      subst E
      have t1 : ¬ (i : Int) < (j : Int) - 1 := by omega
      go_wp2
      go_end0
      exact ⟨rfl, Q2.out, Q3.out⟩
/-! up from one to the one that dominates it next -/
theorem over_at {r : List Bv} {o n : Nat} {l : List Nat} (h : OverL r o n l) {i : Nat} (hi : i < l.length) : OverL r o (iAt l i) (l.take (i + 1)) := by
  have hg := get_iAt hi
  have hm : ∀ {k}, k < l.length → Dm r o (iAt l k) n := fun {k} hk => (h.mem _).1 (List.mem_of_getElem? (get_iAt hk))
  have hp : ∀ {a b : Nat}, a < b → b < l.length → iAt l a ≠ iAt l b ∧ Dm r o (iAt l a) (iAt l b) := fun {a b} hab hb => by
    have := List.pairwise_iff_getElem.1 h.up a b (by omega) hb hab
    rwa [show l[a] = iAt l a from (iAt_get (List.getElem?_eq_getElem (by omega))).symm, show l[b] = iAt l b from (iAt_get (List.getElem?_eq_getElem hb)).symm] at this
  refine ⟨fun a => ?_, h.up.sublist (List.take_sublist _ _)⟩
  constructor
  · intro ha
    obtain ⟨k, hk⟩ := List.mem_iff_getElem?.1 ha
    rw [List.getElem?_take] at hk
    by_cases hki : k < i + 1
    · rw [if_pos hki] at hk
      rw [← iAt_get hk]
      by_cases e : k = i
      · subst e; exact .refl (hm hi).on.1
      · exact (hp (by omega) hi).2
    · rw [if_neg hki] at hk; cases hk
  · intro ha
    obtain ⟨k, hk⟩ := List.mem_iff_getElem?.1 ((h.mem a).2 (ha.trans (hm hi)))
    have hkl : k < l.length := by
      rcases Nat.lt_or_ge k l.length with h' | h'
      · exact h'
      · rw [List.getElem?_eq_none h'] at hk; cases hk
    have hki : k < i + 1 := by
      rcases Nat.lt_or_ge k (i + 1) with h' | h'
      · exact h'
      · exfalso
        have h2 := hp (a := i) (b := k) (by omega) hkl
        rw [iAt_get hk] at h2
        exact h2.1 (h2.2.anti ha)
    exact List.mem_of_getElem? (i := k) (by rw [List.getElem?_take, if_pos hki]; exact hk)
theorem over_first {r : List Bv} {o n : Nat} {l : List Nat} (h : OverL r o n l) (hi : 0 < l.length) : iAt l 0 = o := by
  have h1 := over_at h hi
  have hw : Wk r o n := ((h.mem _).1 (List.mem_of_getElem? (get_iAt hi))).1
  have h2 := (h1.mem o).2 (.root ((h.mem _).1 (List.mem_of_getElem? (get_iAt hi))).on.1)
  have e : l.take 1 = [iAt l 0] := by
    cases l with
    | nil => simp at hi
    | cons x l => rfl
  rw [e, List.mem_singleton] at h2
  exact h2.symm
theorem over_last {r : List Bv} {o n : Nat} {l : List Nat} (h : OverL r o n l) (hi : 0 < l.length) : iAt l (l.length - 1) = n := by
  have hw : Wk r o n := ((h.mem _).1 (List.mem_of_getElem? (get_iAt hi))).1
  obtain ⟨l', rfl⟩ := over_end h hw
  unfold iAt
  simp [List.getD]
theorem idom_at {r : List Bv} {o n : Nat} {l : List Nat} (h : OverL r o n l) {i : Nat} (hi : i + 1 < l.length) : idomR r o (iAt l (i + 1)) = ((iAt l i : Nat) : Int) := by
  have h1 := over_at h hi
  have e : l.take (i + 1 + 1) = l.take i ++ [iAt l i, iAt l (i + 1)] := by
    rw [List.take_add_one, List.take_add_one, get_iAt hi, get_iAt (show i < l.length by omega), List.append_assoc]; rfl
  rw [e] at h1
  exact idomR_is (over_idom h1)
/-- where one is after j steps up, and the way so far -/
def kvR (l : List Nat) (j : Nat) : Int := if j < l.length then ((iAt l (l.length - 1 - j) : Nat) : Int) else -1
def tlR (l : List Nat) (j : Nat) : List Nat := (l.drop (l.length - j)).reverse
theorem tlR_zero (l : List Nat) : tlR l 0 = [] := by unfold tlR; simp
theorem tlR_all (l : List Nat) : (tlR l l.length).reverse = l := by unfold tlR; simp
theorem tlR_length {l : List Nat} {j : Nat} (h : j ≤ l.length) : (tlR l j).length = j := by unfold tlR; rw [List.length_reverse, List.length_drop]; omega
theorem tlR_next {l : List Nat} {j : Nat} (h : j < l.length) : tlR l (j + 1) = tlR l j ++ [iAt l (l.length - 1 - j)] := by
  unfold tlR
  have h1 : l.length - (j + 1) < l.length := by omega
  have e1 : l.length - 1 - j = l.length - (j + 1) := by omega
  rw [List.drop_eq_getElem_cons h1, List.reverse_cons, show l.length - (j + 1) + 1 = l.length - j by omega, e1]
  congr 2
  exact (iAt_get (List.getElem?_eq_getElem h1)).symm
theorem kv_next {r : List Bv} (hr : RowsIn r) {o n : Nat} (ho : o < r.length) {l : List Nat} (h : OverL r o n l) {j : Nat} (hj : j < l.length) :
    kvR l j = ((iAt l (l.length - 1 - j) : Nat) : Int) ∧ iAt l (l.length - 1 - j) < r.length ∧ idomR r o (iAt l (l.length - 1 - j)) = kvR l (j + 1) := by
  refine ⟨by unfold kvR; rw [if_pos hj], dm_lt hr ho ((h.mem _).1 (List.mem_of_getElem? (get_iAt (by omega)))), ?_⟩
  unfold kvR
  by_cases e : j + 1 < l.length
  · rw [if_pos e]
    obtain ⟨i, hi⟩ : ∃ i, l.length - 1 - j = i + 1 := ⟨l.length - 1 - j - 1, by omega⟩
    rw [hi, idom_at h (by omega)]
    congr 2; omega
  · rw [if_neg e, show l.length - 1 - j = 0 by omega, over_first h (by omega)]
    exact idomR_root _ _
theorem kv_end (l : List Nat) : kvR l l.length = -1 := by unfold kvR; rw [if_neg (Nat.lt_irrefl _)]
theorem kv_zero {r : List Bv} {o n : Nat} {l : List Nat} (h : OverL r o n l) (hi : 0 < l.length) : kvR l 0 = (n : Int) := by
  unfold kvR; rw [if_pos hi, Nat.sub_zero, over_last h hi]
/-! DomTree -/
set_option maxHeartbeats 16000000 in
theorem domTree_any {w : World} {v : Value} {r : List Bv} (o n : Int) (h : WIn w v r) (ht : Tab w) :
    Calls Tryd.prog 5 #[v, .int .i64 o, .int .i64 n] w fun e w' => e = .returned (.bool true) ∧ Below w.heap.size w w' := by
  obtain ⟨i0, hi, hz0, hz1, hz2⟩ := info_parts infoInt
  have HI := Lib.hid hi; clear hi
  have HZ0 := Lib.hid hz0; clear hz0
  have HZ1 := Lib.hid hz1; clear hz1
  have HZ2 := Lib.hid hz2; clear hz2
  have DT := Lib.hid (doms_true w ht)
  have DO : Hid (∀ W, Below w.heap.size w W → Calls Tryd.prog 7 #[v, .int .i64 o] W fun e w' => ∃ a c, e = .returned (.tuple #[.slice a (domsA r o).length c, .int .i64 (rangeC r [o])]) ∧ ZIn w' (.slice a (domsA r o).length c) (domsA r o) ∧ Below W.heap.size W w') := fun W hW =>
    (domsP_any o (h.later hW) (ht.below hW ht.1)).mono fun _ _ ⟨h1, u, h2, h3⟩ => by
      obtain ⟨a, c, rfl, hc⟩ := h3.zin
      exact ⟨a, c, h2, ⟨a, c, rfl, hc⟩, h1⟩
  have OV : Hid (∀ W, Below w.heap.size w W → Calls Tryd.prog 8 #[v, .int .i64 o, .int .i64 n] W fun e w' => ∃ a c, e = .returned (.tuple #[.slice a (overA r o n).length c, .int .i64 (rangeC r [o, n])]) ∧ NI w' (.slice a (overA r o n).length c) (overA r o n) ∧ Below W.heap.size W w') := fun W hW =>
    (overP_any o n (h.later hW) (ht.below hW ht.1)).mono fun _ _ ⟨h1, u, h2, h3⟩ => by
      obtain ⟨a, c, rfl, hc⟩ := h3.ni
      exact ⟨a, c, h2, ⟨a, c, rfl, hc⟩, h1⟩
  have BD1 : Hid (rangeC r [o] ≠ 0 → (domsA r o).length = 0) := fun h => by rw [domsA_bad h]; rfl
  have BD2 : Hid (rangeC r [o, n] ≠ 0 → (overA r o n).length = 0) := fun h => by rw [overA_bad h]; rfl
  have OK : Hid (rangeC r [o] = 0 → rangeC r [o, n] = 0 → ∃ p k : Nat, o = (p : Int) ∧ n = (k : Int) ∧ p < r.length ∧ k < r.length ∧ r.length ≤ 64 ∧ (domsA r o).length = r.length ∧ (domsA r o).getD p 0 = -1 ∧ (overA r o n).length ≤ r.length ∧
      ((overA r o n).length = 0 → (domsA r o).getD k 0 = -1 ∧ (allR r (one p)).getLsbD k = false ∧ ∀ W, Below w.heap.size w W → Calls Tryd.prog 17 #[v, .int .u64 ((one p).toNat : Int)] W fun e w' => e = .returned (.tuple #[.int .u64 ((allR r (one p)).toNat : Int), .int .i64 0]) ∧ Below W.heap.size W w') ∧
      (0 < (overA r o n).length → iAt (overA r o n) 0 = p ∧ kvR (overA r o n) 0 = (k : Int) ∧
        ∀ j, j < (overA r o n).length → ∃ i : Nat, kvR (overA r o n) j = (i : Int) ∧ i < r.length ∧ (domsA r o).getD i 0 = kvR (overA r o n) (j + 1) ∧ tlR (overA r o n) (j + 1) = tlR (overA r o n) j ++ [i])) := fun h1 h2 => by
    obtain ⟨hr, p, k, rfl, rfl, hp, hk⟩ := range_two h2
    have hO := overR_ok hr hp k
    rw [domsA_ok h1, overA_ok h2, Int.toNat_natCast, Int.toNat_natCast, idomL_length]
    refine ⟨p, k, rfl, rfl, hp, hk, hr.len, rfl, by rw [idomL_at hp]; exact idomR_root _ _, overR_len hr hp k, fun h0 => ?_, fun h0 => ⟨over_first hO h0, kv_zero hO h0, fun j hj => ?_⟩⟩
    · have e : overR r p k = [] := List.eq_nil_of_length_eq_zero h0
      have hw : ¬ Wk r p k := fun hw => by
        have := (hO.mem p).2 (.root hw)
        rw [e] at this
        exact absurd this List.not_mem_nil
      refine ⟨by rw [idomL_at hk]; exact idomR_far hw, ?_, fun W hW => fromO_any (h.later hW) hr hp (ht.below hW ht.1)⟩
      cases hb : (allR r (one p)).getLsbD k
      · rfl
      · exact absurd ((all_one hr hp).1 hb) hw
    · obtain ⟨q1, q2, q3⟩ := kv_next hr hp hO hj
      exact ⟨_, q1, q2, by rw [idomL_at q2]; exact q3, tlR_next hj⟩
  have TA : Hid (∀ l, (tlR l l.length).reverse = l) := tlR_all
  have TL : Hid (∀ l j, j ≤ l.length → (tlR l j).length = j) := fun l j h => tlR_length h
  have TZ : Hid (∀ l, tlR l 0 = []) := tlR_zero
  have KE : Hid (∀ l, kvR l l.length = -1) := kv_end
  obtain ⟨sa, sc, rfl, _⟩ := h
  clear ht
  generalize rangeC r [o] = C1 at *
  generalize rangeC r [o, n] = C2 at *
  generalize domsA r o = D at *
  generalize overA r o n = l at *
  generalize r.length = L at *
  go_enter Tryd.func5, Tryd.ntmps5
  go_wp2_with fail
  refine DT.out.mono ?_
  rintro e w1 ⟨rfl, b1⟩
  have B1 := Lib.hid b1
  clear b1 DT
  go_wp2_with fail
  refine (DO.out _ B1.out).mono ?_
  rintro e w2 ⟨da, dc, rfl, dz, b2⟩
  have B2 := Lib.hid (B1.out.trans (b2.mono B1.out.size))
  have DZ := Lib.hid dz
  clear b2 B1 DO dz
  go_wp2_with fail
  refine (OV.out _ B2.out).mono ?_
  rintro e w3 ⟨oa, oc, rfl, oz, b3⟩
  have B3 := Lib.hid (B2.out.trans (b3.mono B2.out.size))
  have DC : Hid (∀ W, Below w3.heap.size w3 W → ∀ k, k < D.length → ∃ b off, da = some ⟨b, off, none⟩ ∧ W.cell? ⟨b, off + k, none⟩ = some (.int .i64 (D.getD k 0))) := fun W hW k hk => by
    obtain ⟨a', c', e, hh⟩ := (DZ.out.later b3).later hW
    cases e
    exact hh k hk
  have OZ := Lib.hid oz
  clear b3 B2 OV oz DZ
  by_cases h1 : C1 = 0
  · by_cases h2 : C2 = 0
    · obtain ⟨p, k, rfl, rfl, hp, hk, hl, hDl, hroot, hlL, none', some'⟩ := OK.out h1 h2
      have NONE := Lib.hid none'; have SOME := Lib.hid some'
      subst h1 h2
      clear OK BD1 BD2 none' some'
      rw [hDl] at DC ⊢
      clear hDl
      obtain ⟨db, doff, rfl, c0⟩ := DC.out w3 (Below.refl _ _) p hp
      rw [hroot] at c0
      have DC1 : Hid (∀ W, Below w3.heap.size w3 W → ∀ i, i < L → W.cell? ⟨db, doff + i, none⟩ = some (.int .i64 (D.getD i 0))) := fun W hW i hi => by
        obtain ⟨b, off, e, c⟩ := DC.out W hW i hi
        cases e
        exact c
      have e1 := one_walk p (by omega)
      have hp64 : (p : Int) < 64 := by omega
      have hpL : (p : Int) < (L : Int) := by omega
      have hkL : (k : Int) < (L : Int) := by omega
      clear DC hroot
      by_cases h0 : l.length = 0
      · obtain ⟨n1, n2, n3⟩ := NONE.out h0
        have F1 := Lib.hid (n3 _ B3.out)
        have DK : Hid (∀ W, Below w3.heap.size w3 W → W.cell? ⟨db, doff + k, none⟩ = some (.int .i64 (-1))) := fun W hW => by rw [DC1.out W hW k hk, n1]
        have HX := Lib.hid (fun W => has_any (allR r (one p)) k W (by omega))
        rw [n2] at HX
        clear n1 n2 n3 NONE SOME DC1 OZ TA TL TZ KE
        rw [h0]
        clear h0
        generalize (allR r (one p)).toNat = X at *
        go_wp2_with fail
        refine F1.out.mono ?_
        rintro e w4 ⟨rfl, b4⟩
        have B4 := Lib.hid (B3.out.trans (b4.mono B3.out.size))
        have c1 := DK.out w4 b4
        clear b4 F1 DK c0
        go_wp2_with fail
        refine (HX.out _).mono ?_
        rintro e w5 ⟨rfl, rfl⟩
        go_wp2
        go_ret
        exact ⟨rfl, B4.out⟩
      · have hM : 0 < l.length := by omega
        obtain ⟨s1, s2, s3⟩ := SOME.out hM
        have S3 := Lib.hid s3
        have EQ : Hid (∀ W u, NI W u l → Below w3.heap.size w3 W → Calls Tryd.prog 13 #[u, .slice oa l.length oc] W fun e w' => e = .returned (.bool true) ∧ ∃ q, w' = W.drewN q) := fun W u hu hW => equalI_same hu (OZ.out.later hW) (by omega)
        have RV : Hid (∀ W g c, NO w3.heap.size (.slice (some ⟨g, 0, none⟩) l.length c) (tlR l l.length) W → Below w3.heap.size w3 W → Calls Tryd.prog 21 #[.slice (some ⟨g, 0, none⟩) l.length c] W fun e w' => e = .returned (.tuple #[]) ∧ NO w3.heap.size (.slice (some ⟨g, 0, none⟩) l.length c) l w' ∧ Below w3.heap.size w3 w') := fun W g c hO hW => by
          have hl' := TL.out l l.length (Nat.le_refl _)
          have := revI_any (B := w3.heap.size) (w0 := w3) (z := tlR l l.length) (by rw [hl']; exact hO) hW (by omega) (by omega)
          rw [TA.out, hl'] at this
          exact this
        have LC : Hid (∀ W g c, NO w3.heap.size (.slice (some ⟨g, 0, none⟩) l.length c) l W → W.cell? ⟨g, 0, none⟩ = some (.int .i64 (p : Int))) := fun W g c hO => by rw [← s1]; exact hO.cell hM
        have TL1 := Lib.hid (fun j hj => TL.out l j hj)
        have TZ1 := Lib.hid (TZ.out l)
        have KE1 := Lib.hid (KE.out l)
        have t1 : (((l.length : Nat) : Int) == 0) = false := beq_eq_false_iff_ne.2 (by omega)
        clear s1 s3 TA TL TZ KE OZ NONE SOME h0
        generalize tlR l = tl at *
        generalize kvR l = kv at *
        generalize l.length = M at *
        rw [← s2]
        clear s2
        go_wp2_with fail
        go_loopw [13, 14] (fun u vk wr => ∃ j : Nat, j ≤ M ∧ vk = .int .i64 (kv j) ∧ NO w3.heap.size u (tl j) wr ∧ Below w3.heap.size w3 wr) (fun u _ _ => M + 1 - lenOf u)
        case atStart => exact ⟨0, Nat.zero_le _, rfl, by rw [TZ1.out]; exact no_nil _ _, Below.refl _ _⟩
        case round =>
          rename_i wr
          obtain ⟨j, hj, rfl, qo, qb⟩ := hrel
          have QO := Lib.hid qo; have QB := Lib.hid qb; clear qo qb
          have htl := TL1.out j hj
          have hle := no_len QO.out
          by_cases hjl : j < M
          · obtain ⟨i, q1, q2, q3, q4⟩ := S3.out j hjl
            have Q3 := Lib.hid q3; have Q4 := Lib.hid q4
            obtain ⟨ua, uc, rfl, huc, _⟩ := QO.out.shape
            have j1 : (0 : Int) ≤ (i : Int) := by omega
            have j2 : (j : Int) ≤ (L : Int) := by omega
            have j3 : ¬ (L : Int) ≤ (i : Int) := by omega
            have j4 : (i : Int) < (L : Int) := by omega
            rw [htl] at QO huc ⊢
            rw [q1]
            clear q1 q3 q4 hle EQ RV LC c0
            have HTL := Lib.hid htl; clear htl
            cases ua
            all_goals
              go_wp2_with (at_builtin; refine wpList_append_own _ rfl _ _ 23 rfl w3.heap.size 3 i0 (.int .i64 0) 1 8 Tryd.underlying23 HI.out HZ0.out HZ1.out HZ2.out rfl (by decide) _ _ _ rfl (World.ownsRow.alloc QO.out _) ⟨wr.heap.size, 0, none⟩ 1 1 [.int .i64 (i : Int)] rfl rfl ?c1 ?c2 ?c3 ?c4 ?c5 ?_)
              case c2 => rfl
              case c3 => have := HTL.out; unfold maxLen; omega
              case c4 => have := HTL.out; omega
              case c5 => have := QB.out.size; simp; omega
              intro v' w5 hown5 hgrow5 _
              have B5 := Lib.hid ((QB.out.alloc QB.out.size _).grown hgrow5 (by have := QB.out.size; simp; omega) (fun g hg => (QO.out.lt g hg).1))
              have O5 : Hid (NO w3.heap.size v' (tl (j + 1)) w5) := Lib.hid (by
                rw [Q4.out]
                unfold NO
                rw [List.length_append, ints_append]
                exact hown5)
              have hle5 := no_len O5.out
              have htl5 := TL1.out (j + 1) (by omega)
              have c5 := DC1.out w5 B5.out i q2
              rw [Q3.out] at c5
              clear hgrow5 hown5
              go_wp2
              go_roundw
              case rel => exact ⟨j + 1, by omega, rfl, O5.out, B5.out⟩
              case measure => show M + 1 - lenOf v' < M + 1 - j; rw [hle5, htl5]; omega
          · obtain rfl : j = M := by omega
            have j1 : ¬ (0 : Int) ≤ (-1 : Int) := by omega
            rw [KE1.out]
            obtain ⟨ua, uc, rfl, huc, hg⟩ := QO.out.shape
            obtain ⟨g, rfl⟩ := hg (by omega)
            rw [htl] at QO ⊢
            have RV1 := Lib.hid (RV.out wr g uc QO.out QB.out)
            clear htl hle hg huc RV S3 TL1 DC1 c0 TZ1 KE1
            go_wp2_with fail
            refine RV1.out.mono ?_
            rintro e w6 ⟨rfl, o6, b6⟩
            have O6 := Lib.hid o6; have B6 := Lib.hid b6
            have EQ1 := Lib.hid (EQ.out w6 _ o6.ni b6)
            clear o6 b6 RV1 EQ
            go_wp2_with fail
            refine EQ1.out.mono ?_
            rintro e w7 ⟨rfl, q, hq⟩
            have c7 := LC.out w7 g uc (by rw [hq]; exact own_later O6.out (below_drewN (Below.refl _ _) q))
            have B7 : Hid (Below w3.heap.size w3 w7) := by rw [hq]; exact below_drewN B6.out q
            clear hq EQ1 LC O6
            go_wp2
            go_ret
            exact ⟨rfl, B3.out.trans (B7.out.mono B3.out.size)⟩
    · have t2 := zero_ne h2
      have t3 : (C2 == 0) = false := beq_eq_false_iff_ne.2 h2
      have E := BD2.out h2
      subst h1
      clear OK BD1 BD2 DC OZ h2 TA TL TZ KE
      rw [E]
      clear E
      go_wp2
      go_ret
      exact ⟨rfl, B3.out⟩
  · have t1 := zero_ne h1
    have t3 : (C1 == 0) = false := beq_eq_false_iff_ne.2 h1
    have E := BD1.out h1
    by_cases h2 : C2 = 0
    · subst h2
      clear OK BD1 BD2 DC OZ h1 TA TL TZ KE
      rw [E]
      clear E
      go_wp2
      go_ret
      exact ⟨rfl, B3.out⟩
    · have t4 : (C2 == 0) = false := beq_eq_false_iff_ne.2 h2
      have E2 := BD2.out h2
      clear OK BD1 BD2 DC OZ h1 h2 TA TL TZ KE
      rw [E, E2]
      clear E E2
      go_wp2
      go_ret
      exact ⟨rfl, B3.out⟩
end Go.Proofs.YtjmomgmbmgdeoaaDoor
