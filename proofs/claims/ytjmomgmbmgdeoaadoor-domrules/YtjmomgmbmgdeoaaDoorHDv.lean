/-
  The law DomRules, whatever its arguments. Condition: the table of math/bits lies in memory as its text lays it (the card ties this).
-/
import Derived.Test.YtjmomgmbmgdeoaaDoorHDw
namespace Go.Proofs.YtjmomgmbmgdeoaaDoor
set_option maxRecDepth 100000
set_option linter.unusedVariables false
open Go.ChangeShapes Go.WideShapes Go.ChangeAt Go.RowKit

theorem rows_ext {a b : List Bv} (hl : a.length = b.length) (h : ∀ i, i < a.length → wAt a i = wAt b i) : a = b := by
  refine List.ext_getElem hl fun i h1 h2 => ?_
  have := h i h1
  unfold wAt at this
  rwa [List.getD, List.getD, List.getElem?_eq_getElem h1, List.getElem?_eq_getElem h2] at this
theorem wAt_set {r : List Bv} {j i : Nat} {s : Bv} (hj : j < r.length) : wAt (r.set j s) i = if i = j then s else wAt r i := by
  unfold wAt
  rw [List.getD, List.getElem?_set]
  by_cases h : j = i
  · subst h; rw [if_pos rfl, if_pos hj, if_pos rfl]; rfl
  · rw [if_neg h, if_neg (Ne.symm h)]; rfl
/-- rows, the first j of which need k no more -/
def ouR (r : List Bv) (k j : Nat) : List Bv := (List.range r.length).map fun i => if i < j then wAt r i &&& ~~~one k else wAt r i
theorem ouR_length (r : List Bv) (k j : Nat) : (ouR r k j).length = r.length := by unfold ouR; rw [List.length_map, List.length_range]
theorem ouR_at {r : List Bv} {k j i : Nat} (h : i < r.length) : wAt (ouR r k j) i = if i < j then wAt r i &&& ~~~one k else wAt r i := by
  unfold wAt ouR
  rw [List.getD, List.getElem?_map, List.getElem?_range h]; rfl
theorem ouR_zero (r : List Bv) (k : Nat) : ouR r k 0 = r := rows_ext (ouR_length _ _ _) fun i hi => by
  rw [ouR_length] at hi
  rw [ouR_at hi, if_neg (Nat.not_lt_zero _)]
theorem ouR_next {r : List Bv} {k j : Nat} (h : j < r.length) : (ouR r k j).set j (wAt (ouR r k j) j &&& ~~~one k) = ouR r k (j + 1) := rows_ext (by rw [List.length_set, ouR_length, ouR_length]) fun i hi => by
  rw [List.length_set, ouR_length] at hi
  rw [wAt_set (by rw [ouR_length]; exact h), ouR_at h, ouR_at hi, ouR_at hi, if_neg (Nat.lt_irrefl _)]
  by_cases e : i = j
  · subst e; rw [if_pos rfl, if_pos (Nat.lt_succ_self _)]
  · rw [if_neg e]
    by_cases h' : i < j
    · rw [if_pos h', if_pos (by omega)]
    · rw [if_neg h', if_neg (by omega)]
theorem ouR_all {r : List Bv} {k : Nat} (h : k < r.length) : (ouR r k r.length).set k 0#64 = outR r k := rows_ext (by rw [List.length_set, ouR_length, outR_length]) fun i hi => by
  rw [List.length_set, ouR_length] at hi
  rw [wAt_set (by rw [ouR_length]; exact h), ouR_at hi, outR_at hi, if_pos hi]
theorem rules_out {r : List Bv} {p k m : Nat} (h : rangeC r [(p : Int), (k : Int), (m : Int)] = 0) (d1 d2 : Bool) (h1 : ((k : Int) != (m : Int)) = d1) (h2 : ((k : Int) != (p : Int)) = d2) :
    rulesA r (p : Int) (k : Int) (m : Int) = ((allR r (one p)).getLsbD m && !((allR (outR r k) (one p)).getLsbD m && d1 && d2)) := by
  obtain ⟨hr, p', k', m', e1, e2, e3, hp, hk, hm⟩ := range_three h
  obtain rfl : p = p' := by omega
  obtain rfl : k = k' := by omega
  obtain rfl : m = m' := by omega
  have hl := hr.len
  have out : k ≠ p → (allR (outR r k) (one p)).getLsbD m = true → m ≠ k := fun hkp hm2 => by
    rw [all_one (outR_in hr (by omega)) (by rw [outR_length]; exact hp), out_walk (by omega) (Ne.symm hkp)] at hm2
    exact hm2.stop
  rw [Bool.eq_iff_iff, rulesA_ok h, dm_out hr hp hk]
  subst h1 h2
  rw [Bool.and_eq_true, Bool.not_eq_true', Bool.and_eq_false_iff, Bool.and_eq_false_iff, bne_eq_false_iff_eq, bne_eq_false_iff_eq]
  refine and_congr_right fun _ => ⟨?_, ?_⟩
  · rintro (h' | h')
    · exact .inr (by rw [h'])
    · exact .inl (.inl h')
  · rintro ((h' | h') | h')
    · exact .inr h'
    · obtain rfl : k = m := by omega
      by_cases e : k = p
      · exact .inl e
      · refine .inr ?_
        cases hb : (allR (outR r k) (one p)).getLsbD k
        · rfl
        · exact absurd rfl (out e hb)
    · exact .inl (by omega)
set_option maxHeartbeats 16000000 in
theorem domRules_any {w : World} {v : Value} {r : List Bv} (o a b : Int) (h : WIn w v r) (ht : Tab w) :
    Calls Tryd.prog 4 #[v, .int .i64 o, .int .i64 a, .int .i64 b] w fun e w' => e = .returned (.bool true) ∧ Below w.heap.size w w' := by
  have DT := Lib.hid (doms_true w ht)
  have RU := Lib.hid (fun W (hW : Below w.heap.size w W) => rulesP_any o a b (h.later hW) (ht.below hW ht.1))
  have BAD : Hid (rangeC r [o, a, b] ≠ 0 → rulesA r o a b = false) := rulesA_bad
  have OK : Hid (rangeC r [o, a, b] = 0 → ∃ p k m : Nat, o = (p : Int) ∧ a = (k : Int) ∧ b = (m : Int) ∧ p < r.length ∧ k < r.length ∧ m < r.length ∧ r.length ≤ 64 ∧
      (∀ d1 d2, ((k : Int) != (m : Int)) = d1 → ((k : Int) != (p : Int)) = d2 → rulesA r o a b = ((allR r (one p)).getLsbD m && !((allR (outR r k) (one p)).getLsbD m && d1 && d2))) ∧
      (∀ W, Below w.heap.size w W → Calls Tryd.prog 17 #[v, .int .u64 ((one p).toNat : Int)] W fun e w' => e = .returned (.tuple #[.int .u64 ((allR r (one p)).toNat : Int), .int .i64 0]) ∧ Below W.heap.size W w') ∧
      (∀ W, Below w.heap.size w W → Calls Tryd.prog 18 #[v] W fun e w' => ∃ g c, e = .returned (.slice (some ⟨g, 0, none⟩) r.length c) ∧ WO W.heap.size (.slice (some ⟨g, 0, none⟩) r.length c) (ouR r k 0) w' ∧ Below W.heap.size W w') ∧
      (∀ W u, Below w.heap.size w W → WIn W u (outR r k) → Calls Tryd.prog 17 #[u, .int .u64 ((one p).toNat : Int)] W fun e w' => e = .returned (.tuple #[.int .u64 ((allR (outR r k) (one p)).toNat : Int), .int .i64 0]) ∧ Below W.heap.size W w') ∧
      (∀ W B g c j s, j < r.length → WO B (.slice (some ⟨g, 0, none⟩) r.length c) (ouR r k j) W → W.frozen? ⟨g, j, none⟩ = false ∧ W.cell? ⟨g, j, none⟩ = some (.int .u64 ((wAt (ouR r k j) j).toNat : Int)) ∧
        (s = (wAt (ouR r k j) j &&& ~~~one k).toNat → WO B (.slice (some ⟨g, 0, none⟩) r.length c) (ouR r k (j + 1)) (W.setCell ⟨g, j, none⟩ (.int .u64 (s : Int))) ∧ W.grownBy (W.setCell ⟨g, j, none⟩ (.int .u64 (s : Int))) (some g))) ∧
      (∀ W B g c, WO B (.slice (some ⟨g, 0, none⟩) r.length c) (ouR r k r.length) W → W.frozen? ⟨g, k, none⟩ = false ∧ (∃ y : Nat, W.cell? ⟨g, k, none⟩ = some (.int .u64 (y : Int))) ∧ B ≤ g ∧
        WIn (W.setCell ⟨g, k, none⟩ (.int .u64 0)) (.slice (some ⟨g, 0, none⟩) r.length c) (outR r k) ∧ W.grownBy (W.setCell ⟨g, k, none⟩ (.int .u64 0)) (some g))) := fun hz => by
    obtain ⟨hr, p, k, m, rfl, rfl, rfl, hp, hk, hm⟩ := range_three hz
    have hl := hr.len
    refine ⟨p, k, m, rfl, rfl, rfl, hp, hk, hm, hl, fun d1 d2 h1 h2 => rules_out hz d1 d2 h1 h2, fun W hW => fromO_any (h.later hW) hr hp (ht.below hW ht.1), fun W hW => ?_, fun W u hW hu => fromO_any hu (outR_in hr (by omega)) (by rw [outR_length]; exact hp) (ht.below hW ht.1), fun W B g c j s hj hO => ?_, fun W B g c hO => ?_⟩
    · rw [ouR_zero]; exact cloneW_any (h.later hW) (by omega) hl
    · have hO' := hO
      rw [← ouR_length r k j] at hO'
      refine ⟨hO'.frozen j, hO'.cell (by rw [ouR_length]; exact hj), fun hs => ?_⟩
      have h1 := hO'.put j (wAt (ouR r k j) j &&& ~~~one k)
      rw [ouR_next hj, ouR_length] at h1
      rw [hs]; exact h1
    · have hO' : WO B (.slice (some ⟨g, 0, none⟩) (ouR r k r.length).length c) (ouR r k r.length) W := by rw [ouR_length]; exact hO
      obtain ⟨h1, h2⟩ := hO'.put k 0#64
      rw [ouR_all hk, ouR_length] at h1
      refine ⟨hO'.frozen k, ⟨_, hO'.cell (by rw [ouR_length]; exact hk)⟩, (hO'.lt g rfl).1, ?_, h2⟩
      have h3 : WO B (.slice (some ⟨g, 0, none⟩) r.length c) (outR r k) (W.setCell ⟨g, k, none⟩ (.int .u64 0)) := h1
      exact h3.win
  obtain ⟨sa, sc, rfl, _⟩ := h
  clear ht
  generalize rangeC r [o, a, b] = C at *
  generalize rulesA r o a b = IS at *
  generalize r.length = L at *
  go_enter Tryd.func4, Tryd.ntmps4
  go_wp2_with fail
  refine DT.out.mono ?_
  rintro e w1 ⟨rfl, b1⟩
  have B1 := Lib.hid b1
  clear b1 DT
  go_wp2_with fail
  refine (RU.out _ B1.out).mono ?_
  rintro e w2 ⟨rfl, b2⟩
  have B2 := Lib.hid (B1.out.trans (b2.mono B1.out.size))
  clear b2 B1 RU
  by_cases hz : C = 0
  · obtain ⟨p, k, m, rfl, rfl, rfl, hp, hk, hm, hl, eis, f1, f2, f3, f4, f5⟩ := OK.out hz
    have EI := Lib.hid eis; have F1 := Lib.hid f1; have F2 := Lib.hid f2; have F3 := Lib.hid f3; have F4 := Lib.hid f4; have F5 := Lib.hid f5
    subst hz
    clear OK BAD eis f1 f2 f3 f4 f5
    have e1 := one_walk p (by omega)
    have e2 := one_walk k (by omega)
    have hp64 : (p : Int) < 64 := by omega
    have hk64 : (k : Int) < 64 := by omega
    have hkL : (k : Int) < (L : Int) := by omega
    go_wp2_with fail
    refine (F1.out _ B2.out).mono ?_
    rintro e w3 ⟨rfl, b3⟩
    have B3 := Lib.hid (B2.out.trans (b3.mono B2.out.size))
    clear b3 B2 F1
    go_wp2_with fail
    refine (F2.out _ B3.out).mono ?_
    rintro e w4 ⟨g, c, rfl, o4, b4⟩
    have B4 := Lib.hid (B3.out.trans (b4.mono B3.out.size)); have O4 := Lib.hid o4
    have hq : w.heap.size ≤ w3.heap.size := B3.out.size
    clear b4 o4 F2
    go_wp2_with fail
    go_loopw [43] (fun i wr => ∃ j : Nat, j ≤ L ∧ i = .int .i64 (j : Int) ∧ WO w3.heap.size (.slice (some ⟨g, 0, none⟩) L c) (ouR r k j) wr ∧ Below w.heap.size w wr) (fun i _ => L - (intOf i).toNat)
    case atStart => exact ⟨0, Nat.zero_le _, rfl, O4.out, B4.out⟩
    case round =>
      obtain ⟨j, hj, rfl, qo, qb⟩ := hrel
      have QO := Lib.hid qo; have QB := Lib.hid qb; clear qo qb
      rename World => wr
      by_cases hjl : j < L
      · obtain ⟨fr, c0, st⟩ := F4.out wr w3.heap.size g c j (wAt (ouR r k j) j &&& ~~~one k).toNat hjl QO.out
        obtain ⟨o5, g5⟩ := st rfl
        have hg := (QO.out.lt g rfl).1
        have O5 := Lib.hid o5
        have B5 := Lib.hid (below_grown' QB.out g5 QB.out.size (Nat.le_trans hq hg))
        have OD : Hid (WO w3.heap.size (.slice (some ⟨g, 0, none⟩) L c) (ouR r k (j + 1)) (wr.setCell ⟨g, j, none⟩ (.int .u64 ((wAt (ouR r k j) j &&& ~~~one k).toNat : Int))).drew) := Lib.hid (own_later o5 (Below.refl _ _).drew)
        have e3 : bits .andNot .u64 ((wAt (ouR r k j) j).toNat : Int) ((one k).toNat : Int) = ((wAt (ouR r k j) j &&& ~~~one k).toNat : Int) := by rw [bv_andNot]
        have hjL : (j : Int) < (L : Int) := by omega
        clear st o5 g5 hg O5
        generalize (wAt (ouR r k j) j &&& ~~~one k).toNat = y at *
        generalize (wAt (ouR r k j) j).toNat = x at *
        go_wp2_with fail
        go_region
        go_wp2
        go_roundw
        case rel => exact ⟨j + 1, by omega, by go_num, OD.out, B5.out.drew⟩
        case measure => simp [intOf]; omega
      · obtain rfl : j = L := by omega
        obtain ⟨fr, ⟨y, c0⟩, hg, hwi, g5⟩ := F5.out wr w3.heap.size g c QO.out
        have B5 := Lib.hid (below_grown' QB.out g5 QB.out.size (Nat.le_trans hq hg))
        have FF := Lib.hid (F3.out _ _ B5.out hwi)
        have HX := Lib.hid (fun W => has_any (allR r (one p)) m W (by omega))
        have HY := Lib.hid (fun W => has_any (allR (outR r k) (one p)) m W (by omega))
        have G2 := Lib.hid (fun W => good2_any 0 0 W 24)
        clear hwi g5 hg F3 F4 F5 QO QB O4 B4 e2
        have E1 := EI.out _ _ rfl rfl
        clear EI
        generalize hcv : (allR r (one p)).getLsbD m = cv at *
        generalize hlv : (allR (outR r k) (one p)).getLsbD m = lv at *
        clear hcv hlv
        generalize (allR r (one p)).toNat = X at *
        generalize (allR (outR r k) (one p)).toNat = Y at *
        generalize hd1 : ((k : Int) != (m : Int)) = d1 at *
        generalize hd2 : ((k : Int) != (p : Int)) = d2 at *
        subst E1
        go_wp2_with fail
        refine FF.out.mono ?_
        rintro e w6 ⟨rfl, b6⟩
        have B6 := Lib.hid (B5.out.trans (b6.mono B5.out.size))
        have BA : Hid (∀ T, Below w.heap.size w (w6.alloc (.cells #[.int .i64 0, .int .i64 0] T))) := fun T => B6.out.trans ((below_al w6 _).mono B6.out.size)
        clear b6 FF B5
        go_wp2_with fail
        refine (HY.out _).mono ?_
        rintro e w7 ⟨rfl, rfl⟩
        clear HY
        cases lv <;> cases d1 <;> cases d2 <;> cases cv
        all_goals
          go_wp2_with fail
          refine (G2.out _).mono ?_
          rintro e w8 ⟨⟨h, rfl⟩ | ⟨_, rfl⟩, rfl⟩
          · exact absurd h (by simp)
          · go_wp2_with fail
            refine (HX.out _).mono ?_
            rintro e w9 ⟨rfl, rfl⟩
            go_wp2
            go_ret
            exact ⟨rfl, BA.out _⟩
  · have t1 := zero_ne hz
    obtain rfl := BAD.out hz
    clear hz OK BAD
    go_wp2
    go_ret
    exact ⟨rfl, B2.out⟩
end Go.Proofs.YtjmomgmbmgdeoaaDoor
