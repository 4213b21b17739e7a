/-
  The laws KnotOrder, KnotRing, whatever their arguments. Condition: the table of math/bits lies in memory as its text lays it (the card ties this).
-/
import Derived.Test.YtbippnldofalbaaDoorHKa
namespace Go.Proofs.YtbippnldofalbaaDoor
set_option maxRecDepth 100000
set_option linter.unusedVariables false
open Go.ChangeShapes Go.WideShapes Go.ChangeAt Go.RowKit

/-! KnotOrder -/
theorem ordd_at {r : List Bv} (hl : r.length ≤ 64) {l : List Nat} (h : Ordd r l) {j : Nat} (hj : j < l.length) :
    iAt l j < r.length ∧ (setL (l.take j)).getLsbD (iAt l j) = false ∧ wAt r (iAt l j) &&& ~~~setL (l.take j) = 0#64 ∧ setL (l.take (j + 1)) = setL (l.take j) ||| one (iAt l j) := by
  have hg := get_iAt hj
  have hn := h.lt _ (List.mem_of_getElem? hg)
  refine ⟨hn, ?_, le_iff.2 fun k hk => (setL_bit (bit_lt hk)).2 (h.bef j _ hg k hk), ?_⟩
  · cases hb : (setL (l.take j)).getLsbD (iAt l j)
    · rfl
    · obtain ⟨i, hi⟩ := List.mem_iff_getElem?.1 ((setL_bit (by omega)).1 hb)
      obtain ⟨h1, h2⟩ := take_get hi
      obtain ⟨q1, q2⟩ := List.getElem?_eq_some_iff.1 h2
      obtain ⟨q3, q4⟩ := List.getElem?_eq_some_iff.1 hg
      exact absurd (q2.trans q4.symm) (List.pairwise_iff_getElem.1 h.nd i j q1 q3 h1)
  · rw [List.take_add_one, hg]
    exact setL_snoc _ _
theorem both_beq {C D : Int} (h : C = 8 ↔ D = 0) : ((C == 8) == (D == 0)) = true := by
  rw [beq_iff_eq, Bool.eq_iff_iff, beq_iff_eq, beq_iff_eq]; exact h
set_option maxHeartbeats 8000000 in
theorem knotOrder_any {w : World} {v : Value} {r : List Bv} (h : WIn w v r) (ht : Tab w) :
    Calls Tryd.prog 6 #[v] w fun e w' => e = .returned (.bool true) ∧ Below w.heap.size w w' := by
  have KN := Lib.hid (knots_true w ht)
  have OR := Lib.hid (fun W (hW : Below w.heap.size w W) => order_any (h.later hW) (ht.below hW ht.1))
  have RI := Lib.hid (fun W (hW : Below w.heap.size w W) => ring_any (h.later hW) (ht.below hW ht.1))
  have BAD : Hid (ordC r ≠ 0 → (ordC r = 8 ↔ ringC r = 0) ∧ ordL r = []) := fun h => ⟨ordC_ring h, ordL_bad h⟩
  have OK : Hid (ordC r = 0 → ringC r = 5 ∧ r.length ≤ 64 ∧ (ordL r).length = r.length ∧ ∀ j, j < (ordL r).length → iAt (ordL r) j < r.length ∧ (setL ((ordL r).take j)).getLsbD (iAt (ordL r) j) = false ∧ wAt r (iAt (ordL r) j) &&& ~~~setL ((ordL r).take j) = 0#64 ∧ setL ((ordL r).take (j + 1)) = setL ((ordL r).take j) ||| one (iAt (ordL r) j)) := fun h => by
    obtain ⟨hr, hl⟩ := ordC_zero h
    have e := ordL_ok h
    have o : Ordd r (ordL r) := by rw [e]; exact ord_ordd hr
    exact ⟨ordC_none h, hr.len, by rw [e]; exact hl, fun j hj => ordd_at hr.len o hj⟩
  obtain ⟨a, c, rfl, hc0⟩ := h
  have HC : Hid (∀ W, Below w.heap.size w W → ∀ k, k < r.length → ∃ b off, a = some ⟨b, off, none⟩ ∧ W.cell? ⟨b, off + k, none⟩ = some (.int .u64 ((wAt r k).toNat : Int))) := fun W hW k hk => by
    obtain ⟨b, off, e, c⟩ := hc0 k hk
    exact ⟨b, off, e, cell_later hW c⟩
  clear hc0 ht
  go_enter Tryd.func6, Tryd.ntmps6
  go_wp2_with fail
  refine KN.out.mono ?_
  rintro e w1 ⟨rfl, b1⟩
  have B1 := Lib.hid b1
  clear b1
  go_wp2_with fail
  refine (OR.out _ B1.out).mono ?_
  rintro e w2 ⟨b2, u, rfl, o2⟩
  have B2 := Lib.hid (B1.out.trans (b2.mono B1.out.size))
  have O2 := Lib.hid o2.ni
  clear b2 o2 KN
  go_wp2_with fail
  refine (RI.out _ B2.out).mono ?_
  rintro e w3 ⟨b3, u3, l3, rfl, _, _, _⟩
  have B3 := Lib.hid (B2.out.trans (b3.mono B2.out.size))
  have O3 := Lib.hid (O2.out.later b3)
  clear b3 O2 OR RI
  generalize ordC r = C at *
  generalize ringC r = D at *
  generalize hO : ordL r = O at *
  generalize r.length = L at *
  obtain ⟨oa, oc, rfl, hoc, hcc⟩ := O3.out
  have OC := Lib.hid hcc; clear hcc
  by_cases hc : C = 0
  · subst hc
    obtain ⟨s1, hl64, hOL, s4⟩ := OK.out rfl
    subst s1
    have AT := Lib.hid s4
    clear s4 BAD OK
    have SZ : Hid (setL (O.take 0) = 0#64) := Lib.hid rfl
    generalize O.length = M at *
    go_wp2_with fail
    go_loopw [7, 36] (fun s i wr => ∃ j : Nat, j ≤ M ∧ i = .int .i64 (j : Int) ∧ s = .int .u64 ((setL (O.take j)).toNat : Int) ∧ wr = w3) (fun _ i _ => M - (intOf i).toNat)
    case atStart => exact ⟨0, Nat.zero_le _, rfl, by rw [SZ.out]; rfl, rfl⟩
    case round =>
      obtain ⟨j, hj, rfl, rfl, rfl⟩ := hrel
      by_cases hjl : j < M
      · obtain ⟨ob, oo, rfl, c1⟩ := OC.out j hjl
        obtain ⟨n1, n2, n3, n4⟩ := AT.out j hjl
        generalize iAt O j = n at *
        obtain ⟨b, off, rfl, c0⟩ := HC.out wr B3.out n n1
        have HA := Lib.hid (fun W => has_any (setL (O.take j)) n W (by omega))
        rw [n2] at HA
        have e1 : (bits .andNot .u64 ((wAt r n).toNat : Int) ((setL (O.take j)).toNat : Int) != 0) = false := by rw [bv_andNot, n3]; rfl
        have hn64 : (n : Int) < 64 := by omega
        have e2 : bits .or .u64 ((setL (O.take j)).toNat : Int) (IntKind.u64.wrap (2 ^ n)) = ((setL (O.take (j + 1))).toNat : Int) := by rw [one_walk n (by omega), bv_or, n4]
        have i1 : ¬ (n : Int) < 0 := by omega
        have i2 : (n : Int) < (L : Int) := by omega
        clear n2 n3 n4
        generalize wAt r n = z at *
        generalize hy : (setL (O.take (j + 1))).toNat = y at *
        have HY := Lib.hid hy; clear hy
        generalize (setL (O.take j)).toNat = x at *
        go_wp2_with fail
        refine (HA.out _).mono ?_
        rintro e w4 ⟨rfl, rfl⟩
        go_wp2
        go_roundw
        case rel => exact ⟨j + 1, by omega, by go_num, by rw [HY.out], trivial⟩
        case measure => simp [intOf]; omega
      · obtain rfl : j = M := by omega
        have t1 : ((j : Int) == (L : Int)) = true := by rw [hOL]; simp
        go_wp2
        go_ret
        exact ⟨rfl, B3.out⟩
  · have t1 := zero_ne hc
    obtain ⟨h1, h2⟩ := BAD.out hc
    have t2 := both_beq h1
    subst h2
    clear hc BAD OK h1
    go_wp2
    go_ret
    exact ⟨rfl, B3.out⟩

/-! KnotRing -/
theorem NI.take {w : World} {a : Option Addr} {c : Nat} {l : List Nat} (h : NI w (.slice a l.length c) l) {i : Nat} (hi : i ≤ l.length) : NI w (.slice a i c) (l.take i) := by
  obtain ⟨a', c', e, h1, h2⟩ := h
  cases e
  have e : (l.take i).length = i := by rw [List.length_take]; omega
  refine ⟨a, c, by rw [e], by omega, fun k hk => ?_⟩
  rw [e] at hk
  obtain ⟨b, off, e2, c2⟩ := h2 k (by omega)
  refine ⟨b, off, e2, ?_⟩
  rw [c2]
  unfold iAt
  rw [List.getD, List.getD, List.getElem?_take, if_pos hk]
theorem containsI_no {w : World} {v : Value} {l : List Nat} (x : Nat) (h : NI w v l) (hl : l.length ≤ 64) (hx : x ∉ l) :
    Calls Tryd.prog 31 #[v, .int .i64 (x : Int)] w fun e w' => e = .returned (.bool false) ∧ w' = w := by
  have IX := Lib.hid (indexI_any x h hl)
  have HX := Lib.hid hx
  obtain ⟨a, c, rfl, _⟩ := h
  clear hx
  generalize l.length = L at *
  go_enter Tryd.func31, Tryd.ntmps31
  go_wp2_with fail
  refine IX.out.mono ?_
  rintro e w2 ⟨⟨k, _, hkx, rfl⟩ | ⟨_, rfl⟩, rfl⟩
  · exact absurd (List.mem_of_getElem? hkx) HX.out
  · go_wp2
    go_ret
    exact ⟨rfl, rfl⟩
theorem ring_at {r : List Bv} {l : List Nat} (h : RingL r l) {i : Nat} (hi : i < l.length) : iAt l i < r.length ∧ iAt l ((i + 1) % l.length) < r.length ∧ (wAt r (iAt l i)).getLsbD (iAt l ((i + 1) % l.length)) = true ∧ iAt l i ∉ l.take i := by
  have hg := get_iAt hi
  have hm : (i + 1) % l.length < l.length := Nat.mod_lt _ h.pos
  have hg2 := get_iAt hm
  refine ⟨h.lt _ (List.mem_of_getElem? hg), h.lt _ (List.mem_of_getElem? hg2), h.nx i _ hg _ hg2, fun hx => ?_⟩
  obtain ⟨k, hk⟩ := List.mem_iff_getElem?.1 hx
  obtain ⟨h1, h2⟩ := take_get hk
  obtain ⟨q1, q2⟩ := List.getElem?_eq_some_iff.1 h2
  obtain ⟨q3, q4⟩ := List.getElem?_eq_some_iff.1 hg
  exact absurd (q2.trans q4.symm) (List.pairwise_iff_getElem.1 h.nd k i q1 q3 h1)
set_option maxHeartbeats 8000000 in
theorem knotRing_any {w : World} {v : Value} {r : List Bv} (h : WIn w v r) (ht : Tab w) :
    Calls Tryd.prog 7 #[v] w fun e w' => e = .returned (.bool true) ∧ Below w.heap.size w w' := by
  have KN := Lib.hid (knots_true w ht)
  have RI := Lib.hid (fun W (hW : Below w.heap.size w W) => ring_any (h.later hW) (ht.below hW ht.1))
  have LN : Hid (ringC r = 0 → r.length ≤ 64) := fun h => by
    by_cases hc : ckR r = 0
    · exact (ckR_zero hc).len
    · rw [ringC_bad hc] at h; exact absurd h hc
  obtain ⟨a, c, rfl, hc0⟩ := h
  have HC : Hid (∀ W, Below w.heap.size w W → ∀ k, k < r.length → ∃ b off, a = some ⟨b, off, none⟩ ∧ W.cell? ⟨b, off + k, none⟩ = some (.int .u64 ((wAt r k).toNat : Int))) := fun W hW k hk => by
    obtain ⟨b, off, e, c⟩ := hc0 k hk
    exact ⟨b, off, e, cell_later hW c⟩
  clear hc0 ht
  go_enter Tryd.func7, Tryd.ntmps7
  go_wp2_with fail
  refine KN.out.mono ?_
  rintro e w1 ⟨rfl, b1⟩
  have B1 := Lib.hid b1
  clear b1
  go_wp2_with fail
  refine (RI.out _ B1.out).mono ?_
  rintro e w2 ⟨b2, u, l, rfl, n2, r2, z2⟩
  have B2 := Lib.hid (B1.out.trans (b2.mono B1.out.size))
  have N2 := Lib.hid n2; have R2 := Lib.hid r2; have Z2 := Lib.hid z2
  clear b2 n2 r2 z2 KN RI
  by_cases hc : ringC r = 0
  · have RL := R2.out hc
    have AT := Lib.hid (fun i hi => ring_at RL (i := i) hi)
    have hpos := RL.pos
    have hl64 := LN.out hc
    have hlen : l.length ≤ 64 := nodup_le RL.nd fun n hn => by have := RL.lt n hn; omega
    obtain ⟨oa, oc, rfl, hoc, hcc⟩ := N2.out
    have OC := Lib.hid hcc
    have TK := Lib.hid (fun i hi => NI.take N2.out (i := i) hi)
    have CN := Lib.hid (fun i x (hi : i ≤ l.length) hx => containsI_no x (TK.out i hi) (by rw [List.length_take]; omega) hx)
    rw [hc]
    clear hcc RL R2 Z2 hc LN TK N2
    generalize hM : l.length = M at *
    clear hM
    generalize r.length = L at *
    go_wp2_with fail
    go_loopw [22] (fun i wr => ∃ j : Nat, j ≤ M ∧ i = .int .i64 (j : Int) ∧ wr = w2) (fun i _ => M - (intOf i).toNat)
    case atStart => exact ⟨0, Nat.zero_le _, rfl, rfl⟩
    case round =>
      obtain ⟨j, hj, rfl, rfl⟩ := hrel
      by_cases hjl : j < M
      · obtain ⟨ob, oo, rfl, c1⟩ := OC.out j hjl
        have hq : (j + 1) % M < M := Nat.mod_lt _ (by omega)
        obtain ⟨_, _, e, c2⟩ := OC.out ((j + 1) % M) hq
        cases e
        obtain ⟨n1, m1, n2, n3⟩ := AT.out j hjl
        have em : Int.tmod ((j : Int) + 1) (M : Int) = (((j + 1) % M : Nat) : Int) := by rw [Int.tmod_eq_emod_of_nonneg (by omega)]; simp
        have hM0 : ¬ (M : Int) = 0 := by omega
        generalize (j + 1) % M = q at *
        generalize iAt l q = m at *
        have CX := Lib.hid (CN.out j (iAt l j) (by omega) n3)
        generalize iAt l j = n at *
        obtain ⟨b, off, rfl, c0⟩ := HC.out wr B2.out n n1
        have HA := Lib.hid (fun W => has_any (wAt r n) m W (by omega))
        rw [n2] at HA
        have i1 : ¬ (n : Int) < 0 := by omega
        have i2 : (n : Int) < (L : Int) := by omega
        have i3 : (j : Int) ≤ (oc : Int) := by omega
        have i4 : (q : Int) < (M : Int) := by omega
        clear n2 n3
        generalize wAt r n = z at *
        go_wp2_with fail
        refine (HA.out _).mono ?_
        rintro e w4 ⟨rfl, rfl⟩
        go_wp2_with fail
        refine CX.out.mono ?_
        rintro e w4 ⟨rfl, rfl⟩
        go_wp2
        go_roundw
        case rel => exact ⟨j + 1, by omega, by go_num, trivial⟩
        case measure => simp [intOf]; omega
      · obtain rfl : j = M := by omega
        have t1 : (0 : Int) < (j : Int) := by omega
        go_wp2
        go_ret
        exact ⟨rfl, B2.out⟩
  · have t1 := zero_ne hc
    have e := Z2.out hc
    subst e
    obtain ⟨oa, oc, rfl, hoc, _⟩ := N2.out
    generalize ringC r = C at *
    clear hc R2 Z2 N2
    go_wp2
    go_ret
    exact ⟨rfl, B2.out⟩
end Go.Proofs.YtbippnldofalbaaDoor
