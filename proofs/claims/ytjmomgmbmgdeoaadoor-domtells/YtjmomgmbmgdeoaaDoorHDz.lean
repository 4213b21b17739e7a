/-
  The document's answer (package millwrightref) for dominators: Ruling answers the dominators, root first. No condition.
-/
import Derived.Test.YtjmomgmbmgdeoaaDoorHDx
import Derived.Test.YtjmomgmbmgdeoaaDoorHDt
namespace Go.Proofs.YtjmomgmbmgdeoaaDoor
set_option maxRecDepth 100000
set_option linter.unusedVariables false
open Go.ChangeShapes Go.WideShapes Go.ChangeAt Go.RowKit

/-! in plain words -/
/-- l is the row that is looked for, all has the same numbers, F those that rule one -/
structure Rul (l all : List Nat) (F : Nat → List Nat) : Prop where
  len : all.length = l.length
  mem : ∀ a, a ∈ all ↔ a ∈ l
  low : ∀ i b, i < l.length → (b ∈ F (iAt l i) ↔ b ∈ l.take (i + 1))
  nd : l.Nodup
def hasB (u : List Nat) (b t : Nat) : Bool := decide (b ∈ u.take t)
def nxB (u bs : List Nat) (a t : Nat) : Bool := decide (∀ b ∈ bs.take t, b = a ∨ b ∈ u)
theorem take_snoc {l : List Nat} {t : Nat} (h : t < l.length) : l.take (t + 1) = l.take t ++ [iAt l t] := by
  rw [List.take_add_one, get_iAt h]; rfl
theorem hasB_zero (u : List Nat) (b : Nat) : hasB u b 0 = false := by unfold hasB; simp
theorem hasB_next {u : List Nat} {b t : Nat} (h : t < u.length) : hasB u b (t + 1) = (hasB u b t || decide (iAt u t = b)) := by
  unfold hasB
  rw [take_snoc h, ← Bool.decide_or, decide_eq_decide, List.mem_append, List.mem_singleton]
  exact or_congr_right eq_comm
theorem hasB_all (u : List Nat) (b : Nat) : hasB u b u.length = decide (b ∈ u) := by unfold hasB; rw [List.take_length]
theorem nxB_zero (u bs : List Nat) (a : Nat) : nxB u bs a 0 = true := by unfold nxB; simp
theorem nxB_next {u bs : List Nat} {a t : Nat} (h : t < bs.length) : nxB u bs a (t + 1) = (nxB u bs a t && (decide (iAt bs t = a) || hasB u (iAt bs t) u.length)) := by
  rw [hasB_all]
  unfold nxB
  rw [take_snoc h, ← Bool.decide_or, ← Bool.decide_and, decide_eq_decide]
  constructor
  · intro k
    exact ⟨fun b hb => k b (List.mem_append_left _ hb), k _ (List.mem_append_right _ (List.mem_singleton.2 rfl))⟩
  · rintro ⟨k1, k2⟩ b hb
    rcases List.mem_append.1 hb with h1 | h1
    · exact k1 b h1
    · rw [List.mem_singleton.1 h1]; exact k2
theorem mem_iAt {l : List Nat} {a : Nat} (h : a ∈ l) : ∃ i, i < l.length ∧ iAt l i = a := by
  obtain ⟨i, h1, h2⟩ := List.mem_iff_getElem.1 h
  exact ⟨i, h1, iAt_get (by rw [List.getElem?_eq_getElem h1, h2])⟩
theorem iAt_mem {l : List Nat} {i : Nat} (h : i < l.length) : iAt l i ∈ l := List.mem_of_getElem? (get_iAt h)
theorem iAt_inj {l : List Nat} (hn : l.Nodup) {i j : Nat} (hi : i < l.length) (hj : j < l.length) (h : iAt l i = iAt l j) : i = j := by
  have h1 := get_iAt hi; have h2 := get_iAt hj
  rw [h, ← h2] at h1
  exact (List.getElem?_inj hi hn).1 h1
theorem take_mem {l : List Nat} (hn : l.Nodup) {i k : Nat} (hi : i < l.length) (hk : k ≤ l.length) : iAt l i ∈ l.take k ↔ i < k := by
  constructor
  · intro h
    obtain ⟨j, h1, h2⟩ := mem_iAt h
    rw [List.length_take] at h1
    have h3 : iAt (l.take k) j = iAt l j := by unfold iAt; rw [List.getD, List.getD, List.getElem?_take, if_pos (by omega)]
    rw [h3] at h2
    have := iAt_inj hn (by omega) hi h2
    omega
  · intro h
    have : iAt (l.take k) i = iAt l i := by unfold iAt; rw [List.getD, List.getD, List.getElem?_take, if_pos h]
    rw [← this]
    exact iAt_mem (by rw [List.length_take]; omega)
/-- the one that is next -/
theorem rul_next {l all : List Nat} {F : Nat → List Nat} (h : Rul l all F) {k a : Nat} (hk : k < l.length) (ha : a ∈ all) :
    (nxB (l.take k) (F a) a (F a).length && !hasB (l.take k) a (l.take k).length) = decide (a = iAt l k) := by
  obtain ⟨i, hi, rfl⟩ := mem_iAt ((h.mem a).1 ha)
  rw [hasB_all]
  unfold nxB
  rw [List.take_length]
  have e : (!decide (iAt l i ∈ l.take k)) = decide (¬ iAt l i ∈ l.take k) := by simp
  rw [e, ← Bool.decide_and, decide_eq_decide]
  rw [take_mem h.nd hi (by omega)]
  constructor
  · rintro ⟨h1, h2⟩
    rcases Nat.lt_or_ge k i with hki | hki
    · have h3 := h1 (iAt l k) ((h.low i _ hi).2 ((take_mem h.nd hk (by omega)).2 (by omega)))
      rcases h3 with h3 | h3
      · have := iAt_inj h.nd hk hi h3; omega
      · have := (take_mem h.nd hk (by omega)).1 h3; omega
    · have : i = k := by omega
      rw [this]
  · intro he
    have hik := iAt_inj h.nd hi hk he
    subst hik
    refine ⟨fun b hb => ?_, Nat.lt_irrefl _⟩
    have := (h.low i b hi).1 hb
    rw [take_snoc hi, List.mem_append, List.mem_singleton] at this
    exact this.symm
theorem rul_of {r : List Bv} (hr : RowsIn r) {o n : Nat} (ho : o < r.length) : Rul (overR r o n) (nums (domS r o n)) fun a => nums (domS r o a) := by
  have hO := overR_ok hr ho n
  have hl := hr.len
  have hm : ∀ c x, x ∈ nums (domS r o c) ↔ Dm r o x c := fun c x => by
    rcases Nat.lt_or_ge x 64 with h | h
    · rw [mem_nums h, domS_bit hr ho]
    · constructor
      · intro k
        obtain ⟨j, hj, e⟩ := mem_iAt k
        have := (nums_ix (s := domS r o c) (j := j) (n := x) (by rw [← e]; exact get_iAt hj)).1
        omega
      · intro k; have := dm_lt hr ho k; omega
  have hnd : (nums (domS r o n)).Nodup := by
    rw [List.nodup_iff_pairwise_ne, List.pairwise_iff_getElem]
    intro i j hi hj hij e
    have h1 := (nums_ix (List.getElem?_eq_getElem hi)).2.2
    have h2 := (nums_ix (List.getElem?_eq_getElem hj)).2.2
    rw [e] at h1
    omega
  refine ⟨?_, fun a => (hm n a).trans (hO.mem a).symm, fun i b hi => (hm _ b).trans ((over_at hO hi).mem b).symm, hO.nd⟩
  exact Nat.le_antisymm (List.Nodup.length_le_of_subset hnd fun a ha => ((hm n a).trans (hO.mem a).symm).1 ha) (List.Nodup.length_le_of_subset hO.nd fun a ha => ((hm n a).trans (hO.mem a).symm).2 ha)
/-- the right one stands somewhere -/
theorem rul_some {l all : List Nat} {F : Nat → List Nat} (h : Rul l all F) {k : Nat} (hk : k < l.length) : ∃ i, i < all.length ∧ iAt all i = iAt l k := mem_iAt ((h.mem _).2 (iAt_mem hk))

/-! Ruling -/
theorem NI.at' {w : World} {a : Option Addr} {n c : Nat} {l : List Nat} (h : NI w (.slice a n c) l) {k : Nat} (hk : k < l.length) : ∃ b off, a = some ⟨b, off, none⟩ ∧ w.cell? ⟨b, off + k, none⟩ = some (.int .i64 ((iAt l k : Nat) : Int)) := by
  obtain ⟨a', c', e, _, hc⟩ := h
  simp only [Value.slice.injEq] at e
  obtain ⟨rfl, _, rfl⟩ := e
  exact hc k hk
set_option maxHeartbeats 16000000 in
theorem ruling_any {w : World} {v : Value} {r : List Bv} {o n : Nat} (h : WIn w v r) (hr : RowsIn r) (ho : o < r.length) (hn : n < r.length) :
    Calls Tryd.prog 12 #[v, .int .i64 (o : Int), .int .i64 (n : Int)] w fun e w' => ∃ u, e = .returned u ∧ NO w.heap.size u (overR r o n) w' ∧ Below w.heap.size w w' := by
  obtain ⟨i0, hi, hz0, hz1, hz2⟩ := info_parts infoInt
  have HI := Lib.hid hi; clear hi
  have HZ0 := Lib.hid hz0; clear hz0
  have HZ1 := Lib.hid hz1; clear hz1
  have HZ2 := Lib.hid hz2; clear hz2
  have hR := rul_of (n := n) hr ho
  have hl := hr.len
  have hol := overR_len hr ho n
  have RB := Lib.hid (fun W x (hW : Below w.heap.size w W) (hx : x < r.length) => ruledBy_any (n := x) (h.later hW) hr ho hx)
  have NU : Hid (∀ s W, Calls Tryd.prog 27 #[.int .u64 ((s : Bv).toNat : Int)] W fun e w' => ∃ a c, e = .returned (.slice a (nums s).length c) ∧ NI w' (.slice a (nums s).length c) (nums s) ∧ Below W.heap.size W w') := fun s W =>
    (numbers_any s W).mono fun _ w' ⟨u, h1, h2, h3⟩ => by
      have h4 : NO W.heap.size u (nums s) w' := by unfold NO; rw [nums_length]; exact h2
      obtain ⟨a, c, rfl, hc⟩ := h4.ni
      exact ⟨a, c, h1, ⟨a, c, rfl, hc⟩, h3⟩
  have NL : Hid (∀ s : Bv, (nums s).length ≤ 64) := fun s => by rw [nums_length]; exact cntTo_le s.getLsbD 64
  have XL : Hid (∀ x, x ∈ nums (domS r o n) → x < r.length) := fun x hx => dm_lt hr ho (((overR_ok hr ho n).mem x).1 ((hR.mem x).1 hx))
  have RN := Lib.hid (fun k x (hk : k < (overR r o n).length) hx => rul_next hR (k := k) (a := x) hk hx)
  have RS := Lib.hid (fun k (hk : k < (overR r o n).length) => rul_some hR hk)
  have RL := hR.len
  have TK : Hid (∀ k, k < (overR r o n).length → (overR r o n).take (k + 1) = (overR r o n).take k ++ [iAt (overR r o n) k]) := fun k hk => take_snoc hk
  have TL : Hid (∀ k, k ≤ (overR r o n).length → ((overR r o n).take k).length = k) := fun k hk => by rw [List.length_take]; omega
  have TA : Hid ((overR r o n).take (overR r o n).length = overR r o n) := List.take_length
  have T0 : Hid ((overR r o n).take 0 = []) := List.take_zero
  obtain ⟨a, c, rfl, _⟩ := h
  have NN := Lib.hid (NU.out (domS r o n))
  have RB0 := Lib.hid (RB.out w n (Below.refl _ _) hn)
  clear hR hr ho hn
  generalize hA : nums (domS r o n) = al at *
  clear hA
  generalize (domS r o n).toNat = D0 at *
  generalize overR r o n = l at *
  generalize hL : r.length = L at *
  clear hL
  go_enter Tryd.func12, Tryd.ntmps12
  go_wp2_with fail
  refine RB0.out.mono ?_
  rintro e w1 ⟨rfl, b1⟩
  have B1 := Lib.hid b1
  clear b1 RB0
  go_wp2_with fail
  refine (NN.out _).mono ?_
  rintro e w2 ⟨aa, ac, rfl, ai, b2⟩
  have B2 := Lib.hid (B1.out.trans (b2.mono B1.out.size))
  have AI := Lib.hid ai
  clear b2 ai NN B1
  generalize hM' : al.length = M' at *
  generalize hM : l.length = M at *
  subst RL
  have AL := Lib.hid hM'; clear hM'
  go_wp2_with fail
  go_loopw [8] (fun u wr => ∃ k : Nat, k ≤ M' ∧ NO w2.heap.size u (l.take k) wr ∧ Below w2.heap.size w2 wr) (fun u _ => M' - lenOf u)
  case atStart => exact ⟨0, Nat.zero_le _, by rw [T0.out]; exact no_nil _ _, Below.refl _ _⟩
  case round =>
    obtain ⟨k, hk, qo, qb⟩ := hrel
    have QO := Lib.hid qo; have QB := Lib.hid qb; clear qo qb
    rename World => wr
    have hkl := TL.out k hk
    have hle := no_len QO.out
    by_cases hkM : k < M'
    · have RNk := Lib.hid (fun x hx => RN.out k x hkM hx)
      obtain ⟨is, his, hix⟩ := RS.out k hkM
      have TKk := Lib.hid (TK.out k hkM)
      have TLk := Lib.hid (TL.out (k + 1) hkM)
      clear RN RS TK TL TA T0
      generalize iAt l k = y at *
      generalize hL1 : l.take (k + 1) = l1 at *
      have HL1 := Lib.hid hL1; clear hL1
      generalize hU : l.take k = U at *
      clear hU
      obtain ⟨ua, uc, rfl, _, _⟩ := QO.out.shape
      have CU : Hid (∀ W, NO w2.heap.size (.slice ua U.length uc) U W → ∀ i, i < U.length → ∃ g, ua = some ⟨g, 0, none⟩ ∧ W.cell? ⟨g, i, none⟩ = some (.int .i64 ((iAt U i : Nat) : Int))) := fun W hW i hi => by
        rcases hW.2 with ⟨_, h0⟩ | ⟨g, cap, cur, e, _⟩
        · omega
        · simp only [Value.slice.injEq] at e
          obtain ⟨rfl, _, rfl⟩ := e
          exact ⟨g, rfl, NO.cell hW hi⟩
      have KU := Lib.hid hkl
      rw [hkl] at QO CU hle ⊢
      clear hkl
      go_wp2_with fail
      go_loopw [8, 31] (fun u i wq => ∃ j : Nat, j ≤ M' ∧ i = .int .i64 (j : Int) ∧ u = .slice ua k uc ∧ (∀ t, t < j → iAt al t ≠ y) ∧ NO w2.heap.size (.slice ua k uc) U wq ∧ Below w2.heap.size w2 wq) (fun _ i _ => M' - (intOf i).toNat)
      case atStart => exact ⟨0, Nat.zero_le _, rfl, rfl, fun t ht => absurd ht (Nat.not_lt_zero _), QO.out, QB.out⟩
      case round =>
        obtain ⟨j, hj, rfl, rfl, qa, qo, qb⟩ := hrel
        clear QO QB
        have QA := Lib.hid qa; have QO := Lib.hid qo; have QB := Lib.hid qb; clear qa qo qb
        rename World => wq
        by_cases hjM : j < M'
        · obtain ⟨ab, ao, rfl, cA⟩ := NI.at' (AI.out.later QB.out) (k := j) (by rw [AL.out]; exact hjM)
          have xm := iAt_mem (l := al) (i := j) (by rw [AL.out]; exact hjM)
          have RB1 := Lib.hid (RB.out wq _ (B2.out.trans (QB.out.mono B2.out.size)) (XL.out _ xm))
          have RN1 := Lib.hid (RNk.out _ xm)
          have NX : Hid (iAt al j ≠ y → ∀ t, t < j + 1 → iAt al t ≠ y) := fun h t ht => by
            rcases Nat.lt_succ_iff_lt_or_eq.1 ht with h' | rfl
            · exact QA.out t h'
            · exact h
          have NU1 := Lib.hid (fun W => NU.out (domS r o (iAt al j)) W)
          have i2 : (j : Int) < (M' : Int) := by omega
          clear xm
          generalize iAt al j = x at *
          have hbn := NL.out (domS r o x)
          generalize (domS r o x).toNat = D1 at *
          generalize nums (domS r o x) = bs at *
          go_wp2_with fail
          refine RB1.out.mono ?_
          rintro e w3 ⟨rfl, b3⟩
          have O3 := Lib.hid (no_later QO.out b3)
          have B3 := Lib.hid (QB.out.trans (b3.mono QB.out.size))
          clear b3 RB1
          go_wp2_with fail
          refine (NU1.out _).mono ?_
          rintro e w4 ⟨ba, bc, rfl, bi, b4⟩
          have O4 := Lib.hid (no_later O3.out b4)
          have B4 := Lib.hid (B3.out.trans (b4.mono B3.out.size))
          have BI := Lib.hid bi
          clear b4 bi O3 B3 NU1
          generalize hbl : bs.length = N at *
          go_wp2_with fail
          go_loopw [11, 41] (fun q i ws => ∃ t : Nat, t ≤ N ∧ i = .int .i64 (t : Int) ∧ q = .bool (nxB U bs x t) ∧ ws = w4) (fun _ i _ => N - (intOf i).toNat)
          case atStart => exact ⟨0, Nat.zero_le _, rfl, by rw [nxB_zero], rfl⟩
          case round =>
            obtain ⟨t, ht, rfl, rfl, rfl⟩ := hrel
            rename World => ws
            by_cases htN : t < N
            · obtain ⟨bb, bo, rfl, cB⟩ := NI.at' BI.out (k := t) (by rw [hbl]; exact htN)
              have QN := Lib.hid (nxB_next (u := U) (bs := bs) (a := x) (t := t) (by rw [hbl]; exact htN))
              have i3 : (t : Int) < (N : Int) := by omega
              generalize iAt bs t = z at *
              generalize nxB U bs x t = q at *
              go_wp2_with fail
              go_loopw [14, 47] (fun p i wt => ∃ m : Nat, m ≤ k ∧ i = .int .i64 (m : Int) ∧ p = .bool (hasB U z m) ∧ wt = ws) (fun _ i _ => k - (intOf i).toNat)
              case atStart => exact ⟨0, Nat.zero_le _, rfl, by rw [hasB_zero], rfl⟩
              case round =>
                obtain ⟨m, hm, rfl, rfl, rfl⟩ := hrel
                rename World => ws
                by_cases hmk : m < k
                · obtain ⟨g, rfl, cC⟩ := CU.out ws O4.out m hmk
                  have HN := Lib.hid (hasB_next (u := U) (b := z) (t := m) (by rw [KU.out]; exact hmk))
                  have i4 : (m : Int) < (k : Int) := by omega
                  have e4 : (((iAt U m : Nat) : Int) == (z : Int)) = decide (iAt U m = z) := by rw [Bool.eq_iff_iff, beq_iff_eq, decide_eq_true_iff]; omega
                  generalize decide (iAt U m = z) = d at *
                  generalize iAt U m = f at *
                  generalize hasB U z m = p at *
                  cases p
                  · go_wp2
                    go_roundw
                    case rel => exact ⟨m + 1, by omega, by go_num, by rw [HN.out]; rfl, trivial⟩
                    case measure => simp [intOf]; omega
                  · go_wp2
                    go_roundw
                    case rel => exact ⟨m + 1, by omega, by go_num, by rw [HN.out]; rfl, trivial⟩
                    case measure => simp [intOf]; omega
                · obtain rfl : m = k := by omega
                  have e5 : ((z : Int) == (x : Int)) = decide (z = x) := by rw [Bool.eq_iff_iff, beq_iff_eq, decide_eq_true_iff]; omega
                  rw [KU.out] at QN
                  generalize decide (z = x) = d at *
                  generalize hasB U z m = p at *
                  cases q
                  · go_wp2
                    go_roundw
                    case rel => exact ⟨t + 1, by omega, by go_num, by rw [QN.out]; rfl, trivial⟩
                    case measure => simp [intOf]; omega
                  · cases d
                    · go_wp2
                      go_roundw
                      case rel => exact ⟨t + 1, by omega, by go_num, by rw [QN.out]; rfl, trivial⟩
                      case measure => simp [intOf]; omega
                    · go_wp2
                      go_roundw
                      case rel => exact ⟨t + 1, by omega, by go_num, by rw [QN.out]; rfl, trivial⟩
                      case measure => simp [intOf]; omega
            · obtain rfl : t = N := by omega
              generalize nxB U bs x t = q at *
              go_wp2_with fail
              go_loopw [11, 70] (fun p i wt => ∃ m : Nat, m ≤ k ∧ i = .int .i64 (m : Int) ∧ p = .bool (q && !hasB U x m) ∧ wt = ws) (fun _ i _ => k - (intOf i).toNat)
              case atStart => exact ⟨0, Nat.zero_le _, rfl, by rw [hasB_zero]; cases q <;> rfl, rfl⟩
              case round =>
                obtain ⟨m, hm, rfl, rfl, rfl⟩ := hrel
                rename World => ws
                by_cases hmk : m < k
                · obtain ⟨g, rfl, cC⟩ := CU.out ws O4.out m hmk
                  have HN := Lib.hid (hasB_next (u := U) (b := x) (t := m) (by rw [KU.out]; exact hmk))
                  have i4 : (m : Int) < (k : Int) := by omega
                  have e4 : (((iAt U m : Nat) : Int) != (x : Int)) = !decide (iAt U m = x) := by
                    by_cases e : iAt U m = x
                    · rw [e, decide_eq_true rfl]; simp
                    · rw [decide_eq_false e]; simp; omega
                  generalize decide (iAt U m = x) = d at *
                  generalize iAt U m = f at *
                  have HQ : Hid ((q && !hasB U x (m + 1)) = ((q && !hasB U x m) && !d)) := by rw [HN.out]; cases q <;> cases hasB U x m <;> cases d <;> rfl
                  clear HN
                  generalize (q && !hasB U x m) = qp at *
                  cases qp
                  · go_wp2
                    go_roundw
                    case rel => exact ⟨m + 1, by omega, by go_num, by rw [HQ.out]; rfl, trivial⟩
                    case measure => simp [intOf]; omega
                  · go_wp2
                    go_roundw
                    case rel => exact ⟨m + 1, by omega, by go_num, by rw [HQ.out]; rfl, trivial⟩
                    case measure => simp [intOf]; omega
                · obtain rfl : m = k := by omega
                  rw [KU.out] at RN1
                  rw [RN1.out]
                  by_cases hxy : x = y
                  · subst hxy
                    have t1 : decide (x = x) = true := decide_eq_true rfl
                    rw [t1]
                    clear t1 NX RNk RN1
                    have O5 : Hid (World.ownsRow ws w2.heap.size 3 1 (.slice ua m uc) m (ints U)) := Lib.hid (by have := O4.out; unfold NO at this; rwa [KU.out] at this)
                    cases ua with
                    | none =>
                      go_wp2_with (at_builtin; refine wpList_append_own _ rfl _ _ 23 rfl w2.heap.size 3 i0 (.int .i64 0) 1 8 Tryd.underlying23 HI.out HZ0.out HZ1.out HZ2.out rfl (by decide) _ _ _ rfl (World.ownsRow.alloc O5.out _) ⟨ws.heap.size, 0, none⟩ 1 1 [.int .i64 (x : Int)] rfl rfl ?c1 ?c2 ?c3 ?c4 ?c5 ?_)
                      case c1 =>
                        intro i u hu
                        match i, hu with
                        | 0, hu => simp at hu; subst hu; simp [Addr.add]
                      case c2 => intro u hu; simp at hu; subst hu; rfl
                      case c3 => unfold maxLen; omega
                      case c4 => omega
                      case c5 => have := B4.out.size; simp; omega
                      intro v' w6 hown6 hgrow6 _
                      have B6 := Lib.hid ((B4.out.alloc B4.out.size _).grown hgrow6 (by have := B4.out.size; simp; omega) (fun g hg => (O5.out.lt g hg).1))
                      have O6 : Hid (NO w2.heap.size v' l1 w6) := Lib.hid (by
                        rw [TKk.out]
                        unfold NO
                        rw [List.length_append, ints_append, KU.out]
                        exact hown6)
                      have hle6 := no_len O6.out
                      rw [TLk.out] at hle6
                      clear hgrow6 hown6
                      go_wp2
                      go_roundw
                      case rel => exact ⟨m + 1, by omega, by rw [HL1.out]; exact O6.out, B6.out⟩
                      case measure => first | omega | (simp; omega)
                    | some ua =>
                      go_wp2_with (at_builtin; refine wpList_append_own _ rfl _ _ 23 rfl w2.heap.size 3 i0 (.int .i64 0) 1 8 Tryd.underlying23 HI.out HZ0.out HZ1.out HZ2.out rfl (by decide) _ _ _ rfl (World.ownsRow.alloc O5.out _) ⟨ws.heap.size, 0, none⟩ 1 1 [.int .i64 (x : Int)] rfl rfl ?c1 ?c2 ?c3 ?c4 ?c5 ?_)
                      case c1 =>
                        intro i u hu
                        match i, hu with
                        | 0, hu => simp at hu; subst hu; simp [Addr.add]
                      case c2 => intro u hu; simp at hu; subst hu; rfl
                      case c3 => unfold maxLen; omega
                      case c4 => omega
                      case c5 => have := B4.out.size; simp; omega
                      intro v' w6 hown6 hgrow6 _
                      have B6 := Lib.hid ((B4.out.alloc B4.out.size _).grown hgrow6 (by have := B4.out.size; simp; omega) (fun g hg => (O5.out.lt g hg).1))
                      have O6 : Hid (NO w2.heap.size v' l1 w6) := Lib.hid (by
                        rw [TKk.out]
                        unfold NO
                        rw [List.length_append, ints_append, KU.out]
                        exact hown6)
                      have hle6 := no_len O6.out
                      rw [TLk.out] at hle6
                      clear hgrow6 hown6
                      go_wp2
                      go_roundw
                      case rel => exact ⟨m + 1, by omega, by rw [HL1.out]; exact O6.out, B6.out⟩
                      case measure => first | omega | (simp; omega)
                  · have NX1 := Lib.hid (NX.out hxy)
                    have t1 : decide (x = y) = false := decide_eq_false hxy
                    rw [t1]
                    clear t1 hxy
                    go_wp2
                    go_roundw
                    case rel => exact ⟨j + 1, by omega, by go_num, rfl, NX1.out, O4.out, B4.out⟩
                    case measure => simp [intOf]; omega
        · obtain rfl : j = M' := by omega
          exact absurd hix (QA.out is his)
    · obtain rfl : k = M' := by omega
      rw [TA.out] at QO
      obtain ⟨ua, uc, rfl, _, _⟩ := QO.out.shape
      rw [hM] at QO ⊢
      go_wp2
      go_ret
      exact ⟨_, rfl, no_base QO.out B2.out.size, B2.out.trans (QB.out.mono B2.out.size)⟩
end Go.Proofs.YtjmomgmbmgdeoaaDoor
