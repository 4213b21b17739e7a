/-
  The document's answer (package millwrightref) for orders and cycles: Ordered, IsWalk, IsRing; slices.Equal of the same numbers. No condition.
-/
import Derived.Test.YtbippnldofalbaaDoorHKx
import Derived.Test.YtbippnldofalbaaDoorHKo
namespace Go.Proofs.YtbippnldofalbaaDoor
set_option maxRecDepth 100000
set_option linter.unusedVariables false
open Go.ChangeShapes Go.WideShapes Go.ChangeAt Go.RowKit

/-! Ordered -/
theorem fit_no1 {r : List Bv} {s : Bv} {i : Nat} (h : s.getLsbD i = true) : fit r s i = false := by unfold fit; rw [h]; rfl
theorem fit_no2 {r : List Bv} {s : Bv} {i : Nat} (h : wAt r i &&& ~~~s ≠ 0#64) : fit r s i = false := by unfold fit; rw [decide_eq_false h, Bool.and_false]
theorem fit_yes {r : List Bv} {s : Bv} {i : Nat} (h : s.getLsbD i = false) (k : wAt r i &&& ~~~s = 0#64) : fit r s i = true := by unfold fit; rw [h, decide_eq_true k]; rfl
set_option maxHeartbeats 16000000 in
theorem orderedR_any {w : World} {v : Value} {r : List Bv} (h : WIn w v r) (hr : RowsIn r) :
    Calls Tryd.prog 17 #[v] w fun e w' => ∃ u, e = .returned u ∧ NO w.heap.size u (ordR r) w' ∧ Below w.heap.size w w' := by
  obtain ⟨i0, hi, hz0, hz1, hz2⟩ := info_parts infoInt
  have HI := Lib.hid hi; clear hi
  have HZ0 := Lib.hid hz0; clear hz0
  have HZ1 := Lib.hid hz1; clear hz1
  have HZ2 := Lib.hid hz2; clear hz2
  have hl := hr.len
  obtain ⟨a, c, rfl, hc0⟩ := h
  have HC : Hid (∀ W, Below w.heap.size w W → ∀ k, k < r.length → ∃ b off, a = some ⟨b, off, none⟩ ∧ W.cell? ⟨b, off + k, none⟩ = some (.int .u64 ((wAt r k).toNat : Int))) := fun W hW k hk => by
    obtain ⟨b, off, e, c⟩ := hc0 k hk
    exact ⟨b, off, e, cell_later hW c⟩
  have YES : Hid (∀ m i, i < r.length → fit r (setL (ordTo r m)) i = true → (∀ k, k < i → fit r (setL (ordTo r m)) k = false) → ordTo r (m + 1) = ordTo r m ++ [i]) := fun m i h1 h2 h3 => ordTo_some (nextR_mk h1 h2 h3)
  have NON : Hid (∀ m, (∀ k, k < r.length → fit r (setL (ordTo r m)) k = false) → ordTo r (m + 1) = ordTo r m) := fun m h => ordTo_none (nextR_none h)
  have OL : Hid (∀ m, (ordTo r m).length ≤ m) := fun m => ordTo_len m
  have O0 : Hid (ordTo r 0 = []) := Lib.hid rfl
  have OE : Hid (ordTo r r.length = ordR r) := Lib.hid rfl
  clear hc0 hr
  generalize ordR r = OR at *
  generalize r.length = L at *
  go_enter Tryd.func17, Tryd.ntmps17
  go_wp2_with fail
  go_loopw [3, 4, 8] (fun o s i wr => ∃ m : Nat, m ≤ L ∧ i = .int .i64 (m : Int) ∧ s = .int .u64 ((setL (ordTo r m)).toNat : Int) ∧ NO w.heap.size o (ordTo r m) wr ∧ Below w.heap.size w wr) (fun _ _ i _ => L - (intOf i).toNat)
  case atStart => exact ⟨0, Nat.zero_le _, rfl, by rw [O0.out]; rfl, by rw [O0.out]; exact no_nil _ _, Below.refl _ _⟩
  case round =>
    rename_i wr
    obtain ⟨m, hm, rfl, rfl, qo, qb⟩ := hrel
    have QO := Lib.hid qo; have QB := Lib.hid qb; clear qo qb
    by_cases hml : m < L
    · have YESm := Lib.hid (YES.out m)
      have NONm := Lib.hid (NON.out m)
      have olm := OL.out m
      generalize hl0 : ordTo r m = l at *
      clear hl0
      generalize hs : setL l = s at *
      have SS : Hid (∀ n, setL (l ++ [n]) = s ||| one n) := fun n => by rw [setL_snoc, hs]
      have HS := Lib.hid hs
      clear hs
      go_wp2_with fail
      go_loopw [3, 4, 12] (fun o t i wq => ∃ k : Nat, k ≤ L ∧ i = .int .i64 (k : Int) ∧ o = u3 ∧ t = .int .u64 (s.toNat : Int) ∧ (∀ j, j < k → fit r s j = false) ∧ wq = wr) (fun _ _ i _ => L - (intOf i).toNat)
      case atStart => exact ⟨0, Nat.zero_le _, rfl, rfl, rfl, fun j hj => absurd hj (Nat.not_lt_zero _), rfl⟩
      case round =>
        obtain ⟨k, hk, rfl, rfl, rfl, qa, rfl⟩ := hrel
        have QA := Lib.hid qa; clear qa
        rename World => wr
        by_cases hkl : k < L
        · obtain ⟨b, off, rfl, c0⟩ := HC.out wr QB.out k hkl
          have IQ := Lib.hid (fun W => in_q s k W (by omega) _ rfl)
          have NX : Hid (fit r s k = false → ∀ j, j < k + 1 → fit r s j = false) := fun h j hj => by
            rcases Nat.lt_succ_iff_lt_or_eq.1 hj with h' | rfl
            · exact QA.out j h'
            · exact h
          have i2 : (k : Int) < (L : Int) := by omega
          cases hb : s.getLsbD k
          · rw [hb] at IQ
            by_cases hz : wAt r k &&& ~~~s = 0#64
            · have e1 : (bits .andNot .u64 ((wAt r k).toNat : Int) (s.toNat : Int) == 0) = true := by rw [bv_andNot, hz]; rfl
              have YS := Lib.hid (YESm.out k hkl (fit_yes hb hz) QA.out)
              have hk64 : (k : Int) < 64 := by omega
              have e2 : bits .or .u64 (s.toNat : Int) (IntKind.u64.wrap (2 ^ k)) = ((setL (l ++ [k])).toNat : Int) := by rw [one_walk k (by omega), bv_or, SS.out]
              clear hb hz NX
              generalize wAt r k = x at *
              generalize hy : (setL (l ++ [k])).toNat = y at *
              have HY := Lib.hid hy; clear hy
              go_wp2_with fail
              refine (IQ.out _).mono ?_
              rintro e w2 ⟨rfl, rfl⟩
              go_wp2_with (at_builtin; refine wpList_append_own _ rfl _ _ 26 rfl w.heap.size 3 i0 (.int .i64 0) 1 8 Tryd.underlying26 HI.out HZ0.out HZ1.out HZ2.out rfl (by decide) _ _ _ rfl (World.ownsRow.alloc QO.out _) ⟨w2.heap.size, 0, none⟩ 1 1 [.int .i64 (k : Int)] rfl rfl ?c1 ?c2 ?c3 ?c4 ?c5 ?_)
              case c1 =>
                intro i u hu
                match i, hu with
                | 0, hu => simp at hu; subst hu; simp [Addr.add]
              case c2 => intro u hu; simp at hu; subst hu; rfl
              case c3 => unfold maxLen; omega
              case c4 => omega
              case c5 => have := QB.out.size; simp; omega
              intro v' w3 hown3 hgrow3 _
              have B3 := Lib.hid ((QB.out.alloc QB.out.size _).grown hgrow3 (by have := QB.out.size; simp; omega) (fun g hg => (QO.out.lt g hg).1))
              have O3 : Hid (NO w.heap.size v' (l ++ [k]) w3) := Lib.hid (by
                unfold NO
                rw [List.length_append, ints_append]
                exact hown3)
              clear hgrow3 hown3
              go_wp2
              go_roundw
              case rel => exact ⟨m + 1, by omega, by go_num, by rw [YS.out, HY.out], by rw [YS.out]; exact O3.out, B3.out⟩
              case measure => simp [intOf]; omega
            · have e1 : (bits .andNot .u64 ((wAt r k).toNat : Int) (s.toNat : Int) == 0) = false := by
                rw [bv_andNot]
                cases hc : (((wAt r k &&& ~~~s).toNat : Int) == 0)
                · rfl
                · exact absurd ((bv_zero_iff _).1 hc) hz
              have NX1 := Lib.hid (NX.out (fit_no2 hz))
              clear hb hz NX
              generalize wAt r k = x at *
              go_wp2_with fail
              refine (IQ.out _).mono ?_
              rintro e w2 ⟨rfl, rfl⟩
              go_wp2
              go_roundw
              case rel => exact ⟨k + 1, by omega, by go_num, rfl, rfl, NX1.out, trivial⟩
              case measure => simp [intOf]; omega
          · rw [hb] at IQ
            have NX1 := Lib.hid (NX.out (fit_no1 hb))
            clear hb NX
            generalize wAt r k = x at *
            go_wp2_with fail
            refine (IQ.out _).mono ?_
            rintro e w2 ⟨rfl, rfl⟩
            go_wp2
            go_roundw
            case rel => exact ⟨k + 1, by omega, by go_num, rfl, rfl, NX1.out, trivial⟩
            case measure => simp [intOf]; omega
        · obtain rfl : k = L := by omega
          have NE := Lib.hid (NONm.out QA.out)
          go_wp2
          go_roundw
          case rel => exact ⟨m + 1, by omega, by go_num, by rw [NE.out, HS.out], by rw [NE.out]; exact QO.out, QB.out⟩
          case measure => simp [intOf]; omega
    · obtain rfl : m = L := by omega
      rw [OE.out] at QO
      go_wp2
      go_ret
      exact ⟨_, rfl, QO.out, QB.out⟩

/-! slices.Equal of the same numbers -/
set_option maxHeartbeats 4000000 in
theorem equalI_same {w : World} {v1 v2 : Value} {l : List Nat} (h1 : NI w v1 l) (h2 : NI w v2 l) (hl : l.length ≤ 64) :
    Calls Tryd.prog 18 #[v1, v2] w fun e w' => e = .returned (.bool true) ∧ ∃ q, w' = w.drewN q := by
  obtain ⟨a, c, rfl, _, hc⟩ := h1
  obtain ⟨a', c', rfl, _, hc'⟩ := h2
  have HC := Lib.hid hc; have HC' := Lib.hid hc'
  clear hc hc'
  generalize l.length = L at *
  go_enter Tryd.func18, Tryd.ntmps18
  go_wp2_with fail
  go_loopw [13] (fun i wr => ∃ k : Nat, k ≤ L ∧ i = .int .i64 k ∧ ∃ m, wr = w.drewN m) (fun i _ => L - (intOf i).toNat)
  case atStart => exact ⟨0, Nat.zero_le _, rfl, 0, rfl⟩
  case round =>
    obtain ⟨k, hk, rfl, m, rfl⟩ := hrel
    by_cases hkl : k < L
    · obtain ⟨b, off, rfl, c1⟩ := HC.out k hkl
      obtain ⟨b', off', rfl, c3⟩ := HC'.out k hkl
      generalize ((iAt l k : Nat) : Int) = p at *
      have e1 : (p != p) = false := by simp
      go_wp2_with fail
      go_quiet (fail)
      go_wp2
      go_roundw
      case rel => exact ⟨k + 1, by omega, by go_num, _, rfl⟩
      case measure => simp [intOf]; omega
    · obtain rfl : k = L := by omega
      go_wp2
      go_ret
      exact ⟨rfl, _, rfl⟩

/-! IsWalk, IsRing -/
theorem ring_walk {r : List Bv} {l : List Nat} (h : RingL r l) {i : Nat} (hi : i + 1 < l.length) : (wAt r (iAt l i)).getLsbD (iAt l (i + 1)) = true := by
  have := (ring_at h (i := i) (by omega)).2.2.1
  rwa [Nat.mod_eq_of_lt hi] at this
theorem ring_end {r : List Bv} {l : List Nat} (h : RingL r l) : (wAt r (iAt l (l.length - 1))).getLsbD (iAt l 0) = true := by
  have hp := h.pos
  have := (ring_at h (i := l.length - 1) (by omega)).2.2.1
  rwa [show l.length - 1 + 1 = l.length by omega, Nat.mod_self] at this
set_option maxHeartbeats 8000000 in
theorem isWalk_any {w : World} {v u : Value} {r : List Bv} {l : List Nat} (h : WIn w v r) (hu : NI w u l) (hr : RingL r l) (hl : r.length ≤ 64) :
    Calls Tryd.prog 43 #[v, u] w fun e w' => e = .returned (.bool true) ∧ w' = w := by
  have hpos := hr.pos
  have hlen : l.length ≤ 64 := nodup_le hr.nd fun n hn => by have := hr.lt n hn; omega
  have LT : Hid (∀ i, i < l.length → iAt l i < r.length) := fun i hi => (ring_at hr hi).1
  have WK : Hid (∀ i, i + 1 < l.length → (wAt r (iAt l i)).getLsbD (iAt l (i + 1)) = true) := fun i hi => ring_walk hr hi
  obtain ⟨a, c, rfl, hc⟩ := h
  obtain ⟨a', c', rfl, _, hc'⟩ := hu
  have HC := Lib.hid hc; have HU := Lib.hid hc'
  clear hc hc' hr
  generalize r.length = L at *
  generalize l.length = M at *
  go_enter Tryd.func43, Tryd.ntmps43
  go_wp2_with fail
  go_loopw [9] (fun i wr => ∃ k : Nat, k ≤ M ∧ i = .int .i64 (k : Int) ∧ wr = w) (fun i _ => M - (intOf i).toNat)
  case atStart => exact ⟨0, Nat.zero_le _, rfl, rfl⟩
  case round =>
    obtain ⟨k, hk, rfl, rfl⟩ := hrel
    by_cases hkl : k < M
    · obtain ⟨b', off', rfl, c1⟩ := HU.out k hkl
      have n1 := LT.out k hkl
      have i1 : ¬ ((iAt l k : Nat) : Int) < 0 := by omega
      have i2 : ((iAt l k : Nat) : Int) < (L : Int) := by omega
      by_cases hk0 : k = 0
      · have i3 : ¬ (0 : Int) < (k : Int) := by omega
        clear hk0
        generalize iAt l k = n at *
        go_wp2
        go_roundw
        case rel => exact ⟨k + 1, by omega, by go_num, trivial⟩
        case measure => simp [intOf]; omega
      · obtain ⟨p, hp⟩ : ∃ p : Nat, k = p + 1 := ⟨k - 1, by omega⟩
        have i3 : (0 : Int) < (k : Int) := by omega
        have i4 : (k : Int) - 1 = (p : Int) := by omega
        have wp : IntKind.i64.wrap (p : Int) = (p : Int) := by rw [IntKind.wrap_i64]; omega
        have WKp := WK.out p (by omega)
        rw [← hp] at WKp
        obtain ⟨_, _, e, c2⟩ := HU.out p (by omega)
        cases e
        have m1 := LT.out p (by omega)
        obtain ⟨b, off, rfl, c0⟩ := HC.out _ m1
        have i5 : (p : Int) < (M : Int) := by omega
        have i6 : ((iAt l p : Nat) : Int) < (L : Int) := by omega
        have IQ := Lib.hid (fun W => in_q (wAt r (iAt l p)) (iAt l k) W (by omega) true WKp)
        clear hp WKp
        generalize wAt r (iAt l p) = z at *
        generalize iAt l k = n at *
        generalize iAt l p = q at *
        go_wp2_with fail
        refine (IQ.out _).mono ?_
        rintro e w2 ⟨rfl, rfl⟩
        go_wp2
        go_roundw
        case rel => exact ⟨k + 1, by omega, by go_num, trivial⟩
        case measure => simp [intOf]; omega
    · obtain rfl : k = M := by omega
      have t1 : (0 : Int) < (k : Int) := by omega
      go_wp2
      go_ret
      exact ⟨rfl, rfl⟩
set_option maxHeartbeats 8000000 in
theorem isRing_any {w : World} {v u : Value} {r : List Bv} {l : List Nat} (h : WIn w v r) (hu : NI w u l) (hr : RingL r l) (hl : r.length ≤ 64) :
    Calls Tryd.prog 19 #[v, u] w fun e w' => e = .returned (.bool true) ∧ ∃ q, w' = w.drewN q := by
  have hpos := hr.pos
  have hlen : l.length ≤ 64 := nodup_le hr.nd fun n hn => by have := hr.lt n hn; omega
  have IW := Lib.hid (fun W (hW : Below w.heap.size w W) => isWalk_any (h.later hW) (hu.later hW) hr hl)
  have LT : Hid (∀ i, i < l.length → iAt l i < r.length) := fun i hi => (ring_at hr hi).1
  have ND : Hid (∀ i, i < l.length → ∀ j, j < i → iAt l j ≠ iAt l i) := fun i hi j hj e => by
    have hx := (ring_at hr hi).2.2.2
    refine hx (List.mem_iff_getElem?.2 ⟨j, ?_⟩)
    rw [List.getElem?_take, if_pos hj, get_iAt (show j < l.length by omega), e]
  have hend := ring_end hr
  obtain ⟨a, c, rfl, hc⟩ := h
  obtain ⟨a', c', rfl, hcap, hc'⟩ := hu
  obtain ⟨b', off', rfl, c1⟩ := hc' (l.length - 1) (by omega)
  obtain ⟨_, _, e, c2⟩ := hc' 0 (by omega)
  cases e
  rw [Nat.add_zero] at c2
  have n1 := LT.out (l.length - 1) (by omega)
  have n2 := LT.out 0 (by omega)
  obtain ⟨b, off, rfl, c0⟩ := hc _ n1
  have HU := Lib.hid hc'
  clear hc hc' hr
  obtain ⟨p, hp⟩ : ∃ p : Nat, l.length = p + 1 := ⟨l.length - 1, by omega⟩
  have hp1 : l.length - 1 = p := by omega
  have hp2 : (l.length : Int) - 1 = (p : Int) := by omega
  rw [hp1] at c1 c0 n1 hend
  have i6 : ((iAt l p : Nat) : Int) < (r.length : Int) := by omega
  have IQ := Lib.hid (fun W => in_q (wAt r (iAt l p)) (iAt l 0) W (by omega) true hend)
  have hpM : (p : Int) < (l.length : Int) := by omega
  have wp : IntKind.i64.wrap (p : Int) = (p : Int) := by rw [IntKind.wrap_i64]; omega
  have hcap' : (l.length : Int) ≤ (c' : Int) := by omega
  clear hp1 hend hp
  generalize wAt r (iAt l p) = z at *
  generalize iAt l = I at *
  generalize I p = q at *
  generalize I 0 = x at *
  generalize r.length = L at *
  generalize l.length = M at *
  go_enter Tryd.func19, Tryd.ntmps19
  go_wp2_with fail
  go_quiet (first
    | (go_at_call 43; exact Calls.quiet_of_same (IW.out _ (below_drewN (Below.refl _ _) _)))
    | (go_at_call 38; exact Calls.quiet_of_same (IQ.out _)))
  go_wp2_with fail
  go_loopw [31] (fun i wr => ∃ k : Nat, k ≤ M ∧ i = .int .i64 (k : Int) ∧ ∃ m, wr = w.drewN m) (fun i _ => M - (intOf i).toNat)
  case atStart => exact ⟨0, Nat.zero_le _, rfl, _, rfl⟩
  case round =>
    obtain ⟨k, hk, rfl, m, rfl⟩ := hrel
    by_cases hkl : k < M
    · obtain ⟨_, _, e, c3⟩ := HU.out k hkl
      cases e
      have NDk := Lib.hid (ND.out k hkl)
      have i3 : (k : Int) ≤ (c' : Int) := by omega
      generalize I k = y at *
      go_wp2_with fail
      go_loopw [40] (fun i wr => ∃ j : Nat, j ≤ k ∧ i = .int .i64 (j : Int) ∧ wr = w.drewN m) (fun i _ => k - (intOf i).toNat)
      case atStart => exact ⟨0, Nat.zero_le _, rfl, rfl⟩
      case round =>
        obtain ⟨j, hj, rfl, rfl⟩ := hrel
        by_cases hjl : j < k
        · obtain ⟨_, _, e, c4⟩ := HU.out j (by omega)
          cases e
          have hne := NDk.out j hjl
          have t1 : (((I j : Nat) : Int) == (y : Int)) = false := by rw [beq_eq_false_iff_ne]; omega
          have i4 : (j : Int) < (k : Int) := by omega
          clear hne
          generalize I j = t at *
          go_wp2
          go_roundw
          case rel => exact ⟨j + 1, by omega, by go_num, trivial⟩
          case measure => simp [intOf]; omega
        · obtain rfl : j = k := by omega
          go_wp2
          go_roundw
          case rel => exact ⟨j + 1, by omega, by go_num, _, rfl⟩
          case measure => simp [intOf]; omega
    · obtain rfl : k = M := by omega
      go_wp2
      go_ret
      exact ⟨rfl, _, rfl⟩
end Go.Proofs.YtbippnldofalbaaDoor
