/-
  The law RuleJoin, walked. No condition beyond the form's own.
-/
import Derived.Test.YtdencbkepiaigaaDoorNRise
import Derived.Test.YtdencbkepiaigaaDoorRHas
namespace Go.Proofs.YtdencbkepiaigaaDoor
set_option linter.unusedVariables false
open Go.ChangeShapes Go.WideShapes Go.ChangeAt Go.RowKit

theorem JoinR.bad {l z : List Rl} {x : Int} (h : JoinR l z x) (hx : x ≠ 0) : z = [] := by
  cases h <;> first | rfl | exact absurd rfl hx
theorem JoinR.fine {l z : List Rl} {x : Int} (h : JoinR l z x) (hx : x = 0) : z = (uniq (allT l)).map (one l) ∧ firstR l = 0 ∧ l.length ≤ 100 ∧ (uniq (allT l)).length ≤ 64 ∧ ∀ t ∈ uniq (allT l), (needsR l t).length ≤ 64 := by
  cases h with
  | large _ => cases hx
  | fault _ h => exact absurd hx h
  | many => cases hx
  | needs => cases hx
  | ok h1 h2 h3 h4 => exact ⟨rfl, h2, h1, h3, h4⟩
theorem allT_mem {l : List Rl} {t : Str} : t ∈ allT l ↔ ∃ r ∈ l, t ∈ r.1 := by unfold allT; rw [List.mem_flatMap]
theorem needs_good {l : List Rl} (h : firstR l = 0) (t : Str) : (needsR l t).all good = true := by
  rw [List.all_eq_true]
  intro y hy
  obtain ⟨r, hr, _, hyr⟩ := (needs_spec l t y).1 hy
  exact List.all_eq_true.1 (chk_ok (first_ok h r hr)).2.2.2.2 y hyr
theorem join_small {l z : List Rl} (hz : z = (uniq (allT l)).map (one l)) (hf : firstR l = 0) (hn : ∀ t ∈ uniq (allT l), (needsR l t).length ≤ 64) :
    ∀ r ∈ z, (r.1.length ≤ 17592186044416 ∧ r.2.length ≤ 17592186044416) ∧ (∀ x ∈ r.1, x.length ≤ 9223372036854775807) ∧ ∀ x ∈ r.2, x.length ≤ 9223372036854775807 := by
  subst hz
  intro r hr
  obtain ⟨t, ht, rfl⟩ := List.mem_map.1 hr
  refine ⟨⟨by simp [one], by have := hn t ht; show (needsR l t).length ≤ _; omega⟩, fun x hx => ?_, small_all (needs_good hf t)⟩
  have : x = t := by simpa [one] using hx
  subst this
  exact small_all (allgood hf) x (uniq_mem.1 ht)
theorem hasR_iff {t n : Str} {r : Rl} : hasR t n r = true ↔ t ∈ r.1 ∧ n ∈ r.2 := by
  unfold hasR; rw [Bool.and_eq_true, decide_eq_true_iff, decide_eq_true_iff]
theorem isR_iff {t : Str} {r : Rl} : isR t r = true ↔ t ∈ r.1 := by
  unfold isR; rw [decide_eq_true_iff]
theorem join_has {l z : List Rl} (hz : z = (uniq (allT l)).map (one l)) (t n : Str) : l.any (hasR t n) = z.any (hasR t n) := by
  subst hz
  rw [Bool.eq_iff_iff, List.any_eq_true, List.any_eq_true]
  constructor
  · rintro ⟨r, hr, h⟩
    obtain ⟨h1, h2⟩ := hasR_iff.1 h
    exact ⟨one l t, List.mem_map.2 ⟨t, uniq_mem.2 (allT_mem.2 ⟨r, hr, h1⟩), rfl⟩, hasR_iff.2 ⟨List.mem_singleton.2 rfl, (needs_spec l t n).2 ⟨r, hr, h1, h2⟩⟩⟩
  · rintro ⟨r, hr, h⟩
    obtain ⟨t', ht', rfl⟩ := List.mem_map.1 hr
    obtain ⟨h1, h2⟩ := hasR_iff.1 h
    obtain rfl : t = t' := List.mem_singleton.1 h1
    obtain ⟨r, hr', h3, h4⟩ := (needs_spec l t n).1 h2
    exact ⟨r, hr', hasR_iff.2 ⟨h3, h4⟩⟩
theorem join_is {l z : List Rl} (hz : z = (uniq (allT l)).map (one l)) (t : Str) : l.any (isR t) = z.any (isR t) := by
  subst hz
  rw [Bool.eq_iff_iff, List.any_eq_true, List.any_eq_true]
  constructor
  · rintro ⟨r, hr, h⟩
    exact ⟨one l t, List.mem_map.2 ⟨t, uniq_mem.2 (allT_mem.2 ⟨r, hr, isR_iff.1 h⟩), rfl⟩, isR_iff.2 (List.mem_singleton.2 rfl)⟩
  · rintro ⟨r, hr, h⟩
    obtain ⟨t', ht', rfl⟩ := List.mem_map.1 hr
    obtain rfl : t = t' := List.mem_singleton.1 (isR_iff.1 h)
    obtain ⟨r, hr', h⟩ := allT_mem.1 (uniq_mem.1 ht')
    exact ⟨r, hr', isR_iff.2 h⟩
theorem join_tg {l z : List Rl} (hz : z = (uniq (allT l)).map (one l)) {k : Nat} (hk : k < z.length) : tg z k = [(uniq (allT l)).getD k []] := by
  subst hz
  rw [List.length_map] at hk
  unfold tg
  rw [List.getD, List.getElem?_map, List.getD, List.getElem?_eq_getElem hk]
  rfl
theorem below_drewN {B : Nat} {a w : World} (h : Below B a w) (n : Nat) : Below B a (w.drewN n) := ⟨h.os, h.tape, h.output, h.size, h.block⟩

set_option maxHeartbeats 4000000 in
set_option maxRecDepth 100000 in
theorem walkJoin {w : World} {v : Value} {l : List Rl} (h : RIn w v l) (T N : ByteArray) :
    Calls Tryd.prog 5 #[v, .string T, .string N] w fun e w' => e = .returned (.bool true) ∧ Below w.heap.size w w' := by
  obtain ⟨t, rfl⟩ : ∃ t, T = bs t := ⟨_, (bs_of T).symm⟩
  obtain ⟨n, rfl⟩ : ∃ n, N = bs n := ⟨_, (bs_of N).symm⟩
  have B0 : Hid (Below w.heap.size w ((w.alloc (.cells #[.string (bs t)] 9)).alloc (.cells #[.string (bs n)] 9))) := ((Below.refl _ w).alloc (Nat.le_refl _) _).alloc (by simp) _
  have CT : Hid (((w.alloc (.cells #[.string (bs t)] 9)).alloc (.cells #[.string (bs n)] 9)).cell? ⟨w.heap.size, 0, none⟩ = some (.string (bs t))) := Lib.hid (by simp)
  have CN : Hid (((w.alloc (.cells #[.string (bs t)] 9)).alloc (.cells #[.string (bs n)] 9)).cell? ⟨w.heap.size + 1, 0, none⟩ = some (.string (bs n))) := Lib.hid (by simp)
  have HR := Lib.hid h
  have HB := h.bound
  obtain ⟨a0, cap0, rfl, _⟩ := h
  generalize eL : l.length = ll at *
  clear eL
  go_enter Tryd.func5, Tryd.ntmps5
  go_wp2_with fail
  refine (rules_true _).mono ?_
  rintro e w1 ⟨rfl, b1⟩
  have B1 := Lib.hid (B0.out.trans (b1.mono (by simp; omega)))
  have CT1 := Lib.hid (cell_later b1 CT.out)
  have CN1 := Lib.hid (cell_later b1 CN.out)
  clear b1
  go_wp2_with fail
  refine (join_any (HR.out.later B1.out)).mono ?_
  rintro e w2 ⟨u, z, x, rfl, hj, ro, b2⟩
  have B2 := Lib.hid (B1.out.trans (b2.mono B1.out.size))
  have CT2 := Lib.hid (cell_later b2 CT1.out)
  have CN2 := Lib.hid (cell_later b2 CN1.out)
  clear b2
  by_cases hx : x = 0
  · obtain ⟨hz, hf, h100, h64, hnn⟩ := hj.fine hx
    subst hx
    have RI := Lib.hid (ro.rin (by rw [hz, List.length_map]; omega) (join_small hz hf hnn))
    have JH := Lib.hid (join_has hz t n)
    have JI := Lib.hid (join_is hz t)
    have JT : Hid (∀ k, k < z.length → tg z k = [(uniq (allT l)).getD k []]) := fun k hk => join_tg hz hk
    have UP := Lib.hid (uniq_up (allT l))
    have UL : Hid (z.length = (uniq (allT l)).length) := Lib.hid (by rw [hz, List.length_map])
    have h64' : z.length ≤ 64 := by rw [UL.out]; exact h64
    clear hz hf h100 h64 hnn hj ro
    generalize uniq (allT l) = ts at *
    obtain ⟨a2, c2, rfl, hcap, _, _, h5⟩ := id RI.out
    have HC : Hid (∀ W, Below w2.heap.size w2 W → ∀ k, k < z.length → ∃ b off T U b3 off3 c3 U', a2 = some ⟨b, off, none⟩ ∧ W.cell? ⟨b, off + k * 2, none⟩ = some T ∧ W.cell? ⟨b, off + k * 2 + 1, none⟩ = some U ∧ SIn W U U' ∧ T = .slice (some ⟨b3, off3, none⟩) 1 c3 ∧ W.cell? ⟨b3, off3, none⟩ = some (.string (bs (ts.getD k [])))) := fun W hW k hk => by
      rcases h5 with rfl | ⟨b, off, ha, hlt, T, U, hc⟩
      · exact absurd hk (Nat.not_lt_zero _)
      · obtain ⟨c0, c1, s0, s1⟩ := hc k hk
        rw [JT.out k hk] at s0
        rcases (s0.later hW).open with ⟨e0, _⟩ | ⟨_, b3, off3, c3, e3, _, _, h3⟩
        · cases e0
        · exact ⟨b, off, T k, U k, b3, off3, c3, _, ha, cell_later hW c0, cell_later hW c1, s1.later hW, e3, h3 0 (by simp)⟩
    clear h5
    have LTS : Hid (∀ k, k + 1 < z.length → ts.getD k [] < ts.getD (k + 1) []) := fun k hk => up_get UP.out (by omega) (by rw [← UL.out]; exact hk)
    generalize eZ : z.length = lz at *
    clear eZ UL
    go_wp2_with fail
    go_loopw [29] (fun i wr => ∃ k : Nat, k ≤ lz ∧ i = .int .i64 (k : Int) ∧ Below w2.heap.size w2 wr) (fun i _ => lz - (intOf i).toNat)
    case atStart => exact ⟨0, Nat.zero_le _, rfl, Below.refl _ _⟩
    case round =>
      obtain ⟨k, hk, rfl, qb⟩ := hrel
      have QB := Lib.hid qb; clear qb
      by_cases hkl : k < lz
      · obtain ⟨b, off, T, U, b3, off3, c3, U', rfl, c0, c1, s1, rfl, d0⟩ := HC.out wr QB.out k hkl
        obtain ⟨an, cn, rfl⟩ := s1.shape
        clear s1
        generalize U'.length = lu at *
        have WA : Hid (Below w2.heap.size w2 (wr.alloc (.cells #[.slice (some ⟨b3, off3, none⟩) 1 c3, .slice an lu cn] 24))) := QB.out.alloc QB.out.size _
        have ST := (stayR_new wr (.slice (some ⟨b3, off3, none⟩) 1 c3) (.slice an lu cn)).cells
        have BA : Hid (Below wr.heap.size wr (wr.alloc (.cells #[.slice (some ⟨b3, off3, none⟩) 1 c3, .slice an lu cn] 24))) := (Below.refl _ wr).alloc (Nat.le_refl _) _
        have D0 := cell_later BA.out d0
        by_cases hk0 : k = 0
        · have i2 : decide (0 < k) = false := decide_eq_false (by omega)
          have HK := Lib.hid hk0; clear hk0
          obtain ⟨t0, t1⟩ := ST
          go_wp2_with fail
          clear BA c0 c1 d0
          generalize hw5 : wr.alloc (.cells #[.slice (some ⟨b3, off3, none⟩) 1 c3, .slice an lu cn] 24) = w5 at *
          clear hw5
          go_quiet (fail)
          go_wp2
          go_roundw
          case rel => exact ⟨k + 1, by omega, by go_num, below_drewN WA.out _⟩
          case measure => simp [intOf]; omega
        · obtain ⟨m, hm⟩ : ∃ m, k = m + 1 := ⟨k - 1, by omega⟩
          have hml : m < lz := by omega
          obtain ⟨b', off', T', U2, b4, off4, c4, U3, e4, p0, p1, s4, rfl, f0⟩ := HC.out _ WA.out m hml
          cases e4
          have LE : Op.bytesLess (bs (ts.getD m [])).toList (bs (ts.getD k [])).toList = true := by
            rw [bs_toList, bs_toList, bytesLess_eq, hm]; exact decide_eq_true (LTS.out m (by omega))
          have i1 : (k : Int) - 1 = (m : Int) := by omega
          have i2 : decide (0 < k) = true := decide_eq_true (by omega)
          have HM := Lib.hid hm; clear hm hk0
          generalize ts.getD m [] = xm at *
          generalize ts.getD k [] = xk at *
          rw [bs_toList, bs_toList] at LE
          have LE2 : Op.bytesLess (bs xm).toList (bs xk).toList = true := by rw [bs_toList, bs_toList]; exact LE
          clear LE
          obtain ⟨t0, t1⟩ := ST
          go_wp2_with fail
          clear BA c0 c1 d0
          generalize hw5 : wr.alloc (.cells #[.slice (some ⟨b3, off3, none⟩) 1 c3, .slice an lu cn] 24) = w5 at *
          clear hw5
          go_quiet (fail)
          go_wp2
          go_roundw
          case rel => exact ⟨k + 1, by omega, by go_num, below_drewN WA.out _⟩
          case measure => simp [intOf]; omega
      · obtain rfl : k = lz := by omega
        have R0 := Lib.hid (HR.out.later (B2.out.trans (QB.out.mono B2.out.size)))
        have RZ := Lib.hid (RI.out.later QB.out)
        have CT3 := Lib.hid (cell_later QB.out CT2.out)
        have CN3 := Lib.hid (cell_later QB.out CN2.out)
        have BW := Lib.hid (B2.out.trans (QB.out.mono B2.out.size))
        go_wp2_with fail
        refine (has_any R0.out CT3.out CN3.out).mono ?_
        rintro e w4 ⟨rfl, b4⟩
        have CT4 := Lib.hid (cell_later b4 CT3.out); have CN4 := Lib.hid (cell_later b4 CN3.out)
        have R4 := Lib.hid (R0.out.later b4); have Z4 := Lib.hid (RZ.out.later b4)
        have B4 := Lib.hid (BW.out.trans (b4.mono BW.out.size))
        clear b4
        go_wp2_with fail
        refine (has_any Z4.out CT4.out CN4.out).mono ?_
        rintro e w5 ⟨rfl, b5⟩
        rw [JH.out]
        have CT5 := Lib.hid (cell_later b5 CT4.out)
        have R5 := Lib.hid (R4.out.later b5); have Z5 := Lib.hid (Z4.out.later b5)
        have B5 := Lib.hid (B4.out.trans (b5.mono B4.out.size))
        clear b5
        generalize z.any (hasR t n) = y1 at *
        have g1 : (y1 == y1) = true := by simp
        go_wp2_with fail
        refine (is_any R5.out CT5.out).mono ?_
        rintro e w6 ⟨rfl, b6⟩
        have CT6 := Lib.hid (cell_later b6 CT5.out)
        have Z6 := Lib.hid (Z5.out.later b6)
        have B6 := Lib.hid (B5.out.trans (b6.mono B5.out.size))
        clear b6
        go_wp2_with fail
        refine (is_any Z6.out CT6.out).mono ?_
        rintro e w7 ⟨rfl, b7⟩
        rw [JI.out]
        have B7 := Lib.hid (B6.out.trans (b7.mono B6.out.size))
        clear b7
        generalize z.any (isR t) = y2 at *
        have g2 : (y2 == y2) = true := by simp
        go_wp2
        go_ret
        exact ⟨rfl, B7.out⟩
  · obtain rfl := hj.bad hx
    have hxn : (x != 0) = true := by rw [bne_iff_ne]; exact hx
    obtain ⟨c, hcl, ho, _⟩ := ro
    obtain ⟨a2, c2, rfl⟩ := own_shape' ho
    clear hx hj ho hcl
    go_wp2
    go_ret
    exact ⟨rfl, B2.out⟩
end Go.Proofs.YtdencbkepiaigaaDoor
