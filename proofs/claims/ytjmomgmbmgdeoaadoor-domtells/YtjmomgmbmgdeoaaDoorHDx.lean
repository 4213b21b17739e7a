/-
  The document's answer (package millwrightref) for dominators: Without, RuledBy. No condition.
-/
import Derived.Test.YtjmomgmbmgdeoaaDoorHDt
import Derived.Test.YtjmomgmbmgdeoaaDoorHDd
import Derived.Test.YtjmomgmbmgdeoaaDoorHKr
import Derived.Deep.RegionHeld3
namespace Go.Proofs.YtjmomgmbmgdeoaaDoor
set_option maxRecDepth 100000
set_option linter.unusedVariables false
open Go.ChangeShapes Go.WideShapes Go.ChangeAt Go.RowKit

/-! Without -/
/-- the first j are there, the others 0 -/
def Fw (r : List Bv) (x j : Nat) (O : List Bv) : Prop := O.length = r.length ∧ ∀ i, i < r.length → wAt O i = if i < j then wAt (outR r x) i else 0#64
theorem fw_zero (r : List Bv) (x : Nat) : Fw r x 0 (List.replicate r.length 0#64) := ⟨List.length_replicate, fun i _ => by rw [if_neg (Nat.not_lt_zero _), wAt_replicate]⟩
theorem fw_all {r : List Bv} {x : Nat} {O : List Bv} (h : Fw r x r.length O) : O = outR r x := by
  refine List.ext_getElem (by rw [h.1, outR_length]) fun i h1 h2 => ?_
  rw [h.1] at h1
  have := h.2 i h1
  rw [if_pos h1] at this
  unfold wAt at this
  rwa [List.getD, List.getD, List.getElem?_eq_getElem (by rw [h.1]; exact h1), List.getElem?_eq_getElem h2] at this
theorem fw_no {r : List Bv} {x : Nat} {O : List Bv} (h : Fw r x x O) (hx : x < r.length) : Fw r x (x + 1) O := ⟨h.1, fun i hi => by
  rw [h.2 i hi]
  by_cases e : i < x
  · rw [if_pos e, if_pos (by omega)]
  · rw [if_neg e]
    by_cases e2 : i = x
    · subst e2; rw [if_pos (by omega), outR_at hi, if_pos rfl]
    · rw [if_neg (by omega)]⟩
theorem fw_next {r : List Bv} {x j : Nat} {O : List Bv} (h : Fw r x j O) (hj : j < r.length) (hx : j ≠ x) : Fw r x (j + 1) (O.set j (wAt r j &&& ~~~one x)) := ⟨by rw [List.length_set, h.1], fun i hi => by
  have e0 : wAt (O.set j (wAt r j &&& ~~~one x)) i = if i = j then wAt r j &&& ~~~one x else wAt O i := by
    unfold wAt
    rw [List.getD, List.getElem?_set]
    by_cases h' : j = i
    · subst h'; rw [if_pos rfl, if_pos (by rw [h.1]; exact hj), if_pos rfl]; rfl
    · rw [if_neg h', if_neg (Ne.symm h')]; rfl
  rw [e0]
  by_cases e : i = j
  · subst e; rw [if_pos rfl, if_pos (by omega), outR_at hi, if_neg hx]
  · rw [if_neg e, h.2 i hi]
    by_cases e2 : i < j
    · rw [if_pos e2, if_pos (by omega)]
    · rw [if_neg e2, if_neg (by omega)]⟩
set_option maxHeartbeats 8000000 in
theorem withoutR_any {w : World} {v : Value} {r : List Bv} {x : Nat} (h : WIn w v r) (hl : r.length ≤ 64) (hx : x < r.length) :
    Calls Tryd.prog 29 #[v, .int .i64 (x : Int)] w fun e w' => ∃ u, e = .returned u ∧ WIn w' u (outR r x) ∧ Below w.heap.size w w' := by
  obtain ⟨i0, hi, hz0, hz1, hz2⟩ := info_parts infoW
  have F0 := Lib.hid (fw_zero r x)
  have FN := Lib.hid (fun O j (h : Fw r x j O) hj hx => fw_next h hj hx)
  have FX := Lib.hid (fun O (h : Fw r x x O) => fw_no h hx)
  have FA := Lib.hid (fun O (h : Fw r x r.length O) => fw_all h)
  have FL := Lib.hid (fun O j (h : Fw r x j O) => h.1)
  have ZW := Lib.hid (zeros_w r.length)
  have HW := Lib.hid (fun W (hW : Below w.heap.size w W) => h.later hW)
  obtain ⟨a, c, rfl, _⟩ := h
  have HC : Hid (∀ W, Below w.heap.size w W → ∀ k, k < r.length → ∃ b off, a = some ⟨b, off, none⟩ ∧ W.cell? ⟨b, off + k, none⟩ = some (.int .u64 ((wAt r k).toNat : Int))) := fun W hW k hk => by
    obtain ⟨a', c', e, hh⟩ := HW.out W hW
    cases e
    exact hh k hk
  have PU : Hid (∀ W b O i s, WO w.heap.size (.slice (some ⟨b, 0, none⟩) r.length r.length) O W → O.length = r.length → i < r.length → Below w.heap.size w W →
      W.frozen? ⟨b, i, none⟩ = false ∧ (∃ u, W.cell? ⟨b, i, none⟩ = some u) ∧ WO w.heap.size (.slice (some ⟨b, 0, none⟩) r.length r.length) (O.set i s) (W.setCell ⟨b, i, none⟩ (.int .u64 (s.toNat : Int))).drew ∧ Below w.heap.size w (W.setCell ⟨b, i, none⟩ (.int .u64 (s.toNat : Int))).drew) := fun W b O i s hO hl hi hW => by
    rw [← hl] at hO hi ⊢
    obtain ⟨h1, h2⟩ := hO.put i s
    exact ⟨hO.frozen i, ⟨_, hO.cell hi⟩, own_later h1 (Below.refl _ _).drew, (below_grown' hW h2 hW.size (hO.lt b rfl).1).drew⟩
  have WI : Hid (∀ W b, WO w.heap.size (.slice (some ⟨b, 0, none⟩) r.length r.length) (outR r x) W → WIn W (.slice (some ⟨b, 0, none⟩) r.length r.length) (outR r x)) := fun W b hO => WO.win (B := w.heap.size) hO
  obtain ⟨w2, rmk, o2, g2⟩ := run_make_full (P := Tryd.prog) w w.heap.size 22 35 i0 (.int .u64 0) 1 Tryd.underlying22 hi hz0 hz1 .i64 .i64 r.length (by rw [hz2]; omega) (by unfold maxLen; omega) (Nat.le_refl _)
  rw [ZW.out] at o2
  have B2 : Hid (Below w.heap.size w w2) := (Below.refl _ _).grown g2 (Nat.le_refl _) (fun q hq => by cases hq)
  have O2 : Hid (WO w.heap.size (.slice (some ⟨w.heap.size, 0, none⟩) r.length r.length) (List.replicate r.length 0#64) w2) := by
    show World.ownsRow _ _ _ _ _ _ _
    rw [List.length_replicate]; exact o2
  clear o2 g2 hi hz0 hz1 hz2 ZW HW
  have hx64 : (x : Int) < 64 := by omega
  have e1 := one_walk x (by omega)
  generalize outR r x = RL at *
  generalize hL : r.length = L at *
  clear hL
  generalize hb : w.heap.size = b at *
  go_enter Tryd.func29, Tryd.ntmps29
  go_wp2_with fail
  go_loopw [12] (fun i wr => ∃ (p : Nat) (O : List Bv), p ≤ L ∧ i = .int .i64 (p : Int) ∧ Fw r x p O ∧ WO b (.slice (some ⟨b, 0, none⟩) L L) O wr ∧ Below b w wr) (fun i _ => L - (intOf i).toNat)
  case atStart => exact ⟨0, _, Nat.zero_le _, rfl, F0.out, O2.out, B2.out⟩
  case round =>
    obtain ⟨p, O, hp, rfl, qt, qo, qb⟩ := hrel
    have QT := Lib.hid qt; have QO := Lib.hid qo; have QB := Lib.hid qb; clear qt qo qb
    rename World => wr
    by_cases hpl : p < L
    · by_cases hpx : p = x
      · subst hpx
        have NX := Lib.hid (FX.out O QT.out)
        have t1 : ((p : Int) != (p : Int)) = false := by simp
        go_wp2
        go_roundw
        case rel => exact ⟨p + 1, _, by omega, by go_num, NX.out, QO.out, QB.out⟩
        case measure => simp [intOf]; omega
      · have NX := Lib.hid (FN.out O p QT.out hpl hpx)
        have ul := FL.out O p QT.out
        obtain ⟨fr, ⟨u, cu⟩, o4, b4⟩ := PU.out wr b O p (wAt r p &&& ~~~one x) QO.out ul hpl QB.out
        have O4 := Lib.hid o4; have B4 := Lib.hid b4
        obtain ⟨ab, ao, rfl, c0⟩ := HC.out wr QB.out p hpl
        have e2 : bits .andNot .u64 ((wAt r p).toNat : Int) ((one x).toNat : Int) = ((wAt r p &&& ~~~one x).toNat : Int) := by rw [bv_andNot]
        have t1 : ((p : Int) != (x : Int)) = true := bne_iff_ne.2 (by omega)
        have i2 : (p : Int) < (L : Int) := by omega
        clear o4 b4 ul hpx
        generalize hy : wAt r p &&& ~~~one x = y at *
        have HY := Lib.hid hy; clear hy
        generalize (wAt r p).toNat = z at *
        go_wp2_with fail
        go_region
        go_wp2
        go_roundw
        case rel => exact ⟨p + 1, _, by omega, by go_num, NX.out, O4.out, B4.out⟩
        case measure => simp [intOf]; omega
    · obtain rfl : p = L := by omega
      have E := FA.out O QT.out
      subst E
      go_wp2
      go_ret
      exact ⟨_, rfl, WI.out _ _ QO.out, QB.out⟩
/-! RuledBy -/
theorem domS_step {r : List Bv} (hr : RowsIn r) {o n : Nat} (ho : o < r.length) (hn : n < r.length) (hw : Wk r o n) :
    ∃ f : Nat → Bv, f 0 = 0#64 ∧ f r.length = domS r o n ∧ ∀ a, a < r.length → ((a = o ∨ a = n) → f (a + 1) = f a ||| one a) ∧
      (a ≠ o → a ≠ n → (allR (outR r a) (one o)).getLsbD n = false → f (a + 1) = f a ||| one a) ∧ (a ≠ o → a ≠ n → (allR (outR r a) (one o)).getLsbD n = true → f (a + 1) = f a) := by
  refine ⟨setTo (fun a => @decide (Dm r o a n) (Classical.propDecidable _)), rfl, rfl, fun a ha => ?_⟩
  have hs : ∀ (g : Nat → Bool), setTo g (a + 1) = if g a then setTo g a ||| one a else setTo g a := fun g => rfl
  have hd := dm_out hr (b := n) ho ha
  have hw' := (all_one hr ho).2 hw
  refine ⟨fun h => ?_, fun h1 h2 hb => ?_, fun h1 h2 hb => ?_⟩
  · rw [hs, if_pos]
    refine @decide_eq_true _ (Classical.propDecidable _) ?_
    rcases h with h | h
    · subst h; exact .root hw
    · subst h; exact .refl hw
  · rw [hs, if_pos]
    exact @decide_eq_true _ (Classical.propDecidable _) (hd.2 ⟨hw', .inr hb⟩)
  · rw [hs, if_neg]
    intro h
    have h3 := (hd.1 (@of_decide_eq_true _ (Classical.propDecidable _) h)).2
    rcases h3 with h3 | h3
    · exact h1 h3
    · rw [hb] at h3; cases h3
set_option maxHeartbeats 8000000 in
theorem ruledBy_any {w : World} {v : Value} {r : List Bv} {o n : Nat} (h : WIn w v r) (hr : RowsIn r) (ho : o < r.length) (hn : n < r.length) :
    Calls Tryd.prog 15 #[v, .int .i64 (o : Int), .int .i64 (n : Int)] w fun e w' => e = .returned (.int .u64 ((domS r o n).toNat : Int)) ∧ Below w.heap.size w w' := by
  have hl := hr.len
  have ST := Lib.hid (fun W (hW : Below w.heap.size w W) => stepsR_any (one o) (-1) (h.later hW) hr (setIn_one ho hl))
  rw [stR_all] at ST
  have SW : Hid (∀ W u a, a < r.length → WIn W u (outR r a) → Calls Tryd.prog 28 #[u, .int .u64 ((one o).toNat : Int), .int .i64 (-1)] W fun e w' => e = .returned (.int .u64 ((allR (outR r a) (one o)).toNat : Int)) ∧ w' = W) := fun W u a ha hu => by
    have := stepsR_any (one o) (-1) hu (outR_in hr (by omega)) (by rw [outR_length]; exact setIn_one ho hl)
    rwa [stR_all] at this
  have WO' := Lib.hid (fun W a (hW : Below w.heap.size w W) (ha : a < r.length) => withoutR_any (x := a) (h.later hW) hl ha)
  have IQ := Lib.hid (fun s W b hb => in_q s n W (by omega) b hb)
  have NO' : Hid ((allR r (one o)).getLsbD n = false → domS r o n = 0#64) := fun hb => domS_none hr ho fun hw => by
    rw [(all_one hr ho).2 hw] at hb; cases hb
  have YES : Hid ((allR r (one o)).getLsbD n = true → ∃ f : Nat → Bv, f 0 = 0#64 ∧ f r.length = domS r o n ∧ ∀ a, a < r.length → ((a = o ∨ a = n) → f (a + 1) = f a ||| one a) ∧
      (a ≠ o → a ≠ n → (allR (outR r a) (one o)).getLsbD n = false → f (a + 1) = f a ||| one a) ∧ (a ≠ o → a ≠ n → (allR (outR r a) (one o)).getLsbD n = true → f (a + 1) = f a)) := fun hb => domS_step hr ho hn ((all_one hr ho).1 hb)
  have e1 := one_walk o (by omega)
  have ho64 : (o : Int) < 64 := by omega
  obtain ⟨a, c, rfl, _⟩ := h
  clear hr
  generalize domS r o n = D at *
  go_enter Tryd.func15, Tryd.ntmps15
  go_wp2_with fail
  refine (ST.out w (Below.refl _ _)).mono ?_
  rintro e w1 ⟨rfl, rfl⟩
  have I1 := Lib.hid (IQ.out (allR r (one o)) w1 _ rfl)
  cases hb : (allR r (one o)).getLsbD n
  · have E := Lib.hid (NO'.out hb)
    rw [hb] at I1
    clear hb YES NO' ST SW WO' IQ
    generalize (allR r (one o)).toNat = X at *
    go_wp2_with fail
    refine I1.out.mono ?_
    rintro e w2 ⟨rfl, rfl⟩
    go_wp2
    go_ret
    exact ⟨ret_u E.out.symm, Below.refl _ _⟩
  · obtain ⟨f, f0, f1, fs⟩ := YES.out hb
    have F0 := Lib.hid f0; have FS := Lib.hid fs
    rw [hb] at I1
    clear hb YES NO' ST f0 fs
    generalize (allR r (one o)).toNat = X at *
    generalize hL : r.length = L at *
    clear hL
    subst f1
    go_wp2_with fail
    refine I1.out.mono ?_
    rintro e w2 ⟨rfl, rfl⟩
    go_wp2_with fail
    go_loopw [7, 18] (fun u i wr => ∃ m : Nat, m ≤ L ∧ i = .int .i64 (m : Int) ∧ u = .int .u64 ((f m).toNat : Int) ∧ Below w2.heap.size w2 wr) (fun _ i _ => L - (intOf i).toNat)
    case atStart => exact ⟨0, Nat.zero_le _, rfl, by rw [F0.out]; rfl, Below.refl _ _⟩
    case round =>
      obtain ⟨m, hm, rfl, rfl, qb⟩ := hrel
      have QB := Lib.hid qb; clear qb
      rename World => wr
      by_cases hml : m < L
      · obtain ⟨s1, s2, s3⟩ := FS.out m hml
        have e2 := one_walk m (by omega)
        have hm64 : (m : Int) < 64 := by omega
        have e3 : bits .or .u64 ((f m).toNat : Int) ((one m).toNat : Int) = ((f m ||| one m).toNat : Int) := bv_or _ _
        by_cases hmo : m = o
        · rw [← s1 (.inl hmo)] at e3
          have t1 : ((m : Int) == (o : Int)) = true := by rw [beq_iff_eq]; omega
          clear s1 s2 s3
          generalize (f m).toNat = x at *
          generalize hz : (f (m + 1)).toNat = z at *
          have HZ := Lib.hid hz; clear hz hmo
          go_wp2_with fail
          go_quiet (fail)
          go_wp2
          go_roundw
          case rel => exact ⟨m + 1, by omega, by go_num, by rw [HZ.out], below_drewN QB.out _⟩
          case measure => simp [intOf]; omega
        · by_cases hmn : m = n
          · rw [← s1 (.inr hmn)] at e3
            have t1 : ((m : Int) == (o : Int)) = false := by rw [beq_eq_false_iff_ne]; omega
            have t2 : ((m : Int) == (n : Int)) = true := by rw [beq_iff_eq]; omega
            clear s1 s2 s3
            generalize (f m).toNat = x at *
            generalize hz : (f (m + 1)).toNat = z at *
            have HZ := Lib.hid hz; clear hz hmo hmn
            go_wp2_with fail
            go_quiet (fail)
            go_wp2
            go_roundw
            case rel => exact ⟨m + 1, by omega, by go_num, by rw [HZ.out], below_drewN QB.out _⟩
            case measure => simp [intOf]; omega
          · have t1 : ((m : Int) == (o : Int)) = false := by rw [beq_eq_false_iff_ne]; omega
            have t2 : ((m : Int) == (n : Int)) = false := by rw [beq_eq_false_iff_ne]; omega
            have W1 : Hid (∀ k, Calls Tryd.prog 29 #[.slice a L c, .int .i64 (m : Int)] (wr.drewN k) fun e w' => ∃ u, e = .returned u ∧ WIn w' u (outR r m) ∧ Below w2.heap.size w2 w') := fun k =>
              (WO'.out _ m (below_drewN QB.out k) hml).mono fun e w' ⟨u, h1, h2, h3⟩ => ⟨u, h1, h2, QB.out.trans (((below_drewN (Below.refl _ wr) k).trans (h3.mono (by simp))).mono QB.out.size)⟩
            have S1 := Lib.hid (fun W u hu => SW.out W u m hml hu)
            have I2 := Lib.hid (fun W b hb => IQ.out (allR (outR r m) (one o)) W b hb)
            cases hb : (allR (outR r m) (one o)).getLsbD n
            · rw [← s2 hmo hmn hb] at e3
              have I3 := Lib.hid (fun W => I2.out W false hb)
              clear s1 s2 s3 hmo hmn hb I2
              generalize (allR (outR r m) (one o)).toNat = y at *
              generalize (f m).toNat = x at *
              generalize hz : (f (m + 1)).toNat = z at *
              have HZ := Lib.hid hz; clear hz
              go_wp2_with fail
              go_region_held3 (fun _ => True) (exact trivial) (first
                | (go_at_call 29; refine (W1.out _).mono ?_; rintro e w4 ⟨u, rfl, hu, b4⟩)
                | (go_at_call 28; refine (S1.out _ _ hu).mono ?_; rintro e w5 ⟨rfl, rfl⟩)
                | (go_at_call 14; refine (I3.out _).mono ?_; rintro e w6 ⟨rfl, rfl⟩))
              have B4 := Lib.hid b4
              clear b4 hu
              go_wp2
              go_roundw
              case rel => exact ⟨m + 1, by omega, by go_num, by rw [HZ.out], B4.out⟩
              case measure => simp [intOf]; omega
            · have e4 := Lib.hid (congrArg BitVec.toNat (s3 hmo hmn hb))
              have I3 := Lib.hid (fun W => I2.out W true hb)
              clear s1 s2 s3 hmo hmn hb I2 e3
              generalize (allR (outR r m) (one o)).toNat = y at *
              generalize (f m).toNat = x at *
              go_wp2_with fail
              go_region_held3 (fun _ => True) (exact trivial) (first
                | (go_at_call 29; refine (W1.out _).mono ?_; rintro e w4 ⟨u, rfl, hu, b4⟩)
                | (go_at_call 28; refine (S1.out _ _ hu).mono ?_; rintro e w5 ⟨rfl, rfl⟩)
                | (go_at_call 14; refine (I3.out _).mono ?_; rintro e w6 ⟨rfl, rfl⟩))
              have B4 := Lib.hid b4
              clear b4 hu
              go_wp2
              go_roundw
              case rel => exact ⟨m + 1, by omega, by go_num, by rw [e4.out], B4.out⟩
              case measure => simp [intOf]; omega
      · obtain rfl : m = L := by omega
        go_wp2
        go_ret
        exact ⟨rfl, QB.out⟩
end Go.Proofs.YtjmomgmbmgdeoaaDoor
