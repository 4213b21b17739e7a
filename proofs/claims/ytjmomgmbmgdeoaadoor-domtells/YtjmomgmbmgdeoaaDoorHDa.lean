/-
  Package dom's functions in memory, but the sorting ones: slices.Clone of sets, reached, reachedWithout, ruledByEach, check. Condition: the table of math/bits lies in memory as its text lays it (the card ties this).
-/
import Derived.Test.YtjmomgmbmgdeoaaDoorHGd
import Derived.Test.YtjmomgmbmgdeoaaDoorHDp
import Derived.Test.YtjmomgmbmgdeoaaDoorHKa
import Derived.Test.YtjmomgmbmgdeoaaDoorLaysC
import Derived.Deep.RegionWith
namespace Go.Proofs.YtjmomgmbmgdeoaaDoor
set_option maxRecDepth 100000
set_option linter.unusedVariables false
open Go.ChangeShapes Go.WideShapes Go.ChangeAt Go.RowKit

/-! slices.Clone of sets -/
theorem WO.put {B : Nat} {g c : Nat} {r : List Bv} {w : World} (h : WO B (.slice (some ⟨g, 0, none⟩) r.length c) r w) (i : Nat) (s : Bv) :
    WO B (.slice (some ⟨g, 0, none⟩) r.length c) (r.set i s) (w.setCell ⟨g, i, none⟩ (.int .u64 (s.toNat : Int))) ∧ w.grownBy (w.setCell ⟨g, i, none⟩ (.int .u64 (s.toNat : Int))) (some g) := by
  have := World.ownsRow.stored h i (encW s)
  refine ⟨?_, this.2⟩
  unfold WO
  rw [List.length_set, List.map_set]
  exact this.1
theorem cloneW_any {w : World} {v : Value} {r : List Bv} (h : WIn w v r) (h0 : 0 < r.length) (hl : r.length ≤ 64) :
    Calls Tryd.prog 18 #[v] w fun e w' => ∃ g c, e = .returned (.slice (some ⟨g, 0, none⟩) r.length c) ∧ WO w.heap.size (.slice (some ⟨g, 0, none⟩) r.length c) r w' ∧ Below w.heap.size w w' := by
  obtain ⟨i0, hi, hz0, hz1, hz2⟩ := info_parts infoW
  obtain ⟨a, cap, rfl, hc⟩ := h
  obtain ⟨b, off, rfl, _⟩ := hc 0 h0
  refine Calls.mono (show Calls Tryd.prog 18 _ _ _ from AnyE.slices_Clone cloneL i0 (.int .u64 0) 1 8 hi hz0 hz1 hz2 rfl (by decide) (fun w => Tryd.sizeOf35 w) b off r.length cap (r.map encW) w (by simp) (by unfold maxLen; omega) (by omega) ?_ ?_) ?_
  · intro j u hj
    have hlt : j < r.length := by
      rcases Nat.lt_or_ge j r.length with h | h
      · exact h
      · rw [List.getElem?_eq_none (by rw [List.length_map]; exact h)] at hj; cases hj
    rw [wAt_get hlt] at hj
    cases hj
    obtain ⟨b', off', e, c0⟩ := hc j hlt
    cases e
    exact c0
  · intro y hy; simp at hy; obtain ⟨x, _, rfl⟩ := hy; rfl
  · rintro e w' ⟨v', rfl, o, hne, hb⟩
    rcases o.2 with ⟨h, _⟩ | ⟨g, c, cur, h, _⟩
    · exact absurd h (by rintro rfl; simp at hne h0)
    · subst h; exact ⟨g, c, rfl, o, hb⟩
theorem fromO_any {w : World} {v : Value} {r : List Bv} {i : Nat} (h : WIn w v r) (hr : RowsIn r) (hi : i < r.length) (ht : Tab w) :
    Calls Tryd.prog 17 #[v, .int .u64 ((one i).toNat : Int)] w fun e w' => e = .returned (.tuple #[.int .u64 ((allR r (one i)).toNat : Int), .int .i64 0]) ∧ Below w.heap.size w w' := by
  have c : ckW r [one i] = 0 := ckW_one.2 ⟨hr, setIn_one hi hr.len⟩
  have := from_any (one i) h ht
  rwa [c, frR_ok c] at this

/-! reached, reachedWithout, ruledByEach -/
theorem reachedD_any {w : World} {v : Value} {r : List Bv} {o : Nat} (h : WIn w v r) (hr : RowsIn r) (ho : o < r.length) (ht : Tab w) :
    Calls Tryd.prog 25 #[v, .int .i64 (o : Int)] w fun e w' => e = .returned (.int .u64 ((allR r (one o)).toNat : Int)) ∧ Below w.heap.size w w' := by
  have hl := hr.len
  have FR := Lib.hid (fromO_any h hr ho ht)
  have e1 := one_walk o (by omega)
  have ho64 : (o : Int) < 64 := by omega
  clear ht
  generalize (allR r (one o)).toNat = A at *
  go_enter Tryd.func25, Tryd.ntmps25
  go_wp2_with fail
  refine FR.out.mono ?_
  rintro e w1 ⟨rfl, b1⟩
  have B1 := Lib.hid b1
  clear b1
  go_wp2
  go_ret
  exact ⟨rfl, B1.out⟩
set_option maxHeartbeats 4000000 in
theorem stoppedD_any {w : World} {v : Value} {r : List Bv} {o a : Nat} (h : WIn w v r) (hr : RowsIn r) (ho : o < r.length) (ha : a < r.length) (ht : Tab w) :
    Calls Tryd.prog 26 #[v, .int .i64 (o : Int), .int .i64 (a : Int)] w fun e w' => e = .returned (.int .u64 ((woW r o a).toNat : Int)) ∧ Below w.heap.size w w' := by
  have hl := hr.len
  have CL := Lib.hid (cloneW_any h (by omega) hl)
  have ST : Hid (∀ W g c, Below w.heap.size w W → WO w.heap.size (.slice (some ⟨g, 0, none⟩) r.length c) r W → Below w.heap.size w (W.setCell ⟨g, a, none⟩ (.int .u64 0)) ∧ W.frozen? ⟨g, a, none⟩ = false ∧ (∃ y : Nat, W.cell? ⟨g, a, none⟩ = some (.int .u64 (y : Int))) ∧
      ∀ m, Calls Tryd.prog 25 #[.slice (some ⟨g, 0, none⟩) r.length c, .int .i64 (o : Int)] ((W.setCell ⟨g, a, none⟩ (.int .u64 0)).drewN m) fun e w' => e = .returned (.int .u64 ((allR (stopR r a) (one o)).toNat : Int)) ∧ Below w.heap.size w w') := fun W g c hW hO => by
    obtain ⟨h1, h2⟩ := hO.put a 0#64
    obtain ⟨hB, hg⟩ := hO.lt g rfl
    have hb := below_grown' hW h2 hW.size hB
    refine ⟨hb, hO.frozen a, ⟨_, hO.cell ha⟩, fun m => ?_⟩
    have hbm := below_drewN hb m
    have hwi : WIn (W.setCell ⟨g, a, none⟩ (.int .u64 0)) (.slice (some ⟨g, 0, none⟩) r.length c) (stopR r a) := WO.win (B := w.heap.size) (by unfold WO stopR at *; rw [List.length_set] at h1 ⊢; exact h1)
    have hwm : WIn ((W.setCell ⟨g, a, none⟩ (.int .u64 0)).drewN m) (.slice (some ⟨g, 0, none⟩) r.length c) (stopR r a) := hwi.later (below_drewN (Below.refl _ _) m)
    exact (reachedD_any hwm (stopR_in hr a) (by rw [stopR_length]; exact ho) (ht.below hbm ht.1)).mono fun _ _ k => ⟨k.1, hbm.trans (k.2.mono hbm.size)⟩
  have EE : Hid (bits .andNot .u64 ((allR (stopR r a) (one o)).toNat : Int) (IntKind.u64.wrap (2 ^ a)) = ((woW r o a).toNat : Int)) := Lib.hid (by rw [one_walk a (by omega), bv_andNot]; rfl)
  have ha64 : (a : Int) < 64 := by omega
  have haL : (a : Int) < (r.length : Int) := by omega
  clear ht hr h
  generalize (woW r o a).toNat = X at *
  generalize (allR (stopR r a) (one o)).toNat = Y at *
  generalize r.length = L at *
  go_enter Tryd.func26, Tryd.ntmps26
  go_wp2_with fail
  refine CL.out.mono ?_
  rintro e w1 ⟨g, c, rfl, o1, b1⟩
  obtain ⟨b2, f2, ⟨y, k2⟩, R2⟩ := ST.out w1 g c b1 o1
  have B2 := Lib.hid b2; have RR := Lib.hid R2
  clear b1 o1 b2 R2 ST CL
  go_wp2_with fail
  go_region_with (go_at_call 25; refine (RR.out _).mono ?_; rintro e w3 ⟨rfl, b3⟩)
  have B3 := Lib.hid b3
  clear b3
  go_wp2
  go_ret
  refine ⟨?_, B3.out⟩
  rw [EE.out]
  rfl
/-- the first j are there, the others 0 -/
def Fd (r : List Bv) (o j : Nat) (O : List Bv) : Prop := O = ((List.range j).map (ruW r o)) ++ List.replicate (r.length - j) 0#64
theorem fd_zero (r : List Bv) (o : Nat) : Fd r o 0 (List.replicate r.length 0#64) := rfl
theorem fd_all {r : List Bv} {o : Nat} {O : List Bv} (h : Fd r o r.length O) : O = ruL r o := by
  unfold Fd at h
  rw [Nat.sub_self, List.replicate_zero, List.append_nil] at h
  exact h
theorem fd_length {r : List Bv} {o j : Nat} {O : List Bv} (h : Fd r o j O) (hj : j ≤ r.length) : O.length = r.length := by
  rw [h, List.length_append, List.length_map, List.length_range, List.length_replicate]; omega
theorem fd_next {r : List Bv} {o j : Nat} {O : List Bv} (h : Fd r o j O) (hj : j < r.length) : Fd r o (j + 1) (O.set j (ruW r o j)) := by
  unfold Fd at h ⊢
  have e : r.length - j = (r.length - (j + 1)) + 1 := by omega
  rw [h, e, List.replicate_succ, List.set_append, if_neg (by rw [List.length_map, List.length_range]; omega), List.length_map, List.length_range, Nat.sub_self, List.set_cons_zero, List.range_succ, List.map_append, List.append_assoc]
  rfl
set_option maxHeartbeats 8000000 in
theorem each_any {w : World} {v : Value} {r : List Bv} {o : Nat} (h : WIn w v r) (hr : RowsIn r) (ho : o < r.length) (ht : Tab w) :
    Calls Tryd.prog 23 #[v, .int .i64 (o : Int)] w fun e w' => ∃ b, e = .returned (.slice (some ⟨b, 0, none⟩) r.length r.length) ∧ WO w.heap.size (.slice (some ⟨b, 0, none⟩) r.length r.length) (ruL r o) w' ∧ Below w.heap.size w w' := by
  obtain ⟨i0, hi, hz0, hz1, hz2⟩ := info_parts infoW
  have hl := hr.len
  have RE := Lib.hid (reachedD_any h hr ho ht)
  have ST : Hid (∀ W a, Below w.heap.size w W → a < r.length → Calls Tryd.prog 26 #[v, .int .i64 (o : Int), .int .i64 (a : Int)] W fun e w' => e = .returned (.int .u64 ((woW r o a).toNat : Int)) ∧ Below W.heap.size W w') := fun W a hW ha => stoppedD_any (h.later hW) hr ho ha (ht.below hW ht.1)
  have EE : Hid (∀ a, bits .andNot .u64 ((allR r (one o)).toNat : Int) ((woW r o a).toNat : Int) = ((ruW r o a).toNat : Int)) := fun a => by rw [bv_andNot]; rfl
  have F0 := Lib.hid (fd_zero r o)
  have FN := Lib.hid (fun O j (h : Fd r o j O) hj => fd_next h hj)
  have FA := Lib.hid (fun O (h : Fd r o r.length O) => fd_all h)
  have FL := Lib.hid (fun O j (h : Fd r o j O) hj => fd_length h hj)
  have ZW := Lib.hid (zeros_w r.length)
  obtain ⟨a, c, rfl, hc⟩ := h
  have PU : Hid (∀ W b O i s, WO w.heap.size (.slice (some ⟨b, 0, none⟩) r.length r.length) O W → O.length = r.length → i < r.length → Below w.heap.size w W →
      W.frozen? ⟨b, i, none⟩ = false ∧ (∃ u, W.cell? ⟨b, i, none⟩ = some u) ∧ WO w.heap.size (.slice (some ⟨b, 0, none⟩) r.length r.length) (O.set i s) (W.setCell ⟨b, i, none⟩ (.int .u64 (s.toNat : Int))) ∧ Below w.heap.size w (W.setCell ⟨b, i, none⟩ (.int .u64 (s.toNat : Int)))) := fun W b O i s hO hl hi hW => by
    rw [← hl] at hO hi ⊢
    obtain ⟨h1, h2⟩ := hO.put i s
    exact ⟨hO.frozen i, ⟨_, hO.cell hi⟩, h1, below_grown' hW h2 hW.size (hO.lt b rfl).1⟩
  have hlp : 0 < r.length := by omega
  clear ht hr hc
  generalize hR : ruL r o = RL at *
  clear hR
  generalize hL : r.length = L at *
  clear hL
  go_enter Tryd.func23, Tryd.ntmps23
  go_wp2_with fail
  refine RE.out.mono ?_
  rintro e w1 ⟨rfl, b1⟩
  obtain ⟨w2, rmk, o2, g2⟩ := run_make_full (P := Tryd.prog) w1 w.heap.size 22 35 i0 (.int .u64 0) 1 Tryd.underlying22 hi hz0 hz1 .i64 .i64 L (by rw [hz2]; omega) (by unfold maxLen; omega) b1.size
  rw [ZW.out] at o2
  have B2 : Hid (Below w.heap.size w w2) := b1.grown g2 b1.size (fun q hq => by cases hq)
  have O2 : Hid (WO w.heap.size (.slice (some ⟨w1.heap.size, 0, none⟩) L L) (List.replicate L 0#64) w2) := by
    show World.ownsRow _ _ _ _ _ _ _
    rw [List.length_replicate]; exact o2
  clear o2 g2 hi hz0 hz1 hz2 ZW b1 RE
  generalize (allR r (one o)).toNat = A at *
  generalize w1.heap.size = b at *
  go_wp2_with fail
  go_loopw [16] (fun i wr => ∃ (p : Nat) (O : List Bv), p ≤ L ∧ i = .int .i64 (p : Int) ∧ Fd r o p O ∧ WO w.heap.size (.slice (some ⟨b, 0, none⟩) L L) O wr ∧ Below w.heap.size w wr) (fun i _ => L - (intOf i).toNat)
  case atStart => exact ⟨0, _, Nat.zero_le _, rfl, F0.out, O2.out, B2.out⟩
  case round =>
    obtain ⟨p, O, hp, rfl, qt, qo, qb⟩ := hrel
    have QT := Lib.hid qt; have QO := Lib.hid qo; have QB := Lib.hid qb; clear qt qo qb
    rename World => wr
    by_cases hpl : p < L
    · have NX := Lib.hid (FN.out O p QT.out hpl)
      have S1 := Lib.hid (ST.out wr p QB.out hpl)
      have ul := Lib.hid (FL.out O p QT.out hp)
      have e1 := EE.out p
      have i2 : (p : Int) < (L : Int) := by omega
      have STO : Hid (∀ W, Below wr.heap.size wr W → W.frozen? ⟨b, p, none⟩ = false ∧ (∃ u, W.cell? ⟨b, p, none⟩ = some u) ∧
          WO w.heap.size (.slice (some ⟨b, 0, none⟩) L L) (O.set p (ruW r o p)) (W.setCell ⟨b, p, none⟩ (.int .u64 ((ruW r o p).toNat : Int))) ∧ Below w.heap.size w (W.setCell ⟨b, p, none⟩ (.int .u64 ((ruW r o p).toNat : Int)))) := fun W hW =>
        PU.out W b O p _ (own_later QO.out hW) ul.out hpl (QB.out.trans (hW.mono QB.out.size))
      generalize hx : ruW r o p = x at *
      have HX := Lib.hid hx; clear hx
      generalize (woW r o p).toNat = y at *
      go_wp2_with fail
      refine S1.out.mono ?_
      rintro e w4 ⟨rfl, b4⟩
      obtain ⟨fr, ⟨u, cu⟩, o5, b5⟩ := STO.out w4 b4
      have O5 := Lib.hid o5; have B5 := Lib.hid b5
      clear o5 b5 b4 STO
      go_wp2
      go_roundw
      case rel => exact ⟨p + 1, _, by omega, by go_num, NX.out, O5.out, B5.out⟩
      case measure => simp [intOf]; omega
    · obtain rfl : p = L := by omega
      have E := FA.out O QT.out
      subst E
      go_wp2
      go_ret
      exact ⟨_, rfl, QO.out, QB.out⟩

/-! check -/
/-- a slice that holds the numbers l, whatever they are -/
def ZIn (w : World) (v : Value) (l : List Int) : Prop :=
  ∃ a cap, v = .slice a l.length cap ∧ ∀ k, k < l.length → ∃ b off, a = some ⟨b, off, none⟩ ∧ w.cell? ⟨b, off + k, none⟩ = some (.int .i64 (l.getD k 0))
theorem range_bad {r : List Bv} {l : List Int} (h : ckR r ≠ 0) : rangeC r l = ckR r := by unfold rangeC; rw [if_pos h]
theorem range_out {r : List Bv} {l : List Int} (h : ckR r = 0) {k : Nat} (hk : k < l.length) (hx : l.getD k 0 < 0 ∨ (r.length : Int) ≤ l.getD k 0) : rangeC r l = 4 := by
  unfold rangeC
  rw [if_neg (by rw [h]; simp), if_neg]
  intro ha
  have := ha (l.getD k 0) (by rw [List.getD, List.getElem?_eq_getElem hk]; exact List.getElem_mem hk)
  omega
theorem range_ok {r : List Bv} {l : List Int} (h : ckR r = 0) (hx : ∀ k, k < l.length → 0 ≤ l.getD k 0 ∧ l.getD k 0 < (r.length : Int)) : rangeC r l = 0 := by
  unfold rangeC
  rw [if_neg (by rw [h]; simp), if_pos]
  intro n hn
  obtain ⟨k, hk, e⟩ := List.getElem_of_mem hn
  have := hx k hk
  rw [List.getD, List.getElem?_eq_getElem hk] at this
  rw [← e]; exact this
theorem range_zero {r : List Bv} {l : List Int} : rangeC r l = 0 ↔ RowsIn r ∧ ∀ n ∈ l, 0 ≤ n ∧ n < (r.length : Int) := by
  unfold rangeC
  constructor
  · intro h
    by_cases hc : ckR r = 0
    · rw [if_neg (by rw [hc]; simp)] at h
      refine ⟨ckR_zero hc, ?_⟩
      by_cases ha : ∀ n ∈ l, 0 ≤ n ∧ n < (r.length : Int)
      · exact ha
      · rw [if_neg ha] at h; cases h
    · rw [if_pos hc] at h; exact absurd h hc
  · rintro ⟨h1, h2⟩
    rw [if_neg (by rw [ckR_rows h1]; simp), if_pos h2]
set_option maxHeartbeats 4000000 in
theorem checkD_any {w : World} {v nv : Value} {r : List Bv} {l : List Int} (h : WIn w v r) (hn : ZIn w nv l) (hl : l.length ≤ 64) :
    Calls Tryd.prog 22 #[v, nv] w fun e w' => e = .returned (.int .i64 (rangeC r l)) ∧ w' = w := by
  have CK := Lib.hid (check_any h)
  have BAD : Hid (ckR r ≠ 0 → ckR r = rangeC r l) := fun h => (range_bad h).symm
  have OUT : Hid (ckR r = 0 → ∀ k, k < l.length → (l.getD k 0 < 0 ∨ (r.length : Int) ≤ l.getD k 0) → rangeC r l = 4) := fun h k hk hx => range_out h hk hx
  have GOOD : Hid (ckR r = 0 → (∀ k, k < l.length → 0 ≤ l.getD k 0 ∧ l.getD k 0 < (r.length : Int)) → rangeC r l = 0) := fun h hx => range_ok h hx
  have CZ : Hid (ckR r = 0 → r.length ≤ 64) := fun h => (ckR_zero h).len
  obtain ⟨a, c, rfl, _⟩ := h
  obtain ⟨na, nc, rfl, hc⟩ := hn
  have HC := Lib.hid hc; clear hc
  generalize rangeC r l = R at *
  generalize ckR r = C at *
  generalize hG : (fun k => l.getD k 0) = G at *
  have HG : Hid (∀ k, l.getD k 0 = G k) := fun k => by rw [← hG]
  clear hG
  have HC2 : Hid (∀ k, k < l.length → ∃ b off, na = some ⟨b, off, none⟩ ∧ w.cell? ⟨b, off + k, none⟩ = some (.int .i64 (G k))) := fun k hk => by rw [← HG.out k]; exact HC.out k hk
  have OUT2 : Hid (C = 0 → ∀ k, k < l.length → (G k < 0 ∨ (r.length : Int) ≤ G k) → R = 4) := fun h k hk => by rw [← HG.out k]; exact OUT.out h k hk
  have GOOD2 : Hid (C = 0 → (∀ k, k < l.length → 0 ≤ G k ∧ G k < (r.length : Int)) → R = 0) := fun h hx => GOOD.out h fun k hk => by rw [HG.out k]; exact hx k hk
  clear HC OUT GOOD HG
  generalize l.length = M at *
  generalize r.length = L at *
  go_enter Tryd.func22, Tryd.ntmps22
  go_wp2_with fail
  refine CK.out.mono ?_
  rintro e w1 ⟨rfl, rfl⟩
  by_cases hz : C = 0
  · have O2 := Lib.hid (OUT2.out hz)
    have G2 := Lib.hid (GOOD2.out hz)
    have hL := CZ.out hz
    subst hz
    clear OUT2 GOOD2 BAD CZ CK
    go_wp2_with fail
    go_loopw [15] (fun i wr => ∃ k : Nat, k ≤ M ∧ i = .int .i64 (k : Int) ∧ (∀ j, j < k → 0 ≤ G j ∧ G j < (L : Int)) ∧ wr = w1) (fun i _ => M - (intOf i).toNat)
    case atStart => exact ⟨0, Nat.zero_le _, rfl, fun j hj => absurd hj (Nat.not_lt_zero _), rfl⟩
    case round =>
      obtain ⟨k, hk, rfl, qa, rfl⟩ := hrel
      have QA := Lib.hid qa; clear qa
      by_cases hkl : k < M
      · obtain ⟨b, off, rfl, c0⟩ := HC2.out k hkl
        have OK1 := Lib.hid (O2.out k hkl)
        have i2 : (k : Int) < (M : Int) := by omega
        have NX : Hid (0 ≤ G k → G k < (L : Int) → ∀ j, j < k + 1 → 0 ≤ G j ∧ G j < (L : Int)) := fun h1 h2 j hj => by
          rcases Nat.lt_succ_iff_lt_or_eq.1 hj with h' | rfl
          · exact QA.out j h'
          · exact ⟨h1, h2⟩
        generalize G k = x at *
        by_cases h0 : x < 0
        · have E := Lib.hid (OK1.out (.inl h0))
          clear NX OK1
          go_wp2
          go_ret
          exact ⟨ret_c E.out.symm, rfl⟩
        · by_cases h1 : (L : Int) ≤ x
          · have E := Lib.hid (OK1.out (.inr h1))
            clear NX OK1
            go_wp2
            go_ret
            exact ⟨ret_c E.out.symm, rfl⟩
          · have N1 := Lib.hid (NX.out (by omega) (by omega))
            clear NX OK1
            go_wp2
            go_roundw
            case rel => exact ⟨k + 1, by omega, by go_num, N1.out, trivial⟩
            case measure => simp [intOf]; omega
      · obtain rfl : k = M := by omega
        have E := Lib.hid (G2.out QA.out)
        go_wp2
        go_ret
        exact ⟨ret_c E.out.symm, rfl⟩
  · have t1 := zero_ne hz
    have E := Lib.hid (BAD.out hz)
    clear hz OUT2 GOOD2 BAD CZ CK
    go_wp2
    go_ret
    exact ⟨ret_c E.out, rfl⟩
end Go.Proofs.YtjmomgmbmgdeoaaDoor
