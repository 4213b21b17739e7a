/-
  Package graph's checkNames, checkEdges, areNumbers and Check. No condition.
-/
import Derived.Test.YtpjcdfphllbonaaDoorGCk
namespace Go.Proofs.YtpjcdfphllbonaaDoor
set_option maxRecDepth 100000
set_option linter.unusedVariables false
open Go.ChangeShapes Go.WideShapes Go.ChangeAt Go.RowKit

set_option maxHeartbeats 4000000 in
theorem incE_any {w : World} {v : Value} {z : List Ed} (h : EIn w v z) :
    Calls Tryd.prog 58 #[v, .func (.func 59) #[] #[]] w fun e w' => (∃ b, e = .returned (.bool b) ∧ (b = true ↔ EdUp z)) ∧ Below w.heap.size w w' := by
  have hb := h.bound
  have UN : Hid ((∀ m, m + 1 < z.length → edLt (edAt z m) (edAt z (m + 1))) → EdUp z) := edUp_next
  have UA : Hid (∀ m, m + 1 < z.length → EdUp z → edLt (edAt z m) (edAt z (m + 1))) := fun m hm h => edUp_at h hm
  obtain ⟨a, cap, rfl, hc⟩ := ein_at h
  have HC := Lib.hid hc; clear hc h
  generalize z.length = L at *
  go_enter Tryd.func58, Tryd.ntmps58
  go_wp2_with fail
  go_loopw [5] (fun i wr => ∃ m : Nat, i = .int .i64 ((m + 1 : Nat) : Int) ∧ (m + 1 ≤ L ∨ m = 0) ∧ (∀ j, j < m → edLt (edAt z j) (edAt z (j + 1))) ∧ Below w.heap.size w wr) (fun i _ => L + 1 - (intOf i).toNat)
  case atStart => exact ⟨0, rfl, .inr rfl, fun j hj => absurd hj (Nat.not_lt_zero _), Below.refl _ _⟩
  case round =>
    obtain ⟨m, rfl, hm, ha, qb⟩ := hrel
    have HA := Lib.hid ha; have QB := Lib.hid qb; clear ha qb
    by_cases hlt : m + 1 < L
    · obtain ⟨b, off, rfl, c0, c1⟩ := HC.out wr QB.out m (by omega)
      obtain ⟨b', off', e, c2, c3⟩ := HC.out wr QB.out (m + 1) hlt
      injection e with e; injection e with e1 e2; subst e1 e2
      have UA1 := Lib.hid (UA.out m hlt)
      have SG := Lib.hid (cE_neg (x := edAt z m) (y := edAt z (m + 1)))
      have CA := Lib.hid (fun W => cmpE_any (edAt z m) (edAt z (m + 1)) W)
      have HX : Hid (edLt (edAt z m) (edAt z (m + 1)) → ∀ j, j < m + 1 → edLt (edAt z j) (edAt z (j + 1))) := fun h j hj => by
        rcases Nat.lt_succ_iff_lt_or_eq.1 hj with h' | rfl
        · exact HA.out j h'
        · exact h
      generalize edAt z m = x at *
      generalize edAt z (m + 1) = y at *
      generalize cE x y = c at *
      have SL : Hid (∀ W, Below wr.heap.size wr W → W.cell? ⟨b, off + m * 2, none⟩ = some (.int .i64 x.1) ∧ W.cell? ⟨b, off + m * 2 + 1, none⟩ = some (.int .i64 x.2) ∧ W.cell? ⟨b, off + (m + 1) * 2, none⟩ = some (.int .i64 y.1) ∧ W.cell? ⟨b, off + (m + 1) * 2 + 1, none⟩ = some (.int .i64 y.2)) := fun W hW => ⟨cell_later hW c0, cell_later hW c1, cell_later hW c2, cell_later hW c3⟩
      obtain ⟨x1, x2⟩ := x
      obtain ⟨y1, y2⟩ := y
      have i1 : (0 : Int) ≤ (m : Int) := by omega
      have i2 : (m : Int) < (L : Int) := by omega
      have i3 : (0 : Int) ≤ (m : Int) + 1 := by omega
      have i4 : (m : Int) + 1 < (L : Int) := by omega
      have i5 : IntKind.i64.wrap (m : Int) = (m : Int) := by rw [IntKind.wrap_i64]; omega
      by_cases hneg : c < 0
      · have LT := Lib.hid (SG.out.1 hneg)
        go_wp2_with fail
        go_region_held3 (fun w' => w'.cell? ⟨b, off + m * 2, none⟩ = some (.int .i64 x1) ∧ w'.cell? ⟨b, off + m * 2 + 1, none⟩ = some (.int .i64 x2) ∧ w'.cell? ⟨b, off + (m + 1) * 2, none⟩ = some (.int .i64 y1) ∧ w'.cell? ⟨b, off + (m + 1) * 2 + 1, none⟩ = some (.int .i64 y2)) (first | exact ⟨c0, c1, c2, c3⟩ | exact ⟨k0, k1, k2, k3⟩ | assumption | go_keep) (first
          | (go_at_call 59; refine (CA.out _).mono ?_; rintro e w4 ⟨rfl, b4⟩; have B4 : Hid (Below wr.heap.size wr w4) := (Below.refl _ _).drew.trans b4; obtain ⟨k0, k1, k2, k3⟩ := SL.out _ B4.out; clear b4))
        all_goals
          have B5 := Lib.hid (QB.out.trans (B4.out.mono QB.out.size))
          go_wp2
          go_roundw
          case rel => exact ⟨m + 1, by go_num, .inl (by omega), HX.out LT.out, B5.out⟩
          case measure => simp [intOf]; omega
      · have LT : Hid (¬ edLt (x1, x2) (y1, y2)) := Lib.hid fun h => hneg (SG.out.2 h)
        go_wp2_with fail
        go_region_held3 (fun w' => w'.cell? ⟨b, off + m * 2, none⟩ = some (.int .i64 x1) ∧ w'.cell? ⟨b, off + m * 2 + 1, none⟩ = some (.int .i64 x2) ∧ w'.cell? ⟨b, off + (m + 1) * 2, none⟩ = some (.int .i64 y1) ∧ w'.cell? ⟨b, off + (m + 1) * 2 + 1, none⟩ = some (.int .i64 y2)) (first | exact ⟨c0, c1, c2, c3⟩ | exact ⟨k0, k1, k2, k3⟩ | assumption | go_keep) (first
          | (go_at_call 59; refine (CA.out _).mono ?_; rintro e w4 ⟨rfl, b4⟩; have B4 : Hid (Below wr.heap.size wr w4) := (Below.refl _ _).drew.trans b4; obtain ⟨k0, k1, k2, k3⟩ := SL.out _ B4.out; clear b4))
        all_goals
          have B5 := Lib.hid (QB.out.trans (B4.out.mono QB.out.size))
          go_wp2
          go_ret
          exact ⟨⟨false, rfl, fun h => by (cases h), fun h => absurd (UA1.out h) LT.out⟩, B5.out⟩
    · go_wp2
      go_ret
      exact ⟨⟨true, rfl, fun _ => UN.out fun j hj => HA.out j (by omega), fun _ => rfl⟩, QB.out⟩
/-! checkNames -/
open Classical in
/-- the first fault of names -/
noncomputable def ckN (z : List Str) : Int := if 64 < z.length then 2 else if (∀ x ∈ z, good x = true) ∧ Up z then 0 else 3
theorem errOf_good {b : Bool} : errOf b = if b then 0 else 3 := by cases b <;> rfl
set_option maxHeartbeats 4000000 in
theorem checkNames_any {w : World} {v : Value} {z : List Str} (h : SIn w v z) :
    Calls Tryd.prog 40 #[v] w fun e w' => e = .returned (.int .i64 (ckN z)) ∧ Below w.heap.size w w' := by
  have IN := Lib.hid (fun W (hW : Below w.heap.size w W) => incS_any (h.later hW))
  have hb := h.bound
  have SM := Lib.hid h.small
  obtain ⟨a, cap, rfl, hc⟩ := sin_at h
  have HC := Lib.hid hc; clear hc h
  by_cases hL : 64 < z.length
  · have E : Hid (ckN z = 2) := Lib.hid (by unfold ckN; rw [if_pos hL])
    clear IN SM HC
    generalize z.length = L at *
    go_enter Tryd.func40, Tryd.ntmps40
    go_wp2
    go_ret
    exact ⟨by rw [E.out]; rfl, Below.refl _ _⟩
  have E3 : Hid (∀ x ∈ z, good x = false → ckN z = 3) := Lib.hid fun x hx hg => by
    unfold ckN; rw [if_neg hL, if_neg]; rintro ⟨h, _⟩; rw [h x hx] at hg; cases hg
  have E4 : Hid (¬ Up z → ckN z = 3) := Lib.hid fun hu => by
    unfold ckN; rw [if_neg hL, if_neg]; exact fun h => hu h.2
  have E0 : Hid ((∀ x ∈ z, good x = true) → Up z → ckN z = 0) := Lib.hid fun h hu => by
    unfold ckN; rw [if_neg hL, if_pos ⟨h, hu⟩]
  have AL : Hid ((∀ j, j < z.length → good (z.getD j []) = true) → ∀ x ∈ z, good x = true) := Lib.hid fun h x hx => by
    obtain ⟨t, ht, e⟩ := mem_getD hx
    rw [← e]; exact h t ht
  have GM : Hid (∀ j, j < z.length → z.getD j [] ∈ z) := Lib.hid fun j hj => by
    rw [List.getD, List.getElem?_eq_getElem hj]; exact List.getElem_mem hj
  have HL : z.length ≤ 64 := by omega
  clear hb hL
  generalize z.length = L at *
  go_enter Tryd.func40, Tryd.ntmps40
  go_wp2_with fail
  go_loopw [11] (fun i wr => ∃ k : Nat, k ≤ L ∧ i = .int .i64 (k : Int) ∧ (∀ j, j < k → good (z.getD j []) = true) ∧ Below w.heap.size w wr) (fun i _ => L - (intOf i).toNat)
  case atStart => exact ⟨0, Nat.zero_le _, rfl, fun j hj => absurd hj (Nat.not_lt_zero _), Below.refl _ _⟩
  case round =>
    obtain ⟨k, hk, rfl, ha, qb⟩ := hrel
    have HA := Lib.hid ha; have QB := Lib.hid qb; clear ha qb
    by_cases hkl : k < L
    · obtain ⟨b, off, rfl, c0⟩ := HC.out wr QB.out k hkl
      have G := Lib.hid (GM.out k hkl)
      have CK := Lib.hid (fun W => check_any (bs (z.getD k [])) W (by rw [bs_size]; exact SM.out _ G.out))
      have HX : Hid (good (z.getD k []) = true → ∀ j, j < k + 1 → good (z.getD j []) = true) := fun h j hj => by
        rcases Nat.lt_succ_iff_lt_or_eq.1 hj with h' | rfl
        · exact HA.out j h'
        · exact h
      have EX := Lib.hid (E3.out _ G.out)
      have CK2 : Hid (∀ W, Calls Tryd.prog 55 #[.string (bs (z.getD k []))] W fun e w' => e = .returned (.int .i64 (errOf (good (z.getD k [])))) ∧ w' = W) := CK.out
      clear CK
      generalize z.getD k [] = x at *
      generalize good x = q at *
      go_wp2_with fail
      refine (CK2.out _).mono ?_
      rintro e w2 ⟨rfl, rfl⟩
      cases q
      · rw [show errOf false = 3 from rfl]
        have EE : Hid (ckN z = 3) := Lib.hid (EX.out rfl)
        clear EX HX
        go_wp2
        go_ret
        exact ⟨by rw [EE.out]; rfl, QB.out⟩
      · rw [show errOf true = 0 from rfl]
        have HY := Lib.hid (HX.out rfl)
        clear EX HX
        go_wp2
        go_roundw
        case rel => exact ⟨k + 1, by omega, by go_num, HY.out, QB.out⟩
        case measure => simp [intOf]; omega
    · obtain rfl : k = L := by omega
      go_wp2_with fail
      refine (IN.out _ QB.out).mono ?_
      rintro e w2 ⟨⟨q, rfl, hq⟩, b2⟩
      have B2 := Lib.hid (QB.out.trans (b2.mono QB.out.size))
      have HQ := Lib.hid hq
      clear b2 hq
      cases q
      · have NU : Hid (¬ Up z) := Lib.hid fun h => by cases HQ.out.2 h
        clear HQ
        go_wp2
        go_ret
        exact ⟨by rw [E4.out NU.out]; rfl, B2.out⟩
      · have UP := Lib.hid (HQ.out.1 rfl)
        clear HQ
        go_wp2
        go_ret
        exact ⟨by rw [E0.out (AL.out HA.out) UP.out]; rfl, B2.out⟩

/-! checkEdges -/
open Classical in
/-- the first fault of edges -/
noncomputable def ckE (n : Nat) (z : List Ed) : Int := if EdIn n z then (if EdUp z then 0 else 3) else 4
def edOk (n : Nat) (x : Ed) : Prop := 0 ≤ x.1 ∧ x.1 < (n : Int) ∧ 0 ≤ x.2 ∧ x.2 < (n : Int)
theorem edIn_at {n : Nat} {z : List Ed} (h : ∀ j, j < z.length → edOk n (edAt z j)) : EdIn n z := fun x hx => by
  obtain ⟨j, hj, rfl⟩ := List.mem_iff_getElem.1 hx
  have := h j hj
  unfold edAt at this
  rw [List.getD, List.getElem?_eq_getElem hj] at this
  exact this
set_option maxHeartbeats 4000000 in
theorem checkEdges_any {w : World} {v : Value} {z : List Ed} (n : Nat) (h : EIn w v z) :
    Calls Tryd.prog 41 #[v, .int .i64 (n : Int)] w fun e w' => e = .returned (.int .i64 (ckE n z)) ∧ Below w.heap.size w w' := by
  have IN := Lib.hid (fun W (hW : Below w.heap.size w W) => incE_any (h.later hW))
  have hb := h.bound
  obtain ⟨a, cap, rfl, hc⟩ := ein_at h
  have HC := Lib.hid hc; clear hc h
  have E4 : Hid (∀ k, k < z.length → ¬ edOk n (edAt z k) → ckE n z = 4) := Lib.hid fun k hk hx => by
    unfold ckE; rw [if_neg]; exact fun h => hx (h _ (edAt_mem hk))
  have E3 : Hid ((∀ j, j < z.length → edOk n (edAt z j)) → ¬ EdUp z → ckE n z = 3) := Lib.hid fun h hu => by
    unfold ckE; rw [if_pos (edIn_at h), if_neg hu]
  have E0 : Hid ((∀ j, j < z.length → edOk n (edAt z j)) → EdUp z → ckE n z = 0) := Lib.hid fun h hu => by
    unfold ckE; rw [if_pos (edIn_at h), if_pos hu]
  generalize z.length = L at *
  go_enter Tryd.func41, Tryd.ntmps41
  go_wp2_with fail
  go_loopw [9] (fun i wr => ∃ k : Nat, k ≤ L ∧ i = .int .i64 (k : Int) ∧ (∀ j, j < k → edOk n (edAt z j)) ∧ Below w.heap.size w wr) (fun i _ => L - (intOf i).toNat)
  case atStart => exact ⟨0, Nat.zero_le _, rfl, fun j hj => absurd hj (Nat.not_lt_zero _), Below.refl _ _⟩
  case round =>
    obtain ⟨k, hk, rfl, ha, qb⟩ := hrel
    have HA := Lib.hid ha; have QB := Lib.hid qb; clear ha qb
    by_cases hkl : k < L
    · obtain ⟨b, off, rfl, c0, c1⟩ := HC.out wr QB.out k hkl
      have HX : Hid (edOk n (edAt z k) → ∀ j, j < k + 1 → edOk n (edAt z j)) := fun h j hj => by
        rcases Nat.lt_succ_iff_lt_or_eq.1 hj with h' | rfl
        · exact HA.out j h'
        · exact h
      have EX := Lib.hid (E4.out k hkl)
      have OK : Hid (edOk n (edAt z k) ↔ 0 ≤ (edAt z k).1 ∧ (edAt z k).1 < (n : Int) ∧ 0 ≤ (edAt z k).2 ∧ (edAt z k).2 < (n : Int)) := Iff.rfl
      generalize edOk n (edAt z k) = P at *
      generalize (edAt z k).1 = x at *
      generalize (edAt z k).2 = y at *
      have WA : Hid (Below w.heap.size w (wr.alloc (.cells #[.int .i64 x, .int .i64 y] 49))) := QB.out.alloc QB.out.size _
      by_cases h0 : min x y < 0
      · have NP : Hid (¬ P) := Lib.hid fun h => by have := OK.out.1 h; omega
        clear OK
        go_wp2
        go_ret
        exact ⟨by rw [EX.out NP.out]; rfl, WA.out⟩
      · by_cases h1 : (n : Int) ≤ max x y
        · have NP : Hid (¬ P) := Lib.hid fun h => by have := OK.out.1 h; omega
          clear OK
          go_wp2
          go_ret
          exact ⟨by rw [EX.out NP.out]; rfl, WA.out⟩
        · have YP : Hid P := Lib.hid (OK.out.2 (by omega))
          clear OK
          go_wp2
          go_roundw
          case rel => exact ⟨k + 1, by omega, by go_num, HX.out YP.out, WA.out⟩
          case measure => simp [intOf]; omega
    · obtain rfl : k = L := by omega
      go_wp2_with fail
      refine (IN.out _ QB.out).mono ?_
      rintro e w2 ⟨⟨q, rfl, hq⟩, b2⟩
      have B2 := Lib.hid (QB.out.trans (b2.mono QB.out.size))
      have HQ := Lib.hid hq
      clear b2 hq
      cases q
      · have NU : Hid (¬ EdUp z) := Lib.hid fun h => by cases HQ.out.2 h
        clear HQ
        go_wp2
        go_ret
        exact ⟨by rw [E3.out HA.out NU.out]; rfl, B2.out⟩
      · have UP := Lib.hid (HQ.out.1 rfl)
        clear HQ
        go_wp2
        go_ret
        exact ⟨by rw [E0.out HA.out UP.out]; rfl, B2.out⟩

/-! areNumbers -/
theorem belowT_any (n : Nat) (w : World) (hn : n ≤ 64) :
    Calls Tryd.prog 24 #[.int .i64 (n : Int)] w fun e w' => e = .returned (.tuple #[.int .u64 (low n).toNat, .int .i64 0]) ∧ w' = w := by
  have h1 : ¬ ((n : Int) < 0) := by omega
  have h2 : ¬ ((64 : Int) < (n : Int)) := by omega
  have B := Lib.hid (fun W => below_any (n : Int) W)
  rw [clamp_nat n hn] at B
  clear hn
  go_enter Tryd.func24, Tryd.ntmps24
  go_wp2_with fail
  refine (B.out _).mono ?_
  rintro e w' ⟨rfl, rfl⟩
  go_wp2
  go_ret2
  exact ⟨rfl, rfl⟩
theorem areNumbers_any (s : Bv) (n : Nat) (w : World) (hn : n ≤ 64) :
    Calls Tryd.prog 35 #[.int .u64 s.toNat, .int .i64 (n : Int)] w fun e w' => (∃ b, e = .returned (.bool b) ∧ (b = true ↔ SetIn n s)) ∧ w' = w := by
  have B := Lib.hid (fun W => belowT_any n W hn)
  have hb : (bits .andNot .u64 (s.toNat : Int) ((low n).toNat : Int) == 0) = decide (s &&& ~~~low n = 0#64) := by
    rw [bv_andNot, Bool.eq_iff_iff, bv_zero_iff, decide_eq_true_iff]
  have HQ : Hid (decide (s &&& ~~~low n = 0#64) = true ↔ SetIn n s) := Lib.hid (by rw [setIn_iff, decide_eq_true_iff])
  generalize decide (s &&& ~~~low n = 0#64) = q at *
  clear hn
  go_enter Tryd.func35, Tryd.ntmps35
  go_wp2_with fail
  refine (B.out _).mono ?_
  rintro e w' ⟨rfl, rfl⟩
  go_wp2
  go_ret
  exact ⟨⟨q, rfl, HQ.out⟩, rfl⟩
end Go.Proofs.YtpjcdfphllbonaaDoor
