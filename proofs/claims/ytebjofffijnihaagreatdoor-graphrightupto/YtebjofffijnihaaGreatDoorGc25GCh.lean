/-
  Package graph's checkNames, checkEdges, areNumbers and Check. No condition.
  Package graph's Check, rowsOf, Rows and Number. No condition.
  slices.Index and slices.Contains at edges; the law's own look at package graph (graphs). No condition.
-/
import Derived.Test.YtebjofffijnihaaGreatDoorGc24GPt
import Derived.Laws.OwnMore
import Derived.Laws.StructEq
import Derived.Laws.Rows
import Derived.Laws.ResultCell
namespace Go.Proofs.YtebjofffijnihaaGreatDoor
set_option maxRecDepth 100000
set_option linter.unusedVariables false
open Go.ChangeShapes Go.WideShapes Go.ChangeAt Go.RowKit

set_option maxHeartbeats 4000000 in
theorem incE_any {w : World} {v : Value} {z : List Ed} (h : EIn w v z) :
    Calls Tryz.prog 43 #[v, .func (.func 44) #[] #[]] w fun e w' => (∃ b, e = .returned (.bool b) ∧ (b = true ↔ EdUp z)) ∧ Below w.heap.size w w' := by
  have hb := h.bound
  have UN : Hid ((∀ m, m + 1 < z.length → edLt (edAt z m) (edAt z (m + 1))) → EdUp z) := edUp_next
  have UA : Hid (∀ m, m + 1 < z.length → EdUp z → edLt (edAt z m) (edAt z (m + 1))) := fun m hm h => edUp_at h hm
  obtain ⟨a, cap, rfl, hc⟩ := ein_at h
  have HC := Lib.hid hc; clear hc h
  generalize z.length = L at *
  go_enter Tryz.func43, Tryz.ntmps43
  go_wp2_with fail
  go_loopw [5] (fun i wr => ∃ m : Nat, i = .int .i64 ((m + 1 : Nat) : Int) ∧ (m + 1 ≤ L ∨ m = 0) ∧ (∀ j, j < m → edLt (edAt z j) (edAt z (j + 1))) ∧ Below w.heap.size w wr) (fun i _ => L + 1 - (intOf i).toNat)
  case atStart => exact ⟨0, rfl, .inr rfl, fun j hj => absurd hj (Nat.not_lt_zero _), Below.refl _ _⟩
  case round =>
    obtain ⟨m, rfl, hm, ha, qb⟩ := hrel
    have HA := Lib.hid ha; have QB := Lib.hid qb; clear ha qb
    by_cases hlt : m + 1 < L
    · obtain ⟨b, off, rfl, c0, c1⟩ := HC.out wr QB.out m (by omega)
      obtain ⟨b', off', e, c2, c3⟩ := HC.out wr QB.out (m + 1) hlt
      injection e with e; injection e with e1 e2; subst e1 e2
      have UA1 := Lib.hid (UA.out m hlt)
      have SG := Lib.hid (cE_neg (x := edAt z m) (y := edAt z (m + 1)))
      have CA := Lib.hid (fun W => cmpE_any (edAt z m) (edAt z (m + 1)) W)
      have HX : Hid (edLt (edAt z m) (edAt z (m + 1)) → ∀ j, j < m + 1 → edLt (edAt z j) (edAt z (j + 1))) := fun h j hj => by
        rcases Nat.lt_succ_iff_lt_or_eq.1 hj with h' | rfl
        · exact HA.out j h'
        · exact h
      generalize edAt z m = x at *
      generalize edAt z (m + 1) = y at *
      generalize cE x y = c at *
      have SL : Hid (∀ W, Below wr.heap.size wr W → W.cell? ⟨b, off + m * 2, none⟩ = some (.int .i64 x.1) ∧ W.cell? ⟨b, off + m * 2 + 1, none⟩ = some (.int .i64 x.2) ∧ W.cell? ⟨b, off + (m + 1) * 2, none⟩ = some (.int .i64 y.1) ∧ W.cell? ⟨b, off + (m + 1) * 2 + 1, none⟩ = some (.int .i64 y.2)) := fun W hW => ⟨cell_later hW c0, cell_later hW c1, cell_later hW c2, cell_later hW c3⟩
      obtain ⟨x1, x2⟩ := x
      obtain ⟨y1, y2⟩ := y
      have i1 : (0 : Int) ≤ (m : Int) := by omega
      have i2 : (m : Int) < (L : Int) := by omega
      have i3 : (0 : Int) ≤ (m : Int) + 1 := by omega
      have i4 : (m : Int) + 1 < (L : Int) := by omega
      have i5 : IntKind.i64.wrap (m : Int) = (m : Int) := by rw [IntKind.wrap_i64]; omega
      by_cases hneg : c < 0
      · have LT := Lib.hid (SG.out.1 hneg)
        go_wp2_with fail
        go_region_held3 (fun w' => w'.cell? ⟨b, off + m * 2, none⟩ = some (.int .i64 x1) ∧ w'.cell? ⟨b, off + m * 2 + 1, none⟩ = some (.int .i64 x2) ∧ w'.cell? ⟨b, off + (m + 1) * 2, none⟩ = some (.int .i64 y1) ∧ w'.cell? ⟨b, off + (m + 1) * 2 + 1, none⟩ = some (.int .i64 y2)) (first | exact ⟨c0, c1, c2, c3⟩ | exact ⟨k0, k1, k2, k3⟩ | assumption | go_keep) (first
          | (go_at_call 44; refine (CA.out _).mono ?_; rintro e w4 ⟨rfl, b4⟩; have B4 : Hid (Below wr.heap.size wr w4) := (Below.refl _ _).drew.trans b4; obtain ⟨k0, k1, k2, k3⟩ := SL.out _ B4.out; clear b4))
        all_goals
          have B5 := Lib.hid (QB.out.trans (B4.out.mono QB.out.size))
          go_wp2
          go_roundw
          case rel => exact ⟨m + 1, by go_num, .inl (by omega), HX.out LT.out, B5.out⟩
          case measure => simp [intOf]; omega
      · have LT : Hid (¬ edLt (x1, x2) (y1, y2)) := Lib.hid fun h => hneg (SG.out.2 h)
        go_wp2_with fail
        go_region_held3 (fun w' => w'.cell? ⟨b, off + m * 2, none⟩ = some (.int .i64 x1) ∧ w'.cell? ⟨b, off + m * 2 + 1, none⟩ = some (.int .i64 x2) ∧ w'.cell? ⟨b, off + (m + 1) * 2, none⟩ = some (.int .i64 y1) ∧ w'.cell? ⟨b, off + (m + 1) * 2 + 1, none⟩ = some (.int .i64 y2)) (first | exact ⟨c0, c1, c2, c3⟩ | exact ⟨k0, k1, k2, k3⟩ | assumption | go_keep) (first
          | (go_at_call 44; refine (CA.out _).mono ?_; rintro e w4 ⟨rfl, b4⟩; have B4 : Hid (Below wr.heap.size wr w4) := (Below.refl _ _).drew.trans b4; obtain ⟨k0, k1, k2, k3⟩ := SL.out _ B4.out; clear b4))
        all_goals
          have B5 := Lib.hid (QB.out.trans (B4.out.mono QB.out.size))
          go_wp2
          go_ret
          exact ⟨⟨false, rfl, fun h => by (cases h), fun h => absurd (UA1.out h) LT.out⟩, B5.out⟩
    · go_wp2
      go_ret
      exact ⟨⟨true, rfl, fun _ => UN.out fun j hj => HA.out j (by omega), fun _ => rfl⟩, QB.out⟩
/-! checkNames -/
open Classical in
/-- the first fault of names -/
noncomputable def ckN (z : List Str) : Int := if 64 < z.length then 2 else if (∀ x ∈ z, good x = true) ∧ Up z then 0 else 3
theorem errOf_good {b : Bool} : errOf b = if b then 0 else 3 := by cases b <;> rfl
set_option maxHeartbeats 4000000 in
theorem checkNames_any {w : World} {v : Value} {z : List Str} (h : SIn w v z) :
    Calls Tryz.prog 23 #[v] w fun e w' => e = .returned (.int .i64 (ckN z)) ∧ Below w.heap.size w w' := by
  have IN := Lib.hid (fun W (hW : Below w.heap.size w W) => incS_any (h.later hW))
  have hb := h.bound
  have SM := Lib.hid h.small
  obtain ⟨a, cap, rfl, hc⟩ := sin_at h
  have HC := Lib.hid hc; clear hc h
  by_cases hL : 64 < z.length
  · have E : Hid (ckN z = 2) := Lib.hid (by unfold ckN; rw [if_pos hL])
    clear IN SM HC
    generalize z.length = L at *
    go_enter Tryz.func23, Tryz.ntmps23
    go_wp2
    go_ret
    exact ⟨by rw [E.out]; rfl, Below.refl _ _⟩
  have E3 : Hid (∀ x ∈ z, good x = false → ckN z = 3) := Lib.hid fun x hx hg => by
    unfold ckN; rw [if_neg hL, if_neg]; rintro ⟨h, _⟩; rw [h x hx] at hg; cases hg
  have E4 : Hid (¬ Up z → ckN z = 3) := Lib.hid fun hu => by
    unfold ckN; rw [if_neg hL, if_neg]; exact fun h => hu h.2
  have E0 : Hid ((∀ x ∈ z, good x = true) → Up z → ckN z = 0) := Lib.hid fun h hu => by
    unfold ckN; rw [if_neg hL, if_pos ⟨h, hu⟩]
  have AL : Hid ((∀ j, j < z.length → good (z.getD j []) = true) → ∀ x ∈ z, good x = true) := Lib.hid fun h x hx => by
    obtain ⟨t, ht, e⟩ := mem_getD hx
    rw [← e]; exact h t ht
  have GM : Hid (∀ j, j < z.length → z.getD j [] ∈ z) := Lib.hid fun j hj => by
    rw [List.getD, List.getElem?_eq_getElem hj]; exact List.getElem_mem hj
  have HL : z.length ≤ 64 := by omega
  clear hb hL
  generalize z.length = L at *
  go_enter Tryz.func23, Tryz.ntmps23
  go_wp2_with fail
  go_loopw [11] (fun i wr => ∃ k : Nat, k ≤ L ∧ i = .int .i64 (k : Int) ∧ (∀ j, j < k → good (z.getD j []) = true) ∧ Below w.heap.size w wr) (fun i _ => L - (intOf i).toNat)
  case atStart => exact ⟨0, Nat.zero_le _, rfl, fun j hj => absurd hj (Nat.not_lt_zero _), Below.refl _ _⟩
  case round =>
    obtain ⟨k, hk, rfl, ha, qb⟩ := hrel
    have HA := Lib.hid ha; have QB := Lib.hid qb; clear ha qb
    by_cases hkl : k < L
    · obtain ⟨b, off, rfl, c0⟩ := HC.out wr QB.out k hkl
      have G := Lib.hid (GM.out k hkl)
      have CK := Lib.hid (fun W => check_any (bs (z.getD k [])) W (by rw [bs_size]; exact SM.out _ G.out))
      have HX : Hid (good (z.getD k []) = true → ∀ j, j < k + 1 → good (z.getD j []) = true) := fun h j hj => by
        rcases Nat.lt_succ_iff_lt_or_eq.1 hj with h' | rfl
        · exact HA.out j h'
        · exact h
      have EX := Lib.hid (E3.out _ G.out)
      have CK2 : Hid (∀ W, Calls Tryz.prog 40 #[.string (bs (z.getD k []))] W fun e w' => e = .returned (.int .i64 (errOf (good (z.getD k [])))) ∧ w' = W) := CK.out
      clear CK
      generalize z.getD k [] = x at *
      generalize good x = q at *
      go_wp2_with fail
      refine (CK2.out _).mono ?_
      rintro e w2 ⟨rfl, rfl⟩
      cases q
      · rw [show errOf false = 3 from rfl]
        have EE : Hid (ckN z = 3) := Lib.hid (EX.out rfl)
        clear EX HX
        go_wp2
        go_ret
        exact ⟨by rw [EE.out]; rfl, QB.out⟩
      · rw [show errOf true = 0 from rfl]
        have HY := Lib.hid (HX.out rfl)
        clear EX HX
        go_wp2
        go_roundw
        case rel => exact ⟨k + 1, by omega, by go_num, HY.out, QB.out⟩
        case measure => simp [intOf]; omega
    · obtain rfl : k = L := by omega
      go_wp2_with fail
      refine (IN.out _ QB.out).mono ?_
      rintro e w2 ⟨⟨q, rfl, hq⟩, b2⟩
      have B2 := Lib.hid (QB.out.trans (b2.mono QB.out.size))
      have HQ := Lib.hid hq
      clear b2 hq
      cases q
      · have NU : Hid (¬ Up z) := Lib.hid fun h => by cases HQ.out.2 h
        clear HQ
        go_wp2
        go_ret
        exact ⟨by rw [E4.out NU.out]; rfl, B2.out⟩
      · have UP := Lib.hid (HQ.out.1 rfl)
        clear HQ
        go_wp2
        go_ret
        exact ⟨by rw [E0.out (AL.out HA.out) UP.out]; rfl, B2.out⟩

/-! checkEdges -/
open Classical in
/-- the first fault of edges -/
noncomputable def ckE (n : Nat) (z : List Ed) : Int := if EdIn n z then (if EdUp z then 0 else 3) else 4
def edOk (n : Nat) (x : Ed) : Prop := 0 ≤ x.1 ∧ x.1 < (n : Int) ∧ 0 ≤ x.2 ∧ x.2 < (n : Int)
theorem edIn_at {n : Nat} {z : List Ed} (h : ∀ j, j < z.length → edOk n (edAt z j)) : EdIn n z := fun x hx => by
  obtain ⟨j, hj, rfl⟩ := List.mem_iff_getElem.1 hx
  have := h j hj
  unfold edAt at this
  rw [List.getD, List.getElem?_eq_getElem hj] at this
  exact this
set_option maxHeartbeats 4000000 in
theorem checkEdges_any {w : World} {v : Value} {z : List Ed} (n : Nat) (h : EIn w v z) :
    Calls Tryz.prog 24 #[v, .int .i64 (n : Int)] w fun e w' => e = .returned (.int .i64 (ckE n z)) ∧ Below w.heap.size w w' := by
  have IN := Lib.hid (fun W (hW : Below w.heap.size w W) => incE_any (h.later hW))
  have hb := h.bound
  obtain ⟨a, cap, rfl, hc⟩ := ein_at h
  have HC := Lib.hid hc; clear hc h
  have E4 : Hid (∀ k, k < z.length → ¬ edOk n (edAt z k) → ckE n z = 4) := Lib.hid fun k hk hx => by
    unfold ckE; rw [if_neg]; exact fun h => hx (h _ (edAt_mem hk))
  have E3 : Hid ((∀ j, j < z.length → edOk n (edAt z j)) → ¬ EdUp z → ckE n z = 3) := Lib.hid fun h hu => by
    unfold ckE; rw [if_pos (edIn_at h), if_neg hu]
  have E0 : Hid ((∀ j, j < z.length → edOk n (edAt z j)) → EdUp z → ckE n z = 0) := Lib.hid fun h hu => by
    unfold ckE; rw [if_pos (edIn_at h), if_pos hu]
  generalize z.length = L at *
  go_enter Tryz.func24, Tryz.ntmps24
  go_wp2_with fail
  go_loopw [9] (fun i wr => ∃ k : Nat, k ≤ L ∧ i = .int .i64 (k : Int) ∧ (∀ j, j < k → edOk n (edAt z j)) ∧ Below w.heap.size w wr) (fun i _ => L - (intOf i).toNat)
  case atStart => exact ⟨0, Nat.zero_le _, rfl, fun j hj => absurd hj (Nat.not_lt_zero _), Below.refl _ _⟩
  case round =>
    obtain ⟨k, hk, rfl, ha, qb⟩ := hrel
    have HA := Lib.hid ha; have QB := Lib.hid qb; clear ha qb
    by_cases hkl : k < L
    · obtain ⟨b, off, rfl, c0, c1⟩ := HC.out wr QB.out k hkl
      have HX : Hid (edOk n (edAt z k) → ∀ j, j < k + 1 → edOk n (edAt z j)) := fun h j hj => by
        rcases Nat.lt_succ_iff_lt_or_eq.1 hj with h' | rfl
        · exact HA.out j h'
        · exact h
      have EX := Lib.hid (E4.out k hkl)
      have OK : Hid (edOk n (edAt z k) ↔ 0 ≤ (edAt z k).1 ∧ (edAt z k).1 < (n : Int) ∧ 0 ≤ (edAt z k).2 ∧ (edAt z k).2 < (n : Int)) := Iff.rfl
      generalize edOk n (edAt z k) = P at *
      generalize (edAt z k).1 = x at *
      generalize (edAt z k).2 = y at *
      have WA : Hid (Below w.heap.size w (wr.alloc (.cells #[.int .i64 x, .int .i64 y] 38))) := QB.out.alloc QB.out.size _
      by_cases h0 : min x y < 0
      · have NP : Hid (¬ P) := Lib.hid fun h => by have := OK.out.1 h; omega
        clear OK
        go_wp2
        go_ret
        exact ⟨by rw [EX.out NP.out]; rfl, WA.out⟩
      · by_cases h1 : (n : Int) ≤ max x y
        · have NP : Hid (¬ P) := Lib.hid fun h => by have := OK.out.1 h; omega
          clear OK
          go_wp2
          go_ret
          exact ⟨by rw [EX.out NP.out]; rfl, WA.out⟩
        · have YP : Hid P := Lib.hid (OK.out.2 (by omega))
          clear OK
          go_wp2
          go_roundw
          case rel => exact ⟨k + 1, by omega, by go_num, HX.out YP.out, WA.out⟩
          case measure => simp [intOf]; omega
    · obtain rfl : k = L := by omega
      go_wp2_with fail
      refine (IN.out _ QB.out).mono ?_
      rintro e w2 ⟨⟨q, rfl, hq⟩, b2⟩
      have B2 := Lib.hid (QB.out.trans (b2.mono QB.out.size))
      have HQ := Lib.hid hq
      clear b2 hq
      cases q
      · have NU : Hid (¬ EdUp z) := Lib.hid fun h => by cases HQ.out.2 h
        clear HQ
        go_wp2
        go_ret
        exact ⟨by rw [E3.out HA.out NU.out]; rfl, B2.out⟩
      · have UP := Lib.hid (HQ.out.1 rfl)
        clear HQ
        go_wp2
        go_ret
        exact ⟨by rw [E0.out HA.out UP.out]; rfl, B2.out⟩

/-! areNumbers -/
theorem belowT_any (n : Nat) (w : World) (hn : n ≤ 64) :
    Calls Tryz.prog 45 #[.int .i64 (n : Int)] w fun e w' => e = .returned (.tuple #[.int .u64 (low n).toNat, .int .i64 0]) ∧ w' = w := by
  have h1 : ¬ ((n : Int) < 0) := by omega
  have h2 : ¬ ((64 : Int) < (n : Int)) := by omega
  have B := Lib.hid (fun W => below_any (n : Int) W)
  rw [clamp_nat n hn] at B
  clear hn
  go_enter Tryz.func45, Tryz.ntmps45
  go_wp2_with fail
  refine (B.out _).mono ?_
  rintro e w' ⟨rfl, rfl⟩
  go_wp2
  go_ret2
  exact ⟨rfl, rfl⟩
theorem areNumbers_any (s : Bv) (n : Nat) (w : World) (hn : n ≤ 64) :
    Calls Tryz.prog 25 #[.int .u64 s.toNat, .int .i64 (n : Int)] w fun e w' => (∃ b, e = .returned (.bool b) ∧ (b = true ↔ SetIn n s)) ∧ w' = w := by
  have B := Lib.hid (fun W => belowT_any n W hn)
  have hb : (bits .andNot .u64 (s.toNat : Int) ((low n).toNat : Int) == 0) = decide (s &&& ~~~low n = 0#64) := by
    rw [bv_andNot, Bool.eq_iff_iff, bv_zero_iff, decide_eq_true_iff]
  have HQ : Hid (decide (s &&& ~~~low n = 0#64) = true ↔ SetIn n s) := Lib.hid (by rw [setIn_iff, decide_eq_true_iff])
  generalize decide (s &&& ~~~low n = 0#64) = q at *
  clear hn
  go_enter Tryz.func25, Tryz.ntmps25
  go_wp2_with fail
  refine (B.out _).mono ?_
  rintro e w' ⟨rfl, rfl⟩
  go_wp2
  go_ret
  exact ⟨⟨q, rfl, HQ.out⟩, rfl⟩
end Go.Proofs.YtebjofffijnihaaGreatDoor
namespace Go.Proofs.YtebjofffijnihaaGreatDoor
set_option maxRecDepth 100000
set_option linter.unusedVariables false
open Go.ChangeShapes Go.WideShapes Go.ChangeAt Go.RowKit

open Classical in
/-- the first fault of a graph -/
noncomputable def ckG (g : Gr) : Int := if ckN g.ns ≠ 0 then ckN g.ns else if ckE g.ns.length g.es ≠ 0 then ckE g.ns.length g.es else if SetIn g.ns.length (g.ph ||| g.md) then 0 else 4
theorem ckN_zero {z : List Str} (h : ckN z = 0) : z.length ≤ 64 ∧ (∀ x ∈ z, good x = true) ∧ Up z := by
  unfold ckN at h
  split at h
  · cases h
  · split at h
    · rename_i h1 h2; exact ⟨by omega, h2⟩
    · cases h
theorem ckE_zero {n : Nat} {z : List Ed} (h : ckE n z = 0) : EdIn n z ∧ EdUp z := by
  unfold ckE at h
  split at h
  · split at h
    · rename_i h1 h2; exact ⟨h1, h2⟩
    · cases h
  · cases h
theorem ckG_zero {g : Gr} (h : ckG g = 0) : Valid g := by
  unfold ckG at h
  split at h
  · rename_i h1; exact absurd h h1
  · rename_i h1
    split at h
    · rename_i h2; exact absurd h h2
    · rename_i h2
      split at h
      · rename_i h3
        obtain ⟨a, b, c⟩ := ckN_zero (Decidable.not_not.1 h1)
        obtain ⟨d, e⟩ := ckE_zero (Decidable.not_not.1 h2)
        exact ⟨a, b, c, d, e, h3⟩
      · cases h
theorem ckG_valid {g : Gr} (h : Valid g) : ckG g = 0 := by
  have h1 : ckN g.ns = 0 := by
    have := h.len
    unfold ckN; rw [if_neg (by omega), if_pos ⟨h.all, h.up⟩]
  have h2 : ckE g.ns.length g.es = 0 := by unfold ckE; rw [if_pos h.ein, if_pos h.eup]
  unfold ckG
  rw [if_neg (by rw [h1]; simp), if_neg (by rw [h2]; simp), if_pos h.sin]
theorem SIn.shape2 {w : World} {v : Value} {z : List Str} (h : SIn w v z) : ∃ a c, v = .slice a z.length c := by obtain ⟨a, c, h, _⟩ := h; exact ⟨a, c, h⟩
theorem EIn.shape2 {w : World} {v : Value} {z : List Ed} (h : EIn w v z) : ∃ a c, v = .slice a z.length c := by obtain ⟨a, c, h, _⟩ := h; exact ⟨a, c, h⟩
/-- the four cells of a graph in a block of its own -/
def GBlk (k : Nat) (nv ev : Value) (g : Gr) (w : World) : Prop := Blk k #[nv, ev, .int .u64 (g.ph.toNat : Int), .int .u64 (g.md.toNat : Int)] 32 w
theorem GBlk.get {k : Nat} {nv ev : Value} {g : Gr} {w : World} (h : GBlk k nv ev g w) : w.cell? ⟨k, 0, none⟩ = some nv ∧ w.cell? ⟨k, 1, none⟩ = some ev ∧ w.cell? ⟨k, 2, none⟩ = some (.int .u64 (g.ph.toNat : Int)) ∧ w.cell? ⟨k, 3, none⟩ = some (.int .u64 (g.md.toNat : Int)) :=
  ⟨Blk.cell h rfl, Blk.cell h rfl, Blk.cell h rfl, Blk.cell h rfl⟩
theorem GBlk.later {k : Nat} {nv ev : Value} {g : Gr} {w w' : World} (h : GBlk k nv ev g w) (hb : Below w.heap.size w w') : GBlk k nv ev g w' := Blk.later h hb
theorem below_al (w : World) (o : Obj) : Below w.heap.size w (w.alloc o) := (Below.refl _ w).alloc (Nat.le_refl _) o
theorem zero_ne {c : Int} (h : c ≠ 0) : (c != 0) = true := bne_iff_ne.2 h
set_option maxHeartbeats 4000000 in
theorem check_graph {w : World} {v : Value} {g : Gr} (h : GIn w v g) :
    Calls Tryz.prog 9 #[v] w fun e w' => e = .returned (.int .i64 (ckG g)) ∧ Below w.heap.size w w' := by
  obtain ⟨nv, ev, rfl, h1, h2⟩ := h
  have CN := Lib.hid (fun W (hW : Below w.heap.size w W) => checkNames_any (h1.later hW))
  have CE := Lib.hid (fun W (hW : Below w.heap.size w W) => checkEdges_any g.ns.length (h2.later hW))
  have EN : Hid (ckN g.ns ≠ 0 → ckG g = ckN g.ns) := Lib.hid fun h => by unfold ckG; rw [if_pos h]
  have EE : Hid (ckN g.ns = 0 → ckE g.ns.length g.es ≠ 0 → ckG g = ckE g.ns.length g.es) := Lib.hid fun h k => by unfold ckG; rw [if_neg (by rw [h]; simp), if_pos k]
  have ES : Hid (ckN g.ns = 0 → ckE g.ns.length g.es = 0 → ¬ SetIn g.ns.length (g.ph ||| g.md) → ckG g = 4) := Lib.hid fun h k s => by unfold ckG; rw [if_neg (by rw [h]; simp), if_neg (by rw [k]; simp), if_neg s]
  have E0 : Hid (ckN g.ns = 0 → ckE g.ns.length g.es = 0 → SetIn g.ns.length (g.ph ||| g.md) → ckG g = 0) := Lib.hid fun h k s => by unfold ckG; rw [if_neg (by rw [h]; simp), if_neg (by rw [k]; simp), if_pos s]
  have NL : Hid (ckN g.ns = 0 → g.ns.length ≤ 64) := Lib.hid fun h => (ckN_zero h).1
  have OB := bv_or g.ph g.md
  have WA := Lib.hid (below_al w (.cells #[nv, ev, .int .u64 (g.ph.toNat : Int), .int .u64 (g.md.toNat : Int)] 32))
  have K0 : Hid (GBlk w.heap.size nv ev g (w.alloc (.cells #[nv, ev, .int .u64 (g.ph.toNat : Int), .int .u64 (g.md.toNat : Int)] 32))) := blk_new _ _ _
  obtain ⟨a1, c1, rfl⟩ := h1.shape2
  obtain ⟨a2, c2, rfl⟩ := h2.shape2
  have KL := Lib.hid (fun W (hW : Below (w.heap.size + 1) (w.alloc (.cells #[.slice a1 g.ns.length c1, .slice a2 g.es.length c2, .int .u64 (g.ph.toNat : Int), .int .u64 (g.md.toNat : Int)] 32)) W) => (K0.out.later (by simpa using hW)).get)
  obtain ⟨d0, d1, d2, d3⟩ := K0.out.get
  clear h1 h2
  generalize hG : ckG g = G at *
  generalize hN : ckN g.ns = N at *
  generalize hE : ckE g.ns.length g.es = E at *
  generalize g.ns.length = L at *
  generalize g.es.length = M at *
  clear hG hN hE
  have AN := Lib.hid (fun W (hl : L ≤ 64) => areNumbers_any (g.ph ||| g.md) L W hl)
  go_enter Tryz.func9, Tryz.ntmps9
  go_wp2_with fail
  refine (CN.out _ WA.out).mono ?_
  rintro e w2 ⟨rfl, b2⟩
  have B2 := Lib.hid (WA.out.trans (b2.mono WA.out.size))
  have K2 := Lib.hid (K0.out.later b2)
  clear b2 d0 d1 d2 d3
  by_cases hn : N = 0
  · obtain ⟨d0, d1, d2, d3⟩ := K2.out.get
    subst hn
    have EE1 := Lib.hid (EE.out rfl); have ES1 := Lib.hid (ES.out rfl); have E01 := Lib.hid (E0.out rfl); have NL1 := Lib.hid (NL.out rfl)
    clear EN EE ES E0 NL
    go_wp2_with fail
    refine (CE.out _ B2.out).mono ?_
    rintro e w3 ⟨rfl, b3⟩
    have B3 := Lib.hid (B2.out.trans (b3.mono B2.out.size))
    have K3 := Lib.hid (K2.out.later b3)
    clear b3 d0 d1 d2 d3
    by_cases he : E = 0
    · obtain ⟨d0, d1, d2, d3⟩ := K3.out.get
      subst he
      have ES2 := Lib.hid (ES1.out rfl); have E02 := Lib.hid (E01.out rfl)
      clear EE1 ES1 E01
      go_wp2_with fail
      refine (AN.out _ NL1.out).mono ?_
      rintro e w4 ⟨⟨q, rfl, hq⟩, rfl⟩
      have HQ := Lib.hid hq
      clear hq
      cases q
      · have E4 : Hid (G = 4) := Lib.hid (ES2.out fun h => by cases HQ.out.2 h)
        clear HQ ES2 E02
        go_wp2
        go_ret
        exact ⟨by rw [E4.out]; rfl, B3.out⟩
      · have E4 : Hid (G = 0) := Lib.hid (E02.out (HQ.out.1 rfl))
        clear HQ ES2 E02
        go_wp2
        go_ret
        exact ⟨by rw [E4.out]; rfl, B3.out⟩
    · have t := zero_ne he
      have E4 : Hid (G = E) := Lib.hid (EE1.out he)
      clear he EE1 ES1 E01
      go_wp2
      go_ret
      exact ⟨by rw [E4.out]; rfl, B3.out⟩
  · have t := zero_ne hn
    have E4 : Hid (G = N) := Lib.hid (EN.out hn)
    clear hn EN EE ES E0 NL
    go_wp2
    go_ret
    exact ⟨by rw [E4.out]; rfl, B2.out⟩
/-! rowsOf -/
theorem zeros_w (n : Nat) : (madeCells (Value.cells (.int .u64 0)) (n * 1)).toList = (List.replicate n 0#64).map encW := by
  rw [Nat.mul_one, show Value.cells (.int .u64 0) = #[.int .u64 0] from rfl, toList_madeCells_one, List.map_replicate]; rfl
theorem ed_take {z : List Ed} {k : Nat} (h : k < z.length) : z.take (k + 1) = z.take k ++ [edAt z k] := by
  rw [List.take_add_one, edAt_get h]; rfl
theorem rows_bound {n : Nat} {z : List Ed} (h : EdIn n z) {k : Nat} (hk : k < z.length) : ∃ f t : Nat, edAt z k = ((f : Int), (t : Int)) ∧ f < n ∧ t < n := by
  obtain ⟨h1, h2, h3, h4⟩ := h _ (edAt_mem hk)
  exact ⟨(edAt z k).1.toNat, (edAt z k).2.toNat, Prod.ext (by simp; omega) (by simp; omega), by omega, by omega⟩
theorem one_walk (n : Nat) (h : n < 64) : IntKind.u64.wrap (2 ^ n) = ((one n).toNat : Int) := by
  rw [one_toNat n h, IntKind.wrap_u64]
  have hlt : 2 ^ n < 2 ^ 64 := Nat.pow_lt_pow_right (by omega) h
  have e : (2 : Int) ^ n = ((2 ^ n : Nat) : Int) := by simp
  rw [e]
  generalize 2 ^ n = x at *
  omega
theorem grown_belowG {B g : Nat} {w0 w w' : World} (h : Below B w0 w) (k : w.grownBy w' (some g)) (hB : B ≤ w.heap.size) (hg : B ≤ g) : Below B w0 w' :=
  h.grown k hB (fun q hq => by cases hq; exact hg)
set_option maxHeartbeats 4000000 in
theorem rowsOf_any {w : World} {v : Value} {g : Gr} (h : GIn w v g) (hl : g.ns.length ≤ 64) (he : EdIn g.ns.length g.es) :
    Calls Tryz.prog 26 #[v] w fun e w' => ∃ b, e = .returned (.slice (some ⟨b, 0, none⟩) g.ns.length g.ns.length) ∧ w.heap.size ≤ b ∧ WO w.heap.size (.slice (some ⟨b, 0, none⟩) g.ns.length g.ns.length) (rowsTo g.ns.length g.es) w' ∧ Below w.heap.size w w' := by
  obtain ⟨nv, ev, rfl, h1, h2⟩ := h
  have hb2 := h2.bound
  obtain ⟨i0, hi, hz0, hz1, hz2⟩ := info_parts infoW
  have WA := Lib.hid (below_al w (.cells #[nv, ev, .int .u64 (g.ph.toNat : Int), .int .u64 (g.md.toNat : Int)] 32))
  have K0 : Hid (GBlk w.heap.size nv ev g (w.alloc (.cells #[nv, ev, .int .u64 (g.ph.toNat : Int), .int .u64 (g.md.toNat : Int)] 32))) := blk_new _ _ _
  obtain ⟨a1, c1, rfl⟩ := h1.shape2
  obtain ⟨a2, c2, rfl, hc⟩ := ein_at h2
  have HC := Lib.hid hc; clear hc h1 h2
  obtain ⟨d0, d1, d2, d3⟩ := K0.out.get
  have RB := Lib.hid (fun k hk => rows_bound he (k := k) hk)
  have RS : Hid (∀ k, k < g.es.length → rowsTo g.ns.length (g.es.take (k + 1)) = orAt (rowsTo g.ns.length (g.es.take k)) (edAt g.es k).1.toNat (one (edAt g.es k).2.toNat)) := fun k hk => by rw [ed_take hk, rowsTo_snoc]
  have RT : Hid (rowsTo g.ns.length (g.es.take g.es.length) = rowsTo g.ns.length g.es) := Lib.hid (by rw [List.take_length])
  have RL : Hid (∀ k, (rowsTo g.ns.length (g.es.take k)).length = g.ns.length) := fun k => rowsTo_length _ _
  have R0 : Hid (rowsTo g.ns.length (g.es.take 0) = List.replicate g.ns.length 0#64) := Lib.hid rfl
  clear he
  generalize g.ns.length = L at *
  generalize hM : g.es.length = M at *
  obtain ⟨w2, r2, o2, g2⟩ := run_make_full (P := Tryz.prog) (w.alloc (.cells #[.slice a1 L c1, .slice a2 M c2, .int .u64 (g.ph.toNat : Int), .int .u64 (g.md.toNat : Int)] 32)) w.heap.size 46 30 i0 (.int .u64 0) 1 Tryz.underlying46 hi hz0 hz1 .i64 .i64 L (by rw [hz2]; omega) (by unfold maxLen; omega) WA.out.size
  rw [zeros_w] at o2
  have W2 := Lib.hid (WA.out.grown g2 WA.out.size (fun q hq => by cases hq))
  have BS : Hid (w.heap.size ≤ (w.alloc (.cells #[.slice a1 L c1, .slice a2 M c2, .int .u64 (g.ph.toNat : Int), .int .u64 (g.md.toNat : Int)] 32)).heap.size) := WA.out.size
  have K2 := Lib.hid (blk_grown K0.out g2 (fun q hq => by cases hq))
  generalize (w.alloc (.cells #[.slice a1 L c1, .slice a2 M c2, .int .u64 (g.ph.toNat : Int), .int .u64 (g.md.toNat : Int)] 32)).heap.size = b at *
  have O2 : Hid (WO w.heap.size (.slice (some ⟨b, 0, none⟩) L L) (rowsTo L (g.es.take 0)) w2) := by
    show World.ownsRow _ _ _ _ _ _ _
    rw [R0.out, List.length_replicate]; exact o2
  have d1' := (show GBlk w.heap.size _ _ g w2 from K2.out).get.2.1
  clear o2 g2 hi hz0 hz1 hz2 WA K0 K2 R0
  go_enter Tryz.func26, Tryz.ntmps26
  go_wp2_with fail
  go_loopw [13] (fun i wr => ∃ k : Nat, k ≤ M ∧ i = .int .i64 (k : Int) ∧ WO w.heap.size (.slice (some ⟨b, 0, none⟩) L L) (rowsTo L (g.es.take k)) wr ∧ Below w.heap.size w wr) (fun i _ => M - (intOf i).toNat)
  case atStart => exact ⟨0, Nat.zero_le _, rfl, O2.out, W2.out⟩
  case round =>
    obtain ⟨k, hk, rfl, qo, qb⟩ := hrel
    have QO := Lib.hid qo; have QB := Lib.hid qb; clear qo qb
    by_cases hkl : k < M
    · obtain ⟨eb, off, rfl, c0, c1'⟩ := HC.out wr QB.out k hkl
      have RSk := Lib.hid (RS.out k hkl)
      have RLk := RL.out k
      obtain ⟨f, t, he, hf, ht⟩ := RB.out k hkl
      rw [he] at c0 c1' RSk
      simp only [Int.toNat_natCast] at RSk c0 c1'
      generalize rowsTo L (g.es.take k) = r at *
      have WA : Hid (Below w.heap.size w (wr.alloc (.cells #[.int .i64 (f : Int), .int .i64 (t : Int)] 38))) := QB.out.alloc QB.out.size _
      have OA : WO w.heap.size (.slice (some ⟨b, 0, none⟩) r.length L) r (wr.alloc (.cells #[.int .i64 (f : Int), .int .i64 (t : Int)] 38)) := by rw [RLk]; exact World.ownsRow.alloc QO.out _
      have cr := OA.cell (i := f) (by omega)
      have fr := OA.frozen f
      obtain ⟨O3, G3⟩ := OA.store f (one t)
      have e1 : bits .or .u64 ((wAt r f).toNat : Int) (IntKind.u64.wrap (2 ^ t)) = ((wAt r f ||| one t).toNat : Int) := by rw [one_walk t (by omega), bv_or]
      have O3' := Lib.hid O3
      have B3 := Lib.hid (grown_belowG WA.out G3 WA.out.size BS.out)
      rw [RLk] at O3'
      have hf' : (f : Int) < (L : Int) := by omega
      have ht' : (t : Int) < 64 := by omega
      clear O3 G3 OA he
      generalize ((wAt r f).toNat : Int) = x at *
      generalize ((wAt r f ||| one t).toNat : Int) = y at *
      go_wp2_with fail
      go_region
      go_wp2
      go_roundw
      case rel => exact ⟨k + 1, by omega, by go_num, by rw [RSk.out]; exact O3'.out, B3.out.drew⟩
      case measure => simp [intOf]; omega
    · obtain rfl : k = M := by omega
      have QR := QO.out
      rw [RT.out] at QR
      have Q2 := Lib.hid QR
      clear QR
      go_wp2
      go_ret
      exact ⟨b, rfl, BS.out, Q2.out, QB.out⟩
/-! Rows, Number -/
/-- what Rows hands back -/
def RowsPost (g : Gr) (w : World) (e : Ending) (w' : World) : Prop := Below w.heap.size w w' ∧
  ((ckG g ≠ 0 ∧ e = .returned (.tuple #[.slice none 0 0, .int .i64 (ckG g)])) ∨
   (Valid g ∧ ∃ b, e = .returned (.tuple #[.slice (some ⟨b, 0, none⟩) g.ns.length g.ns.length, .int .i64 0]) ∧ w.heap.size ≤ b ∧ WO w.heap.size (.slice (some ⟨b, 0, none⟩) g.ns.length g.ns.length) (rowsTo g.ns.length g.es) w'))
theorem wo_base {B B' : Nat} {v : Value} {r : List Bv} {w : World} (h : WO B v r w) (hb : B' ≤ B) : WO B' v r w := by
  refine ⟨h.1, h.2.imp id ?_⟩
  rintro ⟨g, cap, cur, h1, h2, h3⟩
  exact ⟨g, cap, cur, h1, Nat.le_trans hb h2, h3⟩
set_option maxHeartbeats 4000000 in
theorem rows_any {w : World} {v : Value} {g : Gr} (h : GIn w v g) : Calls Tryz.prog 10 #[v] w (RowsPost g w) := by
  have CK := Lib.hid (fun W (hW : Below w.heap.size w W) => check_graph (h.later hW))
  have RO := Lib.hid (fun W (hW : Below w.heap.size w W) (hv : Valid g) => rowsOf_any (h.later hW) hv.len hv.ein)
  have CZ : Hid (ckG g = 0 → Valid g) := ckG_zero
  obtain ⟨nv, ev, rfl, h1, h2⟩ := h
  have WA := Lib.hid (below_al w (.cells #[nv, ev, .int .u64 (g.ph.toNat : Int), .int .u64 (g.md.toNat : Int)] 32))
  have K0 : Hid (GBlk w.heap.size nv ev g (w.alloc (.cells #[nv, ev, .int .u64 (g.ph.toNat : Int), .int .u64 (g.md.toNat : Int)] 32))) := blk_new _ _ _
  obtain ⟨d0, d1, d2, d3⟩ := K0.out.get
  have RP : Hid (∀ e w', RowsPost g w e w' ↔ (Below w.heap.size w w' ∧ ((ckG g ≠ 0 ∧ e = .returned (.tuple #[.slice none 0 0, .int .i64 (ckG g)])) ∨ (Valid g ∧ ∃ b, e = .returned (.tuple #[.slice (some ⟨b, 0, none⟩) g.ns.length g.ns.length, .int .i64 0]) ∧ w.heap.size ≤ b ∧ WO w.heap.size (.slice (some ⟨b, 0, none⟩) g.ns.length g.ns.length) (rowsTo g.ns.length g.es) w')))) := fun _ _ => Iff.rfl
  obtain ⟨a1, c1, rfl⟩ := h1.shape2
  obtain ⟨a2, c2, rfl⟩ := h2.shape2
  clear h1 h2
  generalize ckG g = C at *
  generalize g.ns.length = L at *
  generalize g.es.length = M at *
  go_enter Tryz.func10, Tryz.ntmps10
  go_wp2_with fail
  refine (CK.out _ WA.out).mono ?_
  rintro e w2 ⟨rfl, b2⟩
  have B2 := Lib.hid (WA.out.trans (b2.mono WA.out.size))
  have K2 := Lib.hid (K0.out.later b2)
  clear b2 d0 d1 d2 d3
  by_cases hc : C = 0
  · obtain ⟨d0, d1, d2, d3⟩ := K2.out.get
    subst hc
    have HV := Lib.hid (CZ.out rfl)
    clear CZ
    go_wp2_with fail
    refine (RO.out _ B2.out HV.out).mono ?_
    rintro e w3 ⟨b, rfl, hb, o3, b3⟩
    have B3 := Lib.hid (B2.out.trans (b3.mono B2.out.size))
    have O3 := Lib.hid (wo_base o3 B2.out.size)
    have HB := Lib.hid (Nat.le_trans B2.out.size hb)
    clear b3 o3 hb d0 d1 d2 d3
    go_wp2
    go_ret2
    exact (RP.out _ _).2 ⟨B3.out, .inr ⟨HV.out, b, rfl, HB.out, O3.out⟩⟩
  · have t := zero_ne hc
    have HC := Lib.hid hc
    clear hc CZ
    go_wp2
    go_ret2
    exact (RP.out _ _).2 ⟨B2.out, .inl ⟨HC.out, rfl⟩⟩
/-- what Number hands back -/
def NumPost (g : Gr) (x : Str) (w : World) (e : Ending) (w' : World) : Prop := Below w.heap.size w w' ∧
  ((ckG g ≠ 0 ∧ e = .returned (.tuple #[.int .i64 0, .int .i64 (ckG g)])) ∨
   (Valid g ∧ ((∃ i : Nat, i < g.ns.length ∧ g.ns.getD i [] = x ∧ e = .returned (.tuple #[.int .i64 i, .int .i64 0])) ∨ (x ∉ g.ns ∧ e = .returned (.tuple #[.int .i64 0, .int .i64 5])))))
end Go.Proofs.YtebjofffijnihaaGreatDoor
namespace Go.Proofs.YtebjofffijnihaaGreatDoor
set_option maxRecDepth 100000
set_option linter.unusedVariables false
open Go.ChangeShapes Go.WideShapes Go.ChangeAt Go.RowKit

theorem beq_i (x y : Int) : (x == y) = decide (x = y) := by
  rw [Bool.eq_iff_iff]; simp
set_option maxHeartbeats 4000000 in
theorem idxE_any (z : List Ed) (x y : Int) (v : Value) (w : World) (h : EIn w v z) :
    Calls Tryz.prog 22 #[v, .agg #[.int .i64 x, .int .i64 y]] w fun e w' => (∃ i : Int, e = .returned (.int .i64 i) ∧ (0 ≤ i ↔ (x, y) ∈ z)) ∧ Below w.heap.size w w' := by
  have hn := h.bound
  have BA : Hid (Below w.heap.size w (w.alloc (.cells #[.int .i64 x, .int .i64 y] 38))) := (Below.refl _ _).alloc (Nat.le_refl _) _
  have b0 := blk_new w #[.int .i64 x, .int .i64 y] 38
  obtain ⟨a, cap, rfl, hc⟩ := ein_at h
  obtain ⟨W1, hW1⟩ : ∃ W1, W1 = w.alloc (.cells #[.int .i64 x, .int .i64 y] 38) := ⟨_, rfl⟩
  have HC := Lib.hid (fun k hk => hc _ BA.out k hk)
  have d1 := b0.cell (i := 0) rfl
  have d2 := b0.cell (i := 1) rfl
  rw [← hW1] at HC d1 d2 BA
  have D1 := Lib.hid d1; have D2 := Lib.hid d2
  have TK : Hid (∀ k, k < z.length → z.take (k + 1) = z.take k ++ [((edAt z k).1, (edAt z k).2)]) := fun k hk => ed_take hk
  have MM : Hid (∀ k, k < z.length → ((edAt z k).1, (edAt z k).2) ∈ z) := fun k hk => edAt_mem hk
  have TL := Lib.hid (List.take_length (l := z))
  have HW := Lib.hid hW1
  clear h b0 hc d1 d2 hW1
  generalize z.length = L at *
  go_enter Tryz.func22, Tryz.ntmps22
  go_wp2_with fail
  rw [← HW.out]
  have d1 := D1.out
  have d2 := D2.out
  generalize w.heap.size = N at d1 d2 ⊢
  go_loopw [8] (fun i wr => ∃ k : Nat, k ≤ L ∧ i = .int .i64 k ∧ (x, y) ∉ z.take k ∧ ∃ m, wr = W1.drewN m) (fun i _ => L - (intOf i).toNat)
  case atStart => exact ⟨0, Nat.zero_le _, rfl, by simp, 0, rfl⟩
  case round =>
    obtain ⟨k, hk, rfl, hno, m, rfl⟩ := hrel
    have NO := Lib.hid hno; clear hno
    by_cases hkl : k < L
    · obtain ⟨b, off, rfl, c1, c2⟩ := HC.out k hkl
      have T1 := Lib.hid (TK.out k hkl)
      have M1 := Lib.hid (MM.out k hkl)
      generalize (edAt z k).1 = p at *
      generalize (edAt z k).2 = q at *
      have e1 := beq_i x p
      have e2 := beq_i y q
      by_cases hx : x = p
      · rw [decide_eq_true hx] at e1
        by_cases hy : y = q
        · rw [decide_eq_true hy] at e2
          have IN : Hid ((x, y) ∈ z) := by show _ ∈ _; rw [hx, hy]; exact M1.out
          clear hx hy
          go_wp2_with fail
          go_quiet (fail)
          go_wp2
          go_ret
          exact ⟨⟨k, rfl, fun _ => IN.out, fun _ => by omega⟩, below_drewN (below_drewN BA.out _) _⟩
        · rw [decide_eq_false hy] at e2
          have NX : Hid ((x, y) ∉ z.take k ++ [(p, q)]) := by
            intro hm
            rcases List.mem_append.1 hm with hm | hm
            · exact NO.out hm
            · rw [List.mem_singleton] at hm; injection hm with h1 h2; exact hy h2
          clear hx hy
          go_wp2_with fail
          go_quiet (fail)
          go_wp2
          go_roundw
          case rel => exact ⟨k + 1, by omega, by go_num, by rw [T1.out]; exact NX.out, _, rfl⟩
          case measure => simp [intOf]; omega
      · rw [decide_eq_false hx] at e1
        have NX : Hid ((x, y) ∉ z.take k ++ [(p, q)]) := by
          intro hm
          rcases List.mem_append.1 hm with hm | hm
          · exact NO.out hm
          · rw [List.mem_singleton] at hm; injection hm with h1 h2; exact hx h1
        clear hx
        go_wp2_with fail
        go_quiet (fail)
        go_wp2
        go_roundw
        case rel => exact ⟨k + 1, by omega, by go_num, by rw [T1.out]; exact NX.out, _, rfl⟩
        case measure => simp [intOf]; omega
    · obtain rfl : k = L := by omega
      have OUT : Hid ((x, y) ∉ z) := by
        have h := NO.out
        rw [TL.out] at h
        exact h
      go_wp2
      go_ret
      exact ⟨⟨-1, rfl, fun h => absurd h (by omega), fun h => absurd h OUT.out⟩, below_drewN BA.out _⟩
set_option maxHeartbeats 4000000 in
theorem conE_any (z : List Ed) (x y : Int) (v : Value) (w : World) (h : EIn w v z) :
    Calls Tryz.prog 8 #[v, .agg #[.int .i64 x, .int .i64 y]] w fun e w' => (∃ b, e = .returned (.bool b) ∧ (b = true ↔ (x, y) ∈ z)) ∧ Below w.heap.size w w' := by
  have BA : Hid (Below w.heap.size w (w.alloc (.cells #[.int .i64 x, .int .i64 y] 38))) := (Below.refl _ _).alloc (Nat.le_refl _) _
  have b0 := blk_new w #[.int .i64 x, .int .i64 y] 38
  have d1 := b0.cell (i := 0) rfl
  have d2 := b0.cell (i := 1) rfl
  have IX := Lib.hid (idxE_any z x y v _ (h.later BA.out))
  clear h b0
  go_enter Tryz.func8, Tryz.ntmps8
  go_wp2_with fail
  refine IX.out.mono ?_
  rintro e w1 ⟨⟨i, rfl, hi⟩, hb⟩
  have B1 : Hid (Below w.heap.size w w1) := BA.out.trans (hb.mono BA.out.size)
  have HI := Lib.hid hi
  clear hb hi IX d1 d2
  go_wp2
  go_ret
  exact ⟨⟨decide (0 ≤ i), rfl, by rw [decide_eq_true_iff]; exact HI.out⟩, B1.out⟩

/-! the law's own look -/
def g0 : Gr := ⟨[[97], [98]], [(0, 1)], 0#64, 1#64⟩
theorem up_ab : Up [[97], [98]] := by unfold Up; simp; decide
theorem g0_valid : Valid g0 := by
  refine ⟨by decide, by decide, up_ab, fun x hx => ?_, List.pairwise_singleton _ _, fun i hi => ?_⟩
  · obtain rfl := List.mem_singleton.1 hx
    decide
  · match i, hi with
    | i + 2, _ =>
      rcases Nat.lt_or_ge (i + 2) 64 with h | h
      · show (0#64 ||| 1#64 : Bv).getLsbD (i + 2) = false
        rw [show (0#64 ||| 1#64 : Bv) = one 0 from by decide, one_bit _ _ h]; simp
      · exact bit_ge _ h
theorem g0_rows : wAt (rowsTo g0.ns.length g0.es) 0 = 2#64 := by decide
theorem cell2of3 {w : World} {o1 o3 : Obj} {xs : Array Value} {t : TypeId} {i : Nat} {x : Value} (h : xs[i]? = some x) : (((w.alloc o1).alloc (.cells xs t)).alloc o3).cell? ⟨w.heap.size + 1, i, none⟩ = some x := by
  have := Blk.cell ((blk_new (w.alloc o1) xs t).alloc o3) h
  rwa [show (w.alloc o1).heap.size = w.heap.size + 1 by simp] at this
theorem cell3of3 {w : World} {o1 o2 : Obj} {xs : Array Value} {t : TypeId} {i : Nat} {x : Value} (h : xs[i]? = some x) : (((w.alloc o1).alloc o2).alloc (.cells xs t)).cell? ⟨w.heap.size + 1 + 1, i, none⟩ = some x := by
  have := Blk.cell (blk_new ((w.alloc o1).alloc o2) xs t) h
  rwa [show ((w.alloc o1).alloc o2).heap.size = w.heap.size + 1 + 1 by simp] at this
theorem mill_any (w : World) : Calls Tryz.prog 11 #[] w fun e w' => ∃ v, e = .returned v ∧ GIn w' v g0 ∧ Below w.heap.size w w' := by
  go_enter Tryz.func11, Tryz.ntmps11
  go_wp2
  refine bodyPost_ret (results_cell_row rfl _ _ w.heap.size 32 _ (0, 0) _ rfl (((blk_new w _ 32).alloc _).alloc _) Tryz.underlying32 rfl (by kernel_rfl)) rfl ⟨_, rfl, ⟨_, _, rfl, ?_, ?_⟩, ?_⟩
  · refine ⟨_, _, rfl, by simp [g0], by simp [g0], by simp [g0], .inr ⟨_, 0, rfl, by simp, fun k hk => ?_⟩⟩
    match k, hk with
    | 0, _ => exact cell2of3 rfl
    | 1, _ => exact cell2of3 rfl
  · refine ⟨_, _, rfl, by simp [g0], by simp [maxLen], by simp [g0], .inr ⟨_, 0, rfl, by simp, fun k x hk => ?_⟩⟩
    match k, hk with
    | 0, hk => simp [g0] at hk; subst hk; exact ⟨cell3of3 rfl, cell3of3 rfl⟩
    | k + 1, hk => simp [g0] at hk
  · exact (((Below.refl _ w).alloc (Nat.le_refl _) _).alloc (by simp) _).alloc (by simp; omega) _
set_option maxHeartbeats 4000000 in
theorem graphs_true (w : World) :
    Calls Tryz.prog 4 #[] w fun e w' => e = .returned (.bool true) ∧ Below w.heap.size w w' := by
  have RV := Lib.hid (fun W V (h : GIn W V g0) => rows_any h)
  go_enter Tryz.func4, Tryz.ntmps4
  go_wp2_with fail
  refine (mill_any _).mono ?_
  rintro e w1 ⟨v, rfl, hg, b1⟩
  have RG := Lib.hid (RV.out _ _ hg)
  have B1 := Lib.hid b1
  clear hg b1
  go_wp2_with fail
  refine RG.out.mono ?_
  rintro e w2 ⟨b2, ⟨h, _⟩ | ⟨_, b, rfl, hb, o2⟩⟩
  · exact absurd (ckG_valid g0_valid) h
  have B2 := Lib.hid (B1.out.trans (b2.mono B1.out.size))
  have c0 := WO.cell (r := rowsTo g0.ns.length g0.es) (i := 0) (by have := rowsTo_length g0.ns.length g0.es; rw [this]; exact o2) (by rw [rowsTo_length]; decide)
  rw [g0_rows] at c0
  have hl : g0.ns.length = 2 := rfl
  rw [hl]
  clear b2 o2
  go_wp2
  go_ret
  exact ⟨rfl, B2.out⟩
end Go.Proofs.YtebjofffijnihaaGreatDoor
