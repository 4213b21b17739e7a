/-
  cmp.Compare and cmp.Or, package graph's compareEdges, areIncreasing and areNumbers. No condition.
-/
import Derived.Test.YtpjcdfphllbonaaDoorGOpen
import Derived.Test.YtpjcdfphllbonaaDoorGEd
import Derived.Test.YtpjcdfphllbonaaDoorSub
import Derived.Deep.RegionWith
import Derived.Deep.RegionHeld3
namespace Go.Proofs.YtpjcdfphllbonaaDoor
set_option maxRecDepth 100000
set_option linter.unusedVariables false
open Go.ChangeShapes Go.WideShapes Go.ChangeAt Go.RowKit

def cI (x y : Int) : Int := if x < y then -1 else if y < x then 1 else 0
def cS (x y : Str) : Int := if x < y then -1 else if y < x then 1 else 0
theorem cS_neg {x y : Str} : cS x y < 0 ↔ x < y := by
  unfold cS
  by_cases h : x < y
  · simp [h]
  · rw [if_neg h]
    constructor
    · intro k; split at k <;> omega
    · intro k; exact absurd k h
def cE (x y : Ed) : Int := if cI x.1 y.1 ≠ 0 then cI x.1 y.1 else cI x.2 y.2
theorem cE_neg {x y : Ed} : cE x y < 0 ↔ edLt x y := by
  unfold cE edLt cI
  rcases Int.lt_trichotomy x.1 y.1 with h | h | h
  · simp [h]
  · rw [h]
    simp only [Int.lt_irrefl, if_false, ne_eq, not_true, true_and, false_or]
    constructor
    · intro k
      split at k
      · assumption
      · split at k <;> omega
    · intro k; rw [if_pos k]; omega
  · have h1 : ¬ x.1 < y.1 := by omega
    have h2 : ¬ x.1 = y.1 := by omega
    simp [h, h1, h2]
theorem isNaNi_any (x : Int) (w : World) : Calls Tryd.prog 70 #[.int .i64 x] w fun e w' => e = .returned (.bool false) ∧ w' = w := by
  go_enter Tryd.func70, Tryd.ntmps70
  go_wp2
  go_ret
  exact ⟨ret_b (by simp), rfl⟩
theorem cmpI_any (x y : Int) (w : World) : Calls Tryd.prog 68 #[.int .i64 x, .int .i64 y] w fun e w' => e = .returned (.int .i64 (cI x y)) ∧ w' = w := by
  unfold cI
  by_cases h1 : x < y
  · rw [if_pos h1]
    go_enter Tryd.func68, Tryd.ntmps68
    go_wp2_with (go_at_call 70; refine (isNaNi_any _ _).mono ?_; rintro e w' ⟨rfl, rfl⟩)
    go_ret
    exact ⟨rfl, rfl⟩
  · rw [if_neg h1]
    by_cases h2 : y < x
    · rw [if_pos h2]
      go_enter Tryd.func68, Tryd.ntmps68
      go_wp2_with (go_at_call 70; refine (isNaNi_any _ _).mono ?_; rintro e w' ⟨rfl, rfl⟩)
      go_ret
      exact ⟨rfl, rfl⟩
    · rw [if_neg h2]
      go_enter Tryd.func68, Tryd.ntmps68
      go_wp2_with (go_at_call 70; refine (isNaNi_any _ _).mono ?_; rintro e w' ⟨rfl, rfl⟩)
      go_ret
      exact ⟨rfl, rfl⟩
theorem isNaNs_any (s : ByteArray) (w : World) : Calls Tryd.prog 66 #[.string s] w fun e w' => e = .returned (.bool false) ∧ w' = w := by
  go_enter Tryd.func66, Tryd.ntmps66
  go_wp2
  go_ret
  exact ⟨ret_b (by simp), rfl⟩
theorem cmpS_any (x y : Str) (w : World) : Calls Tryd.prog 57 #[.string (bs x), .string (bs y)] w fun e w' => e = .returned (.int .i64 (cS x y)) ∧ w' = w := by
  have e1 : Op.bytesLess (bs x).toList (bs y).toList = decide (x < y) := by rw [bs_toList, bs_toList]; exact bytesLess_eq x y
  have e3 : ((bs x).toList == (bs y).toList) = decide (x = y) := by rw [bs_toList, bs_toList]; exact beq_dec x y
  unfold cS
  by_cases h1 : x < y
  · rw [if_pos h1]
    rw [decide_eq_true h1] at e1
    clear e3 h1
    go_enter Tryd.func57, Tryd.ntmps57
    go_wp2_with (go_at_call 66; refine (isNaNs_any _ _).mono ?_; rintro e w' ⟨rfl, rfl⟩)
    go_ret
    exact ⟨rfl, rfl⟩
  · rw [if_neg h1]
    rw [decide_eq_false h1] at e1
    by_cases h2 : y < x
    · have hne : x ≠ y := fun h => by subst h; exact List.lt_irrefl _ h2
      rw [if_pos h2]
      rw [decide_eq_false hne] at e3
      clear h1 h2 hne
      go_enter Tryd.func57, Tryd.ntmps57
      go_wp2_with (go_at_call 66; refine (isNaNs_any _ _).mono ?_; rintro e w' ⟨rfl, rfl⟩)
      go_ret
      exact ⟨rfl, rfl⟩
    · have he : x = y := List.le_antisymm (List.not_lt.1 h2) (List.not_lt.1 h1)
      rw [if_neg h2]
      rw [decide_eq_true he] at e3
      clear h1 h2 he
      go_enter Tryd.func57, Tryd.ntmps57
      go_wp2_with (go_at_call 66; refine (isNaNs_any _ _).mono ?_; rintro e w' ⟨rfl, rfl⟩)
      go_ret
      exact ⟨rfl, rfl⟩
theorem below3 (w : World) (o1 o2 o3 : Obj) : Below w.heap.size w (((w.alloc o1).alloc o2).alloc o3).drew := by
  have h1 := (Below.refl w.heap.size w).alloc (Nat.le_refl _) o1
  have h2 := h1.alloc h1.size o2
  exact (h2.alloc h2.size o3).drew
theorem new3 {w : World} {o1 o2 : Obj} {xs : Array Value} {t : TypeId} {i : Nat} {x : Value} (h : xs[i]? = some x) : (((w.alloc o1).alloc o2).alloc (.cells xs t)).drew.cell? ⟨w.heap.size + 1 + 1, i, none⟩ = some x := by
  have := (blk_new ((w.alloc o1).alloc o2) xs t).cell h
  simpa using this
theorem orI_any (b : Nat) (x y : Int) (w : World) (c0 : w.cell? ⟨b, 0, none⟩ = some (.int .i64 x)) (c1 : w.cell? ⟨b, 1, none⟩ = some (.int .i64 y)) :
    Calls Tryd.prog 67 #[.slice (some ⟨b, 0, none⟩) 2 2] w fun e w' => e = .returned (.int .i64 (if x ≠ 0 then x else y)) ∧ w' = w := by
  by_cases h1 : x = 0
  · subst h1
    by_cases h2 : y = 0
    · subst h2
      go_enter Tryd.func67, Tryd.ntmps67
      go_wp2_with fail
      go_rounds 3
      go_ret
      exact ⟨rfl, rfl⟩
    · have t : (y != 0) = true := bne_iff_ne.2 h2
      go_enter Tryd.func67, Tryd.ntmps67
      go_wp2_with fail
      go_rounds 2
      go_ret
      exact ⟨rfl, rfl⟩
  · have t : (x != 0) = true := bne_iff_ne.2 h1
    rw [if_pos h1]
    clear h1
    go_enter Tryd.func67, Tryd.ntmps67
    go_wp2_with fail
    go_rounds 1
    go_ret
    exact ⟨rfl, rfl⟩
theorem orE_any (b : Nat) (p q : Ed) (w : World) (c0 : w.cell? ⟨b, 0, none⟩ = some (.int .i64 (cI p.1 q.1))) (c1 : w.cell? ⟨b, 1, none⟩ = some (.int .i64 (cI p.2 q.2))) :
    Calls Tryd.prog 67 #[.slice (some ⟨b, 0, none⟩) 2 2] w fun e w' => e = .returned (.int .i64 (cE p q)) ∧ w' = w := orI_any b _ _ w c0 c1
set_option maxHeartbeats 4000000 in
theorem cmpE_any (x y : Ed) (w : World) : Calls Tryd.prog 59 #[.agg #[.int .i64 x.1, .int .i64 x.2], .agg #[.int .i64 y.1, .int .i64 y.2]] w fun e w' => e = .returned (.int .i64 (cE x y)) ∧ Below w.heap.size w w' := by
  obtain ⟨a, b⟩ := x
  obtain ⟨c, d⟩ := y
  have d0 : (((w.alloc (.cells #[.int .i64 a, .int .i64 b] 49)).alloc (.cells #[.int .i64 c, .int .i64 d] 49))).cell? ⟨w.heap.size, 0, none⟩ = some (.int .i64 a) := ((blk_new w #[.int .i64 a, .int .i64 b] 49).alloc _).cell rfl
  have d1 : (((w.alloc (.cells #[.int .i64 a, .int .i64 b] 49)).alloc (.cells #[.int .i64 c, .int .i64 d] 49))).cell? ⟨w.heap.size, 1, none⟩ = some (.int .i64 b) := ((blk_new w #[.int .i64 a, .int .i64 b] 49).alloc _).cell rfl
  have d2 : (((w.alloc (.cells #[.int .i64 a, .int .i64 b] 49)).alloc (.cells #[.int .i64 c, .int .i64 d] 49))).cell? ⟨w.heap.size + 1, 0, none⟩ = some (.int .i64 c) := by simp
  have d3 : (((w.alloc (.cells #[.int .i64 a, .int .i64 b] 49)).alloc (.cells #[.int .i64 c, .int .i64 d] 49))).cell? ⟨w.heap.size + 1, 1, none⟩ = some (.int .i64 d) := by simp
  have BB := Lib.hid (below3 w)
  go_enter Tryd.func59, Tryd.ntmps59
  go_wp2_with fail
  go_region_held3 (fun w' => w'.cell? ⟨w.heap.size, 0, none⟩ = some (.int .i64 a) ∧ w'.cell? ⟨w.heap.size, 1, none⟩ = some (.int .i64 b) ∧ w'.cell? ⟨w.heap.size + 1, 0, none⟩ = some (.int .i64 c) ∧ w'.cell? ⟨w.heap.size + 1, 1, none⟩ = some (.int .i64 d)) (first | exact ⟨d0, d1, d2, d3⟩ | assumption | go_keep) (first
    | (go_at_call 68; refine (cmpI_any _ _ _).mono ?_; rintro e w' ⟨rfl, rfl⟩)
    | (go_at_call 67; refine (orE_any _ (a, b) (c, d) _ (new3 rfl) (new3 rfl)).mono ?_; rintro e w' ⟨rfl, rfl⟩))
  all_goals
    go_wp2
    go_ret
    exact ⟨rfl, BB.out _ _ _⟩
theorem sin_at {w : World} {v : Value} {z : List Str} (h : SIn w v z) : ∃ a cap, v = .slice a z.length cap ∧ ∀ W, Below w.heap.size w W → ∀ k, k < z.length → ∃ b off, a = some ⟨b, off, none⟩ ∧ W.cell? ⟨b, off + k, none⟩ = some (.string (bs (z.getD k []))) := by
  obtain ⟨a, cap, rfl, _, _, _, h5⟩ := h
  refine ⟨a, cap, rfl, fun W hW k hk => ?_⟩
  rcases h5 with rfl | ⟨b, off, ha, hlt, hc⟩
  · exact absurd hk (Nat.not_lt_zero _)
  · exact ⟨b, off, ha, cell_later hW (hc k hk)⟩
def edAt (z : List Ed) (k : Nat) : Ed := z.getD k (0, 0)
theorem edAt_get {z : List Ed} {k : Nat} (h : k < z.length) : z[k]? = some (edAt z k) := by
  unfold edAt
  rw [List.getD, List.getElem?_eq_getElem h]; rfl
theorem edAt_mem {z : List Ed} {k : Nat} (h : k < z.length) : edAt z k ∈ z := List.mem_of_getElem? (edAt_get h)
theorem ein_at {w : World} {v : Value} {z : List Ed} (h : EIn w v z) : ∃ a cap, v = .slice a z.length cap ∧ ∀ W, Below w.heap.size w W → ∀ k, k < z.length → ∃ b off, a = some ⟨b, off, none⟩ ∧ W.cell? ⟨b, off + k * 2, none⟩ = some (.int .i64 (edAt z k).1) ∧ W.cell? ⟨b, off + k * 2 + 1, none⟩ = some (.int .i64 (edAt z k).2) := by
  obtain ⟨a, cap, rfl, _, _, _, h5⟩ := h
  refine ⟨a, cap, rfl, fun W hW k hk => ?_⟩
  rcases h5 with rfl | ⟨b, off, ha, hlt, hc⟩
  · exact absurd hk (Nat.not_lt_zero _)
  · have := hc k _ (edAt_get hk)
    exact ⟨b, off, ha, cell_later hW this.1, cell_later hW this.2⟩
/-! each before the next -/
theorem up_next {z : List Str} : (∀ m, m + 1 < z.length → z.getD m [] < z.getD (m + 1) []) → Up z := by
  induction z with
  | nil => exact fun _ => List.Pairwise.nil
  | cons x r ih =>
    intro h
    have hr : Up r := ih fun m hm => by
      have := h (m + 1) (by rw [List.length_cons]; omega)
      simpa using this
    refine List.pairwise_cons.2 ⟨fun y hy => ?_, hr⟩
    cases r with
    | nil => exact absurd hy List.not_mem_nil
    | cons a t =>
      have h0 : x < a := by
        have := h 0 (by simp)
        simpa using this
      rcases List.mem_cons.1 hy with rfl | hy
      · exact h0
      · exact List.lt_trans h0 ((List.pairwise_cons.1 hr).1 y hy)
theorem edUp_next {z : List Ed} : (∀ m, m + 1 < z.length → edLt (edAt z m) (edAt z (m + 1))) → EdUp z := by
  induction z with
  | nil => exact fun _ => List.Pairwise.nil
  | cons x r ih =>
    intro h
    have hr : EdUp r := ih fun m hm => by
      have := h (m + 1) (by rw [List.length_cons]; omega)
      simpa [edAt] using this
    refine List.pairwise_cons.2 ⟨fun y hy => ?_, hr⟩
    cases r with
    | nil => exact absurd hy List.not_mem_nil
    | cons a t =>
      have h0 : edLt x a := by
        have := h 0 (by simp)
        simpa [edAt] using this
      rcases List.mem_cons.1 hy with rfl | hy
      · exact h0
      · exact edLt_trans h0 ((List.pairwise_cons.1 hr).1 y hy)
theorem edUp_at {z : List Ed} (h : EdUp z) {m : Nat} (hm : m + 1 < z.length) : edLt (edAt z m) (edAt z (m + 1)) := by
  have := List.pairwise_iff_getElem.1 h m (m + 1) (by omega) hm (by omega)
  unfold edAt
  rw [List.getD, List.getD, List.getElem?_eq_getElem (by omega), List.getElem?_eq_getElem hm]
  exact this
set_option maxHeartbeats 4000000 in
theorem incS_any {w : World} {v : Value} {z : List Str} (h : SIn w v z) :
    Calls Tryd.prog 56 #[v, .func (.func 57) #[] #[]] w fun e w' => (∃ b, e = .returned (.bool b) ∧ (b = true ↔ Up z)) ∧ Below w.heap.size w w' := by
  have hb := h.bound
  have UN : Hid ((∀ m, m + 1 < z.length → z.getD m [] < z.getD (m + 1) []) → Up z) := up_next
  have UA : Hid (∀ m, m + 1 < z.length → Up z → z.getD m [] < z.getD (m + 1) []) := fun m hm h => up_get h (by omega) hm
  obtain ⟨a, cap, rfl, hc⟩ := sin_at h
  have HC := Lib.hid hc; clear hc h
  generalize z.length = L at *
  go_enter Tryd.func56, Tryd.ntmps56
  go_wp2_with fail
  go_loopw [5] (fun i wr => ∃ m : Nat, i = .int .i64 ((m + 1 : Nat) : Int) ∧ (m + 1 ≤ L ∨ m = 0) ∧ (∀ j, j < m → z.getD j [] < z.getD (j + 1) []) ∧ Below w.heap.size w wr) (fun i _ => L + 1 - (intOf i).toNat)
  case atStart => exact ⟨0, rfl, .inr rfl, fun j hj => absurd hj (Nat.not_lt_zero _), Below.refl _ _⟩
  case round =>
    obtain ⟨m, rfl, hm, ha, qb⟩ := hrel
    have HA := Lib.hid ha; have QB := Lib.hid qb; clear ha qb
    by_cases hlt : m + 1 < L
    · obtain ⟨b, off, rfl, c0⟩ := HC.out wr QB.out m (by omega)
      obtain ⟨b', off', e, c1⟩ := HC.out wr QB.out (m + 1) hlt
      injection e with e; injection e with e1 e2; subst e1 e2
      have UA1 := Lib.hid (UA.out m hlt)
      have SG := Lib.hid (cS_neg (x := z.getD m []) (y := z.getD (m + 1) []))
      have CA := Lib.hid (fun W => cmpS_any (z.getD m []) (z.getD (m + 1) []) W)
      have HX : Hid (z.getD m [] < z.getD (m + 1) [] → ∀ j, j < m + 1 → z.getD j [] < z.getD (j + 1) []) := fun h j hj => by
        rcases Nat.lt_succ_iff_lt_or_eq.1 hj with h' | rfl
        · exact HA.out j h'
        · exact h
      generalize z.getD m [] = x at *
      generalize z.getD (m + 1) [] = y at *
      generalize cS x y = c at *
      by_cases hneg : c < 0
      · have LT := Lib.hid (SG.out.1 hneg)
        go_wp2_with fail
        go_quiet (first | (go_at_call 57; exact Calls.quiet_of_same (CA.out _)))
        go_wp2
        go_roundw
        case rel => exact ⟨m + 1, by go_num, .inl (by omega), HX.out LT.out, below_drewN QB.out _⟩
        case measure => simp [intOf]; omega
      · have LT : Hid (¬ x < y) := Lib.hid fun h => hneg (SG.out.2 h)
        go_wp2_with fail
        go_quiet (first | (go_at_call 57; exact Calls.quiet_of_same (CA.out _)))
        go_wp2
        go_ret
        exact ⟨⟨false, rfl, fun h => by (cases h), fun h => absurd (UA1.out h) LT.out⟩, below_drewN QB.out _⟩
    · go_wp2
      go_ret
      exact ⟨⟨true, rfl, fun _ => UN.out fun j hj => HA.out j (by omega), fun _ => rfl⟩, QB.out⟩
end Go.Proofs.YtpjcdfphllbonaaDoor
