/-
  slices.Equal of lines and the reference's SameLines: whether the lines are the same. No condition but those of the slices.
-/
import Derived.Test.YtnfjcclblggbiaaDoorLIn
import Derived.Laws.StructEq
namespace Go.Proofs.YtnfjcclblggbiaaDoor
open Go.ChangeShapes Go.WideShapes Go.ChangeAt Go.RowKit

theorem drewN_add (w : World) (m k : Nat) : (w.drewN m).drewN k = w.drewN (m + k) := by unfold World.drewN; rw [Nat.add_assoc]

theorem leq_rows (n c1 c2 b1 o1 b2 o2 : Nat) (f g : Nat → Int) (x y : Nat → Str) (w : World) (hn : n ≤ 9000000000000)
    (h1 : ∀ k, k < n → w.cell? ⟨b1, o1 + k * 2, none⟩ = some (.int .i64 (f k)) ∧ w.cell? ⟨b1, o1 + k * 2 + 1, none⟩ = some (.string (bs (x k))))
    (h2 : ∀ k, k < n → w.cell? ⟨b2, o2 + k * 2, none⟩ = some (.int .i64 (g k)) ∧ w.cell? ⟨b2, o2 + k * 2 + 1, none⟩ = some (.string (bs (y k)))) :
    Calls Tryd.prog 18 #[.slice (some ⟨b1, o1, none⟩) n c1, .slice (some ⟨b2, o2, none⟩) n c2] w fun e w' => (∃ v : Bool, e = .returned (.bool v) ∧ (v = true ↔ ∀ k, k < n → f k = g k ∧ x k = y k)) ∧ ∃ k, w' = w.drewN k := by
  have H1 := Lib.hid h1; clear h1
  have H2 := Lib.hid h2; clear h2
  have BB : Hid (∀ a b : Str, ((bs a).toList == (bs b).toList) = decide (a = b)) := fun a b => by rw [bs_toList, bs_toList]; by_cases h : a = b <;> simp [h]
  go_enter Tryd.func18, Tryd.ntmps18
  go_wp2_with fail
  go_loopw [13] (fun i wr => ∃ k : Nat, k ≤ n ∧ i = .int .i64 k ∧ (∀ j, j < k → f j = g j ∧ x j = y j) ∧ ∃ m, wr = w.drewN m) (fun i _ => n - (intOf i).toNat)
  case atStart => exact ⟨0, Nat.zero_le _, rfl, fun _ h => absurd h (Nat.not_lt_zero _), 0, rfl⟩
  case round =>
    obtain ⟨k, hk, rfl, he, m, rfl⟩ := hrel
    have HE := Lib.hid he; clear he
    by_cases hlt : k < n
    · obtain ⟨c1, c2⟩ := H1.out k hlt
      obtain ⟨c3, c4⟩ := H2.out k hlt
      have e2 := BB.out (x k) (y k)
      by_cases hfg : f k = g k
      · by_cases hxy : x k = y k
        · have t1 : (f k == g k) = true := by rw [beq_iff_eq]; exact hfg
          rw [decide_eq_true hxy] at e2
          have HF := Lib.hid hfg; have HG := Lib.hid hxy; clear hfg hxy
          go_wp2_with fail
          go_quiet (fail)
          go_wp2
          go_roundw
          case rel =>
            refine ⟨k + 1, by omega, by go_num, ?_, _, rfl⟩
            intro j hj
            rcases Nat.lt_succ_iff_lt_or_eq.1 hj with h | h
            · exact HE.out j h
            · rw [h]; exact ⟨HF.out, HG.out⟩
          case measure => simp [intOf]; omega
        · have t1 : (f k == g k) = true := by rw [beq_iff_eq]; exact hfg
          rw [decide_eq_false hxy] at e2
          have HG := Lib.hid hxy; clear hfg hxy
          go_wp2_with fail
          go_quiet (fail)
          go_wp2
          go_ret
          exact ⟨⟨false, rfl, ⟨fun h => absurd h Bool.false_ne_true, fun h => absurd (h k hlt).2 HG.out⟩⟩, _, drewN_add _ _ _⟩
      · have t1 : (f k == g k) = false := by rw [beq_eq_false_iff_ne]; exact hfg
        have HF := Lib.hid hfg; clear hfg
        go_wp2_with fail
        go_quiet (fail)
        go_wp2
        go_ret
        exact ⟨⟨false, rfl, ⟨fun h => absurd h Bool.false_ne_true, fun h => absurd (h k hlt).1 HF.out⟩⟩, _, drewN_add _ _ _⟩
    · go_wp2
      go_ret
      obtain rfl : k = n := by omega
      exact ⟨⟨true, rfl, ⟨fun _ => HE.out, fun _ => rfl⟩⟩, _, rfl⟩
theorem leq_unlike (n1 n2 c1 c2 : Nat) (a1 a2 : Option Addr) (w : World) (h : n1 ≠ n2) :
    Calls Tryd.prog 18 #[.slice a1 n1 c1, .slice a2 n2 c2] w fun e w' => e = .returned (.bool false) ∧ w' = w := by
  have t : ((n1 : Int) != (n2 : Int)) = true := by rw [bne_iff_ne]; omega
  have H := Lib.hid h; clear h
  go_enter Tryd.func18, Tryd.ntmps18
  go_wp2
  go_ret
  exact ⟨rfl, rfl⟩
theorem leq_none (c1 c2 : Nat) (a1 a2 : Option Addr) (w : World) :
    Calls Tryd.prog 18 #[.slice a1 0 c1, .slice a2 0 c2] w fun e w' => e = .returned (.bool true) ∧ w' = w := by
  go_enter Tryd.func18, Tryd.ntmps18
  go_wp2_with fail
  go_rounds 1
  go_ret
  exact ⟨rfl, rfl⟩
theorem leq_of {w : World} {v1 v2 : Value} {z1 z2 : List Ln} (h1 : LIn w v1 z1) (h2 : LIn w v2 z2) :
    Calls Tryd.prog 18 #[v1, v2] w fun e w' => e = .returned (.bool (decide (z1 = z2))) ∧ ∃ q, w' = w.drewN q := by
  by_cases hl : z1.length = z2.length
  · have hb : z1.length ≤ 9000000000000 := by obtain ⟨_, _, _, _, _, h, _⟩ := h1; omega
    rcases h1.open with ⟨rfl, a, cap, rfl⟩ | ⟨hp, b, off, cap, rfl, _, _, hc⟩
    · have hz : z2 = [] := List.length_eq_zero_iff.1 hl.symm
      subst hz
      rcases h2.open with ⟨_, a', cap', rfl⟩ | ⟨hp, _⟩
      · exact (leq_none cap cap' a a' w).mono fun e w' k => ⟨k.1, 0, k.2⟩
      · exact absurd hp (Nat.not_lt_zero _)
    · rcases h2.open with ⟨rfl, _⟩ | ⟨hp2, b', off', cap', rfl, _, _, hc'⟩
      · rw [hl] at hp; exact absurd hp (Nat.not_lt_zero _)
      · have at1 : ∀ k, k < z1.length → z1[k]? = some (z1.getD k (0, [])) := fun k hk => by rw [List.getD, List.getElem?_eq_getElem hk]; rfl
        have at2 : ∀ k, k < z2.length → z2[k]? = some (z2.getD k (0, [])) := fun k hk => by rw [List.getD, List.getElem?_eq_getElem hk]; rfl
        rw [← hl]
        refine (leq_rows z1.length cap cap' b off b' off' (fun k => (z1.getD k (0, [])).1) (fun k => (z2.getD k (0, [])).1) (fun k => (z1.getD k (0, [])).2) (fun k => (z2.getD k (0, [])).2) w hb (fun k hk => hc k _ (at1 k hk)) (fun k hk => hc' k _ (at2 k (by omega)))).mono ?_
        rintro e w' ⟨⟨v, rfl, hv⟩, q, rfl⟩
        refine ⟨ret_b ?_, q, rfl⟩
        rw [Bool.eq_iff_iff, hv, decide_eq_true_iff]
        constructor
        · intro h
          apply List.ext_getElem hl
          intro k k1 k2
          have := h k k1
          rw [List.getD, List.getD, List.getElem?_eq_getElem k1, List.getElem?_eq_getElem k2] at this
          exact Prod.ext this.1 this.2
        · rintro rfl k _; exact ⟨rfl, rfl⟩
  · have e1 : decide (z1 = z2) = false := decide_eq_false (by rintro rfl; exact hl rfl)
    rw [e1]
    obtain ⟨a, c, rfl, _⟩ := h1
    obtain ⟨a', c', rfl, _⟩ := h2
    exact (leq_unlike _ _ c c' a a' w hl).mono fun e w' k => ⟨k.1, 0, k.2⟩

theorem same_rows (n c1 c2 b1 o1 b2 o2 : Nat) (f g : Nat → Int) (x y : Nat → Str) (w : World) (hn : n ≤ 9000000000000)
    (h1 : ∀ k, k < n → w.cell? ⟨b1, o1 + k * 2, none⟩ = some (.int .i64 (f k)) ∧ w.cell? ⟨b1, o1 + k * 2 + 1, none⟩ = some (.string (bs (x k))))
    (h2 : ∀ k, k < n → w.cell? ⟨b2, o2 + k * 2, none⟩ = some (.int .i64 (g k)) ∧ w.cell? ⟨b2, o2 + k * 2 + 1, none⟩ = some (.string (bs (y k)))) :
    Calls Tryd.prog 9 #[.slice (some ⟨b1, o1, none⟩) n c1, .slice (some ⟨b2, o2, none⟩) n c2] w fun e w' => (∃ v : Bool, e = .returned (.bool v) ∧ (v = true ↔ ∀ k, k < n → f k = g k ∧ x k = y k)) ∧ ∃ k, w' = w.drewN k := by
  have H1 := Lib.hid h1; clear h1
  have H2 := Lib.hid h2; clear h2
  have BB : Hid (∀ a b : Str, ((bs a).toList == (bs b).toList) = decide (a = b)) := fun a b => by rw [bs_toList, bs_toList]; by_cases h : a = b <;> simp [h]
  go_enter Tryd.func9, Tryd.ntmps9
  go_wp2_with fail
  go_loopw [13] (fun i wr => ∃ k : Nat, k ≤ n ∧ i = .int .i64 k ∧ (∀ j, j < k → f j = g j ∧ x j = y j) ∧ ∃ m, wr = w.drewN m) (fun i _ => n - (intOf i).toNat)
  case atStart => exact ⟨0, Nat.zero_le _, rfl, fun _ h => absurd h (Nat.not_lt_zero _), 0, rfl⟩
  case round =>
    obtain ⟨k, hk, rfl, he, m, rfl⟩ := hrel
    have HE := Lib.hid he; clear he
    by_cases hlt : k < n
    · obtain ⟨c1, c2⟩ := H1.out k hlt
      obtain ⟨c3, c4⟩ := H2.out k hlt
      have e2 := BB.out (x k) (y k)
      by_cases hfg : f k = g k
      · by_cases hxy : x k = y k
        · have t1 : (f k == g k) = true := by rw [beq_iff_eq]; exact hfg
          rw [decide_eq_true hxy] at e2
          have HF := Lib.hid hfg; have HG := Lib.hid hxy; clear hfg hxy
          go_wp2_with fail
          go_quiet (fail)
          go_wp2
          go_roundw
          case rel =>
            refine ⟨k + 1, by omega, by go_num, ?_, _, rfl⟩
            intro j hj
            rcases Nat.lt_succ_iff_lt_or_eq.1 hj with h | h
            · exact HE.out j h
            · rw [h]; exact ⟨HF.out, HG.out⟩
          case measure => simp [intOf]; omega
        · have t1 : (f k == g k) = true := by rw [beq_iff_eq]; exact hfg
          rw [decide_eq_false hxy] at e2
          have HG := Lib.hid hxy; clear hfg hxy
          go_wp2_with fail
          go_quiet (fail)
          go_wp2
          go_ret
          exact ⟨⟨false, rfl, ⟨fun h => absurd h Bool.false_ne_true, fun h => absurd (h k hlt).2 HG.out⟩⟩, _, drewN_add _ _ _⟩
      · have t1 : (f k == g k) = false := by rw [beq_eq_false_iff_ne]; exact hfg
        have HF := Lib.hid hfg; clear hfg
        go_wp2_with fail
        go_quiet (fail)
        go_wp2
        go_ret
        exact ⟨⟨false, rfl, ⟨fun h => absurd h Bool.false_ne_true, fun h => absurd (h k hlt).1 HF.out⟩⟩, _, drewN_add _ _ _⟩
    · go_wp2
      go_ret
      obtain rfl : k = n := by omega
      exact ⟨⟨true, rfl, ⟨fun _ => HE.out, fun _ => rfl⟩⟩, _, rfl⟩
theorem same_unlike (n1 n2 c1 c2 : Nat) (a1 a2 : Option Addr) (w : World) (h : n1 ≠ n2) :
    Calls Tryd.prog 9 #[.slice a1 n1 c1, .slice a2 n2 c2] w fun e w' => e = .returned (.bool false) ∧ w' = w := by
  have t : ((n1 : Int) != (n2 : Int)) = true := by rw [bne_iff_ne]; omega
  have H := Lib.hid h; clear h
  go_enter Tryd.func9, Tryd.ntmps9
  go_wp2
  go_ret
  exact ⟨rfl, rfl⟩
theorem same_none (c1 c2 : Nat) (a1 a2 : Option Addr) (w : World) :
    Calls Tryd.prog 9 #[.slice a1 0 c1, .slice a2 0 c2] w fun e w' => e = .returned (.bool true) ∧ w' = w := by
  go_enter Tryd.func9, Tryd.ntmps9
  go_wp2_with fail
  go_rounds 1
  go_ret
  exact ⟨rfl, rfl⟩
theorem same_of {w : World} {v1 v2 : Value} {z1 z2 : List Ln} (h1 : LIn w v1 z1) (h2 : LIn w v2 z2) :
    Calls Tryd.prog 9 #[v1, v2] w fun e w' => e = .returned (.bool (decide (z1 = z2))) ∧ ∃ q, w' = w.drewN q := by
  by_cases hl : z1.length = z2.length
  · have hb : z1.length ≤ 9000000000000 := by obtain ⟨_, _, _, _, _, h, _⟩ := h1; omega
    rcases h1.open with ⟨rfl, a, cap, rfl⟩ | ⟨hp, b, off, cap, rfl, _, _, hc⟩
    · have hz : z2 = [] := List.length_eq_zero_iff.1 hl.symm
      subst hz
      rcases h2.open with ⟨_, a', cap', rfl⟩ | ⟨hp, _⟩
      · exact (same_none cap cap' a a' w).mono fun e w' k => ⟨k.1, 0, k.2⟩
      · exact absurd hp (Nat.not_lt_zero _)
    · rcases h2.open with ⟨rfl, _⟩ | ⟨hp2, b', off', cap', rfl, _, _, hc'⟩
      · rw [hl] at hp; exact absurd hp (Nat.not_lt_zero _)
      · have at1 : ∀ k, k < z1.length → z1[k]? = some (z1.getD k (0, [])) := fun k hk => by rw [List.getD, List.getElem?_eq_getElem hk]; rfl
        have at2 : ∀ k, k < z2.length → z2[k]? = some (z2.getD k (0, [])) := fun k hk => by rw [List.getD, List.getElem?_eq_getElem hk]; rfl
        rw [← hl]
        refine (same_rows z1.length cap cap' b off b' off' (fun k => (z1.getD k (0, [])).1) (fun k => (z2.getD k (0, [])).1) (fun k => (z1.getD k (0, [])).2) (fun k => (z2.getD k (0, [])).2) w hb (fun k hk => hc k _ (at1 k hk)) (fun k hk => hc' k _ (at2 k (by omega)))).mono ?_
        rintro e w' ⟨⟨v, rfl, hv⟩, q, rfl⟩
        refine ⟨ret_b ?_, q, rfl⟩
        rw [Bool.eq_iff_iff, hv, decide_eq_true_iff]
        constructor
        · intro h
          apply List.ext_getElem hl
          intro k k1 k2
          have := h k k1
          rw [List.getD, List.getD, List.getElem?_eq_getElem k1, List.getElem?_eq_getElem k2] at this
          exact Prod.ext this.1 this.2
        · rintro rfl k _; exact ⟨rfl, rfl⟩
  · have e1 : decide (z1 = z2) = false := decide_eq_false (by rintro rfl; exact hl rfl)
    rw [e1]
    obtain ⟨a, c, rfl, _⟩ := h1
    obtain ⟨a', c', rfl, _⟩ := h2
    exact (same_unlike _ _ c c' a a' w hl).mono fun e w' k => ⟨k.1, 0, k.2⟩
end Go.Proofs.YtnfjcclblggbiaaDoor
