/-
  slices.Index and slices.Contains at edges; the law's own look at package graph (graphs). No condition.
-/
import Derived.Test.YtpjcdfphllbonaaDoorGRw
import Derived.Laws.StructEq
import Derived.Laws.Rows
import Derived.Laws.ResultCell
namespace Go.Proofs.YtpjcdfphllbonaaDoor
set_option maxRecDepth 100000
set_option linter.unusedVariables false
open Go.ChangeShapes Go.WideShapes Go.ChangeAt Go.RowKit

theorem beq_i (x y : Int) : (x == y) = decide (x = y) := by
  rw [Bool.eq_iff_iff]; simp
set_option maxHeartbeats 4000000 in
theorem idxE_any (z : List Ed) (x y : Int) (v : Value) (w : World) (h : EIn w v z) :
    Calls Tryd.prog 45 #[v, .agg #[.int .i64 x, .int .i64 y]] w fun e w' => (∃ i : Int, e = .returned (.int .i64 i) ∧ (0 ≤ i ↔ (x, y) ∈ z)) ∧ Below w.heap.size w w' := by
  have hn := h.bound
  have BA : Hid (Below w.heap.size w (w.alloc (.cells #[.int .i64 x, .int .i64 y] 49))) := (Below.refl _ _).alloc (Nat.le_refl _) _
  have b0 := blk_new w #[.int .i64 x, .int .i64 y] 49
  obtain ⟨a, cap, rfl, hc⟩ := ein_at h
  obtain ⟨W1, hW1⟩ : ∃ W1, W1 = w.alloc (.cells #[.int .i64 x, .int .i64 y] 49) := ⟨_, rfl⟩
  have HC := Lib.hid (fun k hk => hc _ BA.out k hk)
  have d1 := b0.cell (i := 0) rfl
  have d2 := b0.cell (i := 1) rfl
  rw [← hW1] at HC d1 d2 BA
  have D1 := Lib.hid d1; have D2 := Lib.hid d2
  have TK : Hid (∀ k, k < z.length → z.take (k + 1) = z.take k ++ [((edAt z k).1, (edAt z k).2)]) := fun k hk => ed_take hk
  have MM : Hid (∀ k, k < z.length → ((edAt z k).1, (edAt z k).2) ∈ z) := fun k hk => edAt_mem hk
  have TL := Lib.hid (List.take_length (l := z))
  have HW := Lib.hid hW1
  clear h b0 hc d1 d2 hW1
  generalize z.length = L at *
  go_enter Tryd.func45, Tryd.ntmps45
  go_wp2_with fail
  rw [← HW.out]
  have d1 := D1.out
  have d2 := D2.out
  generalize w.heap.size = N at d1 d2 ⊢
  go_loopw [8] (fun i wr => ∃ k : Nat, k ≤ L ∧ i = .int .i64 k ∧ (x, y) ∉ z.take k ∧ ∃ m, wr = W1.drewN m) (fun i _ => L - (intOf i).toNat)
  case atStart => exact ⟨0, Nat.zero_le _, rfl, by simp, 0, rfl⟩
  case round =>
    obtain ⟨k, hk, rfl, hno, m, rfl⟩ := hrel
    have NO := Lib.hid hno; clear hno
    by_cases hkl : k < L
    · obtain ⟨b, off, rfl, c1, c2⟩ := HC.out k hkl
      have T1 := Lib.hid (TK.out k hkl)
      have M1 := Lib.hid (MM.out k hkl)
      generalize (edAt z k).1 = p at *
      generalize (edAt z k).2 = q at *
      have e1 := beq_i x p
      have e2 := beq_i y q
      by_cases hx : x = p
      · rw [decide_eq_true hx] at e1
        by_cases hy : y = q
        · rw [decide_eq_true hy] at e2
          have IN : Hid ((x, y) ∈ z) := by show _ ∈ _; rw [hx, hy]; exact M1.out
          clear hx hy
          go_wp2_with fail
          go_quiet (fail)
          go_wp2
          go_ret
          exact ⟨⟨k, rfl, fun _ => IN.out, fun _ => by omega⟩, below_drewN (below_drewN BA.out _) _⟩
        · rw [decide_eq_false hy] at e2
          have NX : Hid ((x, y) ∉ z.take k ++ [(p, q)]) := by
            intro hm
            rcases List.mem_append.1 hm with hm | hm
            · exact NO.out hm
            · rw [List.mem_singleton] at hm; injection hm with h1 h2; exact hy h2
          clear hx hy
          go_wp2_with fail
          go_quiet (fail)
          go_wp2
          go_roundw
          case rel => exact ⟨k + 1, by omega, by go_num, by rw [T1.out]; exact NX.out, _, rfl⟩
          case measure => simp [intOf]; omega
      · rw [decide_eq_false hx] at e1
        have NX : Hid ((x, y) ∉ z.take k ++ [(p, q)]) := by
          intro hm
          rcases List.mem_append.1 hm with hm | hm
          · exact NO.out hm
          · rw [List.mem_singleton] at hm; injection hm with h1 h2; exact hx h1
        clear hx
        go_wp2_with fail
        go_quiet (fail)
        go_wp2
        go_roundw
        case rel => exact ⟨k + 1, by omega, by go_num, by rw [T1.out]; exact NX.out, _, rfl⟩
        case measure => simp [intOf]; omega
    · obtain rfl : k = L := by omega
      have OUT : Hid ((x, y) ∉ z) := by
        have h := NO.out
        rw [TL.out] at h
        exact h
      go_wp2
      go_ret
      exact ⟨⟨-1, rfl, fun h => absurd h (by omega), fun h => absurd h OUT.out⟩, below_drewN BA.out _⟩
set_option maxHeartbeats 4000000 in
theorem conE_any (z : List Ed) (x y : Int) (v : Value) (w : World) (h : EIn w v z) :
    Calls Tryd.prog 23 #[v, .agg #[.int .i64 x, .int .i64 y]] w fun e w' => (∃ b, e = .returned (.bool b) ∧ (b = true ↔ (x, y) ∈ z)) ∧ Below w.heap.size w w' := by
  have BA : Hid (Below w.heap.size w (w.alloc (.cells #[.int .i64 x, .int .i64 y] 49))) := (Below.refl _ _).alloc (Nat.le_refl _) _
  have b0 := blk_new w #[.int .i64 x, .int .i64 y] 49
  have d1 := b0.cell (i := 0) rfl
  have d2 := b0.cell (i := 1) rfl
  have IX := Lib.hid (idxE_any z x y v _ (h.later BA.out))
  clear h b0
  go_enter Tryd.func23, Tryd.ntmps23
  go_wp2_with fail
  refine IX.out.mono ?_
  rintro e w1 ⟨⟨i, rfl, hi⟩, hb⟩
  have B1 : Hid (Below w.heap.size w w1) := BA.out.trans (hb.mono BA.out.size)
  have HI := Lib.hid hi
  clear hb hi IX d1 d2
  go_wp2
  go_ret
  exact ⟨⟨decide (0 ≤ i), rfl, by rw [decide_eq_true_iff]; exact HI.out⟩, B1.out⟩

/-! the law's own look -/
def g0 : Gr := ⟨[[97], [98]], [(0, 1)], 0#64, 1#64⟩
theorem up_ab : Up [[97], [98]] := by unfold Up; simp; decide
theorem g0_valid : Valid g0 := by
  refine ⟨by decide, by decide, up_ab, fun x hx => ?_, List.pairwise_singleton _ _, fun i hi => ?_⟩
  · obtain rfl := List.mem_singleton.1 hx
    decide
  · match i, hi with
    | i + 2, _ =>
      rcases Nat.lt_or_ge (i + 2) 64 with h | h
      · show (0#64 ||| 1#64 : Bv).getLsbD (i + 2) = false
        rw [show (0#64 ||| 1#64 : Bv) = one 0 from by decide, one_bit _ _ h]; simp
      · exact bit_ge _ h
theorem g0_rows : wAt (rowsTo g0.ns.length g0.es) 0 = 2#64 := by decide
theorem cell2of3 {w : World} {o1 o3 : Obj} {xs : Array Value} {t : TypeId} {i : Nat} {x : Value} (h : xs[i]? = some x) : (((w.alloc o1).alloc (.cells xs t)).alloc o3).cell? ⟨w.heap.size + 1, i, none⟩ = some x := by
  have := Blk.cell ((blk_new (w.alloc o1) xs t).alloc o3) h
  rwa [show (w.alloc o1).heap.size = w.heap.size + 1 by simp] at this
theorem cell3of3 {w : World} {o1 o2 : Obj} {xs : Array Value} {t : TypeId} {i : Nat} {x : Value} (h : xs[i]? = some x) : (((w.alloc o1).alloc o2).alloc (.cells xs t)).cell? ⟨w.heap.size + 1 + 1, i, none⟩ = some x := by
  have := Blk.cell (blk_new ((w.alloc o1).alloc o2) xs t) h
  rwa [show ((w.alloc o1).alloc o2).heap.size = w.heap.size + 1 + 1 by simp] at this
theorem mill_any (w : World) : Calls Tryd.prog 44 #[] w fun e w' => ∃ v, e = .returned v ∧ GIn w' v g0 ∧ Below w.heap.size w w' := by
  go_enter Tryd.func44, Tryd.ntmps44
  go_wp2
  refine bodyPost_ret (results_cell_row rfl _ _ w.heap.size 26 _ (0, 0) _ rfl (((blk_new w _ 26).alloc _).alloc _) Tryd.underlying26 rfl (by kernel_rfl)) rfl ⟨_, rfl, ⟨_, _, rfl, ?_, ?_⟩, ?_⟩
  · refine ⟨_, _, rfl, by simp [g0], by simp [g0], by simp [g0], .inr ⟨_, 0, rfl, by simp, fun k hk => ?_⟩⟩
    match k, hk with
    | 0, _ => exact cell2of3 rfl
    | 1, _ => exact cell2of3 rfl
  · refine ⟨_, _, rfl, by simp [g0], by simp [maxLen], by simp [g0], .inr ⟨_, 0, rfl, by simp, fun k x hk => ?_⟩⟩
    match k, hk with
    | 0, hk => simp [g0] at hk; subst hk; exact ⟨cell3of3 rfl, cell3of3 rfl⟩
    | k + 1, hk => simp [g0] at hk
  · exact (((Below.refl _ w).alloc (Nat.le_refl _) _).alloc (by simp) _).alloc (by simp; omega) _
set_option maxHeartbeats 4000000 in
theorem graphs_true (w : World) :
    Calls Tryd.prog 21 #[] w fun e w' => e = .returned (.bool true) ∧ Below w.heap.size w w' := by
  have RV := Lib.hid (fun W V (h : GIn W V g0) => rows_any h)
  go_enter Tryd.func21, Tryd.ntmps21
  go_wp2_with fail
  refine (mill_any _).mono ?_
  rintro e w1 ⟨v, rfl, hg, b1⟩
  have RG := Lib.hid (RV.out _ _ hg)
  have B1 := Lib.hid b1
  clear hg b1
  go_wp2_with fail
  refine RG.out.mono ?_
  rintro e w2 ⟨b2, ⟨h, _⟩ | ⟨_, b, rfl, hb, o2⟩⟩
  · exact absurd (ckG_valid g0_valid) h
  have B2 := Lib.hid (B1.out.trans (b2.mono B1.out.size))
  have c0 := WO.cell (r := rowsTo g0.ns.length g0.es) (i := 0) (by have := rowsTo_length g0.ns.length g0.es; rw [this]; exact o2) (by rw [rowsTo_length]; decide)
  rw [g0_rows] at c0
  have hl : g0.ns.length = 2 := rfl
  rw [hl]
  clear b2 o2
  go_wp2
  go_ret
  exact ⟨rfl, B2.out⟩
end Go.Proofs.YtpjcdfphllbonaaDoor
