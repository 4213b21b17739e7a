/-
  Files that are the same: slices.Equal at macros and at inferences, slices.EqualFunc at rules, the program's equal and the laws' sameFile. No condition beyond the forms' own.
  Package file's ruleLine and linesOf: the lines of any file of bounded size. Condition: FB (names, values and rows of at most 2^24 bytes).
-/
import Derived.Test.YtebjofffijnihaaGreatDoorGc16FPr
import Derived.Test.YtebjofffijnihaaGreatDoorGc7LJn
import Derived.Deep.RegionHeld3
namespace Go.Proofs.YtebjofffijnihaaGreatDoor
set_option maxRecDepth 100000
set_option linter.unusedVariables false
open Go.ChangeShapes Go.WideShapes Go.ChangeAt Go.RowKit

theorem take_both {α : Type} {z y : List α} {k : Nat} {a b : α} (ha : z[k]? = some a) (hb : y[k]? = some b) : z.take (k + 1) = y.take (k + 1) ↔ z.take k = y.take k ∧ a = b := by
  rw [List.take_add_one, List.take_add_one, ha, hb]
  constructor
  · intro h
    have := List.append_inj' h rfl
    exact ⟨this.1, by simpa using this.2⟩
  · rintro ⟨h, rfl⟩; rw [h]
theorem pair_dec {a b : List Str} {c d : List Str} (h : a = b) : decide ((a, c) = (b, d)) = decide (c = d) := by
  subst h
  by_cases e : c = d
  · rw [decide_eq_true e, decide_eq_true (by rw [e])]
  · rw [decide_eq_false e, decide_eq_false (fun h => e (Prod.mk.inj h).2)]
set_option maxHeartbeats 4000000 in
theorem eqM_any {z y : List Mc} {v u : Value} {w : World} (h : McIn w v z) (g : McIn w u y) :
    Calls Tryz.prog 71 #[v, u] w fun e w' => e = .returned (.bool (decide (z = y))) ∧ ∃ q, w' = w.drewN q := by
  have hn : z.length ≤ 8796093022208 := by obtain ⟨_, _, _, _, _, h4, _⟩ := h; exact h4
  have gn : y.length ≤ 8796093022208 := by obtain ⟨_, _, _, _, _, h4, _⟩ := g; exact h4
  by_cases hl : z.length = y.length
  · rcases h.open with ⟨rfl, a, cap, rfl⟩ | ⟨hp, b, off, cap, rfl, hcap, hlt, hc⟩
    · obtain rfl : y = [] := List.length_eq_zero_iff.1 hl.symm
      obtain ⟨a', cap', rfl, _⟩ := g
      simp only [List.length_nil]
      clear h hl hn gn
      go_enter Tryz.func71, Tryz.ntmps71
      go_wp2_with fail
      go_rounds 1
      go_ret
      exact ⟨rfl, 0, rfl⟩
    · rcases g.open with ⟨rfl, _⟩ | ⟨_, b', off', cap', rfl, _, _, hd⟩
      · rw [hl] at hp; exact absurd hp (Nat.not_lt_zero _)
      have HC : Hid (∀ k, k < z.length → w.cell? ⟨b, off + k * 2, none⟩ = some (.string (bs (nm z k))) ∧ w.cell? ⟨b, off + k * 2 + 1, none⟩ = some (.string (bs (vl z k)))) := fun k hk => hc k _ (at_some hk)
      have HD : Hid (∀ k, k < z.length → w.cell? ⟨b', off' + k * 2, none⟩ = some (.string (bs (nm y k))) ∧ w.cell? ⟨b', off' + k * 2 + 1, none⟩ = some (.string (bs (vl y k)))) := fun k hk => hd k _ (at_some (by rw [← hl]; exact hk))
      have TK : Hid (∀ k, k < z.length → (z.take (k + 1) = y.take (k + 1) ↔ z.take k = y.take k ∧ (nm z k, vl z k) = (nm y k, vl y k))) := fun k hk => take_both (at_some hk) (at_some (by rw [← hl]; exact hk))
      have FIN : Hid (z.take z.length = y.take z.length → z = y) := fun e => by
        rw [List.take_length, hl, List.take_length] at e; exact e
      have NE : Hid (∀ k, z.take k ≠ y.take k → decide (z = y) = false) := fun k hk => decide_eq_false fun e => hk (by rw [e])
      rw [← hl] at gn ⊢
      clear h g hc hd hlt hl
      generalize nm z = f at *
      generalize vl z = f2 at *
      generalize nm y = g at *
      generalize vl y = g2 at *
      generalize z.length = L at *
      go_enter Tryz.func71, Tryz.ntmps71
      go_wp2_with fail
      go_loopw [13] (fun i wr => ∃ k : Nat, k ≤ L ∧ i = .int .i64 k ∧ z.take k = y.take k ∧ ∃ m, wr = w.drewN m) (fun i _ => L - (intOf i).toNat)
      case atStart => exact ⟨0, Nat.zero_le _, rfl, by simp, 0, rfl⟩
      case round =>
        obtain ⟨k, hk, rfl, heq, m, rfl⟩ := hrel
        have EQ := Lib.hid heq; clear heq
        by_cases hkl : k < L
        · obtain ⟨c1, c2⟩ := HC.out k hkl
          obtain ⟨d1, d2⟩ := HD.out k hkl
          have T1 := Lib.hid (TK.out k hkl)
          generalize f k = p at *
          generalize f2 k = q at *
          generalize g k = r at *
          generalize g2 k = s at *
          have e1 : ((bs p).toList == (bs r).toList) = decide (p = r) := by rw [bs_toList, bs_toList, beq_dec]
          have e2 : ((bs q).toList == (bs s).toList) = decide (q = s) := by rw [bs_toList, bs_toList, beq_dec]
          by_cases hx : p = r
          · rw [decide_eq_true hx] at e1
            by_cases hy : q = s
            · rw [decide_eq_true hy] at e2
              have NX : Hid (z.take (k + 1) = y.take (k + 1)) := T1.out.2 ⟨EQ.out, by rw [hx, hy]⟩
              clear hx hy
              go_wp2_with fail
              go_quiet (fail)
              go_wp2
              go_roundw
              case rel => exact ⟨k + 1, by omega, by go_num, NX.out, _, by first | rfl | exact World.drewN_drewN _ _ _⟩
              case measure => simp [intOf]; omega
            · rw [decide_eq_false hy] at e2
              have NX : Hid (decide (z = y) = false) := NE.out (k + 1) fun e => hy (Prod.mk.inj (T1.out.1 e).2).2
              clear hx hy
              go_wp2_with fail
              go_quiet (fail)
              go_wp2
              go_ret
              exact ⟨by rw [NX.out]; rfl, _, World.drewN_drewN _ _ _⟩
          · rw [decide_eq_false hx] at e1
            have NX : Hid (decide (z = y) = false) := NE.out (k + 1) fun e => hx (Prod.mk.inj (T1.out.1 e).2).1
            clear hx
            go_wp2_with fail
            go_quiet (fail)
            go_wp2
            go_ret
            exact ⟨by rw [NX.out]; rfl, _, World.drewN_drewN _ _ _⟩
        · obtain rfl : k = L := by omega
          have OUT : Hid (decide (z = y) = true) := decide_eq_true (FIN.out EQ.out)
          go_wp2
          go_ret
          exact ⟨by rw [OUT.out]; rfl, _, rfl⟩
  · have NX : Hid (decide (z = y) = false) := decide_eq_false (by rintro rfl; exact hl rfl)
    obtain ⟨a, c, rfl, _⟩ := h
    obtain ⟨a', c', rfl, _⟩ := g
    generalize z.length = n1 at *
    generalize y.length = n2 at *
    have e : (((n1 : Nat) : Int) == ((n2 : Nat) : Int)) = false := by rw [beq_eq_false_iff_ne]; omega
    go_enter Tryz.func71, Tryz.ntmps71
    go_wp2
    go_ret
    exact ⟨by rw [NX.out]; rfl, 0, rfl⟩
set_option maxHeartbeats 4000000 in
theorem eqI_any {z y : List Mc} {v u : Value} {w : World} (h : McIn w v z) (g : McIn w u y) :
    Calls Tryz.prog 72 #[v, u] w fun e w' => e = .returned (.bool (decide (z = y))) ∧ ∃ q, w' = w.drewN q := by
  have hn : z.length ≤ 8796093022208 := by obtain ⟨_, _, _, _, _, h4, _⟩ := h; exact h4
  have gn : y.length ≤ 8796093022208 := by obtain ⟨_, _, _, _, _, h4, _⟩ := g; exact h4
  by_cases hl : z.length = y.length
  · rcases h.open with ⟨rfl, a, cap, rfl⟩ | ⟨hp, b, off, cap, rfl, hcap, hlt, hc⟩
    · obtain rfl : y = [] := List.length_eq_zero_iff.1 hl.symm
      obtain ⟨a', cap', rfl, _⟩ := g
      simp only [List.length_nil]
      clear h hl hn gn
      go_enter Tryz.func72, Tryz.ntmps72
      go_wp2_with fail
      go_rounds 1
      go_ret
      exact ⟨rfl, 0, rfl⟩
    · rcases g.open with ⟨rfl, _⟩ | ⟨_, b', off', cap', rfl, _, _, hd⟩
      · rw [hl] at hp; exact absurd hp (Nat.not_lt_zero _)
      have HC : Hid (∀ k, k < z.length → w.cell? ⟨b, off + k * 2, none⟩ = some (.string (bs (nm z k))) ∧ w.cell? ⟨b, off + k * 2 + 1, none⟩ = some (.string (bs (vl z k)))) := fun k hk => hc k _ (at_some hk)
      have HD : Hid (∀ k, k < z.length → w.cell? ⟨b', off' + k * 2, none⟩ = some (.string (bs (nm y k))) ∧ w.cell? ⟨b', off' + k * 2 + 1, none⟩ = some (.string (bs (vl y k)))) := fun k hk => hd k _ (at_some (by rw [← hl]; exact hk))
      have TK : Hid (∀ k, k < z.length → (z.take (k + 1) = y.take (k + 1) ↔ z.take k = y.take k ∧ (nm z k, vl z k) = (nm y k, vl y k))) := fun k hk => take_both (at_some hk) (at_some (by rw [← hl]; exact hk))
      have FIN : Hid (z.take z.length = y.take z.length → z = y) := fun e => by
        rw [List.take_length, hl, List.take_length] at e; exact e
      have NE : Hid (∀ k, z.take k ≠ y.take k → decide (z = y) = false) := fun k hk => decide_eq_false fun e => hk (by rw [e])
      rw [← hl] at gn ⊢
      clear h g hc hd hlt hl
      generalize nm z = f at *
      generalize vl z = f2 at *
      generalize nm y = g at *
      generalize vl y = g2 at *
      generalize z.length = L at *
      go_enter Tryz.func72, Tryz.ntmps72
      go_wp2_with fail
      go_loopw [13] (fun i wr => ∃ k : Nat, k ≤ L ∧ i = .int .i64 k ∧ z.take k = y.take k ∧ ∃ m, wr = w.drewN m) (fun i _ => L - (intOf i).toNat)
      case atStart => exact ⟨0, Nat.zero_le _, rfl, by simp, 0, rfl⟩
      case round =>
        obtain ⟨k, hk, rfl, heq, m, rfl⟩ := hrel
        have EQ := Lib.hid heq; clear heq
        by_cases hkl : k < L
        · obtain ⟨c1, c2⟩ := HC.out k hkl
          obtain ⟨d1, d2⟩ := HD.out k hkl
          have T1 := Lib.hid (TK.out k hkl)
          generalize f k = p at *
          generalize f2 k = q at *
          generalize g k = r at *
          generalize g2 k = s at *
          have e1 : ((bs p).toList == (bs r).toList) = decide (p = r) := by rw [bs_toList, bs_toList, beq_dec]
          have e2 : ((bs q).toList == (bs s).toList) = decide (q = s) := by rw [bs_toList, bs_toList, beq_dec]
          by_cases hx : p = r
          · rw [decide_eq_true hx] at e1
            by_cases hy : q = s
            · rw [decide_eq_true hy] at e2
              have NX : Hid (z.take (k + 1) = y.take (k + 1)) := T1.out.2 ⟨EQ.out, by rw [hx, hy]⟩
              clear hx hy
              go_wp2_with fail
              go_quiet (fail)
              go_wp2
              go_roundw
              case rel => exact ⟨k + 1, by omega, by go_num, NX.out, _, by first | rfl | exact World.drewN_drewN _ _ _⟩
              case measure => simp [intOf]; omega
            · rw [decide_eq_false hy] at e2
              have NX : Hid (decide (z = y) = false) := NE.out (k + 1) fun e => hy (Prod.mk.inj (T1.out.1 e).2).2
              clear hx hy
              go_wp2_with fail
              go_quiet (fail)
              go_wp2
              go_ret
              exact ⟨by rw [NX.out]; rfl, _, World.drewN_drewN _ _ _⟩
          · rw [decide_eq_false hx] at e1
            have NX : Hid (decide (z = y) = false) := NE.out (k + 1) fun e => hx (Prod.mk.inj (T1.out.1 e).2).1
            clear hx
            go_wp2_with fail
            go_quiet (fail)
            go_wp2
            go_ret
            exact ⟨by rw [NX.out]; rfl, _, World.drewN_drewN _ _ _⟩
        · obtain rfl : k = L := by omega
          have OUT : Hid (decide (z = y) = true) := decide_eq_true (FIN.out EQ.out)
          go_wp2
          go_ret
          exact ⟨by rw [OUT.out]; rfl, _, rfl⟩
  · have NX : Hid (decide (z = y) = false) := decide_eq_false (by rintro rfl; exact hl rfl)
    obtain ⟨a, c, rfl, _⟩ := h
    obtain ⟨a', c', rfl, _⟩ := g
    generalize z.length = n1 at *
    generalize y.length = n2 at *
    have e : (((n1 : Nat) : Int) == ((n2 : Nat) : Int)) = false := by rw [beq_eq_false_iff_ne]; omega
    go_enter Tryz.func72, Tryz.ntmps72
    go_wp2
    go_ret
    exact ⟨by rw [NX.out]; rfl, 0, rfl⟩
set_option maxHeartbeats 2000000 in
theorem alikeP {w : World} {x1 y1 x2 y2 : Value} {t1 n1 t2 n2 : List Str} (h1 : SIn w x1 t1) (k1 : SIn w y1 n1) (h2 : SIn w x2 t2) (k2 : SIn w y2 n2) :
    Calls Tryz.prog 74 #[.agg #[x1, y1], .agg #[x2, y2]] w fun e w' => e = .returned (.bool (decide ((t1, n1) = (t2, n2)))) ∧ Below w.heap.size w w' := by
  have BA : Hid (Below w.heap.size w ((w.alloc (.cells #[x1, y1] 40)).alloc (.cells #[x2, y2] 40))) := ((Below.refl _ w).alloc (Nat.le_refl _) _).alloc (by simp) _
  have H1 := Lib.hid (h1.later BA.out); have H2 := Lib.hid (h2.later BA.out)
  have K1 := Lib.hid (k1.later BA.out); have K2 := Lib.hid (k2.later BA.out)
  have E1 := Lib.hid (equal_of H1.out H2.out)
  have E2 : Hid (∀ q, Calls Tryz.prog 19 #[y1, y2] (((w.alloc (.cells #[x1, y1] 40)).alloc (.cells #[x2, y2] 40)).drewN q) fun e w' => e = .returned (.bool (decide (n1 = n2))) ∧ ∃ p, w' = (((w.alloc (.cells #[x1, y1] 40)).alloc (.cells #[x2, y2] 40)).drewN q).drewN p) := fun q =>
    equal_of (w := ((w.alloc (.cells #[x1, y1] 40)).alloc (.cells #[x2, y2] 40)).drewN q) (K1.out.later (below_drewN (Below.refl _ _) q)) (K2.out.later (below_drewN (Below.refl _ _) q))
  have PT : Hid (t1 = t2 → decide ((t1, n1) = (t2, n2)) = decide (n1 = n2)) := fun e => pair_dec e
  have PF : Hid (t1 ≠ t2 → decide ((t1, n1) = (t2, n2)) = false) := fun e => decide_eq_false fun h => e (Prod.mk.inj h).1
  obtain ⟨a1, c1, rfl⟩ := h1.shape
  obtain ⟨a2, c2, rfl⟩ := h2.shape
  obtain ⟨a3, c3, rfl⟩ := k1.shape
  obtain ⟨a4, c4, rfl⟩ := k2.shape
  clear h1 h2 k1 k2 H1 H2 K1 K2
  by_cases ht : t1 = t2
  · rw [decide_eq_true ht] at E1
    rw [PT.out ht]
    clear ht PT PF
    generalize decide (n1 = n2) = d at *
    generalize t1.length = lt1 at *
    generalize t2.length = lt2 at *
    generalize n1.length = ln1 at *
    generalize n2.length = ln2 at *
    go_enter Tryz.func74, Tryz.ntmps74
    go_wp2_with fail
    refine E1.out.mono ?_
    rintro e w' ⟨rfl, q, rfl⟩
    go_wp2_with fail
    refine (E2.out q).mono ?_
    rintro e w' ⟨rfl, p, rfl⟩
    go_wp2
    go_ret
    exact ⟨rfl, below_drewN BA.out _⟩
  · rw [decide_eq_false ht] at E1
    rw [PF.out ht]
    clear ht PT PF E2
    generalize t1.length = lt1 at *
    generalize t2.length = lt2 at *
    generalize n1.length = ln1 at *
    generalize n2.length = ln2 at *
    go_enter Tryz.func74, Tryz.ntmps74
    go_wp2_with fail
    refine E1.out.mono ?_
    rintro e w' ⟨rfl, q, rfl⟩
    go_wp2
    go_ret
    exact ⟨rfl, below_drewN BA.out _⟩
set_option maxHeartbeats 4000000 in
theorem eqRP {w : World} {v1 v2 : Value} {z y : List Rl} (h1 : RIn w v1 z) (h2 : RIn w v2 y) :
    Calls Tryz.prog 73 #[v1, v2, .func (.func 74) #[] #[]] w fun e w' => e = .returned (.bool (decide (z = y))) ∧ Below w.heap.size w w' := by
  have hn := h1.bound
  have gn := h2.bound
  by_cases hl : z.length = y.length
  · rcases h1.open with ⟨rfl, a1, k1, rfl⟩ | ⟨hp, b1, o1, k1, rfl, hk1, hlt1, T1, U1, hc1⟩
    · obtain rfl : y = [] := List.length_eq_zero_iff.1 hl.symm
      obtain ⟨a2, k2, rfl, _⟩ := h2
      clear h1 hn gn hl
      simp only [List.length_nil]
      go_enter Tryz.func73, Tryz.ntmps73
      go_wp2_with fail
      go_rounds 1
      go_ret
      exact ⟨rfl, Below.refl _ _⟩
    · rcases h2.open with ⟨rfl, _⟩ | ⟨_, b2, o2, k2, rfl, hk2, hlt2, T2, U2, hc2⟩
      · rw [hl] at hp; exact absurd hp (Nat.not_lt_zero _)
      have H1 : Hid (∀ W, Below w.heap.size w W → ∀ k, k < z.length → W.cell? ⟨b1, o1 + k * 2, none⟩ = some (T1 k) ∧ W.cell? ⟨b1, o1 + k * 2 + 1, none⟩ = some (U1 k) ∧ SIn W (T1 k) (tg z k) ∧ SIn W (U1 k) (nd z k)) := fun W hW k hk => ⟨cell_later hW (hc1 k hk).1, cell_later hW (hc1 k hk).2.1, (hc1 k hk).2.2.1.later hW, (hc1 k hk).2.2.2.later hW⟩
      have H2 : Hid (∀ W, Below w.heap.size w W → ∀ k, k < z.length → W.cell? ⟨b2, o2 + k * 2, none⟩ = some (T2 k) ∧ W.cell? ⟨b2, o2 + k * 2 + 1, none⟩ = some (U2 k) ∧ SIn W (T2 k) (tg y k) ∧ SIn W (U2 k) (nd y k)) := fun W hW k hk => by
        rw [hl] at hk
        exact ⟨cell_later hW (hc2 k hk).1, cell_later hW (hc2 k hk).2.1, (hc2 k hk).2.2.1.later hW, (hc2 k hk).2.2.2.later hW⟩
      have TK : Hid (∀ k, k < z.length → (z.take (k + 1) = y.take (k + 1) ↔ z.take k = y.take k ∧ (tg z k, nd z k) = (tg y k, nd y k))) := fun k hk => take_both (rl_some hk) (rl_some (by rw [← hl]; exact hk))
      have FIN : Hid (z.take z.length = y.take z.length → z = y) := fun e => by
        rw [List.take_length, hl, List.take_length] at e; exact e
      have NE : Hid (∀ k, z.take k ≠ y.take k → decide (z = y) = false) := fun k hk => decide_eq_false fun e => hk (by rw [e])
      rw [← hl] at gn ⊢
      clear h1 h2 hc1 hc2 hlt1 hlt2 hl
      generalize hL : z.length = L at *
      clear hL
      go_enter Tryz.func73, Tryz.ntmps73
      go_wp2_with fail
      go_loopw [17] (fun i wr => ∃ k : Nat, k ≤ L ∧ i = .int .i64 (k : Int) ∧ z.take k = y.take k ∧ Below w.heap.size w wr) (fun i _ => L - (intOf i).toNat)
      case atStart => exact ⟨0, by omega, rfl, by simp, Below.refl _ _⟩
      case round =>
        obtain ⟨k, hk, rfl, heq, qb⟩ := hrel
        have QB := Lib.hid qb; have EQ := Lib.hid heq; clear qb heq
        by_cases hkl : k < L
        · obtain ⟨c1, d1, s1, r1⟩ := H1.out wr QB.out k hkl
          have TT := Lib.hid (TK.out k hkl)
          have BA : Hid (∀ o, Below wr.heap.size wr (wr.alloc o)) := fun o => (Below.refl _ _).alloc (Nat.le_refl _) o
          have BA2 : Hid (∀ o1 o2, Below wr.heap.size wr ((wr.alloc o1).alloc o2)) := fun o1 o2 => ((Below.refl _ _).alloc (Nat.le_refl _) o1).alloc (by simp) o2
          obtain ⟨c2, d2, s2, r2⟩ := H2.out wr QB.out k hkl
          have C2 : Hid (∀ o, (wr.alloc o).cell? ⟨b2, o2 + k * 2, none⟩ = some (T2 k) ∧ (wr.alloc o).cell? ⟨b2, o2 + k * 2 + 1, none⟩ = some (U2 k)) := fun o => ⟨cell_later (BA.out o) c2, cell_later (BA.out o) d2⟩
          have AL : Hid (∀ o1 o2, Calls Tryz.prog 74 #[.agg #[T1 k, U1 k], .agg #[T2 k, U2 k]] ((wr.alloc o1).alloc o2) fun e w' => e = .returned (.bool (decide ((tg z k, nd z k) = (tg y k, nd y k)))) ∧ Below wr.heap.size wr w') := fun p1 p2 =>
            (alikeP (s1.later (BA2.out p1 p2)) (r1.later (BA2.out p1 p2)) (s2.later (BA2.out p1 p2)) (r2.later (BA2.out p1 p2))).mono fun e w' ⟨he, hb⟩ => ⟨he, (BA2.out p1 p2).trans (hb.mono (BA2.out p1 p2).size)⟩
          generalize T1 k = x1 at *
          generalize T2 k = x2 at *
          generalize U1 k = y1 at *
          generalize U2 k = y2 at *
          obtain ⟨ax1, cx1, rfl⟩ := s1.shape
          obtain ⟨ax2, cx2, rfl⟩ := s2.shape
          obtain ⟨ay1, cy1, rfl⟩ := r1.shape
          obtain ⟨ay2, cy2, rfl⟩ := r2.shape
          clear s1 s2 r1 r2
          generalize (tg z k).length = lt at *
          generalize (nd z k).length = ln at *
          generalize (tg y k).length = mt at *
          generalize (nd y k).length = mn at *
          obtain ⟨f2, g2⟩ := C2.out (.cells #[.slice ax1 lt cx1, .slice ay1 ln cy1] 40)
          by_cases he : (tg z k, nd z k) = (tg y k, nd y k)
          · rw [decide_eq_true he] at AL
            have NX : Hid (z.take (k + 1) = y.take (k + 1)) := TT.out.2 ⟨EQ.out, he⟩
            clear he TT
            go_wp2_with fail
            refine (AL.out _ _).mono ?_
            rintro e w' ⟨rfl, b3⟩
            have B3 := Lib.hid (QB.out.trans (b3.mono QB.out.size)); clear b3
            go_wp2
            go_roundw
            case rel => exact ⟨k + 1, by omega, by go_num, NX.out, B3.out⟩
            case measure => simp [intOf]; omega
          · rw [decide_eq_false he] at AL
            have NX : Hid (decide (z = y) = false) := NE.out (k + 1) fun e => he (TT.out.1 e).2
            clear he TT
            go_wp2_with fail
            refine (AL.out _ _).mono ?_
            rintro e w' ⟨rfl, b3⟩
            have B3 := Lib.hid (QB.out.trans (b3.mono QB.out.size)); clear b3
            go_wp2
            go_ret
            exact ⟨by rw [NX.out]; rfl, B3.out⟩
        · obtain rfl : k = L := by omega
          have OUT : Hid (decide (z = y) = true) := decide_eq_true (FIN.out EQ.out)
          go_wp2
          go_ret
          exact ⟨by rw [OUT.out]; rfl, QB.out⟩
  · have NX : Hid (decide (z = y) = false) := decide_eq_false (by rintro rfl; exact hl rfl)
    obtain ⟨a, c, rfl, _⟩ := h1
    obtain ⟨a', c', rfl, _⟩ := h2
    generalize z.length = n1 at *
    generalize y.length = n2 at *
    have e : (((n1 : Nat) : Int) == ((n2 : Nat) : Int)) = false := by rw [beq_eq_false_iff_ne]; omega
    go_enter Tryz.func73, Tryz.ntmps73
    go_wp2
    go_ret
    exact ⟨by rw [NX.out]; rfl, Below.refl _ _⟩
instance decFil : DecidableEq Fil := @instDecidableEqProd _ _ inferInstance (@instDecidableEqProd _ _ inferInstance (@instDecidableEqProd _ _ inferInstance inferInstance))
set_option maxHeartbeats 4000000 in
theorem sameP {w : World} {m1 p1 i1 r1 m2 p2 i2 r2 : Value} {F G : Fil} (h : FIn w m1 p1 i1 r1 F) (g : FIn w m2 p2 i2 r2 G) :
    Calls Tryz.prog 48 #[.agg #[m1, p1, i1, r1], .agg #[m2, p2, i2, r2]] w fun e w' => e = .returned (.bool (decide (F = G))) ∧ Below w.heap.size w w' := by
  obtain ⟨F1, F2, F3, F4⟩ := F
  obtain ⟨G1, G2, G3, G4⟩ := G
  obtain ⟨ha, hb, hc, hd⟩ := h
  obtain ⟨ga, gb, gc, gd⟩ := g
  simp only [] at ha hb hc hd ga gb gc gd
  have BA : Hid (Below w.heap.size w ((w.alloc (.cells #[m1, p1, i1, r1] 27)).alloc (.cells #[m2, p2, i2, r2] 27))) := ((Below.refl _ w).alloc (Nat.le_refl _) _).alloc (by simp) _
  obtain ⟨x1, y1, rfl⟩ : ∃ a c, m1 = .slice a F1.length c := by obtain ⟨a, c, h, _⟩ := ha; exact ⟨a, c, h⟩
  obtain ⟨x2, y2, rfl⟩ := hb.shape
  obtain ⟨x3, y3, rfl⟩ : ∃ a c, i1 = .slice a F3.length c := by obtain ⟨a, c, h, _⟩ := hc; exact ⟨a, c, h⟩
  obtain ⟨x4, y4, rfl⟩ : ∃ a c, r1 = .slice a F4.length c := by obtain ⟨a, c, h, _⟩ := hd; exact ⟨a, c, h⟩
  obtain ⟨x5, y5, rfl⟩ : ∃ a c, m2 = .slice a G1.length c := by obtain ⟨a, c, h, _⟩ := ga; exact ⟨a, c, h⟩
  obtain ⟨x6, y6, rfl⟩ := gb.shape
  obtain ⟨x7, y7, rfl⟩ : ∃ a c, i2 = .slice a G3.length c := by obtain ⟨a, c, h, _⟩ := gc; exact ⟨a, c, h⟩
  obtain ⟨x8, y8, rfl⟩ : ∃ a c, r2 = .slice a G4.length c := by obtain ⟨a, c, h, _⟩ := gd; exact ⟨a, c, h⟩
  have E1 : Hid (Calls Tryz.prog 71 #[.slice x1 F1.length y1, .slice x5 G1.length y5] ((w.alloc (.cells #[.slice x1 F1.length y1, .slice x2 F2.length y2, .slice x3 F3.length y3, .slice x4 F4.length y4] 27)).alloc (.cells #[.slice x5 G1.length y5, .slice x6 G2.length y6, .slice x7 G3.length y7, .slice x8 G4.length y8] 27)) fun e w' => e = .returned (.bool (decide (F1 = G1))) ∧ ∃ p, w' = ((w.alloc (.cells #[.slice x1 F1.length y1, .slice x2 F2.length y2, .slice x3 F3.length y3, .slice x4 F4.length y4] 27)).alloc (.cells #[.slice x5 G1.length y5, .slice x6 G2.length y6, .slice x7 G3.length y7, .slice x8 G4.length y8] 27)).drewN p) := eqM_any (ha.later BA.out) (ga.later BA.out)
  have E2 : Hid (∀ q, Calls Tryz.prog 19 #[.slice x2 F2.length y2, .slice x6 G2.length y6] (((w.alloc (.cells #[.slice x1 F1.length y1, .slice x2 F2.length y2, .slice x3 F3.length y3, .slice x4 F4.length y4] 27)).alloc (.cells #[.slice x5 G1.length y5, .slice x6 G2.length y6, .slice x7 G3.length y7, .slice x8 G4.length y8] 27)).drewN q) fun e w' => e = .returned (.bool (decide (F2 = G2))) ∧ ∃ p, w' = (((w.alloc (.cells #[.slice x1 F1.length y1, .slice x2 F2.length y2, .slice x3 F3.length y3, .slice x4 F4.length y4] 27)).alloc (.cells #[.slice x5 G1.length y5, .slice x6 G2.length y6, .slice x7 G3.length y7, .slice x8 G4.length y8] 27)).drewN q).drewN p) := fun q => equal_of (hb.later (below_drewN BA.out q)) (gb.later (below_drewN BA.out q))
  have E3 : Hid (∀ q, Calls Tryz.prog 72 #[.slice x3 F3.length y3, .slice x7 G3.length y7] (((w.alloc (.cells #[.slice x1 F1.length y1, .slice x2 F2.length y2, .slice x3 F3.length y3, .slice x4 F4.length y4] 27)).alloc (.cells #[.slice x5 G1.length y5, .slice x6 G2.length y6, .slice x7 G3.length y7, .slice x8 G4.length y8] 27)).drewN q) fun e w' => e = .returned (.bool (decide (F3 = G3))) ∧ ∃ p, w' = (((w.alloc (.cells #[.slice x1 F1.length y1, .slice x2 F2.length y2, .slice x3 F3.length y3, .slice x4 F4.length y4] 27)).alloc (.cells #[.slice x5 G1.length y5, .slice x6 G2.length y6, .slice x7 G3.length y7, .slice x8 G4.length y8] 27)).drewN q).drewN p) := fun q => eqI_any (hc.later (below_drewN BA.out q)) (gc.later (below_drewN BA.out q))
  have E4 : Hid (∀ q, Calls Tryz.prog 73 #[.slice x4 F4.length y4, .slice x8 G4.length y8, .func (.func 74) #[] #[]] (((w.alloc (.cells #[.slice x1 F1.length y1, .slice x2 F2.length y2, .slice x3 F3.length y3, .slice x4 F4.length y4] 27)).alloc (.cells #[.slice x5 G1.length y5, .slice x6 G2.length y6, .slice x7 G3.length y7, .slice x8 G4.length y8] 27)).drewN q) fun e w' => e = .returned (.bool (decide (F4 = G4))) ∧ Below w.heap.size w w') := fun q => (eqRP (hd.later (below_drewN BA.out q)) (gd.later (below_drewN BA.out q))).mono fun e w' k => ⟨k.1, (below_drewN BA.out q).trans (k.2.mono (below_drewN BA.out q).size)⟩
  have T0 : Hid (F1 = G1 → F2 = G2 → F3 = G3 → decide (((F1, F2, F3, F4) : Fil) = (G1, G2, G3, G4)) = decide (F4 = G4)) := by
    rintro rfl rfl rfl
    by_cases e : F4 = G4
    · rw [decide_eq_true e, decide_eq_true (by rw [e])]
    · rw [decide_eq_false e, decide_eq_false (fun h => e (by injection h with _ h; injection h with _ h; injection h))]
  have N1 : Hid (¬ (F1 = G1 ∧ F2 = G2 ∧ F3 = G3) → decide (((F1, F2, F3, F4) : Fil) = (G1, G2, G3, G4)) = false) := fun e => decide_eq_false fun h => e (by injection h with a h; injection h with b h; injection h with c h; exact ⟨a, b, c⟩)
  clear ha hb hc hd ga gb gc gd
  by_cases h1 : F1 = G1
  · rw [decide_eq_true h1] at E1
    by_cases h2 : F2 = G2
    · rw [decide_eq_true h2] at E2
      by_cases h3 : F3 = G3
      · rw [decide_eq_true h3] at E3
        rw [T0.out h1 h2 h3]
        clear h1 h2 h3 T0 N1
        generalize decide (F4 = G4) = d at *
        generalize F1.length = lf1 at *
        generalize F2.length = lf2 at *
        generalize F3.length = lf3 at *
        generalize F4.length = lf4 at *
        generalize G1.length = lg1 at *
        generalize G2.length = lg2 at *
        generalize G3.length = lg3 at *
        generalize G4.length = lg4 at *
        go_enter Tryz.func48, Tryz.ntmps48
        go_wp2_with fail
        refine E1.out.mono ?_
        rintro e w' ⟨rfl, q1, rfl⟩
        go_wp2_with fail
        refine (E2.out _).mono ?_
        rintro e w' ⟨rfl, q2, rfl⟩
        go_wp2_with fail
        refine (E3.out _).mono ?_
        rintro e w' ⟨rfl, q3, rfl⟩
        go_wp2_with fail
        refine (E4.out _).mono ?_
        rintro e w' ⟨rfl, hb⟩
        have HB := Lib.hid hb; clear hb
        go_wp2
        go_ret
        exact ⟨rfl, HB.out⟩
      · rw [decide_eq_false h3] at E3
        rw [N1.out (fun e => h3 e.2.2)]
        clear h1 h2 h3 T0 N1
        generalize F1.length = lf1 at *
        generalize F2.length = lf2 at *
        generalize F3.length = lf3 at *
        generalize F4.length = lf4 at *
        generalize G1.length = lg1 at *
        generalize G2.length = lg2 at *
        generalize G3.length = lg3 at *
        generalize G4.length = lg4 at *
        go_enter Tryz.func48, Tryz.ntmps48
        go_wp2_with fail
        refine E1.out.mono ?_
        rintro e w' ⟨rfl, q1, rfl⟩
        go_wp2_with fail
        refine (E2.out _).mono ?_
        rintro e w' ⟨rfl, q2, rfl⟩
        go_wp2_with fail
        refine (E3.out _).mono ?_
        rintro e w' ⟨rfl, q3, rfl⟩
        go_wp2
        go_ret
        exact ⟨rfl, below_drewN BA.out _⟩
    · rw [decide_eq_false h2] at E2
      rw [N1.out (fun e => h2 e.2.1)]
      clear h1 h2 T0 N1
      generalize F1.length = lf1 at *
      generalize F2.length = lf2 at *
      generalize F3.length = lf3 at *
      generalize F4.length = lf4 at *
      generalize G1.length = lg1 at *
      generalize G2.length = lg2 at *
      generalize G3.length = lg3 at *
      generalize G4.length = lg4 at *
      go_enter Tryz.func48, Tryz.ntmps48
      go_wp2_with fail
      refine E1.out.mono ?_
      rintro e w' ⟨rfl, q1, rfl⟩
      go_wp2_with fail
      refine (E2.out _).mono ?_
      rintro e w' ⟨rfl, q2, rfl⟩
      go_wp2
      go_ret
      exact ⟨rfl, below_drewN BA.out _⟩
  · rw [decide_eq_false h1] at E1
    rw [N1.out (fun e => h1 e.1)]
    clear h1 T0 N1
    generalize F1.length = lf1 at *
    generalize F2.length = lf2 at *
    generalize F3.length = lf3 at *
    generalize F4.length = lf4 at *
    generalize G1.length = lg1 at *
    generalize G2.length = lg2 at *
    generalize G3.length = lg3 at *
    generalize G4.length = lg4 at *
    go_enter Tryz.func48, Tryz.ntmps48
    go_wp2_with fail
    refine E1.out.mono ?_
    rintro e w' ⟨rfl, q1, rfl⟩
    go_wp2
    go_ret
    exact ⟨rfl, below_drewN BA.out _⟩
end Go.Proofs.YtebjofffijnihaaGreatDoor

namespace Go.Proofs.YtebjofffijnihaaGreatDoor
set_option maxRecDepth 100000
set_option linter.unusedVariables false
open Go.ChangeShapes Go.WideShapes Go.ChangeAt Go.RowKit

def flatM (n : List Str) : Str := n.flatMap fun x => 32 :: x
def lineU (j : Str) (n : List Str) : Str := j ++ 32 :: 58 :: flatM n
theorem flatM_take {n : List Str} {k : Nat} (h : k < n.length) : flatM (n.take (k + 1)) = flatM (n.take k) ++ 32 :: n.getD k [] := by
  unfold flatM
  rw [List.take_add_one, List.getElem?_eq_getElem h, List.flatMap_append, List.getD, List.getElem?_eq_getElem h]
  simp
theorem flatM_len : ∀ (n : List Str), (flatM n).length = bulk n
  | [] => by simp [flatM, bulk]
  | x :: r => by
    have e : flatM (x :: r) = (32 :: x) ++ flatM r := by simp [flatM]
    rw [e, List.length_append, bulk_cons, flatM_len r, List.length_cons]
theorem bulk_take : ∀ (n : List Str) (k : Nat), bulk (n.take k) ≤ bulk n
  | [], k => by simp
  | x :: r, 0 => by simp [bulk]
  | x :: r, k + 1 => by rw [List.take_succ_cons, bulk_cons, bulk_cons]; have := bulk_take r k; omega
theorem lineU_len (j : Str) (n : List Str) : (lineU j n).length = j.length + 2 + bulk n := by
  unfold lineU; rw [List.length_append, List.length_cons, List.length_cons, flatM_len]; omega
theorem lineT_eq (t n : List Str) : lineT t n = lineU (Lib.join t [32]) n := rfl
theorem lineT_one (x : Str) (n : List Str) : lineT [x] n = lineU x n := by rw [lineT_eq]; simp [Lib.join]
set_option maxHeartbeats 4000000 in
theorem ruleLine_any {w : World} {vn : Value} {n : List Str} (t : Str) (hn : SIn w vn n) (ht : t.length ≤ 33554432) (hb : bulk n ≤ 33554432) :
    Calls Tryz.prog 65 #[.string (bs t), vn] w fun e w' => e = .returned (.string (bs (lineU t n))) ∧ Below w.heap.size w w' := by
  have HU := Lib.hid hn
  have FL : Hid (∀ k, (flatM (n.take k)).length ≤ 33554432) := fun k => by
    have := bulk_take n k; show _ ≤ _; rw [flatM_len]; omega
  have GL : Hid (∀ k, k < n.length → (n.getD k []).length ≤ 33554432) := fun k hk => by
    have := bulk_mem (getD_mem hk); show _ ≤ _; omega
  have FT : Hid (∀ k, k < n.length → flatM (n.take (k + 1)) = flatM (n.take k) ++ 32 :: n.getD k []) := fun k hk => flatM_take hk
  have FE : Hid (flatM (n.take n.length) = flatM n) := Lib.hid (by rw [List.take_length])
  have PR : Hid (lineU t n = t ++ [32, 58] ++ flatM n) := Lib.hid (by simp [lineU])
  obtain ⟨an, cn, rfl⟩ := hn.shape
  have bn := hn.bound
  clear hn hb
  generalize lineU t n = P at *
  generalize eLN : n.length = ln at *
  clear eLN
  have E1 : Hid (∀ W, Below w.heap.size w W → ∀ k, k < ln → ∃ b off, an = some ⟨b, off, none⟩ ∧ W.cell? ⟨b, off + k, none⟩ = some (.string (bs (n.getD k [])))) := fun W hW k hk => by
    obtain ⟨a9, c9, e9, _, _, _, h9⟩ := HU.out.later hW
    cases e9
    rcases h9 with rfl | ⟨b, off, ha, _, hc⟩
    · exact absurd hk (Nat.not_lt_zero _)
    · exact ⟨b, off, ha, hc k hk⟩
  have D0 := Lib.hid (bd_new w)
  have B0 : Hid (Below w.heap.size w (w.alloc (.cells #[.pointer none, .slice none 0 0] 134))) := (Below.refl _ _).alloc (Nat.le_refl _) _
  go_enter Tryz.func65, Tryz.ntmps65
  go_wp2_with fail
  refine (wStr w.heap.size w.heap.size [] t _ D0.out (by simp only [List.length_nil]; omega) B0.out.size).mono ?_
  rintro e w4 ⟨⟨r4, rfl⟩, d4, b4⟩
  have D4 := Lib.hid d4
  have B4 := Lib.hid (B0.out.trans b4)
  clear d4 b4
  go_wp2_with fail
  refine (wStr w.heap.size w.heap.size ([] ++ t) [32, 58] w4 D4.out (by simp; omega) B4.out.size).mono ?_
  rintro e w5 ⟨⟨r5, rfl⟩, d5, b5⟩
  have D5 : Hid (Bd w.heap.size w.heap.size (t ++ [32, 58] ++ flatM (n.take 0)) w5) := Lib.hid (by
    have e : t ++ [32, 58] ++ flatM (n.take 0) = [] ++ t ++ [32, 58] := by simp [flatM]
    rw [e]; exact d5)
  have B5 := Lib.hid (B4.out.trans b5)
  clear d5 b5
  go_wp2_with fail
  go_loopw [13] (fun i wr => ∃ k : Nat, k ≤ ln ∧ i = .int .i64 (k : Int) ∧ Bd w.heap.size w.heap.size (t ++ [32, 58] ++ flatM (n.take k)) wr ∧ Below w.heap.size w wr) (fun i _ => ln - (intOf i).toNat)
  case atStart => exact ⟨0, Nat.zero_le _, rfl, D5.out, B5.out⟩
  case round =>
    obtain ⟨k, hk, rfl, qd, qb⟩ := hrel
    have QD := Lib.hid qd; have QB := Lib.hid qb; clear qd qb
    by_cases hkl : k < ln
    · obtain ⟨b, off, rfl, c0⟩ := E1.out wr QB.out k hkl
      have FK := Lib.hid (FT.out k hkl)
      have FLk := FL.out k
      have GK := GL.out k hkl
      generalize n.getD k [] = x at *
      generalize flatM (n.take k) = y at *
      go_wp2_with fail
      refine (wByte w.heap.size w.heap.size _ 32 32 rfl wr QD.out (by simp; omega) QB.out.size).mono ?_
      rintro e w6 ⟨rfl, d6, b6⟩
      have D6 := Lib.hid d6
      have B6 := Lib.hid (QB.out.trans b6)
      clear d6 b6
      go_wp2_with fail
      refine (wStr w.heap.size w.heap.size _ x w6 D6.out (by simp; omega) B6.out.size).mono ?_
      rintro e w7 ⟨⟨r7, rfl⟩, d7, b7⟩
      have D7 := Lib.hid d7
      have B7 := Lib.hid (B6.out.trans b7)
      clear d7 b7
      go_wp2
      go_roundw
      case rel =>
        refine ⟨k + 1, by omega, by go_num, ?_, B7.out⟩
        rw [FK.out]
        have e : t ++ [32, 58] ++ (y ++ 32 :: x) = t ++ [32, 58] ++ y ++ [32] ++ x := by simp
        rw [e]
        exact D7.out
      case measure => simp [intOf]; omega
    · obtain rfl : k = ln := by omega
      rw [FE.out, ← PR.out] at QD
      go_wp2_with fail
      refine (bStr w.heap.size w.heap.size P wr QD.out QB.out.size).mono ?_
      rintro e w8 ⟨rfl, b8⟩
      have B8 := Lib.hid (QB.out.trans b8)
      clear b8
      go_wp2
      go_ret
      exact ⟨rfl, B8.out⟩
end Go.Proofs.YtebjofffijnihaaGreatDoor
