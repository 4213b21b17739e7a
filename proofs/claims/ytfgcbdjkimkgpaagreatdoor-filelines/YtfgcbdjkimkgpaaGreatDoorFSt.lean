/-
  Files that are the same for the reference: SameTexts, SameRules, SameFile. No condition beyond the forms' own.
-/
import Derived.Test.YtfgcbdjkimkgpaaGreatDoorFLd
import Derived.BigQuiet
namespace Go.Proofs.YtfgcbdjkimkgpaaGreatDoor
set_option maxRecDepth 100000
set_option linter.unusedVariables false
open Go.ChangeShapes Go.WideShapes Go.ChangeAt Go.RowKit

set_option maxHeartbeats 2000000 in
theorem sameTexts_dec {w : World} {v1 v2 : Value} {z y : List Str} (h1 : SIn w v1 z) (h2 : SIn w v2 y) :
    Calls Tryz.prog 40 #[v1, v2] w fun e w' => e = .returned (.bool (decide (z = y))) ∧ ∃ q, w' = w.drewN q := by
  have hn := h1.bound
  have gn := h2.bound
  obtain ⟨a1, c1, rfl⟩ := h1.shape
  obtain ⟨a2, c2, rfl⟩ := h2.shape
  by_cases hl : z.length = y.length
  · have HC : Hid (∀ k, k < z.length → ∃ b off, a1 = some ⟨b, off, none⟩ ∧ w.cell? ⟨b, off + k, none⟩ = some (.string (bs (z.getD k [])))) := fun k hk => h1.get hk
    have HD : Hid (∀ k, k < z.length → ∃ b off, a2 = some ⟨b, off, none⟩ ∧ w.cell? ⟨b, off + k, none⟩ = some (.string (bs (y.getD k [])))) := fun k hk => h2.get (by rw [← hl]; exact hk)
    have TK : Hid (∀ k, k < z.length → (z.take (k + 1) = y.take (k + 1) ↔ z.take k = y.take k ∧ z.getD k [] = y.getD k [])) := fun k hk => take_both (by rw [List.getD, List.getElem?_eq_getElem hk]; rfl) (by rw [List.getD, List.getElem?_eq_getElem (by rw [← hl]; exact hk)]; rfl)
    have FIN : Hid (z.take z.length = y.take z.length → z = y) := fun e => by
      rw [List.take_length, hl, List.take_length] at e; exact e
    have NE : Hid (∀ k, z.take k ≠ y.take k → decide (z = y) = false) := fun k hk => decide_eq_false fun e => hk (by rw [e])
    rw [← hl] at gn ⊢
    clear h1 h2 hl
    generalize z.length = L at *
    go_enter Tryz.func40, Tryz.ntmps40
    go_wp2_with fail
    go_loopw [13] (fun i wr => ∃ k : Nat, k ≤ L ∧ i = .int .i64 (k : Int) ∧ z.take k = y.take k ∧ ∃ m, wr = w.drewN m) (fun i _ => L - (intOf i).toNat)
    case atStart => exact ⟨0, by omega, rfl, by simp, 0, rfl⟩
    case round =>
      obtain ⟨k, hk, rfl, heq, m, rfl⟩ := hrel
      have EQ := Lib.hid heq; clear heq
      by_cases hkl : k < L
      · obtain ⟨b1, o1, rfl, d1⟩ := HC.out k hkl
        obtain ⟨b2, o2, rfl, d2⟩ := HD.out k hkl
        have T1 := Lib.hid (TK.out k hkl)
        generalize z.getD k [] = p at *
        generalize y.getD k [] = r at *
        have e1 : ((bs p).toList == (bs r).toList) = decide (p = r) := by rw [bs_toList, bs_toList, beq_dec]
        by_cases hx : p = r
        · rw [decide_eq_true hx] at e1
          have NX : Hid (z.take (k + 1) = y.take (k + 1)) := T1.out.2 ⟨EQ.out, hx⟩
          clear hx
          go_wp2_with fail
          go_quiet (fail)
          go_wp2
          go_roundw
          case rel => exact ⟨k + 1, by omega, by go_num, NX.out, _, by first | rfl | exact World.drewN_drewN _ _ _⟩
          case measure => simp [intOf]; omega
        · rw [decide_eq_false hx] at e1
          have NX : Hid (decide (z = y) = false) := NE.out (k + 1) fun e => hx (T1.out.1 e).2
          clear hx
          go_wp2_with fail
          go_quiet (fail)
          go_wp2
          go_ret
          exact ⟨by rw [NX.out]; rfl, _, World.drewN_drewN _ _ _⟩
      · obtain rfl : k = L := by omega
        have OUT : Hid (decide (z = y) = true) := decide_eq_true (FIN.out EQ.out)
        go_wp2
        go_ret
        exact ⟨by rw [OUT.out]; rfl, _, rfl⟩
  · have NX : Hid (decide (z = y) = false) := decide_eq_false (by rintro rfl; exact hl rfl)
    clear h1 h2
    generalize z.length = n1 at *
    generalize y.length = n2 at *
    have e : (((n1 : Nat) : Int) == ((n2 : Nat) : Int)) = false := by rw [beq_eq_false_iff_ne]; omega
    have e' : (((n1 : Nat) : Int) != ((n2 : Nat) : Int)) = true := by rw [bne_iff_ne]; omega
    go_enter Tryz.func40, Tryz.ntmps40
    go_wp2
    go_ret
    exact ⟨by rw [NX.out]; rfl, 0, rfl⟩

set_option maxHeartbeats 4000000 in
theorem sameRules_dec {w : World} {v1 v2 : Value} {z y : List Rl} (h1 : RIn w v1 z) (h2 : RIn w v2 y) :
    Calls Tryz.prog 41 #[v1, v2] w fun e w' => e = .returned (.bool (decide (z = y))) ∧ Below w.heap.size w w' := by
  have hn := h1.bound
  have gn := h2.bound
  by_cases hl : z.length = y.length
  · rcases h1.open with ⟨rfl, a1, k1, rfl⟩ | ⟨hp, b1, o1, k1, rfl, hk1, hlt1, T1, U1, hc1⟩
    · obtain rfl : y = [] := List.length_eq_zero_iff.1 hl.symm
      obtain ⟨a2, k2, rfl, _⟩ := h2
      clear h1 hn gn hl
      simp only [List.length_nil]
      go_enter Tryz.func41, Tryz.ntmps41
      go_wp2_with fail
      go_rounds 1
      go_ret
      exact ⟨rfl, Below.refl _ _⟩
    · rcases h2.open with ⟨rfl, _⟩ | ⟨_, b2, o2, k2, rfl, hk2, hlt2, T2, U2, hc2⟩
      · rw [hl] at hp; exact absurd hp (Nat.not_lt_zero _)
      have H1 : Hid (∀ W, Below w.heap.size w W → ∀ k, k < z.length → W.cell? ⟨b1, o1 + k * 2, none⟩ = some (T1 k) ∧ W.cell? ⟨b1, o1 + k * 2 + 1, none⟩ = some (U1 k) ∧ SIn W (T1 k) (tg z k) ∧ SIn W (U1 k) (nd z k)) := fun W hW k hk => ⟨cell_later hW (hc1 k hk).1, cell_later hW (hc1 k hk).2.1, (hc1 k hk).2.2.1.later hW, (hc1 k hk).2.2.2.later hW⟩
      have H2 : Hid (∀ W, Below w.heap.size w W → ∀ k, k < z.length → W.cell? ⟨b2, o2 + k * 2, none⟩ = some (T2 k) ∧ W.cell? ⟨b2, o2 + k * 2 + 1, none⟩ = some (U2 k) ∧ SIn W (T2 k) (tg y k) ∧ SIn W (U2 k) (nd y k)) := fun W hW k hk => by
        rw [hl] at hk
        exact ⟨cell_later hW (hc2 k hk).1, cell_later hW (hc2 k hk).2.1, (hc2 k hk).2.2.1.later hW, (hc2 k hk).2.2.2.later hW⟩
      have TK : Hid (∀ k, k < z.length → (z.take (k + 1) = y.take (k + 1) ↔ z.take k = y.take k ∧ (tg z k, nd z k) = (tg y k, nd y k))) := fun k hk => take_both (rl_some hk) (rl_some (by rw [← hl]; exact hk))
      have FIN : Hid (z.take z.length = y.take z.length → z = y) := fun e => by
        rw [List.take_length, hl, List.take_length] at e; exact e
      have NE : Hid (∀ k, z.take k ≠ y.take k → decide (z = y) = false) := fun k hk => decide_eq_false fun e => hk (by rw [e])
      rw [← hl] at gn ⊢
      clear h1 h2 hc1 hc2 hlt1 hlt2 hl
      generalize hL : z.length = L at *
      clear hL
      go_enter Tryz.func41, Tryz.ntmps41
      go_wp2_with fail
      go_loopw [13] (fun i wr => ∃ k : Nat, k ≤ L ∧ i = .int .i64 (k : Int) ∧ z.take k = y.take k ∧ Below w.heap.size w wr) (fun i _ => L - (intOf i).toNat)
      case atStart => exact ⟨0, by omega, rfl, by simp, Below.refl _ _⟩
      case round =>
        obtain ⟨k, hk, rfl, heq, qb⟩ := hrel
        have QB := Lib.hid qb; have EQ := Lib.hid heq; clear qb heq
        by_cases hkl : k < L
        · obtain ⟨c1, d1, s1, r1⟩ := H1.out wr QB.out k hkl
          obtain ⟨c2, d2, s2, r2⟩ := H2.out wr QB.out k hkl
          have TT := Lib.hid (TK.out k hkl)
          have SS : Hid (∀ q, Calls Tryz.prog 40 #[T1 k, T2 k] (wr.drewN q) fun e w' => e = .returned (.bool (decide (tg z k = tg y k))) ∧ ∃ p, w' = (wr.drewN q).drewN p) := fun q => sameTexts_dec (s1.later (below_drewN (Below.refl _ _) q)) (s2.later (below_drewN (Below.refl _ _) q))
          have SR : Hid (∀ q, Calls Tryz.prog 40 #[U1 k, U2 k] (wr.drewN q) fun e w' => e = .returned (.bool (decide (nd z k = nd y k))) ∧ ∃ p, w' = (wr.drewN q).drewN p) := fun q => sameTexts_dec (r1.later (below_drewN (Below.refl _ _) q)) (r2.later (below_drewN (Below.refl _ _) q))
          generalize T1 k = x1 at *
          generalize T2 k = x2 at *
          generalize U1 k = y1 at *
          generalize U2 k = y2 at *
          obtain ⟨ax1, cx1, rfl⟩ := s1.shape
          obtain ⟨ax2, cx2, rfl⟩ := s2.shape
          obtain ⟨ay1, cy1, rfl⟩ := r1.shape
          obtain ⟨ay2, cy2, rfl⟩ := r2.shape
          clear s1 s2 r1 r2
          generalize (tg z k).length = lt at *
          generalize (nd z k).length = ln at *
          generalize (tg y k).length = mt at *
          generalize (nd y k).length = mn at *
          by_cases ht : tg z k = tg y k
          · rw [decide_eq_true ht] at SS
            by_cases hu : nd z k = nd y k
            · rw [decide_eq_true hu] at SR
              have NX : Hid (z.take (k + 1) = y.take (k + 1)) := TT.out.2 ⟨EQ.out, by rw [ht, hu]⟩
              clear ht hu TT
              go_wp2_with fail
              go_quiet (first
                | (go_at_call_of 40 (Value.slice ax1 lt cx1); exact Calls.quiet_of (SS.out _))
                | (go_at_call_of 40 (Value.slice ay1 ln cy1); exact Calls.quiet_of (SR.out _)))
              go_wp2
              go_roundw
              case rel => exact ⟨k + 1, by omega, by go_num, NX.out, below_drewN QB.out _⟩
              case measure => simp [intOf]; omega
            · rw [decide_eq_false hu] at SR
              have NX : Hid (decide (z = y) = false) := NE.out (k + 1) fun e => hu (Prod.mk.inj (TT.out.1 e).2).2
              clear ht hu TT
              go_wp2_with fail
              go_quiet (first
                | (go_at_call_of 40 (Value.slice ax1 lt cx1); exact Calls.quiet_of (SS.out _))
                | (go_at_call_of 40 (Value.slice ay1 ln cy1); exact Calls.quiet_of (SR.out _)))
              go_wp2
              go_ret
              exact ⟨by rw [NX.out]; rfl, below_drewN QB.out _⟩
          · rw [decide_eq_false ht] at SS
            have NX : Hid (decide (z = y) = false) := NE.out (k + 1) fun e => ht (Prod.mk.inj (TT.out.1 e).2).1
            clear ht TT
            go_wp2_with fail
            go_quiet (first
              | (go_at_call_of 40 (Value.slice ax1 lt cx1); exact Calls.quiet_of (SS.out _))
              | (go_at_call_of 40 (Value.slice ay1 ln cy1); exact Calls.quiet_of (SR.out _)))
            go_wp2
            go_ret
            exact ⟨by rw [NX.out]; rfl, below_drewN QB.out _⟩
        · obtain rfl : k = L := by omega
          have OUT : Hid (decide (z = y) = true) := decide_eq_true (FIN.out EQ.out)
          go_wp2
          go_ret
          exact ⟨by rw [OUT.out]; rfl, QB.out⟩
  · have NX : Hid (decide (z = y) = false) := decide_eq_false (by rintro rfl; exact hl rfl)
    obtain ⟨a, c, rfl, _⟩ := h1
    obtain ⟨a', c', rfl, _⟩ := h2
    generalize z.length = n1 at *
    generalize y.length = n2 at *
    have e : (((n1 : Nat) : Int) == ((n2 : Nat) : Int)) = false := by rw [beq_eq_false_iff_ne]; omega
    have e' : (((n1 : Nat) : Int) != ((n2 : Nat) : Int)) = true := by rw [bne_iff_ne]; omega
    go_enter Tryz.func41, Tryz.ntmps41
    go_wp2
    go_ret
    exact ⟨by rw [NX.out]; rfl, Below.refl _ _⟩
end Go.Proofs.YtfgcbdjkimkgpaaGreatDoor
