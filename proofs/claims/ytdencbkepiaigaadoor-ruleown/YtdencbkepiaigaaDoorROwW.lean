/-
  The law RuleOwn, walked. No condition beyond the form's own.
-/
import Derived.Test.YtdencbkepiaigaaDoorRKp
import Derived.Test.YtdencbkepiaigaaDoorROpen
import Derived.Deep.RegionHeld3
namespace Go.Proofs.YtdencbkepiaigaaDoor
set_option linter.unusedVariables false
open Go.ChangeShapes Go.WideShapes Go.ChangeAt Go.RowKit

theorem joinR_small {l z : List Rl} {x : Int} (h : JoinR l z x) : z.length ≤ 64 ∧ Small z := by
  by_cases hx : x = 0
  · obtain ⟨hz, hf, h100, h64, hnn⟩ := h.fine hx
    exact ⟨by rw [hz, List.length_map]; exact h64, join_small hz hf hnn⟩
  · obtain rfl := h.bad hx
    exact ⟨Nat.zero_le _, fun r hr => absurd hr List.not_mem_nil⟩

set_option maxHeartbeats 8000000 in
set_option maxRecDepth 100000 in
theorem walkOwn {w : World} {v : Value} {l : List Rl} (h : RIn w v l) :
    Calls Tryd.prog 6 #[v] w fun e w' => e = .returned (.bool true) ∧ Below w.heap.size w w' := by
  have HR := Lib.hid h
  have HB := h.bound
  have SM := Lib.hid h.small
  obtain ⟨a0, cap0, rfl, _⟩ := h
  have CPY : Hid (∀ W, Below w.heap.size w W → Calls Tryd.prog 26 #[.slice a0 l.length cap0] W fun e w' => ∃ u, e = .returned u ∧ RO W.heap.size u l w' ∧ Below W.heap.size W w') := fun W hW => copied_any (HR.out.later hW)
  have JN : Hid (∀ W, Below w.heap.size w W → Calls Tryd.prog 9 #[.slice a0 l.length cap0] W (JoinPostT l W)) := fun W hW => join_own (HR.out.later hW)
  have RR : Hid (∀ W, Below w.heap.size w W → RIn W (.slice a0 l.length cap0) l) := fun W hW => HR.out.later hW
  have RB : Hid (∀ B u W, RO B u l W → RIn W u l) := fun B u W hu => hu.rin HB SM.out
  clear HR SM
  generalize l.length = ll at *
  clear HB
  go_enter Tryd.func6, Tryd.ntmps6
  go_wp2_with fail
  refine (rules_true _).mono ?_
  rintro e w1 ⟨rfl, b1⟩
  have B1 := Lib.hid b1; clear b1
  go_wp2_with fail
  refine (CPY.out w1 B1.out).mono ?_
  rintro e w2 ⟨u1, rfl, ro1, b2⟩
  have B2 := Lib.hid (B1.out.trans (b2.mono B1.out.size))
  have U1 : Hid (∀ W, Below w2.heap.size w2 W → RIn W u1 l) := fun W hW => (RB.out _ _ _ ro1).later hW
  obtain ⟨a1, c1, rfl⟩ : ∃ a c, u1 = .slice a l.length c := by obtain ⟨_, _, ho, _⟩ := ro1; exact own_shape' ho
  clear b2 ro1
  generalize l.length = ll1 at *
  go_wp2_with fail
  refine (JN.out w2 B2.out).mono ?_
  rintro e w3 ⟨v3, z, x, rfl, hj, ⟨c, hb3, ht3⟩, b3⟩
  have B3 := Lib.hid (B2.out.trans (b3.mono B2.out.size))
  have A3 := Lib.hid b3
  have HB3 := Lib.hid hb3; have HT3 := Lib.hid ht3
  obtain ⟨hz64, hzs⟩ := joinR_small hj
  have ZS := Lib.hid hzs
  have VI := Lib.hid (RO.rin ⟨c, hb3⟩ (by omega) hzs)
  obtain ⟨a3, c3, rfl⟩ := own_shape' hb3.2.1
  clear b3 hb3 ht3 hj hzs
  have SA : Hid (∀ W, Below w2.heap.size w2 W → Calls Tryd.prog 28 #[.slice a0 ll cap0, .slice a1 ll1 c1] W fun e w' => e = .returned (.bool true) ∧ Below W.heap.size W w') := fun W hW => sameR_any (RR.out W (B2.out.trans (hW.mono B2.out.size))) (U1.out W hW)
  go_wp2_with fail
  refine (SA.out w3 A3.out).mono ?_
  rintro e w4 ⟨rfl, b4⟩
  have C4 := Lib.hid (copied_any (VI.out.later b4))
  have A4 : Hid (Below w2.heap.size w2 w4) := A3.out.trans (b4.mono A3.out.size)
  have K4 := Lib.hid b4
  clear b4
  go_wp2_with fail
  refine C4.out.mono ?_
  rintro e w5 ⟨u5, rfl, ro5, b5⟩
  have A5 : Hid (Below w2.heap.size w2 w5) := A4.out.trans (b5.mono A4.out.size)
  have hb5 : ROb w2.heap.size (.slice a3 z.length c3) z w5 c := (HB3.out.later K4.out).later b5
  have HB5 := Lib.hid hb5
  have HT5 : Hid (∀ u ∈ rcells c, Tl u w5) := fun u hu => ((HT3.out u hu).later K4.out).later b5
  have LO : Hid (∀ u ∈ rcells c, ∀ g, u.ownBlock = some g → w2.heap.size ≤ g) := fun u hu g hg => by obtain ⟨q, hq⟩ := HB3.out.entry hu; exact (hq.lt g hg).1
  have HI : Hid (∀ u ∈ rcells c, ∀ g, u.ownBlock = some g → g < w4.heap.size) := fun u hu g hg => by obtain ⟨q, hq⟩ := (HB3.out.later K4.out).entry hu; exact (hq.lt g hg).2
  have RO5 := Lib.hid ro5
  obtain ⟨a5, c5, rfl⟩ : ∃ a c, u5 = .slice a z.length c := by obtain ⟨_, _, ho, _⟩ := ro5; exact own_shape' ho
  have WB : Hid (∀ k W, Kx c k w5 W → Below w2.heap.size w2 W) := fun k W hK => A5.out.trans (hK.below LO.out A5.out.size)
  have WW : Hid (∀ W, Below w2.heap.size w2 W → Below w.heap.size w W) := fun W hW => B2.out.trans (hW.mono B2.out.size)
  have CE : Hid (∀ k, k < z.length → ∃ p ga gt, c[k]? = some p ∧ a3 = some ⟨ga, 0, none⟩ ∧ a5 = some ⟨gt, 0, none⟩ ∧ z.length ≤ c3 ∧ z.length ≤ c5) := fun k hk => by
    have hkc : k < c.length := by rw [HB5.out.1]; exact hk
    rcases HB5.out.2.1.2 with ⟨_, e⟩ | ⟨ga, cap, cur, e, _, _, hc, _⟩
    · rw [e] at hk; exact absurd hk (Nat.not_lt_zero _)
    obtain ⟨c', _, ho', _⟩ := RO5.out
    rcases ho'.2 with ⟨_, e'⟩ | ⟨gt, cap', cur', e', _, _, hc', _⟩
    · rw [e'] at hk; exact absurd hk (Nat.not_lt_zero _)
    cases e
    cases e'
    exact ⟨_, ga, gt, List.getElem?_eq_getElem hkc, rfl, rfl, hc, hc'⟩
  clear b5 hb5 ro5 C4 VI HB3 HT3 CPY JN RR RB
  generalize hLZ : z.length = lz at *
  go_wp2_with fail
  go_loopw [30] (fun i wr => ∃ k : Nat, k ≤ lz ∧ i = .int .i64 (k : Int) ∧ Kx c k w5 wr) (fun i _ => lz - (intOf i).toNat)
  case atStart => exact ⟨0, Nat.zero_le _, rfl, Kx.refl _ _⟩
  case round =>
    obtain ⟨k, hk, rfl, qk⟩ := hrel
    have QK := Lib.hid qk; clear qk
    by_cases hkl : k < lz
    · obtain ⟨⟨p1, p2⟩, ga, gt, hp, rfl, rfl, hc3, hc5⟩ := CE.out k hkl
      have HP := Lib.hid hp
      have row := QK.out.row HB5.out
      have hcs := row.cells (g := ga) rfl
      obtain ⟨h1, h2⟩ := rcells_at c k (p1, p2) hp
      have r1 := hcs _ _ h1
      have r2 := hcs _ _ h2
      rw [add_off] at r1 r2
      simp only [] at r1 r2
      obtain ⟨so1, so2⟩ := QK.out.so HB5.out hp (Nat.le_refl _)
      obtain ⟨tl1, tl2⟩ := QK.out.tl HB5.out HT5.out hp (Nat.le_refl _)
      have ap := apart_pair HB5.out.2.2.2 hp
      simp only [] at so1 so2 tl1 tl2 ap
      have SP2 := Lib.hid (spoil_any so2 tl2)
      have SP1 : Hid (∀ W, wr.grownBy W p2.ownBlock → Calls Tryd.prog 31 #[p1] W fun e w' => e = .returned (.tuple #[]) ∧ W.grownBy w' p1.ownBlock) := fun W hg => by
        have hne : p1.ownBlock = none ∨ p1.ownBlock ≠ p2.ownBlock := by
          cases e : p1.ownBlock with
          | none => exact .inl rfl
          | some q => exact .inr (fun e' => ap q e e'.symm)
        exact spoil_any (World.ownsRow.kept so1 hg hne) (tl1.kept hg hne)
      have N2 : Hid (some ga ≠ p2.ownBlock) := by
        rcases own_type so2 row (by decide) with h' | h'
        · rw [h']; intro e; cases e
        · exact fun e => h' e.symm
      have R6 : Hid (∀ W, wr.grownBy W p2.ownBlock → W.cell? ⟨ga, k * 2, none⟩ = some p1) := fun W hg => hg.cell r1 N2.out
      have K7 : Hid (∀ W w7, wr.grownBy W p2.ownBlock → W.grownBy w7 p1.ownBlock → Kx c (k + 1) w5 w7) := fun W w7 h6 h7 => QK.out.grow hp h6 h7
      have SM : Hid (∀ W, Kx c (k + 1) w5 W → Calls Tryd.prog 28 #[.slice (if c3 = k + 1 then some ⟨ga, 0, none⟩ else some ⟨ga, (k + 1) * 2, none⟩) (lz - (k + 1)) (c3 - (k + 1)), .slice (if c5 = k + 1 then some ⟨gt, 0, none⟩ else some ⟨gt, (k + 1) * 2, none⟩) (lz - (k + 1)) (c5 - (k + 1))] W.drew fun e w' => e = .returned (.bool true) ∧ Kx c (k + 1) w5 w') := fun W hK => by
        have ra := rin_drop' (k := k + 1) HB5.out.1 (by have := hK.row HB5.out; rw [hLZ] at this ⊢; exact this) (fun j p hj hp' => hK.so HB5.out hp' hj) (by omega) ZS.out (by omega)
        obtain ⟨c', hc1, hc2, hc3', _⟩ := hK.other HB5.out HI.out RO5.out
        have rt := rin_drop' (k := k + 1) hc1 (by rw [hLZ] at hc2 ⊢; exact hc2) (fun j p _ hp' => hc3' j p hp') (by omega) ZS.out (by omega)
        rw [hLZ] at ra rt
        have hd : Below W.heap.size W W.drew := (Below.refl _ _).drew
        exact (sameR_any (ra.later hd) (rt.later hd)).mono fun e w' ⟨he, hb⟩ => ⟨he, hK.on (hd.trans (hb.mono hd.size))⟩
      obtain ⟨ap1, cp1, rfl⟩ := own_shape' so1
      obtain ⟨ap2, cp2, rfl⟩ := own_shape' so2
      clear so1 so2 tl1 tl2 ap row hcs h1 h2 hp
      have i1 : (k : Int) + 1 ≤ (lz : Int) := by omega
      have i2 : ((k : Int) + 1).toNat = k + 1 := by omega
      have i5 : (0 : Int) ≤ (k : Int) + 1 := by omega
      have i6 : IntKind.i64.wrap ((k : Int) + 1) = (k : Int) + 1 := by unfold IntKind.wrap; simp [IntKind.bits, IntKind.signed]; omega
      have HLZ := Lib.hid hLZ; clear hLZ
      obtain ⟨A3, hA3⟩ : ∃ A3, (if c3 = k + 1 then some (⟨ga, 0, none⟩ : Addr) else some ⟨ga, (k + 1) * 2, none⟩) = A3 := ⟨_, rfl⟩
      obtain ⟨A5, hA5⟩ : ∃ A5, (if c5 = k + 1 then some (⟨gt, 0, none⟩ : Addr) else some ⟨gt, (k + 1) * 2, none⟩) = A5 := ⟨_, rfl⟩
      rw [hA3, hA5] at SM
      generalize (tg z k).length = lt at *
      generalize (nd z k).length = ln at *
      go_wp2_with fail
      refine SP2.out.mono ?_
      rintro e w6 ⟨rfl, g6⟩
      have r6 := R6.out w6 g6
      have G6 := Lib.hid g6; clear g6 r1 r2
      go_wp2_with fail
      refine (SP1.out w6 G6.out).mono ?_
      rintro e w7 ⟨rfl, g7⟩
      have KK := Lib.hid (K7.out w6 w7 G6.out g7)
      clear g7 r6
      go_wp2_with fail
      go_region_held3 (fun w' => True) (first | trivial) (first
        | (go_at_call 28; refine (SM.out w7 KK.out).mono ?_; rintro e w8 ⟨rfl, q8⟩; have K8 := Lib.hid q8; clear q8))
      go_wp2
      go_roundw
      case rel => exact ⟨k + 1, by omega, by go_num, K8.out⟩
      case measure => simp [intOf]; omega
    · obtain rfl : k = lz := by omega
      have BK := Lib.hid (WB.out _ _ QK.out)
      go_wp2_with fail
      refine (SA.out _ BK.out).mono ?_
      rintro e w9 ⟨rfl, b9⟩
      have BE := Lib.hid (WW.out _ (BK.out.trans (b9.mono BK.out.size)))
      clear b9
      go_wp2
      go_ret
      exact ⟨rfl, BE.out⟩
end Go.Proofs.YtdencbkepiaigaaDoor
