/-
  The law RuleOwn's comparison of rules: rules that are the same compare as the same. No condition beyond the form's own.
-/
import Derived.Test.YtdencbkepiaigaaDoorROw
namespace Go.Proofs.YtdencbkepiaigaaDoor
set_option linter.unusedVariables false
open Go.ChangeShapes Go.WideShapes Go.ChangeAt Go.RowKit

set_option maxHeartbeats 1000000 in
theorem alike_true {w : World} {x1 y1 x2 y2 : Value} {t n : List Str} (h1 : SIn w x1 t) (k1 : SIn w y1 n) (h2 : SIn w x2 t) (k2 : SIn w y2 n) :
    Calls Tryd.prog 30 #[.agg #[x1, y1], .agg #[x2, y2]] w fun e w' => e = .returned (.bool true) ∧ Below w.heap.size w w' := by
  have BA : Hid (Below w.heap.size w ((w.alloc (.cells #[x1, y1] 24)).alloc (.cells #[x2, y2] 24))) := ((Below.refl _ w).alloc (Nat.le_refl _) _).alloc (by simp) _
  have H1 := Lib.hid (h1.later BA.out); have H2 := Lib.hid (h2.later BA.out)
  have K1 := Lib.hid (k1.later BA.out); have K2 := Lib.hid (k2.later BA.out)
  have E1 : Hid (Calls Tryd.prog 18 #[x1, x2] ((w.alloc (.cells #[x1, y1] 24)).alloc (.cells #[x2, y2] 24)) fun e w' => e = .returned (.bool true) ∧ ∃ q, w' = ((w.alloc (.cells #[x1, y1] 24)).alloc (.cells #[x2, y2] 24)).drewN q) := by
    have := equal_of H1.out H2.out
    rw [decide_eq_true rfl] at this
    exact this
  have E2 : Hid (∀ q, Calls Tryd.prog 18 #[y1, y2] (((w.alloc (.cells #[x1, y1] 24)).alloc (.cells #[x2, y2] 24)).drewN q) fun e w' => e = .returned (.bool true) ∧ ∃ p, w' = (((w.alloc (.cells #[x1, y1] 24)).alloc (.cells #[x2, y2] 24)).drewN q).drewN p) := fun q => by
    have := equal_of (w := ((w.alloc (.cells #[x1, y1] 24)).alloc (.cells #[x2, y2] 24)).drewN q) (K1.out.later (below_drewN (Below.refl _ _) q)) (K2.out.later (below_drewN (Below.refl _ _) q))
    rw [decide_eq_true rfl] at this
    exact this
  obtain ⟨a1, c1, rfl⟩ := h1.shape
  obtain ⟨a2, c2, rfl⟩ := h2.shape
  obtain ⟨a3, c3, rfl⟩ := k1.shape
  obtain ⟨a4, c4, rfl⟩ := k2.shape
  clear h1 h2 k1 k2 H1 H2 K1 K2
  generalize t.length = lt at *
  generalize n.length = ln at *
  go_enter Tryd.func30, Tryd.ntmps30
  go_wp2_with fail
  refine E1.out.mono ?_
  rintro e w' ⟨rfl, q, rfl⟩
  go_wp2_with fail
  refine (E2.out q).mono ?_
  rintro e w' ⟨rfl, p, rfl⟩
  go_wp2
  go_ret
  exact ⟨rfl, below_drewN BA.out _⟩

set_option maxHeartbeats 2000000 in
set_option maxRecDepth 100000 in
theorem eqfunc_any {w : World} {v1 v2 : Value} {z : List Rl} (h1 : RIn w v1 z) (h2 : RIn w v2 z) :
    Calls Tryd.prog 29 #[v1, v2, .func (.func 30) #[] #[]] w fun e w' => e = .returned (.bool true) ∧ Below w.heap.size w w' := by
  have hn := h1.bound
  rcases h1.open with ⟨rfl, a1, k1, rfl⟩ | ⟨hp, b1, o1, k1, rfl, hk1, hlt1, T1, U1, hc1⟩
  · obtain ⟨a2, k2, rfl, _⟩ := h2
    clear h1 hn
    simp only [List.length_nil]
    go_enter Tryd.func29, Tryd.ntmps29
    go_wp2_with fail
    go_rounds 1
    go_ret
    exact ⟨rfl, Below.refl _ _⟩
  · rcases h2.open with ⟨rfl, _⟩ | ⟨_, b2, o2, k2, rfl, hk2, hlt2, T2, U2, hc2⟩
    · exact absurd hp (Nat.not_lt_zero _)
    have H1 : Hid (∀ W, Below w.heap.size w W → ∀ k, k < z.length → W.cell? ⟨b1, o1 + k * 2, none⟩ = some (T1 k) ∧ W.cell? ⟨b1, o1 + k * 2 + 1, none⟩ = some (U1 k) ∧ SIn W (T1 k) (tg z k) ∧ SIn W (U1 k) (nd z k)) := fun W hW k hk => ⟨cell_later hW (hc1 k hk).1, cell_later hW (hc1 k hk).2.1, (hc1 k hk).2.2.1.later hW, (hc1 k hk).2.2.2.later hW⟩
    have H2 : Hid (∀ W, Below w.heap.size w W → ∀ k, k < z.length → W.cell? ⟨b2, o2 + k * 2, none⟩ = some (T2 k) ∧ W.cell? ⟨b2, o2 + k * 2 + 1, none⟩ = some (U2 k) ∧ SIn W (T2 k) (tg z k) ∧ SIn W (U2 k) (nd z k)) := fun W hW k hk => ⟨cell_later hW (hc2 k hk).1, cell_later hW (hc2 k hk).2.1, (hc2 k hk).2.2.1.later hW, (hc2 k hk).2.2.2.later hW⟩
    clear h1 h2 hc1 hc2 hlt1 hlt2
    generalize hL : z.length = L at *
    clear hL
    go_enter Tryd.func29, Tryd.ntmps29
    go_wp2_with fail
    go_loopw [17] (fun i wr => ∃ k : Nat, k ≤ L ∧ i = .int .i64 (k : Int) ∧ Below w.heap.size w wr) (fun i _ => L - (intOf i).toNat)
    case atStart => exact ⟨0, by omega, rfl, Below.refl _ _⟩
    case round =>
      obtain ⟨k, hk, rfl, qb⟩ := hrel
      have QB := Lib.hid qb; clear qb
      by_cases hkl : k < L
      · obtain ⟨c1, d1, s1, r1⟩ := H1.out wr QB.out k hkl
        have BA : Hid (∀ o, Below wr.heap.size wr (wr.alloc o)) := fun o => (Below.refl _ _).alloc (Nat.le_refl _) o
        have BA2 : Hid (∀ o1 o2, Below wr.heap.size wr ((wr.alloc o1).alloc o2)) := fun o1 o2 => ((Below.refl _ _).alloc (Nat.le_refl _) o1).alloc (by simp) o2
        obtain ⟨c2, d2, s2, r2⟩ := H2.out wr QB.out k hkl
        have C2 : Hid (∀ o, (wr.alloc o).cell? ⟨b2, o2 + k * 2, none⟩ = some (T2 k) ∧ (wr.alloc o).cell? ⟨b2, o2 + k * 2 + 1, none⟩ = some (U2 k)) := fun o => ⟨cell_later (BA.out o) c2, cell_later (BA.out o) d2⟩
        have AL : Hid (∀ o1 o2, Calls Tryd.prog 30 #[.agg #[T1 k, U1 k], .agg #[T2 k, U2 k]] ((wr.alloc o1).alloc o2) fun e w' => e = .returned (.bool true) ∧ Below wr.heap.size wr w') := fun p1 p2 =>
          (alike_true (s1.later (BA2.out p1 p2)) (r1.later (BA2.out p1 p2)) (s2.later (BA2.out p1 p2)) (r2.later (BA2.out p1 p2))).mono fun e w' ⟨he, hb⟩ => ⟨he, (BA2.out p1 p2).trans (hb.mono (BA2.out p1 p2).size)⟩
        generalize T1 k = x1 at *
        generalize T2 k = x2 at *
        generalize U1 k = y1 at *
        generalize U2 k = y2 at *
        obtain ⟨ax1, cx1, rfl⟩ := s1.shape
        obtain ⟨ax2, cx2, rfl⟩ := s2.shape
        obtain ⟨ay1, cy1, rfl⟩ := r1.shape
        obtain ⟨ay2, cy2, rfl⟩ := r2.shape
        clear s1 s2 r1 r2
        generalize (tg z k).length = lt at *
        generalize (nd z k).length = ln at *
        obtain ⟨f2, g2⟩ := C2.out (.cells #[.slice ax1 lt cx1, .slice ay1 ln cy1] 24)
        go_wp2_with fail
        refine (AL.out _ _).mono ?_
        rintro e w' ⟨rfl, b3⟩
        have B3 := Lib.hid (QB.out.trans (b3.mono QB.out.size)); clear b3
        go_wp2
        go_roundw
        case rel => exact ⟨k + 1, by omega, by go_num, B3.out⟩
        case measure => simp [intOf]; omega
      · obtain rfl : k = L := by omega
        go_wp2
        go_ret
        exact ⟨rfl, QB.out⟩
theorem sameR_any {w : World} {v1 v2 : Value} {z : List Rl} (h1 : RIn w v1 z) (h2 : RIn w v2 z) :
    Calls Tryd.prog 28 #[v1, v2] w fun e w' => e = .returned (.bool true) ∧ Below w.heap.size w w' := by
  have H := Lib.hid (eqfunc_any h1 h2)
  obtain ⟨a1, k1, rfl, _⟩ := h1
  obtain ⟨a2, k2, rfl, _⟩ := h2
  generalize z.length = lz at *
  go_enter Tryd.func28, Tryd.ntmps28
  go_wp2_with fail
  refine H.out.mono ?_
  rintro e w' ⟨rfl, hb⟩
  have HB := Lib.hid hb; clear hb
  go_wp2
  go_ret
  exact ⟨rfl, HB.out⟩
end Go.Proofs.YtdencbkepiaigaaDoor
