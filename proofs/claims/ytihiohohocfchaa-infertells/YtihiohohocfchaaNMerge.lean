/-
  slices.Grow at nil, slices.Concat of two slices of strings, package name's Merge. Condition: both slices take together at most 2^48 bytes.
-/
import Derived.Test.YtihiohohocfchaaNFind
namespace Go.Proofs.Ytihiohohocfchaa
set_option maxRecDepth 100000
open Go.ChangeShapes Go.WideShapes Go.ChangeAt Go.RowKit

set_option maxHeartbeats 2000000 in
set_option maxRecDepth 100000 in
theorem grow_pos (n : Nat) (h0 : 0 < n) (hn : n ≤ 17592186044416) (w : World) :
    Calls Try.prog 65 #[.slice none 0 0, .int .i64 n] w fun e w' => ∃ cap, n ≤ cap ∧ e = .returned (.slice (some ⟨w.heap.size, 0, none⟩) 0 cap) ∧ w'.ownsRow w.heap.size 9 1 (.slice (some ⟨w.heap.size, 0, none⟩) 0 cap) 0 [] ∧ Below w.heap.size w w' := by
  obtain ⟨i0, hi, hz0, hz1, hz2⟩ := info_parts infoStr
  have hr := Lib.run_append_nil_zeros (P := Try.prog) w 24 3 24 9 i0 (.string ByteArray.empty) .i64 .i64 Try.underlying24 Try.underlying3 hi hz0 n h0 (by omega) (by omega) (by rw [hz2]; omega)
  have hge := grownCap_ge w n 0 9
  have hle := grownCap_le_maxLen w n 0 9 (by unfold maxLen; omega)
  generalize grownCap w n 0 9 = cap at *
  have hsz : (Builtin.zeroCells (Value.string ByteArray.empty).cells n ++ Builtin.zeroCells (Value.string ByteArray.empty).cells (cap - n)).size = cap := by
    rw [Array.size_append, size_zeroCells, size_zeroCells]
    show n * 1 + (cap - n) * 1 = cap
    omega
  generalize Builtin.zeroCells (Value.string ByteArray.empty).cells n ++ Builtin.zeroCells (Value.string ByteArray.empty).cells (cap - n) = cs at *
  have HO : Hid ((w.drew.alloc (.cells cs 9)).ownsRow w.heap.size 9 1 (.slice (some ⟨w.heap.size, 0, none⟩) 0 cap) 0 []) := World.ownsRow_made w.drew cs cap (Nat.le_refl _) hle (by omega)
  have HB : Hid (Below w.heap.size w (w.drew.alloc (.cells cs 9))) := ((Below.refl _ w).drew).alloc (Nat.le_refl _) _
  have HR := Lib.hid hr; clear hr hi hz0 hz1 hz2 hsz
  generalize w.drew.alloc (.cells cs 9) = w1 at *
  have hle' : cap ≤ 9223372036854775807 := by unfold maxLen at hle; omega
  clear hle
  go_enter Try.func65, Try.ntmps65
  go_wp2_with (at_builtin; refine Lib.wpList_append_run _ rfl _ _ 24 3 rfl _ _ rfl rfl _ _ HR.out ?_)
  go_ret
  exact ⟨cap, hge, rfl, HO.out, HB.out⟩
theorem grow_at (n : Nat) (N : Int) (hN : N = n) (h0 : 0 < n) (hn : n ≤ 17592186044416) (w : World) :
    Calls Try.prog 65 #[.slice none 0 0, .int .i64 N] w fun e w' => ∃ cap, n ≤ cap ∧ e = .returned (.slice (some ⟨w.heap.size, 0, none⟩) 0 cap) ∧ w'.ownsRow w.heap.size 9 1 (.slice (some ⟨w.heap.size, 0, none⟩) 0 cap) 0 [] ∧ Below w.heap.size w w' := by
  subst hN; exact grow_pos n h0 hn w
theorem grow_zero (w : World) :
    Calls Try.prog 65 #[.slice none 0 0, .int .i64 0] w fun e w' => e = .returned (.slice none 0 0) ∧ w' = w := by
  go_enter Try.func65, Try.ntmps65
  go_wp2
  go_ret
  exact ⟨rfl, rfl⟩

set_option maxHeartbeats 4000000 in
set_option maxRecDepth 100000 in
theorem concat_any {w : World} {va vb : Value} {za zb : List Str} {b : Nat} (ha : SIn w va za) (hb : SIn w vb zb) (hsum : za.length + zb.length ≤ 17592186044416) (c0 : w.cell? ⟨b, 0, none⟩ = some va) (c1 : w.cell? ⟨b, 1, none⟩ = some vb) :
    Calls Try.prog 53 #[.slice (some ⟨b, 0, none⟩) 2 2] w fun e w' => ∃ v, e = .returned v ∧ w'.ownsRow w.heap.size 9 1 v (za ++ zb).length ((za ++ zb).map encStr) ∧ Below w.heap.size w w' := by
  have HA := Lib.hid ha
  have HB := Lib.hid hb
  have LT := Lib.hid (World.block_lt_of_cell? _ _ c0)
  obtain ⟨a1, k1, rfl, _⟩ := ha
  obtain ⟨a2, k2, rfl, _⟩ := hb
  by_cases h0 : za.length + zb.length = 0
  · obtain rfl : za = [] := List.length_eq_zero_iff.1 (by omega)
    obtain rfl : zb = [] := List.length_eq_zero_iff.1 (by omega)
    have hr1 : (Builtin.append_ #[24, 24] 24 #[.slice none 0 0, .slice a1 0 k1]).run Try.prog w = .ok (.slice none 0 0) w := app_none _ (World.ownsRow_nil w w.heap.size 9 1) a1 k1
    have hr2 : (Builtin.append_ #[24, 24] 24 #[.slice none 0 0, .slice a2 0 k2]).run Try.prog w = .ok (.slice none 0 0) w := app_none _ (World.ownsRow_nil w w.heap.size 9 1) a2 k2
    have R1 := Lib.hid hr1
    have R2 := Lib.hid hr2
    clear hr1 hr2 hsum h0
    simp only [List.length_nil] at c0 c1
    go_enter Try.func53, Try.ntmps53
    go_wp2_with fail
    refine wp_loop_rounds 3 ?_
    iterate 3 (rw [rounds_succ]; go_wp2_with fail)
    refine (grow_zero _).mono ?_
    rintro e w' ⟨rfl, rfl⟩
    go_wp2_with fail
    refine wp_loop_rounds 3 ?_
    rw [rounds_succ]
    go_wp2_with (at_builtin; refine Lib.wpList_append_run _ rfl _ _ 24 24 rfl _ _ rfl rfl _ _ R1.out ?_)
    rw [rounds_succ]
    go_wp2_with (at_builtin; refine Lib.wpList_append_run _ rfl _ _ 24 24 rfl _ _ rfl rfl _ _ R2.out ?_)
    rw [rounds_succ]
    go_wp2_with fail
    go_ret
    exact ⟨_, rfl, World.ownsRow_nil _ _ _ _, Below.refl _ _⟩
  · have hn1 := Lib.hid (show za.length ≤ 17592186044416 by omega)
    generalize e1 : za.length = n1 at *
    generalize e2 : zb.length = n2 at *
    have E1 := Lib.hid e1
    have E2 := Lib.hid e2
    clear e1 e2
    have hpos : 0 < n1 + n2 := by omega
    clear h0
    go_enter Try.func53, Try.ntmps53
    go_wp2_with fail
    refine wp_loop_rounds 3 ?_
    iterate 3 (rw [rounds_succ]; go_wp2_with fail)
    refine (grow_at (n1 + n2) _ (by omega) hpos hsum _).mono ?_
    rintro e w1 ⟨cap, hcap, rfl, hown, hbel⟩
    have LB : Hid (w.heap.size < w1.heap.size) := by
      have := hown.lt w.heap.size rfl
      exact this.2
    obtain ⟨g1, cp1, w2, r1, o1, gr1, f1⟩ := app_strs (z1 := []) (z2 := za) (v2 := .slice a1 n1 k1) 24 hown (HA.out.later hbel) (by rw [E1.out]; unfold maxLen; simp only [List.length_nil]; omega) (.inl (by rw [E1.out]; simp only [List.length_nil]; omega)) (by have := LB.out; omega)
    obtain ⟨rfl, rfl⟩ := f1 (by rw [E1.out]; simp only [List.length_nil]; omega)
    have B2 : Hid (Below w.heap.size w w2) := hbel.grown gr1 hbel.size (by intro k hk; cases hk; exact Nat.le_refl _)
    rw [List.nil_append] at r1 o1
    obtain ⟨g2, cp2, w3, r2, o2, gr2, f2⟩ := app_strs (z1 := za) (z2 := zb) (v2 := .slice a2 n2 k2) 24 o1 (HB.out.later B2.out) (by rw [E1.out, E2.out]; unfold maxLen; omega) (.inl (by rw [E1.out, E2.out]; omega)) B2.out.size
    obtain ⟨rfl, rfl⟩ := f2 (by rw [E1.out, E2.out]; omega)
    have B3 : Hid (Below w.heap.size w w3) := B2.out.grown gr2 B2.out.size (by intro k hk; cases hk; exact Nat.le_refl _)
    have O2 := Lib.hid o2
    have c0a : w1.cell? ⟨b, 0, none⟩ = some (.slice a1 n1 k1) := cell_later hbel c0
    have c1a : w2.cell? ⟨b, 1, none⟩ = some (.slice a2 n2 k2) := cell_later B2.out c1
    have L : Hid ((za ++ zb).length = n1 + n2) := by show _ = _; rw [List.length_append, E1.out, E2.out]
    rw [L.out] at r2
    rw [E1.out] at r1 r2
    simp only [List.length_nil] at r1
    have R1 := Lib.hid r1
    have R2 := Lib.hid r2
    clear r1 r2 o1 o2 gr1 gr2 f1 f2 hown hbel c0 c1
    go_wp2_with fail
    refine wp_loop_rounds 3 ?_
    rw [rounds_succ]
    go_wp2_with (at_builtin; refine Lib.wpList_append_run _ rfl _ _ 24 24 rfl _ _ rfl rfl _ _ R1.out ?_)
    rw [rounds_succ]
    go_wp2_with (at_builtin; refine Lib.wpList_append_run _ rfl _ _ 24 24 rfl _ _ rfl rfl _ _ R2.out ?_)
    rw [rounds_succ]
    go_wp2_with fail
    go_ret
    have o := O2.out
    rw [L.out] at o ⊢
    exact ⟨_, rfl, o, B3.out⟩
end Go.Proofs.Ytihiohohocfchaa
