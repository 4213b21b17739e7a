/-
  That the law's own look at package name (names) is passed; slices.Contains, slices.Equal at strings; slices.BinarySearch and package name's Find. No condition but those of the slices.
  slices.Grow at nil, slices.Concat of two slices of strings, package name's Merge. Condition: both slices take together at most 2^48 bytes.
  What package name's Merge answers: the names of both lists, sorted, each once. Condition: both slices take together at most 2^48 bytes.
  Rules in memory: what a slice of rules holds; what package rule's Check answers. Condition: a slice takes at most 2^47 bytes (the form says so).
  What package rule's Parse answers; that package rule is alive. Condition: the string is shorter than 2^32 bytes.
-/
import Derived.Test.YtebjofffijnihaaGreatDoorGc9FDf
import Derived.Deep.LoopGhost
import Derived.Deep.Draws
import Derived.Lib.Walk
import Derived.Test.YtebjofffijnihaaGreatDoorGc8LRa
import Derived.Laws.ResultCell
namespace Go.Proofs.YtebjofffijnihaaGreatDoor
set_option maxRecDepth 100000
open Go.ChangeShapes Go.WideShapes Go.ChangeAt Go.RowKit

theorem ret2_ib {a b : Int} {x y : Bool} (h : a = b) (k : x = y) : Ending.returned (.tuple #[.int .i64 a, .bool x]) = .returned (.tuple #[.int .i64 b, .bool y]) := by rw [h, k]

theorem eqS (P : Program) (T : TypeId) : EqlAt P T encStr (fun x y => decide (x = y)) :=
  ⟨fun x y w => by
    have : (binOp .eql T (.string (bs x)) (.string (bs y))).run P w = .ok (.bool ((bs x).toList == (bs y).toList)) w := (EqlAt.string P T).1 (bs x) (bs y) w
    rw [bs_toList, bs_toList, beq_dec] at this
    exact this, fun op a b x y w => (EqlAt.string P T).2 op a b (bs x) (bs y) w⟩
theorem contains_of {w : World} {v : Value} {z : List Str} (h : SIn w v z) (x : Str) :
    Calls Tryz.prog 75 #[v, .string (bs x)] w fun e w' => e = .returned (.bool (decide (x ∈ z))) ∧ w' = w := by
  rcases h.open with ⟨rfl, a, cap, rfl⟩ | ⟨_, b, off, cap, rfl, _, _, hc⟩
  · have := AnyE.slices_Contains_empty (P := Tryz.prog) (ρ := containsL_ren) containsL a cap (.string (bs x)) w
    refine Calls.mono (show Calls Tryz.prog 75 _ _ _ from this) ?_
    rintro e w' ⟨rfl, rfl⟩
    exact ⟨ret_b (by simp), rfl⟩
  · have hn := h.bound
    have := AnyE.slices_Contains containsL encStr (fun x y => decide (x = y)) (eqS _ _) b off z.length cap z x w (Nat.le_refl _) (by omega) (fun j hj => by rw [hc j hj, bang_getD z j hj]; rfl)
    refine Calls.mono (show Calls Tryz.prog 75 _ _ _ from this) ?_
    rintro e w' ⟨rfl, rfl⟩
    refine ⟨ret_b ?_, rfl⟩
    rw [List.take_length]
    by_cases hx : x ∈ z
    · rw [decide_eq_true hx, List.any_eq_true]; exact ⟨x, hx, by simp⟩
    · rw [decide_eq_false hx, List.any_eq_false]; intro y hy; simp; rintro rfl; exact hx hy

/-! cmp.Less, BinarySearch -/
theorem isNaN_any (s : ByteArray) (w : World) : Calls Tryz.prog 60 #[.string s] w fun e w' => e = .returned (.bool false) ∧ w' = w := by
  go_enter Tryz.func60, Tryz.ntmps60
  go_wp2
  go_ret
  exact ⟨ret_b (by simp), rfl⟩
theorem isNaN2_any (s : ByteArray) (w : World) : Calls Tryz.prog 39 #[.string s] w fun e w' => e = .returned (.bool false) ∧ w' = w := by
  go_enter Tryz.func39, Tryz.ntmps39
  go_wp2
  go_ret
  exact ⟨ret_b (by simp), rfl⟩
theorem less_any (x y : Str) (w : World) : Calls Tryz.prog 38 #[.string (bs x), .string (bs y)] w fun e w' => e = .returned (.bool (decide (x < y))) ∧ w' = w := by
  have e1 : Hid (Op.bytesLess (bs x).toList (bs y).toList = decide (x < y)) := by show _ = _; rw [bs_toList, bs_toList]; exact bytesLess_eq x y
  go_enter Tryz.func38, Tryz.ntmps38
  go_wp2_with fail
  refine (isNaN_any _ _).mono ?_
  rintro e w' ⟨rfl, rfl⟩
  go_wp2
  go_ret
  exact ⟨ret_b e1.out, rfl⟩

/-- where x stands, or would stand, in the list -/
def Found (z : List Str) (x : Str) (e : Ending) : Prop :=
  ∃ i, i ≤ z.length ∧ (∀ t, t < i → z.getD t [] < x) ∧ (∀ t, i ≤ t → t < z.length → x ≤ z.getD t []) ∧
    ((i < z.length ∧ z.getD i [] = x ∧ e = .returned (.tuple #[.int .i64 i, .bool true])) ∨ ((∀ t, t < z.length → z.getD t [] ≠ x) ∧ e = .returned (.tuple #[.int .i64 i, .bool false])))

set_option maxHeartbeats 4000000 in
set_option maxRecDepth 100000 in
theorem search_row (z : List Str) (x : Str) (b off cap : Nat) (w : World) (hup : Up z) (hn : z.length ≤ 17592186044416) (hc : ∀ k, k < z.length → w.cell? ⟨b, off + k, none⟩ = some (.string (bs (z.getD k [])))) :
    Calls Tryz.prog 21 #[.slice (some ⟨b, off, none⟩) z.length cap, .string (bs x)] w fun e w' => Found z x e ∧ ∃ q, w' = w.drewN q := by
  have HC := Lib.hid hc; clear hc
  have HU := Lib.hid hup; clear hup
  generalize hL : z.length = n at *
  have HL := Lib.hid hL; clear hL
  have e39 : ∀ args w, (callFunc 38 args).run Tryz.prog w = .ok (.enter 38 args) w := enters_of Tryz.func38 (by kernel_rfl) rfl
  have e40 : ∀ args w, (callFunc 39 args).run Tryz.prog w = .ok (.enter 39 args) w := enters_of Tryz.func39 (by kernel_rfl) rfl
  go_enter Tryz.func21, Tryz.ntmps21
  go_wp2
  go_loopg [7, 8] n (fun g s7 s8 wr => ∃ lo hi q : Nat, s7 = .int .i64 lo ∧ s8 = .int .i64 hi ∧ lo ≤ hi ∧ hi ≤ n ∧ hi - lo ≤ g ∧ wr = w.drewN q ∧ (∀ t, t < lo → z.getD t [] < x) ∧ (∀ t, hi ≤ t → t < n → x ≤ z.getD t []))
  case atStart => exact ⟨0, n, 0, rfl, rfl, Nat.zero_le _, Nat.le_refl _, by omega, rfl, fun t ht => absurd ht (Nat.not_lt_zero _), fun t h1 h2 => by omega⟩
  case round =>
    obtain ⟨lo, hi, q, rfl, rfl, hlh, hin, hg, rfl, h1, h2⟩ := hrel
    have I1 := Lib.hid h1; clear h1
    have I2 := Lib.hid h2; clear h2
    by_cases hlt : lo < hi
    · have cm : w.cell? ⟨b, off + (lo + hi) / 2, none⟩ = some (.string (bs (z.getD ((lo + hi) / 2) []))) := HC.out _ (by omega)
      have LE : Hid (∀ t, t ≤ (lo + hi) / 2 → z.getD t [] ≤ z.getD ((lo + hi) / 2) []) := fun t ht => up_le HU.out ht (by rw [HL.out]; omega)
      have GE : Hid (∀ t, (lo + hi) / 2 ≤ t → t < n → z.getD ((lo + hi) / 2) [] ≤ z.getD t []) := fun t ht hn => up_le HU.out ht (by rw [HL.out]; exact hn)
      generalize z.getD ((lo + hi) / 2) [] = y at cm LE GE
      by_cases hyx : y < x
      · go_wp2_with (go_at_call 38; refine (less_any _ _ _).mono ?_; rintro e w' ⟨rfl, rfl⟩; rw [decide_eq_true hyx])
        go_roundg (hi - ((lo + hi) / 2 + 1))
        case measure => omega
        case rel =>
          refine ⟨(lo + hi) / 2 + 1, hi, _, by rw [show ((lo : Int) + (hi : Int)) / 2 + 1 = (((lo + hi) / 2 + 1 : Nat) : Int) by omega], rfl, by omega, hin, Nat.le_refl _, rfl, fun t ht => ?_, I2.out⟩
          exact lt_of_le_lt (LE.out t (by omega)) hyx
      · go_wp2_with (go_at_call 38; refine (less_any _ _ _).mono ?_; rintro e w' ⟨rfl, rfl⟩; rw [decide_eq_false hyx])
        go_roundg ((lo + hi) / 2 - lo)
        case measure => omega
        case rel =>
          refine ⟨lo, (lo + hi) / 2, _, rfl, by rw [show ((lo : Int) + (hi : Int)) / 2 = (((lo + hi) / 2 : Nat) : Int) by omega], by omega, by omega, Nat.le_refl _, rfl, I1.out, fun t ht htn => ?_⟩
          exact List.le_trans (List.not_lt.1 hyx) (GE.out t ht htn)
    · have : hi = lo := by omega
      subst this
      have NE : Hid (∀ t, t < n → (t = hi → z.getD t [] ≠ x) → z.getD t [] ≠ x) := fun t ht k e => by
        rcases Nat.lt_trichotomy t hi with h | h | h
        · exact absurd (e ▸ I1.out t h) (List.lt_irrefl _)
        · exact k h e
        · have h3 := up_get HU.out h (by rw [HL.out]; exact ht)
          rw [e] at h3
          exact absurd h3 (List.not_lt.2 (I2.out hi (Nat.le_refl _) (by omega)))
      by_cases hn2 : hi < n
      · have cl : w.cell? ⟨b, off + hi, none⟩ = some (.string (bs (z.getD hi []))) := HC.out _ hn2
        by_cases hyx : z.getD hi [] = x
        · have HY := Lib.hid hyx
          rw [hyx] at cl
          clear hyx
          go_wp2
          go_ret2
          refine ⟨⟨hi, by rw [HL.out]; omega, I1.out, by rw [HL.out]; exact I2.out, .inl ⟨by rw [HL.out]; exact hn2, HY.out, ret2_ib rfl (by simp)⟩⟩, _, rfl⟩
        · have HY := Lib.hid hyx
          have t : ((bs (z.getD hi [])).toList == (bs x).toList) = false := by rw [bs_toList, bs_toList]; simpa using hyx
          generalize bs (z.getD hi []) = sy at cl t
          clear hyx
          go_wp2_with (go_at_call 39; refine (isNaN2_any _ _).mono ?_; rintro e w' ⟨rfl, rfl⟩)
          go_ret2
          refine ⟨⟨hi, by rw [HL.out]; omega, I1.out, by rw [HL.out]; exact I2.out, .inr ⟨fun t ht => NE.out t (by rw [← HL.out]; exact ht) (fun e => e ▸ HY.out), rfl⟩⟩, _, rfl⟩
      · go_wp2
        go_ret2
        refine ⟨⟨hi, by rw [HL.out]; omega, I1.out, by rw [HL.out]; exact I2.out, .inr ⟨fun t ht => NE.out t (by rw [← HL.out]; exact ht) (fun e => by have := HL.out; omega), rfl⟩⟩, _, rfl⟩

theorem search_none (a : Option Addr) (cap : Nat) (s : ByteArray) (w : World) :
    Calls Tryz.prog 21 #[.slice a 0 cap, .string s] w fun e w' => e = .returned (.tuple #[.int .i64 0, .bool false]) ∧ w' = w := by
  go_enter Tryz.func21, Tryz.ntmps21
  go_wp2
  go_loopw [7, 8] (fun i j wr => i = .int .i64 0 ∧ j = .int .i64 0 ∧ wr = w) (fun _ _ _ => 0)
  case atStart => exact ⟨rfl, rfl, rfl⟩
  case round =>
    obtain ⟨rfl, rfl, rfl⟩ := hrel
    go_wp2
    go_ret2
    exact ⟨rfl, rfl⟩
theorem search_of {w : World} {v : Value} {z : List Str} (h : SIn w v z) (hup : Up z) (x : Str) :
    Calls Tryz.prog 21 #[v, .string (bs x)] w fun e w' => Found z x e ∧ ∃ q, w' = w.drewN q := by
  have hn := h.bound
  rcases h.open with ⟨rfl, a, cap, rfl⟩ | ⟨_, b, off, cap, rfl, _, _, hc⟩
  · exact (search_none a cap (bs x) w).mono fun e w' k => ⟨⟨0, Nat.le_refl _, fun t ht => absurd ht (Nat.not_lt_zero _), fun t _ ht => absurd ht (Nat.not_lt_zero _), .inr ⟨fun t ht => absurd ht (Nat.not_lt_zero _), k.1⟩⟩, 0, k.2⟩
  · exact search_row z x b off cap w hup hn hc

/-- what Find hands back -/
def FindPost (z : List Str) (x : Str) (e : Ending) : Prop :=
  (∃ i : Nat, i < z.length ∧ z.getD i [] = x ∧ e = .returned (.tuple #[.int .i64 i, .bool true])) ∨ x ∉ z ∧ e = .returned (.tuple #[.int .i64 0, .bool false])

theorem find_of {w : World} {v : Value} {z : List Str} (h : SIn w v z) (hup : Up z) (x : Str) :
    Calls Tryz.prog 7 #[v, .string (bs x)] w fun e w' => FindPost z x e ∧ ∃ q, w' = w.drewN q := by
  have H := Lib.hid h; clear h
  have HU := Lib.hid hup; clear hup
  go_enter Tryz.func7, Tryz.ntmps7
  go_wp2_with fail
  refine (search_of H.out HU.out x).mono ?_
  rintro e w' ⟨⟨i, _, _, _, ⟨h1, h2, rfl⟩ | ⟨h1, rfl⟩⟩, q, rfl⟩
  · have H1 := Lib.hid h1; clear h1
    have H2 := Lib.hid h2; clear h2
    go_wp2
    go_ret2
    exact ⟨.inl ⟨i, H1.out, H2.out, rfl⟩, q, rfl⟩
  · have H1 := Lib.hid h1; clear h1
    go_wp2
    go_ret2
    refine ⟨.inr ⟨fun hx => ?_, rfl⟩, q, rfl⟩
    obtain ⟨t, ht, e⟩ := mem_getD hx
    exact H1.out t ht e

/-! the law's own look -/
theorem uniq_ba : uniq [[98], [97]] = [[97], [98]] := by
  refine (uniq_congr (b := [[97], [98]]) fun x => ?_).trans (uniq_self ?_)
  · simp [or_comm]
  · unfold Up; simp; decide
theorem good_ba : ([[98], [97]] : List Str).all good = true := by decide

end Go.Proofs.YtebjofffijnihaaGreatDoor
namespace Go.Proofs.YtebjofffijnihaaGreatDoor
set_option maxRecDepth 100000
open Go.ChangeShapes Go.WideShapes Go.ChangeAt Go.RowKit

set_option maxHeartbeats 2000000 in
set_option maxRecDepth 100000 in
theorem grow_pos (n : Nat) (h0 : 0 < n) (hn : n ≤ 17592186044416) (w : World) :
    Calls Tryz.prog 57 #[.slice none 0 0, .int .i64 n] w fun e w' => ∃ cap, n ≤ cap ∧ e = .returned (.slice (some ⟨w.heap.size, 0, none⟩) 0 cap) ∧ w'.ownsRow w.heap.size 9 1 (.slice (some ⟨w.heap.size, 0, none⟩) 0 cap) 0 [] ∧ Below w.heap.size w w' := by
  obtain ⟨i0, hi, hz0, hz1, hz2⟩ := info_parts infoStr
  have hr := Lib.run_append_nil_zeros (P := Tryz.prog) w 23 3 23 9 i0 (.string ByteArray.empty) .i64 .i64 Tryz.underlying23 Tryz.underlying3 hi hz0 n h0 (by omega) (by omega) (by rw [hz2]; omega)
  have hge := grownCap_ge w n 0 9
  have hle := grownCap_le_maxLen w n 0 9 (by unfold maxLen; omega)
  generalize grownCap w n 0 9 = cap at *
  have hsz : (Builtin.zeroCells (Value.string ByteArray.empty).cells n ++ Builtin.zeroCells (Value.string ByteArray.empty).cells (cap - n)).size = cap := by
    rw [Array.size_append, size_zeroCells, size_zeroCells]
    show n * 1 + (cap - n) * 1 = cap
    omega
  generalize Builtin.zeroCells (Value.string ByteArray.empty).cells n ++ Builtin.zeroCells (Value.string ByteArray.empty).cells (cap - n) = cs at *
  have HO : Hid ((w.drew.alloc (.cells cs 9)).ownsRow w.heap.size 9 1 (.slice (some ⟨w.heap.size, 0, none⟩) 0 cap) 0 []) := World.ownsRow_made w.drew cs cap (Nat.le_refl _) hle (by omega)
  have HB : Hid (Below w.heap.size w (w.drew.alloc (.cells cs 9))) := ((Below.refl _ w).drew).alloc (Nat.le_refl _) _
  have HR := Lib.hid hr; clear hr hi hz0 hz1 hz2 hsz
  generalize w.drew.alloc (.cells cs 9) = w1 at *
  have hle' : cap ≤ 9223372036854775807 := by unfold maxLen at hle; omega
  clear hle
  go_enter Tryz.func57, Tryz.ntmps57
  go_wp2_with (at_builtin; refine Lib.wpList_append_run _ rfl _ _ 23 3 rfl _ _ rfl rfl _ _ HR.out ?_)
  go_ret
  exact ⟨cap, hge, rfl, HO.out, HB.out⟩
theorem grow_at (n : Nat) (N : Int) (hN : N = n) (h0 : 0 < n) (hn : n ≤ 17592186044416) (w : World) :
    Calls Tryz.prog 57 #[.slice none 0 0, .int .i64 N] w fun e w' => ∃ cap, n ≤ cap ∧ e = .returned (.slice (some ⟨w.heap.size, 0, none⟩) 0 cap) ∧ w'.ownsRow w.heap.size 9 1 (.slice (some ⟨w.heap.size, 0, none⟩) 0 cap) 0 [] ∧ Below w.heap.size w w' := by
  subst hN; exact grow_pos n h0 hn w
theorem grow_zero (w : World) :
    Calls Tryz.prog 57 #[.slice none 0 0, .int .i64 0] w fun e w' => e = .returned (.slice none 0 0) ∧ w' = w := by
  go_enter Tryz.func57, Tryz.ntmps57
  go_wp2
  go_ret
  exact ⟨rfl, rfl⟩

set_option maxHeartbeats 4000000 in
set_option maxRecDepth 100000 in
theorem concat_any {w : World} {va vb : Value} {za zb : List Str} {b : Nat} (ha : SIn w va za) (hb : SIn w vb zb) (hsum : za.length + zb.length ≤ 17592186044416) (c0 : w.cell? ⟨b, 0, none⟩ = some va) (c1 : w.cell? ⟨b, 1, none⟩ = some vb) :
    Calls Tryz.prog 34 #[.slice (some ⟨b, 0, none⟩) 2 2] w fun e w' => ∃ v, e = .returned v ∧ w'.ownsRow w.heap.size 9 1 v (za ++ zb).length ((za ++ zb).map encStr) ∧ Below w.heap.size w w' := by
  have HA := Lib.hid ha
  have HB := Lib.hid hb
  have LT := Lib.hid (World.block_lt_of_cell? _ _ c0)
  obtain ⟨a1, k1, rfl, _⟩ := ha
  obtain ⟨a2, k2, rfl, _⟩ := hb
  by_cases h0 : za.length + zb.length = 0
  · obtain rfl : za = [] := List.length_eq_zero_iff.1 (by omega)
    obtain rfl : zb = [] := List.length_eq_zero_iff.1 (by omega)
    have hr1 : (Builtin.append_ #[23, 23] 23 #[.slice none 0 0, .slice a1 0 k1]).run Tryz.prog w = .ok (.slice none 0 0) w := app_none _ (World.ownsRow_nil w w.heap.size 9 1) a1 k1
    have hr2 : (Builtin.append_ #[23, 23] 23 #[.slice none 0 0, .slice a2 0 k2]).run Tryz.prog w = .ok (.slice none 0 0) w := app_none _ (World.ownsRow_nil w w.heap.size 9 1) a2 k2
    have R1 := Lib.hid hr1
    have R2 := Lib.hid hr2
    clear hr1 hr2 hsum h0
    simp only [List.length_nil] at c0 c1
    go_enter Tryz.func34, Tryz.ntmps34
    go_wp2_with fail
    refine wp_loop_rounds 3 ?_
    iterate 3 (rw [rounds_succ]; go_wp2_with fail)
    refine (grow_zero _).mono ?_
    rintro e w' ⟨rfl, rfl⟩
    go_wp2_with fail
    refine wp_loop_rounds 3 ?_
    rw [rounds_succ]
    go_wp2_with (at_builtin; refine Lib.wpList_append_run _ rfl _ _ 23 23 rfl _ _ rfl rfl _ _ R1.out ?_)
    rw [rounds_succ]
    go_wp2_with (at_builtin; refine Lib.wpList_append_run _ rfl _ _ 23 23 rfl _ _ rfl rfl _ _ R2.out ?_)
    rw [rounds_succ]
    go_wp2_with fail
    go_ret
    exact ⟨_, rfl, World.ownsRow_nil _ _ _ _, Below.refl _ _⟩
  · have hn1 := Lib.hid (show za.length ≤ 17592186044416 by omega)
    generalize e1 : za.length = n1 at *
    generalize e2 : zb.length = n2 at *
    have E1 := Lib.hid e1
    have E2 := Lib.hid e2
    clear e1 e2
    have hpos : 0 < n1 + n2 := by omega
    clear h0
    go_enter Tryz.func34, Tryz.ntmps34
    go_wp2_with fail
    refine wp_loop_rounds 3 ?_
    iterate 3 (rw [rounds_succ]; go_wp2_with fail)
    refine (grow_at (n1 + n2) _ (by omega) hpos hsum _).mono ?_
    rintro e w1 ⟨cap, hcap, rfl, hown, hbel⟩
    have LB : Hid (w.heap.size < w1.heap.size) := by
      have := hown.lt w.heap.size rfl
      exact this.2
    obtain ⟨g1, cp1, w2, r1, o1, gr1, f1⟩ := app_strs (z1 := []) (z2 := za) (v2 := .slice a1 n1 k1) 23 hown (HA.out.later hbel) (by rw [E1.out]; unfold maxLen; simp only [List.length_nil]; omega) (.inl (by rw [E1.out]; simp only [List.length_nil]; omega)) (by have := LB.out; omega)
    obtain ⟨rfl, rfl⟩ := f1 (by rw [E1.out]; simp only [List.length_nil]; omega)
    have B2 : Hid (Below w.heap.size w w2) := hbel.grown gr1 hbel.size (by intro k hk; cases hk; exact Nat.le_refl _)
    rw [List.nil_append] at r1 o1
    obtain ⟨g2, cp2, w3, r2, o2, gr2, f2⟩ := app_strs (z1 := za) (z2 := zb) (v2 := .slice a2 n2 k2) 23 o1 (HB.out.later B2.out) (by rw [E1.out, E2.out]; unfold maxLen; omega) (.inl (by rw [E1.out, E2.out]; omega)) B2.out.size
    obtain ⟨rfl, rfl⟩ := f2 (by rw [E1.out, E2.out]; omega)
    have B3 : Hid (Below w.heap.size w w3) := B2.out.grown gr2 B2.out.size (by intro k hk; cases hk; exact Nat.le_refl _)
    have O2 := Lib.hid o2
    have c0a : w1.cell? ⟨b, 0, none⟩ = some (.slice a1 n1 k1) := cell_later hbel c0
    have c1a : w2.cell? ⟨b, 1, none⟩ = some (.slice a2 n2 k2) := cell_later B2.out c1
    have L : Hid ((za ++ zb).length = n1 + n2) := by show _ = _; rw [List.length_append, E1.out, E2.out]
    rw [L.out] at r2
    rw [E1.out] at r1 r2
    simp only [List.length_nil] at r1
    have R1 := Lib.hid r1
    have R2 := Lib.hid r2
    clear r1 r2 o1 o2 gr1 gr2 f1 f2 hown hbel c0 c1
    go_wp2_with fail
    refine wp_loop_rounds 3 ?_
    rw [rounds_succ]
    go_wp2_with (at_builtin; refine Lib.wpList_append_run _ rfl _ _ 23 23 rfl _ _ rfl rfl _ _ R1.out ?_)
    rw [rounds_succ]
    go_wp2_with (at_builtin; refine Lib.wpList_append_run _ rfl _ _ 23 23 rfl _ _ rfl rfl _ _ R2.out ?_)
    rw [rounds_succ]
    go_wp2_with fail
    go_ret
    have o := O2.out
    rw [L.out] at o ⊢
    exact ⟨_, rfl, o, B3.out⟩
end Go.Proofs.YtebjofffijnihaaGreatDoor
namespace Go.Proofs.YtebjofffijnihaaGreatDoor
set_option maxRecDepth 100000
open Go.ChangeShapes Go.WideShapes Go.ChangeAt Go.RowKit

theorem small_all {z : List Str} (h : z.all good = true) : ∀ x ∈ z, x.length ≤ 9223372036854775807 := fun x hx => by
  have := good_len (List.all_eq_true.1 h x hx)
  omega
theorem good_uniq {z : List Str} (h : z.all good = true) : (uniq z).all good = true := by
  rw [List.all_eq_true]
  exact fun x hx => List.all_eq_true.1 h x (uniq_mem.1 hx)

theorem own_less {w : World} {b1 b2 n : Nat} {v : Value} {xs : List Value} (h : w.ownsRow b1 9 1 v n xs) (hb : b2 ≤ b1) : w.ownsRow b2 9 1 v n xs := by
  refine ⟨h.1, ?_⟩
  rcases h.2 with k | ⟨g, cap, cur, h1, h2, r⟩
  · exact .inl k
  · exact .inr ⟨g, cap, cur, h1, Nat.le_trans hb h2, r⟩

/-- what Merge hands back -/
def MergePost (z : List Str) (w : World) (e : Ending) (w' : World) : Prop :=
  Below w.heap.size w w' ∧
    ((z.all good = true ∧ (uniq z).length ≤ 64 ∧ ∃ v, e = .returned (.tuple #[v, .int .i64 0]) ∧ w'.ownsRow w.heap.size 9 1 v (uniq z).length ((uniq z).map encStr)) ∨
     (z.all good = true ∧ 64 < (uniq z).length ∧ e = .returned (.tuple #[.slice none 0 0, .int .i64 2])) ∨
     (z.all good = false ∧ e = .returned (.tuple #[.slice none 0 0, .int .i64 3])))

set_option maxHeartbeats 2000000 in
theorem merge_any {w : World} {va vb : Value} {za zb : List Str} (ha : SIn w va za) (hb : SIn w vb zb) (hsum : za.length + zb.length ≤ 17592186044416) :
    Calls Tryz.prog 14 #[va, vb] w (MergePost (za ++ zb) w) := by
  have HA := Lib.hid ha
  have HB := Lib.hid hb
  have HS := Lib.hid hsum
  have SM : Hid (∀ x ∈ za ++ zb, x.length ≤ 9223372036854775807) := fun x hx => by
    rcases List.mem_append.1 hx with h | h
    · exact HA.out.small x h
    · exact HB.out.small x h
  obtain ⟨a1, k1, rfl, _⟩ := ha
  obtain ⟨a2, k2, rfl, _⟩ := hb
  have LL : Hid ((za ++ zb).length ≤ 17592186044416) := by show _ ≤ _; rw [List.length_append]; exact HS.out
  clear hsum
  generalize e1 : za.length = n1 at *
  generalize e2 : zb.length = n2 at *
  have E1 := Lib.hid e1
  have E2 := Lib.hid e2
  clear e1 e2
  go_enter Tryz.func14, Tryz.ntmps14
  go_wp2_with fail
  have BA : Hid (Below w.heap.size w (w.alloc (Obj.cells #[Value.slice a1 n1 k1, Value.slice a2 n2 k2] 23))) := (Below.refl _ w).alloc (Nat.le_refl _) _
  refine (concat_any (b := w.heap.size) (za := za) (zb := zb) (va := .slice a1 n1 k1) (vb := .slice a2 n2 k2) (HA.out.later BA.out) (HB.out.later BA.out) (by rw [E1.out, E2.out]; exact HS.out) (by simp) (by simp)).mono ?_
  rintro e w1 ⟨v, rfl, hown, hbel⟩
  have B1 : Hid (Below w.heap.size w w1) := BA.out.trans (hbel.mono (by simp))
  have I1 : Hid (SIn w1 v (za ++ zb)) := SIn.own hown LL.out SM.out
  clear hown hbel BA
  go_wp2_with fail
  refine (sort_any I1.out).mono ?_
  have UL : Hid ((uniq (za ++ zb)).length ≤ 17592186044416) := Nat.le_trans (uniq_le _) LL.out
  rintro e w2 (⟨hg, v2, rfl, hown, hbel⟩ | ⟨hg, rfl, rfl⟩)
  · have G := Lib.hid hg
    have B2 : Hid (Below w.heap.size w w2) := B1.out.trans (hbel.mono B1.out.size)
    have OW : Hid (w2.ownsRow w.heap.size 9 1 v2 (uniq (za ++ zb)).length ((uniq (za ++ zb)).map encStr)) := own_less hown B1.out.size
    obtain ⟨a, cap, rfl⟩ : ∃ a cap, v2 = .slice a (uniq (za ++ zb)).length cap := by
      obtain ⟨a, cap, h, _⟩ := SIn.own hown UL.out (small_all (good_uniq hg))
      exact ⟨a, cap, h⟩
    clear hg hown hbel I1 B1
    have hu := UL.out
    by_cases h64 : (uniq (za ++ zb)).length ≤ 64
    · have H := Lib.hid h64
      generalize eU : (uniq (za ++ zb)).length = nu at *
      have EU := Lib.hid eU; clear eU
      go_wp2
      go_ret2
      refine ⟨B2.out, .inl ⟨G.out, ?_, _, rfl, ?_⟩⟩
      · rw [EU.out]; exact H.out
      · rw [EU.out]; exact OW.out
    · have h65 : 64 < (uniq (za ++ zb)).length := by omega
      have H := Lib.hid h65
      generalize eU : (uniq (za ++ zb)).length = nu at *
      have EU := Lib.hid eU; clear eU
      go_wp2
      go_ret2
      refine ⟨B2.out, .inr (.inl ⟨G.out, ?_, rfl⟩)⟩
      rw [EU.out]; exact H.out
  · have G := Lib.hid hg
    clear hg
    go_wp2
    go_ret2
    exact ⟨B1.out, .inr (.inr ⟨G.out, rfl⟩)⟩
end Go.Proofs.YtebjofffijnihaaGreatDoor
namespace Go.Proofs.YtebjofffijnihaaGreatDoor
set_option maxRecDepth 100000
set_option linter.unusedVariables false
open Go.ChangeShapes Go.WideShapes Go.ChangeAt Go.RowKit

abbrev Rl := List Str × List Str
def tg (z : List Rl) (k : Nat) : List Str := (z.getD k ([], [])).1
def nd (z : List Rl) (k : Nat) : List Str := (z.getD k ([], [])).2
theorem rl_some {z : List Rl} {k : Nat} (h : k < z.length) : z[k]? = some (tg z k, nd z k) := by
  unfold tg nd; rw [List.getD, List.getElem?_eq_getElem h]; rfl
theorem rl_mem {z : List Rl} {k : Nat} (h : k < z.length) : (tg z k, nd z k) ∈ z := List.mem_of_getElem? (rl_some h)
theorem rl_take {z : List Rl} {k : Nat} (h : k < z.length) : z.take (k + 1) = z.take k ++ [(tg z k, nd z k)] := by
  rw [List.take_add_one, rl_some h]; rfl
theorem rl_drop {z : List Rl} {k : Nat} (h : k < z.length) : z.drop k = (tg z k, nd z k) :: z.drop (k + 1) := by
  rw [List.drop_eq_getElem_cons h]
  have := rl_some h
  rw [List.getElem?_eq_getElem h] at this
  rw [Option.some.inj this]

/-- a slice that holds the rules z -/
def RIn (w : World) (v : Value) (z : List Rl) : Prop :=
  ∃ a cap, v = .slice a z.length cap ∧ z.length ≤ cap ∧ cap ≤ maxLen ∧ z.length ≤ 2932031007317 ∧
    (z = [] ∨ ∃ b off, a = some ⟨b, off, none⟩ ∧ b < w.heap.size ∧ ∃ T U : Nat → Value, ∀ k, k < z.length → w.cell? ⟨b, off + k * 2, none⟩ = some (T k) ∧ w.cell? ⟨b, off + k * 2 + 1, none⟩ = some (U k) ∧ SIn w (T k) (tg z k) ∧ SIn w (U k) (nd z k))
theorem RIn.later {w w' : World} {v : Value} {z : List Rl} (h : RIn w v z) (hb : Below w.heap.size w w') : RIn w' v z := by
  obtain ⟨a, cap, h1, h2, h3, h4, h5⟩ := h
  refine ⟨a, cap, h1, h2, h3, h4, ?_⟩
  rcases h5 with h5 | ⟨b, off, h5, h6, T, U, h7⟩
  · exact .inl h5
  · exact .inr ⟨b, off, h5, Nat.lt_of_lt_of_le h6 hb.size, T, U, fun k hk => ⟨cell_later hb (h7 k hk).1, cell_later hb (h7 k hk).2.1, (h7 k hk).2.2.1.later hb, (h7 k hk).2.2.2.later hb⟩⟩
theorem RIn.open {w : World} {v : Value} {z : List Rl} (h : RIn w v z) : (z = [] ∧ ∃ a cap, v = .slice a 0 cap) ∨
    (0 < z.length ∧ ∃ b off cap, v = .slice (some ⟨b, off, none⟩) z.length cap ∧ z.length ≤ cap ∧ b < w.heap.size ∧ ∃ T U : Nat → Value, ∀ k, k < z.length → w.cell? ⟨b, off + k * 2, none⟩ = some (T k) ∧ w.cell? ⟨b, off + k * 2 + 1, none⟩ = some (U k) ∧ SIn w (T k) (tg z k) ∧ SIn w (U k) (nd z k)) := by
  obtain ⟨a, cap, rfl, h2, _, _, h5⟩ := h
  by_cases h0 : z = []
  · subst h0; exact .inl ⟨rfl, a, cap, rfl⟩
  · rcases h5 with h5 | ⟨b, off, rfl, h6, h7⟩
    · exact absurd h5 h0
    · exact .inr ⟨List.length_pos_iff.2 h0, b, off, cap, rfl, h2, h6, h7⟩
theorem RIn.bound {w : World} {v : Value} {z : List Rl} (h : RIn w v z) : z.length ≤ 2932031007317 := by obtain ⟨_, _, _, _, _, h4, _⟩ := h; exact h4
theorem SIn.shape {w : World} {v : Value} {z : List Str} (h : SIn w v z) : ∃ a cap, v = .slice a z.length cap := by obtain ⟨a, cap, h, _⟩ := h; exact ⟨a, cap, h⟩
theorem infoRl : (Tryz.prog.info? 40).map (fun i => (i.zero, i.size, i.bytes)) = some (some (.agg #[.slice none 0 0, .slice none 0 0]), 2, 48) := by kernel_rfl

/-- the rule in block k stays -/
def StayR (k : Nat) (x : Value) (y : Value) (w : World) : Prop := w.heap[k]? = some (.cells #[x, y] 40 (0, 0))
theorem StayR.cells {k : Nat} {x y : Value} {w : World} (h : StayR k x y w) : w.cell? ⟨k, 0, none⟩ = some x ∧ w.cell? ⟨k, 1, none⟩ = some y := by
  unfold StayR at h
  unfold World.cell?
  simp [h]
theorem StayR.thaw {k : Nat} {x y : Value} {w : World} (h : StayR k x y w) : w.frozen? ⟨k, 0, none⟩ = false ∧ w.frozen? ⟨k, 1, none⟩ = false := by
  unfold StayR at h
  unfold World.frozen?
  simp [h]
theorem StayR.lt {k : Nat} {x y : Value} {w : World} (h : StayR k x y w) : k < w.heap.size := by
  rcases Nat.lt_or_ge k w.heap.size with h' | h'
  · exact h'
  · unfold StayR at h; simp [Array.getElem?_eq_none h'] at h
theorem StayR.later {k : Nat} {x y : Value} {w w' : World} (h : StayR k x y w) (hb : Below w.heap.size w w') : StayR k x y w' := (hb.block _ h.lt).trans h
theorem stayR_new (w : World) (x y : Value) : StayR w.heap.size x y (w.alloc (.cells #[x, y] 40)) := by unfold StayR; exact heap_alloc_new _ _

/-- the first fault of a rule -/
def chkR (r : Rl) : Int :=
  if 20 < r.1.length ∨ 20 < r.2.length then 2 else if r.1.length = 0 then 3 else if r.1.all good = false then 3 else if r.2.all good = false then 3
  else if (uniq r.1).length < r.1.length ∨ (uniq r.2).length < r.2.length then 6 else 0

set_option maxHeartbeats 2000000 in
set_option maxRecDepth 100000 in
theorem rcheck_any {w : World} {vt vn : Value} {t n : List Str} (ht : SIn w vt t) (hn : SIn w vn n) :
    Calls Tryz.prog 49 #[.agg #[vt, vn]] w fun e w' => e = .returned (.int .i64 (chkR (t, n))) ∧ Below w.heap.size w w' := by
  have BA : Hid (Below w.heap.size w (w.alloc (.cells #[vt, vn] 40))) := (Below.refl _ w).alloc (Nat.le_refl _) _
  have HT : Hid (SIn (w.alloc (.cells #[vt, vn] 40)) vt t) := ht.later BA.out
  have HU : Hid (SIn (w.alloc (.cells #[vt, vn] 40)) vn n) := hn.later BA.out
  have ST : Hid (StayR w.heap.size vt vn (w.alloc (.cells #[vt, vn] 40))) := stayR_new _ _ _
  have bt := ht.bound
  have bn := hn.bound
  have HP : Hid (∀ e : Int, chkR (t, n) = e → Ending.returned (.int .i64 e) = Ending.returned (.int .i64 (chkR (t, n)))) := fun e h => by rw [h]
  have hchk : chkR (t, n) = (if 20 < t.length ∨ 20 < n.length then 2 else if t.length = 0 then 3 else if t.all good = false then 3 else if n.all good = false then 3
      else if (uniq t).length < t.length ∨ (uniq n).length < n.length then 6 else 0) := rfl
  have UT := uniq_le t
  have UN := uniq_le n
  obtain ⟨at', ct, rfl⟩ := ht.shape
  obtain ⟨an, cn, rfl⟩ := hn.shape
  generalize chkR (t, n) = C at *
  clear ht hn
  generalize eT : t.length = lt at *
  generalize eN : n.length = ln at *
  have ET := Lib.hid eT; have EN := Lib.hid eN; clear eT eN
  generalize eUT : (uniq t).length = ut at *
  generalize eUN : (uniq n).length = un at *
  have EUT := Lib.hid eUT; have EUN := Lib.hid eUN; clear eUT eUN
  have HK := Lib.hid hchk; clear hchk
  by_cases h1 : 20 < lt
  · have E := Lib.hid (HP.out 2 (by rw [HK.out, if_pos (.inl h1)]))
    go_enter Tryz.func49, Tryz.ntmps49
    go_wp2
    go_ret
    exact ⟨E.out, BA.out⟩
  by_cases h2 : 20 < ln
  · have E := Lib.hid (HP.out 2 (by rw [HK.out, if_pos (.inr h2)]))
    go_enter Tryz.func49, Tryz.ntmps49
    go_wp2
    go_ret
    exact ⟨E.out, BA.out⟩
  rw [if_neg (by omega)] at HK
  by_cases h3 : lt = 0
  · have E := Lib.hid (HP.out 3 (by rw [HK.out, if_pos h3]))
    subst h3
    go_enter Tryz.func49, Tryz.ntmps49
    go_wp2
    go_ret
    exact ⟨E.out, BA.out⟩
  rw [if_neg h3] at HK
  have z1 : ((lt : Int) == 0) = false := by rw [beq_eq_false_iff_ne]; omega
  go_enter Tryz.func49, Tryz.ntmps49
  go_wp2_with fail
  refine (sort_any HT.out).mono ?_
  rintro e w1 (⟨g1, v1, rfl, o1, b1⟩ | ⟨g1, rfl, rfl⟩)
  · have W1 : Hid (Below w.heap.size w w1) := BA.out.trans (b1.mono (by simp))
    have S1 := Lib.hid (ST.out.later b1)
    have HU1 := Lib.hid (HU.out.later b1)
    obtain ⟨c0, c1⟩ := S1.out.cells
    obtain ⟨a1, k1, rfl⟩ := (SIn.own o1 (by rw [EUT.out]; omega) (small_all (good_uniq g1))).shape
    rw [EUT.out] at *
    rw [if_neg (by rw [g1]; decide)] at HK
    clear o1 b1 g1
    go_wp2_with fail
    refine (sort_any HU1.out).mono ?_
    rintro e w2 (⟨g2, v2, rfl, o2, b2⟩ | ⟨g2, rfl, rfl⟩)
    · have W2 : Hid (Below w.heap.size w w2) := W1.out.trans (b2.mono W1.out.size)
      have S2 := Lib.hid (S1.out.later b2)
      clear c0 c1
      obtain ⟨c0, c1⟩ := S2.out.cells
      obtain ⟨a2, k2, rfl⟩ := (SIn.own o2 (by rw [EUN.out]; omega) (small_all (good_uniq g2))).shape
      rw [EUN.out] at *
      rw [if_neg (by rw [g2]; decide)] at HK
      clear o2 b2 g2
      by_cases h4 : ut < lt
      · have E := Lib.hid (HP.out 6 (by rw [HK.out, if_pos (.inl h4)]))
        go_wp2
        go_ret
        exact ⟨E.out, W2.out⟩
      · by_cases h5 : un < ln
        · have E := Lib.hid (HP.out 6 (by rw [HK.out, if_pos (.inr h5)]))
          go_wp2
          go_ret
          exact ⟨E.out, W2.out⟩
        · have E := Lib.hid (HP.out 0 (by rw [HK.out, if_neg (by omega)]))
          go_wp2
          go_ret
          exact ⟨E.out, W2.out⟩
    · have E := Lib.hid (HP.out 3 (by rw [HK.out, if_pos g2]))
      clear g2
      go_wp2
      go_ret
      exact ⟨E.out, W1.out⟩
  · have E := Lib.hid (HP.out 3 (by rw [HK.out, if_pos g1]))
    clear g1
    go_wp2
    go_ret
    exact ⟨E.out, BA.out⟩
end Go.Proofs.YtebjofffijnihaaGreatDoor
namespace Go.Proofs.YtebjofffijnihaaGreatDoor
set_option maxRecDepth 100000
set_option linter.unusedVariables false
open Go.ChangeShapes Go.WideShapes Go.ChangeAt Go.RowKit

theorem wgo_blank : ∀ (t word : Str), (∀ c ∈ t, bl c = true) → wgo word t = wgo word []
  | [], _, _ => rfl
  | c :: r, word, h => by
    have hc := h c (List.mem_cons_self ..)
    have ih := wgo_blank r [] (fun d hd => h d (List.mem_cons_of_mem _ hd))
    by_cases h0 : word = []
    · subst h0; rw [wgo_skip hc, ih]
    · rw [wgo_cut h0 hc, ih, wgo_end h0, wgo, if_pos rfl]
theorem wgo_tail : ∀ (x word t : Str), (∀ c ∈ t, bl c = true) → wgo word (x ++ t) = wgo word x
  | [], word, t, h => wgo_blank t word h
  | c :: r, word, t, h => by
    cases hc : bl c with
    | true =>
      by_cases h0 : word = []
      · subst h0; rw [List.cons_append, wgo_skip hc, wgo_skip hc, wgo_tail r [] t h]
      · rw [List.cons_append, wgo_cut h0 hc, wgo_cut h0 hc, wgo_tail r [] t h]
    | false =>
      have e : ∀ q, wgo word (c :: q) = wgo (word ++ [c]) q := fun q => wgo_nb [c] word q (by simp [hc])
      rw [List.cons_append, e, e, wgo_tail r _ t h]
theorem words_triml : ∀ x : Str, words (triml x) = words x
  | [] => rfl
  | c :: r => by
    cases hc : bl c with
    | true => rw [triml, List.dropWhile_cons, if_pos hc]; exact (words_triml r).trans (wgo_skip hc).symm
    | false => rw [triml, List.dropWhile_cons, if_neg (by rw [hc]; decide)]
theorem trimr_tail (x : Str) : ∃ t, x = trimr x ++ t ∧ ∀ c ∈ t, bl c = true := by
  refine ⟨(x.reverse.takeWhile bl).reverse, ?_, fun c hc => ?_⟩
  · unfold trimr
    rw [← List.reverse_append, List.takeWhile_append_dropWhile, List.reverse_reverse]
  · rw [List.mem_reverse] at hc
    exact List.all_eq_true.1 (List.all_takeWhile (l := x.reverse) (p := bl)) c hc
theorem words_trimr (x : Str) : words (trimr x) = words x := by
  obtain ⟨t, h, ht⟩ := trimr_tail x
  have := wgo_tail (trimr x) [] t ht
  rw [← h] at this
  exact this.symm
theorem words_trim (x : Str) : words (triml (trimr x)) = words x := by rw [words_triml, words_trimr]

/-- cut at the first colon -/
def colon : Str → Option (Str × Str)
  | [] => none
  | c :: r => if c = 58 then some ([], r) else match colon r with
    | none => none
    | some p => some (c :: p.1, p.2)
theorem colon_none : ∀ {s : Str}, colon s = none → ∀ j, j < s.length → s.getD j 0 ≠ 58
  | [], _, j, hj => by simp at hj
  | c :: r, h, j, hj => by
    unfold colon at h
    by_cases hc : c = 58
    · rw [if_pos hc] at h; cases h
    · rw [if_neg hc] at h
      cases hr : colon r with
      | some p => rw [hr] at h; cases h
      | none =>
        cases j with
        | zero => exact hc
        | succ j => simpa using colon_none hr j (by simpa using hj)
theorem colon_some : ∀ {s : Str} {p : Str × Str}, colon s = some p → p.1.length < s.length ∧ s.getD p.1.length 0 = 58 ∧ (∀ j, j < p.1.length → s.getD j 0 ≠ 58) ∧ s.take p.1.length = p.1 ∧ s.drop (p.1.length + 1) = p.2
  | [], p, h => by simp [colon] at h
  | c :: r, p, h => by
    unfold colon at h
    by_cases hc : c = 58
    · rw [if_pos hc] at h; cases h; subst hc; simp
    · rw [if_neg hc] at h
      cases hr : colon r with
      | none => rw [hr] at h; cases h
      | some q =>
        rw [hr] at h
        cases h
        obtain ⟨h1, h2, h3, h4, h5⟩ := colon_some hr
        refine ⟨by simpa using h1, by simpa using h2, fun j hj => ?_, by simpa using h4, by simpa using h5⟩
        cases j with
        | zero => exact hc
        | succ j => simpa using h3 j (by simpa using hj)
/-- the rule that a text describes, and the fault -/
def parseR (s : Str) : Rl × Int := match colon s with
  | none => (([], []), 3)
  | some p => if chkR (words p.1, words p.2) = 0 then ((words p.1, words p.2), 0) else (([], []), chkR (words p.1, words p.2))
def ParsePost (s : Str) (w : World) (e : Ending) (w' : World) : Prop :=
  ∃ vt vn, e = .returned (.tuple #[.agg #[vt, vn], .int .i64 (parseR s).2]) ∧ SIn w' vt (parseR s).1.1 ∧ SIn w' vn (parseR s).1.2 ∧ Below w.heap.size w w'
theorem sin_nil (w : World) : SIn w (.slice none 0 0) [] := ⟨none, 0, rfl, Nat.le_refl _, Nat.zero_le _, fun x hx => absurd hx List.not_mem_nil, .inl rfl⟩
theorem parseR_none {s : Str} (h : colon s = none) : parseR s = (([], []), 3) := by unfold parseR; rw [h]
theorem parseR_ok {s : Str} {p : Str × Str} (h : colon s = some p) (k : chkR (words p.1, words p.2) = 0) : parseR s = ((words p.1, words p.2), 0) := by unfold parseR; rw [h]; simp only []; rw [if_pos k]
theorem parseR_bad {s : Str} {p : Str × Str} (h : colon s = some p) (k : chkR (words p.1, words p.2) ≠ 0) : parseR s = (([], []), chkR (words p.1, words p.2)) := by unfold parseR; rw [h]; simp only []; rw [if_neg k]

set_option maxHeartbeats 2000000 in
set_option maxRecDepth 100000 in
theorem parse_none (S : ByteArray) (w : World) (h : colon S.data.toList = none) :
    Calls Tryz.prog 92 #[.string S] w (ParsePost S.data.toList w) := by
  have SP : Hid (∀ W, Calls Tryz.prog 89 #[.string S, .int .u8 58] W fun e w' => e = .returned (.tuple #[.string S, .string (ByteArray.mk #[]), .bool false]) ∧ w' = W) := fun W => split_no S 58 W (fun j hj => colon_none h j (by rw [size_list]; exact hj))
  unfold ParsePost
  rw [parseR_none h]
  clear h
  go_enter Tryz.func92, Tryz.ntmps92
  go_wp2_with fail
  refine (SP.out _).mono ?_
  rintro e w' ⟨rfl, rfl⟩
  go_wp2
  (try simp only [Exit.inBlock, Exit.then])
  refine bodyPost_ret (v := .tuple #[.agg #[.slice none 0 0, .slice none 0 0], .int .i64 3]) ?_ rfl ⟨.slice none 0 0, .slice none 0 0, rfl, sin_nil _, sin_nil _, (Below.refl _ _).alloc (Nat.le_refl _) _⟩
  rw [results_cell_tmp rfl]; go_simp

theorem sin_set2 {w : World} {v : Value} {z : List Str} {k : Nat} {a a' : Option Addr} {n c n' c' : Nat} (h : SIn w v z) (st : StayR k (.slice a n c) (.slice a' n' c') w) (u1 u2 : Value) : SIn ((w.setCell ⟨k, 0, none⟩ u1).setCell ⟨k, 1, none⟩ u2) v z := by
  obtain ⟨a0, cap, h1, h2, h3, h4, h5⟩ := h
  refine ⟨a0, cap, h1, h2, h3, h4, ?_⟩
  by_cases h0 : z = []
  · exact .inl h0
  rcases h5 with h5 | ⟨b, off, h5, h6, h7⟩
  · exact .inl h5
  · have hne : k ≠ b := by
      rintro rfl
      have c0 := h7 0 (List.length_pos_iff.2 h0)
      have hb : w.heap[k]? = some (.cells #[.slice a n c, .slice a' n' c'] 40 (0, 0)) := st
      unfold World.cell? at c0
      rw [hb] at c0
      match off, c0 with
      | 0, c0 => simp at c0
      | 1, c0 => simp at c0
      | off + 2, c0 => simp at c0
    refine .inr ⟨b, off, h5, by simpa using h6, fun j hj => ?_⟩
    rw [World.cell?_setCell_far _ _ _ _ (by exact hne), World.cell?_setCell_far _ _ _ _ (by exact hne)]
    exact h7 j hj

set_option maxHeartbeats 4000000 in
set_option maxRecDepth 100000 in
theorem parse_some (S : ByteArray) (w : World) (hs : S.size ≤ 4294967296) (p : Str × Str) (h : colon S.data.toList = some p) :
    Calls Tryz.prog 92 #[.string S] w (ParsePost S.data.toList w) := by
  obtain ⟨h1, h2, h3, h4, h5⟩ := colon_some h
  rw [size_list] at h1
  have l1 : p.1.length ≤ 4294967296 := by omega
  have l2 : p.2.length ≤ 4294967296 := by rw [← h5, List.length_drop, size_list]; omega
  have SP : Hid (∀ W, Calls Tryz.prog 89 #[.string S, .int .u8 58] W fun e w' => e = .returned (.tuple #[.string (bs (triml (trimr p.1))), .string (bs (triml (trimr p.2))), .bool true]) ∧ Below W.heap.size W w') := fun W => by
    have := split_at S 58 p.1.length W (by omega) h1 h2 h3
    rw [h4, h5] at this
    exact this
  have WD : Hid (∀ (x : Str) W, x.length ≤ 4294967296 → Calls Tryz.prog 119 #[.string (bs (triml (trimr x)))] W fun e w' => ∃ v, e = .returned v ∧ SIn w' v (words x) ∧ Below W.heap.size W w') := fun x W hx => by
    have := words_any (bs (triml (trimr x))) W (by rw [bs_size]; have := triml_le (trimr x); have := trimr_le x; omega)
    rw [bs_list, words_trim] at this
    exact this
  have WD1 : Hid (∀ W, Calls Tryz.prog 119 #[.string (bs (triml (trimr p.1)))] W fun e w' => ∃ v, e = .returned v ∧ SIn w' v (words p.1) ∧ Below W.heap.size W w') := fun W => WD.out p.1 W l1
  have WD2 : Hid (∀ W, Calls Tryz.prog 119 #[.string (bs (triml (trimr p.2)))] W fun e w' => ∃ v, e = .returned v ∧ SIn w' v (words p.2) ∧ Below W.heap.size W w') := fun W => WD.out p.2 W l2
  have OK : Hid (chkR (words p.1, words p.2) = 0 → parseR S.data.toList = ((words p.1, words p.2), 0)) := fun k => parseR_ok h k
  have BAD : Hid (chkR (words p.1, words p.2) ≠ 0 → parseR S.data.toList = (([], []), chkR (words p.1, words p.2))) := fun k => parseR_bad h k
  unfold ParsePost
  clear WD h h1 h2 h3 h4 h5 l1 l2 hs
  generalize parseR S.data.toList = R at *
  generalize bs (triml (trimr p.1)) = y1 at *
  generalize bs (triml (trimr p.2)) = y2 at *
  generalize words p.1 = t at *
  generalize words p.2 = n at *
  have S0 := Lib.hid (stayR_new w (.slice none 0 0) (.slice none 0 0))
  have B0 : Hid (Below w.heap.size w (w.alloc (.cells #[.slice none 0 0, .slice none 0 0] 40))) := (Below.refl _ _).alloc (Nat.le_refl _) _
  go_enter Tryz.func92, Tryz.ntmps92
  go_wp2_with fail
  refine (SP.out _).mono ?_
  rintro e w1 ⟨rfl, b1⟩
  have S1 := Lib.hid (S0.out.later b1)
  have B1 := Lib.hid (B0.out.trans (b1.mono (by simp)))
  clear b1
  go_wp2_with fail
  refine (WD1.out _).mono ?_
  rintro e w2 ⟨v1, rfl, i1, b2⟩
  have S2 := Lib.hid (S1.out.later b2)
  have B2 := Lib.hid (B1.out.trans (b2.mono B1.out.size))
  have I2 := Lib.hid i1
  clear b2 i1
  go_wp2_with fail
  refine (WD2.out _).mono ?_
  rintro e w3 ⟨v2, rfl, i2, b3⟩
  have S3 := Lib.hid (S2.out.later b3)
  have B3 := Lib.hid (B2.out.trans (b3.mono B2.out.size))
  have I3 := Lib.hid (I2.out.later b3)
  have J3 := Lib.hid i2
  clear b3 i2
  obtain ⟨a1, c1, rfl⟩ := I3.out.shape
  obtain ⟨a2, c2, rfl⟩ := J3.out.shape
  have b4 : Below w3.heap.size w3 (w3.alloc (.cells #[.slice a1 t.length c1, .slice a2 n.length c2] 40)) := (Below.refl _ _).alloc (Nat.le_refl _) _
  have S4 := Lib.hid (S3.out.later b4)
  have B4 := Lib.hid (B3.out.trans (b4.mono B3.out.size))
  have I4 := Lib.hid (I3.out.later b4)
  have J4 := Lib.hid (J3.out.later b4)
  have K4 := Lib.hid (stayR_new w3 (.slice a1 t.length c1) (.slice a2 n.length c2))
  clear b4
  generalize t.length = lt at *
  generalize n.length = ln at *
  go_wp2_with fail
  refine (rcheck_any I4.out J4.out).mono ?_
  rintro e w5 ⟨rfl, b5⟩
  have S5 := Lib.hid (S4.out.later b5)
  have B5 := Lib.hid (B4.out.trans (b5.mono B4.out.size))
  have I5 := Lib.hid (I4.out.later b5)
  have J5 := Lib.hid (J4.out.later b5)
  have K5 := Lib.hid (K4.out.later b5)
  clear b5
  obtain ⟨k0, k1⟩ := K5.out.cells
  obtain ⟨s0, s1⟩ := S5.out.cells
  obtain ⟨f0, f1⟩ := S5.out.thaw
  by_cases hc : chkR (t, n) = 0
  · have E := Lib.hid (OK.out hc)
    rw [hc]
    clear hc
    go_wp2
    (try simp only [Exit.inBlock, Exit.then])
    refine bodyPost_ret (v := .tuple #[.agg #[.slice a1 lt c1, .slice a2 ln c2], .int .i64 0]) ?_ rfl ⟨.slice a1 lt c1, .slice a2 ln c2, by rw [E.out], ?_, ?_, (B5.out.setCell (Nat.le_refl _) _).setCell (Nat.le_refl _) _⟩
    · rw [results_cell_tmp rfl]; go_simp
    · rw [E.out]; exact sin_set2 I5.out S5.out _ _
    · rw [E.out]; exact sin_set2 J5.out S5.out _ _
  · have hne : (chkR (t, n) != 0) = true := by rw [bne_iff_ne]; exact hc
    have E := Lib.hid (BAD.out hc)
    clear hc
    go_wp2
    (try simp only [Exit.inBlock, Exit.then])
    refine bodyPost_ret (v := .tuple #[.agg #[.slice none 0 0, .slice none 0 0], .int .i64 (chkR (t, n))]) ?_ rfl ⟨.slice none 0 0, .slice none 0 0, by rw [E.out], ?_, ?_, (B5.out.setCell (Nat.le_refl _) _).setCell (Nat.le_refl _) _⟩
    · rw [results_cell_tmp rfl]; go_simp
    · rw [E.out]; exact sin_nil _
    · rw [E.out]; exact sin_nil _
theorem parse_any (S : ByteArray) (w : World) (hs : S.size ≤ 4294967296) : Calls Tryz.prog 92 #[.string S] w (ParsePost S.data.toList w) := by
  cases h : colon S.data.toList with
  | none => exact parse_none S w h
  | some p => exact parse_some S w hs p h

theorem alive_chk : chkR ([[97]], [[98]]) = 0 := by
  unfold chkR
  rw [uniq_self (List.pairwise_singleton _ _), uniq_self (List.pairwise_singleton _ _)]
  decide
theorem alive_parse : parseR [97, 32, 58, 32, 98] = (([[97]], [[98]]), 0) := by
  have h : colon [97, 32, 58, 32, 98] = some ([97, 32], [32, 98]) := by decide
  have h1 : words [97, 32] = [[97]] := by decide
  have h2 : words [32, 98] = [[98]] := by decide
  have := parseR_ok h (by rw [h1, h2]; exact alive_chk)
  rw [h1, h2] at this
  exact this
end Go.Proofs.YtebjofffijnihaaGreatDoor
