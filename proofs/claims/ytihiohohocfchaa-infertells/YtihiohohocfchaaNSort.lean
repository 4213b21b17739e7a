/-
  What package name's Sort answers: the names sorted, each once. Condition: a slice takes at most 2^48 bytes.
-/
import Derived.Test.YtihiohohocfchaaNApp
namespace Go.Proofs.Ytihiohohocfchaa
set_option maxRecDepth 100000
open Go.ChangeShapes Go.WideShapes Go.ChangeAt Go.RowKit

/-! slices.Clone -/
set_option maxHeartbeats 1000000 in
theorem clone_some (x : Addr) (n c : Nat) (z : List Str) (w : World) (hz : z.length = n) (hn : n ≤ 17592186044416) (hc : ∀ k, k < n → w.cell? (x.add k) = some (.string (bs (z.getD k [])))) :
    Calls Try.prog 48 #[.slice (some x) n c] w fun e w' => ∃ v, e = .returned v ∧ w'.ownsRow w.heap.size 9 1 v n (z.map encStr) ∧ Below w.heap.size w w' := by
  obtain ⟨i0, hi, hz0, hz1, hz2⟩ := info_parts infoStr
  obtain ⟨g', cap', w1, hr, hown, hgrow, _⟩ := app_own (w := w.alloc (.cells #[] 9)) (base := w.heap.size) (g := w.heap.size) (n := 0) (cap := 0) (m := n) (c := c) (xs := []) (news := z.map encStr) (x := x) 24 hi hz0 hz1 hz2 rfl
    (World.ownsRow_made w #[] 0 (Nat.le_refl _) (Nat.zero_le _) (by simp)) (by rw [List.length_map, hz]) (fun j u hj => by
      have hlt : j < z.length := by
        rcases Nat.lt_or_ge j z.length with h | h
        · exact h
        · rw [List.getElem?_eq_none (by rw [List.length_map]; exact h)] at hj; cases hj
      rw [List.getElem?_map, List.getElem?_eq_getElem hlt] at hj
      cases hj
      have := hc j (hz ▸ hlt)
      rw [List.getD, List.getElem?_eq_getElem hlt] at this
      exact cell_later (Below.alloc (Below.refl _ w) (Nat.le_refl _) _) this) (by intro u hu; simp at hu; obtain ⟨_, _, rfl⟩ := hu; rfl) (by unfold maxLen; omega) (.inr (nextcap_zero n hn)) (by simp)
  have HR := Lib.hid hr; clear hr
  have HO := Lib.hid hown; clear hown
  have HG := Lib.hid hgrow; clear hgrow hc hi hz0 hz1 hz2 hz
  have q := fun (w : World) (a : Option Addr) (n c n' c' : Nat) => Lib.run_eql_slice_nil (P := Try.prog) w 24 9 a n c n' c' Try.underlying24
  go_enter Try.func48, Try.ntmps48
  go_wp2_with (at_builtin; refine Lib.wpList_append_run _ rfl _ _ 24 24 rfl _ _ rfl rfl _ _ HR.out ?_)
  go_ret
  refine ⟨_, rfl, by simpa using HO.out, ?_⟩
  exact (Below.alloc (Below.refl _ w) (Nat.le_refl _) _).grown HG.out (by simp) (by intro k hk; cases hk; exact Nat.le_refl _)
theorem clone_nil (n c : Nat) (w : World) : Calls Try.prog 48 #[.slice none n c] w fun e w' => e = .returned (.slice none 0 0) ∧ w = w' := by
  have q := fun (w : World) (a : Option Addr) (n c n' c' : Nat) => Lib.run_eql_slice_nil (P := Try.prog) w 24 9 a n c n' c' Try.underlying24
  go_enter Try.func48, Try.ntmps48
  go_wp2
  go_ret
  exact ⟨rfl, rfl⟩
theorem clone_of {w : World} {v : Value} {z : List Str} (h : SIn w v z) :
    Calls Try.prog 48 #[v] w fun e w' => ∃ v', e = .returned v' ∧ w'.ownsRow w.heap.size 9 1 v' z.length (z.map encStr) ∧ Below w.heap.size w w' := by
  rcases h.open with ⟨rfl, a, cap, rfl⟩ | ⟨_, b, off, cap, rfl, _, _, hc⟩
  · cases a with
    | none => exact (clone_nil 0 cap w).mono fun e w' k => ⟨_, k.1, k.2 ▸ World.ownsRow_nil _ _ _ _, k.2 ▸ Below.refl _ _⟩
    | some x => exact clone_some x 0 cap [] w rfl (by omega) (fun k hk => absurd hk (Nat.not_lt_zero _))
  · refine clone_some _ _ cap z w rfl h.bound (fun k hk => ?_)
    rw [← hc k hk]
    congr 1
    unfold Addr.add
    by_cases k0 : k = 0 <;> simp [k0]

/-! slices.Sort, slices.Compact at a row of the call's own -/
theorem sortRow_own {v : Value} {n : Nat} {z : List Str} {base : Nat} {w : World} (hown : w.ownsRow base 9 1 v n (z.map encStr)) (hn : n < 4611686018427387904) :
    Calls Try.prog 49 #[v] w fun e w' =>
      e = .returned (.tuple #[]) ∧ w'.ownsRow base 9 1 v n ((sortS z).map encStr) ∧ (∀ B w0, B ≤ base → Below B w0 w → Below B w0 w') := by
  by_cases h0 : n = 0
  · subst h0
    have hz : z = [] := by have := hown.1; simpa using this
    subst hz
    obtain ⟨a, c, rfl⟩ : ∃ a c, v = .slice a 0 c := by
      rcases hown.2 with ⟨h, _⟩ | ⟨g, cap, _, h, _⟩
      · exact ⟨_, _, h⟩
      · exact ⟨_, _, h⟩
    have hS := AnyM.slices_Sort_string_none (P := Try.prog) (ρ := sortL_ren) sortL a c w
    refine Calls.mono (show Calls Try.prog 49 _ _ _ from hS) ?_
    rintro e w' ⟨he, rfl⟩
    rw [List.Perm.eq_nil (sortS_perm [])]
    exact ⟨he, hown, fun _ _ _ h => h⟩
  · have hv : v ≠ .slice none 0 0 := by
      rintro rfl
      rcases hown.2 with ⟨_, h⟩ | ⟨g, cap, _, h, _⟩
      · exact h0 h
      · cases h
    obtain ⟨g, cap, rfl, hb, hlt, _, _, hl, hH⟩ := Lib.holds_of_ownsRow hown hv
    have hS := AnyM.slices_Sort_string sortL g 0 cap z w hH hlt (by omega)
    rw [hl] at hS
    refine Calls.mono (show Calls Try.prog 49 _ _ _ from hS) ?_
    rintro e w' ⟨he, q, os, rfl⟩
    have hsl : (sortS z).length = n := by rw [(sortS_perm z).length_eq]; exact hl
    have h1 := Lib.ownsRow_putRow (q := q) hown hsl (Nat.le_refl n)
    rw [List.take_of_length_le (by omega)] at h1
    refine ⟨he, ?_, fun B w0 hB hbel => ?_⟩
    · exact Lib.ownsRow_grow h1 0 os
    · have hz : (Go.Sort.putRow encStr (Go.Sort.ahead w q) g 0 (sortS z).toArray).heap.size = w.heap.size := by simp
      exact (Lib.below_putRow (enc := encStr) (q := q) (d := (sortS z).toArray) hbel (Nat.le_trans hB hb)).trans (Lib.below_grow B _ (by omega) 0 os)

theorem compactRow_own {v : Value} {n : Nat} {z : List Str} {base : Nat} {w : World} (hown : w.ownsRow base 9 1 v n (z.map encStr)) (hn : n < 4611686018427387904) :
    Calls Try.prog 50 #[v] w fun e w' =>
      ∃ v', e = .returned v' ∧ w'.ownsRow base 9 1 v' (Lib.compact z).length ((Lib.compact z).map encStr) ∧ (∀ B w0, B ≤ base → Below B w0 w → Below B w0 w') := by
  by_cases h0 : n = 0
  · subst h0
    have hz : z = [] := by have := hown.1; simpa using this
    subst hz
    obtain ⟨a, c, rfl⟩ : ∃ a c, v = .slice a 0 c := by
      rcases hown.2 with ⟨h, _⟩ | ⟨g, cap, _, h, _⟩
      · exact ⟨_, _, h⟩
      · exact ⟨_, _, h⟩
    have hS := AnyG.slices_Compact_string_empty (P := Try.prog) (ρ := compactL_ren) compactL a c w
    refine Calls.mono (show Calls Try.prog 50 _ _ _ from hS) ?_
    rintro e w' ⟨he, rfl⟩
    exact ⟨_, he, hown, fun _ _ _ h => h⟩
  · have hv : v ≠ .slice none 0 0 := by
      rintro rfl
      rcases hown.2 with ⟨_, h⟩ | ⟨g, cap, _, h, _⟩
      · exact h0 h
      · cases h
    obtain ⟨g, cap, rfl, hb, hlt, hcap, _, hl, hH⟩ := Lib.holds_of_ownsRow hown hv
    have hS := AnyG.slices_Compact_string compactL g 0 cap z w hH (by omega) (by omega)
    rw [hl] at hS
    refine Calls.mono (show Calls Try.prog 50 _ _ _ from hS) ?_
    rintro e w' ⟨he, q, rfl⟩
    have hk : (Lib.compact z).length ≤ n := by have := compact_le z; omega
    have h1 := Lib.ownsRow_putRow (q := q) (ys := Lib.compact z ++ List.replicate (n - (Lib.compact z).length) []) hown (by rw [List.length_append, List.length_replicate]; omega) hk
    rw [List.take_left] at h1
    exact ⟨_, he, h1, fun B w0 hB hbel => Lib.below_putRow (enc := encStr) (q := q) hbel (Nat.le_trans hB hb)⟩

/-- what Sort hands back -/
def SortPost (z : List Str) (w : World) (e : Ending) (w' : World) : Prop :=
  (z.all good = true ∧ ∃ v, e = .returned (.tuple #[v, .int .i64 0]) ∧ w'.ownsRow w.heap.size 9 1 v (uniq z).length ((uniq z).map encStr) ∧ Below w.heap.size w w') ∨
  (z.all good = false ∧ e = .returned (.tuple #[.slice none 0 0, .int .i64 3]) ∧ w' = w)

theorem all_good {z : List Str} (h : ∀ j, j < z.length → good (z.getD j []) = true) : z.all good = true := by
  rw [List.all_eq_true]
  intro x hx
  obtain ⟨i, hi, rfl⟩ := mem_getD hx
  exact h i hi
theorem all_bad {z : List Str} {k : Nat} (hk : k < z.length) (h : good (z.getD k []) = false) : z.all good = false := by
  rw [List.all_eq_false]
  exact ⟨_, getD_mem hk, by simpa using h⟩

set_option maxHeartbeats 1000000 in
theorem sort_any {w : World} {v : Value} {z : List Str} (h : SIn w v z) :
    Calls Try.prog 26 #[v] w (SortPost z w) := by
  have F := Lib.hid h
  have hn := h.bound
  have HX : Hid (∀ k, k < z.length → (bs (z.getD k [])).size ≤ 9223372036854775807) := fun k hk => by rw [bs_size]; exact F.out.small _ (getD_mem hk)
  have tail : ∀ (k : Nat), Hid (z.all good = true) → Calls Try.prog 48 #[v] w fun e w' => ∃ v', e = .returned v' ∧ w'.ownsRow w.heap.size 9 1 v' z.length (z.map encStr) ∧ Below w.heap.size w w' := fun _ _ => clone_of F.out
  rcases h.open with ⟨hz, a, cap, rfl⟩ | ⟨hpos, b, off, cap, rfl, hcap, hlt, hc⟩
  · clear h hn HX
    subst hz
    go_enter Try.func26, Try.ntmps26
    go_wp2_with fail
    go_loopw [10] (fun i wr => i = .int .i64 0 ∧ wr = w) (fun _ _ => 0)
    case atStart => exact ⟨rfl, rfl⟩
    case round =>
      obtain ⟨rfl, rfl⟩ := hrel
      go_wp2_with fail
      refine (clone_of F.out).mono ?_
      rintro e wc ⟨v', rfl, hown, hbel⟩
      have HO := Lib.hid hown; clear hown
      have HB := Lib.hid hbel; clear hbel
      go_wp2_with fail
      refine (sortRow_own HO.out (by simp)).mono ?_
      rintro e wd ⟨rfl, hown, hbel⟩
      have HO2 := Lib.hid hown; clear hown
      have HB2 := Lib.hid (hbel _ _ (Nat.le_refl _) HB.out); clear hbel
      go_wp2_with fail
      refine (compactRow_own HO2.out (by simp)).mono ?_
      rintro e we ⟨v2, rfl, hown, hbel⟩
      have HO3 := Lib.hid hown; clear hown
      have HB3 := Lib.hid (hbel _ _ (Nat.le_refl _) HB2.out); clear hbel
      go_wp2
      go_ret2
      exact .inl ⟨rfl, v2, rfl, HO3.out, HB3.out⟩
  · clear h
    have HC := Lib.hid hc; clear hc
    have HG : Hid ((∀ j, j < z.length → good (z.getD j []) = true) → z.all good = true) := all_good
    have HN : Hid (∀ k, k < z.length → good (z.getD k []) = false → z.all good = false) := fun k => all_bad
    have HB0 : Hid (∀ k, good (bs (z.getD k [])).data.toList = good (z.getD k [])) := fun k => by rw [bs_list]
    generalize hL : z.length = L at *
    have HL := Lib.hid hL; clear hL
    go_enter Try.func26, Try.ntmps26
    go_wp2_with fail
    go_loopw [10] (fun i wr => ∃ k : Nat, k ≤ L ∧ i = .int .i64 (k : Int) ∧ (∀ j, j < k → good (z.getD j []) = true) ∧ wr = w) (fun i _ => L - (intOf i).toNat)
    case atStart => exact ⟨0, by omega, rfl, fun _ h => absurd h (Nat.not_lt_zero _), rfl⟩
    case round =>
      obtain ⟨k, hk, rfl, hall, rfl⟩ := hrel
      have HA := Lib.hid hall; clear hall
      by_cases hk2 : k < L
      · have c1 := HC.out k hk2
        go_wp2_with fail
        refine (check_any _ _ (HX.out k hk2)).mono ?_
        rw [HB0.out k]
        rintro e w' ⟨rfl, rfl⟩
        clear c1
        cases hd : good (z.getD k []) with
        | false =>
          have HD := Lib.hid (HN.out k hk2 hd); clear hd
          go_wp2
          go_ret2
          exact .inr ⟨HD.out, rfl, rfl⟩
        | true =>
          have HD := Lib.hid hd; clear hd
          go_wp2
          go_roundw
          case rel =>
            refine ⟨k + 1, by omega, by go_num, fun j hj => ?_, trivial⟩
            rcases Nat.lt_succ_iff_lt_or_eq.1 hj with h | h
            · exact HA.out j h
            · rw [h]; exact HD.out
          case measure => simp [intOf]; omega
      · obtain rfl : k = L := by omega
        have HD := Lib.hid (HG.out HA.out)
        go_wp2_with fail
        refine (clone_of F.out).mono ?_
        rintro e wc ⟨v', rfl, hown, hbel⟩
        have HO := Lib.hid hown; clear hown
        have HB := Lib.hid hbel; clear hbel
        have hn2 : Hid (z.length < 4611686018427387904) := by show _ < _; rw [HL.out]; omega
        go_wp2_with fail
        refine (sortRow_own HO.out hn2.out).mono ?_
        rintro e wd ⟨rfl, hown, hbel⟩
        have HO2 := Lib.hid hown; clear hown
        have HB2 := Lib.hid (hbel _ _ (Nat.le_refl _) HB.out); clear hbel
        go_wp2_with fail
        refine (compactRow_own HO2.out hn2.out).mono ?_
        rintro e we ⟨v2, rfl, hown, hbel⟩
        have HO3 := Lib.hid hown; clear hown
        have HB3 := Lib.hid (hbel _ _ (Nat.le_refl _) HB2.out); clear hbel
        go_wp2
        go_ret2
        exact .inl ⟨HD.out, v2, rfl, HO3.out, HB3.out⟩
end Go.Proofs.Ytihiohohocfchaa
