/-
  append at slices of strings of the call's own, up to 2^48 bytes; slices.Grow at nil. No condition beyond the sizes.
  What package name's Sort answers: the names sorted, each once. Condition: a slice takes at most 2^48 bytes.
  That the law's own look at package name (names) is passed; slices.Contains, slices.Equal at strings; slices.BinarySearch and package name's Find. No condition but those of the slices.
  slices.Grow at nil, slices.Concat of two slices of strings, package name's Merge. Condition: both slices take together at most 2^48 bytes.
  What package name's Merge answers: the names of both lists, sorted, each once. Condition: both slices take together at most 2^48 bytes.
  Rules in memory: what a slice of rules holds; what package rule's Check answers. Condition: a slice takes at most 2^47 bytes (the form says so).
-/
import Derived.Test.YtfgcbdjkimkgpaaGreatDoorGc11FRd
import Derived.Laws.AppendOwnNone
import Derived.Lib.AppendZeros
import Derived.Deep.LoopGhost
import Derived.Deep.Draws
import Derived.Lib.Walk
namespace Go.Proofs.YtfgcbdjkimkgpaaGreatDoor
set_option maxRecDepth 100000
open Go.ChangeShapes Go.WideShapes Go.ChangeAt Go.RowKit

theorem app_own {w : World} {base g n cap m c : Nat} {xs news : List Value} {x : Addr} {i0 : TypeInfo} {zv : Value} (ty : TypeId) (hi : Tryz.prog.info? 9 = some i0) (hz0 : i0.zero = some zv) (hz1 : i0.size = 1) (hz2 : i0.bytes = 16) (hzs : zv.cells.size = 1)
    (hown : w.ownsRow base 9 1 (.slice (some ⟨g, 0, none⟩) n cap) n xs) (hl : news.length = m) (hnews : ∀ j u, news[j]? = some u → w.cell? (x.add j) = some u) (h1 : ∀ u ∈ news, u.oneCell' = true)
    (h63 : n + m ≤ maxLen) (hfit : n + m ≤ cap ∨ Builtin.nextslicecap (n + m) cap * 16 ≤ 281474976710656) (hbase : base ≤ w.heap.size) :
    ∃ g' cap' w', (Builtin.append_ #[27, 27] ty #[.slice (some ⟨g, 0, none⟩) n cap, .slice (some x) m c]).run Tryz.prog w = .ok (.slice (some ⟨g', 0, none⟩) (n + m) cap') w' ∧
      w'.ownsRow base 9 1 (.slice (some ⟨g', 0, none⟩) (n + m) cap') (n + m) (xs ++ news) ∧ w.grownBy w' (some g) ∧ (n + m ≤ cap → cap' = cap ∧ g' = g) := by
  have hlx : xs.length = n := by simpa using hown.1
  have hlen : (xs ++ news).length = (n + m) * 1 := by rw [List.length_append, hlx, hl]; omega
  obtain ⟨cur, hg, hnc, hcm, hcs, htake⟩ : ∃ cur, w.heap[g]? = some (.cells cur 9 (0, 0)) ∧ n ≤ cap ∧ cap ≤ maxLen ∧ cur.size = cap * 1 ∧ cur.toList.take (n * 1) = xs := by
    rcases hown.2 with ⟨h, _⟩ | ⟨g', cap', cur, hv, _, hg, hn, hm, hs, ht⟩
    · cases h
    · cases hv
      exact ⟨cur, hg, hn, hm, hs, ht⟩
  have hbg : base ≤ g := (hown.lt g rfl).1
  by_cases hroom : n + m ≤ cap
  · have hr := run_append_room (P := Tryz.prog) w 27 ty 9 i0 Tryz.underlying27 hi g n cap cur hg x m c news (by rw [hz1, hl]; omega) hnews h1 hroom (by rw [hz1, hl, hcs]; omega)
    rw [hz1] at hr
    refine ⟨g, cap, _, hr, ⟨hlen, .inr ⟨g, cap, _, rfl, hbg, setRow_heap w g cur _ 9 _ hg, hroom, hcm, ?_, ?_⟩⟩, ⟨rfl, rfl, rfl, by simp, fun k _ hk => setRow_other w g k _ (fun e => hk (by rw [e]))⟩, fun _ => ⟨rfl, rfl⟩⟩
    · simp only [List.size_toArray, List.length_append, List.length_take, List.length_drop, Array.length_toList]
      omega
    · rw [htake, ← hlen]
      exact List.take_left
  · have hf : Builtin.nextslicecap (n + m) cap * i0.bytes ≤ 281474976710656 := by
      rw [hz2]
      rcases hfit with h | h
      · exact absurd h hroom
      · exact h
    have holds : ∀ j u, xs[j]? = some u → w.cell? ((⟨g, 0, none⟩ : Addr).add j) = some u := hown.cells (g := g) rfl
    have hr := run_append_grow (P := Tryz.prog) w 27 ty 9 i0 zv Tryz.underlying27 hi hz0 ⟨g, 0, none⟩ n cap xs (by rw [hz1, hlx]; omega) holds x m c news (by rw [hz1, hl]; omega) hnews (by omega) (by unfold maxLen at h63; omega) hf
    have hge := grownCap_ge w (n + m) cap 9
    refine ⟨_, _, _, hr, ⟨hlen, .inr ⟨w.heap.size, _, _, rfl, hbase, heap_alloc_new w.drew _, hge, grownCap_le_maxLen w (n + m) cap 9 h63, ?_, ?_⟩⟩, ⟨rfl, rfl, rfl, by simp, fun k hk _ => heap_alloc_old w.drew _ hk⟩, fun h => absurd h hroom⟩
    · simp only [Array.size_append, List.size_toArray, size_zeroCells, hzs, hlx, hl]
      omega
    · simp only [Array.toList_append, List.append_assoc]
      rw [← List.append_assoc, ← hlen]
      exact List.take_left

/-- nothing is appended -/
theorem app_none {w : World} {base n : Nat} {v : Value} {xs : List Value} (ty : TypeId) (hown : w.ownsRow base 9 1 v n xs) (a : Option Addr) (c : Nat) :
    (Builtin.append_ #[27, 27] ty #[v, .slice a 0 c]).run Tryz.prog w = .ok v w := by
  obtain ⟨i0, hi, hz0, hz1, hz2⟩ := info_parts infoStr
  obtain ⟨b, cap, rfl, hn⟩ : ∃ b cap, v = .slice b n cap ∧ n ≤ cap := by
    rcases hown.2 with ⟨rfl, rfl⟩ | ⟨g, cap, cur, rfl, _, _, hn, _⟩
    · exact ⟨none, 0, rfl, Nat.le_refl _⟩
    · exact ⟨_, cap, rfl, hn⟩
  cases a with
  | none => cases b <;> simp [Builtin.append_, run_underlying Tryz.underlying27, sizeOf, typeInfo, hi, Builtin.lenOf, hn, Builtin.firstCells, storeCells]
  | some x =>
    have hf := run_firstCells_some (P := Tryz.prog) w i0.size 0 x 0 c [] (by simp) (by simp)
    cases b <;> simp [Builtin.append_, run_underlying Tryz.underlying27, sizeOf, typeInfo, hi, Builtin.lenOf, hn, hf, storeCells]

/-- strings appended to a row of the call's own -/
theorem app_strs {w : World} {base g cap : Nat} {v2 : Value} {z1 z2 : List Str} (ty : TypeId) (hown : w.ownsRow base 9 1 (.slice (some ⟨g, 0, none⟩) z1.length cap) z1.length (z1.map encStr)) (h2 : SIn w v2 z2)
    (h63 : z1.length + z2.length ≤ maxLen) (hfit : z1.length + z2.length ≤ cap ∨ Builtin.nextslicecap (z1.length + z2.length) cap * 16 ≤ 281474976710656) (hbase : base ≤ w.heap.size) :
    ∃ g' cap' w', (Builtin.append_ #[27, 27] ty #[.slice (some ⟨g, 0, none⟩) z1.length cap, v2]).run Tryz.prog w = .ok (.slice (some ⟨g', 0, none⟩) (z1 ++ z2).length cap') w' ∧
      w'.ownsRow base 9 1 (.slice (some ⟨g', 0, none⟩) (z1 ++ z2).length cap') (z1 ++ z2).length ((z1 ++ z2).map encStr) ∧ w.grownBy w' (some g) ∧ (z1.length + z2.length ≤ cap → cap' = cap ∧ g' = g) := by
  rcases h2.open with ⟨rfl, a, c, rfl⟩ | ⟨_, b, off, c, rfl, _, _, hc⟩
  · rw [List.append_nil]
    exact ⟨g, cap, w, app_none ty hown a c, hown, ⟨rfl, rfl, rfl, Nat.le_refl _, fun _ _ _ => rfl⟩, fun _ => ⟨rfl, rfl⟩⟩
  · obtain ⟨i0, hi, hz0, hz1, hz2⟩ := info_parts infoStr
    obtain ⟨g', cap', w', h1, h2, h3, h4⟩ := app_own (x := ⟨b, off, none⟩) (m := z2.length) (c := c) (news := z2.map encStr) ty hi hz0 hz1 hz2 rfl hown (by simp) (fun j u hj => by
      have hlt : j < z2.length := by
        rcases Nat.lt_or_ge j z2.length with h | h
        · exact h
        · rw [List.getElem?_eq_none (by rw [List.length_map]; exact h)] at hj; cases hj
      rw [List.getElem?_map, List.getElem?_eq_getElem hlt] at hj
      cases hj
      have := hc j hlt
      rw [List.getD, List.getElem?_eq_getElem hlt] at this
      have ea : (⟨b, off, none⟩ : Addr).add j = ⟨b, off + j, none⟩ := by
        unfold Addr.add
        by_cases e : j = 0 <;> simp [e]
      rw [ea]
      exact this) (by intro u hu; simp at hu; obtain ⟨_, _, rfl⟩ := hu; rfl) h63 hfit hbase
    rw [← List.map_append] at h2
    rw [List.length_append]
    exact ⟨g', cap', w', h1, h2, h3, h4⟩

theorem nextcap_zero (m : Nat) (h : m ≤ 17592186044416) : Builtin.nextslicecap (0 + m) 0 * 16 ≤ 281474976710656 := by
  unfold Builtin.nextslicecap
  by_cases h0 : m = 0
  · subst h0; decide
  · rw [if_pos (by omega)]; omega
end Go.Proofs.YtfgcbdjkimkgpaaGreatDoor
namespace Go.Proofs.YtfgcbdjkimkgpaaGreatDoor
set_option maxRecDepth 100000
open Go.ChangeShapes Go.WideShapes Go.ChangeAt Go.RowKit

/-! slices.Clone -/
set_option maxHeartbeats 1000000 in
theorem clone_some (x : Addr) (n c : Nat) (z : List Str) (w : World) (hz : z.length = n) (hn : n ≤ 17592186044416) (hc : ∀ k, k < n → w.cell? (x.add k) = some (.string (bs (z.getD k [])))) :
    Calls Tryz.prog 29 #[.slice (some x) n c] w fun e w' => ∃ v, e = .returned v ∧ w'.ownsRow w.heap.size 9 1 v n (z.map encStr) ∧ Below w.heap.size w w' := by
  obtain ⟨i0, hi, hz0, hz1, hz2⟩ := info_parts infoStr
  obtain ⟨g', cap', w1, hr, hown, hgrow, _⟩ := app_own (w := w.alloc (.cells #[] 9)) (base := w.heap.size) (g := w.heap.size) (n := 0) (cap := 0) (m := n) (c := c) (xs := []) (news := z.map encStr) (x := x) 27 hi hz0 hz1 hz2 rfl
    (World.ownsRow_made w #[] 0 (Nat.le_refl _) (Nat.zero_le _) (by simp)) (by rw [List.length_map, hz]) (fun j u hj => by
      have hlt : j < z.length := by
        rcases Nat.lt_or_ge j z.length with h | h
        · exact h
        · rw [List.getElem?_eq_none (by rw [List.length_map]; exact h)] at hj; cases hj
      rw [List.getElem?_map, List.getElem?_eq_getElem hlt] at hj
      cases hj
      have := hc j (hz ▸ hlt)
      rw [List.getD, List.getElem?_eq_getElem hlt] at this
      exact cell_later (Below.alloc (Below.refl _ w) (Nat.le_refl _) _) this) (by intro u hu; simp at hu; obtain ⟨_, _, rfl⟩ := hu; rfl) (by unfold maxLen; omega) (.inr (nextcap_zero n hn)) (by simp)
  have HR := Lib.hid hr; clear hr
  have HO := Lib.hid hown; clear hown
  have HG := Lib.hid hgrow; clear hgrow hc hi hz0 hz1 hz2 hz
  have q := fun (w : World) (a : Option Addr) (n c n' c' : Nat) => Lib.run_eql_slice_nil (P := Tryz.prog) w 27 9 a n c n' c' Tryz.underlying27
  go_enter Tryz.func29, Tryz.ntmps29
  go_wp2_with (at_builtin; refine Lib.wpList_append_run _ rfl _ _ 27 27 rfl _ _ rfl rfl _ _ HR.out ?_)
  go_ret
  refine ⟨_, rfl, by simpa using HO.out, ?_⟩
  exact (Below.alloc (Below.refl _ w) (Nat.le_refl _) _).grown HG.out (by simp) (by intro k hk; cases hk; exact Nat.le_refl _)
theorem clone_nil (n c : Nat) (w : World) : Calls Tryz.prog 29 #[.slice none n c] w fun e w' => e = .returned (.slice none 0 0) ∧ w = w' := by
  have q := fun (w : World) (a : Option Addr) (n c n' c' : Nat) => Lib.run_eql_slice_nil (P := Tryz.prog) w 27 9 a n c n' c' Tryz.underlying27
  go_enter Tryz.func29, Tryz.ntmps29
  go_wp2
  go_ret
  exact ⟨rfl, rfl⟩
theorem clone_of {w : World} {v : Value} {z : List Str} (h : SIn w v z) :
    Calls Tryz.prog 29 #[v] w fun e w' => ∃ v', e = .returned v' ∧ w'.ownsRow w.heap.size 9 1 v' z.length (z.map encStr) ∧ Below w.heap.size w w' := by
  rcases h.open with ⟨rfl, a, cap, rfl⟩ | ⟨_, b, off, cap, rfl, _, _, hc⟩
  · cases a with
    | none => exact (clone_nil 0 cap w).mono fun e w' k => ⟨_, k.1, k.2 ▸ World.ownsRow_nil _ _ _ _, k.2 ▸ Below.refl _ _⟩
    | some x => exact clone_some x 0 cap [] w rfl (by omega) (fun k hk => absurd hk (Nat.not_lt_zero _))
  · refine clone_some _ _ cap z w rfl h.bound (fun k hk => ?_)
    rw [← hc k hk]
    congr 1
    unfold Addr.add
    by_cases k0 : k = 0 <;> simp [k0]

/-! slices.Sort, slices.Compact at a row of the call's own -/
theorem sortRow_own {v : Value} {n : Nat} {z : List Str} {base : Nat} {w : World} (hown : w.ownsRow base 9 1 v n (z.map encStr)) (hn : n < 4611686018427387904) :
    Calls Tryz.prog 170 #[v] w fun e w' =>
      e = .returned (.tuple #[]) ∧ w'.ownsRow base 9 1 v n ((sortS z).map encStr) ∧ (∀ B w0, B ≤ base → Below B w0 w → Below B w0 w') := by
  by_cases h0 : n = 0
  · subst h0
    have hz : z = [] := by have := hown.1; simpa using this
    subst hz
    obtain ⟨a, c, rfl⟩ : ∃ a c, v = .slice a 0 c := by
      rcases hown.2 with ⟨h, _⟩ | ⟨g, cap, _, h, _⟩
      · exact ⟨_, _, h⟩
      · exact ⟨_, _, h⟩
    have hS := AnyM.slices_Sort_string_none (P := Tryz.prog) (ρ := sortL_ren) sortL a c w
    refine Calls.mono (show Calls Tryz.prog 170 _ _ _ from hS) ?_
    rintro e w' ⟨he, rfl⟩
    rw [List.Perm.eq_nil (sortS_perm [])]
    exact ⟨he, hown, fun _ _ _ h => h⟩
  · have hv : v ≠ .slice none 0 0 := by
      rintro rfl
      rcases hown.2 with ⟨_, h⟩ | ⟨g, cap, _, h, _⟩
      · exact h0 h
      · cases h
    obtain ⟨g, cap, rfl, hb, hlt, _, _, hl, hH⟩ := Lib.holds_of_ownsRow hown hv
    have hS := AnyM.slices_Sort_string sortL g 0 cap z w hH hlt (by omega)
    rw [hl] at hS
    refine Calls.mono (show Calls Tryz.prog 170 _ _ _ from hS) ?_
    rintro e w' ⟨he, q, os, rfl⟩
    have hsl : (sortS z).length = n := by rw [(sortS_perm z).length_eq]; exact hl
    have h1 := Lib.ownsRow_putRow (q := q) hown hsl (Nat.le_refl n)
    rw [List.take_of_length_le (by omega)] at h1
    refine ⟨he, ?_, fun B w0 hB hbel => ?_⟩
    · exact Lib.ownsRow_grow h1 0 os
    · have hz : (Go.Sort.putRow encStr (Go.Sort.ahead w q) g 0 (sortS z).toArray).heap.size = w.heap.size := by simp
      exact (Lib.below_putRow (enc := encStr) (q := q) (d := (sortS z).toArray) hbel (Nat.le_trans hB hb)).trans (Lib.below_grow B _ (by omega) 0 os)

theorem compactRow_own {v : Value} {n : Nat} {z : List Str} {base : Nat} {w : World} (hown : w.ownsRow base 9 1 v n (z.map encStr)) (hn : n < 4611686018427387904) :
    Calls Tryz.prog 171 #[v] w fun e w' =>
      ∃ v', e = .returned v' ∧ w'.ownsRow base 9 1 v' (Lib.compact z).length ((Lib.compact z).map encStr) ∧ (∀ B w0, B ≤ base → Below B w0 w → Below B w0 w') := by
  by_cases h0 : n = 0
  · subst h0
    have hz : z = [] := by have := hown.1; simpa using this
    subst hz
    obtain ⟨a, c, rfl⟩ : ∃ a c, v = .slice a 0 c := by
      rcases hown.2 with ⟨h, _⟩ | ⟨g, cap, _, h, _⟩
      · exact ⟨_, _, h⟩
      · exact ⟨_, _, h⟩
    have hS := AnyG.slices_Compact_string_empty (P := Tryz.prog) (ρ := compactL_ren) compactL a c w
    refine Calls.mono (show Calls Tryz.prog 171 _ _ _ from hS) ?_
    rintro e w' ⟨he, rfl⟩
    exact ⟨_, he, hown, fun _ _ _ h => h⟩
  · have hv : v ≠ .slice none 0 0 := by
      rintro rfl
      rcases hown.2 with ⟨_, h⟩ | ⟨g, cap, _, h, _⟩
      · exact h0 h
      · cases h
    obtain ⟨g, cap, rfl, hb, hlt, hcap, _, hl, hH⟩ := Lib.holds_of_ownsRow hown hv
    have hS := AnyG.slices_Compact_string compactL g 0 cap z w hH (by omega) (by omega)
    rw [hl] at hS
    refine Calls.mono (show Calls Tryz.prog 171 _ _ _ from hS) ?_
    rintro e w' ⟨he, q, rfl⟩
    have hk : (Lib.compact z).length ≤ n := by have := compact_le z; omega
    have h1 := Lib.ownsRow_putRow (q := q) (ys := Lib.compact z ++ List.replicate (n - (Lib.compact z).length) []) hown (by rw [List.length_append, List.length_replicate]; omega) hk
    rw [List.take_left] at h1
    exact ⟨_, he, h1, fun B w0 hB hbel => Lib.below_putRow (enc := encStr) (q := q) hbel (Nat.le_trans hB hb)⟩

/-- what Sort hands back -/
def SortPost (z : List Str) (w : World) (e : Ending) (w' : World) : Prop :=
  (z.all good = true ∧ ∃ v, e = .returned (.tuple #[v, .int .i64 0]) ∧ w'.ownsRow w.heap.size 9 1 v (uniq z).length ((uniq z).map encStr) ∧ Below w.heap.size w w') ∨
  (z.all good = false ∧ e = .returned (.tuple #[.slice none 0 0, .int .i64 3]) ∧ w' = w)

theorem all_good {z : List Str} (h : ∀ j, j < z.length → good (z.getD j []) = true) : z.all good = true := by
  rw [List.all_eq_true]
  intro x hx
  obtain ⟨i, hi, rfl⟩ := mem_getD hx
  exact h i hi
theorem all_bad {z : List Str} {k : Nat} (hk : k < z.length) (h : good (z.getD k []) = false) : z.all good = false := by
  rw [List.all_eq_false]
  exact ⟨_, getD_mem hk, by simpa using h⟩

set_option maxHeartbeats 1000000 in
theorem sort_any {w : World} {v : Value} {z : List Str} (h : SIn w v z) :
    Calls Tryz.prog 151 #[v] w (SortPost z w) := by
  have F := Lib.hid h
  have hn := h.bound
  have HX : Hid (∀ k, k < z.length → (bs (z.getD k [])).size ≤ 9223372036854775807) := fun k hk => by rw [bs_size]; exact F.out.small _ (getD_mem hk)
  have tail : ∀ (k : Nat), Hid (z.all good = true) → Calls Tryz.prog 29 #[v] w fun e w' => ∃ v', e = .returned v' ∧ w'.ownsRow w.heap.size 9 1 v' z.length (z.map encStr) ∧ Below w.heap.size w w' := fun _ _ => clone_of F.out
  rcases h.open with ⟨hz, a, cap, rfl⟩ | ⟨hpos, b, off, cap, rfl, hcap, hlt, hc⟩
  · clear h hn HX
    subst hz
    go_enter Tryz.func151, Tryz.ntmps151
    go_wp2_with fail
    go_loopw [10] (fun i wr => i = .int .i64 0 ∧ wr = w) (fun _ _ => 0)
    case atStart => exact ⟨rfl, rfl⟩
    case round =>
      obtain ⟨rfl, rfl⟩ := hrel
      go_wp2_with fail
      refine (clone_of F.out).mono ?_
      rintro e wc ⟨v', rfl, hown, hbel⟩
      have HO := Lib.hid hown; clear hown
      have HB := Lib.hid hbel; clear hbel
      go_wp2_with fail
      refine (sortRow_own HO.out (by simp)).mono ?_
      rintro e wd ⟨rfl, hown, hbel⟩
      have HO2 := Lib.hid hown; clear hown
      have HB2 := Lib.hid (hbel _ _ (Nat.le_refl _) HB.out); clear hbel
      go_wp2_with fail
      refine (compactRow_own HO2.out (by simp)).mono ?_
      rintro e we ⟨v2, rfl, hown, hbel⟩
      have HO3 := Lib.hid hown; clear hown
      have HB3 := Lib.hid (hbel _ _ (Nat.le_refl _) HB2.out); clear hbel
      go_wp2
      go_ret2
      exact .inl ⟨rfl, v2, rfl, HO3.out, HB3.out⟩
  · clear h
    have HC := Lib.hid hc; clear hc
    have HG : Hid ((∀ j, j < z.length → good (z.getD j []) = true) → z.all good = true) := all_good
    have HN : Hid (∀ k, k < z.length → good (z.getD k []) = false → z.all good = false) := fun k => all_bad
    have HB0 : Hid (∀ k, good (bs (z.getD k [])).data.toList = good (z.getD k [])) := fun k => by rw [bs_list]
    generalize hL : z.length = L at *
    have HL := Lib.hid hL; clear hL
    go_enter Tryz.func151, Tryz.ntmps151
    go_wp2_with fail
    go_loopw [10] (fun i wr => ∃ k : Nat, k ≤ L ∧ i = .int .i64 (k : Int) ∧ (∀ j, j < k → good (z.getD j []) = true) ∧ wr = w) (fun i _ => L - (intOf i).toNat)
    case atStart => exact ⟨0, by omega, rfl, fun _ h => absurd h (Nat.not_lt_zero _), rfl⟩
    case round =>
      obtain ⟨k, hk, rfl, hall, rfl⟩ := hrel
      have HA := Lib.hid hall; clear hall
      by_cases hk2 : k < L
      · have c1 := HC.out k hk2
        go_wp2_with fail
        refine (check_any _ _ (HX.out k hk2)).mono ?_
        rw [HB0.out k]
        rintro e w' ⟨rfl, rfl⟩
        clear c1
        cases hd : good (z.getD k []) with
        | false =>
          have HD := Lib.hid (HN.out k hk2 hd); clear hd
          go_wp2
          go_ret2
          exact .inr ⟨HD.out, rfl, rfl⟩
        | true =>
          have HD := Lib.hid hd; clear hd
          go_wp2
          go_roundw
          case rel =>
            refine ⟨k + 1, by omega, by go_num, fun j hj => ?_, trivial⟩
            rcases Nat.lt_succ_iff_lt_or_eq.1 hj with h | h
            · exact HA.out j h
            · rw [h]; exact HD.out
          case measure => simp [intOf]; omega
      · obtain rfl : k = L := by omega
        have HD := Lib.hid (HG.out HA.out)
        go_wp2_with fail
        refine (clone_of F.out).mono ?_
        rintro e wc ⟨v', rfl, hown, hbel⟩
        have HO := Lib.hid hown; clear hown
        have HB := Lib.hid hbel; clear hbel
        have hn2 : Hid (z.length < 4611686018427387904) := by show _ < _; rw [HL.out]; omega
        go_wp2_with fail
        refine (sortRow_own HO.out hn2.out).mono ?_
        rintro e wd ⟨rfl, hown, hbel⟩
        have HO2 := Lib.hid hown; clear hown
        have HB2 := Lib.hid (hbel _ _ (Nat.le_refl _) HB.out); clear hbel
        go_wp2_with fail
        refine (compactRow_own HO2.out hn2.out).mono ?_
        rintro e we ⟨v2, rfl, hown, hbel⟩
        have HO3 := Lib.hid hown; clear hown
        have HB3 := Lib.hid (hbel _ _ (Nat.le_refl _) HB2.out); clear hbel
        go_wp2
        go_ret2
        exact .inl ⟨HD.out, v2, rfl, HO3.out, HB3.out⟩
end Go.Proofs.YtfgcbdjkimkgpaaGreatDoor
namespace Go.Proofs.YtfgcbdjkimkgpaaGreatDoor
set_option maxRecDepth 100000
open Go.ChangeShapes Go.WideShapes Go.ChangeAt Go.RowKit

theorem ret2_ib {a b : Int} {x y : Bool} (h : a = b) (k : x = y) : Ending.returned (.tuple #[.int .i64 a, .bool x]) = .returned (.tuple #[.int .i64 b, .bool y]) := by rw [h, k]

theorem eqS (P : Program) (T : TypeId) : EqlAt P T encStr (fun x y => decide (x = y)) :=
  ⟨fun x y w => by
    have : (binOp .eql T (.string (bs x)) (.string (bs y))).run P w = .ok (.bool ((bs x).toList == (bs y).toList)) w := (EqlAt.string P T).1 (bs x) (bs y) w
    rw [bs_toList, bs_toList, beq_dec] at this
    exact this, fun op a b x y w => (EqlAt.string P T).2 op a b (bs x) (bs y) w⟩
theorem contains_of {w : World} {v : Value} {z : List Str} (h : SIn w v z) (x : Str) :
    Calls Tryz.prog 86 #[v, .string (bs x)] w fun e w' => e = .returned (.bool (decide (x ∈ z))) ∧ w' = w := by
  rcases h.open with ⟨rfl, a, cap, rfl⟩ | ⟨_, b, off, cap, rfl, _, _, hc⟩
  · have := AnyE.slices_Contains_empty (P := Tryz.prog) (ρ := containsL_ren) containsL a cap (.string (bs x)) w
    refine Calls.mono (show Calls Tryz.prog 86 _ _ _ from this) ?_
    rintro e w' ⟨rfl, rfl⟩
    exact ⟨ret_b (by simp), rfl⟩
  · have hn := h.bound
    have := AnyE.slices_Contains containsL encStr (fun x y => decide (x = y)) (eqS _ _) b off z.length cap z x w (Nat.le_refl _) (by omega) (fun j hj => by rw [hc j hj, bang_getD z j hj]; rfl)
    refine Calls.mono (show Calls Tryz.prog 86 _ _ _ from this) ?_
    rintro e w' ⟨rfl, rfl⟩
    refine ⟨ret_b ?_, rfl⟩
    rw [List.take_length]
    by_cases hx : x ∈ z
    · rw [decide_eq_true hx, List.any_eq_true]; exact ⟨x, hx, by simp⟩
    · rw [decide_eq_false hx, List.any_eq_false]; intro y hy; simp; rintro rfl; exact hx hy

/-! cmp.Less, BinarySearch -/
theorem isNaN_any (s : ByteArray) (w : World) : Calls Tryz.prog 203 #[.string s] w fun e w' => e = .returned (.bool false) ∧ w' = w := by
  go_enter Tryz.func203, Tryz.ntmps203
  go_wp2
  go_ret
  exact ⟨ret_b (by simp), rfl⟩
theorem less_any (x y : Str) (w : World) : Calls Tryz.prog 193 #[.string (bs x), .string (bs y)] w fun e w' => e = .returned (.bool (decide (x < y))) ∧ w' = w := by
  have e1 : Hid (Op.bytesLess (bs x).toList (bs y).toList = decide (x < y)) := by show _ = _; rw [bs_toList, bs_toList]; exact bytesLess_eq x y
  go_enter Tryz.func193, Tryz.ntmps193
  go_wp2_with fail
  refine (isNaN_any _ _).mono ?_
  rintro e w' ⟨rfl, rfl⟩
  go_wp2
  go_ret
  exact ⟨ret_b e1.out, rfl⟩

/-- where x stands, or would stand, in the list -/
def Found (z : List Str) (x : Str) (e : Ending) : Prop :=
  ∃ i, i ≤ z.length ∧ (∀ t, t < i → z.getD t [] < x) ∧ (∀ t, i ≤ t → t < z.length → x ≤ z.getD t []) ∧
    ((i < z.length ∧ z.getD i [] = x ∧ e = .returned (.tuple #[.int .i64 i, .bool true])) ∨ ((∀ t, t < z.length → z.getD t [] ≠ x) ∧ e = .returned (.tuple #[.int .i64 i, .bool false])))

/-- what Find hands back -/
def FindPost (z : List Str) (x : Str) (e : Ending) : Prop :=
  (∃ i : Nat, i < z.length ∧ z.getD i [] = x ∧ e = .returned (.tuple #[.int .i64 i, .bool true])) ∨ x ∉ z ∧ e = .returned (.tuple #[.int .i64 0, .bool false])

/-! the law's own look -/
theorem uniq_ba : uniq [[98], [97]] = [[97], [98]] := by
  refine (uniq_congr (b := [[97], [98]]) fun x => ?_).trans (uniq_self ?_)
  · simp [or_comm]
  · unfold Up; simp; decide
theorem good_ba : ([[98], [97]] : List Str).all good = true := by decide

end Go.Proofs.YtfgcbdjkimkgpaaGreatDoor
namespace Go.Proofs.YtfgcbdjkimkgpaaGreatDoor
set_option maxRecDepth 100000
open Go.ChangeShapes Go.WideShapes Go.ChangeAt Go.RowKit

set_option maxHeartbeats 2000000 in
set_option maxRecDepth 100000 in
theorem grow_pos (n : Nat) (h0 : 0 < n) (hn : n ≤ 17592186044416) (w : World) :
    Calls Tryz.prog 64 #[.slice none 0 0, .int .i64 n] w fun e w' => ∃ cap, n ≤ cap ∧ e = .returned (.slice (some ⟨w.heap.size, 0, none⟩) 0 cap) ∧ w'.ownsRow w.heap.size 9 1 (.slice (some ⟨w.heap.size, 0, none⟩) 0 cap) 0 [] ∧ Below w.heap.size w w' := by
  obtain ⟨i0, hi, hz0, hz1, hz2⟩ := info_parts infoStr
  have hr := Lib.run_append_nil_zeros (P := Tryz.prog) w 27 3 27 9 i0 (.string ByteArray.empty) .i64 .i64 Tryz.underlying27 Tryz.underlying3 hi hz0 n h0 (by omega) (by omega) (by rw [hz2]; omega)
  have hge := grownCap_ge w n 0 9
  have hle := grownCap_le_maxLen w n 0 9 (by unfold maxLen; omega)
  generalize grownCap w n 0 9 = cap at *
  have hsz : (Builtin.zeroCells (Value.string ByteArray.empty).cells n ++ Builtin.zeroCells (Value.string ByteArray.empty).cells (cap - n)).size = cap := by
    rw [Array.size_append, size_zeroCells, size_zeroCells]
    show n * 1 + (cap - n) * 1 = cap
    omega
  generalize Builtin.zeroCells (Value.string ByteArray.empty).cells n ++ Builtin.zeroCells (Value.string ByteArray.empty).cells (cap - n) = cs at *
  have HO : Hid ((w.drew.alloc (.cells cs 9)).ownsRow w.heap.size 9 1 (.slice (some ⟨w.heap.size, 0, none⟩) 0 cap) 0 []) := World.ownsRow_made w.drew cs cap (Nat.le_refl _) hle (by omega)
  have HB : Hid (Below w.heap.size w (w.drew.alloc (.cells cs 9))) := ((Below.refl _ w).drew).alloc (Nat.le_refl _) _
  have HR := Lib.hid hr; clear hr hi hz0 hz1 hz2 hsz
  generalize w.drew.alloc (.cells cs 9) = w1 at *
  have hle' : cap ≤ 9223372036854775807 := by unfold maxLen at hle; omega
  clear hle
  go_enter Tryz.func64, Tryz.ntmps64
  go_wp2_with (at_builtin; refine Lib.wpList_append_run _ rfl _ _ 27 3 rfl _ _ rfl rfl _ _ HR.out ?_)
  go_ret
  exact ⟨cap, hge, rfl, HO.out, HB.out⟩
theorem grow_at (n : Nat) (N : Int) (hN : N = n) (h0 : 0 < n) (hn : n ≤ 17592186044416) (w : World) :
    Calls Tryz.prog 64 #[.slice none 0 0, .int .i64 N] w fun e w' => ∃ cap, n ≤ cap ∧ e = .returned (.slice (some ⟨w.heap.size, 0, none⟩) 0 cap) ∧ w'.ownsRow w.heap.size 9 1 (.slice (some ⟨w.heap.size, 0, none⟩) 0 cap) 0 [] ∧ Below w.heap.size w w' := by
  subst hN; exact grow_pos n h0 hn w
theorem grow_zero (w : World) :
    Calls Tryz.prog 64 #[.slice none 0 0, .int .i64 0] w fun e w' => e = .returned (.slice none 0 0) ∧ w' = w := by
  go_enter Tryz.func64, Tryz.ntmps64
  go_wp2
  go_ret
  exact ⟨rfl, rfl⟩

set_option maxHeartbeats 4000000 in
set_option maxRecDepth 100000 in
theorem concat_any {w : World} {va vb : Value} {za zb : List Str} {b : Nat} (ha : SIn w va za) (hb : SIn w vb zb) (hsum : za.length + zb.length ≤ 17592186044416) (c0 : w.cell? ⟨b, 0, none⟩ = some va) (c1 : w.cell? ⟨b, 1, none⟩ = some vb) :
    Calls Tryz.prog 31 #[.slice (some ⟨b, 0, none⟩) 2 2] w fun e w' => ∃ v, e = .returned v ∧ w'.ownsRow w.heap.size 9 1 v (za ++ zb).length ((za ++ zb).map encStr) ∧ Below w.heap.size w w' := by
  have HA := Lib.hid ha
  have HB := Lib.hid hb
  have LT := Lib.hid (World.block_lt_of_cell? _ _ c0)
  obtain ⟨a1, k1, rfl, _⟩ := ha
  obtain ⟨a2, k2, rfl, _⟩ := hb
  by_cases h0 : za.length + zb.length = 0
  · obtain rfl : za = [] := List.length_eq_zero_iff.1 (by omega)
    obtain rfl : zb = [] := List.length_eq_zero_iff.1 (by omega)
    have hr1 : (Builtin.append_ #[27, 27] 27 #[.slice none 0 0, .slice a1 0 k1]).run Tryz.prog w = .ok (.slice none 0 0) w := app_none _ (World.ownsRow_nil w w.heap.size 9 1) a1 k1
    have hr2 : (Builtin.append_ #[27, 27] 27 #[.slice none 0 0, .slice a2 0 k2]).run Tryz.prog w = .ok (.slice none 0 0) w := app_none _ (World.ownsRow_nil w w.heap.size 9 1) a2 k2
    have R1 := Lib.hid hr1
    have R2 := Lib.hid hr2
    clear hr1 hr2 hsum h0
    simp only [List.length_nil] at c0 c1
    go_enter Tryz.func31, Tryz.ntmps31
    go_wp2_with fail
    refine wp_loop_rounds 3 ?_
    iterate 3 (rw [rounds_succ]; go_wp2_with fail)
    refine (grow_zero _).mono ?_
    rintro e w' ⟨rfl, rfl⟩
    go_wp2_with fail
    refine wp_loop_rounds 3 ?_
    rw [rounds_succ]
    go_wp2_with (at_builtin; refine Lib.wpList_append_run _ rfl _ _ 27 27 rfl _ _ rfl rfl _ _ R1.out ?_)
    rw [rounds_succ]
    go_wp2_with (at_builtin; refine Lib.wpList_append_run _ rfl _ _ 27 27 rfl _ _ rfl rfl _ _ R2.out ?_)
    rw [rounds_succ]
    go_wp2_with fail
    go_ret
    exact ⟨_, rfl, World.ownsRow_nil _ _ _ _, Below.refl _ _⟩
  · have hn1 := Lib.hid (show za.length ≤ 17592186044416 by omega)
    generalize e1 : za.length = n1 at *
    generalize e2 : zb.length = n2 at *
    have E1 := Lib.hid e1
    have E2 := Lib.hid e2
    clear e1 e2
    have hpos : 0 < n1 + n2 := by omega
    clear h0
    go_enter Tryz.func31, Tryz.ntmps31
    go_wp2_with fail
    refine wp_loop_rounds 3 ?_
    iterate 3 (rw [rounds_succ]; go_wp2_with fail)
    refine (grow_at (n1 + n2) _ (by omega) hpos hsum _).mono ?_
    rintro e w1 ⟨cap, hcap, rfl, hown, hbel⟩
    have LB : Hid (w.heap.size < w1.heap.size) := by
      have := hown.lt w.heap.size rfl
      exact this.2
    obtain ⟨g1, cp1, w2, r1, o1, gr1, f1⟩ := app_strs (z1 := []) (z2 := za) (v2 := .slice a1 n1 k1) 27 hown (HA.out.later hbel) (by rw [E1.out]; unfold maxLen; simp only [List.length_nil]; omega) (.inl (by rw [E1.out]; simp only [List.length_nil]; omega)) (by have := LB.out; omega)
    obtain ⟨rfl, rfl⟩ := f1 (by rw [E1.out]; simp only [List.length_nil]; omega)
    have B2 : Hid (Below w.heap.size w w2) := hbel.grown gr1 hbel.size (by intro k hk; cases hk; exact Nat.le_refl _)
    rw [List.nil_append] at r1 o1
    obtain ⟨g2, cp2, w3, r2, o2, gr2, f2⟩ := app_strs (z1 := za) (z2 := zb) (v2 := .slice a2 n2 k2) 27 o1 (HB.out.later B2.out) (by rw [E1.out, E2.out]; unfold maxLen; omega) (.inl (by rw [E1.out, E2.out]; omega)) B2.out.size
    obtain ⟨rfl, rfl⟩ := f2 (by rw [E1.out, E2.out]; omega)
    have B3 : Hid (Below w.heap.size w w3) := B2.out.grown gr2 B2.out.size (by intro k hk; cases hk; exact Nat.le_refl _)
    have O2 := Lib.hid o2
    have c0a : w1.cell? ⟨b, 0, none⟩ = some (.slice a1 n1 k1) := cell_later hbel c0
    have c1a : w2.cell? ⟨b, 1, none⟩ = some (.slice a2 n2 k2) := cell_later B2.out c1
    have L : Hid ((za ++ zb).length = n1 + n2) := by show _ = _; rw [List.length_append, E1.out, E2.out]
    rw [L.out] at r2
    rw [E1.out] at r1 r2
    simp only [List.length_nil] at r1
    have R1 := Lib.hid r1
    have R2 := Lib.hid r2
    clear r1 r2 o1 o2 gr1 gr2 f1 f2 hown hbel c0 c1
    go_wp2_with fail
    refine wp_loop_rounds 3 ?_
    rw [rounds_succ]
    go_wp2_with (at_builtin; refine Lib.wpList_append_run _ rfl _ _ 27 27 rfl _ _ rfl rfl _ _ R1.out ?_)
    rw [rounds_succ]
    go_wp2_with (at_builtin; refine Lib.wpList_append_run _ rfl _ _ 27 27 rfl _ _ rfl rfl _ _ R2.out ?_)
    rw [rounds_succ]
    go_wp2_with fail
    go_ret
    have o := O2.out
    rw [L.out] at o ⊢
    exact ⟨_, rfl, o, B3.out⟩
end Go.Proofs.YtfgcbdjkimkgpaaGreatDoor
namespace Go.Proofs.YtfgcbdjkimkgpaaGreatDoor
set_option maxRecDepth 100000
open Go.ChangeShapes Go.WideShapes Go.ChangeAt Go.RowKit

theorem small_all {z : List Str} (h : z.all good = true) : ∀ x ∈ z, x.length ≤ 9223372036854775807 := fun x hx => by
  have := good_len (List.all_eq_true.1 h x hx)
  omega
theorem good_uniq {z : List Str} (h : z.all good = true) : (uniq z).all good = true := by
  rw [List.all_eq_true]
  exact fun x hx => List.all_eq_true.1 h x (uniq_mem.1 hx)

theorem own_less {w : World} {b1 b2 n : Nat} {v : Value} {xs : List Value} (h : w.ownsRow b1 9 1 v n xs) (hb : b2 ≤ b1) : w.ownsRow b2 9 1 v n xs := by
  refine ⟨h.1, ?_⟩
  rcases h.2 with k | ⟨g, cap, cur, h1, h2, r⟩
  · exact .inl k
  · exact .inr ⟨g, cap, cur, h1, Nat.le_trans hb h2, r⟩

/-- what Merge hands back -/
def MergePost (z : List Str) (w : World) (e : Ending) (w' : World) : Prop :=
  Below w.heap.size w w' ∧
    ((z.all good = true ∧ (uniq z).length ≤ 64 ∧ ∃ v, e = .returned (.tuple #[v, .int .i64 0]) ∧ w'.ownsRow w.heap.size 9 1 v (uniq z).length ((uniq z).map encStr)) ∨
     (z.all good = true ∧ 64 < (uniq z).length ∧ e = .returned (.tuple #[.slice none 0 0, .int .i64 2])) ∨
     (z.all good = false ∧ e = .returned (.tuple #[.slice none 0 0, .int .i64 3])))

end Go.Proofs.YtfgcbdjkimkgpaaGreatDoor
namespace Go.Proofs.YtfgcbdjkimkgpaaGreatDoor
set_option maxRecDepth 100000
set_option linter.unusedVariables false
open Go.ChangeShapes Go.WideShapes Go.ChangeAt Go.RowKit

abbrev Rl := List Str × List Str
def tg (z : List Rl) (k : Nat) : List Str := (z.getD k ([], [])).1
def nd (z : List Rl) (k : Nat) : List Str := (z.getD k ([], [])).2
theorem rl_some {z : List Rl} {k : Nat} (h : k < z.length) : z[k]? = some (tg z k, nd z k) := by
  unfold tg nd; rw [List.getD, List.getElem?_eq_getElem h]; rfl
theorem rl_mem {z : List Rl} {k : Nat} (h : k < z.length) : (tg z k, nd z k) ∈ z := List.mem_of_getElem? (rl_some h)
theorem rl_take {z : List Rl} {k : Nat} (h : k < z.length) : z.take (k + 1) = z.take k ++ [(tg z k, nd z k)] := by
  rw [List.take_add_one, rl_some h]; rfl
theorem rl_drop {z : List Rl} {k : Nat} (h : k < z.length) : z.drop k = (tg z k, nd z k) :: z.drop (k + 1) := by
  rw [List.drop_eq_getElem_cons h]
  have := rl_some h
  rw [List.getElem?_eq_getElem h] at this
  rw [Option.some.inj this]

/-- a slice that holds the rules z -/
def RIn (w : World) (v : Value) (z : List Rl) : Prop :=
  ∃ a cap, v = .slice a z.length cap ∧ z.length ≤ cap ∧ cap ≤ maxLen ∧ z.length ≤ 2932031007317 ∧
    (z = [] ∨ ∃ b off, a = some ⟨b, off, none⟩ ∧ b < w.heap.size ∧ ∃ T U : Nat → Value, ∀ k, k < z.length → w.cell? ⟨b, off + k * 2, none⟩ = some (T k) ∧ w.cell? ⟨b, off + k * 2 + 1, none⟩ = some (U k) ∧ SIn w (T k) (tg z k) ∧ SIn w (U k) (nd z k))
theorem RIn.later {w w' : World} {v : Value} {z : List Rl} (h : RIn w v z) (hb : Below w.heap.size w w') : RIn w' v z := by
  obtain ⟨a, cap, h1, h2, h3, h4, h5⟩ := h
  refine ⟨a, cap, h1, h2, h3, h4, ?_⟩
  rcases h5 with h5 | ⟨b, off, h5, h6, T, U, h7⟩
  · exact .inl h5
  · exact .inr ⟨b, off, h5, Nat.lt_of_lt_of_le h6 hb.size, T, U, fun k hk => ⟨cell_later hb (h7 k hk).1, cell_later hb (h7 k hk).2.1, (h7 k hk).2.2.1.later hb, (h7 k hk).2.2.2.later hb⟩⟩
theorem RIn.open {w : World} {v : Value} {z : List Rl} (h : RIn w v z) : (z = [] ∧ ∃ a cap, v = .slice a 0 cap) ∨
    (0 < z.length ∧ ∃ b off cap, v = .slice (some ⟨b, off, none⟩) z.length cap ∧ z.length ≤ cap ∧ b < w.heap.size ∧ ∃ T U : Nat → Value, ∀ k, k < z.length → w.cell? ⟨b, off + k * 2, none⟩ = some (T k) ∧ w.cell? ⟨b, off + k * 2 + 1, none⟩ = some (U k) ∧ SIn w (T k) (tg z k) ∧ SIn w (U k) (nd z k)) := by
  obtain ⟨a, cap, rfl, h2, _, _, h5⟩ := h
  by_cases h0 : z = []
  · subst h0; exact .inl ⟨rfl, a, cap, rfl⟩
  · rcases h5 with h5 | ⟨b, off, rfl, h6, h7⟩
    · exact absurd h5 h0
    · exact .inr ⟨List.length_pos_iff.2 h0, b, off, cap, rfl, h2, h6, h7⟩
theorem RIn.bound {w : World} {v : Value} {z : List Rl} (h : RIn w v z) : z.length ≤ 2932031007317 := by obtain ⟨_, _, _, _, _, h4, _⟩ := h; exact h4
theorem SIn.shape {w : World} {v : Value} {z : List Str} (h : SIn w v z) : ∃ a cap, v = .slice a z.length cap := by obtain ⟨a, cap, h, _⟩ := h; exact ⟨a, cap, h⟩
theorem infoRl : (Tryz.prog.info? 82).map (fun i => (i.zero, i.size, i.bytes)) = some (some (.agg #[.slice none 0 0, .slice none 0 0]), 2, 48) := by kernel_rfl

/-- the rule in block k stays -/
def StayR (k : Nat) (x : Value) (y : Value) (w : World) : Prop := w.heap[k]? = some (.cells #[x, y] 82 (0, 0))
theorem StayR.cells {k : Nat} {x y : Value} {w : World} (h : StayR k x y w) : w.cell? ⟨k, 0, none⟩ = some x ∧ w.cell? ⟨k, 1, none⟩ = some y := by
  unfold StayR at h
  unfold World.cell?
  simp [h]
theorem StayR.thaw {k : Nat} {x y : Value} {w : World} (h : StayR k x y w) : w.frozen? ⟨k, 0, none⟩ = false ∧ w.frozen? ⟨k, 1, none⟩ = false := by
  unfold StayR at h
  unfold World.frozen?
  simp [h]
theorem StayR.lt {k : Nat} {x y : Value} {w : World} (h : StayR k x y w) : k < w.heap.size := by
  rcases Nat.lt_or_ge k w.heap.size with h' | h'
  · exact h'
  · unfold StayR at h; simp [Array.getElem?_eq_none h'] at h
theorem StayR.later {k : Nat} {x y : Value} {w w' : World} (h : StayR k x y w) (hb : Below w.heap.size w w') : StayR k x y w' := (hb.block _ h.lt).trans h
theorem stayR_new (w : World) (x y : Value) : StayR w.heap.size x y (w.alloc (.cells #[x, y] 82)) := by unfold StayR; exact heap_alloc_new _ _

/-- the first fault of a rule -/
def chkR (r : Rl) : Int :=
  if 20 < r.1.length ∨ 20 < r.2.length then 2 else if r.1.length = 0 then 3 else if r.1.all good = false then 3 else if r.2.all good = false then 3
  else if (uniq r.1).length < r.1.length ∨ (uniq r.2).length < r.2.length then 6 else 0

set_option maxHeartbeats 2000000 in
set_option maxRecDepth 100000 in
theorem rcheck_any {w : World} {vt vn : Value} {t n : List Str} (ht : SIn w vt t) (hn : SIn w vn n) :
    Calls Tryz.prog 115 #[.agg #[vt, vn]] w fun e w' => e = .returned (.int .i64 (chkR (t, n))) ∧ Below w.heap.size w w' := by
  have BA : Hid (Below w.heap.size w (w.alloc (.cells #[vt, vn] 82))) := (Below.refl _ w).alloc (Nat.le_refl _) _
  have HT : Hid (SIn (w.alloc (.cells #[vt, vn] 82)) vt t) := ht.later BA.out
  have HU : Hid (SIn (w.alloc (.cells #[vt, vn] 82)) vn n) := hn.later BA.out
  have ST : Hid (StayR w.heap.size vt vn (w.alloc (.cells #[vt, vn] 82))) := stayR_new _ _ _
  have bt := ht.bound
  have bn := hn.bound
  have HP : Hid (∀ e : Int, chkR (t, n) = e → Ending.returned (.int .i64 e) = Ending.returned (.int .i64 (chkR (t, n)))) := fun e h => by rw [h]
  have hchk : chkR (t, n) = (if 20 < t.length ∨ 20 < n.length then 2 else if t.length = 0 then 3 else if t.all good = false then 3 else if n.all good = false then 3
      else if (uniq t).length < t.length ∨ (uniq n).length < n.length then 6 else 0) := rfl
  have UT := uniq_le t
  have UN := uniq_le n
  obtain ⟨at', ct, rfl⟩ := ht.shape
  obtain ⟨an, cn, rfl⟩ := hn.shape
  generalize chkR (t, n) = C at *
  clear ht hn
  generalize eT : t.length = lt at *
  generalize eN : n.length = ln at *
  have ET := Lib.hid eT; have EN := Lib.hid eN; clear eT eN
  generalize eUT : (uniq t).length = ut at *
  generalize eUN : (uniq n).length = un at *
  have EUT := Lib.hid eUT; have EUN := Lib.hid eUN; clear eUT eUN
  have HK := Lib.hid hchk; clear hchk
  by_cases h1 : 20 < lt
  · have E := Lib.hid (HP.out 2 (by rw [HK.out, if_pos (.inl h1)]))
    go_enter Tryz.func115, Tryz.ntmps115
    go_wp2
    go_ret
    exact ⟨E.out, BA.out⟩
  by_cases h2 : 20 < ln
  · have E := Lib.hid (HP.out 2 (by rw [HK.out, if_pos (.inr h2)]))
    go_enter Tryz.func115, Tryz.ntmps115
    go_wp2
    go_ret
    exact ⟨E.out, BA.out⟩
  rw [if_neg (by omega)] at HK
  by_cases h3 : lt = 0
  · have E := Lib.hid (HP.out 3 (by rw [HK.out, if_pos h3]))
    subst h3
    go_enter Tryz.func115, Tryz.ntmps115
    go_wp2
    go_ret
    exact ⟨E.out, BA.out⟩
  rw [if_neg h3] at HK
  have z1 : ((lt : Int) == 0) = false := by rw [beq_eq_false_iff_ne]; omega
  go_enter Tryz.func115, Tryz.ntmps115
  go_wp2_with fail
  refine (sort_any HT.out).mono ?_
  rintro e w1 (⟨g1, v1, rfl, o1, b1⟩ | ⟨g1, rfl, rfl⟩)
  · have W1 : Hid (Below w.heap.size w w1) := BA.out.trans (b1.mono (by simp))
    have S1 := Lib.hid (ST.out.later b1)
    have HU1 := Lib.hid (HU.out.later b1)
    obtain ⟨c0, c1⟩ := S1.out.cells
    obtain ⟨a1, k1, rfl⟩ := (SIn.own o1 (by rw [EUT.out]; omega) (small_all (good_uniq g1))).shape
    rw [EUT.out] at *
    rw [if_neg (by rw [g1]; decide)] at HK
    clear o1 b1 g1
    go_wp2_with fail
    refine (sort_any HU1.out).mono ?_
    rintro e w2 (⟨g2, v2, rfl, o2, b2⟩ | ⟨g2, rfl, rfl⟩)
    · have W2 : Hid (Below w.heap.size w w2) := W1.out.trans (b2.mono W1.out.size)
      have S2 := Lib.hid (S1.out.later b2)
      clear c0 c1
      obtain ⟨c0, c1⟩ := S2.out.cells
      obtain ⟨a2, k2, rfl⟩ := (SIn.own o2 (by rw [EUN.out]; omega) (small_all (good_uniq g2))).shape
      rw [EUN.out] at *
      rw [if_neg (by rw [g2]; decide)] at HK
      clear o2 b2 g2
      by_cases h4 : ut < lt
      · have E := Lib.hid (HP.out 6 (by rw [HK.out, if_pos (.inl h4)]))
        go_wp2
        go_ret
        exact ⟨E.out, W2.out⟩
      · by_cases h5 : un < ln
        · have E := Lib.hid (HP.out 6 (by rw [HK.out, if_pos (.inr h5)]))
          go_wp2
          go_ret
          exact ⟨E.out, W2.out⟩
        · have E := Lib.hid (HP.out 0 (by rw [HK.out, if_neg (by omega)]))
          go_wp2
          go_ret
          exact ⟨E.out, W2.out⟩
    · have E := Lib.hid (HP.out 3 (by rw [HK.out, if_pos g2]))
      clear g2
      go_wp2
      go_ret
      exact ⟨E.out, W1.out⟩
  · have E := Lib.hid (HP.out 3 (by rw [HK.out, if_pos g1]))
    clear g1
    go_wp2
    go_ret
    exact ⟨E.out, BA.out⟩
end Go.Proofs.YtfgcbdjkimkgpaaGreatDoor
