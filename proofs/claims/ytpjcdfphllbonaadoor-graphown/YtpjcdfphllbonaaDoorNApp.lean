/-
  append at slices of strings of the call's own, up to 2^48 bytes; slices.Grow at nil. No condition beyond the sizes.
-/
import Derived.Test.YtpjcdfphllbonaaDoorNIn
import Derived.Laws.AppendOwnNone
import Derived.Lib.AppendZeros
namespace Go.Proofs.YtpjcdfphllbonaaDoor
set_option maxRecDepth 100000
open Go.ChangeShapes Go.WideShapes Go.ChangeAt Go.RowKit

theorem app_own {w : World} {base g n cap m c : Nat} {xs news : List Value} {x : Addr} {i0 : TypeInfo} {zv : Value} (ty : TypeId) (hi : Tryd.prog.info? 9 = some i0) (hz0 : i0.zero = some zv) (hz1 : i0.size = 1) (hz2 : i0.bytes = 16) (hzs : zv.cells.size = 1)
    (hown : w.ownsRow base 9 1 (.slice (some ⟨g, 0, none⟩) n cap) n xs) (hl : news.length = m) (hnews : ∀ j u, news[j]? = some u → w.cell? (x.add j) = some u) (h1 : ∀ u ∈ news, u.oneCell' = true)
    (h63 : n + m ≤ maxLen) (hfit : n + m ≤ cap ∨ Builtin.nextslicecap (n + m) cap * 16 ≤ 281474976710656) (hbase : base ≤ w.heap.size) :
    ∃ g' cap' w', (Builtin.append_ #[22, 22] ty #[.slice (some ⟨g, 0, none⟩) n cap, .slice (some x) m c]).run Tryd.prog w = .ok (.slice (some ⟨g', 0, none⟩) (n + m) cap') w' ∧
      w'.ownsRow base 9 1 (.slice (some ⟨g', 0, none⟩) (n + m) cap') (n + m) (xs ++ news) ∧ w.grownBy w' (some g) ∧ (n + m ≤ cap → cap' = cap ∧ g' = g) := by
  have hlx : xs.length = n := by simpa using hown.1
  have hlen : (xs ++ news).length = (n + m) * 1 := by rw [List.length_append, hlx, hl]; omega
  obtain ⟨cur, hg, hnc, hcm, hcs, htake⟩ : ∃ cur, w.heap[g]? = some (.cells cur 9 (0, 0)) ∧ n ≤ cap ∧ cap ≤ maxLen ∧ cur.size = cap * 1 ∧ cur.toList.take (n * 1) = xs := by
    rcases hown.2 with ⟨h, _⟩ | ⟨g', cap', cur, hv, _, hg, hn, hm, hs, ht⟩
    · cases h
    · cases hv
      exact ⟨cur, hg, hn, hm, hs, ht⟩
  have hbg : base ≤ g := (hown.lt g rfl).1
  by_cases hroom : n + m ≤ cap
  · have hr := run_append_room (P := Tryd.prog) w 22 ty 9 i0 Tryd.underlying22 hi g n cap cur hg x m c news (by rw [hz1, hl]; omega) hnews h1 hroom (by rw [hz1, hl, hcs]; omega)
    rw [hz1] at hr
    refine ⟨g, cap, _, hr, ⟨hlen, .inr ⟨g, cap, _, rfl, hbg, setRow_heap w g cur _ 9 _ hg, hroom, hcm, ?_, ?_⟩⟩, ⟨rfl, rfl, rfl, by simp, fun k _ hk => setRow_other w g k _ (fun e => hk (by rw [e]))⟩, fun _ => ⟨rfl, rfl⟩⟩
    · simp only [List.size_toArray, List.length_append, List.length_take, List.length_drop, Array.length_toList]
      omega
    · rw [htake, ← hlen]
      exact List.take_left
  · have hf : Builtin.nextslicecap (n + m) cap * i0.bytes ≤ 281474976710656 := by
      rw [hz2]
      rcases hfit with h | h
      · exact absurd h hroom
      · exact h
    have holds : ∀ j u, xs[j]? = some u → w.cell? ((⟨g, 0, none⟩ : Addr).add j) = some u := hown.cells (g := g) rfl
    have hr := run_append_grow (P := Tryd.prog) w 22 ty 9 i0 zv Tryd.underlying22 hi hz0 ⟨g, 0, none⟩ n cap xs (by rw [hz1, hlx]; omega) holds x m c news (by rw [hz1, hl]; omega) hnews (by omega) (by unfold maxLen at h63; omega) hf
    have hge := grownCap_ge w (n + m) cap 9
    refine ⟨_, _, _, hr, ⟨hlen, .inr ⟨w.heap.size, _, _, rfl, hbase, heap_alloc_new w.drew _, hge, grownCap_le_maxLen w (n + m) cap 9 h63, ?_, ?_⟩⟩, ⟨rfl, rfl, rfl, by simp, fun k hk _ => heap_alloc_old w.drew _ hk⟩, fun h => absurd h hroom⟩
    · simp only [Array.size_append, List.size_toArray, size_zeroCells, hzs, hlx, hl]
      omega
    · simp only [Array.toList_append, List.append_assoc]
      rw [← List.append_assoc, ← hlen]
      exact List.take_left

/-- nothing is appended -/
theorem app_none {w : World} {base n : Nat} {v : Value} {xs : List Value} (ty : TypeId) (hown : w.ownsRow base 9 1 v n xs) (a : Option Addr) (c : Nat) :
    (Builtin.append_ #[22, 22] ty #[v, .slice a 0 c]).run Tryd.prog w = .ok v w := by
  obtain ⟨i0, hi, hz0, hz1, hz2⟩ := info_parts infoStr
  obtain ⟨b, cap, rfl, hn⟩ : ∃ b cap, v = .slice b n cap ∧ n ≤ cap := by
    rcases hown.2 with ⟨rfl, rfl⟩ | ⟨g, cap, cur, rfl, _, _, hn, _⟩
    · exact ⟨none, 0, rfl, Nat.le_refl _⟩
    · exact ⟨_, cap, rfl, hn⟩
  cases a with
  | none => cases b <;> simp [Builtin.append_, run_underlying Tryd.underlying22, sizeOf, typeInfo, hi, Builtin.lenOf, hn, Builtin.firstCells, storeCells]
  | some x =>
    have hf := run_firstCells_some (P := Tryd.prog) w i0.size 0 x 0 c [] (by simp) (by simp)
    cases b <;> simp [Builtin.append_, run_underlying Tryd.underlying22, sizeOf, typeInfo, hi, Builtin.lenOf, hn, hf, storeCells]

/-- strings appended to a row of the call's own -/
theorem app_strs {w : World} {base g cap : Nat} {v2 : Value} {z1 z2 : List Str} (ty : TypeId) (hown : w.ownsRow base 9 1 (.slice (some ⟨g, 0, none⟩) z1.length cap) z1.length (z1.map encStr)) (h2 : SIn w v2 z2)
    (h63 : z1.length + z2.length ≤ maxLen) (hfit : z1.length + z2.length ≤ cap ∨ Builtin.nextslicecap (z1.length + z2.length) cap * 16 ≤ 281474976710656) (hbase : base ≤ w.heap.size) :
    ∃ g' cap' w', (Builtin.append_ #[22, 22] ty #[.slice (some ⟨g, 0, none⟩) z1.length cap, v2]).run Tryd.prog w = .ok (.slice (some ⟨g', 0, none⟩) (z1 ++ z2).length cap') w' ∧
      w'.ownsRow base 9 1 (.slice (some ⟨g', 0, none⟩) (z1 ++ z2).length cap') (z1 ++ z2).length ((z1 ++ z2).map encStr) ∧ w.grownBy w' (some g) ∧ (z1.length + z2.length ≤ cap → cap' = cap ∧ g' = g) := by
  rcases h2.open with ⟨rfl, a, c, rfl⟩ | ⟨_, b, off, c, rfl, _, _, hc⟩
  · rw [List.append_nil]
    exact ⟨g, cap, w, app_none ty hown a c, hown, ⟨rfl, rfl, rfl, Nat.le_refl _, fun _ _ _ => rfl⟩, fun _ => ⟨rfl, rfl⟩⟩
  · obtain ⟨i0, hi, hz0, hz1, hz2⟩ := info_parts infoStr
    obtain ⟨g', cap', w', h1, h2, h3, h4⟩ := app_own (x := ⟨b, off, none⟩) (m := z2.length) (c := c) (news := z2.map encStr) ty hi hz0 hz1 hz2 rfl hown (by simp) (fun j u hj => by
      have hlt : j < z2.length := by
        rcases Nat.lt_or_ge j z2.length with h | h
        · exact h
        · rw [List.getElem?_eq_none (by rw [List.length_map]; exact h)] at hj; cases hj
      rw [List.getElem?_map, List.getElem?_eq_getElem hlt] at hj
      cases hj
      have := hc j hlt
      rw [List.getD, List.getElem?_eq_getElem hlt] at this
      have ea : (⟨b, off, none⟩ : Addr).add j = ⟨b, off + j, none⟩ := by
        unfold Addr.add
        by_cases e : j = 0 <;> simp [e]
      rw [ea]
      exact this) (by intro u hu; simp at hu; obtain ⟨_, _, rfl⟩ := hu; rfl) h63 hfit hbase
    rw [← List.map_append] at h2
    rw [List.length_append]
    exact ⟨g', cap', w', h1, h2, h3, h4⟩

theorem nextcap_zero (m : Nat) (h : m ≤ 17592186044416) : Builtin.nextslicecap (0 + m) 0 * 16 ≤ 281474976710656 := by
  unfold Builtin.nextslicecap
  by_cases h0 : m = 0
  · subst h0; decide
  · rw [if_pos (by omega)]; omega
end Go.Proofs.YtpjcdfphllbonaaDoor
