/-
  Package graph's Turn. Condition: the table of math/bits lies in memory as its text lays it (the card ties this).
-/
import Derived.Test.YtpjcdfphllbonaaDoorGPr
import Derived.Test.YtpjcdfphllbonaaDoorGEo
import Derived.Test.YtpjcdfphllbonaaDoorLaysN
import Derived.Laws.ResultCell
import Derived.Deep.RegionHeld3
namespace Go.Proofs.YtpjcdfphllbonaaDoor
set_option maxRecDepth 100000
set_option linter.unusedVariables false
open Go.ChangeShapes Go.WideShapes Go.ChangeAt Go.RowKit

/-- a graph of the call's own: its names and its edges in blocks of their own, of strings and of numbers alone -/
def GO (B : Nat) (v : Value) (g : Gr) (w : World) : Prop := ∃ nv ev, v = .agg #[nv, ev, .int .u64 (g.ph.toNat : Int), .int .u64 (g.md.toNat : Int)] ∧ SO B nv g.ns w ∧ Tl nv w ∧ EO B ev g.es w ∧ TlE ev w
theorem GO.later {B : Nat} {v : Value} {g : Gr} {w w' : World} (h : GO B v g w) (hb : Below w.heap.size w w') : GO B v g w' := by
  obtain ⟨nv, ev, h1, h2, h3, h4, h5⟩ := h
  exact ⟨nv, ev, h1, own_later h2 hb, h3.later hb, own_later h4 hb, h5.later hb⟩
theorem GO.gin {B : Nat} {v : Value} {g : Gr} {w : World} (h : GO B v g w) (h1 : g.ns.length ≤ 64) (h2 : ∀ x ∈ g.ns, good x = true) (h3 : g.es.length ≤ 8796093022208) : GIn w v g := by
  obtain ⟨nv, ev, e, k1, _, k2, _⟩ := h
  exact ⟨nv, ev, e, SIn.own k1 (by omega) (fun x hx => by have := (good_len (h2 x hx)).2; omega), EIn.own k2 h3⟩
theorem edgesL_len (r : List Bv) (h : r.length ≤ 64) : (edgesL r).length ≤ 8796093022208 := by
  have := edgesTo_le r r.length
  unfold edgesL; omega
theorem GO.base {B B' : Nat} {v : Value} {g : Gr} {w : World} (h : GO B v g w) (hb : B' ≤ B) : GO B' v g w := by
  obtain ⟨nv, ev, h1, h2, h3, h4, h5⟩ := h
  have key : ∀ {e s n : Nat} {v : Value} {xs : List Value}, w.ownsRow B e s v n xs → w.ownsRow B' e s v n xs := fun h =>
    ⟨h.1, h.2.imp id fun ⟨g, cap, cur, k1, k2, k3⟩ => ⟨g, cap, cur, k1, Nat.le_trans hb k2, k3⟩⟩
  exact ⟨nv, ev, h1, key h2, h3, key h4, h5⟩
theorem map_at {l : List Str} {j : Nat} {u : Value} (h : (l.map encStr)[j]? = some u) : ∃ hj : j < l.length, u = encStr l[j] := by
  have hlt : j < l.length := by
    rcases Nat.lt_or_ge j l.length with k | k
    · exact k
    · rw [List.getElem?_eq_none (by rw [List.length_map]; exact k)] at h; cases h
  rw [List.getElem?_map, List.getElem?_eq_getElem hlt] at h
  cases h
  exact ⟨hlt, rfl⟩
theorem addrK (g k j : Nat) : (⟨g, k, none⟩ : Addr).add j = ⟨g, k + j, none⟩ := by unfold Addr.add; by_cases h : j = 0 <;> simp [h]
/-! a copy of strings, in a block of strings alone -/
theorem app_zero {w : World} {m c : Nat} {y : Addr} {z : List Str} (hm : z.length = m) (hl : m ≤ 1048576) (hz : ∀ x ∈ z, x.length ≤ 4294967296) (hc : ∀ j u, (z.map encStr)[j]? = some u → (w.alloc (.cells #[] 9)).cell? (y.add j) = some u) :
    ∃ v' w', (Builtin.append_ #[22, 22] 22 #[.slice (some ⟨w.heap.size, 0, none⟩) 0 0, .slice (some y) m c]).run Tryd.prog (w.alloc (.cells #[] 9)) = .ok v' w' ∧ SO w.heap.size v' z w' ∧ Tl v' w' ∧ (w.alloc (.cells #[] 9)).grownBy w' (some w.heap.size) := by
  obtain ⟨i0, hi, hz0, hz1, hz2⟩ := info_parts infoStr
  have h1 : ∀ u ∈ z.map encStr, u.oneCell' = true := by intro u hu; simp at hu; obtain ⟨_, _, rfl⟩ := hu; rfl
  have own : (w.alloc (.cells #[] 9)).ownsRow w.heap.size 9 1 (.slice (some ⟨w.heap.size, 0, none⟩) 0 0) 0 [] := World.ownsRow_made w #[] 0 (Nat.le_refl _) (Nat.zero_le _) (by simp)
  obtain ⟨v', w', hr, ho, hg, _⟩ := run_append_own (P := Tryd.prog) (w.alloc (.cells #[] 9)) w.heap.size 22 22 9 i0 (.string ByteArray.empty) 1 16 Tryd.underlying22 hi hz0 hz1 hz2 rfl (by decide) _ 0 [] own y m c (z.map encStr) (by rw [List.length_map, hm]; omega) hc h1 (by unfold maxLen; omega) (by omega) (by simp)
  refine ⟨v', w', hr, ?_, ?_, hg⟩
  · rw [List.nil_append, Nat.zero_add] at ho
    show w'.ownsRow _ _ _ _ _ _
    rw [hm]; exact ho
  · by_cases h0 : m = 0
    · have hz' : z = [] := List.length_eq_zero_iff.1 (by omega)
      subst h0 hz'
      have hr' := run_append_room (P := Tryd.prog) (w.alloc (.cells #[] 9)) 22 22 9 i0 Tryd.underlying22 hi w.heap.size 0 0 #[] (heap_alloc_new _ _) y 0 c [] (by simp) (fun j u h => by simp at h) (fun u h => by simp at h) (by omega) (by simp)
      rw [hr'] at hr
      cases hr
      intro g' hg'
      have e : w.heap.size = g' := Option.some.inj hg'
      subst e
      refine ⟨_, setRow_heap _ w.heap.size #[] _ 9 _ (heap_alloc_new _ _), fun u hu => ?_⟩
      simp at hu
    · have hr' := run_append_grow (P := Tryd.prog) (w.alloc (.cells #[] 9)) 22 22 9 i0 (.string ByteArray.empty) Tryd.underlying22 hi hz0 ⟨w.heap.size, 0, none⟩ 0 0 [] (by simp) (fun j u h => by simp at h) y m c (z.map encStr) (by rw [hz1, List.length_map, hm]; omega) hc (by omega) (by omega) (by rw [hz2]; exact growslice_fits (by omega) (by omega))
      rw [hr'] at hr
      cases hr
      intro g' hg'
      have e : (w.alloc (.cells #[] 9)).heap.size = g' := Option.some.inj hg'
      subst e
      refine ⟨_, heap_alloc_new (w.alloc (.cells #[] 9)).drew _, fun u hu => ?_⟩
      rw [Array.toList_append, Array.toList_append] at hu
      rcases List.mem_append.1 hu with h' | h'
      · rcases List.mem_append.1 h' with h' | h'
        · simp at h'
        · simp only [List.mem_map] at h'
          obtain ⟨x, hx, rfl⟩ := h'
          exact ⟨bs x, rfl, by rw [bs_size]; exact hz x hx⟩
      · exact zero_ss _ u h'
set_option maxHeartbeats 2000000 in
theorem cloneT_any {w : World} {v : Value} {z : List Str} (h : SIn w v z) (hl : z.length ≤ 1048576) (hz : ∀ x ∈ z, x.length ≤ 4294967296) :
    Calls Tryd.prog 27 #[v] w fun e w' => ∃ a n c, e = .returned (.slice a n c) ∧ SO w.heap.size (.slice a n c) z w' ∧ Tl (.slice a n c) w' ∧ Below w.heap.size w w' := by
  have q := fun (w : World) (a : Option Addr) (n c n' c' : Nat) => Lib.run_eql_slice_nil (P := Tryd.prog) w 22 9 a n c n' c' Tryd.underlying22
  obtain ⟨a, cap, rfl, hc⟩ := sin_at h
  cases a with
  | none =>
    have hz : z = [] := by
      cases z with
      | nil => rfl
      | cons x r =>
        obtain ⟨b, off, e, _⟩ := hc w (Below.refl _ _) 0 (by simp)
        cases e
    subst hz
    clear h hc
    go_enter Tryd.func27, Tryd.ntmps27
    go_wp2
    go_ret
    exact ⟨_, _, _, rfl, World.ownsRow_nil _ _ _ _, Tl.nil _ _ _, Below.refl _ _⟩
  | some y =>
    obtain ⟨v', w', hr, ho, ht, hg⟩ := app_zero (w := w) (y := y) (c := cap) rfl hl hz (fun j u hj => by
      obtain ⟨hlt, rfl⟩ := map_at hj
      obtain ⟨b, off, e, c0⟩ := hc _ (Below.alloc (Below.refl _ w) (Nat.le_refl _) (.cells #[] 9)) j hlt
      injection e with e
      subst e
      rw [addrK]
      rw [List.getD, List.getElem?_eq_getElem hlt] at c0
      exact c0)
    have HR := Lib.hid hr; have HO := Lib.hid ho; have HT := Lib.hid ht; have HG := Lib.hid hg
    obtain ⟨a', n', c', rfl⟩ : ∃ a n c, v' = .slice a n c := by
      rcases ho.2 with ⟨h, _⟩ | ⟨g, cap, _, h, _⟩
      · exact ⟨_, _, _, h⟩
      · exact ⟨_, _, _, h⟩
    clear h hc hr ho ht hg
    generalize z.length = m at *
    go_enter Tryd.func27, Tryd.ntmps27
    go_wp2_with (at_builtin; refine Lib.wpList_append_run _ rfl _ _ 22 22 rfl _ _ rfl rfl _ _ HR.out ?_)
    go_ret
    exact ⟨_, _, _, rfl, HO.out, HT.out, (Below.alloc (Below.refl _ w) (Nat.le_refl _) _).grown HG.out (by simp) (by intro k hk; cases hk; exact Nat.le_refl _)⟩
end Go.Proofs.YtpjcdfphllbonaaDoor
