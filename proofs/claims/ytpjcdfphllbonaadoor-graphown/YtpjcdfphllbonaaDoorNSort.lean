/-
  What package name's Sort answers: the names sorted, each once. Condition: a slice takes at most 2^48 bytes.
-/
import Derived.Test.YtpjcdfphllbonaaDoorNApp
namespace Go.Proofs.YtpjcdfphllbonaaDoor
set_option maxRecDepth 100000
open Go.ChangeShapes Go.WideShapes Go.ChangeAt Go.RowKit

/-! slices.Clone -/
set_option maxHeartbeats 1000000 in
theorem clone_some (x : Addr) (n c : Nat) (z : List Str) (w : World) (hz : z.length = n) (hn : n ≤ 17592186044416) (hc : ∀ k, k < n → w.cell? (x.add k) = some (.string (bs (z.getD k [])))) :
    Calls Tryd.prog 27 #[.slice (some x) n c] w fun e w' => ∃ v, e = .returned v ∧ w'.ownsRow w.heap.size 9 1 v n (z.map encStr) ∧ Below w.heap.size w w' := by
  obtain ⟨i0, hi, hz0, hz1, hz2⟩ := info_parts infoStr
  obtain ⟨g', cap', w1, hr, hown, hgrow, _⟩ := app_own (w := w.alloc (.cells #[] 9)) (base := w.heap.size) (g := w.heap.size) (n := 0) (cap := 0) (m := n) (c := c) (xs := []) (news := z.map encStr) (x := x) 22 hi hz0 hz1 hz2 rfl
    (World.ownsRow_made w #[] 0 (Nat.le_refl _) (Nat.zero_le _) (by simp)) (by rw [List.length_map, hz]) (fun j u hj => by
      have hlt : j < z.length := by
        rcases Nat.lt_or_ge j z.length with h | h
        · exact h
        · rw [List.getElem?_eq_none (by rw [List.length_map]; exact h)] at hj; cases hj
      rw [List.getElem?_map, List.getElem?_eq_getElem hlt] at hj
      cases hj
      have := hc j (hz ▸ hlt)
      rw [List.getD, List.getElem?_eq_getElem hlt] at this
      exact cell_later (Below.alloc (Below.refl _ w) (Nat.le_refl _) _) this) (by intro u hu; simp at hu; obtain ⟨_, _, rfl⟩ := hu; rfl) (by unfold maxLen; omega) (.inr (nextcap_zero n hn)) (by simp)
  have HR := Lib.hid hr; clear hr
  have HO := Lib.hid hown; clear hown
  have HG := Lib.hid hgrow; clear hgrow hc hi hz0 hz1 hz2 hz
  have q := fun (w : World) (a : Option Addr) (n c n' c' : Nat) => Lib.run_eql_slice_nil (P := Tryd.prog) w 22 9 a n c n' c' Tryd.underlying22
  go_enter Tryd.func27, Tryd.ntmps27
  go_wp2_with (at_builtin; refine Lib.wpList_append_run _ rfl _ _ 22 22 rfl _ _ rfl rfl _ _ HR.out ?_)
  go_ret
  refine ⟨_, rfl, by simpa using HO.out, ?_⟩
  exact (Below.alloc (Below.refl _ w) (Nat.le_refl _) _).grown HG.out (by simp) (by intro k hk; cases hk; exact Nat.le_refl _)
theorem clone_nil (n c : Nat) (w : World) : Calls Tryd.prog 27 #[.slice none n c] w fun e w' => e = .returned (.slice none 0 0) ∧ w = w' := by
  have q := fun (w : World) (a : Option Addr) (n c n' c' : Nat) => Lib.run_eql_slice_nil (P := Tryd.prog) w 22 9 a n c n' c' Tryd.underlying22
  go_enter Tryd.func27, Tryd.ntmps27
  go_wp2
  go_ret
  exact ⟨rfl, rfl⟩
theorem clone_of {w : World} {v : Value} {z : List Str} (h : SIn w v z) :
    Calls Tryd.prog 27 #[v] w fun e w' => ∃ v', e = .returned v' ∧ w'.ownsRow w.heap.size 9 1 v' z.length (z.map encStr) ∧ Below w.heap.size w w' := by
  rcases h.open with ⟨rfl, a, cap, rfl⟩ | ⟨_, b, off, cap, rfl, _, _, hc⟩
  · cases a with
    | none => exact (clone_nil 0 cap w).mono fun e w' k => ⟨_, k.1, k.2 ▸ World.ownsRow_nil _ _ _ _, k.2 ▸ Below.refl _ _⟩
    | some x => exact clone_some x 0 cap [] w rfl (by omega) (fun k hk => absurd hk (Nat.not_lt_zero _))
  · refine clone_some _ _ cap z w rfl h.bound (fun k hk => ?_)
    rw [← hc k hk]
    congr 1
    unfold Addr.add
    by_cases k0 : k = 0 <;> simp [k0]

/-! slices.Sort, slices.Compact at a row of the call's own -/
/-- what Sort hands back -/
def SortPost (z : List Str) (w : World) (e : Ending) (w' : World) : Prop :=
  (z.all good = true ∧ ∃ v, e = .returned (.tuple #[v, .int .i64 0]) ∧ w'.ownsRow w.heap.size 9 1 v (uniq z).length ((uniq z).map encStr) ∧ Below w.heap.size w w') ∨
  (z.all good = false ∧ e = .returned (.tuple #[.slice none 0 0, .int .i64 3]) ∧ w' = w)

theorem all_good {z : List Str} (h : ∀ j, j < z.length → good (z.getD j []) = true) : z.all good = true := by
  rw [List.all_eq_true]
  intro x hx
  obtain ⟨i, hi, rfl⟩ := mem_getD hx
  exact h i hi
theorem all_bad {z : List Str} {k : Nat} (hk : k < z.length) (h : good (z.getD k []) = false) : z.all good = false := by
  rw [List.all_eq_false]
  exact ⟨_, getD_mem hk, by simpa using h⟩

end Go.Proofs.YtpjcdfphllbonaaDoor
