/-
  slices.Clone of macros. Condition: at most 1048576 macros.
-/
import Derived.Test.YtoinflfibofofaaMFst
namespace Go.Proofs.Ytoinflfibofofaa
set_option linter.unusedVariables false
open Go.ChangeShapes Go.WideShapes Go.ChangeAt Go.RowKit

theorem mcCells_inv : ∀ (z : List Mc) (j : Nat) (u : Value), (mcCells z)[j]? = some u → ∃ k x, z[k]? = some x ∧ ((j = k * 2 ∧ u = .string (bs x.1)) ∨ (j = k * 2 + 1 ∧ u = .string (bs x.2)))
  | [], j, u, h => by simp [mcCells] at h
  | y :: t, 0, u, h => by simp [mcCells, encMc] at h; exact ⟨0, y, rfl, .inl ⟨rfl, h.symm⟩⟩
  | y :: t, 1, u, h => by simp [mcCells, encMc] at h; exact ⟨0, y, rfl, .inr ⟨rfl, h.symm⟩⟩
  | y :: t, j + 2, u, h => by
    have e : mcCells (y :: t) = .string (bs y.1) :: .string (bs y.2) :: mcCells t := by simp [mcCells, encMc]
    rw [e] at h
    obtain ⟨k, x, h1, h2⟩ := mcCells_inv t j u (by simpa using h)
    refine ⟨k + 1, x, by simpa using h1, ?_⟩
    rcases h2 with ⟨h2, h3⟩ | ⟨h2, h3⟩
    · exact .inl ⟨by omega, h3⟩
    · exact .inr ⟨by omega, h3⟩
theorem mcCells_one (z : List Mc) : ∀ u ∈ mcCells z, u.oneCell' = true := by
  intro u hu
  obtain ⟨j, hj⟩ := List.mem_iff_getElem?.1 hu
  obtain ⟨k, x, _, (⟨_, rfl⟩ | ⟨_, rfl⟩)⟩ := mcCells_inv z j u hj <;> rfl
theorem mcCells_set : ∀ (p : List Mc) (i : Nat) (x y : Str), i < p.length → mcCells (p.set i (x, y)) = ((mcCells p).set (i * 2) (.string (bs x))).set (i * 2 + 1) (.string (bs y))
  | [], i, x, y, h => by simp at h
  | a :: t, 0, x, y, h => by simp [mcCells, encMc]
  | a :: t, i + 1, x, y, h => by
    have ih := mcCells_set t i x y (by simpa using h)
    have e : ∀ (a : Mc) (t : List Mc), mcCells (a :: t) = .string (bs a.1) :: .string (bs a.2) :: mcCells t := fun a t => by simp [mcCells, encMc]
    rw [List.set_cons_succ, e, e, ih, show (i + 1) * 2 = (i * 2) + 1 + 1 by omega, List.set_cons_succ, List.set_cons_succ, List.set_cons_succ, List.set_cons_succ]
theorem MO.cell {B g n cap : Nat} {p : List Mc} {w : World} (h : MO B (.slice (some ⟨g, 0, none⟩) n cap) p w) {k : Nat} (hk : k < p.length) : w.cell? ⟨g, k * 2, none⟩ = some (.string (bs (nm p k))) ∧ w.cell? ⟨g, k * 2 + 1, none⟩ = some (.string (bs (vl p k))) := by
  have hc := World.ownsRow.cells h (g := g) rfl
  obtain ⟨h1, h2⟩ := mcCells_at p k _ (at_some hk)
  have e1 := hc _ _ h1
  have e2 := hc _ _ h2
  rw [add_off] at e1 e2
  exact ⟨e1, e2⟩
theorem MO.put {B g cap : Nat} {p : List Mc} {w : World} (h : MO B (.slice (some ⟨g, 0, none⟩) p.length cap) p w) {k : Nat} (hk : k < p.length) (x y : Str) :
    MO B (.slice (some ⟨g, 0, none⟩) p.length cap) (p.set k (x, y)) ((w.setCell ⟨g, k * 2, none⟩ (.string (bs x))).setCell ⟨g, k * 2 + 1, none⟩ (.string (bs y))) := by
  unfold MO at h ⊢
  rw [List.length_set, mcCells_set p k x y hk]
  have h1 := (h.stored (k * 2) (.string (bs x))).1
  exact (h1.stored (k * 2 + 1) (.string (bs y))).1
theorem McIn.cells {w : World} {b off n cap : Nat} {z : List Mc} (hc : ∀ k x, z[k]? = some x → w.cell? ⟨b, off + k * 2, none⟩ = some (.string (bs x.1)) ∧ w.cell? ⟨b, off + k * 2 + 1, none⟩ = some (.string (bs x.2))) :
    ∀ j u, (mcCells z)[j]? = some u → w.cell? ⟨b, off + j, none⟩ = some u := by
  intro j u hj
  obtain ⟨k, x, h1, (⟨rfl, rfl⟩ | ⟨rfl, rfl⟩)⟩ := mcCells_inv z j u hj
  · exact (hc k x h1).1
  · exact (hc k x h1).2
set_option maxHeartbeats 2000000 in
set_option maxRecDepth 100000 in
theorem clone_any (z : List Mc) (v : Value) (w : World) (h : McIn w v z) (hn : z.length ≤ 1048576) :
    Calls Try.prog 21 #[v] w fun e w' => ∃ v', e = .returned v' ∧ MO w.heap.size v' z w' ∧ Below w.heap.size w w' := by
  obtain ⟨i0, hi, hz0, hz1, hz2⟩ := info_parts infoMc
  have IH := Lib.hid hi; clear hi
  have q22 : ∀ (w : World) (a : Option Addr) (n c n' c' : Nat), (binOp .eql 22 (.slice a n c) (.slice none n' c')).run Try.prog w = .ok (.bool a.isNone) w := fun w a n c n' c' => Lib.run_eql_slice_nil w _ _ a n c n' c' Try.underlying22
  have LEN : Hid ((mcCells z).length = z.length * 2) := mcCells_length z
  have ONE := Lib.hid (mcCells_one z)
  have HN := Lib.hid hn
  obtain ⟨x, cap, rfl, A⟩ : ∃ (x : Option Addr) (cap : Nat), v = .slice x z.length cap ∧ Hid ((x = none ∧ z = []) ∨ ∃ y, x = some y ∧ ∀ j u, (mcCells z)[j]? = some u → w.cell? (y.add j) = some u) := by
    rcases h.open with ⟨rfl, a, cap, rfl⟩ | ⟨hp, b, off, cap, rfl, hcap, hlt, hc⟩
    · cases a with
      | none => exact ⟨none, cap, rfl, .inl ⟨rfl, rfl⟩⟩
      | some y => exact ⟨some y, cap, rfl, .inr ⟨y, rfl, fun j u hj => by simp [mcCells] at hj⟩⟩
    · refine ⟨_, cap, rfl, .inr ⟨_, rfl, fun j u hj => ?_⟩⟩
      rw [Addr.add_lit]
      exact McIn.cells (n := 0) (cap := 0) hc j u hj
  clear h hn
  rcases A.out with ⟨rfl, rfl⟩ | ⟨y, rfl, hc⟩
  · go_enter Try.func21, Try.ntmps21
    go_wp2
    go_ret
    exact ⟨_, rfl, World.ownsRow_nil _ _ _ _, Below.refl _ _⟩
  · have HC : Hid (∀ o j u, (mcCells z)[j]? = some u → (w.alloc o).cell? (y.add j) = some u) := fun o j u hj => Lib.cell?_alloc_some _ (hc j u hj)
    clear hc A
    go_enter Try.func21, Try.ntmps21
    go_wp2_with (at_builtin; go_must (refine wpList_append_own _ rfl (.tmp 5) (.tmp 6) 22 rfl w.heap.size 25 i0 (.agg #[.string ByteArray.empty, .string ByteArray.empty]) 2 32 Try.underlying22 IH.out hz0 hz1 hz2 rfl (by decide) _ _ _ rfl (World.ownsRow_made w #[] 0 (Nat.le_refl _) (Nat.zero_le _) (by simp)) y z.length cap (mcCells z) rfl LEN.out (HC.out _) ONE.out (by have := HN.out; unfold maxLen; omega) (by have := HN.out; omega) (by simp) ?_; intro v4 w4 q1 q2 q3; have O4 := Lib.hid q1; have G4 : Hid ((w.alloc (.cells #[] 25)).grownBy w4 (some w.heap.size)) := q2; clear q1 q2 q3))
    go_ret
    refine ⟨v4, rfl, by have := O4.out; rw [List.nil_append, Nat.zero_add] at this; exact this, ?_⟩
    exact ((Below.refl _ w).alloc (Nat.le_refl _) _).grown G4.out (by simp) (by intro k hk; injection hk with hk; omega)
end Go.Proofs.Ytoinflfibofofaa
