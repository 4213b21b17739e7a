/-
  slices.Reverse of macros of the call's own. Condition: at most 1048576 macros.
-/
import Derived.Test.YtoinflfibofofaaMClone
import Derived.Sort.Lot0
namespace Go.Proofs.Ytoinflfibofofaa
set_option linter.unusedVariables false
open Go.ChangeShapes Go.WideShapes Go.ChangeAt Go.RowKit

set_option maxHeartbeats 4000000 in
set_option maxRecDepth 100000 in
theorem rev_any (B : Nat) (z : List Mc) (v : Value) (w : World) (h : MO B v z w) (hn : z.length ≤ 1048576) :
    Calls Try.prog 22 #[v] w fun e w' => e = .returned (.tuple #[]) ∧ ∃ p : List Mc, p.Perm z ∧ MO B v p w' ∧ Below B w w' := by
  by_cases h0 : z = []
  · subst h0
    obtain ⟨a, c, rfl⟩ := h.len
    have H := Lib.hid h; clear h hn
    go_enter Try.func22, Try.ntmps22
    go_wp2_with fail
    go_rounds 1
    go_returns
    exact ⟨rfl, [], List.Perm.refl _, H.out, Below.refl _ _⟩
  · have hp := List.length_pos_iff.2 h0
    obtain ⟨g, cap, rfl, hg⟩ : ∃ g cap, v = .slice (some ⟨g, 0, none⟩) z.length cap ∧ B ≤ g := by
      rcases h.2 with ⟨_, e⟩ | ⟨g, cap, cur, hv, hb, _⟩
      · exact absurd (List.length_eq_zero_iff.1 e) h0
      · exact ⟨g, cap, hv, hb⟩
    have H := Lib.hid h
    have HP : Hid (∀ (q : List Mc) (w' : World), q.length = z.length → MO B (.slice (some ⟨g, 0, none⟩) z.length cap) q w' → ∀ k, k < z.length → (w'.cell? ⟨g, k * 2, none⟩ = some (.string (bs (nm q k))) ∧ w'.cell? ⟨g, k * 2 + 1, none⟩ = some (.string (bs (vl q k)))) ∧ ∀ j, w'.frozen? ⟨g, j, none⟩ = false) := fun q w' hq hm k hk => ⟨hm.cell (by omega), fun j => by unfold MO at hm; rw [hq] at hm; exact World.ownsRow.frozenAt hm j⟩
    have HG := Lib.hid hg
    clear h h0 hg
    go_enter Try.func22, Try.ntmps22
    go_wp2_with fail
    go_loopw [2, 3] (fun vi vj wr => ∃ (i : Nat) (j : Int) (p : List Mc), vi = .int .i64 (i : Int) ∧ vj = .int .i64 j ∧ i ≤ z.length ∧ j < z.length ∧ -1 ≤ j ∧ p.Perm z ∧ MO B (.slice (some ⟨g, 0, none⟩) z.length cap) p wr ∧ Below B w wr) (fun _ vj _ => (intOf vj + 1).toNat)
    case atStart => exact ⟨0, (z.length : Int) - 1, z, rfl, by go_num, by omega, by omega, by omega, List.Perm.refl _, H.out, Below.refl _ _⟩
    case round =>
      obtain ⟨i, j, p, rfl, rfl, hi, hj, hj0, q1, q2, q3⟩ := hrel
      have Q1 := Lib.hid q1; have Q2 := Lib.hid q2; have Q3 := Lib.hid q3
      have PL := Lib.hid q1.length_eq
      clear q1 q2 q3
      by_cases hij : (i : Int) < j
      · obtain ⟨m, rfl⟩ : ∃ m : Nat, j = (m : Int) := ⟨j.toNat, by omega⟩
        obtain ⟨⟨c1, c2⟩, fz⟩ := HP.out p wr PL.out Q2.out i (by omega)
        obtain ⟨⟨c3, c4⟩, _⟩ := HP.out p wr PL.out Q2.out m (by omega)
        have f1 := fz (i * 2)
        have f2 := fz (i * 2 + 1)
        have f3 := fz (m * 2)
        have f4 := fz (m * 2 + 1)
        have SW : Hid (MO B (.slice (some ⟨g, 0, none⟩) z.length cap) ((p.set i (nm p m, vl p m)).set m (nm p i, vl p i)) ((((wr.setCell ⟨g, i * 2, none⟩ (.string (bs (nm p m)))).setCell ⟨g, i * 2 + 1, none⟩ (.string (bs (vl p m)))).setCell ⟨g, m * 2, none⟩ (.string (bs (nm p i)))).setCell ⟨g, m * 2 + 1, none⟩ (.string (bs (vl p i))))) := by
          have h1 := Q2.out
          rw [← PL.out] at h1 ⊢
          have h2 := MO.put h1 (k := i) (by have := PL.out; omega) (nm p m) (vl p m)
          rw [show p.length = (p.set i (nm p m, vl p m)).length by rw [List.length_set]] at h2 ⊢
          exact MO.put h2 (by rw [List.length_set]; have := PL.out; omega) _ _
        have PE : Hid (((p.set i (nm p m, vl p m)).set m (nm p i, vl p i)).Perm z) := by
          have l1 := PL.out
          have e1 : (nm p m, vl p m) = p[m]'(by omega) := by have := at_some (z := p) (k := m) (by omega); rw [List.getElem?_eq_getElem (by omega)] at this; exact (Option.some.inj this).symm
          have e2 : (nm p i, vl p i) = p[i]'(by omega) := by have := at_some (z := p) (k := i) (by omega); rw [List.getElem?_eq_getElem (by omega)] at this; exact (Option.some.inj this).symm
          show List.Perm _ _
          rw [e1, e2]
          exact (Go.Sort.perm_set_set p i m (by omega) (by omega)).trans Q1.out
        generalize nm p i = x1 at *
        generalize vl p i = y1 at *
        generalize nm p m = x2 at *
        generalize vl p m = y2 at *
        clear fz H HP
        go_wp2_with fail
        go_region
        go_wp2
        go_roundw
        case rel => exact ⟨i + 1, (m : Int) - 1, _, by go_num, rfl, by omega, by omega, by omega, PE.out, World.ownsRow.drew SW.out, ((((Q3.out.setCell HG.out _).setCell HG.out _).setCell HG.out _).setCell HG.out _).drew⟩
        case measure => simp [intOf]
      · have t1 : decide ((i : Int) < j) = false := decide_eq_false hij
        go_wp2
        go_returns
        exact ⟨rfl, p, Q1.out, Q2.out, Q3.out⟩
end Go.Proofs.Ytoinflfibofofaa
