/-
  slices.insertionSortOrdered at uint64: it does what the library's own plain function says. No condition.
-/
import Derived.Test.YtejceacoopgjkaaURow
namespace Go.Proofs.Ytejceacoopgjkaa
open Go.ChangeShapes Go.WideShapes Go.ChangeAt Go.RowKit
open Go.Sort (swp PermIn SortedIn SWO insInner insOuter insertionSort)

theorem swp_size (d : Array Bv) (i j : Nat) : (swp d i j).size = d.size := by simp [swp]
theorem ins_go {a j : Nat} {d : Array Bv} (hj : a < j + 1) (hl : ltU d[j + 1]! d[j]! = true) : insInner ltU a (j + 1) d = insInner ltU a j (swp d (j + 1) j) := by
  show (if _ then _ else _) = _
  rw [if_pos (by rw [hl, decide_eq_true (show j + 1 > a from hj)]; rfl)]
theorem ins_stop {a j : Nat} {d : Array Bv} (h : j ≤ a ∨ ∃ k, j = k + 1 ∧ ltU d[k + 1]! d[k]! = false) : insInner ltU a j d = d := by
  cases j with
  | zero => rfl
  | succ k =>
    show (if _ then _ else _) = _
    rcases h with h | ⟨k', e, h⟩
    · rw [if_neg (by rw [decide_eq_false (show ¬ k + 1 > a by omega)]; simp)]
    · cases e; rw [if_neg (by rw [h]; simp)]
theorem insO_go {a b i : Nat} {d : Array Bv} (h : i < b) : insOuter ltU a b i d = insOuter ltU a b (i + 1) (insInner ltU a i d) := by rw [insOuter, if_pos h]
theorem insO_stop {a b i : Nat} {d : Array Bv} (h : ¬ i < b) : insOuter ltU a b i d = d := by rw [insOuter, if_neg h]
theorem insInner_size (a : Nat) : ∀ (j : Nat) (d : Array Bv), (insInner ltU a j d).size = d.size
  | 0, _ => rfl
  | j + 1, d => by
    show (if _ then _ else _ : Array Bv).size = _
    split
    · rw [insInner_size a j, swp_size]
    · rfl

set_option maxHeartbeats 4000000 in
theorem insertion_any (base g cap a b : Nat) (w0 : World) (d : Array Bv) (w : World) (h : UR base g cap w0 d w) (hab : a ≤ b) (hb : b ≤ d.size) (hn : d.size ≤ 4611686018427387904) :
    Calls Try.prog 54 #[.slice (some ⟨g, 0, none⟩) d.size cap, .int .i64 a, .int .i64 b] w fun e w' => e = .returned (.tuple #[]) ∧ UR base g cap w0 (insertionSort ltU d a b) w' := by
  have H := Lib.hid h; clear h
  go_enter Try.func54, Try.ntmps54
  go_wp2_with fail
  go_loopw [6] (fun vi wr => ∃ (i : Nat) (dk : Array Bv), vi = .int .i64 i ∧ a < i ∧ i ≤ b + 1 ∧ dk.size = d.size ∧ insOuter ltU a b i dk = insOuter ltU a b (a + 1) d ∧ UR base g cap w0 dk wr) (fun vi _ => b + 1 - (intOf vi).toNat)
  case atStart => exact ⟨a + 1, d, by go_num, by omega, by omega, rfl, rfl, H.out⟩
  case round =>
    obtain ⟨i, dk, rfl, hai, hib, hsz, he, hu⟩ := hrel
    have HE := Lib.hid he; clear he
    have HU := Lib.hid hu; clear hu
    by_cases hlt : i < b
    · go_wp2_with fail
      go_loopw [7] (fun vj wr2 => ∃ (j : Nat) (dj : Array Bv), vj = .int .i64 j ∧ a ≤ j ∧ j ≤ i ∧ dj.size = d.size ∧ insInner ltU a j dj = insInner ltU a i dk ∧ UR base g cap w0 dj wr2) (fun vj _ => (intOf vj).toNat)
      case atStart => exact ⟨i, dk, rfl, by omega, by omega, hsz, rfl, HU.out⟩
      case round =>
        obtain ⟨j, dj, rfl, haj, hji, hsj, hej, huj⟩ := hrel
        have HEJ := Lib.hid hej; clear hej
        have HUJ := Lib.hid huj; clear huj
        have out : (j ≤ a ∨ ∃ k, j = k + 1 ∧ ltU dj[k + 1]! dj[k]! = false) → Hid (insOuter ltU a b (i + 1) dj = insOuter ltU a b (a + 1) d) := fun hs => by
          show _ = _
          rw [← HE.out, insO_go hlt, ← HEJ.out, ins_stop hs]
        have OUT := Lib.hid out; clear out
        by_cases hja : a < j
        · obtain ⟨k, rfl⟩ : ∃ k, j = k + 1 := ⟨j - 1, by omega⟩
          have c1 := HUJ.out.cell (i := k + 1) (by omega)
          have c2 := HUJ.out.cell (i := k) (by omega)
          have gd : decide ((a : Int) < (k : Int) + 1) = true := decide_eq_true (by omega)
          have z1 : (0 : Int) ≤ (k : Int) + 1 := by omega
          have z2 : (k : Int) + 1 < (d.size : Int) := by omega
          have z3 : ((k : Int) + 1).toNat = k + 1 := by omega
          have z4 : (k : Int) < (d.size : Int) := by omega
          cases hl : ltU dj[k + 1]! dj[k]!
          · have HO := OUT.out (.inr ⟨k, rfl, hl⟩)
            go_wp2_with fail
            go_quiet (first | (go_at_call 60; exact Calls.quiet_of_same (less_any _ _ _)))
            rw [hl]
            go_wp2
            go_roundw
            case rel => exact ⟨i + 1, dj, by go_num, by omega, by omega, hsj, HO.out, HUJ.out.drewN _⟩
            case measure => simp [intOf]; omega
          · have HG := Lib.hid (ins_go (a := a) (d := dj) hja hl)
            go_wp2_with fail
            go_quiet (first | (go_at_call 60; exact Calls.quiet_of_same (less_any _ _ _)))
            rw [hl]
            have HQ : Hid (UR base g cap w0 dj (wr.drewN nq)) := HUJ.out.drewN nq
            clear c1 c2 HUJ
            generalize wr.drewN nq = wq at HQ ⊢
            have c1 := HQ.out.cell (i := k + 1) (by omega)
            have c2 := HQ.out.cell (i := k) (by omega)
            have f1 := HQ.out.frozen (k + 1)
            have f2 := HQ.out.frozen k
            have SW : Hid _ := HQ.out.swap (k + 1) k
            generalize ((dj[k + 1]!).toNat : Int) = x at c1 SW
            generalize ((dj[k]!).toNat : Int) = y at c2 SW
            go_wp2_with fail
            go_region
            go_wp2
            go_roundw
            case rel => exact ⟨k, swp dj (k + 1) k, by go_num, by omega, by omega, by rw [swp_size]; exact hsj, by rw [← HG.out]; exact HEJ.out, UR.drew SW.out⟩
            case measure => simp [intOf]
        · have HO := OUT.out (.inl (by omega))
          have gd : decide ((a : Int) < (j : Int)) = false := decide_eq_false (by omega)
          go_wp2_with fail
          go_quiet (fail)
          go_wp2
          go_roundw
          case rel => exact ⟨i + 1, dj, by go_num, by omega, by omega, hsj, HO.out, HUJ.out.drewN _⟩
          case measure => simp [intOf]; omega
    · have HO : Hid (insertionSort ltU d a b = dk) := by
        show insOuter ltU a b (a + 1) d = dk
        rw [← HE.out, insO_stop hlt]
      go_wp2
      go_end0
      exact ⟨rfl, by rw [HO.out]; exact HU.out⟩
end Go.Proofs.Ytejceacoopgjkaa
