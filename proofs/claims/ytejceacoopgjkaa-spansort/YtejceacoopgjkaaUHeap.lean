/-
  slices.siftDownOrdered and heapSortOrdered at uint64: they do what the library's own plain functions say. No condition.
-/
import Derived.Test.YtejceacoopgjkaaUIns
namespace Go.Proofs.Ytejceacoopgjkaa
open Go.ChangeShapes Go.WideShapes Go.ChangeAt Go.RowKit
open Go.Sort (swp PermIn SortedIn SWO siftDown heapBuild heapPop heapSort)

/-- which child is compared -/
def Child (hi first R : Nat) (d : Array Bv) (c : Nat) : Prop :=
  2 * R + 1 < hi ∧ (c = 2 * R + 2 ∧ 2 * R + 2 < hi ∧ ltU d[first + (2 * R + 1)]! d[first + (2 * R + 1) + 1]! = true ∨ c = 2 * R + 1 ∧ (¬ 2 * R + 2 < hi ∨ ltU d[first + (2 * R + 1)]! d[first + (2 * R + 1) + 1]! = false))
theorem sd_end {hi first R : Nat} {d : Array Bv} (h : hi ≤ 2 * R + 1) : siftDown ltU hi first R d = d := by rw [siftDown, dif_pos h]
theorem sd_stop {hi first R c : Nat} {d : Array Bv} (h : Child hi first R d c) (hl : ltU d[first + R]! d[first + c]! = false) : siftDown ltU hi first R d = d := by
  obtain ⟨h1, ⟨rfl, h2, h3⟩ | ⟨rfl, h2⟩⟩ := h
  · rw [siftDown, dif_neg (by omega), if_pos (by rw [h3, decide_eq_true (show 2 * R + 1 + 1 < hi by omega)]; rfl), if_pos (by rw [hl]; rfl)]
  · rw [siftDown, dif_neg (by omega), if_neg (by rcases h2 with h2 | h2; rw [decide_eq_false (show ¬ 2 * R + 1 + 1 < hi by omega)]; simp; rw [h2]; simp), if_pos (by rw [hl]; rfl)]
theorem sd_go {hi first R c : Nat} {d : Array Bv} (h : Child hi first R d c) (hl : ltU d[first + R]! d[first + c]! = true) : siftDown ltU hi first R d = siftDown ltU hi first c (swp d (first + R) (first + c)) := by
  obtain ⟨h1, ⟨rfl, h2, h3⟩ | ⟨rfl, h2⟩⟩ := h
  · rw [siftDown, dif_neg (by omega), if_pos (by rw [h3, decide_eq_true (show 2 * R + 1 + 1 < hi by omega)]; rfl), if_neg (by rw [hl]; simp), dif_pos h2]
  · rw [siftDown, dif_neg (by omega), if_neg (by rcases h2 with h2 | h2; rw [decide_eq_false (show ¬ 2 * R + 1 + 1 < hi by omega)]; simp; rw [h2]; simp), if_neg (by rw [hl]; simp)]

set_option maxHeartbeats 8000000 in
theorem sift_any (base g cap lo hi first : Nat) (w0 : World) (d : Array Bv) (w : World) (h : UR base g cap w0 d w) (hlo : lo ≤ hi) (hb : first + hi ≤ d.size) (hn : d.size ≤ 1000000000000000) :
    Calls Try.prog 73 #[.slice (some ⟨g, 0, none⟩) d.size cap, .int .i64 lo, .int .i64 hi, .int .i64 first] w fun e w' => e = .returned (.tuple #[]) ∧ UR base g cap w0 (siftDown ltU hi first lo d) w' := by
  have H := Lib.hid h; clear h
  go_enter Try.func73, Try.ntmps73
  go_wp2_with fail
  go_loopw [8] (fun vr wr => ∃ (R : Nat) (dk : Array Bv), vr = .int .i64 R ∧ R ≤ hi ∧ dk.size = d.size ∧ siftDown ltU hi first R dk = siftDown ltU hi first lo d ∧ UR base g cap w0 dk wr) (fun vr _ => hi - (intOf vr).toNat)
  case atStart => exact ⟨lo, d, rfl, hlo, rfl, rfl, H.out⟩
  case round =>
    obtain ⟨R, dk, rfl, hR, hsz, he, hu⟩ := hrel
    have HE := Lib.hid he; clear he
    have HU := Lib.hid hu; clear hu
    by_cases h1 : 2 * R + 1 < hi
    · by_cases h2 : 2 * R + 2 < hi
      · have c1 := HU.out.cell (i := first + (2 * R + 1)) (by omega)
        have c2 := HU.out.cell (i := first + (2 * R + 1) + 1) (by omega)
        have gd : decide (2 * (R : Int) + 1 + 1 < (hi : Int)) = true := decide_eq_true (by omega)
        have x1 : (first : Int) + (2 * (R : Int) + 1) < (d.size : Int) := by omega
        have x2 : (first : Int) + (2 * (R : Int) + 1) + 1 < (d.size : Int) := by omega
        have x3 : ((first : Int) + (2 * (R : Int) + 1)).toNat = first + (2 * R + 1) := by omega
        have x4 : ((first : Int) + (2 * (R : Int) + 1) + 1).toNat = first + (2 * R + 1) + 1 := by omega
        have x5 : (0 : Int) ≤ (first : Int) + (2 * (R : Int) + 1) := by omega
        have x6 : (0 : Int) ≤ (first : Int) + (2 * (R : Int) + 1) + 1 := by omega
        cases hl : ltU dk[first + (2 * R + 1)]! dk[first + (2 * R + 1) + 1]!
        · have hsel : Hid (Child hi first R dk (2 * R + 1)) := ⟨h1, .inr ⟨rfl, .inr hl⟩⟩
          go_wp2_with fail
          go_quiet (first | (go_at_call 60; exact Calls.quiet_of_same (less_any _ _ _)))
          rw [hl]
          have HQ : Hid (UR base g cap w0 dk (wr.drewN nq)) := HU.out.drewN nq
          clear c1 c2 HU gd x1 x2 x3 x4 x5 x6
          generalize wr.drewN nq = wq at HQ ⊢
          have HI : Hid (first + (2 * R + 1) < d.size) := by show _ < _; omega
          have c3 := HQ.out.cell (i := first + R) (by omega)
          have c4 := HQ.out.cell (i := first + (2 * R + 1)) (by omega)
          have y1 : (first : Int) + (R : Int) < (d.size : Int) := by omega
          have y2 : (first : Int) + (2 * (R : Int) + 1) < (d.size : Int) := by omega
          have y3 : ((first : Int) + (R : Int)).toNat = first + R := by omega
          have y4 : ((first : Int) + (2 * (R : Int) + 1)).toNat = first + (2 * R + 1) := by omega
          have y5 : (0 : Int) ≤ (first : Int) + (R : Int) := by omega
          have y6 : (0 : Int) ≤ (first : Int) + (2 * (R : Int) + 1) := by omega
          cases hl2 : ltU dk[first + R]! dk[first + (2 * R + 1)]!
          · have HX := Lib.hid (sd_stop (d := dk) hsel.out hl2)
            go_wp2_with fail
            go_quiet (first | (go_at_call 60; exact Calls.quiet_of_same (less_any _ _ _)))
            rw [hl2]
            go_wp2
            first | go_end0 | refine bodyPost_ret (results_none rfl _ _ _) rfl ?_
            exact ⟨rfl, by rw [← HE.out, HX.out]; exact HQ.out.drewN _⟩
          · have HX := Lib.hid (sd_go (d := dk) hsel.out hl2)
            go_wp2_with fail
            go_quiet (first | (go_at_call 60; exact Calls.quiet_of_same (less_any _ _ _)))
            rw [hl2]
            have HQ2 : Hid (UR base g cap w0 dk (wq.drewN nq)) := HQ.out.drewN nq
            clear c3 c4 HQ
            generalize wq.drewN nq = wq2 at HQ2 ⊢
            have c3 := HQ2.out.cell (i := first + R) (by omega)
            have c4 := HQ2.out.cell (i := first + (2 * R + 1)) (by omega)
            have f3 := HQ2.out.frozen (first + R)
            have f4 := HQ2.out.frozen (first + (2 * R + 1))
            have SW : Hid _ := HQ2.out.swap (first + R) (first + (2 * R + 1))
            generalize ((dk[first + R]!).toNat : Int) = x at c3 SW
            generalize ((dk[first + (2 * R + 1)]!).toNat : Int) = y at c4 SW
            go_wp2_with fail
            go_region
            go_wp2
            go_roundw
            case rel => exact ⟨(2 * R + 1), swp dk (first + R) (first + (2 * R + 1)), by go_num, by omega, by rw [swp_size]; exact hsz, by rw [← HX.out]; exact HE.out, UR.drew SW.out⟩
            case measure => simp [intOf]; omega
        · have hsel : Hid (Child hi first R dk (2 * R + 2)) := ⟨h1, .inl ⟨rfl, h2, hl⟩⟩
          go_wp2_with fail
          go_quiet (first | (go_at_call 60; exact Calls.quiet_of_same (less_any _ _ _)))
          rw [hl]
          have HQ : Hid (UR base g cap w0 dk (wr.drewN nq)) := HU.out.drewN nq
          clear c1 c2 HU gd x1 x2 x3 x4 x5 x6
          generalize wr.drewN nq = wq at HQ ⊢
          have HI : Hid (first + (2 * R + 2) < d.size) := by show _ < _; omega
          have c3 := HQ.out.cell (i := first + R) (by omega)
          have c4 := HQ.out.cell (i := first + (2 * R + 2)) (by omega)
          have y1 : (first : Int) + (R : Int) < (d.size : Int) := by omega
          have y2 : (first : Int) + (2 * (R : Int) + 1 + 1) < (d.size : Int) := by omega
          have y3 : ((first : Int) + (R : Int)).toNat = first + R := by omega
          have y4 : ((first : Int) + (2 * (R : Int) + 1 + 1)).toNat = first + (2 * R + 2) := by omega
          have y5 : (0 : Int) ≤ (first : Int) + (R : Int) := by omega
          have y6 : (0 : Int) ≤ (first : Int) + (2 * (R : Int) + 1 + 1) := by omega
          cases hl2 : ltU dk[first + R]! dk[first + (2 * R + 2)]!
          · have HX := Lib.hid (sd_stop (d := dk) hsel.out hl2)
            go_wp2_with fail
            go_quiet (first | (go_at_call 60; exact Calls.quiet_of_same (less_any _ _ _)))
            rw [hl2]
            go_wp2
            first | go_end0 | refine bodyPost_ret (results_none rfl _ _ _) rfl ?_
            exact ⟨rfl, by rw [← HE.out, HX.out]; exact HQ.out.drewN _⟩
          · have HX := Lib.hid (sd_go (d := dk) hsel.out hl2)
            go_wp2_with fail
            go_quiet (first | (go_at_call 60; exact Calls.quiet_of_same (less_any _ _ _)))
            rw [hl2]
            have HQ2 : Hid (UR base g cap w0 dk (wq.drewN nq)) := HQ.out.drewN nq
            clear c3 c4 HQ
            generalize wq.drewN nq = wq2 at HQ2 ⊢
            have c3 := HQ2.out.cell (i := first + R) (by omega)
            have c4 := HQ2.out.cell (i := first + (2 * R + 2)) (by omega)
            have f3 := HQ2.out.frozen (first + R)
            have f4 := HQ2.out.frozen (first + (2 * R + 2))
            have SW : Hid _ := HQ2.out.swap (first + R) (first + (2 * R + 2))
            generalize ((dk[first + R]!).toNat : Int) = x at c3 SW
            generalize ((dk[first + (2 * R + 2)]!).toNat : Int) = y at c4 SW
            go_wp2_with fail
            go_region
            go_wp2
            go_roundw
            case rel => exact ⟨(2 * R + 2), swp dk (first + R) (first + (2 * R + 2)), by go_num, by omega, by rw [swp_size]; exact hsz, by rw [← HX.out]; exact HE.out, UR.drew SW.out⟩
            case measure => simp [intOf]; omega
      · have gd : decide (2 * (R : Int) + 1 + 1 < (hi : Int)) = false := decide_eq_false (by omega)
        have hsel : Hid (Child hi first R dk (2 * R + 1)) := ⟨h1, .inr ⟨rfl, .inl h2⟩⟩
        go_wp2_with fail
        go_quiet (fail)
        have HQ : Hid (UR base g cap w0 dk (wr.drewN nq)) := HU.out.drewN nq
        clear HU gd
        generalize wr.drewN nq = wq at HQ ⊢
        have HI : Hid (first + (2 * R + 1) < d.size) := by show _ < _; omega
        have c3 := HQ.out.cell (i := first + R) (by omega)
        have c4 := HQ.out.cell (i := first + (2 * R + 1)) (by omega)
        have y1 : (first : Int) + (R : Int) < (d.size : Int) := by omega
        have y2 : (first : Int) + (2 * (R : Int) + 1) < (d.size : Int) := by omega
        have y3 : ((first : Int) + (R : Int)).toNat = first + R := by omega
        have y4 : ((first : Int) + (2 * (R : Int) + 1)).toNat = first + (2 * R + 1) := by omega
        have y5 : (0 : Int) ≤ (first : Int) + (R : Int) := by omega
        have y6 : (0 : Int) ≤ (first : Int) + (2 * (R : Int) + 1) := by omega
        cases hl2 : ltU dk[first + R]! dk[first + (2 * R + 1)]!
        · have HX := Lib.hid (sd_stop (d := dk) hsel.out hl2)
          go_wp2_with fail
          go_quiet (first | (go_at_call 60; exact Calls.quiet_of_same (less_any _ _ _)))
          rw [hl2]
          go_wp2
          first | go_end0 | refine bodyPost_ret (results_none rfl _ _ _) rfl ?_
          exact ⟨rfl, by rw [← HE.out, HX.out]; exact HQ.out.drewN _⟩
        · have HX := Lib.hid (sd_go (d := dk) hsel.out hl2)
          go_wp2_with fail
          go_quiet (first | (go_at_call 60; exact Calls.quiet_of_same (less_any _ _ _)))
          rw [hl2]
          have HQ2 : Hid (UR base g cap w0 dk (wq.drewN nq)) := HQ.out.drewN nq
          clear c3 c4 HQ
          generalize wq.drewN nq = wq2 at HQ2 ⊢
          have c3 := HQ2.out.cell (i := first + R) (by omega)
          have c4 := HQ2.out.cell (i := first + (2 * R + 1)) (by omega)
          have f3 := HQ2.out.frozen (first + R)
          have f4 := HQ2.out.frozen (first + (2 * R + 1))
          have SW : Hid _ := HQ2.out.swap (first + R) (first + (2 * R + 1))
          generalize ((dk[first + R]!).toNat : Int) = x at c3 SW
          generalize ((dk[first + (2 * R + 1)]!).toNat : Int) = y at c4 SW
          go_wp2_with fail
          go_region
          go_wp2
          go_roundw
          case rel => exact ⟨(2 * R + 1), swp dk (first + R) (first + (2 * R + 1)), by go_num, by omega, by rw [swp_size]; exact hsz, by rw [← HX.out]; exact HE.out, UR.drew SW.out⟩
          case measure => simp [intOf]; omega
    · have HX := Lib.hid (sd_end (first := first) (d := dk) (show hi ≤ 2 * R + 1 by omega))
      go_wp2
      go_end0
      exact ⟨rfl, by rw [← HE.out, HX.out]; exact HU.out⟩
end Go.Proofs.Ytejceacoopgjkaa
