/-
  slices.partitionEqualOrdered at uint64: it does what the library's own plain function says. No condition.
-/
import Derived.Test.YtejceacoopgjkaaUHeapB
import Derived.Deep.CutRange
import Derived.Deep.LoopGhost
import Derived.Deep.CutBlock
namespace Go.Proofs.Ytejceacoopgjkaa
open Go.ChangeShapes Go.WideShapes Go.ChangeAt Go.RowKit
open Go.Sort (swp PermIn SortedIn SWO scanUp scanDown partEqLoop partitionEqual partLoop partition)

theorem su_go {p : Bv → Bool} {d : Array Bv} {j i : Nat} (h : i ≤ j) (hp : p d[i]! = true) : scanUp p d j i = scanUp p d j (i + 1) := by rw [scanUp, if_pos (by rw [hp, decide_eq_true h]; rfl)]
theorem su_end {p : Bv → Bool} {d : Array Bv} {j i : Nat} (h : ¬ i ≤ j ∨ p d[i]! = false) : scanUp p d j i = i := by
  rw [scanUp, if_neg (by rcases h with h | h; rw [decide_eq_false h]; simp; rw [h]; simp)]
theorem sn_go {p : Bv → Bool} {d : Array Bv} {i j : Nat} (h : i ≤ j + 1) (hp : p d[j + 1]! = true) : scanDown p d i (j + 1) = scanDown p d i j := by
  show (if _ then _ else _) = _
  rw [if_pos (by rw [hp, decide_eq_true h]; rfl)]
theorem sn_end {p : Bv → Bool} {d : Array Bv} {i j : Nat} (h : ¬ i ≤ j ∨ p d[j]! = false) : scanDown p d i j = j := by
  cases j with
  | zero => rfl
  | succ j =>
    show (if _ then _ else _) = _
    rw [if_neg (by rcases h with h | h; rw [decide_eq_false h]; simp; rw [h]; simp)]

theorem UR.cell_after {base g cap : Nat} {w0 w : World} {d : Array Bv} (h : UR base g cap w0 d w) {i j : Nat} (hi : i < d.size) (hj : j < d.size) :
    ∃ u, (w.setCell ⟨g, i, none⟩ (.int .u64 ((d[j]!).toNat : Int))).cell? ⟨g, j, none⟩ = some u := by
  by_cases hk0 : i = j
  · subst hk0; exact ⟨_, World.cell?_setCell_same _ _ _ (h.cell hi)⟩
  · exact ⟨_, (World.cell?_setCell_other _ _ _ _ (by intro e; simp only [Addr.mk.injEq] at e; omega)).trans (h.cell hj)⟩

set_option maxHeartbeats 8000000 in
theorem partEq_any (base g cap a b pivot : Nat) (w0 : World) (d : Array Bv) (w : World) (h : UR base g cap w0 d w) (hap : a ≤ pivot) (hpb : pivot < b) (hb : b ≤ d.size) (hn : d.size ≤ 1000000000000000) :
    Calls Try.prog 61 #[.slice (some ⟨g, 0, none⟩) d.size cap, .int .i64 a, .int .i64 b, .int .i64 pivot] w fun e w' => e = .returned (.int .i64 ((partitionEqual ltU d a b pivot).1 : Int)) ∧ UR base g cap w0 (partitionEqual ltU d a b pivot).2 w' := by
  have H := Lib.hid h; clear h
  obtain ⟨J, hJ⟩ : ∃ J, b = J + 1 := ⟨b - 1, by omega⟩
  have eJ : (b : Int) - 1 = (J : Int) := by omega
  have c3 := H.out.cell (i := a) (by omega)
  have c4 := H.out.cell (i := pivot) (by omega)
  have f3 := H.out.frozen a
  have f4 := H.out.frozen pivot
  obtain ⟨u2, f5⟩ := H.out.cell_after (i := a) (j := pivot) (by omega) (by omega)
  have SW : Hid _ := H.out.swap a pivot
  have HD : Hid (partitionEqual ltU d a b pivot = partEqLoop ltU a (a + 1) J (swp d a pivot)) := by show partEqLoop ltU a (a + 1) (b - 1) _ = _; rw [hJ]; rfl
  have hs1 : (swp d a pivot).size = d.size := swp_size _ _ _
  generalize swp d a pivot = d1 at SW HD hs1
  generalize ((d[a]!).toNat : Int) = x at c3 SW
  generalize ((d[pivot]!).toNat : Int) = y at c4 SW f5
  go_enter Try.func61, Try.ntmps61
  go_wp2_with fail
  go_region
  have HS2 : Hid _ := UR.drew SW.out
  clear c3 c4 f3 f4 f5 SW H
  generalize ((w.setCell ⟨g, a, none⟩ (.int .u64 y)).setCell ⟨g, pivot, none⟩ (.int .u64 x)).drew = wz at HS2 ⊢
  go_wp2_with fail
  go_loopg [9, 10] (J + 1) (fun gh v9 v10 wr => ∃ (i j : Nat) (dk : Array Bv), v9 = .int .i64 i ∧ v10 = .int .i64 j ∧ a < i ∧ i ≤ j + 1 ∧ j ≤ J ∧ j + 1 - i ≤ gh ∧ dk.size = d.size ∧ Hid (partEqLoop ltU a i j dk = partEqLoop ltU a (a + 1) J d1) ∧ Hid (UR base g cap w0 dk wr))
  case atStart => exact ⟨a + 1, J, d1, by go_num, rfl, by omega, by omega, Nat.le_refl _, by omega, hs1, rfl, HS2.out⟩
  case round =>
    obtain ⟨i, j, dk, rfl, rfl, hai, hij, hjJ, hgh, hsz, HE, HU⟩ := hrel
    clear HS2 hs1
    go_upto_block 2 with fail
    go_cut [9] from 29 to 82 (fun s9 wx => ∃ i2 : Nat, s9 = .int .i64 i2 ∧ i ≤ i2 ∧ i2 ≤ j + 1 ∧ Hid (scanUp (fun x => !ltU dk[a]! x) dk j i = i2) ∧ Hid (i2 ≤ j → ltU dk[a]! dk[i2]! = true) ∧ Hid (UR base g cap w0 dk wx))
    case first =>
      go_wp2_with fail
      go_loopg [9] (j + 1) (fun gh v9 wr => ∃ i2 : Nat, v9 = .int .i64 i2 ∧ i ≤ i2 ∧ i2 ≤ j + 1 ∧ j + 1 - i2 ≤ gh ∧ Hid (scanUp (fun x => !ltU dk[a]! x) dk j i = scanUp (fun x => !ltU dk[a]! x) dk j i2) ∧ Hid (UR base g cap w0 dk wr))
      case atStart => exact ⟨i, rfl, Nat.le_refl _, hij, by omega, rfl, HU⟩
      case round =>
        clear HU
        obtain ⟨i2, rfl, h1, h2, h3, HX, HU⟩ := hrel
        by_cases hle : i2 ≤ j
        · have gd : decide (i2 ≤ j) = true := decide_eq_true hle
          have c1 := HU.out.cell (i := i2) (by omega)
          have c2 := HU.out.cell (i := a) (by omega)
          have z1 : (i2 : Int) < (d.size : Int) := by omega
          have z2 : (a : Int) < (d.size : Int) := by omega
          cases hl : ltU dk[a]! dk[i2]!
          · go_wp2_with fail
            go_quiet (first | (go_at_call 60; exact Calls.quiet_of_same (less_any _ _ _)))
            rw [hl]
            go_wp2
            go_roundg (j - i2)
            case measure => omega
            case rel => exact ⟨i2 + 1, by go_num, by omega, by omega, by omega, HX.out.trans (su_go hle (by rw [hl]; rfl)), HU.out.drewN _⟩
          · go_wp2_with fail
            go_quiet (first | (go_at_call 60; exact Calls.quiet_of_same (less_any _ _ _)))
            rw [hl]
            go_wp2_with fail
            go_meet
            case rel => exact ⟨i2, rfl, h1, h2, HX.out.trans (su_end (.inr (by rw [hl]; rfl))), fun _ => hl, HU.out.drewN _⟩
        · have gd : decide (i2 ≤ j) = false := decide_eq_false hle
          go_wp2_with fail
          go_quiet (fail)
          go_wp2_with fail
          go_meet
          case rel => exact ⟨i2, rfl, h1, h2, HX.out.trans (su_end (.inl hle)), fun h => absurd h hle, HU.out.drewN _⟩
    case rest =>
      clear HU
      obtain ⟨i2, rfl, h1, h2, HX, HX2, HU⟩ := hcut
      go_upto_block 4 with fail
      go_cut [10] from 46 to 82 (fun s10 wx => ∃ j2 : Nat, s10 = .int .i64 j2 ∧ j2 ≤ j ∧ i2 ≤ j2 + 1 ∧ Hid (scanDown (fun x => ltU dk[a]! x) dk i2 j = j2) ∧ Hid (i2 ≤ j2 → ltU dk[a]! dk[j2]! = false) ∧ Hid (UR base g cap w0 dk wx))
      case first =>
        go_wp2_with fail
        go_loopg [10] (j + 1) (fun gh v10 wr => ∃ j2 : Nat, v10 = .int .i64 j2 ∧ j2 ≤ j ∧ i2 ≤ j2 + 1 ∧ j2 + 1 - i2 ≤ gh ∧ Hid (scanDown (fun x => ltU dk[a]! x) dk i2 j = scanDown (fun x => ltU dk[a]! x) dk i2 j2) ∧ Hid (UR base g cap w0 dk wr))
        case atStart => exact ⟨j, rfl, Nat.le_refl _, h2, by omega, rfl, HU⟩
        case round =>
          clear HU
          obtain ⟨j2, rfl, g1, g2, g3, HY, HU⟩ := hrel
          by_cases hle : i2 ≤ j2
          · have gd : decide (i2 ≤ j2) = true := decide_eq_true hle
            have c1 := HU.out.cell (i := j2) (by omega)
            have c2 := HU.out.cell (i := a) (by omega)
            have z1 : (j2 : Int) < (d.size : Int) := by omega
            have z2 : (a : Int) < (d.size : Int) := by omega
            obtain ⟨j3, hj3⟩ : ∃ j3, j2 = j3 + 1 := ⟨j2 - 1, by omega⟩
            have z3 : (j2 : Int) - 1 = (j3 : Int) := by omega
            have hj4 : Hid (j2 = j3 + 1) := hj3
            have hj5 : j3 < j2 := by omega
            clear hj3
            cases hl : ltU dk[a]! dk[j2]!
            · go_wp2_with fail
              go_quiet (first | (go_at_call 60; exact Calls.quiet_of_same (less_any _ _ _)))
              rw [hl]
              go_wp2_with fail
              go_meet
              case rel => exact ⟨j2, rfl, g1, g2, HY.out.trans (sn_end (.inr hl)), fun _ => hl, HU.out.drewN _⟩
            · go_wp2_with fail
              go_quiet (first | (go_at_call 60; exact Calls.quiet_of_same (less_any _ _ _)))
              rw [hl]
              go_wp2
              go_roundg (j2 - i2)
              case measure => omega
              case rel => exact ⟨j3, by go_num, by omega, by have := hj4.out; omega, by have := hj4.out; omega, HY.out.trans (by have e := hj4.out; subst e; exact sn_go hle hl), HU.out.drewN _⟩
          · have gd : decide (i2 ≤ j2) = false := decide_eq_false hle
            go_wp2_with fail
            go_quiet (fail)
            go_wp2_with fail
            go_meet
            case rel => exact ⟨j2, rfl, g1, g2, HY.out.trans (sn_end (.inl hle)), fun h => absurd h hle, HU.out.drewN _⟩
      case rest =>
        clear HU
        obtain ⟨j2, rfl, g1, g2, HY, HY2, HU⟩ := hcut
        have HE2 : Hid (partEqLoop ltU a (a + 1) J d1 = if i2 > j2 then (i2, dk) else partEqLoop ltU a (i2 + 1) (j2 - 1) (swp dk i2 j2)) := by
          refine (HE.out.symm.trans (Go.Sort.partEqLoop_eq ltU a i j dk)).trans ?_
          rw [HX.out, HY.out]
        clear HE HX HY
        by_cases hgt : j2 < i2
        · have gd : decide (j2 < i2) = true := decide_eq_true hgt
          have HE3 : Hid _ := HE2.out.trans (if_pos hgt)
          clear HE2
          go_wp2
          go_ret
          rw [HD.out, HE3.out]
          exact ⟨by simp, HU.out⟩
        · have gd : decide (j2 < i2) = false := decide_eq_false hgt
          have HE3 : Hid _ := HE2.out.trans (if_neg hgt)
          clear HE2
          have hne : i2 ≠ j2 := by
            intro e
            have q1 := HX2.out (by omega)
            rw [e, HY2.out (by omega)] at q1
            exact Bool.noConfusion q1
          clear HX2 HY2
          obtain ⟨j3, hj3⟩ : ∃ j3, j2 = j3 + 1 := ⟨j2 - 1, by omega⟩
          have hj6 : i2 ≤ j3 := by omega
          have z3 : (j2 : Int) - 1 = (j3 : Int) := by omega
          have hj4 : Hid (j2 = j3 + 1) := hj3
          have hj5 : j3 < j2 := by omega
          have hm : j3 + 1 - (i2 + 1) < j + 1 - i := by omega
          clear hj3
          have c3 := HU.out.cell (i := i2) (by omega)
          have c4 := HU.out.cell (i := j2) (by omega)
          have f3 := HU.out.frozen i2
          have f4 := HU.out.frozen j2
          have z1 : (j2 : Int) < (d.size : Int) := by omega
          have z2 : (i2 : Int) < (d.size : Int) := by omega
          obtain ⟨u2, f5⟩ := HU.out.cell_after (i := i2) (j := j2) (by omega) (by omega)
          have SW : Hid _ := HU.out.swap i2 j2
          clear HU
          generalize ((dk[i2]!).toNat : Int) = x at c3 SW
          generalize ((dk[j2]!).toNat : Int) = y at c4 SW f5
          go_wp2_with fail
          go_region
          go_wp2
          go_roundg (j3 + 1 - (i2 + 1))
          case measure => omega
          case rel => exact ⟨i2 + 1, j3, swp dk i2 j2, by go_num, by go_num, by omega, by have := hj4.out; omega, by omega, by omega, by rw [swp_size]; exact hsz, by rw [HE3.out]; have e := hj4.out; subst e; rfl, UR.drew SW.out⟩
end Go.Proofs.Ytejceacoopgjkaa
