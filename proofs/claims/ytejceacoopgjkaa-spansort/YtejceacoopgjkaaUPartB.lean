/-
  slices.partitionOrdered at uint64: it does what the library's own plain function says. No condition. (Written by tools/mkpart.py.)
-/
import Derived.Test.YtejceacoopgjkaaUPart
namespace Go.Proofs.Ytejceacoopgjkaa
open Go.ChangeShapes Go.WideShapes Go.ChangeAt Go.RowKit
open Go.Sort (swp PermIn SortedIn SWO scanUp scanDown partEqLoop partitionEqual partLoop partition)

theorem part_split (d1 d : Array Bv) (a b J pivot i2 j2 : Nat) (e1 : swp d a pivot = d1) (eb : b = J + 1)
    (hx : scanUp (fun x => ltU x d1[a]!) d1 J (a + 1) = i2) (hy : scanDown (fun x => !ltU x d1[a]!) d1 i2 J = j2) :
    partition ltU d a b pivot = if i2 > j2 then (j2, true, swp d1 j2 a) else ((partLoop ltU a (i2 + 1) (j2 - 1) (swp d1 i2 j2)).1, false, swp (partLoop ltU a (i2 + 1) (j2 - 1) (swp d1 i2 j2)).2 (partLoop ltU a (i2 + 1) (j2 - 1) (swp d1 i2 j2)).1 a) := by
  subst eb
  unfold partition
  simp only [e1, Nat.add_sub_cancel, hx, hy]

set_option maxRecDepth 100000 in
set_option maxHeartbeats 8000000 in
theorem partition_any (base g cap a b pivot : Nat) (w0 : World) (d : Array Bv) (w : World) (h : UR base g cap w0 d w) (hap : a ≤ pivot) (hpb : pivot < b) (hb : b ≤ d.size) (hn : d.size ≤ 1000000000000000) :
    Calls Try.prog 62 #[.slice (some ⟨g, 0, none⟩) d.size cap, .int .i64 a, .int .i64 b, .int .i64 pivot] w fun e w' => e = .returned (.tuple #[.int .i64 ((partition ltU d a b pivot).1 : Int), .bool (partition ltU d a b pivot).2.1]) ∧ UR base g cap w0 (partition ltU d a b pivot).2.2 w' := by
  have H := Lib.hid h; clear h
  obtain ⟨J, hJ⟩ : ∃ J, b = J + 1 := ⟨b - 1, by omega⟩
  have eJ : (b : Int) - 1 = (J : Int) := by omega


  have c3 := H.out.cell (i := a) (by omega)
  have c4 := H.out.cell (i := pivot) (by omega)
  have f3 := H.out.frozen a
  have f4 := H.out.frozen pivot
  obtain ⟨u2, f5⟩ := H.out.cell_after (i := a) (j := pivot) (by omega) (by omega)
  have SW : Hid _ := H.out.swap a pivot
  have hs1 : (swp d a pivot).size = d.size := swp_size _ _ _
  have HD := Lib.hid (fun i2 j2 => part_split (swp d a pivot) d a b J pivot i2 j2 rfl hJ)

  generalize partition ltU d a b pivot = PP at HD ⊢
  generalize swp d a pivot = d1 at SW HD hs1
  generalize ((d[a]!).toNat : Int) = x at c3 SW
  generalize ((d[pivot]!).toNat : Int) = y at c4 SW f5
  go_enter Try.func62, Try.ntmps62
  go_wp2_with fail
  go_region
  have HS2 : Hid _ := UR.drew SW.out
  clear c3 c4 f3 f4 f5 SW H
  generalize ((w.setCell ⟨g, a, none⟩ (.int .u64 y)).setCell ⟨g, pivot, none⟩ (.int .u64 x)).drew = wz at HS2 ⊢
  go_upto_block 0 with fail
  go_cut [10] from 30 to 45 (fun s10 wx => ∃ i2 : Nat, s10 = .int .i64 i2 ∧ (a + 1) ≤ i2 ∧ i2 ≤ J + 1 ∧ Hid (scanUp (fun x => ltU x d1[a]!) d1 J (a + 1) = i2) ∧ Hid (i2 ≤ J → ltU d1[i2]! d1[a]! = false) ∧ Hid (UR base g cap w0 d1 wx))
  case first =>
    go_wp2_with fail
    go_loopg [10] (J + 1) (fun gh v10 wr => ∃ i2 : Nat, v10 = .int .i64 i2 ∧ (a + 1) ≤ i2 ∧ i2 ≤ J + 1 ∧ J + 1 - i2 ≤ gh ∧ Hid (scanUp (fun x => ltU x d1[a]!) d1 J (a + 1) = scanUp (fun x => ltU x d1[a]!) d1 J i2) ∧ Hid (UR base g cap w0 d1 wr))
    case atStart => exact ⟨(a + 1), by go_num, Nat.le_refl _, by omega, by omega, rfl, HS2.out⟩
    case round =>
      clear HS2
      obtain ⟨i2, rfl, h1, h2, h3, HX, HU⟩ := hrel
      by_cases hle : i2 ≤ J
      · have gd : decide (i2 ≤ J) = true := decide_eq_true hle
        have c1 := HU.out.cell (i := i2) (by omega)
        have c2 := HU.out.cell (i := a) (by omega)
        have z1 : (i2 : Int) < (d.size : Int) := by omega
        have z2 : (a : Int) < (d.size : Int) := by omega
        cases hl : ltU d1[i2]! d1[a]!
        · go_wp2_with fail
          go_quiet (first | (go_at_call 60; exact Calls.quiet_of_same (less_any _ _ _)))
          rw [hl]
          go_wp2_with fail
          go_meet
          case rel => exact ⟨i2, rfl, h1, h2, HX.out.trans (su_end (.inr hl)), fun _ => hl, HU.out.drewN _⟩
        · go_wp2_with fail
          go_quiet (first | (go_at_call 60; exact Calls.quiet_of_same (less_any _ _ _)))
          rw [hl]
          go_wp2
          go_roundg (J - i2)
          case measure => omega
          case rel => exact ⟨i2 + 1, by go_num, by omega, by omega, by omega, HX.out.trans (su_go hle hl), HU.out.drewN _⟩
      · have gd : decide (i2 ≤ J) = false := decide_eq_false hle
        go_wp2_with fail
        go_quiet (fail)
        go_wp2_with fail
        go_meet
        case rel => exact ⟨i2, rfl, h1, h2, HX.out.trans (su_end (.inl hle)), fun h => absurd h hle, HU.out.drewN _⟩
  case rest =>
    clear HS2
    obtain ⟨i2, rfl, h1, h2, HX, HX2, HU⟩ := hcut
    go_upto_block 2 with fail
    go_cut [11] from 46 to 62 (fun s11 wx => ∃ j2 : Nat, s11 = .int .i64 j2 ∧ j2 ≤ J ∧ i2 ≤ j2 + 1 ∧ Hid (scanDown (fun x => !ltU x d1[a]!) d1 i2 J = j2) ∧ Hid (i2 ≤ j2 → ltU d1[j2]! d1[a]! = true) ∧ Hid (UR base g cap w0 d1 wx))
    case first =>
      go_wp2_with fail
      go_loopg [11] (J + 1) (fun gh v11 wr => ∃ j2 : Nat, v11 = .int .i64 j2 ∧ j2 ≤ J ∧ i2 ≤ j2 + 1 ∧ j2 + 1 - i2 ≤ gh ∧ Hid (scanDown (fun x => !ltU x d1[a]!) d1 i2 J = scanDown (fun x => !ltU x d1[a]!) d1 i2 j2) ∧ Hid (UR base g cap w0 d1 wr))
      case atStart => exact ⟨J, rfl, Nat.le_refl _, h2, by omega, rfl, HU⟩
      case round =>
        clear HU
        obtain ⟨j2, rfl, g1, g2, g3, HY, HU⟩ := hrel
        by_cases hle : i2 ≤ j2
        · have gd : decide (i2 ≤ j2) = true := decide_eq_true hle
          have c1 := HU.out.cell (i := j2) (by omega)
          have c2 := HU.out.cell (i := a) (by omega)
          have z1 : (j2 : Int) < (d.size : Int) := by omega
          have z2 : (a : Int) < (d.size : Int) := by omega
          obtain ⟨j3, hj3⟩ : ∃ j3, j2 = j3 + 1 := ⟨j2 - 1, by omega⟩
          have z3 : (j2 : Int) - 1 = (j3 : Int) := by omega
          have hj4 : Hid (j2 = j3 + 1) := hj3
          have hj5 : j3 < j2 := by omega
          clear hj3
          cases hl : ltU d1[j2]! d1[a]!
          · go_wp2_with fail
            go_quiet (first | (go_at_call 60; exact Calls.quiet_of_same (less_any _ _ _)))
            rw [hl]
            go_wp2
            go_roundg (j2 - i2)
            case measure => omega
            case rel => exact ⟨j3, by go_num, by omega, by have := hj4.out; omega, by have := hj4.out; omega, HY.out.trans (by have e := hj4.out; subst e; exact sn_go hle (by rw [hl]; rfl)), HU.out.drewN _⟩
          · go_wp2_with fail
            go_quiet (first | (go_at_call 60; exact Calls.quiet_of_same (less_any _ _ _)))
            rw [hl]
            go_wp2_with fail
            go_meet
            case rel => exact ⟨j2, rfl, g1, g2, HY.out.trans (sn_end (.inr (by rw [hl]; rfl))), fun _ => hl, HU.out.drewN _⟩
        · have gd : decide (i2 ≤ j2) = false := decide_eq_false hle
          go_wp2_with fail
          go_quiet (fail)
          go_wp2_with fail
          go_meet
          case rel => exact ⟨j2, rfl, g1, g2, HY.out.trans (sn_end (.inl hle)), fun h => absurd h hle, HU.out.drewN _⟩
    case rest =>
      clear HU
      obtain ⟨j2, rfl, g1, g2, HY, HY2, HU⟩ := hcut
      have HE : Hid _ := HD.out i2 j2 HX.out HY.out
      clear HD HX HY
      by_cases hgt : j2 < i2
      · have gd : decide (j2 < i2) = true := decide_eq_true hgt
        have HE3 : Hid _ := HE.out.trans (if_pos hgt)
        clear HE HX2 HY2
        have c3 := HU.out.cell (i := j2) (by omega)
        have c4 := HU.out.cell (i := a) (by omega)
        have f3 := HU.out.frozen j2
        have f4 := HU.out.frozen a
        have z1 : (j2 : Int) < (d.size : Int) := by omega
        have z2 : (a : Int) < (d.size : Int) := by omega
        obtain ⟨u2, f5⟩ := HU.out.cell_after (i := j2) (j := a) (by omega) (by omega)
        have SW : Hid _ := HU.out.swap j2 a
        clear HU
        generalize ((d1[j2]!).toNat : Int) = x at c3 SW
        generalize ((d1[a]!).toNat : Int) = y at c4 SW f5
        go_wp2_with fail
        go_region
        go_wp2
        go_ret2
        rw [HE3.out]
        exact ⟨rfl, UR.drew SW.out⟩
      · have gd : decide (j2 < i2) = false := decide_eq_false hgt
        have HE3 : Hid _ := HE.out.trans (if_neg hgt)
        clear HE
        have hne : i2 ≠ j2 := by
          intro e
          have q1 := HX2.out (by omega)
          rw [e, HY2.out (by omega)] at q1
          exact Bool.noConfusion q1
        clear HX2 HY2
        obtain ⟨j3, hj3⟩ : ∃ j3, j2 = j3 + 1 := ⟨j2 - 1, by omega⟩
        have hj6 : i2 ≤ j3 := by omega
        have z3 : (j2 : Int) - 1 = (j3 : Int) := by omega
        have hj4 : Hid (j2 = j3 + 1) := hj3
        have hj5 : j3 < j2 := by omega
        clear hj3
        have c3 := HU.out.cell (i := i2) (by omega)
        have c4 := HU.out.cell (i := j2) (by omega)
        have f3 := HU.out.frozen i2
        have f4 := HU.out.frozen j2
        have z1 : (j2 : Int) < (d.size : Int) := by omega
        have z2 : (i2 : Int) < (d.size : Int) := by omega
        obtain ⟨u2, f5⟩ := HU.out.cell_after (i := i2) (j := j2) (by omega) (by omega)
        have SW : Hid _ := HU.out.swap i2 j2
        clear HU
        generalize ((d1[i2]!).toNat : Int) = x at c3 SW
        generalize ((d1[j2]!).toNat : Int) = y at c4 SW f5
        go_wp2_with fail
        go_region
        have HS2 : Hid _ := UR.drew SW.out
        clear c3 c4 f3 f4 f5 SW
        have HF : Hid (PP = ((partLoop ltU a (i2 + 1) j3 (swp d1 i2 j2)).1, false, swp (partLoop ltU a (i2 + 1) j3 (swp d1 i2 j2)).2 (partLoop ltU a (i2 + 1) j3 (swp d1 i2 j2)).1 a)) := by
          rw [HE3.out]; have e := hj4.out; subst e; rfl
        have hs2 : (swp d1 i2 j2).size = d.size := (swp_size _ _ _).trans hs1
        clear HE3
        generalize swp d1 i2 j2 = d2 at HF hs2 HS2
        generalize ((wc.setCell ⟨g, i2, none⟩ (.int .u64 y)).setCell ⟨g, j2, none⟩ (.int .u64 x)).drew = wz2 at HS2 ⊢
        have hI0 : a < i2 + 1 := by omega
        have hI1 : i2 + 1 ≤ j3 + 1 := by omega
        have hI2 : j3 ≤ J := by omega
        generalize hPL : partLoop ltU a (i2 + 1) j3 d2 = PL at HF
        have HPL := Lib.hid hPL
        clear hs1 h2 hne hgt gd g2 hPL
        go_wp2_with fail
        go_loopg [10, 11] (j3 + 1) (fun gh v10 v11 wr => ∃ (i j : Nat) (dk : Array Bv), v10 = .int .i64 i ∧ v11 = .int .i64 j ∧ a < i ∧ i ≤ j + 1 ∧ j ≤ J ∧ j + 1 - i ≤ gh ∧ dk.size = d.size ∧ Hid (partLoop ltU a i j dk = PL) ∧ Hid (UR base g cap w0 dk wr))
        case atStart => exact ⟨i2 + 1, j3, d2, by go_num, by go_num, by omega, by omega, by omega, by omega, hs2, HPL.out, HS2.out⟩
        case round =>
          clear HS2 hs2 HPL
          obtain ⟨i, j, dk, rfl, rfl, hai, hij, hjJ, hgh, hsz, HQ, HS2⟩ := hrel
          go_upto_block 6 with fail
          go_cut [10] from 99 to 152 (fun s10 wx => ∃ i2 : Nat, s10 = .int .i64 i2 ∧ i ≤ i2 ∧ i2 ≤ j + 1 ∧ Hid (scanUp (fun x => ltU x dk[a]!) dk j i = i2) ∧ Hid (i2 ≤ j → ltU dk[i2]! dk[a]! = false) ∧ Hid (UR base g cap w0 dk wx))
          case first =>
            go_wp2_with fail
            go_loopg [10] (j + 1) (fun gh v10 wr => ∃ i2 : Nat, v10 = .int .i64 i2 ∧ i ≤ i2 ∧ i2 ≤ j + 1 ∧ j + 1 - i2 ≤ gh ∧ Hid (scanUp (fun x => ltU x dk[a]!) dk j i = scanUp (fun x => ltU x dk[a]!) dk j i2) ∧ Hid (UR base g cap w0 dk wr))
            case atStart => exact ⟨i, by go_num, Nat.le_refl _, by omega, by omega, rfl, HS2.out⟩
            case round =>
              clear HS2
              obtain ⟨i2, rfl, h1, h2, h3, HX, HU⟩ := hrel
              by_cases hle : i2 ≤ j
              · have gd : decide (i2 ≤ j) = true := decide_eq_true hle
                have c1 := HU.out.cell (i := i2) (by omega)
                have c2 := HU.out.cell (i := a) (by omega)
                have z1 : (i2 : Int) < (d.size : Int) := by omega
                have z2 : (a : Int) < (d.size : Int) := by omega
                cases hl : ltU dk[i2]! dk[a]!
                · go_wp2_with fail
                  go_quiet (first | (go_at_call 60; exact Calls.quiet_of_same (less_any _ _ _)))
                  rw [hl]
                  go_wp2_with fail
                  go_meet
                  case rel => exact ⟨i2, rfl, h1, h2, HX.out.trans (su_end (.inr hl)), fun _ => hl, HU.out.drewN _⟩
                · go_wp2_with fail
                  go_quiet (first | (go_at_call 60; exact Calls.quiet_of_same (less_any _ _ _)))
                  rw [hl]
                  go_wp2
                  go_roundg (j - i2)
                  case measure => omega
                  case rel => exact ⟨i2 + 1, by go_num, by omega, by omega, by omega, HX.out.trans (su_go hle hl), HU.out.drewN _⟩
              · have gd : decide (i2 ≤ j) = false := decide_eq_false hle
                go_wp2_with fail
                go_quiet (fail)
                go_wp2_with fail
                go_meet
                case rel => exact ⟨i2, rfl, h1, h2, HX.out.trans (su_end (.inl hle)), fun h => absurd h hle, HU.out.drewN _⟩
          case rest =>
            clear HS2
            obtain ⟨i2, rfl, h1, h2, HX, HX2, HU⟩ := hcut
            go_upto_block 8 with fail
            go_cut [11] from 115 to 152 (fun s11 wx => ∃ j2 : Nat, s11 = .int .i64 j2 ∧ j2 ≤ j ∧ i2 ≤ j2 + 1 ∧ Hid (scanDown (fun x => !ltU x dk[a]!) dk i2 j = j2) ∧ Hid (i2 ≤ j2 → ltU dk[j2]! dk[a]! = true) ∧ Hid (UR base g cap w0 dk wx))
            case first =>
              go_wp2_with fail
              go_loopg [11] (j + 1) (fun gh v11 wr => ∃ j2 : Nat, v11 = .int .i64 j2 ∧ j2 ≤ j ∧ i2 ≤ j2 + 1 ∧ j2 + 1 - i2 ≤ gh ∧ Hid (scanDown (fun x => !ltU x dk[a]!) dk i2 j = scanDown (fun x => !ltU x dk[a]!) dk i2 j2) ∧ Hid (UR base g cap w0 dk wr))
              case atStart => exact ⟨j, rfl, Nat.le_refl _, h2, by omega, rfl, HU⟩
              case round =>
                clear HU
                obtain ⟨j2, rfl, g1, g2, g3, HY, HU⟩ := hrel
                by_cases hle : i2 ≤ j2
                · have gd : decide (i2 ≤ j2) = true := decide_eq_true hle
                  have c1 := HU.out.cell (i := j2) (by omega)
                  have c2 := HU.out.cell (i := a) (by omega)
                  have z1 : (j2 : Int) < (d.size : Int) := by omega
                  have z2 : (a : Int) < (d.size : Int) := by omega
                  obtain ⟨j3, hj3⟩ : ∃ j3, j2 = j3 + 1 := ⟨j2 - 1, by omega⟩
                  have z3 : (j2 : Int) - 1 = (j3 : Int) := by omega
                  have hj4 : Hid (j2 = j3 + 1) := hj3
                  have hj5 : j3 < j2 := by omega
                  clear hj3
                  cases hl : ltU dk[j2]! dk[a]!
                  · go_wp2_with fail
                    go_quiet (first | (go_at_call 60; exact Calls.quiet_of_same (less_any _ _ _)))
                    rw [hl]
                    go_wp2
                    go_roundg (j2 - i2)
                    case measure => omega
                    case rel => exact ⟨j3, by go_num, by omega, by have := hj4.out; omega, by have := hj4.out; omega, HY.out.trans (by have e := hj4.out; subst e; exact sn_go hle (by rw [hl]; rfl)), HU.out.drewN _⟩
                  · go_wp2_with fail
                    go_quiet (first | (go_at_call 60; exact Calls.quiet_of_same (less_any _ _ _)))
                    rw [hl]
                    go_wp2_with fail
                    go_meet
                    case rel => exact ⟨j2, rfl, g1, g2, HY.out.trans (sn_end (.inr (by rw [hl]; rfl))), fun _ => hl, HU.out.drewN _⟩
                · have gd : decide (i2 ≤ j2) = false := decide_eq_false hle
                  go_wp2_with fail
                  go_quiet (fail)
                  go_wp2_with fail
                  go_meet
                  case rel => exact ⟨j2, rfl, g1, g2, HY.out.trans (sn_end (.inl hle)), fun h => absurd h hle, HU.out.drewN _⟩
            case rest =>
              clear HU
              obtain ⟨j2, rfl, g1, g2, HY, HY2, HU⟩ := hcut
              have HE2 : Hid (PL = if i2 > j2 then (j2, dk) else partLoop ltU a (i2 + 1) (j2 - 1) (swp dk i2 j2)) := by
                refine (HQ.out.symm.trans (Go.Sort.partLoop_eq ltU a i j dk)).trans ?_
                rw [HX.out, HY.out]
              clear HQ HX HY
              by_cases hgt : j2 < i2
              · have gd : decide (j2 < i2) = true := decide_eq_true hgt
                have HE3 : Hid _ := HE2.out.trans (if_pos hgt)
                clear HE2 HX2 HY2
                have c3 := HU.out.cell (i := j2) (by omega)
                have c4 := HU.out.cell (i := a) (by omega)
                have f3 := HU.out.frozen j2
                have f4 := HU.out.frozen a
                have z1 : (j2 : Int) < (d.size : Int) := by omega
                have z2 : (a : Int) < (d.size : Int) := by omega
                obtain ⟨u2, f5⟩ := HU.out.cell_after (i := j2) (j := a) (by omega) (by omega)
                have SW : Hid _ := HU.out.swap j2 a
                clear HU
                generalize ((dk[j2]!).toNat : Int) = x at c3 SW
                generalize ((dk[a]!).toNat : Int) = y at c4 SW f5
                go_wp2_with fail
                go_region
                go_wp2
                go_ret2
                rw [HF.out, HE3.out]
                exact ⟨rfl, UR.drew SW.out⟩
              · have gd : decide (j2 < i2) = false := decide_eq_false hgt
                have HE3 : Hid _ := HE2.out.trans (if_neg hgt)
                clear HE2
                have hne : i2 ≠ j2 := by
                  intro e
                  have q1 := HX2.out (by omega)
                  rw [e, HY2.out (by omega)] at q1
                  exact Bool.noConfusion q1
                clear HX2 HY2
                obtain ⟨j3, hj3⟩ : ∃ j3, j2 = j3 + 1 := ⟨j2 - 1, by omega⟩
                have hj6 : i2 ≤ j3 := by omega
                have z3 : (j2 : Int) - 1 = (j3 : Int) := by omega
                have hj4 : Hid (j2 = j3 + 1) := hj3
                have hj5 : j3 < j2 := by omega
                have hm : j3 + 1 - (i2 + 1) < j + 1 - i := by omega
                clear hj3
                have c3 := HU.out.cell (i := i2) (by omega)
                have c4 := HU.out.cell (i := j2) (by omega)
                have f3 := HU.out.frozen i2
                have f4 := HU.out.frozen j2
                have z1 : (j2 : Int) < (d.size : Int) := by omega
                have z2 : (i2 : Int) < (d.size : Int) := by omega
                obtain ⟨u2, f5⟩ := HU.out.cell_after (i := i2) (j := j2) (by omega) (by omega)
                have SW : Hid _ := HU.out.swap i2 j2
                clear HU
                generalize ((dk[i2]!).toNat : Int) = x at c3 SW
                generalize ((dk[j2]!).toNat : Int) = y at c4 SW f5
                go_wp2_with fail
                go_region
                go_wp2
                go_roundg (j3 + 1 - (i2 + 1))
                case measure => omega
                case rel => exact ⟨i2 + 1, j3, swp dk i2 j2, by go_num, by go_num, by omega, by omega, by omega, by omega, by rw [swp_size]; exact hsz, by rw [HE3.out]; have e := hj4.out; subst e; rfl, UR.drew SW.out⟩
end Go.Proofs.Ytejceacoopgjkaa
