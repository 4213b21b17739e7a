/-
  slices.partialInsertionSortOrdered at uint64: it does what the library's own plain function says. No condition.
-/
import Derived.Test.YtejceacoopgjkaaUPartB
namespace Go.Proofs.Ytejceacoopgjkaa
open Go.ChangeShapes Go.WideShapes Go.ChangeAt Go.RowKit
open Go.Sort (swp PermIn SortedIn SWO scanSorted shiftDown shiftUp partialIns partialInsertionSort)

theorem ss_go {d : Array Bv} {b i m : Nat} (hm : i = m + 1) (h : i < b) (hl : ltU d[i]! d[m]! = false) : scanSorted ltU d b i = scanSorted ltU d b (i + 1) := by
  subst hm
  rw [scanSorted, if_pos (by rw [Nat.add_sub_cancel, hl, decide_eq_true h]; rfl)]
theorem ss_end {d : Array Bv} {b i m : Nat} (hm : i = m + 1) (h : ¬ i < b ∨ ltU d[i]! d[m]! = true) : scanSorted ltU d b i = i := by
  subst hm
  rw [scanSorted, if_neg (by rcases h with h | h; rw [decide_eq_false h]; simp; rw [Nat.add_sub_cancel, h]; simp)]
theorem sdn_go {d : Array Bv} {j m : Nat} (hm : j = m + 1) (hl : ltU d[j]! d[m]! = true) : shiftDown ltU j d = shiftDown ltU m (swp d j m) := by
  subst hm
  show (if _ then _ else _) = _
  rw [if_neg (by rw [hl]; simp)]
theorem sdn_stop {d : Array Bv} {j : Nat} (h : j = 0 ∨ ∃ m, j = m + 1 ∧ ltU d[j]! d[m]! = false) : shiftDown ltU j d = d := by
  rcases h with rfl | ⟨m, rfl, hl⟩
  · rfl
  · show (if _ then _ else _) = _
    rw [if_pos (by rw [hl]; rfl)]
theorem sup_go {d : Array Bv} {b j m : Nat} (hm : j = m + 1) (h : j < b) (hl : ltU d[j]! d[m]! = true) : shiftUp ltU b j d = shiftUp ltU b (j + 1) (swp d j m) := by
  subst hm
  rw [shiftUp, if_pos h, if_neg (by rw [Nat.add_sub_cancel, hl]; simp), Nat.add_sub_cancel]
theorem sup_stop {d : Array Bv} {b j m : Nat} (hm : j = m + 1) (h : ¬ j < b ∨ ltU d[j]! d[m]! = false) : shiftUp ltU b j d = d := by
  subst hm
  rcases h with h | h
  · rw [shiftUp, if_neg h]
  · rw [shiftUp]; split
    · rw [if_pos (by rw [Nat.add_sub_cancel, h]; rfl)]
    · rfl
theorem sdn_size : ∀ (j : Nat) (d : Array Bv), (shiftDown ltU j d).size = d.size
  | 0, _ => rfl
  | j + 1, d => by
    show (if _ then _ else _ : Array Bv).size = _
    split
    · rfl
    · rw [sdn_size j, swp_size]
def piDown (a i m : Nat) (d : Array Bv) : Array Bv := if i - a ≥ 2 then shiftDown ltU m d else d
theorem pi_step {s a b i i2 m : Nat} {d : Array Bv} (hs : scanSorted ltU d b i = i2) (hm : i2 = m + 1) :
    partialIns ltU a b (s + 1) i d = if i2 = b then (d, true) else if b - a < 50 then (d, false) else partialIns ltU a b s i2 (if b - i2 ≥ 2 then shiftUp ltU b (i2 + 1) (piDown a i2 m (swp d i2 m)) else piDown a i2 m (swp d i2 m)) := by
  subst hm
  rw [partialIns]
  simp only [hs, Nat.add_sub_cancel, piDown]

set_option maxRecDepth 100000 in
set_option maxHeartbeats 8000000 in
theorem partialIns_any (base g cap a b : Nat) (w0 : World) (d : Array Bv) (w : World) (h : UR base g cap w0 d w) (hab : a < b) (hb : b ≤ d.size) (hn : d.size ≤ 1000000000000000) :
    Calls Try.prog 59 #[.slice (some ⟨g, 0, none⟩) d.size cap, .int .i64 a, .int .i64 b] w fun e w' => e = .returned (.bool (partialInsertionSort ltU d a b).2) ∧ UR base g cap w0 (partialInsertionSort ltU d a b).1 w' := by
  have H := Lib.hid h; clear h
  have HD : Hid (partialIns ltU a b 5 (a + 1) d = partialInsertionSort ltU d a b) := rfl
  generalize partialInsertionSort ltU d a b = PI at HD ⊢
  obtain ⟨L, hL⟩ : ∃ L, b = a + L := ⟨b - a, by omega⟩
  have eL : (b : Int) - (a : Int) = (L : Int) := by omega
  have HL := Lib.hid hL
  clear hL
  go_enter Try.func59, Try.ntmps59
  go_wp2_with fail
  go_loopg [7, 8] 6 (fun gh v7 v8 wr => ∃ (i k : Nat) (dk : Array Bv), v7 = .int .i64 i ∧ v8 = .int .i64 k ∧ a < i ∧ i ≤ b ∧ k ≤ 5 ∧ 6 ≤ gh + k ∧ dk.size = d.size ∧ Hid (partialIns ltU a b (5 - k) i dk = PI) ∧ Hid (UR base g cap w0 dk wr))
  case atStart => exact ⟨a + 1, 0, d, by go_num, rfl, by omega, by omega, by omega, by omega, rfl, HD.out, H.out⟩
  case round =>
    clear HD H
    obtain ⟨i, k, dk, rfl, rfl, hai, hib, hk5, hgh, hsz, HE, HU⟩ := hrel
    by_cases hk : k < 5
    · obtain ⟨s, hs⟩ : ∃ s, 5 - k = s + 1 := ⟨4 - k, by omega⟩
      have hs' : 5 - (k + 1) = s := by omega
      rw [hs] at HE
      have hk1 : (k : Int) < 5 := by omega
      have HS := Lib.hid hs'
      clear hs hs'
      go_upto_block 2 with fail
      go_cut [7] from 17 to 132 (fun s7 wx => ∃ i2 : Nat, s7 = .int .i64 i2 ∧ i ≤ i2 ∧ i2 ≤ b ∧ Hid (scanSorted ltU dk b i = i2) ∧ Hid (UR base g cap w0 dk wx))
      case first =>
        go_wp2_with fail
        go_loopg [7] (b + 1) (fun gh v7 wr => ∃ i2 : Nat, v7 = .int .i64 i2 ∧ i ≤ i2 ∧ i2 ≤ b ∧ b + 1 - i2 ≤ gh ∧ Hid (scanSorted ltU dk b i = scanSorted ltU dk b i2) ∧ Hid (UR base g cap w0 dk wr))
        case atStart => exact ⟨i, rfl, Nat.le_refl _, hib, by omega, rfl, HU⟩
        case round =>
          clear HU
          obtain ⟨i2, rfl, h1, h2, h3, HX, HU⟩ := hrel
          obtain ⟨m, hm⟩ : ∃ m, i2 = m + 1 := ⟨i2 - 1, by omega⟩
          have z3 : (i2 : Int) - 1 = (m : Int) := by omega
          have HM := Lib.hid hm
          have hm2 : m < i2 := by omega
          clear hm
          by_cases hle : i2 < b
          · have gd : decide (i2 < b) = true := decide_eq_true hle
            have c1 := HU.out.cell (i := i2) (by omega)
            have c2 := HU.out.cell (i := m) (by omega)
            have z1 : (i2 : Int) < (d.size : Int) := by omega
            have z2 : (m : Int) < (d.size : Int) := by omega
            cases hl : ltU dk[i2]! dk[m]!
            · go_wp2_with fail
              go_quiet (first | (go_at_call 60; exact Calls.quiet_of_same (less_any _ _ _)))
              rw [hl]
              go_wp2
              go_roundg (b - i2)
              case measure => omega
              case rel => exact ⟨i2 + 1, by go_num, by omega, by omega, by omega, HX.out.trans (ss_go HM.out hle hl), HU.out.drewN _⟩
            · go_wp2_with fail
              go_quiet (first | (go_at_call 60; exact Calls.quiet_of_same (less_any _ _ _)))
              rw [hl]
              go_wp2_with fail
              go_meet
              case rel => exact ⟨i2, rfl, h1, h2, HX.out.trans (ss_end HM.out (.inr hl)), HU.out.drewN _⟩
          · have gd : decide (i2 < b) = false := decide_eq_false hle
            go_wp2_with fail
            go_quiet (fail)
            go_wp2_with fail
            go_meet
            case rel => exact ⟨i2, rfl, h1, h2, HX.out.trans (ss_end HM.out (.inl hle)), HU.out.drewN _⟩
      case rest =>
        clear HU
        obtain ⟨i2, rfl, h1, h2, HX, HU⟩ := hcut
        obtain ⟨m, hm⟩ : ∃ m, i2 = m + 1 := ⟨i2 - 1, by omega⟩
        have z3 : (i2 : Int) - 1 = (m : Int) := by omega
        have HE2 : Hid _ := HE.out.symm.trans (pi_step HX.out hm)
        have HM := Lib.hid hm
        have hm2 : m < i2 := by omega
        have hma : a ≤ m := by omega
        clear hm HE HX
        by_cases heb : i2 = b
        · have HE3 : Hid _ := HE2.out.trans (if_pos heb)
          clear HE2
          subst heb
          go_wp2
          go_ret
          rw [HE3.out]
          exact ⟨rfl, HU.out⟩
        · have HE3 : Hid _ := HE2.out.trans (if_neg heb)
          clear HE2
          by_cases h50 : L < 50
          · have HE4 : Hid _ := HE3.out.trans (if_pos (by have := HL.out; omega))
            clear HE3
            have h51 : (L : Int) < 50 := by omega
            go_wp2
            go_ret
            rw [HE4.out]
            exact ⟨rfl, HU.out⟩
          · have HE4 : Hid _ := HE3.out.trans (if_neg (by have := HL.out; omega))
            clear HE3
            have h51 : ¬ (L : Int) < 50 := by omega
            have c3 := HU.out.cell (i := i2) (by omega)
            have c4 := HU.out.cell (i := m) (by omega)
            have f3 := HU.out.frozen i2
            have f4 := HU.out.frozen m
            have z1 : (m : Int) < (d.size : Int) := by omega
            have z2 : (i2 : Int) < (d.size : Int) := by omega
            obtain ⟨u2, f5⟩ := HU.out.cell_after (i := i2) (j := m) (by omega) (by omega)
            have SW : Hid _ := HU.out.swap i2 m
            clear HU
            generalize ((dk[i2]!).toNat : Int) = x at c3 SW
            generalize ((dk[m]!).toNat : Int) = y at c4 SW f5
            go_wp2_with fail
            go_region
            have HS2 : Hid _ := UR.drew SW.out
            clear c3 c4 f3 f4 f5 SW
            have hsz4 : (swp dk i2 m).size = d.size := (swp_size _ _ _).trans hsz
            generalize swp dk i2 m = d4 at HS2 HE4 hsz4
            generalize ((wc.setCell ⟨g, i2, none⟩ (.int .u64 y)).setCell ⟨g, m, none⟩ (.int .u64 x)).drew = wz at HS2 ⊢
            obtain ⟨M, hM⟩ : ∃ M, i2 = a + M := ⟨i2 - a, by omega⟩
            have eM : (i2 : Int) - (a : Int) = (M : Int) := by omega
            obtain ⟨R, hR⟩ : ∃ R, b = i2 + R := ⟨b - i2, by omega⟩
            have eR : (b : Int) - (i2 : Int) = (R : Int) := by omega
            have HE5 : Hid (PI = partialIns ltU a b s i2 (if R ≥ 2 then shiftUp ltU b (i2 + 1) (piDown a i2 m d4) else piDown a i2 m d4)) := by
              refine HE4.out.trans ?_
              rw [show (b - i2) = R by omega]
            have hM2 : i2 - a = M := by omega
            have hMd : 2 ≤ M → piDown a i2 m d4 = shiftDown ltU m d4 := fun h => by rw [piDown, hM2, if_pos h]
            have hMn : ¬ 2 ≤ M → piDown a i2 m d4 = d4 := fun h => by rw [piDown, hM2, if_neg h]
            have HMd := Lib.hid hMd
            have HMn := Lib.hid hMn
            have HM3 := Lib.hid hM
            have HR := Lib.hid hR
            have hR3 : R ≤ b := by omega
            have hsz5 : (piDown a i2 m d4).size = d.size := by unfold piDown; split; rw [sdn_size, hsz4]; exact hsz4
            clear hM hR hMd hMn hM2 HE4
            generalize piDown a i2 m d4 = d5 at HE5 HMd HMn hsz5
            go_upto_if 61 with fail
            go_cut [9] from 58 to 94 (fun s9 wx => Hid (s9 = s9) ∧ Hid (UR base g cap w0 d5 wx))
            case first =>
              by_cases h2M : 2 ≤ M
              · have h2M' : (2 : Int) ≤ (M : Int) := by omega
                have HK := Lib.hid (HMd.out h2M)
                clear HMd HMn
                go_wp2_with fail
                go_loopg [9] (m + 1) (fun gh v9 wr => ∃ (j : Nat) (dj : Array Bv), v9 = .int .i64 j ∧ j ≤ m ∧ j + 1 ≤ gh ∧ dj.size = d.size ∧ Hid (shiftDown ltU j dj = d5) ∧ Hid (UR base g cap w0 dj wr))
                case atStart => exact ⟨m, d4, by go_num, Nat.le_refl _, by omega, hsz4, HK.out.symm, HS2.out⟩
                case round =>
                  clear HS2 HK
                  obtain ⟨j, dj, rfl, hjm, hjg, hszj, HJ, HU⟩ := hrel
                  by_cases hj1 : 1 ≤ j
                  · have hj1' : (1 : Int) ≤ (j : Int) := by omega
                    obtain ⟨q, hq⟩ : ∃ q, j = q + 1 := ⟨j - 1, by omega⟩
                    have z4 : (j : Int) - 1 = (q : Int) := by omega
                    have HQ := Lib.hid hq
                    have hq2 : q < j := by omega
                    clear hq
                    have c1 := HU.out.cell (i := j) (by omega)
                    have c2 := HU.out.cell (i := q) (by omega)
                    have y1 : (j : Int) < (d.size : Int) := by omega
                    have y2 : (q : Int) < (d.size : Int) := by omega
                    cases hl : ltU dj[j]! dj[q]!
                    · go_wp2_with fail
                      go_quiet (first | (go_at_call 60; exact Calls.quiet_of_same (less_any _ _ _)))
                      rw [hl]
                      go_wp2_with fail
                      go_meet
                      case rel => exact ⟨True.intro, by rw [← HJ.out, sdn_stop (.inr ⟨q, HQ.out, hl⟩)]; exact HU.out.drewN _⟩
                    · go_wp2_with fail
                      go_quiet (first | (go_at_call 60; exact Calls.quiet_of_same (less_any _ _ _)))
                      rw [hl]
                      have HU2 : Hid (UR base g cap w0 dj (wr.drewN nq)) := HU.out.drewN nq
                      clear c1 c2 HU
                      have HU := HU2; clear HU2
                      generalize wr.drewN nq = wq2 at HU ⊢
                      have c3 := HU.out.cell (i := j) (by omega)
                      have c4 := HU.out.cell (i := q) (by omega)
                      have f3 := HU.out.frozen j
                      have f4 := HU.out.frozen q
                      obtain ⟨u2, f5⟩ := HU.out.cell_after (i := j) (j := q) (by omega) (by omega)
                      have SW : Hid _ := HU.out.swap j q
                      clear HU
                      generalize ((dj[j]!).toNat : Int) = x at c3 SW
                      generalize ((dj[q]!).toNat : Int) = y at c4 SW f5
                      go_wp2_with fail
                      go_region
                      go_wp2
                      go_roundg j
                      case measure => omega
                      case rel => exact ⟨q, swp dj j q, by go_num, by omega, by omega, (swp_size _ _ _).trans hszj, by rw [← HJ.out]; exact (sdn_go HQ.out hl).symm, UR.drew SW.out⟩
                  · have hj0 : j = 0 := by omega
                    have HX := Lib.hid (HJ.out.symm.trans (sdn_stop (.inl hj0)))
                    subst hj0
                    go_wp2_with fail
                    go_meet
                    case rel => exact ⟨True.intro, by rw [HX.out]; exact HU.out⟩
              · have h2M' : ¬ (2 : Int) ≤ (M : Int) := by omega
                have HK := Lib.hid (HMn.out h2M)
                clear HMd HMn
                go_wp2_with fail
                go_meet
                case rel => exact ⟨True.intro, by rw [HK.out]; exact HS2.out⟩
            case rest =>
              obtain ⟨-, HU⟩ := hcut
              clear HMd HMn HS2 hsz4
              by_cases h2R : 2 ≤ R
              · have h2R' : (2 : Int) ≤ (R : Int) := by omega
                have HE6 : Hid _ := HE5.out.trans (by rw [if_pos h2R])
                clear HE5
                go_wp2_with fail
                go_loopg [10] (b + 1) (fun gh v10 wr => ∃ (j : Nat) (dj : Array Bv), v10 = .int .i64 j ∧ i2 < j ∧ j ≤ b ∧ b + 1 - j ≤ gh ∧ dj.size = d.size ∧ Hid (shiftUp ltU b j dj = shiftUp ltU b (i2 + 1) d5) ∧ Hid (UR base g cap w0 dj wr))
                case atStart => exact ⟨i2 + 1, d5, by go_num, by omega, by omega, by omega, hsz5, rfl, HU.out⟩
                case round =>
                  clear HU
                  obtain ⟨j, dj, rfl, hij, hjb, hjg, hszj, HJ, HU⟩ := hrel
                  obtain ⟨q, hq⟩ : ∃ q, j = q + 1 := ⟨j - 1, by omega⟩
                  have z4 : (j : Int) - 1 = (q : Int) := by omega
                  have HQ := Lib.hid hq
                  have hq2 : q < j := by omega
                  clear hq
                  by_cases hlt : j < b
                  · have gd : decide (j < b) = true := decide_eq_true hlt
                    have c1 := HU.out.cell (i := j) (by omega)
                    have c2 := HU.out.cell (i := q) (by omega)
                    have y1 : (j : Int) < (d.size : Int) := by omega
                    have y2 : (q : Int) < (d.size : Int) := by omega
                    cases hl : ltU dj[j]! dj[q]!
                    · have HX : Hid _ := HE6.out.trans (by rw [← HJ.out, sup_stop HQ.out (.inr hl)])
                      go_wp2_with fail
                      go_quiet (first | (go_at_call 60; exact Calls.quiet_of_same (less_any _ _ _)))
                      rw [hl]
                      go_wp2
                      go_roundg (5 - k)
                      case measure => omega
                      case rel => exact ⟨i2, k + 1, dj, by go_num, by go_num, by omega, by omega, by omega, by omega, hszj, by rw [HS.out]; exact HX.out.symm, HU.out.drewN _⟩
                    · go_wp2_with fail
                      go_quiet (first | (go_at_call 60; exact Calls.quiet_of_same (less_any _ _ _)))
                      rw [hl]
                      have HU2 : Hid (UR base g cap w0 dj (wr.drewN nq)) := HU.out.drewN nq
                      clear c1 c2 HU
                      have HU := HU2; clear HU2
                      generalize wr.drewN nq = wq2 at HU ⊢
                      have c3 := HU.out.cell (i := j) (by omega)
                      have c4 := HU.out.cell (i := q) (by omega)
                      have f3 := HU.out.frozen j
                      have f4 := HU.out.frozen q
                      obtain ⟨u2, f5⟩ := HU.out.cell_after (i := j) (j := q) (by omega) (by omega)
                      have SW : Hid _ := HU.out.swap j q
                      clear HU
                      generalize ((dj[j]!).toNat : Int) = x at c3 SW
                      generalize ((dj[q]!).toNat : Int) = y at c4 SW f5
                      go_wp2_with fail
                      go_region
                      go_wp2
                      go_roundg (b - j)
                      case measure => omega
                      case rel => exact ⟨j + 1, swp dj j q, by go_num, by omega, by omega, by omega, (swp_size _ _ _).trans hszj, by rw [← HJ.out]; exact (sup_go HQ.out hlt hl).symm, UR.drew SW.out⟩
                  · have gd : decide (j < b) = false := decide_eq_false hlt
                    have HX : Hid _ := HE6.out.trans (by rw [← HJ.out, sup_stop HQ.out (.inl hlt)])
                    go_wp2
                    go_roundg (5 - k)
                    case measure => omega
                    case rel => exact ⟨i2, k + 1, dj, by go_num, by go_num, by omega, by omega, by omega, by omega, hszj, by rw [HS.out]; exact HX.out.symm, HU.out⟩
              · have h2R' : ¬ (2 : Int) ≤ (R : Int) := by omega
                have HE6 : Hid _ := HE5.out.trans (by rw [if_neg h2R])
                clear HE5
                go_wp2
                go_roundg (5 - k)
                case measure => omega
                case rel => exact ⟨i2, k + 1, d5, by go_num, by go_num, by omega, by omega, by omega, by omega, hsz5, by rw [HS.out]; exact HE6.out.symm, HU.out⟩
    · have hk6 : k = 5 := by omega
      subst hk6
      go_wp2
      go_ret
      rw [← HE.out]
      exact ⟨rfl, HU.out⟩
end Go.Proofs.Ytejceacoopgjkaa
