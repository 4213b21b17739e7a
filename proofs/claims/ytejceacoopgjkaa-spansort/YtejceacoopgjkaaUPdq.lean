/-
  slices.pdqsortOrdered and slices.Sort at uint64: they leave a sorted permutation. No condition but the length's.
-/
import Derived.Test.YtejceacoopgjkaaUBrk
namespace Go.Proofs.Ytejceacoopgjkaa
set_option linter.unusedVariables false
open Go.ChangeShapes Go.WideShapes Go.ChangeAt Go.RowKit
open Go.Sort (swp PermIn SortedIn SWO)

/-- what pdqsort is to do on [a, b) -/
def PdqAt (base g cap : Nat) (w0 : World) (a b l : Nat) (d : Array Bv) (w : World) : Prop :=
  Calls Try.prog 51 #[.slice (some ⟨g, 0, none⟩) d.size cap, .int .i64 a, .int .i64 b, .int .i64 l] w fun e w' => e = .returned (.tuple #[]) ∧ ∃ d', PermIn a b d d' ∧ SortedIn ltU a b d' ∧ UR base g cap w0 d' w'

def Rest (a b : Nat) (d : Array Bv) (ak bk : Nat) (dk : Array Bv) : Prop := ∀ R, PermIn ak bk dk R → SortedIn ltU ak bk R → PermIn a b d R ∧ SortedIn ltU a b R
theorem Rest.perm {a b ak bk : Nat} {d dk d1 : Array Bv} (h : Rest a b d ak bk dk) (hp : PermIn ak bk dk d1) : Rest a b d ak bk d1 := fun R h1 h2 => h R (Go.Sort.permIn_trans _ _ _ _ _ hp h1) h2

set_option maxRecDepth 100000 in
set_option maxHeartbeats 16000000 in
theorem pdq_round (base g cap : Nat) (w0 : World) (N a b l : Nat) (d : Array Bv) (w : World) (hN : b - a = N)
    (ih : ∀ (a' b' l' : Nat) (d' : Array Bv) (w' : World), b' - a' < N → UR base g cap w0 d' w' → a' ≤ b' → b' ≤ d'.size → d'.size ≤ 1000000000000000 → l' ≤ 64 → Go.Sort.Below ltU a' b' d' → PdqAt base g cap w0 a' b' l' d' w')
    (h : UR base g cap w0 d w) (hab : a ≤ b) (hb : b ≤ d.size) (hn : d.size ≤ 1000000000000000) (hl : l ≤ 64) (hB : Go.Sort.Below ltU a b d) : PdqAt base g cap w0 a b l d w := by
  have H := Lib.hid h; clear h
  have IH := Lib.hid ih; clear ih
  have HB := Lib.hid hB; clear hB
  unfold PdqAt
  go_enter Try.func51, Try.ntmps51
  go_wp2_with fail
  go_loopg [1, 2, 3, 8, 9] (N + 1) (fun gh v1 v2 v3 v8 v9 wr => ∃ (ak bk lk : Nat) (wb wp : Bool) (dk : Array Bv), v1 = .int .i64 ak ∧ v2 = .int .i64 bk ∧ v3 = .int .i64 lk ∧ v8 = .bool wb ∧ v9 = .bool wp ∧ ak ≤ bk ∧ bk ≤ d.size ∧ bk - ak ≤ N ∧ bk - ak < gh ∧ lk ≤ 64 ∧ dk.size = d.size ∧ Hid (Go.Sort.Below ltU ak bk dk) ∧ Hid (Rest a b d ak bk dk) ∧ Hid (UR base g cap w0 dk wr))
  case atStart => exact ⟨a, b, l, true, true, d, rfl, rfl, rfl, rfl, rfl, hab, hb, by omega, by omega, hl, rfl, HB.out, fun R h1 h2 => ⟨h1, h2⟩, H.out⟩
  case round =>
    clear H HB hab hb hl hN
    obtain ⟨ak, bk, lk, wb, wp, dk, rfl, rfl, rfl, rfl, rfl, hab, hb, hN, hgh, hl, hsz, HB, HR, HU⟩ := hrel
    obtain ⟨L, hL⟩ : ∃ L, bk = ak + L := ⟨bk - ak, by omega⟩
    have eL : (bk : Int) - (ak : Int) = (L : Int) := by omega
    have HL := Lib.hid hL
    have hLN : L ≤ N := by omega
    have hLb : L ≤ bk := by omega
    by_cases h12 : L ≤ 12
    · clear hL
      have h12' : (L : Int) ≤ 12 := by omega
      go_wp2_with fail
      rw [← hsz]
      refine (insertion_any base g cap ak bk w0 dk wr HU.out hab (by omega) (by omega)).mono ?_
      rintro e w' ⟨rfl, hu⟩
      have hi := Go.Sort.insertionSort_holds swoU dk ak bk hab (by omega)
      have HF := Lib.hid (HR.out _ hi.1 hi.2)
      clear hi
      have HX := Lib.hid hu
      clear hu
      generalize Go.Sort.insertionSort ltU dk ak bk = dE at HF HX
      go_wp2
      first | go_end0 | refine bodyPost_ret (results_none rfl _ _ _) rfl ?_
      exact ⟨rfl, dE, HF.out.1, HF.out.2, HX.out⟩
    · have h12' : ¬ (L : Int) ≤ 12 := by omega
      have h13 : ak + 12 < bk := by omega
      clear hL
      by_cases hl0 : lk = 0
      · subst hl0
        go_wp2_with fail
        rw [← hsz]
        refine (heap_any base g cap ak bk w0 dk wr HU.out hab (by omega) (by omega)).mono ?_
        rintro e w' ⟨rfl, hu⟩
        have hi := Go.Sort.heapSort_holds swoU dk ak bk hab (by omega)
        have HF := Lib.hid (HR.out _ hi.1 hi.2)
        clear hi
        have HX := Lib.hid hu
        clear hu
        generalize Go.Sort.heapSort ltU dk ak bk = dE at HF HX
        go_wp2
        first | go_end0 | refine bodyPost_ret (results_none rfl _ _ _) rfl ?_
        exact ⟨rfl, dE, HF.out.1, HF.out.2, HX.out⟩
      · have hl0' : ¬ (lk : Int) = 0 := by omega
        obtain ⟨l1, hl1⟩ : ∃ l1, lk = l1 + 1 := ⟨lk - 1, by omega⟩
        have el1 : (lk : Int) - 1 = (l1 : Int) := by omega
        have hl1' : l1 ≤ 64 := by omega
        clear hl1
        go_upto_if 35 with fail
        go_cut [3] from 28 to 41 (fun s3 wx => ∃ (l2 : Nat) (d1 : Array Bv), s3 = .int .i64 l2 ∧ l2 ≤ 64 ∧ Hid (PermIn ak bk dk d1) ∧ Hid (UR base g cap w0 d1 wx))
        case first =>
          cases wb
          · go_wp2_with fail
            rw [← hsz]
            refine (break_any base g cap ak bk w0 dk wr HU.out h13 (by omega) (by omega)).mono ?_
            rintro e w' ⟨rfl, d1, hp, hu⟩
            have HP := Lib.hid hp
            have HX := Lib.hid hu
            clear hp hu
            go_wp2_with fail
            go_meet
            case rel => exact ⟨l1, d1, by go_num, hl1', HP.out, HX.out⟩
          · go_wp2_with fail
            go_meet
            case rel => exact ⟨lk, dk, rfl, hl, Go.Sort.permIn_refl _ _ _, HU.out⟩
        case rest =>
          clear HU
          obtain ⟨l2, d1, rfl, hl2, HP, HU⟩ := hcut
          have HB1 := Lib.hid (HB.out.perm (by omega) HP.out)
          have HR1 := Lib.hid (HR.out.perm HP.out)
          have hsz1 : d1.size = d.size := HP.out.1.trans hsz
          clear HB HR HP el1 hl1' hl0 hl0' hl hsz
          go_wp2_with fail
          rw [← hsz1]
          refine (choose_any base g cap ak bk w0 d1 wc HU.out h13 (by omega) (by omega)).mono ?_
          rintro e w2 ⟨p, t, rfl, hp1, hp2, hu⟩
          clear HU
          have HU := Lib.hid hu
          clear hu
          obtain ⟨q, hq⟩ : ∃ q, p = ak + q := ⟨p - ak, by omega⟩
          obtain ⟨bm, hbm⟩ : ∃ bm, bk = bm + 1 := ⟨bk - 1, by omega⟩
          obtain ⟨p', hp'⟩ : ∃ p', bm = q + p' := ⟨bm - q, by omega⟩
          have eq1 : (p : Int) - (ak : Int) = (q : Int) := by omega
          have eq2 : (bk : Int) - 1 = (bm : Int) := by omega
          have eq3 : (bm : Int) - (q : Int) = (p' : Int) := by omega
          have hpa : ak ≤ p' := by omega
          have hpb : p' < bk := by omega
          have hqb : q < bk := by omega
          have hbb : bm < bk := by omega
          clear hq hbm hp'
          go_upto_if 50 with fail
          go_cut [11, 12] from 42 to 60 (fun s11 s12 wx => ∃ (p2 t2 : Nat) (d2 : Array Bv), s11 = .int .i64 p2 ∧ s12 = .int .i64 t2 ∧ ak ≤ p2 ∧ p2 < bk ∧ Hid (PermIn ak bk d1 d2) ∧ Hid (UR base g cap w0 d2 wx))
          case first =>
            by_cases ht2 : t = 2
            · subst ht2
              go_wp2_with fail
              rw [← hsz1]
              refine (reverse_any base g cap ak bk w0 d1 w2 HU.out hab (by omega) (by omega)).mono ?_
              rintro e w3 ⟨rfl, d2, hpm, hu⟩
              have HP := Lib.hid hpm
              have HX := Lib.hid hu
              clear hpm hu
              go_wp2_with fail
              go_meet
              case rel => exact ⟨p', 1, d2, by go_num, rfl, hpa, hpb, HP.out, HX.out⟩
            · have ht2' : ¬ (t : Int) = 2 := by omega
              go_wp2_with fail
              go_meet
              case rel => exact ⟨p, t, d1, rfl, rfl, hp1, hp2, Go.Sort.permIn_refl _ _ _, HU.out⟩
          case rest =>
            clear HU hp1 hp2 eq1 eq2 eq3 hpa hpb hqb hbb
            obtain ⟨p2, t2, d2, rfl, rfl, hp1, hp2, HP, HU⟩ := hcut
            have HB2 := Lib.hid (HB1.out.perm (by omega) HP.out)
            have HR2 := Lib.hid (HR1.out.perm HP.out)
            have hsz2 : d2.size = d.size := HP.out.1.trans hsz1
            clear HB1 HR1 HP hsz1
            go_upto_region 15 with fail
            go_cut [68] from 61 to 67 (fun s68 wx => ∃ c : Bool, s68 = .bool c ∧ Hid (UR base g cap w0 d2 wx))
            case first =>
              by_cases ht1 : t2 = 1
              · subst ht1
                cases wb
                · cases wp
                  · go_wp2_with fail
                    go_meet
                    case rel => exact ⟨_, rfl, HU.out⟩
                  · go_wp2_with fail
                    go_meet
                    case rel => exact ⟨_, rfl, HU.out⟩
                · cases wp
                  · go_wp2_with fail
                    go_meet
                    case rel => exact ⟨_, rfl, HU.out⟩
                  · go_wp2_with fail
                    go_meet
                    case rel => exact ⟨_, rfl, HU.out⟩
              · have ht1' : ¬ (t2 : Int) = 1 := by omega
                cases wb
                · cases wp
                  · go_wp2_with fail
                    go_meet
                    case rel => exact ⟨_, rfl, HU.out⟩
                  · go_wp2_with fail
                    go_meet
                    case rel => exact ⟨_, rfl, HU.out⟩
                · cases wp
                  · go_wp2_with fail
                    go_meet
                    case rel => exact ⟨_, rfl, HU.out⟩
                  · go_wp2_with fail
                    go_meet
                    case rel => exact ⟨_, rfl, HU.out⟩
            case rest =>
              clear HU
              obtain ⟨c, rfl, HU⟩ := hcut
              go_upto_if 68 with fail
              go_cut [11] from 61 to 72 (fun s11 wx => ∃ (d3 : Array Bv), s11 = .int .i64 p2 ∧ Hid (PermIn ak bk d2 d3) ∧ Hid (UR base g cap w0 d3 wx))
              case first =>
                cases c
                · go_wp2_with fail
                  go_meet
                  case rel => exact ⟨d2, rfl, Go.Sort.permIn_refl _ _ _, HU.out⟩
                · go_wp2_with fail
                  rw [← hsz2]
                  refine (partialIns_any base g cap ak bk w0 d2 _ HU.out (by omega) (by omega) (by omega)).mono ?_
                  rintro e w3 ⟨rfl, hu⟩
                  have hi := Go.Sort.partialInsertionSort_holds swoU d2 ak bk (by omega) (by omega) HB2.out
                  have HI := Lib.hid hi
                  have HX := Lib.hid hu
                  clear hi hu
                  generalize Go.Sort.partialInsertionSort ltU d2 ak bk = PI at HI HX ⊢
                  obtain ⟨dI, ok⟩ := PI
                  cases ok
                  · go_wp2_with fail
                    go_meet
                    case rel => exact ⟨dI, rfl, HI.out.1, HX.out⟩
                  · have HF := Lib.hid (HR2.out _ HI.out.1 (HI.out.2 rfl))
                    go_wp2
                    first | go_end0 | refine bodyPost_ret (results_none rfl _ _ _) rfl ?_
                    exact ⟨rfl, dI, HF.out.1, HF.out.2, HX.out⟩
              case rest =>
                clear HU
                obtain ⟨d3, rfl, HP, HU⟩ := hcut
                have HB3 := Lib.hid (HB2.out.perm (by omega) HP.out)
                have HR3 := Lib.hid (HR2.out.perm HP.out)
                have hsz3 : d3.size = d.size := HP.out.1.trans hsz2
                clear HB2 HR2 HP hsz2
                go_upto_region 17 with fail
                go_cut [87] from 73 to 86 (fun s87 wx => ∃ c : Bool, s87 = .bool c ∧ Hid (c = true → 0 < ak ∧ ltU d3[ak - 1]! d3[p2]! = false) ∧ Hid (UR base g cap w0 d3 wx))
                case first =>
                  by_cases ha0 : 0 < ak
                  · have gd : decide ((0 : Int) < (ak : Int)) = true := decide_eq_true (by omega)
                    have ha0' : (0 : Int) < (ak : Int) := by omega
                    obtain ⟨am, ham⟩ : ∃ am, am = ak - 1 := ⟨_, rfl⟩
                    have eam : (ak : Int) - 1 = (am : Int) := by omega
                    have lam : am < ak := by omega
                    have HAM := Lib.hid ham
                    clear ham
                    have c1 := HU.out.cell (i := am) (by omega)
                    have c2 := HU.out.cell (i := p2) (by omega)
                    have z1 : (am : Int) < (d.size : Int) := by omega
                    have z2 : (p2 : Int) < (d.size : Int) := by omega
                    cases hlt : ltU d3[am]! d3[p2]!
                    · go_wp2_with fail
                      go_quiet (first | (go_at_call 60; exact Calls.quiet_of_same (less_any _ _ _)))
                      rw [hlt]
                      go_wp2_with fail
                      go_meet
                      case rel => exact ⟨true, rfl, fun _ => ⟨ha0, by rw [← HAM.out]; exact hlt⟩, HU.out.drewN _⟩
                    · go_wp2_with fail
                      go_quiet (first | (go_at_call 60; exact Calls.quiet_of_same (less_any _ _ _)))
                      rw [hlt]
                      go_wp2_with fail
                      go_meet
                      case rel => exact ⟨false, rfl, fun h => Bool.noConfusion h, HU.out.drewN _⟩
                  · have gd : decide ((0 : Int) < (ak : Int)) = false := decide_eq_false (by omega)
                    have ha0' : ¬ (0 : Int) < (ak : Int) := by omega
                    go_wp2_with fail
                    go_quiet (fail)
                    go_wp2_with fail
                    go_meet
                    case rel => exact ⟨false, rfl, fun h => Bool.noConfusion h, HU.out.drewN _⟩
                case rest =>
                  clear HU
                  obtain ⟨c, rfl, HC, HU⟩ := hcut
                  cases c
                  · clear HC
                    go_wp2_with fail
                    rw [← hsz3]
                    refine (partition_any base g cap ak bk p2 w0 d3 _ HU.out hp1 hp2 (by omega) (by omega)).mono ?_
                    rintro e w4 ⟨rfl, hu⟩
                    have hr := fun mid ap d4 hx => Go.Sort.round_part swoU (Go.Sort.partition_holds ltU) (d4 := d4) (mid := mid) (ap := ap) hp1 hp2 (by omega) HB3.out hx
                    have HQ := Lib.hid hr
                    have HX := Lib.hid hu
                    clear hr hu HU
                    generalize Go.Sort.partition ltU d3 ak bk p2 = PP at HQ HX ⊢
                    obtain ⟨mid, ap, d4⟩ := PP
                    obtain ⟨m1, m2, m3, m4, m5, m6, m7⟩ := HQ.out mid ap d4 rfl
                    have M4 := Lib.hid m4
                    have M5 := Lib.hid m5
                    have M6 := Lib.hid m6
                    have M7 := Lib.hid m7
                    have hsz4 : d4.size = d.size := m3.trans hsz3
                    clear m3 m4 m5 m6 m7 HQ HB3
                    obtain ⟨lm, hlm⟩ : ∃ lm, mid = ak + lm := ⟨mid - ak, by omega⟩
                    obtain ⟨rm, hrm⟩ : ∃ rm, bk = mid + rm := ⟨bk - mid, by omega⟩
                    obtain ⟨T, hT, eT⟩ : ∃ T : Nat, T = L / 8 ∧ (L : Int).tdiv 8 = (T : Int) := ⟨L / 8, rfl, (Int.ofNat_tdiv L 8).symm⟩
                    have e1 : (mid : Int) - (ak : Int) = (lm : Int) := by omega
                    have e2 : (bk : Int) - (mid : Int) = (rm : Int) := by omega
                    have hlb : lm ≤ bk := by omega
                    have hrb : rm ≤ bk := by omega
                    have hTL : T ≤ L := by omega
                    clear hlm hrm hT
                    by_cases hlr : lm < rm
                    · have gd : decide (lm < rm) = true := decide_eq_true hlr
                      go_wp2_with fail
                      rw [← hsz4]
                      have hc := IH.out ak mid l2 d4 w4 (by omega) HX.out m1 (by omega) (by omega) hl2 M4.out
                      unfold PdqAt at hc
                      refine hc.mono ?_
                      clear hc
                      rintro e w5 ⟨rfl, dL, q1, q2, q3⟩
                      have HL1 := Lib.hid (M6.out dL q1 q2)
                      have HU5 := Lib.hid q3
                      have hsz5 : dL.size = d.size := q1.1.trans hsz4
                      clear q1 q2 q3 M4 M5 M6 M7 HX
                      go_wp2
                      go_roundg (bk - ak)
                      case measure => omega
                      case rel => exact ⟨mid + 1, bk, l2, _, ap, dL, by go_num, rfl, rfl, rfl, rfl, by omega, hb, by omega, by omega, hl2, hsz5, HL1.out.1, fun R h1 h2 => (fun hR => HR3.out R hR.1 hR.2) (HL1.out.2 R h1 h2), HU5.out⟩
                    · have gd : decide (lm < rm) = false := decide_eq_false hlr
                      go_wp2_with fail
                      rw [← hsz4]
                      have hc := IH.out (mid + 1) bk l2 d4 w4 (by omega) HX.out (by omega) (by omega) (by omega) hl2 M5.out
                      unfold PdqAt at hc
                      rw [show ((mid + 1 : Nat) : Int) = (mid : Int) + 1 by omega] at hc
                      refine hc.mono ?_
                      clear hc
                      rintro e w5 ⟨rfl, dL, q1, q2, q3⟩
                      have HL1 := Lib.hid (M7.out dL q1 q2)
                      have HU5 := Lib.hid q3
                      have hsz5 : dL.size = d.size := q1.1.trans hsz4
                      clear q1 q2 q3 M4 M5 M6 M7 HX
                      go_wp2
                      go_roundg (bk - ak)
                      case measure => omega
                      case rel => exact ⟨ak, mid, l2, _, ap, dL, rfl, rfl, rfl, rfl, rfl, by omega, by omega, by omega, by omega, hl2, hsz5, HL1.out.1, fun R h1 h2 => (fun hR => HR3.out R hR.1 hR.2) (HL1.out.2 R h1 h2), HU5.out⟩
                  · obtain ⟨ha0, hlt⟩ := HC.out rfl
                    have hr := fun mid d4 hx => Go.Sort.round_eq swoU (Go.Sort.partitionEqual_holds ltU) (d4 := d4) (mid := mid) ha0 hp1 hp2 (by omega) HB3.out hlt hx
                    have HQ := Lib.hid hr
                    clear hr hlt HC
                    go_wp2_with fail
                    rw [← hsz3]
                    refine (partEq_any base g cap ak bk p2 w0 d3 _ HU.out hp1 hp2 (by omega) (by omega)).mono ?_
                    rintro e w4 ⟨rfl, hu⟩
                    have HX := Lib.hid hu
                    clear hu HU
                    generalize Go.Sort.partitionEqual ltU d3 ak bk p2 = PP at HQ HX ⊢
                    obtain ⟨mid, d4⟩ := PP
                    obtain ⟨m1, m2, m3, m4, m5⟩ := HQ.out mid d4 rfl
                    have M4 := Lib.hid m4
                    have M5 := Lib.hid m5
                    have hsz4 : d4.size = d.size := m3.trans hsz3
                    clear m3 m4 m5 HQ HB3
                    go_wp2
                    go_roundg (bk - ak)
                    case measure => omega
                    case rel => exact ⟨mid, bk, l2, wb, wp, d4, rfl, rfl, rfl, rfl, rfl, by omega, by omega, by omega, by omega, hl2, hsz4, M4.out, fun R h1 h2 => (fun hR => HR3.out R hR.1 hR.2) (M5.out R h1 h2), HX.out⟩

theorem pdq_any (base g cap : Nat) (w0 : World) : ∀ (N a b l : Nat) (d : Array Bv) (w : World), b - a < N → UR base g cap w0 d w → a ≤ b → b ≤ d.size → d.size ≤ 1000000000000000 → l ≤ 64 → Go.Sort.Below ltU a b d → PdqAt base g cap w0 a b l d w
  | 0, _, _, _, _, _, h => absurd h (Nat.not_lt_zero _)
  | N + 1, a, b, l, d, w, h => fun h1 h2 h3 h4 h5 h6 => pdq_round base g cap w0 (b - a) a b l d w rfl (fun a' b' l' d' w' h' => pdq_any base g cap w0 N a' b' l' d' w' (by omega)) h1 h2 h3 h4 h5 h6

theorem sortU_any (base g cap : Nat) (w0 : World) (d : Array Bv) (w : World) (h : UR base g cap w0 d w) (hn : d.size ≤ 1000000000000000) :
    Calls Try.prog 40 #[.slice (some ⟨g, 0, none⟩) d.size cap] w fun e w' => e = .returned (.tuple #[]) ∧ ∃ d', PermIn 0 d.size d d' ∧ SortedIn ltU 0 d.size d' ∧ UR base g cap w0 d' w' := by
  have H := Lib.hid h; clear h
  go_enter Try.func40, Try.ntmps40
  go_wp2_with fail
  refine (lenU_any _ w (by omega) (by omega)).mono ?_
  rintro e w' ⟨len, rfl, -, hl, rfl⟩
  go_wp2_with fail
  have hc := pdq_any base g cap w0 (d.size + 1) 0 d.size len d w (by omega) H.out (Nat.zero_le _) (Nat.le_refl _) hn hl (Or.inl rfl)
  unfold PdqAt at hc
  refine hc.mono ?_
  rintro e w5 ⟨rfl, dL, q1, q2, q3⟩
  clear hc
  go_wp2
  go_end0
  exact ⟨rfl, dL, q1, q2, q3⟩
end Go.Proofs.Ytejceacoopgjkaa
