/-
  What the reference's GoodName, GoodNames and Place answer. No condition but those of the slices.
-/
import Derived.Test.YtpjcdfphllbonaaDoorGEo
import Derived.Test.YtpjcdfphllbonaaDoorNFind
namespace Go.Proofs.YtpjcdfphllbonaaDoor
set_option maxRecDepth 100000
open Go.ChangeShapes Go.WideShapes Go.ChangeAt Go.RowKit

/-- a byte that no name holds -/
def NoB (c : Nat) : Prop := ((c : Int) == 95) = false ∧ ((c : Int) == 46) = false ∧ ((c : Int) == 47) = false ∧ ((c : Int) == 45) = false ∧ ((c : Int) == 43) = false
theorem byte_cases (c : Nat) : (97 ≤ c ∧ c ≤ 122) ∨ (¬ 97 ≤ c ∧ 65 ≤ c ∧ c ≤ 90) ∨ (¬ 97 ≤ c ∧ ¬ 65 ≤ c ∧ 48 ≤ c ∧ c ≤ 57) ∨ c = 95 ∨ c = 46 ∨ c = 47 ∨ c = 45 ∨ c = 43 ∨
    (okB c = false ∧ NoB c ∧ ¬ 97 ≤ c ∧ ¬ 65 ≤ c ∧ ¬ 48 ≤ c) ∨ (okB c = false ∧ NoB c ∧ ¬ 97 ≤ c ∧ ¬ 65 ≤ c ∧ 48 ≤ c ∧ ¬ c ≤ 57) ∨ (okB c = false ∧ NoB c ∧ ¬ 97 ≤ c ∧ 65 ≤ c ∧ ¬ c ≤ 90 ∧ 48 ≤ c ∧ ¬ c ≤ 57) ∨ (okB c = false ∧ NoB c ∧ 97 ≤ c ∧ ¬ c ≤ 122 ∧ 65 ≤ c ∧ ¬ c ≤ 90 ∧ 48 ≤ c ∧ ¬ c ≤ 57) := by
  unfold okB NoB
  simp only [beq_eq_false_iff_ne, ne_eq, decide_eq_false_iff_not]
  omega

set_option maxHeartbeats 8000000 in
set_option maxRecDepth 100000 in
theorem goodName_any (s : ByteArray) (w : World) (hs : s.size ≤ 9223372036854775807) :
    Calls Tryd.prog 54 #[.string s] w fun e w' => e = .returned (.bool (good s.data.toList)) ∧ w' = w := by
  have HF : Hid (∀ k (h : k < s.size), s[k].toNat = byteAt s k) := byteAt_get s
  have HG : Hid ((∀ j, j < s.size → okB (byteAt s j) = true) → good s.data.toList = decide (0 < s.size ∧ s.size ≤ 40)) := fun h => by
    by_cases k : 0 < s.size ∧ s.size ≤ 40
    · rw [decide_eq_true k]; exact good_all k.1 k.2 h
    · rw [decide_eq_false k]; exact good_size k
  have HN : Hid (∀ k, k < s.size → okB (byteAt s k) = false → good s.data.toList = false) := fun k hk h => good_bad hk h
  generalize byteAt s = f at *
  generalize good s.data.toList = G at *
  go_enter Tryd.func54, Tryd.ntmps54
  go_wp2_with fail
  go_loopw [7] (fun i wr => ∃ k : Nat, k ≤ s.size ∧ i = .int .i64 (k : Int) ∧ (∀ j, j < k → okB (f j) = true) ∧ wr = w) (fun i _ => s.size - (intOf i).toNat)
  case atStart => exact ⟨0, by omega, rfl, fun _ h => absurd h (Nat.not_lt_zero _), rfl⟩
  case round =>
    obtain ⟨k, hk, rfl, hall, rfl⟩ := hrel
    have HA := Lib.hid hall; clear hall
    by_cases hlt : k < s.size
    · have hb := HF.out k hlt
      have YES : Hid (okB (f k) = true → ∀ j, j < k + 1 → okB (f j) = true) := fun h j hj => by
        rcases Nat.lt_succ_iff_lt_or_eq.1 hj with h' | h'
        · exact HA.out j h'
        · rw [h']; exact h
      have NO := Lib.hid (HN.out k hlt)
      generalize f k = c at hb YES NO
      rcases byte_cases c with ⟨h1, h2⟩ | ⟨h1, h2, h3⟩ | ⟨h1, h2, h3, h4⟩ | rfl | rfl | rfl | rfl | rfl | h | h | h | h
      · have Y := Lib.hid (YES.out (decide_eq_true (by omega))); clear YES NO
        go_wp2
        go_roundw
        case rel => exact ⟨k + 1, by omega, by go_num, Y.out, trivial⟩
        case measure => simp [intOf]; omega
      · have Y := Lib.hid (YES.out (decide_eq_true (by omega))); clear YES NO
        go_wp2
        go_roundw
        case rel => exact ⟨k + 1, by omega, by go_num, Y.out, trivial⟩
        case measure => simp [intOf]; omega
      · have Y := Lib.hid (YES.out (decide_eq_true (by omega))); clear YES NO
        go_wp2
        go_roundw
        case rel => exact ⟨k + 1, by omega, by go_num, Y.out, trivial⟩
        case measure => simp [intOf]; omega
      · have Y := Lib.hid (YES.out (by decide)); clear YES NO
        go_wp2
        go_roundw
        case rel => exact ⟨k + 1, by omega, by go_num, Y.out, trivial⟩
        case measure => simp [intOf]; omega
      · have Y := Lib.hid (YES.out (by decide)); clear YES NO
        go_wp2
        go_roundw
        case rel => exact ⟨k + 1, by omega, by go_num, Y.out, trivial⟩
        case measure => simp [intOf]; omega
      · have Y := Lib.hid (YES.out (by decide)); clear YES NO
        go_wp2
        go_roundw
        case rel => exact ⟨k + 1, by omega, by go_num, Y.out, trivial⟩
        case measure => simp [intOf]; omega
      · have Y := Lib.hid (YES.out (by decide)); clear YES NO
        go_wp2
        go_roundw
        case rel => exact ⟨k + 1, by omega, by go_num, Y.out, trivial⟩
        case measure => simp [intOf]; omega
      · have Y := Lib.hid (YES.out (by decide)); clear YES NO
        go_wp2
        go_roundw
        case rel => exact ⟨k + 1, by omega, by go_num, Y.out, trivial⟩
        case measure => simp [intOf]; omega
      · obtain ⟨h0, ⟨n1, n2, n3, n4, n5⟩, h1, h2, h3⟩ := h
        have N := Lib.hid (NO.out h0); clear YES NO h0
        go_wp2
        go_ret
        rw [N.out]; exact ⟨rfl, rfl⟩
      · obtain ⟨h0, ⟨n1, n2, n3, n4, n5⟩, h1, h2, h3, h4⟩ := h
        have d57 : decide ((c : Int) ≤ 57) = false := decide_eq_false (by omega)
        have N := Lib.hid (NO.out h0); clear YES NO h0
        go_wp2
        go_ret
        rw [N.out]; exact ⟨rfl, rfl⟩
      · obtain ⟨h0, ⟨n1, n2, n3, n4, n5⟩, h1, h2, h3, h4, h5⟩ := h
        have d57 : decide ((c : Int) ≤ 57) = false := decide_eq_false (by omega)
        have d90 : decide ((c : Int) ≤ 90) = false := decide_eq_false (by omega)
        have N := Lib.hid (NO.out h0); clear YES NO h0
        go_wp2
        go_ret
        rw [N.out]; exact ⟨rfl, rfl⟩
      · obtain ⟨h0, ⟨n1, n2, n3, n4, n5⟩, h1, h2, h3, h4, h5, h6⟩ := h
        have d57 : decide ((c : Int) ≤ 57) = false := decide_eq_false (by omega)
        have d90 : decide ((c : Int) ≤ 90) = false := decide_eq_false (by omega)
        have d122 : decide ((c : Int) ≤ 122) = false := decide_eq_false (by omega)
        have N := Lib.hid (NO.out h0); clear YES NO h0
        go_wp2
        go_ret
        rw [N.out]; exact ⟨rfl, rfl⟩
    · obtain rfl : k = s.size := by omega
      have HD := Lib.hid (HG.out HA.out)
      by_cases h0 : s.size = 0
      · have h0' : ¬ (0 : Int) < (s.size : Int) := by omega
        have T : Hid (decide (0 < s.size ∧ s.size ≤ 40) = false) := decide_eq_false (by omega)
        clear h0
        go_wp2
        go_ret
        rw [HD.out, T.out]; exact ⟨rfl, rfl⟩
      · have h0' : (0 : Int) < (s.size : Int) := by omega
        have T : Hid (decide (0 < s.size ∧ s.size ≤ 40) = decide ((s.size : Int) < 41)) := decide_eq_decide.2 ⟨fun h => by omega, fun h => by omega⟩
        clear h0
        go_wp2
        go_ret
        rw [HD.out, T.out]; exact ⟨rfl, rfl⟩

set_option maxHeartbeats 1000000 in
theorem goodNames_of {w : World} {v : Value} {z : List Str} (h : SIn w v z) :
    Calls Tryd.prog 38 #[v] w fun e w' => e = .returned (.bool (z.all good)) ∧ w' = w := by
  have F := Lib.hid h
  have hn := h.bound
  have HX : Hid (∀ k, k < z.length → (bs (z.getD k [])).size ≤ 9223372036854775807) := fun k hk => by rw [bs_size]; exact F.out.small _ (getD_mem hk)
  rcases h.open with ⟨hz, a, cap, rfl⟩ | ⟨hpos, b, off, cap, rfl, hcap, hlt, hc⟩
  · clear h hn HX F
    subst hz
    go_enter Tryd.func38, Tryd.ntmps38
    go_wp2_with fail
    go_rounds 1
    go_ret
    exact ⟨rfl, rfl⟩
  · clear h
    have HC := Lib.hid hc; clear hc
    have HG : Hid ((∀ j, j < z.length → good (z.getD j []) = true) → z.all good = true) := all_good
    have HN : Hid (∀ k, k < z.length → good (z.getD k []) = false → z.all good = false) := fun k => all_bad
    have HB0 : Hid (∀ k, good (bs (z.getD k [])).data.toList = good (z.getD k [])) := fun k => by rw [bs_list]
    generalize hL : z.length = L at *
    clear hL
    go_enter Tryd.func38, Tryd.ntmps38
    go_wp2_with fail
    go_loopw [7] (fun i wr => ∃ k : Nat, k ≤ L ∧ i = .int .i64 (k : Int) ∧ (∀ j, j < k → good (z.getD j []) = true) ∧ wr = w) (fun i _ => L - (intOf i).toNat)
    case atStart => exact ⟨0, by omega, rfl, fun _ h => absurd h (Nat.not_lt_zero _), rfl⟩
    case round =>
      obtain ⟨k, hk, rfl, hall, rfl⟩ := hrel
      have HA := Lib.hid hall; clear hall
      by_cases hk2 : k < L
      · have c1 := HC.out k hk2
        go_wp2_with fail
        refine (goodName_any _ _ (HX.out k hk2)).mono ?_
        rw [HB0.out k]
        rintro e w' ⟨rfl, rfl⟩
        clear c1
        cases hd : good (z.getD k []) with
        | false =>
          have HD := Lib.hid (HN.out k hk2 hd); clear hd
          go_wp2
          go_ret
          rw [HD.out]; exact ⟨rfl, rfl⟩
        | true =>
          have HD := Lib.hid hd; clear hd
          go_wp2
          go_roundw
          case rel =>
            refine ⟨k + 1, by omega, by go_num, fun j hj => ?_, trivial⟩
            rcases Nat.lt_succ_iff_lt_or_eq.1 hj with h | h
            · exact HA.out j h
            · rw [h]; exact HD.out
          case measure => simp [intOf]; omega
      · obtain rfl : k = L := by omega
        have HD := Lib.hid (HG.out HA.out)
        go_wp2
        go_ret
        rw [HD.out]; exact ⟨rfl, rfl⟩

/-- what Place hands back -/
def PlacePost (z : List Str) (x : Str) (e : Ending) : Prop :=
  (∃ i : Nat, i < z.length ∧ z.getD i [] = x ∧ e = .returned (.int .i64 i)) ∨ x ∉ z ∧ e = .returned (.int .i64 (-1))

set_option maxHeartbeats 1000000 in
theorem place_of {w : World} {v : Value} {z : List Str} (h : SIn w v z) (x : Str) :
    Calls Tryd.prog 18 #[v, .string (bs x)] w fun e w' => PlacePost z x e ∧ w' = w := by
  have hn := h.bound
  rcases h.open with ⟨hz, a, cap, rfl⟩ | ⟨hpos, b, off, cap, rfl, hcap, hlt, hc⟩
  · clear h hn
    subst hz
    go_enter Tryd.func18, Tryd.ntmps18
    go_wp2_with fail
    go_rounds 1
    go_ret
    exact ⟨.inr ⟨List.not_mem_nil, rfl⟩, rfl⟩
  · clear h
    have HC := Lib.hid hc; clear hc
    generalize hL : z.length = L at *
    have HL := Lib.hid hL; clear hL
    go_enter Tryd.func18, Tryd.ntmps18
    go_wp2_with fail
    go_loopw [9] (fun i wr => ∃ k : Nat, k ≤ L ∧ i = .int .i64 (k : Int) ∧ (∀ j, j < k → z.getD j [] ≠ x) ∧ wr = w) (fun i _ => L - (intOf i).toNat)
    case atStart => exact ⟨0, by omega, rfl, fun _ h => absurd h (Nat.not_lt_zero _), rfl⟩
    case round =>
      obtain ⟨k, hk, rfl, hall, rfl⟩ := hrel
      have HA := Lib.hid hall; clear hall
      by_cases hk2 : k < L
      · have c1 := HC.out k hk2
        by_cases hx : z.getD k [] = x
        · have HX := Lib.hid hx
          rw [hx] at c1
          clear hx
          go_wp2
          go_ret
          exact ⟨.inl ⟨k, by rw [HL.out]; exact hk2, HX.out, rfl⟩, rfl⟩
        · have HX := Lib.hid hx
          have t : ((bs (z.getD k [])).toList == (bs x).toList) = false := by rw [bs_toList, bs_toList]; simpa using hx
          clear hx
          generalize bs (z.getD k []) = y at c1 t
          go_wp2
          go_roundw
          case rel =>
            refine ⟨k + 1, by omega, by go_num, fun j hj => ?_, trivial⟩
            rcases Nat.lt_succ_iff_lt_or_eq.1 hj with h | h
            · exact HA.out j h
            · rw [h]; exact HX.out
          case measure => simp [intOf]; omega
      · obtain rfl : k = L := by omega
        go_wp2
        go_ret
        refine ⟨.inr ⟨fun hx => ?_, rfl⟩, rfl⟩
        obtain ⟨i, hi, e⟩ := mem_getD hx
        exact HA.out i (by rw [← HL.out]; exact hi) e
end Go.Proofs.YtpjcdfphllbonaaDoor
