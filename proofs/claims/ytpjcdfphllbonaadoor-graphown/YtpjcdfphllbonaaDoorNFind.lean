/-
  That the law's own look at package name (names) is passed; slices.Contains, slices.Equal at strings; slices.BinarySearch and package name's Find. No condition but those of the slices.
-/
import Derived.Test.YtpjcdfphllbonaaDoorNSort
import Derived.Deep.LoopGhost
import Derived.Deep.Draws
import Derived.Lib.Walk
namespace Go.Proofs.YtpjcdfphllbonaaDoor
set_option maxRecDepth 100000
open Go.ChangeShapes Go.WideShapes Go.ChangeAt Go.RowKit

theorem ret2_ib {a b : Int} {x y : Bool} (h : a = b) (k : x = y) : Ending.returned (.tuple #[.int .i64 a, .bool x]) = .returned (.tuple #[.int .i64 b, .bool y]) := by rw [h, k]

theorem beq_dec (x y : Str) : (x == y) = decide (x = y) := by
  by_cases h : x = y
  · rw [decide_eq_true h, h]; simp
  · rw [decide_eq_false h]; simpa using h
theorem eqS (P : Program) (T : TypeId) : EqlAt P T encStr (fun x y => decide (x = y)) :=
  ⟨fun x y w => by
    have : (binOp .eql T (.string (bs x)) (.string (bs y))).run P w = .ok (.bool ((bs x).toList == (bs y).toList)) w := (EqlAt.string P T).1 (bs x) (bs y) w
    rw [bs_toList, bs_toList, beq_dec] at this
    exact this, fun op a b x y w => (EqlAt.string P T).2 op a b (bs x) (bs y) w⟩
theorem neS (P : Program) (T : TypeId) : NeqAt P T encStr (fun x y => decide (x = y)) :=
  ⟨fun x y w => by
    have : (binOp .neq T (.string (bs x)) (.string (bs y))).run P w = .ok (.bool (!((bs x).toList == (bs y).toList))) w := (NeqAt.string P T).1 (bs x) (bs y) w
    rw [bs_toList, bs_toList, beq_dec] at this
    exact this, fun op a b x y w => (NeqAt.string P T).2 op a b (bs x) (bs y) w⟩

theorem bang_getD (z : List Str) (k : Nat) (h : k < z.length) : z[k]! = z.getD k [] := by
  rw [getElem!_pos z k h, List.getD, List.getElem?_eq_getElem h]; rfl

theorem allEq_iff : ∀ (a b : List Str), Lib.allEq (fun x y => decide (x = y)) a b = decide (a = b)
  | [], [] => by simp [Lib.allEq]
  | [], _ :: _ => by simp [Lib.allEq]
  | _ :: _, [] => by simp [Lib.allEq]
  | x :: a, y :: b => by rw [Lib.allEq, allEq_iff a b]; by_cases h : x = y <;> by_cases k : a = b <;> simp [h, k]
theorem equal_len (a1 a2 : Option Addr) (n1 c1 n2 c2 : Nat) (w : World) (h : n1 ≠ n2) :
    Calls Tryd.prog 30 #[.slice a1 n1 c1, .slice a2 n2 c2] w fun e w' => e = .returned (.bool false) ∧ w' = w := by
  have t : ((n1 : Int) != (n2 : Int)) = true := by rw [bne_iff_ne]; omega
  clear h
  go_enter Tryd.func30, Tryd.ntmps30
  go_wp2
  go_ret
  exact ⟨rfl, rfl⟩
theorem equal_none (a b : Option Addr) (c1 c2 : Nat) (w : World) : Calls Tryd.prog 30 #[.slice a 0 c1, .slice b 0 c2] w fun e w' => e = .returned (.bool true) ∧ w' = w := by
  go_enter Tryd.func30, Tryd.ntmps30
  go_wp2_with fail
  go_rounds 1
  go_ret
  exact ⟨rfl, rfl⟩
theorem equal_of {w : World} {v1 v2 : Value} {z1 z2 : List Str} (h1 : SIn w v1 z1) (h2 : SIn w v2 z2) :
    Calls Tryd.prog 30 #[v1, v2] w fun e w' => e = .returned (.bool (decide (z1 = z2))) ∧ ∃ q, w' = w.drewN q := by
  have b1 := h1.bound
  have b2 := h2.bound
  by_cases hl : z1.length = z2.length
  · rcases h1.open with ⟨rfl, a, cap, rfl⟩ | ⟨hp, b, off, cap, rfl, _, _, hc⟩
    · have hz : z2 = [] := List.length_eq_zero_iff.1 hl.symm
      subst hz
      rcases h2.open with ⟨_, a', cap', rfl⟩ | ⟨hp, _⟩
      · exact (equal_none a a' cap cap' w).mono fun e w' k => ⟨k.1, 0, k.2⟩
      · exact absurd hp (Nat.not_lt_zero _)
    · rcases h2.open with ⟨rfl, _⟩ | ⟨hp2, b', off', cap', rfl, _, _, hc'⟩
      · rw [hl] at hp; exact absurd hp (Nat.not_lt_zero _)
      · have := AnyE.slices_Equal equalL encStr (fun x y => decide (x = y)) (neS _ _) b off z1.length cap b' off' z2.length cap' z1 z2 w (Nat.le_refl _) (Nat.le_refl _) (by omega) (by omega) (fun j hj => by rw [hc j hj, bang_getD z1 j hj]; rfl) (fun j hj => by rw [hc' j hj, bang_getD z2 j hj]; rfl)
        refine Calls.mono (show Calls Tryd.prog 30 _ _ _ from this) ?_
        rintro e w' ⟨rfl, q, rfl⟩
        exact ⟨ret_b (by rw [List.take_length, List.take_length]; exact allEq_iff z1 z2), q, rfl⟩
  · have e1 : decide (z1 = z2) = false := decide_eq_false (by rintro rfl; exact hl rfl)
    rw [e1]
    obtain ⟨a, c, rfl, _⟩ := h1
    obtain ⟨a', c', rfl, _⟩ := h2
    exact (equal_len a a' _ c _ c' w hl).mono fun e w' k => ⟨k.1, 0, k.2⟩

/-! cmp.Less, BinarySearch -/
theorem isNaN_any (s : ByteArray) (w : World) : Calls Tryd.prog 66 #[.string s] w fun e w' => e = .returned (.bool false) ∧ w' = w := by
  go_enter Tryd.func66, Tryd.ntmps66
  go_wp2
  go_ret
  exact ⟨ret_b (by simp), rfl⟩
theorem isNaN2_any (s : ByteArray) (w : World) : Calls Tryd.prog 64 #[.string s] w fun e w' => e = .returned (.bool false) ∧ w' = w := by
  go_enter Tryd.func64, Tryd.ntmps64
  go_wp2
  go_ret
  exact ⟨ret_b (by simp), rfl⟩
theorem less_any (x y : Str) (w : World) : Calls Tryd.prog 63 #[.string (bs x), .string (bs y)] w fun e w' => e = .returned (.bool (decide (x < y))) ∧ w' = w := by
  have e1 : Hid (Op.bytesLess (bs x).toList (bs y).toList = decide (x < y)) := by show _ = _; rw [bs_toList, bs_toList]; exact bytesLess_eq x y
  go_enter Tryd.func63, Tryd.ntmps63
  go_wp2_with fail
  refine (isNaN_any _ _).mono ?_
  rintro e w' ⟨rfl, rfl⟩
  go_wp2
  go_ret
  exact ⟨ret_b e1.out, rfl⟩

/-- where x stands, or would stand, in the list -/
def Found (z : List Str) (x : Str) (e : Ending) : Prop :=
  ∃ i, i ≤ z.length ∧ (∀ t, t < i → z.getD t [] < x) ∧ (∀ t, i ≤ t → t < z.length → x ≤ z.getD t []) ∧
    ((i < z.length ∧ z.getD i [] = x ∧ e = .returned (.tuple #[.int .i64 i, .bool true])) ∨ ((∀ t, t < z.length → z.getD t [] ≠ x) ∧ e = .returned (.tuple #[.int .i64 i, .bool false])))

set_option maxHeartbeats 4000000 in
set_option maxRecDepth 100000 in
theorem search_row (z : List Str) (x : Str) (b off cap : Nat) (w : World) (hup : Up z) (hn : z.length ≤ 17592186044416) (hc : ∀ k, k < z.length → w.cell? ⟨b, off + k, none⟩ = some (.string (bs (z.getD k [])))) :
    Calls Tryd.prog 53 #[.slice (some ⟨b, off, none⟩) z.length cap, .string (bs x)] w fun e w' => Found z x e ∧ ∃ q, w' = w.drewN q := by
  have HC := Lib.hid hc; clear hc
  have HU := Lib.hid hup; clear hup
  generalize hL : z.length = n at *
  have HL := Lib.hid hL; clear hL
  have e39 : ∀ args w, (callFunc 63 args).run Tryd.prog w = .ok (.enter 63 args) w := enters_of Tryd.func63 (by kernel_rfl) rfl
  have e40 : ∀ args w, (callFunc 64 args).run Tryd.prog w = .ok (.enter 64 args) w := enters_of Tryd.func64 (by kernel_rfl) rfl
  go_enter Tryd.func53, Tryd.ntmps53
  go_wp2
  go_loopg [7, 8] n (fun g s7 s8 wr => ∃ lo hi q : Nat, s7 = .int .i64 lo ∧ s8 = .int .i64 hi ∧ lo ≤ hi ∧ hi ≤ n ∧ hi - lo ≤ g ∧ wr = w.drewN q ∧ (∀ t, t < lo → z.getD t [] < x) ∧ (∀ t, hi ≤ t → t < n → x ≤ z.getD t []))
  case atStart => exact ⟨0, n, 0, rfl, rfl, Nat.zero_le _, Nat.le_refl _, by omega, rfl, fun t ht => absurd ht (Nat.not_lt_zero _), fun t h1 h2 => by omega⟩
  case round =>
    obtain ⟨lo, hi, q, rfl, rfl, hlh, hin, hg, rfl, h1, h2⟩ := hrel
    have I1 := Lib.hid h1; clear h1
    have I2 := Lib.hid h2; clear h2
    by_cases hlt : lo < hi
    · have cm : w.cell? ⟨b, off + (lo + hi) / 2, none⟩ = some (.string (bs (z.getD ((lo + hi) / 2) []))) := HC.out _ (by omega)
      have LE : Hid (∀ t, t ≤ (lo + hi) / 2 → z.getD t [] ≤ z.getD ((lo + hi) / 2) []) := fun t ht => up_le HU.out ht (by rw [HL.out]; omega)
      have GE : Hid (∀ t, (lo + hi) / 2 ≤ t → t < n → z.getD ((lo + hi) / 2) [] ≤ z.getD t []) := fun t ht hn => up_le HU.out ht (by rw [HL.out]; exact hn)
      generalize z.getD ((lo + hi) / 2) [] = y at cm LE GE
      by_cases hyx : y < x
      · go_wp2_with (go_at_call 63; refine (less_any _ _ _).mono ?_; rintro e w' ⟨rfl, rfl⟩; rw [decide_eq_true hyx])
        go_roundg (hi - ((lo + hi) / 2 + 1))
        case measure => omega
        case rel =>
          refine ⟨(lo + hi) / 2 + 1, hi, _, by rw [show ((lo : Int) + (hi : Int)) / 2 + 1 = (((lo + hi) / 2 + 1 : Nat) : Int) by omega], rfl, by omega, hin, Nat.le_refl _, rfl, fun t ht => ?_, I2.out⟩
          exact lt_of_le_lt (LE.out t (by omega)) hyx
      · go_wp2_with (go_at_call 63; refine (less_any _ _ _).mono ?_; rintro e w' ⟨rfl, rfl⟩; rw [decide_eq_false hyx])
        go_roundg ((lo + hi) / 2 - lo)
        case measure => omega
        case rel =>
          refine ⟨lo, (lo + hi) / 2, _, rfl, by rw [show ((lo : Int) + (hi : Int)) / 2 = (((lo + hi) / 2 : Nat) : Int) by omega], by omega, by omega, Nat.le_refl _, rfl, I1.out, fun t ht htn => ?_⟩
          exact List.le_trans (List.not_lt.1 hyx) (GE.out t ht htn)
    · have : hi = lo := by omega
      subst this
      have NE : Hid (∀ t, t < n → (t = hi → z.getD t [] ≠ x) → z.getD t [] ≠ x) := fun t ht k e => by
        rcases Nat.lt_trichotomy t hi with h | h | h
        · exact absurd (e ▸ I1.out t h) (List.lt_irrefl _)
        · exact k h e
        · have h3 := up_get HU.out h (by rw [HL.out]; exact ht)
          rw [e] at h3
          exact absurd h3 (List.not_lt.2 (I2.out hi (Nat.le_refl _) (by omega)))
      by_cases hn2 : hi < n
      · have cl : w.cell? ⟨b, off + hi, none⟩ = some (.string (bs (z.getD hi []))) := HC.out _ hn2
        by_cases hyx : z.getD hi [] = x
        · have HY := Lib.hid hyx
          rw [hyx] at cl
          clear hyx
          go_wp2
          go_ret2
          refine ⟨⟨hi, by rw [HL.out]; omega, I1.out, by rw [HL.out]; exact I2.out, .inl ⟨by rw [HL.out]; exact hn2, HY.out, ret2_ib rfl (by simp)⟩⟩, _, rfl⟩
        · have HY := Lib.hid hyx
          have t : ((bs (z.getD hi [])).toList == (bs x).toList) = false := by rw [bs_toList, bs_toList]; simpa using hyx
          generalize bs (z.getD hi []) = sy at cl t
          clear hyx
          go_wp2_with (go_at_call 64; refine (isNaN2_any _ _).mono ?_; rintro e w' ⟨rfl, rfl⟩)
          go_ret2
          refine ⟨⟨hi, by rw [HL.out]; omega, I1.out, by rw [HL.out]; exact I2.out, .inr ⟨fun t ht => NE.out t (by rw [← HL.out]; exact ht) (fun e => e ▸ HY.out), rfl⟩⟩, _, rfl⟩
      · go_wp2
        go_ret2
        refine ⟨⟨hi, by rw [HL.out]; omega, I1.out, by rw [HL.out]; exact I2.out, .inr ⟨fun t ht => NE.out t (by rw [← HL.out]; exact ht) (fun e => by have := HL.out; omega), rfl⟩⟩, _, rfl⟩

theorem search_none (a : Option Addr) (cap : Nat) (s : ByteArray) (w : World) :
    Calls Tryd.prog 53 #[.slice a 0 cap, .string s] w fun e w' => e = .returned (.tuple #[.int .i64 0, .bool false]) ∧ w' = w := by
  go_enter Tryd.func53, Tryd.ntmps53
  go_wp2
  go_loopw [7, 8] (fun i j wr => i = .int .i64 0 ∧ j = .int .i64 0 ∧ wr = w) (fun _ _ _ => 0)
  case atStart => exact ⟨rfl, rfl, rfl⟩
  case round =>
    obtain ⟨rfl, rfl, rfl⟩ := hrel
    go_wp2
    go_ret2
    exact ⟨rfl, rfl⟩
theorem search_of {w : World} {v : Value} {z : List Str} (h : SIn w v z) (hup : Up z) (x : Str) :
    Calls Tryd.prog 53 #[v, .string (bs x)] w fun e w' => Found z x e ∧ ∃ q, w' = w.drewN q := by
  have hn := h.bound
  rcases h.open with ⟨rfl, a, cap, rfl⟩ | ⟨_, b, off, cap, rfl, _, _, hc⟩
  · exact (search_none a cap (bs x) w).mono fun e w' k => ⟨⟨0, Nat.le_refl _, fun t ht => absurd ht (Nat.not_lt_zero _), fun t _ ht => absurd ht (Nat.not_lt_zero _), .inr ⟨fun t ht => absurd ht (Nat.not_lt_zero _), k.1⟩⟩, 0, k.2⟩
  · exact search_row z x b off cap w hup hn hc

/-- what Find hands back -/
def FindPost (z : List Str) (x : Str) (e : Ending) : Prop :=
  (∃ i : Nat, i < z.length ∧ z.getD i [] = x ∧ e = .returned (.tuple #[.int .i64 i, .bool true])) ∨ x ∉ z ∧ e = .returned (.tuple #[.int .i64 0, .bool false])

theorem find_of {w : World} {v : Value} {z : List Str} (h : SIn w v z) (hup : Up z) (x : Str) :
    Calls Tryd.prog 37 #[v, .string (bs x)] w fun e w' => FindPost z x e ∧ ∃ q, w' = w.drewN q := by
  have H := Lib.hid h; clear h
  have HU := Lib.hid hup; clear hup
  go_enter Tryd.func37, Tryd.ntmps37
  go_wp2_with fail
  refine (search_of H.out HU.out x).mono ?_
  rintro e w' ⟨⟨i, _, _, _, ⟨h1, h2, rfl⟩ | ⟨h1, rfl⟩⟩, q, rfl⟩
  · have H1 := Lib.hid h1; clear h1
    have H2 := Lib.hid h2; clear h2
    go_wp2
    go_ret2
    exact ⟨.inl ⟨i, H1.out, H2.out, rfl⟩, q, rfl⟩
  · have H1 := Lib.hid h1; clear h1
    go_wp2
    go_ret2
    refine ⟨.inr ⟨fun hx => ?_, rfl⟩, q, rfl⟩
    obtain ⟨t, ht, e⟩ := mem_getD hx
    exact H1.out t ht e

/-! the law's own look -/
theorem uniq_ba : uniq [[98], [97]] = [[97], [98]] := by
  refine (uniq_congr (b := [[97], [98]]) fun x => ?_).trans (uniq_self ?_)
  · simp [or_comm]
  · unfold Up; simp; decide
theorem good_ba : ([[98], [97]] : List Str).all good = true := by decide

end Go.Proofs.YtpjcdfphllbonaaDoor
