/-
  What package bits' Sub, Below and Count answer, in terms of words; and that the law's own look at the package (sets) is passed. No condition.
  Plain facts on the numbers of a set, in increasing order, and their ranks; nothing of the program. No condition.
  What package bits' smallest and withoutSmallest answer, in terms of words. Condition: the table of math/bits lies in memory as its text lays it (the card ties this).
  What package bits' Rank, Next and Nth answer, in terms of words. Condition: the table of math/bits lies in memory as its text lays it (the card ties this).
  The law's own look at package bits (sets) is passed, and the table of math/bits stays in memory. Condition: the table lies there as its text lays it (the card ties this).
  What package bits' List answers, in terms of words. Condition: the table of math/bits lies in memory as its text lays it (the card ties this).
  Plain facts on graphs: edges as pairs of numbers in order, rows of sets, the edges of rows, the rows of edges, sets renumbered. No condition.
-/
import Derived.Test.YtebjofffijnihaaGreatDoorGc22IFi
import Derived.Lib.TrailingZeros
import Derived.Test.YtebjofffijnihaaGreatDoorGc1Ls
namespace Go.Proofs.YtebjofffijnihaaGreatDoor
set_option maxRecDepth 100000
open Go.ChangeShapes Go.WideShapes Go.ChangeAt Go.RowKit

theorem ret_int {k : IntKind} {a b : Int} (h : a = b) : Ending.returned (.int k a) = .returned (.int k b) := by rw [h]

theorem isLen_of (x : Bv) (len : Nat) (h : LenN x.toNat len) (h64 : len ≤ 64) : IsLen x len := by
  obtain ⟨h1, h2⟩ := h
  refine ⟨h64, fun i hi => ?_, fun h0 => ?_⟩
  · show x.toNat.testBit i = false
    exact Nat.testBit_lt_two_pow (Nat.lt_of_lt_of_le h1 (Nat.pow_le_pow_right (by omega) hi))
  · show x.toNat.testBit (len - 1) = true
    have hp : 0 < 2 ^ (len - 1) := Nat.two_pow_pos _
    rw [Nat.testBit_eq_decide_div_mod_eq]
    have e : 2 ^ len = 2 ^ (len - 1) * 2 := by rw [← Nat.pow_succ, show (len - 1).succ = len by omega]
    have a := (Nat.le_div_iff_mul_le hp).2 (show 1 * 2 ^ (len - 1) ≤ x.toNat by have := h2 h0; omega)
    have b := (Nat.div_lt_iff_lt_mul hp).2 (show x.toNat < 2 * 2 ^ (len - 1) by omega)
    have : x.toNat / 2 ^ (len - 1) = 1 := by omega
    rw [this]; rfl

def clamp (n : Int) : Nat := (min (max n 0) 64).toNat
theorem clamp_le (n : Int) : clamp n ≤ 64 := by unfold clamp; omega
theorem low_walk (k : Nat) (h : k ≤ 64) : IntKind.u64.wrap (IntKind.u64.wrap (2 ^ k) - 1) = ((low k).toNat : Int) := by
  rw [low_toNat k h, IntKind.wrap_u64, IntKind.wrap_u64]
  have hp : 0 < 2 ^ k := Nat.two_pow_pos k
  have hle : 2 ^ k ≤ 2 ^ 64 := Nat.pow_le_pow_right (by omega) h
  have e : (2 : Int) ^ k = ((2 ^ k : Nat) : Int) := by simp
  rw [e]
  omega

theorem below_any (n : Int) (w : World) :
    Calls Tryz.prog 64 #[.int .i64 n] w fun e w' => e = .returned (.int .u64 (low (clamp n)).toNat) ∧ w = w' := by
  go_enter Tryz.func64, Tryz.ntmps64
  go_wp2
  go_ret
  exact ⟨ret_int (low_walk _ (clamp_le n)), rfl⟩

theorem wrap64_i64 (n : Int) : wrap64 n = IntKind.i64.wrap n := by
  unfold wrap64; simp [IntKind.wrap, IntKind.bits, IntKind.signed]; omega
theorem ones64 (s : Bv) : bits .and .i64 (wrap64 (g6 (g5 (g4 (g3 (g2 (g1 (s.toNat : Int)))))))) 127 = (cnt s : Int) := by
  rw [wrap64_i64]; exact ones_eq s

set_option maxHeartbeats 1000000 in
theorem count_any (s : Bv) (w : World) :
    Calls Tryz.prog 58 #[.int .u64 s.toNat] w fun e w' => e = .returned (.int .i64 (cnt s)) ∧ w = w' := by
  go_enter Tryz.func58, Tryz.ntmps58
  go_wp2
  go_ret
  exact ⟨ret_int (ones64 s), rfl⟩

theorem count (s : Bv) (w : World) :
    Calls Tryz.prog 35 #[.int .u64 s.toNat] w fun e w' => e = .returned (.int .i64 (cnt s)) ∧ w = w' := by
  go_enter Tryz.func35, Tryz.ntmps35
  go_wp2_with (go_at_call 58; refine (count_any _ _).mono ?_; rintro e w' ⟨rfl, rfl⟩)
  go_ret
  exact ⟨rfl, rfl⟩

theorem bv_max (s : Bv) : bits .xor .u64 IntKind.u64.max (s.toNat : Int) = ((~~~s).toNat : Int) := bv_not s
theorem bv_ne_zero (u : Bv) : ((u.toNat : Int) != 0) = (u != 0#64) := by
  by_cases h : u = 0#64
  · rw [h]; rfl
  · have : u.toNat ≠ 0 := fun e => h (BitVec.eq_of_toNat_eq (by simpa using e))
    rw [bne_iff_ne.2 h, bne_iff_ne]; omega

/-- what greatestWithin hands back -/
def GwPost (s t : Bv) (w : World) (e : Ending) (w' : World) : Prop := ∃ len, IsLen (t &&& ~~~s) len ∧ e = .returned (.int .u64 (gw s t len).toNat) ∧ w = w'

theorem isLen_zero : IsLen (0#64) 0 := ⟨by omega, fun i _ => by simp, fun h => absurd h (Nat.lt_irrefl _)⟩
theorem bv_zero_iff (x : Bv) : (((x.toNat : Int) == 0) = true) ↔ x = 0#64 := by
  rw [beq_iff_eq]
  constructor
  · intro h; apply BitVec.eq_of_toNat_eq; simp; omega
  · intro h; rw [h]; rfl
theorem clamp_nat (n : Nat) (h : n ≤ 64) : clamp (n : Int) = n := by unfold clamp; omega

/-- what Sub hands back -/
def SubPost (s t : Bv) (w : World) (e : Ending) (w' : World) : Prop := ∃ u : Bv, NextOf s t u ∧ e = .returned (.tuple #[.int .u64 u.toNat, .bool (u != 0#64)]) ∧ w = w'

end Go.Proofs.YtebjofffijnihaaGreatDoor
namespace Go.Proofs.YtebjofffijnihaaGreatDoor
set_option maxRecDepth 100000

theorem cntTo_succ (p : Nat → Bool) (k : Nat) : cntTo p (k + 1) = cntTo p k + if p k then 1 else 0 := rfl
theorem cntTo_mono (p : Nat → Bool) {m n : Nat} (h : m ≤ n) : cntTo p m ≤ cntTo p n := by
  obtain ⟨d, rfl⟩ : ∃ d, n = m + d := ⟨n - m, by omega⟩
  rw [cntTo_add]; omega
theorem cntTo_hit (p : Nat → Bool) {m n : Nat} (h : m < n) (hp : p m = true) : cntTo p m < cntTo p n := by
  have := cntTo_mono p (show m + 1 ≤ n by omega)
  rw [cntTo_succ, hp] at this; simp at this; omega
theorem cntTo_gap (p : Nat → Bool) (m : Nat) : ∀ d, (∀ i, m ≤ i → i < m + d → p i = false) → cntTo p (m + d) = cntTo p m
  | 0, _ => rfl
  | d + 1, h => by
    rw [← Nat.add_assoc, cntTo_succ, h (m + d) (by omega) (by omega), cntTo_gap p m d fun i h1 h2 => h i h1 (by omega)]; simp
theorem cntTo_gap' (p : Nat → Bool) {m n : Nat} (h : m ≤ n) (hp : ∀ i, m ≤ i → i < n → p i = false) : cntTo p n = cntTo p m := by
  have := cntTo_gap p m (n - m) fun i h1 h2 => hp i h1 (by omega)
  rwa [show m + (n - m) = n by omega] at this
theorem cntTo_inj (p : Nat → Bool) {m n : Nat} (hm : p m = true) (hn : p n = true) (h : cntTo p m = cntTo p n) : m = n := by
  rcases Nat.lt_trichotomy m n with c | c | c
  · have := cntTo_hit p c hm; omega
  · exact c
  · have := cntTo_hit p c hn; omega
theorem cntTo_mid (p : Nat → Bool) (j : Nat) : ∀ n, j < cntTo p n → ∃ i, i < n ∧ p i = true ∧ cntTo p i = j
  | 0, h => by simp [cntTo] at h
  | n + 1, h => by
    rw [cntTo_succ] at h
    by_cases hj : j < cntTo p n
    · obtain ⟨i, h1, h2, h3⟩ := cntTo_mid p j n hj
      exact ⟨i, by omega, h2, h3⟩
    · cases hp : p n
      · rw [hp] at h; simp at h; omega
      · rw [hp] at h; simp at h
        exact ⟨n, by omega, hp, by omega⟩
/-- how many numbers of s are below n -/
theorem cnt_low (s : Bv) (n : Nat) (h : n ≤ 64) : cnt (s &&& low n) = cntTo s.getLsbD n := by
  unfold cnt
  have e1 : cntTo (s &&& low n).getLsbD 64 = cntTo (s &&& low n).getLsbD n :=
    cntTo_gap' _ h fun i h1 h2 => by rw [BitVec.getLsbD_and, low_bit n i h2]; simp; omega
  rw [e1]
  exact cntTo_congr n fun i hi => by rw [BitVec.getLsbD_and, low_bit n i (by omega)]; simp [hi]

/-! the numbers below m, in increasing order -/
def numsTo (s : Bv) : Nat → List Nat
  | 0 => []
  | m + 1 => if s.getLsbD m then numsTo s m ++ [m] else numsTo s m
def nums (s : Bv) : List Nat := numsTo s 64
theorem numsTo_length (s : Bv) : ∀ m, (numsTo s m).length = cntTo s.getLsbD m
  | 0 => rfl
  | m + 1 => by
    rw [cntTo_succ, numsTo]
    cases h : s.getLsbD m
    · simp; exact numsTo_length s m
    · simp [numsTo_length s m]
theorem nums_length (s : Bv) : (nums s).length = cnt s := numsTo_length s 64
theorem numsTo_at (s : Bv) (n : Nat) (hs : s.getLsbD n = true) : ∀ m, n < m → (numsTo s m)[cntTo s.getLsbD n]? = some n
  | 0, h => by omega
  | m + 1, h => by
    rw [numsTo]
    by_cases e : n = m
    · subst e
      rw [hs, if_pos rfl, List.getElem?_append_right (by rw [numsTo_length]; omega), numsTo_length]; simp
    · have ih := numsTo_at s n hs m (by omega)
      split
      · rw [List.getElem?_append_left (by rw [numsTo_length]; exact cntTo_hit _ (by omega) hs)]; exact ih
      · exact ih
theorem nums_at (s : Bv) (n : Nat) (hn : n < 64) (hs : s.getLsbD n = true) : (nums s)[cntTo s.getLsbD n]? = some n := numsTo_at s n hs 64 hn
theorem nums_get (s : Bv) (k : Nat) (h : k < cnt s) : ∃ n, n < 64 ∧ s.getLsbD n = true ∧ cntTo s.getLsbD n = k ∧ (nums s)[k]? = some n := by
  obtain ⟨n, h1, h2, h3⟩ := cntTo_mid _ k 64 h
  exact ⟨n, h1, h2, h3, by rw [← h3]; exact nums_at s n h1 h2⟩
/-- one number more, from the front on -/
theorem nums_take (s : Bv) (n : Nat) (hn : n < 64) (hs : s.getLsbD n = true) :
    (nums s).take (cntTo s.getLsbD n + 1) = (nums s).take (cntTo s.getLsbD n) ++ [n] := by
  have h := nums_at s n hn hs
  rw [List.take_add_one, h]; rfl

/-! s without its j least numbers -/
def Least (s : Bv) (n : Nat) : Prop := n < 64 ∧ s.getLsbD n = true ∧ ∀ i, i < n → s.getLsbD i = false
theorem least_unique {s : Bv} {m n : Nat} (hm : Least s m) (hn : Least s n) : m = n := by
  rcases Nat.lt_trichotomy m n with h | h | h
  · have := hn.2.2 m h; rw [hm.2.1] at this; cases this
  · exact h
  · have := hm.2.2 n h; rw [hn.2.1] at this; cases this
/-- s without its least number -/
def rest (s : Bv) : Bv := s &&& (s - 1#64)
def Tail (s : Bv) (j : Nat) (t : Bv) : Prop := ∀ i, i < 64 → t.getLsbD i = (s.getLsbD i && decide (j ≤ cntTo s.getLsbD i))
theorem tail_zero (s : Bv) : Tail s 0 s := fun i _ => by simp
theorem tail_least {s t : Bv} {j n : Nat} (ht : Tail s j t) (hn : Least t n) : s.getLsbD n = true ∧ cntTo s.getLsbD n = j := by
  have h := hn.2.1
  rw [ht n hn.1] at h
  simp at h
  refine ⟨h.1, ?_⟩
  by_cases hlt : j < cntTo s.getLsbD n
  · exfalso
    obtain ⟨i, h1, h2, h3⟩ := cntTo_mid _ j n hlt
    have := hn.2.2 i h1
    have hi := hn.1
    rw [ht i (by omega), h2, h3] at this; simp at this
  · omega
theorem tail_next {s t : Bv} {j n : Nat} (ht : Tail s j t) (hn : Least t n) : Tail s (j + 1) (rest t) := fun i hi => by
  obtain ⟨h1, h2⟩ := tail_least ht hn
  rw [rest, drop_bit t n hn.1 hn.2.1 hn.2.2 i hi, ht i hi]
  cases hs : s.getLsbD i
  · simp
  · by_cases e : i = n
    · subst e; simp; omega
    · have : cntTo s.getLsbD i ≠ j := fun hc => e (cntTo_inj _ hs h1 (by omega))
      have hne : (i != n) = true := by rw [bne_iff_ne]; exact e
      rw [hne]; simp; omega
theorem tail_empty {s t : Bv} {j : Nat} (ht : Tail s j t) : t = 0#64 ↔ cnt s ≤ j := by
  constructor
  · intro e
    apply Nat.le_of_not_lt
    intro hlt
    obtain ⟨i, h1, h2, h3⟩ := cntTo_mid _ j 64 hlt
    have := ht i h1
    rw [e, h2, h3] at this; simp at this
  · intro h
    apply bv_ext
    intro i hi
    rw [ht i hi]
    cases hs : s.getLsbD i
    · simp
    · have := cntTo_hit _ hi hs
      unfold cnt at h
      simp; omega
end Go.Proofs.YtebjofffijnihaaGreatDoor
namespace Go.Proofs.YtebjofffijnihaaGreatDoor
set_option maxRecDepth 100000
open Go.ChangeShapes Go.WideShapes Go.ChangeAt Go.RowKit

/-- the table of math/bits lies in memory -/
def Tab (w : World) : Prop := 0 < w.heap.size ∧ ∀ k, k < 64 → w.cell? ⟨0, k, none⟩ = some (.int .u8 ((Lib.deBruijn64tab.getD k 0 : Nat) : Int))
theorem Tab.drewN {w : World} (h : Tab w) (n : Nat) : Tab (w.drewN n) := h
theorem Tab.below {B : Nat} {w w' : World} (h : Tab w) (hb : Below B w w') (hB : 0 < B) : Tab w' :=
  ⟨Nat.lt_of_lt_of_le h.1 hb.size, fun k hk => by rw [hb.cell (p := ⟨0, k, none⟩) hB]; exact h.2 k hk⟩
theorem Tab.alloc {w : World} (h : Tab w) (o : Obj) : Tab (w.alloc o) :=
  h.below (Below.alloc (Below.refl w.heap.size w) (Nat.le_refl _) o) h.1

theorem odd_bit (k m : Nat) : (2 ^ k * (2 * m + 1)).testBit k = true := by
  rw [Nat.mul_comm, Nat.testBit_mul_two_pow]; simp
theorem odd_low (k m i : Nat) (h : i < k) : (2 ^ k * (2 * m + 1)).testBit i = false := by
  rw [Nat.mul_comm, Nat.testBit_mul_two_pow]; simp; omega
theorem least_of (s : Bv) (h : s ≠ 0#64) : Least s (Lib.ctz 64 s.toNat) := by
  have h0 : s.toNat ≠ 0 := fun e => h (BitVec.eq_of_toNat_eq (by simpa using e))
  obtain ⟨m, hm, hk⟩ := Lib.ctzFrom_spec 64 s.toNat (by omega) s.isLt
  have e : Lib.ctz 64 s.toNat = Lib.ctzFrom 64 s.toNat := by simp [Lib.ctz, h0]
  rw [e]
  have hb : ∀ i, s.getLsbD i = s.toNat.testBit i := fun _ => rfl
  generalize Lib.ctzFrom 64 s.toNat = k at *
  refine ⟨hk, ?_, fun i hi => ?_⟩
  · rw [hb, hm]; exact odd_bit k m
  · rw [hb, hm]; exact odd_low k m i hi
theorem tz_idx (s : Bv) (h : s ≠ 0#64) :
    IntKind.u64.wrap (bits BinOp.and IntKind.u64 (s.toNat : Int) (IntKind.u64.wrap (-(s.toNat : Int))) * 285870213051353865) / 288230376151711744 =
      ((2 ^ Lib.ctz 64 s.toNat * 285870213051353865 % 18446744073709551616 / 288230376151711744 : Nat) : Int) := by
  have h0 : s.toNat ≠ 0 := fun e => h (BitVec.eq_of_toNat_eq (by simpa using e))
  have hl := bv_lt s
  have e1 : IntKind.u64.wrap (-(s.toNat : Int)) = ((18446744073709551616 - s.toNat : Nat) : Int) := by rw [IntKind.wrap_u64]; omega
  have e2 := (Lib.lowest_bit 64 s.toNat h0 s.isLt).1
  have e64 : (2 : Nat) ^ 64 = 18446744073709551616 := by decide
  rw [e64] at e2
  rw [e1, bits_and_u64_nat _ _ hl (by omega), e2, IntKind.wrap_u64]
  generalize 2 ^ Lib.ctz 64 s.toNat = x
  omega

def LeastPost (s : Bv) (w : World) (e : Ending) (w' : World) : Prop := ∃ n : Nat, Least s n ∧ e = .returned (.int .i64 n) ∧ w = w'

/-- the number that the search makes of s, and what the table holds there -/
def Spot (s : Bv) (j k : Nat) : Prop := j < 64 ∧ Lib.deBruijn64tab.getD j 0 = k ∧ Least s k ∧
  IntKind.u64.wrap (bits BinOp.and IntKind.u64 (s.toNat : Int) (IntKind.u64.wrap (-(s.toNat : Int))) * 285870213051353865) / 288230376151711744 = (j : Int)
theorem spot (s : Bv) (h : s ≠ 0#64) : ∃ j k, Spot s j k := by
  have hl := least_of s h
  have hd := Lib.deBruijn64_at _ hl.1
  exact ⟨_, _, hd.1, hd.2, hl, tz_idx s h⟩

set_option maxHeartbeats 400000 in
theorem tz_any (s : Bv) (w : World) (h : s ≠ 0#64) (ht : Tab w) :
    Calls Tryz.prog 59 #[.int .u64 s.toNat] w (LeastPost s w) := by
  have hb : ((s.toNat : Int) == 0) = false := by
    cases hc : ((s.toNat : Int) == 0)
    · rfl
    · exact absurd ((bv_zero_iff _).1 hc) h
  obtain ⟨j, k, hj, hd, hl, hi⟩ := spot s h
  have hc := ht.2 j hj
  rw [hd] at hc
  have hk := hl.1
  have hj' : (j : Int) < 64 := by omega
  have HL := Lib.hid hl
  clear hl h hd ht hj
  go_enter Tryz.func59, Tryz.ntmps59
  go_wp2
  go_ret
  exact ⟨k, HL.out, rfl, rfl⟩

theorem smallest_any (s : Bv) (w : World) (h : s ≠ 0#64) (ht : Tab w) :
    Calls Tryz.prog 36 #[.int .u64 s.toNat] w (LeastPost s w) := by
  have H := Lib.hid h; clear h
  have HT := Lib.hid ht; clear ht
  go_enter Tryz.func36, Tryz.ntmps36
  go_wp2_with fail
  refine (tz_any _ _ H.out HT.out).mono ?_
  rintro e w' ⟨n, hn, rfl, rfl⟩
  have HN := Lib.hid hn; clear hn
  go_wp2
  go_ret
  exact ⟨n, HN.out, rfl, rfl⟩

theorem without_any (s : Bv) (w : World) :
    Calls Tryz.prog 37 #[.int .u64 s.toNat] w fun e w' => e = .returned (.int .u64 (rest s).toNat) ∧ w = w' := by
  go_enter Tryz.func37, Tryz.ntmps37
  go_wp2
  go_ret
  refine ⟨ret_int ?_, rfl⟩
  rw [bv_sub_one, bv_and]; rfl
end Go.Proofs.YtebjofffijnihaaGreatDoor
namespace Go.Proofs.YtebjofffijnihaaGreatDoor
set_option maxRecDepth 100000
open Go.ChangeShapes Go.WideShapes Go.ChangeAt Go.RowKit

/-- what Next hands back: there is none from n on, or the first one -/
def NextPost (s : Bv) (c : Nat) (w : World) (e : Ending) (w' : World) : Prop := w = w' ∧
  ((e = .returned (.tuple #[.int .i64 0, .bool false]) ∧ ∀ i, c ≤ i → i < 64 → s.getLsbD i = false) ∨
   ∃ m : Nat, e = .returned (.tuple #[.int .i64 m, .bool true]) ∧ m < 64 ∧ c ≤ m ∧ s.getLsbD m = true ∧ ∀ i, c ≤ i → i < m → s.getLsbD i = false)

theorem from_bit (s : Bv) (c i : Nat) (hi : i < 64) : (s &&& ~~~low c).getLsbD i = (s.getLsbD i && decide (c ≤ i)) := by
  rw [BitVec.getLsbD_and, BitVec.getLsbD_not, low_bit c i hi]
  by_cases h : i < c
  · have : ¬ c ≤ i := by omega
    simp [h, this]
  · have : c ≤ i := by omega
    simp [h, hi, this]

/-- what Nth hands back where there is such an element -/
def NthPost (s : Bv) (k : Nat) (w : World) (e : Ending) (w' : World) : Prop := ∃ n : Nat, e = .returned (.tuple #[.int .i64 n, .bool true]) ∧ n < 64 ∧ s.getLsbD n = true ∧ cntTo s.getLsbD n = k ∧ w = w'

end Go.Proofs.YtebjofffijnihaaGreatDoor
namespace Go.Proofs.YtebjofffijnihaaGreatDoor
set_option maxRecDepth 100000
open Go.ChangeShapes Go.WideShapes Go.ChangeAt Go.RowKit

end Go.Proofs.YtebjofffijnihaaGreatDoor
namespace Go.Proofs.YtebjofffijnihaaGreatDoor
set_option maxRecDepth 100000
open Go.ChangeShapes Go.WideShapes Go.ChangeAt Go.RowKit

def ints (l : List Nat) : List Value := l.map fun n : Nat => Value.int .i64 (n : Int)
theorem ints_length (l : List Nat) : (ints l).length = l.length := by simp [ints]
theorem ints_append (l m : List Nat) : ints (l ++ m) = ints l ++ ints m := by simp [ints]
theorem ints_get (l : List Nat) (k n : Nat) (h : l[k]? = some n) : (ints l)[k]? = some (.int .i64 (n : Int)) := by simp [ints, h]

theorem infoInt : (Tryz.prog.info? 3).map (fun i => (i.zero, i.size, i.bytes)) = some (some (.int .i64 0), 1, 8) := by kernel_rfl

/-- what List hands back: a new row of the numbers of s -/
def ListPost (s : Bv) (w : World) (e : Ending) (w' : World) : Prop :=
  e = .returned (.slice (some ⟨w.heap.size, 0, none⟩) (cnt s) (cnt s)) ∧
  w'.ownsRow w.heap.size 3 1 (.slice (some ⟨w.heap.size, 0, none⟩) (cnt s) (cnt s)) (cnt s) (ints (nums s)) ∧ Below w.heap.size w w'

set_option maxHeartbeats 1000000 in
theorem list_any (s : Bv) (w : World) (ht : Tab w) : Calls Tryz.prog 17 #[.int .u64 s.toNat] w (ListPost s w) := by
  have HT := Lib.hid ht; clear ht
  have hc := cnt_le s
  obtain ⟨i0, hi, hz0, hz1, hz2⟩ := info_parts infoInt
  have HI := Lib.hid hi; clear hi
  have HZ0 := Lib.hid hz0; clear hz0
  have HZ1 := Lib.hid hz1; clear hz1
  have HZ2 := Lib.hid hz2; clear hz2
  go_enter Tryz.func17, Tryz.ntmps17
  go_wp2_with fail
  refine (count _ _).mono ?_
  rintro e w' ⟨rfl, rfl⟩
  go_wp2_with (at_make; refine wpList_make_own _ rfl _ _ 57 rfl w.heap.size 3 i0 (.int .i64 0) 1 Tryz.underlying57 HI.out HZ0.out HZ1.out _ _ _ (cnt s) rfl rfl (by omega) ?b2 ?b3 (Nat.le_refl _) ?_)
  case b2 => rw [HZ2.out]; omega
  case b3 => unfold maxLen; omega
  intro w0 hown0 hgrow0
  have hb0 : Below w.heap.size w w0 := (Below.refl _ _).grown hgrow0 (Nat.le_refl _) (fun k h => by cases h)
  clear hgrow0
  go_wp2_with fail
  go_loopw [0, 3] (fun v l wr => ∃ (j : Nat) (t : Bv), j ≤ cnt s ∧ Tail s j t ∧ v = .int .u64 t.toNat ∧ l = .slice (some ⟨w.heap.size, 0, none⟩) j (cnt s) ∧
      wr.ownsRow w.heap.size 3 1 (.slice (some ⟨w.heap.size, 0, none⟩) j (cnt s)) j (ints ((nums s).take j)) ∧ Below w.heap.size w wr) (fun _ l _ => cnt s - lenOf l)
  case atStart => exact ⟨0, s, Nat.zero_le _, tail_zero s, rfl, rfl, hown0, hb0⟩
  case round =>
    obtain ⟨j, t, hj, htl, rfl, rfl, hown, hb⟩ := hrel
    clear hown0 hb0
    have HO := Lib.hid hown; clear hown
    have HB := Lib.hid hb; clear hb
    have HL := Lib.hid htl; clear htl
    by_cases hlt : j < cnt s
    · have hne : t ≠ 0#64 := fun e => by have := (tail_empty HL.out).1 e; omega
      have hb : ((t.toNat : Int) != 0) = true := by rw [bv_ne_zero, bne_iff_ne]; exact hne
      have HN := Lib.hid hne; clear hne
      go_wp2_with fail
      refine (smallest_any _ _ HN.out (HT.out.below HB.out HT.out.1)).mono ?_
      rintro e w' ⟨m, hm, rfl, rfl⟩
      have HM := Lib.hid hm; clear hm
      go_wp2_with (at_builtin; refine wpList_append_fits _ rfl _ _ 57 rfl w.heap.size 3 i0 1 Tryz.underlying57 HI.out HZ1.out w.heap.size j (cnt s) _ rfl (HO.out.alloc _) ⟨wr.heap.size, 0, none⟩ 1 1 [.int .i64 (m : Int)] rfl rfl ?c1 ?c2 (by omega) ?_)
      case c1 =>
        intro i u hu
        match i, hu with
        | 0, hu => simp at hu; subst hu; simp [Addr.add]
      case c2 => intro u hu; simp at hu; subst hu; rfl
      intro w1 hown1 hgrow1
      have hb1 : Below w.heap.size w w1 := (HB.out.alloc HB.out.size _).grown hgrow1 (by have := HB.out.size; simp; omega) (fun k hk => by cases hk; exact Nat.le_refl _)
      have HB1 := Lib.hid hb1; clear hb1 hgrow1
      have HO1 := Lib.hid hown1; clear hown1
      go_wp2_with fail
      refine (without_any _ _).mono ?_
      rintro e w' ⟨rfl, rfl⟩
      go_wp2
      go_roundw
      case rel =>
        obtain ⟨h1, h2⟩ := tail_least HL.out HM.out
        refine ⟨j + 1, rest t, by omega, tail_next HL.out HM.out, rfl, rfl, ?_, HB1.out⟩
        have e := nums_take s m HM.out.1 h1
        rw [h2] at e
        rw [e, ints_append]
        exact HO1.out
      case measure => simp [lenOf]; omega
    · have he : t = 0#64 := (tail_empty HL.out).2 (by omega)
      subst he
      obtain rfl : j = cnt s := by omega
      go_wp2
      go_ret
      refine ⟨rfl, ?_, HB.out⟩
      have := HO.out
      rwa [List.take_of_length_le (by rw [nums_length]; omega)] at this
end Go.Proofs.YtebjofffijnihaaGreatDoor
namespace Go.Proofs.YtebjofffijnihaaGreatDoor
set_option maxRecDepth 100000

theorem numsTo_mem (s : Bv) : ∀ m n, n ∈ numsTo s m ↔ n < m ∧ s.getLsbD n = true
  | 0, n => by simp [numsTo]
  | m + 1, n => by
    rw [numsTo]
    cases h : s.getLsbD m
    · rw [if_neg (by simp), numsTo_mem s m n]
      constructor
      · rintro ⟨a, b⟩; exact ⟨by omega, b⟩
      · rintro ⟨a, b⟩
        refine ⟨?_, b⟩
        by_cases e : n = m
        · subst e; rw [h] at b; cases b
        · omega
    · rw [if_pos rfl, List.mem_append, List.mem_singleton, numsTo_mem s m n]
      constructor
      · rintro (⟨a, b⟩ | rfl)
        · exact ⟨by omega, b⟩
        · exact ⟨by omega, h⟩
      · rintro ⟨a, b⟩
        by_cases e : n = m
        · exact .inr e
        · exact .inl ⟨by omega, b⟩
theorem nums_mem {s : Bv} {n : Nat} : n ∈ nums s ↔ n < 64 ∧ s.getLsbD n = true := numsTo_mem s 64 n
theorem numsTo_up (s : Bv) : ∀ m, (numsTo s m).Pairwise (· < ·)
  | 0 => List.Pairwise.nil
  | m + 1 => by
    rw [numsTo]
    split
    · refine List.pairwise_append.2 ⟨numsTo_up s m, List.pairwise_singleton _ _, fun a ha b hb => ?_⟩
      rw [List.mem_singleton] at hb; subst hb
      exact ((numsTo_mem s _ a).1 ha).1
    · exact numsTo_up s m
theorem nums_up (s : Bv) : (nums s).Pairwise (· < ·) := numsTo_up s 64
theorem nat_ext : ∀ {a b : List Nat}, a.Pairwise (· < ·) → b.Pairwise (· < ·) → (∀ x, x ∈ a ↔ x ∈ b) → a = b
  | [], [], _, _, _ => rfl
  | [], y :: _, _, _, h => absurd ((h y).2 (List.mem_cons_self ..)) List.not_mem_nil
  | x :: _, [], _, _, h => absurd ((h x).1 (List.mem_cons_self ..)) List.not_mem_nil
  | x :: a, y :: b, ha, hb, h => by
    obtain ⟨ha1, ha2⟩ := List.pairwise_cons.1 ha
    obtain ⟨hb1, hb2⟩ := List.pairwise_cons.1 hb
    have hxy : x = y := by
      rcases List.mem_cons.1 ((h x).1 (List.mem_cons_self ..)) with e | e
      · exact e
      · rcases List.mem_cons.1 ((h y).2 (List.mem_cons_self ..)) with e' | e'
        · exact e'.symm
        · have h1 := hb1 x e
          have h2 := ha1 y e'
          omega
    subst hxy
    rw [nat_ext ha2 hb2 fun z => ?_]
    constructor
    · intro hz
      rcases List.mem_cons.1 ((h z).1 (List.mem_cons_of_mem _ hz)) with e | e
      · subst e; have := ha1 z hz; omega
      · exact e
    · intro hz
      rcases List.mem_cons.1 ((h z).2 (List.mem_cons_of_mem _ hz)) with e | e
      · subst e; have := hb1 z hz; omega
      · exact e

/-! edges -/
abbrev Ed := Int × Int
def edLt (a b : Ed) : Prop := a.1 < b.1 ∨ a.1 = b.1 ∧ a.2 < b.2
def EdUp (l : List Ed) : Prop := l.Pairwise edLt
theorem edLt_irrefl (a : Ed) : ¬ edLt a a := fun h => by rcases h with h | ⟨_, h⟩ <;> omega
theorem edLt_trans {a b c : Ed} (h : edLt a b) (k : edLt b c) : edLt a c := by
  rcases h with h | ⟨h1, h2⟩ <;> rcases k with k | ⟨k1, k2⟩
  · exact .inl (by omega)
  · exact .inl (by omega)
  · exact .inl (by omega)
  · exact .inr ⟨by omega, by omega⟩
theorem ed_ext : ∀ {a b : List Ed}, EdUp a → EdUp b → (∀ x, x ∈ a ↔ x ∈ b) → a = b
  | [], [], _, _, _ => rfl
  | [], y :: _, _, _, h => absurd ((h y).2 (List.mem_cons_self ..)) List.not_mem_nil
  | x :: _, [], _, _, h => absurd ((h x).1 (List.mem_cons_self ..)) List.not_mem_nil
  | x :: a, y :: b, ha, hb, h => by
    obtain ⟨ha1, ha2⟩ := List.pairwise_cons.1 ha
    obtain ⟨hb1, hb2⟩ := List.pairwise_cons.1 hb
    have hxy : x = y := by
      rcases List.mem_cons.1 ((h x).1 (List.mem_cons_self ..)) with e | e
      · exact e
      · rcases List.mem_cons.1 ((h y).2 (List.mem_cons_self ..)) with e' | e'
        · exact e'.symm
        · exact absurd (edLt_trans (hb1 x e) (ha1 y e')) (edLt_irrefl _)
    subst hxy
    rw [ed_ext ha2 hb2 fun z => ?_]
    constructor
    · intro hz
      rcases List.mem_cons.1 ((h z).1 (List.mem_cons_of_mem _ hz)) with e | e
      · subst e; exact absurd (ha1 z hz) (edLt_irrefl _)
      · exact e
    · intro hz
      rcases List.mem_cons.1 ((h z).2 (List.mem_cons_of_mem _ hz)) with e | e
      · subst e; exact absurd (hb1 z hz) (edLt_irrefl _)
      · exact e
def EdIn (n : Nat) (l : List Ed) : Prop := ∀ x ∈ l, 0 ≤ x.1 ∧ x.1 < (n : Int) ∧ 0 ≤ x.2 ∧ x.2 < (n : Int)
def sw (x : Ed) : Ed := (x.2, x.1)
theorem EdIn.sw {n : Nat} {l : List Ed} (h : EdIn n l) : EdIn n (l.map sw) := fun x hx => by
  obtain ⟨y, hy, rfl⟩ := List.mem_map.1 hx
  obtain ⟨a, b, c, d⟩ := h y hy
  exact ⟨c, d, a, b⟩
theorem EdIn.take {n : Nat} {l : List Ed} (h : EdIn n l) (k : Nat) : EdIn n (l.take k) := fun x hx => h x (List.mem_of_mem_take hx)

/-! rows of sets -/
def wAt (r : List Bv) (i : Nat) : Bv := r.getD i 0#64
def orAt (r : List Bv) (i : Nat) (s : Bv) : List Bv := r.set i (wAt r i ||| s)
theorem orAt_length (r : List Bv) (i : Nat) (s : Bv) : (orAt r i s).length = r.length := List.length_set
theorem wAt_orAt (r : List Bv) (i j : Nat) (s : Bv) (hi : i < r.length) : wAt (orAt r i s) j = if j = i then wAt r i ||| s else wAt r j := by
  unfold orAt wAt
  rw [List.getD, List.getElem?_set]
  by_cases h : i = j
  · subst h; rw [if_pos rfl, if_pos hi, if_pos rfl]; rfl
  · rw [if_neg h, if_neg (fun e => h e.symm)]; rfl
def rowsFrom (r : List Bv) (es : List Ed) : List Bv := es.foldl (fun r e => orAt r e.1.toNat (one e.2.toNat)) r
def rowsTo (n : Nat) (es : List Ed) : List Bv := rowsFrom (List.replicate n 0#64) es
theorem rowsFrom_length : ∀ (es : List Ed) (r : List Bv), (rowsFrom r es).length = r.length
  | [], _ => rfl
  | e :: es, r => by
    show (rowsFrom (orAt r e.1.toNat (one e.2.toNat)) es).length = _
    rw [rowsFrom_length es, orAt_length]
theorem rowsTo_length (n : Nat) (es : List Ed) : (rowsTo n es).length = n := by unfold rowsTo; rw [rowsFrom_length, List.length_replicate]
theorem rowsTo_snoc (n : Nat) (es : List Ed) (x : Ed) : rowsTo n (es ++ [x]) = orAt (rowsTo n es) x.1.toNat (one x.2.toNat) := by
  unfold rowsTo rowsFrom; rw [List.foldl_append]; rfl
theorem rowsTo_nil (n : Nat) : rowsTo n [] = List.replicate n 0#64 := rfl
theorem rowsFrom_bit {n : Nat} : ∀ (es : List Ed) (r : List Bv), EdIn n es → n ≤ r.length → ∀ i k, k < 64 → ((wAt (rowsFrom r es) i).getLsbD k = true ↔ (wAt r i).getLsbD k = true ∨ ((i : Int), (k : Int)) ∈ es)
  | [], r, _, _, i, k, _ => by
    show (wAt r i).getLsbD k = true ↔ _
    simp
  | e :: es, r, h, hn, i, k, hk => by
    show (wAt (rowsFrom (orAt r e.1.toNat (one e.2.toNat)) es) i).getLsbD k = true ↔ _
    obtain ⟨h1, h2, h3, h4⟩ := h e (List.mem_cons_self ..)
    rw [rowsFrom_bit es _ (fun x hx => h x (List.mem_cons_of_mem _ hx)) (by rw [orAt_length]; exact hn) i k hk, wAt_orAt _ _ _ _ (by omega), List.mem_cons]
    by_cases hi : i = e.1.toNat
    · rw [if_pos hi, BitVec.getLsbD_or, one_bit _ k hk, Bool.or_eq_true, decide_eq_true_iff, or_assoc, ← hi]
      have : k = e.2.toNat ↔ ((i : Int), (k : Int)) = e := by
        constructor
        · intro hk; exact Prod.ext (by simp; omega) (by simp; omega)
        · intro he; rw [← he]; simp
      rw [this]
    · rw [if_neg hi]
      have : ((i : Int), (k : Int)) ≠ e := fun he => hi (by rw [← he]; simp)
      simp [this]
theorem wAt_replicate (n i : Nat) : wAt (List.replicate n 0#64) i = 0#64 := by
  unfold wAt
  rw [List.getD, List.getElem?_replicate]
  split <;> rfl
/-- a row of the edges' rows: what they say -/
theorem rowsTo_bit {n : Nat} {es : List Ed} (h : EdIn n es) (i k : Nat) (hk : k < 64) : (wAt (rowsTo n es) i).getLsbD k = true ↔ ((i : Int), (k : Int)) ∈ es := by
  unfold rowsTo
  rw [rowsFrom_bit es _ h (by rw [List.length_replicate]; exact Nat.le_refl _) i k hk, wAt_replicate]
  simp

/-! the edges of rows -/
def edgesAt (i : Nat) (s : Bv) : List Ed := (nums s).map fun k : Nat => ((i : Int), (k : Int))
def edgesTo (r : List Bv) (m : Nat) : List Ed := (List.range m).flatMap fun i => edgesAt i (wAt r i)
def edgesL (r : List Bv) : List Ed := edgesTo r r.length
theorem edgesTo_zero (r : List Bv) : edgesTo r 0 = [] := rfl
theorem edgesTo_succ (r : List Bv) (m : Nat) : edgesTo r (m + 1) = edgesTo r m ++ edgesAt m (wAt r m) := by
  unfold edgesTo
  rw [List.range_succ, List.flatMap_append]; simp
theorem edgesAt_mem {i : Nat} {s : Bv} {x : Ed} : x ∈ edgesAt i s ↔ ∃ k : Nat, k < 64 ∧ s.getLsbD k = true ∧ x = ((i : Int), (k : Int)) := by
  unfold edgesAt
  rw [List.mem_map]
  constructor
  · rintro ⟨k, hk, rfl⟩; exact ⟨k, (nums_mem.1 hk).1, (nums_mem.1 hk).2, rfl⟩
  · rintro ⟨k, h1, h2, rfl⟩; exact ⟨k, nums_mem.2 ⟨h1, h2⟩, rfl⟩
theorem edgesTo_mem {r : List Bv} : ∀ {m : Nat} {x : Ed}, x ∈ edgesTo r m ↔ ∃ i k : Nat, i < m ∧ k < 64 ∧ (wAt r i).getLsbD k = true ∧ x = ((i : Int), (k : Int))
  | 0, x => by rw [edgesTo_zero]; simp
  | m + 1, x => by
    rw [edgesTo_succ, List.mem_append, edgesTo_mem, edgesAt_mem]
    constructor
    · rintro (⟨i, k, h1, h2⟩ | ⟨k, h1⟩)
      · exact ⟨i, k, by omega, h2⟩
      · exact ⟨m, k, by omega, h1⟩
    · rintro ⟨i, k, h1, h2⟩
      by_cases e : i = m
      · subst e; exact .inr ⟨k, h2⟩
      · exact .inl ⟨i, k, by omega, h2⟩
theorem edgesTo_up (r : List Bv) : ∀ m, EdUp (edgesTo r m)
  | 0 => List.Pairwise.nil
  | m + 1 => by
    unfold EdUp
    rw [edgesTo_succ]
    refine List.pairwise_append.2 ⟨edgesTo_up r m, ?_, fun a ha b hb => ?_⟩
    · unfold edgesAt
      refine List.pairwise_map.2 ((nums_up _).imp fun h => .inr ⟨rfl, ?_⟩)
      simpa using h
    · obtain ⟨i, k, h1, _, _, rfl⟩ := edgesTo_mem.1 ha
      obtain ⟨j, _, _, rfl⟩ := edgesAt_mem.1 hb
      exact .inl (by simpa using h1)
theorem edgesL_up (r : List Bv) : EdUp (edgesL r) := edgesTo_up r _
theorem edgesTo_le (r : List Bv) : ∀ m, (edgesTo r m).length ≤ 64 * m
  | 0 => Nat.zero_le _
  | m + 1 => by
    rw [edgesTo_succ, List.length_append]
    have := edgesTo_le r m
    have h2 : (edgesAt m (wAt r m)).length ≤ 64 := by unfold edgesAt; rw [List.length_map, nums_length]; exact cnt_le _
    omega
theorem edgesL_in {r : List Bv} (h : ∀ i, i < r.length → ∀ k, r.length ≤ k → (wAt r i).getLsbD k = false) : EdIn r.length (edgesL r) := fun x hx => by
  obtain ⟨i, k, h1, h2, h3, rfl⟩ := edgesTo_mem.1 hx
  refine ⟨by simp, by simpa using h1, by simp, ?_⟩
  rcases Nat.lt_or_ge k r.length with h' | h'
  · simpa using h'
  · rw [h i h1 k h'] at h3; cases h3
/-- the edges of the rows of edges in order are these -/
theorem edges_rows {n : Nat} {es : List Ed} (h : EdIn n es) (hu : EdUp es) (hn : n ≤ 64) : edgesL (rowsTo n es) = es := by
  refine ed_ext (edgesL_up _) hu fun x => ?_
  unfold edgesL
  rw [edgesTo_mem, rowsTo_length]
  constructor
  · rintro ⟨i, k, h1, h2, h3, rfl⟩; exact (rowsTo_bit h i k h2).1 h3
  · intro hx
    obtain ⟨h1, h2, h3, h4⟩ := h x hx
    refine ⟨x.1.toNat, x.2.toNat, by omega, by omega, (rowsTo_bit h _ _ (by omega)).2 ?_, Prod.ext (by simp; omega) (by simp; omega)⟩
    have : (((x.1.toNat : Nat) : Int), ((x.2.toNat : Nat) : Int)) = x := Prod.ext (by simp; omega) (by simp; omega)
    rw [this]; exact hx
theorem edgesL_mem {r : List Bv} {i k : Nat} : (((i : Int), (k : Int)) ∈ edgesL r) ↔ i < r.length ∧ k < 64 ∧ (wAt r i).getLsbD k = true := by
  unfold edgesL
  rw [edgesTo_mem]
  constructor
  · rintro ⟨i', k', h1, h2, h3, e⟩
    have e1 : i = i' := by have h : (i : Int) = (i' : Int) := congrArg Prod.fst e; omega
    have e2 : k = k' := by have h : (k : Int) = (k' : Int) := congrArg Prod.snd e; omega
    subst e1 e2
    exact ⟨h1, h2, h3⟩
  · rintro ⟨h1, h2, h3⟩; exact ⟨i, k, h1, h2, h3, rfl⟩

/-! renumbered -/
def orAll (s u : Bv) (l : List Nat) : Bv := l.foldl (fun u n => u ||| one (cntTo s.getLsbD n)) u
def renum (t s : Bv) : Bv := orAll s 0#64 (nums (t &&& s))
theorem orAll_snoc (s u : Bv) (l : List Nat) (n : Nat) : orAll s u (l ++ [n]) = orAll s u l ||| one (cntTo s.getLsbD n) := by
  unfold orAll; rw [List.foldl_append]; rfl
theorem orAll_bit (s : Bv) : ∀ (l : List Nat) (u : Bv) (i : Nat), i < 64 → ((orAll s u l).getLsbD i = true ↔ u.getLsbD i = true ∨ ∃ n ∈ l, cntTo s.getLsbD n = i)
  | [], u, i, _ => by
    show u.getLsbD i = true ↔ _
    simp
  | n :: l, u, i, hi => by
    show (orAll s (u ||| one (cntTo s.getLsbD n)) l).getLsbD i = true ↔ _
    rw [orAll_bit s l _ i hi, BitVec.getLsbD_or, one_bit _ i hi, Bool.or_eq_true, decide_eq_true_iff]
    constructor
    · rintro ((h | h) | ⟨m, h1, h2⟩)
      · exact .inl h
      · exact .inr ⟨n, List.mem_cons_self .., h.symm⟩
      · exact .inr ⟨m, List.mem_cons_of_mem _ h1, h2⟩
    · rintro (h | ⟨m, h1, h2⟩)
      · exact .inl (.inl h)
      · rcases List.mem_cons.1 h1 with rfl | h1
        · exact .inl (.inr h2.symm)
        · exact .inr ⟨m, h1, h2⟩
theorem renum_bit (t s : Bv) (i : Nat) : (renum t s).getLsbD i = true ↔ ∃ n, n < 64 ∧ t.getLsbD n = true ∧ s.getLsbD n = true ∧ cntTo s.getLsbD n = i := by
  rcases Nat.lt_or_ge i 64 with hi | hi
  · unfold renum
    rw [orAll_bit s _ _ i hi]
    constructor
    · rintro (h | ⟨n, h1, h2⟩)
      · simp at h
      · obtain ⟨h3, h4⟩ := nums_mem.1 h1
        rw [BitVec.getLsbD_and, Bool.and_eq_true] at h4
        exact ⟨n, h3, h4.1, h4.2, h2⟩
    · rintro ⟨n, h1, h2, h3, h4⟩
      exact .inr ⟨n, nums_mem.2 ⟨h1, by rw [BitVec.getLsbD_and, h2, h3]; rfl⟩, h4⟩
  · rw [bit_ge _ hi]
    constructor
    · intro h; cases h
    · rintro ⟨n, h1, _, h3, h4⟩
      have := cntTo_hit s.getLsbD h1 h3
      have := cnt_le s
      unfold cnt at this
      omega
theorem renum_at (t s : Bv) {n : Nat} (hs : s.getLsbD n = true) : (renum t s).getLsbD (cntTo s.getLsbD n) = t.getLsbD n := by
  have hn : n < 64 := by
    rcases Nat.lt_or_ge n 64 with h | h
    · exact h
    · rw [bit_ge s h] at hs; cases hs
  rw [Bool.eq_iff_iff, renum_bit]
  constructor
  · rintro ⟨m, _, h2, h3, h4⟩
    rw [← cntTo_inj _ h3 hs h4]; exact h2
  · intro h; exact ⟨n, hn, h, hs, rfl⟩
theorem renum_high (t s : Bv) {i : Nat} (h : cnt s ≤ i) : (renum t s).getLsbD i = false := by
  cases hc : (renum t s).getLsbD i
  · rfl
  · obtain ⟨n, h1, _, h3, h4⟩ := (renum_bit t s i).1 hc
    have := cntTo_hit s.getLsbD h1 h3
    unfold cnt at h
    omega
/-- how many of the renumbered set are below a rank -/
theorem renum_rank (t s : Bv) : ∀ n, cntTo (renum t s).getLsbD (cntTo s.getLsbD n) = cntTo (s &&& t).getLsbD n
  | 0 => rfl
  | n + 1 => by
    rw [cntTo_succ s.getLsbD, cntTo_succ (s &&& t).getLsbD, BitVec.getLsbD_and]
    cases hs : s.getLsbD n
    · simp [renum_rank t s n]
    · rw [if_pos rfl, cntTo_succ, renum_at t s hs, renum_rank t s n, Bool.true_and]

/-! graphs -/
structure Gr where
  ns : List Str
  es : List Ed
  ph : Bv
  md : Bv
def SetIn (n : Nat) (s : Bv) : Prop := ∀ i, n ≤ i → s.getLsbD i = false
theorem setIn_or {n : Nat} {s t : Bv} (h : SetIn n (s ||| t)) : SetIn n s ∧ SetIn n t := by
  constructor
  · intro i hi
    have := h i hi
    rw [BitVec.getLsbD_or, Bool.or_eq_false_iff] at this
    exact this.1
  · intro i hi
    have := h i hi
    rw [BitVec.getLsbD_or, Bool.or_eq_false_iff] at this
    exact this.2
theorem setIn_mk {n : Nat} {s t : Bv} (h1 : SetIn n s) (h2 : SetIn n t) : SetIn n (s ||| t) := fun i hi => by
  rw [BitVec.getLsbD_or, h1 i hi, h2 i hi]; rfl
theorem setIn_iff {n : Nat} {s : Bv} : SetIn n s ↔ s &&& ~~~low n = 0#64 := by
  constructor
  · intro h
    refine bv_ext fun i hi => ?_
    rw [BitVec.getLsbD_and, BitVec.getLsbD_not, low_bit n i hi]
    by_cases hi' : i < n
    · simp [hi']
    · rw [h i (by omega)]; simp
  · intro h i hi
    rcases Nat.lt_or_ge i 64 with h' | h'
    · have : (s &&& ~~~low n).getLsbD i = (0#64).getLsbD i := by rw [h]
      rw [BitVec.getLsbD_and, BitVec.getLsbD_not, low_bit n i h'] at this
      have e : decide (i < n) = false := decide_eq_false (by omega)
      rw [e] at this
      simpa [h'] using this
    · exact bit_ge s h'
def turnG (g : Gr) : Gr := ⟨g.ns, edgesL (rowsTo g.ns.length (g.es.map sw)), g.ph, g.md⟩
def partG (g : Gr) (s : Bv) : Gr := ⟨(nums s).map fun n => g.ns.getD n [], edgesL ((nums s).map fun n => renum (wAt (rowsTo g.ns.length g.es) n) s), renum g.ph s, renum g.md s⟩
end Go.Proofs.YtebjofffijnihaaGreatDoor
