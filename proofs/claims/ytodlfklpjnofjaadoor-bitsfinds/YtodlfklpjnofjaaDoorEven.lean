/-
  What package bits' Even and Below answer, in terms of words. No condition.
-/
import Derived.Test.YtodlfklpjnofjaaDoorSets
namespace Go.Proofs.YtodlfklpjnofjaaDoor
open Go.ChangeShapes Go.WideShapes Go.ChangeAt Go.RowKit

/-! the mathematics of Even -/
def st (k : Nat) (s : Bv) : Bv := s ^^^ (s <<< k)
def ev (s : Bv) : Bv := st 32 (st 16 (st 8 (st 4 (st 2 (st 1 s)))))
theorem st_xor (k : Nat) (s t : Bv) : st k (s ^^^ t) = st k s ^^^ st k t := by
  unfold st
  rw [BitVec.shiftLeft_xor_distrib]
  apply bv_ext; intro i _
  simp only [BitVec.getLsbD_xor]
  cases s.getLsbD i <;> cases t.getLsbD i <;> cases (s <<< k).getLsbD i <;> cases (t <<< k).getLsbD i <;> rfl
theorem ev_xor (s t : Bv) : ev (s ^^^ t) = ev s ^^^ ev t := by
  unfold ev; simp only [st_xor]
theorem st_comm (j k : Nat) (s : Bv) : st j (st k s) = st k (st j s) := by
  unfold st
  rw [BitVec.shiftLeft_xor_distrib, BitVec.shiftLeft_xor_distrib, ← BitVec.shiftLeft_add, ← BitVec.shiftLeft_add, Nat.add_comm k j]
  apply bv_ext; intro i _
  simp only [BitVec.getLsbD_xor]
  cases s.getLsbD i <;> cases (s <<< (j + k)).getLsbD i <;> cases (s <<< k).getLsbD i <;> cases (s <<< j).getLsbD i <;> rfl
theorem st_sq (k : Nat) (s : Bv) : st k (st k s) = st (k + k) s := by
  unfold st
  rw [BitVec.shiftLeft_xor_distrib, ← BitVec.shiftLeft_add]
  apply bv_ext; intro i _
  simp only [BitVec.getLsbD_xor]
  cases s.getLsbD i <;> cases (s <<< (k + k)).getLsbD i <;> cases (s <<< k).getLsbD i <;> rfl
theorem st_64 (s : Bv) : st 64 s = s := by
  unfold st
  apply bv_ext; intro i hi
  rw [BitVec.getLsbD_xor, BitVec.getLsbD_shiftLeft]; simp [hi]
/-- Even taken back -/
theorem ev_back (s : Bv) : st 1 (ev s) = s := by
  unfold ev
  rw [st_comm 1 32, st_comm 1 16, st_comm 1 8, st_comm 1 4, st_comm 1 2, st_sq 1, st_sq 2, st_sq 4, st_sq 8, st_sq 16, st_sq 32, st_64]
theorem ev_one : ∀ n : Fin 64, ev (one n.val) = ~~~low n.val := by decide +kernel

/-! the walks -/
theorem one_walk (n : Nat) (h : n < 64) : IntKind.u64.wrap (2 ^ n) = ((one n).toNat : Int) := by
  rw [one_toNat n h, IntKind.wrap_u64]
  have hlt : 2 ^ n < 2 ^ 64 := Nat.pow_lt_pow_right (by omega) h
  have e : (2 : Int) ^ n = ((2 ^ n : Nat) : Int) := by simp
  rw [e]
  generalize 2 ^ n = x at *
  omega
theorem st_walk (s : Bv) (k : Nat) : bits .xor .u64 (s.toNat : Int) (IntKind.u64.wrap ((s.toNat : Int) * 2 ^ k)) = ((st k s).toNat : Int) := by
  rw [bv_shl, bv_xor]; rfl
def EvStep (s t : Bv) (m : Int) : Prop :=
  (m = 1 ∧ t = s) ∨ (m = 2 ∧ t = st 1 s) ∨ (m = 4 ∧ t = st 2 (st 1 s)) ∨ (m = 8 ∧ t = st 4 (st 2 (st 1 s))) ∨ (m = 16 ∧ t = st 8 (st 4 (st 2 (st 1 s)))) ∨
  (m = 32 ∧ t = st 16 (st 8 (st 4 (st 2 (st 1 s))))) ∨ (m = 64 ∧ t = ev s)
theorem evStep_next {s t : Bv} {m : Int} (h : EvStep s t m) (hm : m < 64) : EvStep s (st m.toNat t) (m * 2) := by
  rcases h with ⟨rfl, rfl⟩ | ⟨rfl, rfl⟩ | ⟨rfl, rfl⟩ | ⟨rfl, rfl⟩ | ⟨rfl, rfl⟩ | ⟨rfl, rfl⟩ | ⟨rfl, rfl⟩
  · exact .inr (.inl ⟨rfl, rfl⟩)
  · exact .inr (.inr (.inl ⟨rfl, rfl⟩))
  · exact .inr (.inr (.inr (.inl ⟨rfl, rfl⟩)))
  · exact .inr (.inr (.inr (.inr (.inl ⟨rfl, rfl⟩))))
  · exact .inr (.inr (.inr (.inr (.inr (.inl ⟨rfl, rfl⟩)))))
  · exact .inr (.inr (.inr (.inr (.inr (.inr ⟨rfl, rfl⟩)))))
  · omega
theorem evStep_bounds {s t : Bv} {m : Int} (h : EvStep s t m) : 1 ≤ m ∧ m ≤ 64 := by
  rcases h with ⟨rfl, _⟩ | ⟨rfl, _⟩ | ⟨rfl, _⟩ | ⟨rfl, _⟩ | ⟨rfl, _⟩ | ⟨rfl, _⟩ | ⟨rfl, _⟩ <;> omega
theorem evStep_end {s t : Bv} {m : Int} (h : EvStep s t m) (hm : ¬ m < 64) : t = ev s := by
  rcases h with ⟨rfl, _⟩ | ⟨rfl, _⟩ | ⟨rfl, _⟩ | ⟨rfl, _⟩ | ⟨rfl, _⟩ | ⟨rfl, _⟩ | ⟨rfl, h⟩ <;> first | exact h | omega

theorem even_any (s : Bv) (w : World) :
    Calls Tryd.prog 18 #[.int .u64 s.toNat] w fun e w' => e = .returned (.int .u64 (ev s).toNat) ∧ w = w' := by
  go_enter Tryd.func18, Tryd.ntmps18
  go_wp2
  go_loop [0, 3] (fun a b => ∃ (t : Bv) (m : Int), EvStep s t m ∧ a = .int .u64 t.toNat ∧ b = .int .i64 m) (fun _ b => (64 - intOf b).toNat)
  case atStart => exact ⟨s, 1, .inl ⟨rfl, rfl⟩, rfl, rfl⟩
  case round =>
    obtain ⟨t, m, hs, rfl, rfl⟩ := hrel
    have hb := evStep_bounds hs
    have HS := Lib.hid hs; clear hs
    obtain ⟨hb1, hb2⟩ := hb
    by_cases hlt : m < 64
    · go_wp2
      go_round
      case rel =>
        refine ⟨st m.toNat t, m * 2, evStep_next HS.out hlt, ?_, rfl⟩
        rw [st_walk]
      case measure => simp [intOf]; omega
    · go_wp2
      go_ret
      rw [← evStep_end HS.out (by omega)]
      exact ⟨rfl, rfl⟩

theorem below_in (n : Int) (w : World) (h0 : 0 ≤ n) (h1 : n ≤ 64) :
    Calls Tryd.prog 8 #[.int .i64 n] w fun e w' => e = .returned (.tuple #[.int .u64 (low n.toNat).toNat, .int .i64 0]) ∧ w = w' := by
  go_enter Tryd.func8, Tryd.ntmps8
  go_wp2_with fail
  refine (below_any _ _).mono ?_
  rintro e w' ⟨rfl, rfl⟩
  go_wp2
  go_ret2
  refine ⟨?_, rfl⟩
  rw [show n.toNat = clamp n by unfold clamp; omega]
  rfl
theorem below_out (n : Int) (w : World) (h : n < 0 ∨ 64 < n) :
    Calls Tryd.prog 8 #[.int .i64 n] w fun e w' => e = .returned (.tuple #[.int .u64 0, .int .i64 4]) ∧ w = w' := by
  rcases h with h | h
  · go_enter Tryd.func8, Tryd.ntmps8
    go_wp2
    go_ret2
    exact ⟨rfl, rfl⟩
  · have h' : 0 ≤ n := by omega
    go_enter Tryd.func8, Tryd.ntmps8
    go_wp2
    go_ret2
    exact ⟨rfl, rfl⟩
end Go.Proofs.YtodlfklpjnofjaaDoor
