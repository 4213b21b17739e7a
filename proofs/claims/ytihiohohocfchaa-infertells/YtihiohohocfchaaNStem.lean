/-
  What package name's Stem and the reference's StemOf answer: where a name is cut. Condition: a string takes fewer than 2^62 bytes.
-/
import Derived.Test.YtihiohohocfchaaICh
import Derived.Test.YtihiohohocfchaaNm
import Derived.Test.YtihiohohocfchaaLaysR
import Derived.Lib.LastIndexByte
import Derived.Lib.Walk
namespace Go.Proofs.Ytihiohohocfchaa
set_option maxRecDepth 100000
open Go.ChangeShapes Go.WideShapes Go.ChangeAt Go.RowKit

theorem bang_at (s : ByteArray) (j : Nat) (hj : j < s.size) : (s.data[j]!).toNat = byteAt s j := by
  rw [getElem!_pos s.data j hj]; exact byteAt_get s j hj

theorem last_any (s : ByteArray) (c : Int) (hs : s.size < 4611686018427387904) (w : World) :
    Calls Try.prog 43 #[.string s, .int .u8 c] w fun e w' => e = .returned (.int .i64 (Lib.lastIndexByte s c)) ∧ w' = w :=
  Any.strings_LastIndexByte lastL s c hs w

/-- the name is cut at i -/
def Cut (s : ByteArray) (i : Nat) : Prop := 0 < i ∧ i < s.size ∧ byteAt s i = 46 ∧ byteAt s (i - 1) ≠ 47 ∧ ∀ j, i < j → j < s.size → byteAt s j ≠ 46 ∧ byteAt s j ≠ 47
theorem Cut.same {s : ByteArray} {i j : Nat} (h : Cut s i) (k : Cut s j) : i = j := by
  obtain ⟨_, h1, h2, _, h3⟩ := h
  obtain ⟨_, k1, k2, _, k3⟩ := k
  rcases Nat.lt_trichotomy i j with q | q | q
  · exact absurd k2 (h3 j q k1).1
  · exact q
  · exact absurd h2 (k3 i q h1).1

/-- the last of the bytes c: none, or where -/
theorem last_spec (s : ByteArray) (c : Nat) : (Lib.lastIndexByte s (c : Int) = -1 ∧ ∀ j, j < s.size → byteAt s j ≠ c) ∨
    ∃ i : Nat, i < s.size ∧ Lib.lastIndexByte s (c : Int) = i ∧ byteAt s i = c ∧ ∀ j, i < j → j < s.size → byteAt s j ≠ c := by
  rcases Lib.lastIndexByte_spec s (c : Int) with ⟨h1, h2⟩ | ⟨i, h1, h2, h3, h4⟩
  · exact .inl ⟨h1, fun j hj e => h2 j hj (by rw [bang_at s j hj, e])⟩
  · refine .inr ⟨i, h1, h2, ?_, fun j hj1 hj2 e => h4 j hj1 hj2 (by rw [bang_at s j hj2, e])⟩
    rw [bang_at s i h1] at h3; omega
theorem stem_cases (s : ByteArray) : (∃ i : Nat, Cut s i ∧ Lib.lastIndexByte s 46 = i ∧ Lib.lastIndexByte s 47 + 1 < i ∧ 0 ≤ Lib.lastIndexByte s 47 + 1) ∨
    (∀ i, ¬ Cut s i) ∧ Lib.lastIndexByte s 46 ≤ Lib.lastIndexByte s 47 + 1 ∧ 0 ≤ Lib.lastIndexByte s 47 + 1 ∧ Lib.lastIndexByte s 47 ≤ s.size := by
  have hd : (Lib.lastIndexByte s 46 = -1 ∧ ∀ j, j < s.size → byteAt s j ≠ 46) ∨ ∃ i : Nat, i < s.size ∧ Lib.lastIndexByte s 46 = i ∧ byteAt s i = 46 ∧ ∀ j, i < j → j < s.size → byteAt s j ≠ 46 := last_spec s 46
  have hl : (Lib.lastIndexByte s 47 = -1 ∧ ∀ j, j < s.size → byteAt s j ≠ 47) ∨ ∃ i : Nat, i < s.size ∧ Lib.lastIndexByte s 47 = i ∧ byteAt s i = 47 ∧ ∀ j, i < j → j < s.size → byteAt s j ≠ 47 := last_spec s 47
  rcases hd with ⟨d1, d2⟩ | ⟨d, d1, d2, d3, d4⟩
  · right
    refine ⟨fun i h => d2 i h.2.1 h.2.2.1, ?_⟩
    rcases hl with ⟨l1, _⟩ | ⟨l, l3, l2, _⟩
    · rw [d1, l1]; omega
    · rw [d1, l2]; omega
  · have cut_d : ∀ i, Cut s i → i = d := fun i h => by
      rcases Nat.lt_trichotomy i d with q | q | q
      · exact absurd d3 (h.2.2.2.2 d q d1).1
      · exact q
      · exact absurd h.2.2.1 (d4 i q h.2.1)
    rcases hl with ⟨l1, l2⟩ | ⟨l, l1, l2, l3, l4⟩
    · by_cases h0 : d = 0
      · right
        refine ⟨fun i h => ?_, by rw [d2, l1, h0]; omega⟩
        have := cut_d i h
        have := h.1
        omega
      · left
        exact ⟨d, ⟨by omega, d1, d3, l2 _ (by omega), fun j hj1 hj2 => ⟨d4 j hj1 hj2, l2 j hj2⟩⟩, d2, by rw [l1]; omega, by rw [l1]; omega⟩
    · by_cases h0 : l + 1 < d
      · left
        exact ⟨d, ⟨by omega, d1, d3, l4 _ (by omega) (by omega), fun j hj1 hj2 => ⟨d4 j hj1 hj2, l4 j (by omega) hj2⟩⟩, d2, by rw [l2]; omega, by rw [l2]; omega⟩
      · right
        refine ⟨fun i h => ?_, by rw [d2, l2]; omega⟩
        have e := cut_d i h
        subst e
        obtain ⟨h1, h2, h3, h4, h5⟩ := h
        by_cases q : i < l
        · exact (h5 l q l1).2 l3
        · have : l = i ∨ l = i - 1 := by omega
          rcases this with e | e
          · rw [e] at l3; omega
          · exact h4 (e ▸ l3)

/-- what Stem hands back -/
def StemPost (s : ByteArray) (e : Ending) : Prop :=
  (∃ i, Cut s i ∧ e = .returned (.tuple #[.string (s.extract 0 i), .string (s.extract i s.size)])) ∨ (∀ i, ¬ Cut s i) ∧ e = .returned (.tuple #[.string s, .string (ByteArray.mk #[])])

set_option maxHeartbeats 1000000 in
theorem stem_any (s : ByteArray) (hs : s.size < 4611686018427387904) (w : World) :
    Calls Try.prog 19 #[.string s] w fun e w' => StemPost s e ∧ ∃ q, w' = w.drewN q := by
  have HS := Lib.hid hs
  have SC := Lib.hid (stem_cases s)
  go_enter Try.func19, Try.ntmps19
  go_wp2_with fail
  refine (last_any s 46 HS.out _).mono ?_
  rintro e w' ⟨rfl, rfl⟩
  go_wp2_with fail
  refine (last_any s 47 HS.out _).mono ?_
  rintro e w' ⟨rfl, rfl⟩
  rcases SC.out with ⟨i, h1, h2, h3, h4⟩ | ⟨h1, h2, h3, h4⟩
  · have H1 := Lib.hid h1
    have hi := h1.2.1
    rw [h2]
    generalize Lib.lastIndexByte s 47 = q at h3 h4 ⊢
    clear h1 h2 SC
    go_wp2_with fail
    go_quiet (fail)
    go_wp2
    go_ret2
    exact ⟨.inl ⟨i, H1.out, rfl⟩, _, rfl⟩
  · have H1 := Lib.hid h1
    generalize Lib.lastIndexByte s 47 = q at h2 h3 h4 ⊢
    generalize Lib.lastIndexByte s 46 = p at h2 ⊢
    clear h1 SC
    go_wp2
    go_ret2
    exact ⟨.inr ⟨H1.out, rfl⟩, 0, rfl⟩

theorem no_cut_slash {s : ByteArray} {m : Nat} (hm : m < s.size) (h : byteAt s m = 47) (ha : ∀ j, m < j → j < s.size → byteAt s j ≠ 46 ∧ byteAt s j ≠ 47) : ∀ i, ¬ Cut s i := fun i ⟨_, h1, h2, _, h3⟩ => by
  rcases Nat.lt_trichotomy i m with q | q | q
  · exact (h3 m q hm).2 h
  · subst q; omega
  · exact (ha i q h1).1 h2
theorem no_cut_dot {s : ByteArray} {m : Nat} (hm : m < s.size) (h : byteAt s m = 46) (hp : byteAt s (m - 1) = 47) (ha : ∀ j, m < j → j < s.size → byteAt s j ≠ 46 ∧ byteAt s j ≠ 47) : ∀ i, ¬ Cut s i := fun i ⟨_, h1, h2, h4, h3⟩ => by
  rcases Nat.lt_trichotomy i m with q | q | q
  · exact (h3 m q hm).1 h
  · subst q; exact h4 hp
  · exact (ha i q h1).1 h2

set_option maxHeartbeats 2000000 in
theorem stemOf_any (s : ByteArray) (hs : s.size < 4611686018427387904) (w : World) :
    Calls Try.prog 39 #[.string s] w fun e w' => StemPost s e ∧ ∃ q, w' = w.drewN q := by
  have HF : Hid (∀ k (h : k < s.size), s[k].toNat = byteAt s k) := byteAt_get s
  go_enter Try.func39, Try.ntmps39
  go_wp2_with fail
  go_loopw [4] (fun v wr => ∃ i : Int, v = .int .i64 i ∧ -1 ≤ i ∧ i < s.size ∧ (∀ j : Nat, i < j → j < s.size → byteAt s j ≠ 46 ∧ byteAt s j ≠ 47) ∧ wr = w) (fun v _ => (intOf v + 1).toNat)
  case atStart => exact ⟨(s.size : Int) - 1, by go_num, by omega, by omega, fun j h1 h2 => by omega, rfl⟩
  case round =>
    obtain ⟨i, rfl, hi0, hi1, ha, rfl⟩ := hrel
    by_cases hp : 0 < i
    · obtain ⟨m, rfl⟩ : ∃ m : Nat, i = (m : Int) := ⟨i.toNat, by omega⟩
      have hm : m < s.size := by omega
      have HA : Hid (∀ j : Nat, m < j → j < s.size → byteAt s j ≠ 46 ∧ byteAt s j ≠ 47) := fun j h => ha j (by omega)
      clear ha
      obtain ⟨p, hpm⟩ : ∃ p, m = p + 1 := ⟨m - 1, by omega⟩
      have z1 : (m : Int) - 1 = (p : Int) := by omega
      have hps : p < s.size := by omega
      have HP : Hid (m - 1 = p) := by show _ = _; omega
      have HM : Hid (0 < m) := by show _ < _; omega
      clear hpm
      have b1 := HF.out m hm
      have b2 := HF.out p hps
      by_cases h47 : byteAt s m = 47
      · have NC := Lib.hid (no_cut_slash hm h47 HA.out)
        rw [h47] at b1
        clear b2 h47
        go_wp2
        go_ret2
        exact ⟨.inr ⟨NC.out, rfl⟩, 0, rfl⟩
      · have t1 : (((byteAt s m : Nat) : Int) == 47) = false := by rw [beq_eq_false_iff_ne]; omega
        by_cases h46 : byteAt s m = 46
        · by_cases h2 : byteAt s p = 47
          · have NC := Lib.hid (no_cut_dot hm h46 (by rw [HP.out]; exact h2) HA.out)
            rw [h46] at b1
            rw [h2] at b2
            clear t1 h47 h46 h2
            go_wp2
            go_ret2
            exact ⟨.inr ⟨NC.out, rfl⟩, 0, rfl⟩
          · have t2 : (((byteAt s p : Nat) : Int) == 47) = false := by rw [beq_eq_false_iff_ne]; omega
            have NC : Hid (Cut s m) := ⟨HM.out, hm, h46, by rw [HP.out]; exact h2, HA.out⟩
            rw [h46] at b1
            clear t1 h47 h46 h2
            generalize byteAt s p = y at b2 t2
            go_wp2_with fail
            go_quiet (fail)
            go_wp2
            go_ret2
            exact ⟨.inl ⟨m, NC.out, rfl⟩, _, rfl⟩
        · have t2 : (((byteAt s m : Nat) : Int) == 46) = false := by rw [beq_eq_false_iff_ne]; omega
          have HN : Hid (byteAt s m ≠ 46 ∧ byteAt s m ≠ 47) := ⟨h46, h47⟩
          clear b2 h46 h47
          have HY : Hid (∀ j : Nat, p < j → j < s.size → byteAt s j ≠ 46 ∧ byteAt s j ≠ 47) := fun j h1 h2 => by
            by_cases e : j = m
            · subst e; exact HN.out
            · exact HA.out j (by have := HP.out; omega) h2
          clear HN HA
          generalize byteAt s m = y at b1 t1 t2
          go_wp2
          go_roundw
          case rel => exact ⟨(p : Int), by go_num, by omega, by omega, fun j h1 h2 => HY.out j (by omega) h2, trivial⟩
          case measure => simp [intOf]; omega
    · have NC : Hid (∀ i, ¬ Cut s i) := fun i' h => (ha i' (by have := h.1; omega) h.2.1).1 h.2.2.1
      clear ha
      go_wp2
      go_ret2
      exact ⟨.inr ⟨NC.out, rfl⟩, 0, rfl⟩
end Go.Proofs.Ytihiohohocfchaa
