/-
  What package line's uncommented answers. Condition: the string is shorter than 2^32 bytes.
-/
import Derived.Test.YtnfjcclblggbiaaDoorLJo
namespace Go.Proofs.YtnfjcclblggbiaaDoor
open Go.ChangeShapes Go.WideShapes Go.ChangeAt Go.RowKit

/-- a comment begins at k -/
def Com (p : Bool) (s : Str) (k : Nat) : Prop := s.getD k 0 = 35 ∧ (if k = 0 then p = false else s.getD (k - 1) 0 ≠ 92)
theorem com_succ (c : UInt8) (r : Str) (p : Bool) (k : Nat) : Com p (c :: r) (k + 1) ↔ Com (c == 92) r k := by
  unfold Com
  cases k with
  | zero => simp
  | succ k => simp
theorem cut1_take : ∀ (s : Str) (p : Bool) (k : Nat), k < s.length → (∀ j, j < k → ¬ Com p s j) → Com p s k → cut1 p s = s.take k
  | [], _, _, h, _, _ => by simp at h
  | c :: r, p, 0, _, _, hc => by
    unfold Com at hc
    simp at hc
    simp [cut1, hc]
  | c :: r, p, k + 1, hk, h, hc => by
    have h0 := h 0 (by omega)
    have e : ¬ (c = 35 ∧ p = false) := fun q => h0 (by unfold Com; simp [q])
    rw [cut1, if_neg e, List.take_succ_cons, cut1_take r (c == 92) k (by simpa using hk) (fun j hj q => h (j + 1) (by omega) ((com_succ c r p j).2 q)) ((com_succ c r p k).1 hc)]
theorem cut1_all : ∀ (s : Str) (p : Bool), (∀ j, j < s.length → ¬ Com p s j) → cut1 p s = s
  | [], _, _ => by simp [cut1]
  | c :: r, p, h => by
    have h0 := h 0 (by simp)
    have e : ¬ (c = 35 ∧ p = false) := fun q => h0 (by unfold Com; simp [q])
    rw [cut1, if_neg e, cut1_all r (c == 92) (fun j hj q => h (j + 1) (by simpa using hj) ((com_succ c r p j).2 q))]
theorem bs_take (S : ByteArray) (k : Nat) : S.extract 0 k = bs (S.data.toList.take k) := by
  rw [← bs_of (S.extract 0 k)]
  congr 1
  have := Lib.extract_toList S 0 k
  rw [Lib.toList_data] at this
  rw [List.drop_zero, Nat.sub_zero] at this
  exact this
theorem com_nat (S : ByteArray) (k : Nat) : Com false S.data.toList k ↔ byteAt S k = 35 ∧ (k = 0 ∨ byteAt S (k - 1) ≠ 92) := by
  unfold Com byteAt
  have e : ∀ c d : UInt8, c = d ↔ c.toNat = d.toNat := fun c d => ⟨fun h => by rw [h], UInt8.toNat_inj.1⟩
  by_cases h : k = 0
  · subst h; simp [e]
  · simp [h, e]

set_option maxHeartbeats 1000000 in
theorem unc_tail (x : Str) (w : World) (hx : x.length < 4294967281) (hm : MX w) : Hid (Calls Tryd.prog 61 #[.string (bs x), .string (ByteArray.mk #[92, 35]), .string (ByteArray.mk #[35])] w fun e w' => e = .returned (.string (bs (repl x))) ∧ Below w.heap.size w w') := Lib.hid (replEsc x w hx hm)

set_option maxHeartbeats 1000000 in
theorem unc_any (S : ByteArray) (w : World) (hs : S.size < 4294967281) (hm : MX w) :
    Calls Tryd.prog 27 #[.string S] w fun e w' => e = .returned (.string (bs (unc S.data.toList))) ∧ Below w.heap.size w w' := by
  have HF : Hid (∀ k (h : k < S.size), S[k].toNat = byteAt S k) := byteAt_get S
  have HL : Hid (∀ k, byteAt S k < 256) := byteAt_lt S
  have HR : Hid (∀ x : Str, x.length ≤ S.size → Calls Tryd.prog 61 #[.string (bs x), .string (ByteArray.mk #[92, 35]), .string (ByteArray.mk #[35])] w fun e w' => e = .returned (.string (bs (repl x))) ∧ Below w.heap.size w w') := fun x hx => replEsc x w (by omega) hm
  have HT : Hid (∀ (x : Str) (w : World), x.length ≤ S.size → Calls Tryd.prog 60 #[.string (bs x), .string (ByteArray.mk #[32, 9])] w fun e w' => e = .returned (.string (bs (trimr x))) ∧ Below w.heap.size w w') := fun x w hx => trimR_any x w (by omega)
  have HU : Hid (∀ k, k < S.size → (∀ j, j < k → ¬ (byteAt S j = 35 ∧ (j = 0 ∨ byteAt S (j - 1) ≠ 92))) → (byteAt S k = 35 ∧ (k = 0 ∨ byteAt S (k - 1) ≠ 92)) → cut1 false S.data.toList = S.data.toList.take k) := fun k hk h hc => cut1_take _ _ k (by rw [size_list]; exact hk) (fun j hj q => h j hj ((com_nat S j).1 q)) ((com_nat S k).2 hc)
  have HV : Hid ((∀ j, j < S.size → ¬ (byteAt S j = 35 ∧ (j = 0 ∨ byteAt S (j - 1) ≠ 92))) → cut1 false S.data.toList = S.data.toList) := fun h => cut1_all _ _ (fun j hj q => h j (by rw [size_list] at hj; exact hj) ((com_nat S j).1 q))
  have HB : Hid (∀ k, S.extract 0 k = bs (S.data.toList.take k)) := bs_take S
  have HO : Hid (bs S.data.toList = S) := bs_of S
  have HN : Hid (S.data.toList.length = S.size) := size_list S
  clear hm
  generalize byteAt S = f at *
  go_enter Tryd.func27, Tryd.ntmps27
  go_wp2_with fail
  go_loopw [0, 6] (fun j0 i wr => ∃ k : Nat, k ≤ S.size ∧ j0 = .string S ∧ i = .int .i64 (k : Int) ∧ (∀ j, j < k → ¬ (f j = 35 ∧ (j = 0 ∨ f (j - 1) ≠ 92))) ∧ wr = w) (fun _ i _ => S.size - (intOf i).toNat)
  case atStart => exact ⟨0, by omega, rfl, rfl, fun _ h => absurd h (Nat.not_lt_zero _), rfl⟩
  case round =>
    obtain ⟨k, hk, rfl, rfl, hall, rfl⟩ := hrel
    have HA := Lib.hid hall; clear hall
    by_cases hlt : k < S.size
    · have hb := HF.out k hlt
      by_cases hc : f k = 35
      · have hc' : ((f k : Int) == 35) = true := by rw [beq_iff_eq]; omega
        by_cases h0 : k = 0
        · have d0 : ((k : Int) == 0) = true := by rw [beq_iff_eq]; omega
          have D := Lib.hid (HU.out k hlt HA.out ⟨hc, .inl h0⟩)
          clear h0
          go_wp2_with fail
          rw [HB.out k]
          refine (HR.out (S.data.toList.take k) (by have := HN.out; simp; omega)).mono ?_
          rintro e w' ⟨rfl, q1⟩
          have B1 := Lib.hid q1; clear q1
          go_wp2_with fail
          refine (HT.out _ _ (Nat.le_trans (repl_le _) (by have := HN.out; simp; omega))).mono ?_
          rintro e w' ⟨rfl, q2⟩
          have B2 := Lib.hid q2; clear q2
          go_wp2
          go_ret
          exact ⟨by unfold unc; rw [D.out]; rfl, B1.out.trans (B2.out.mono B1.out.size)⟩
        · have hb2 := HF.out (k - 1) (by omega)
          have i1 : ((k : Int) - 1).toNat = k - 1 := by omega
          have i2 : (0 : Int) ≤ (k : Int) - 1 := by omega
          have i3 : (k : Int) - 1 < (S.size : Int) := by omega
          have d0 : ((k : Int) == 0) = false := by rw [beq_eq_false_iff_ne]; omega
          by_cases h9 : f (k - 1) = 92
          · have d9 : ((f (k - 1) : Int) != 92) = false := by rw [bne_eq_false_iff_eq]; omega
            go_wp2
            go_roundw
            case rel =>
              refine ⟨k + 1, by omega, rfl, by go_num, fun j hj => ?_, trivial⟩
              rcases Nat.lt_succ_iff_lt_or_eq.1 hj with h | h
              · exact HA.out j h
              · rw [h]; exact fun q => q.2.elim h0 (fun n => n h9)
            case measure => simp [intOf]; omega
          · have d9 : ((f (k - 1) : Int) != 92) = true := by rw [bne_iff_ne]; omega
            have D := Lib.hid (HU.out k hlt HA.out ⟨hc, .inr h9⟩)
            go_wp2_with fail
            rw [HB.out k]
            refine (HR.out (S.data.toList.take k) (by have := HN.out; simp; omega)).mono ?_
            rintro e w' ⟨rfl, q1⟩
            have B1 := Lib.hid q1; clear q1
            go_wp2_with fail
            refine (HT.out _ _ (Nat.le_trans (repl_le _) (by have := HN.out; simp; omega))).mono ?_
            rintro e w' ⟨rfl, q2⟩
            have B2 := Lib.hid q2; clear q2
            go_wp2
            go_ret
            exact ⟨by unfold unc; rw [D.out]; rfl, B1.out.trans (B2.out.mono B1.out.size)⟩
      · have hc' : ((f k : Int) == 35) = false := by rw [beq_eq_false_iff_ne]; omega
        go_wp2
        go_roundw
        case rel =>
          refine ⟨k + 1, by omega, rfl, by go_num, fun j hj => ?_, trivial⟩
          rcases Nat.lt_succ_iff_lt_or_eq.1 hj with h | h
          · exact HA.out j h
          · rw [h]; exact fun q => hc q.1
        case measure => simp [intOf]; omega
    · obtain rfl : k = S.size := by omega
      have HD := Lib.hid (HV.out HA.out)
      go_wp2_with fail
      rw [← HO.out]
      refine (HR.out S.data.toList (by have := HN.out; omega)).mono ?_
      rintro e w' ⟨rfl, q1⟩
      have B1 := Lib.hid q1; clear q1
      go_wp2_with fail
      refine (HT.out _ _ (Nat.le_trans (repl_le _) (by have := HN.out; omega))).mono ?_
      rintro e w' ⟨rfl, q2⟩
      have B2 := Lib.hid q2; clear q2
      go_wp2
      go_ret
      exact ⟨by unfold unc; rw [HD.out]; rfl, B1.out.trans (B2.out.mono B1.out.size)⟩
end Go.Proofs.YtnfjcclblggbiaaDoor
