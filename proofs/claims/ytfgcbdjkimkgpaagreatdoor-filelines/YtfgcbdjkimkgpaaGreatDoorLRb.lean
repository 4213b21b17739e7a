/-
  What the reference's aside answers: the text without its comment. Condition: the string is shorter than 2^40 bytes.
-/
import Derived.Test.YtfgcbdjkimkgpaaGreatDoorFIp
namespace Go.Proofs.YtfgcbdjkimkgpaaGreatDoor
set_option maxRecDepth 100000
open Go.ChangeShapes Go.WideShapes Go.ChangeAt Go.RowKit

theorem repl_snoc : ∀ (l : Str) (c : UInt8), c ≠ 35 → repl (l ++ [c]) = repl l ++ [c]
  | [], c, _ => rfl
  | [a], c, h => by simp [repl, h]
  | a :: b :: r, c, h => by
    have h1 := repl_snoc r c h
    have h2 := repl_snoc (b :: r) c h
    rw [List.cons_append, List.cons_append, repl]
    rw [repl.eq_3 a b r]
    split
    · rw [h1]; rfl
    · rw [← List.cons_append, h2]; rfl
theorem repl_hash : ∀ (l : Str), repl (l ++ [92, 35]) = repl l ++ [35]
  | [] => rfl
  | [a] => by simp [repl]
  | a :: b :: r => by
    have h1 := repl_hash r
    have h2 := repl_hash (b :: r)
    rw [List.cons_append, List.cons_append, repl]
    rw [repl.eq_3 a b r]
    split
    · rw [h1]; rfl
    · rw [← List.cons_append, h2]; rfl
theorem eq92 (c : UInt8) : ((c.toNat : Int) != 92) = !decide (c = 92) := by
  have : ((c.toNat : Int) == 92) = decide (c = 92) := by
    rw [Bool.eq_iff_iff, beq_iff_eq, decide_eq_true_iff]
    exact ⟨fun h => UInt8.toNat_inj.1 (by show c.toNat = 92; omega), fun h => by rw [h]; rfl⟩
  rw [bne, this]
/-- a comment begins at k -/
def comAt (f : Nat → UInt8) (k : Nat) : Prop := f k = 35 ∧ (k = 0 ∨ f (k - 1) ≠ 92)
theorem com_at (S : ByteArray) (k : Nat) : Com false S.data.toList k ↔ comAt (bK S) k := by
  unfold Com comAt bK
  by_cases h : k = 0
  · subst h; simp
  · simp [h]

set_option maxHeartbeats 2000000 in
theorem aside_any (S : ByteArray) (w : World) (hs : S.size ≤ 1099511627776) :
    Calls Tryz.prog 105 #[.string S] w fun e w' => e = .returned (.string (bs (unc S.data.toList))) ∧ w' = w := by
  have HF : Hid (∀ k (h : k < S.size), S[k].toNat = (bK S k).toNat) := bK_get S
  have HX : Hid (∀ k, k < S.size → S.extract k (k + 1) = bs [bK S k]) := bK_ext S
  have HC : Hid (∀ k, k < S.size → (∀ j, j < k → ¬ comAt (bK S) j) → comAt (bK S) k → cut1 false S.data.toList = S.data.toList.take k) := fun k hk h hc => cut1_take _ _ k (by rw [size_list]; exact hk) (fun j hj q => h j hj ((com_at S j).1 q)) ((com_at S k).2 hc)
  have HA : Hid ((∀ j, j < S.size → ¬ comAt (bK S) j) → cut1 false S.data.toList = S.data.toList) := fun h => cut1_all _ _ (fun j hj q => h j (by rw [size_list] at hj; exact hj) ((com_at S j).1 q))
  have HN : Hid (∀ k, k < S.size → bK S k ≠ 35 → repl (S.data.toList.take (k + 1)) = repl (S.data.toList.take k) ++ [bK S k]) := fun k hk h => by rw [take_bK S k hk, repl_snoc _ _ h]
  have HH : Hid (∀ k, k < S.size → k ≠ 0 → bK S k = 35 → bK S (k - 1) = 92 → repl (S.data.toList.take k) = repl (S.data.toList.take (k - 1)) ++ [92] ∧ repl (S.data.toList.take (k + 1)) = repl (S.data.toList.take (k - 1)) ++ [35]) := fun k hk h0 h1 h2 => by
    have e1 := take_bK S (k - 1) (by omega)
    rw [show k - 1 + 1 = k by omega, h2] at e1
    have e2 := take_bK S k hk
    rw [h1, e1] at e2
    refine ⟨by rw [e1, repl_snoc _ _ (by decide)], ?_⟩
    rw [e2, List.append_assoc]
    exact repl_hash _
  have HL : Hid (∀ k, (repl (S.data.toList.take k)).length ≤ 1099511627776 ∧ (bs (repl (S.data.toList.take k))).size ≤ 1099511627776) := fun k => by
    have h1 := repl_le (S.data.toList.take k)
    have h2 : (S.data.toList.take k).length ≤ S.size := by rw [List.length_take, size_list]; omega
    rw [bs_size]
    omega
  have UD : Hid (trimr (repl (cut1 false S.data.toList)) = unc S.data.toList) := rfl
  have TN : Hid (S.data.toList.take S.size = S.data.toList) := Lib.hid (by rw [← size_list]; exact List.take_length)
  have Z : Hid (repl [] = []) := rfl
  generalize bK S = f at *
  generalize S.data.toList = s at *
  go_enter Tryz.func105, Tryz.ntmps105
  go_wp2_with fail
  go_loopw [3, 7] (fun o i wr => ∃ k : Nat, k ≤ S.size ∧ o = .string (bs (repl (s.take k))) ∧ i = .int .i64 (k : Int) ∧ (∀ j, j < k → ¬ comAt f j) ∧ wr = w) (fun _ i _ => S.size - (intOf i).toNat)
  case atStart => exact ⟨0, Nat.zero_le _, rfl, rfl, fun _ h => absurd h (Nat.not_lt_zero _), rfl⟩
  case round =>
    obtain ⟨k, hk, rfl, rfl, hall, rfl⟩ := hrel
    have AL := Lib.hid hall; clear hall
    by_cases hlt : k < S.size
    · have hb := HF.out k hlt
      have hx := HX.out k hlt
      obtain ⟨hl0, hz⟩ := HL.out k
      have HL0 := Lib.hid hl0; clear hl0
      have he := eq35 (f k)
      have h1 : (bs [f k]).size = 1 := bs_size _
      by_cases hc : f k = 35
      · rw [decide_eq_true hc] at he
        by_cases h0 : k = 0
        · have CU := Lib.hid (HC.out k hlt AL.out ⟨hc, .inl h0⟩)
          have d0 : ((k : Int) == 0) = true := by rw [beq_iff_eq]; omega
          have UN : Hid (trimr (repl (s.take k)) = unc s) := Lib.hid (by rw [← UD.out, CU.out])
          clear hc h0
          obtain ⟨R, hR⟩ : ∃ R, R = repl (s.take k) := ⟨_, rfl⟩
          rw [← hR] at UN hz HL0 ⊢
          clear hR
          go_wp2_with fail
          clear hb hx he h1 d0 hz hlt hk
          rename World => w
          go_loopw [3] (fun s0 wr => ∃ t : Str, s0 = .string (bs t) ∧ trimr t = trimr R ∧ t.length ≤ 1099511627776 ∧ wr = w) (fun s0 _ => strOf' s0)
          case atStart => exact ⟨R, rfl, rfl, HL0.out, rfl⟩
          case round =>
            obtain ⟨t, rfl, ht, hl, rfl⟩ := hrel
            have HT := Lib.hid ht; clear ht
            rcases List.eq_nil_or_concat t with rfl | ⟨r, c, rfl⟩
            · have hz : bs [] = ByteArray.mk #[] := rfl
              rw [hz]
              go_wp2
              go_ret
              rw [← UN.out, ← HT.out]
              exact ⟨rfl, rfl⟩
            · rw [List.concat_eq_append] at *
              obtain ⟨X, hX⟩ : ∃ X, X = bs (r ++ [c]) := ⟨_, rfl⟩
              have z0 : X.size = r.length + 1 := by rw [hX, bs_size]; simp
              have ne : X.toList.isEmpty = false := by rw [hX]; exact bs_some (by simp)
              have i1 : ((X.size : Int) - 1).toNat = X.size - 1 := by omega
              have i2 : (0 : Int) ≤ (X.size : Int) - 1 := by omega
              have i3 : (X.size : Int) - 1 < (X.size : Int) := by omega
              have i4 : X.size ≤ 1099511627776 := by rw [hX, bs_size]; exact hl
              have hb : ∀ h : X.size - 1 < X.size, X[X.size - 1].toNat = c.toNat := by
                subst hX
                intro h
                have := bs_snoc_get r c (by rw [bs_size]; simp)
                have e : (bs (r ++ [c])).size - 1 = r.length := by rw [z0]; rfl
                simp only [e]
                exact this
              have j0 : X.size - 1 < X.size := by omega
              have hb := hb j0
              have hx : X.extract 0 (X.size - 1) = bs r := by rw [z0, hX]; exact bs_init r c
              have TS := Lib.hid (trimr_snoc r c)
              have hl2 : r.length ≤ 1099511627776 := by simp at hl; omega
              have XX := Lib.hid hX
              have Z0 := Lib.hid z0
              rw [← hX]
              clear hX z0 hl
              go_wp2_with fail
              refine (blank_any c _).mono ?_
              rintro e w' ⟨rfl, rfl⟩
              cases hc : bl c with
              | true =>
                rw [hc] at TS
                clear hc
                go_wp2
                go_roundw
                case rel => exact ⟨r, rfl, by rw [← HT.out, TS.out]; simp, hl2, trivial⟩
                case measure =>
                  show (bs r).size < X.size
                  rw [bs_size, Z0.out]; omega
              | false =>
                rw [hc] at TS
                clear hc
                go_wp2
                go_ret
                rw [← UN.out, ← HT.out, TS.out, XX.out]
                exact ⟨rfl, rfl⟩
        · have hb2 := HF.out (k - 1) (by omega)
          have i1 : ((k : Int) - 1).toNat = k - 1 := by omega
          have i2 : (0 : Int) ≤ (k : Int) - 1 := by omega
          have i3 : (k : Int) - 1 < (S.size : Int) := by omega
          have d0 : ((k : Int) == 0) = false := by rw [beq_eq_false_iff_ne]; omega
          have he2 := eq92 (f (k - 1))
          by_cases h9 : f (k - 1) = 92
          · rw [decide_eq_true h9] at he2
            obtain ⟨r1, r2⟩ := HH.out k hlt h0 hc h9
            have R2 := Lib.hid r2; clear r2
            have NC : Hid (¬ comAt f k) := fun q => q.2.elim h0 (fun n => n h9)
            have HC0 := Lib.hid hc
            obtain ⟨q, hq⟩ : ∃ q, q = repl (s.take (k - 1)) := ⟨_, rfl⟩
            rw [← hq] at r1 R2
            have R1 := Lib.hid r1
            obtain ⟨X, hX⟩ : ∃ X, X = bs (q ++ [92]) := ⟨_, rfl⟩
            have z0 : X.size = q.length + 1 := by rw [hX, bs_size]; simp
            have j1 : ((X.size : Int) - 1).toNat = X.size - 1 := by omega
            have j2 : (0 : Int) ≤ (X.size : Int) - 1 := by omega
            have j3 : (X.size : Int) - 1 ≤ (X.size : Int) := by omega
            have j4 : X.size ≤ 1099511627776 := by rw [hX, ← r1]; exact hz
            have xx : X.extract 0 (X.size - 1) = bs q := by rw [z0, hX]; exact bs_init q 92
            have j5 : (bs q).size ≤ 1099511627776 := by rw [bs_size]; omega
            rw [r1, ← hX]
            clear hq hX z0 r1 hc h0 h9 hz
            go_wp2
            go_roundw
            case rel =>
              refine ⟨k + 1, by omega, ?_, by go_num, ?_, trivial⟩
              · rw [R2.out, bs_app, HC0.out]
              · intro j hj
                rcases Nat.lt_succ_iff_lt_or_eq.1 hj with h | h
                · exact AL.out j h
                · rw [h]; exact NC.out
            case measure => simp [intOf]; omega
          · rw [decide_eq_false h9] at he2
            have CU := Lib.hid (HC.out k hlt AL.out ⟨hc, .inr h9⟩)
            have UN : Hid (trimr (repl (s.take k)) = unc s) := Lib.hid (by rw [← UD.out, CU.out])
            clear hc h0 h9
            obtain ⟨R, hR⟩ : ∃ R, R = repl (s.take k) := ⟨_, rfl⟩
            rw [← hR] at UN hz HL0 ⊢
            clear hR
            go_wp2_with fail
            clear hb hx he h1 d0 hz hb2 i1 i2 i3 he2 hlt hk
            rename World => w
            go_loopw [3] (fun s0 wr => ∃ t : Str, s0 = .string (bs t) ∧ trimr t = trimr R ∧ t.length ≤ 1099511627776 ∧ wr = w) (fun s0 _ => strOf' s0)
            case atStart => exact ⟨R, rfl, rfl, HL0.out, rfl⟩
            case round =>
              obtain ⟨t, rfl, ht, hl, rfl⟩ := hrel
              have HT := Lib.hid ht; clear ht
              rcases List.eq_nil_or_concat t with rfl | ⟨r, c, rfl⟩
              · have hz : bs [] = ByteArray.mk #[] := rfl
                rw [hz]
                go_wp2
                go_ret
                rw [← UN.out, ← HT.out]
                exact ⟨rfl, rfl⟩
              · rw [List.concat_eq_append] at *
                obtain ⟨X, hX⟩ : ∃ X, X = bs (r ++ [c]) := ⟨_, rfl⟩
                have z0 : X.size = r.length + 1 := by rw [hX, bs_size]; simp
                have ne : X.toList.isEmpty = false := by rw [hX]; exact bs_some (by simp)
                have i1 : ((X.size : Int) - 1).toNat = X.size - 1 := by omega
                have i2 : (0 : Int) ≤ (X.size : Int) - 1 := by omega
                have i3 : (X.size : Int) - 1 < (X.size : Int) := by omega
                have i4 : X.size ≤ 1099511627776 := by rw [hX, bs_size]; exact hl
                have hb : ∀ h : X.size - 1 < X.size, X[X.size - 1].toNat = c.toNat := by
                  subst hX
                  intro h
                  have := bs_snoc_get r c (by rw [bs_size]; simp)
                  have e : (bs (r ++ [c])).size - 1 = r.length := by rw [z0]; rfl
                  simp only [e]
                  exact this
                have j0 : X.size - 1 < X.size := by omega
                have hb := hb j0
                have hx : X.extract 0 (X.size - 1) = bs r := by rw [z0, hX]; exact bs_init r c
                have TS := Lib.hid (trimr_snoc r c)
                have hl2 : r.length ≤ 1099511627776 := by simp at hl; omega
                have XX := Lib.hid hX
                have Z0 := Lib.hid z0
                rw [← hX]
                clear hX z0 hl
                go_wp2_with fail
                refine (blank_any c _).mono ?_
                rintro e w' ⟨rfl, rfl⟩
                cases hc : bl c with
                | true =>
                  rw [hc] at TS
                  clear hc
                  go_wp2
                  go_roundw
                  case rel => exact ⟨r, rfl, by rw [← HT.out, TS.out]; simp, hl2, trivial⟩
                  case measure =>
                    show (bs r).size < X.size
                    rw [bs_size, Z0.out]; omega
                | false =>
                  rw [hc] at TS
                  clear hc
                  go_wp2
                  go_ret
                  rw [← UN.out, ← HT.out, TS.out, XX.out]
                  exact ⟨rfl, rfl⟩
      · rw [decide_eq_false hc] at he
        have T := Lib.hid (HN.out k hlt hc)
        have NC : Hid (¬ comAt f k) := fun q => hc q.1
        clear hc
        go_wp2
        go_roundw
        case rel =>
          refine ⟨k + 1, by omega, ?_, by go_num, ?_, trivial⟩
          · rw [T.out, bs_app]
          · intro j hj
            rcases Nat.lt_succ_iff_lt_or_eq.1 hj with h | h
            · exact AL.out j h
            · rw [h]; exact NC.out
        case measure => simp [intOf]; omega
    · obtain rfl : k = S.size := by omega
      have CU := Lib.hid (HA.out AL.out)
      have HL0 := Lib.hid (HL.out S.size).1
      rw [TN.out] at HL0 ⊢
      have UN : Hid (trimr (repl s) = unc s) := Lib.hid (by rw [← UD.out, CU.out])
      obtain ⟨R, hR⟩ : ∃ R, R = repl s := ⟨_, rfl⟩
      rw [← hR] at UN HL0 ⊢
      clear hR
      go_wp2_with fail
      clear hlt hk
      rename World => w
      go_loopw [3] (fun s0 wr => ∃ t : Str, s0 = .string (bs t) ∧ trimr t = trimr R ∧ t.length ≤ 1099511627776 ∧ wr = w) (fun s0 _ => strOf' s0)
      case atStart => exact ⟨R, rfl, rfl, HL0.out, rfl⟩
      case round =>
        obtain ⟨t, rfl, ht, hl, rfl⟩ := hrel
        have HT := Lib.hid ht; clear ht
        rcases List.eq_nil_or_concat t with rfl | ⟨r, c, rfl⟩
        · have hz : bs [] = ByteArray.mk #[] := rfl
          rw [hz]
          go_wp2
          go_ret
          rw [← UN.out, ← HT.out]
          exact ⟨rfl, rfl⟩
        · rw [List.concat_eq_append] at *
          obtain ⟨X, hX⟩ : ∃ X, X = bs (r ++ [c]) := ⟨_, rfl⟩
          have z0 : X.size = r.length + 1 := by rw [hX, bs_size]; simp
          have ne : X.toList.isEmpty = false := by rw [hX]; exact bs_some (by simp)
          have i1 : ((X.size : Int) - 1).toNat = X.size - 1 := by omega
          have i2 : (0 : Int) ≤ (X.size : Int) - 1 := by omega
          have i3 : (X.size : Int) - 1 < (X.size : Int) := by omega
          have i4 : X.size ≤ 1099511627776 := by rw [hX, bs_size]; exact hl
          have hb : ∀ h : X.size - 1 < X.size, X[X.size - 1].toNat = c.toNat := by
            subst hX
            intro h
            have := bs_snoc_get r c (by rw [bs_size]; simp)
            have e : (bs (r ++ [c])).size - 1 = r.length := by rw [z0]; rfl
            simp only [e]
            exact this
          have j0 : X.size - 1 < X.size := by omega
          have hb := hb j0
          have hx : X.extract 0 (X.size - 1) = bs r := by rw [z0, hX]; exact bs_init r c
          have TS := Lib.hid (trimr_snoc r c)
          have hl2 : r.length ≤ 1099511627776 := by simp at hl; omega
          have XX := Lib.hid hX
          have Z0 := Lib.hid z0
          rw [← hX]
          clear hX z0 hl
          go_wp2_with fail
          refine (blank_any c _).mono ?_
          rintro e w' ⟨rfl, rfl⟩
          cases hc : bl c with
          | true =>
            rw [hc] at TS
            clear hc
            go_wp2
            go_roundw
            case rel => exact ⟨r, rfl, by rw [← HT.out, TS.out]; simp, hl2, trivial⟩
            case measure =>
              show (bs r).size < X.size
              rw [bs_size, Z0.out]; omega
          | false =>
            rw [hc] at TS
            clear hc
            go_wp2
            go_ret
            rw [← UN.out, ← HT.out, TS.out, XX.out]
            exact ⟨rfl, rfl⟩
end Go.Proofs.YtfgcbdjkimkgpaaGreatDoor
