/-
  The reference's Calls, Called and macroNames. Condition: strings of at most 2^32 bytes, at most 1048576 macros.
  The reference's Called, macroNames and flatten. Condition: at most 2^32 tokens, at most 1048576 macros.
  The reference's flatten. Condition: at most 2^32 tokens, at most 1048576 macros whose values have at most 2000 bytes.
-/
import Derived.Test.YtfgcbdjkimkgpaaGreatDoorGc14NGood
import Derived.Test.YtfgcbdjkimkgpaaGreatDoorGc13RPar
import Derived.Test.YtfgcbdjkimkgpaaGreatDoorGc6MRep
namespace Go.Proofs.YtfgcbdjkimkgpaaGreatDoor
set_option maxRecDepth 100000
set_option linter.unusedVariables false
open Go.ChangeShapes Go.WideShapes Go.ChangeAt Go.RowKit

def isRf : Tok → Bool
  | .inl _ => false
  | .inr _ => true
def txt : Tok → Str
  | .inl c => [c]
  | .inr n => n
/-- the cells of a token -/
def encTk (x : Tok) : List Value := [.bool (isRf x), .string (bs (txt x))]
def tkCells (z : List Tok) : List Value := z.flatMap encTk
theorem tkCells_length (z : List Tok) : (tkCells z).length = z.length * 2 := by
  induction z with
  | nil => rfl
  | cons x r ih => simp [tkCells, encTk] at ih ⊢; omega
theorem tkCells_snoc (z : List Tok) (x : Tok) : tkCells (z ++ [x]) = tkCells z ++ [.bool (isRf x), .string (bs (txt x))] := by simp [tkCells, encTk]
theorem tkCells_append (y z : List Tok) : tkCells (y ++ z) = tkCells y ++ tkCells z := by simp [tkCells]
theorem tkCells_at : ∀ (z : List Tok) (k : Nat) (x : Tok), z[k]? = some x → (tkCells z)[k * 2]? = some (.bool (isRf x)) ∧ (tkCells z)[k * 2 + 1]? = some (.string (bs (txt x)))
  | [], k, x, h => by simp at h
  | y :: t, 0, x, h => by
    simp at h
    subst h
    simp [tkCells, encTk]
  | y :: t, k + 1, x, h => by
    have ih := tkCells_at t k x (by simpa using h)
    have e : tkCells (y :: t) = .bool (isRf y) :: .string (bs (txt y)) :: tkCells t := by simp [tkCells, encTk]
    rw [e, show (k + 1) * 2 = k * 2 + 1 + 1 by omega, show k * 2 + 1 + 1 + 1 = (k * 2 + 1) + 1 + 1 by omega]
    simpa using ih

/-- a slice that holds the tokens z -/
def CIn (w : World) (v : Value) (z : List Tok) : Prop :=
  ∃ a cap, v = .slice a z.length cap ∧ z.length ≤ cap ∧ cap ≤ maxLen ∧ z.length ≤ 8796093022208 ∧
    (z = [] ∨ ∃ b off, a = some ⟨b, off, none⟩ ∧ b < w.heap.size ∧ ∀ k x, z[k]? = some x → w.cell? ⟨b, off + k * 2, none⟩ = some (.bool (isRf x)) ∧ w.cell? ⟨b, off + k * 2 + 1, none⟩ = some (.string (bs (txt x))))
theorem CIn.later {w w' : World} {v : Value} {z : List Tok} (h : CIn w v z) (hb : Below w.heap.size w w') : CIn w' v z := by
  obtain ⟨a, cap, h1, h2, h3, h4, h5⟩ := h
  refine ⟨a, cap, h1, h2, h3, h4, ?_⟩
  rcases h5 with h5 | ⟨b, off, h5, h6, h7⟩
  · exact .inl h5
  · exact .inr ⟨b, off, h5, Nat.lt_of_lt_of_le h6 hb.size, fun k x hk => ⟨cell_later hb (h7 k x hk).1, cell_later hb (h7 k x hk).2⟩⟩
theorem CIn.own {w : World} {base : Nat} {v : Value} {z : List Tok} (h : w.ownsRow base 149 2 v z.length (tkCells z)) (hn : z.length ≤ 8796093022208) : CIn w v z := by
  rcases h.2 with ⟨hv, h0⟩ | ⟨g, cap, cur, hv, hb, hg, hc, hm, hs, ht⟩
  · have : z = [] := List.length_eq_zero_iff.1 h0
    subst this
    exact ⟨none, 0, hv, Nat.le_refl _, Nat.zero_le _, Nat.zero_le _, .inl rfl⟩
  · refine ⟨_, cap, hv, hc, hm, hn, .inr ⟨g, 0, rfl, ?_, fun k x hk => ?_⟩⟩
    · rcases Nat.lt_or_ge g w.heap.size with h' | h'
      · exact h'
      · simp [Array.getElem?_eq_none h'] at hg
    · have hc := h.cells (g := g) (by rw [hv]; rfl)
      obtain ⟨h1, h2⟩ := tkCells_at z k x hk
      have e1 := hc _ _ h1
      have e2 := hc _ _ h2
      rw [add_off] at e1 e2
      rw [Nat.zero_add]
      exact ⟨e1, e2⟩
theorem CIn.open {w : World} {v : Value} {z : List Tok} (h : CIn w v z) : (z = [] ∧ ∃ a cap, v = .slice a 0 cap) ∨
    (0 < z.length ∧ ∃ b off cap, v = .slice (some ⟨b, off, none⟩) z.length cap ∧ z.length ≤ cap ∧ b < w.heap.size ∧ ∀ k x, z[k]? = some x → w.cell? ⟨b, off + k * 2, none⟩ = some (.bool (isRf x)) ∧ w.cell? ⟨b, off + k * 2 + 1, none⟩ = some (.string (bs (txt x)))) := by
  obtain ⟨a, cap, rfl, h2, _, _, h5⟩ := h
  by_cases h0 : z = []
  · subst h0; exact .inl ⟨rfl, a, cap, rfl⟩
  · rcases h5 with h5 | ⟨b, off, rfl, h6, h7⟩
    · exact absurd h5 h0
    · exact .inr ⟨List.length_pos_iff.2 h0, b, off, cap, rfl, h2, h6, h7⟩
theorem infoTk : (Tryz.prog.info? 149).map (fun i => (i.zero, i.size, i.bytes)) = some (some (.agg #[.bool false, .string ByteArray.empty]), 2, 24) := by kernel_rfl
/-- a row of tokens of the call's own -/
def CO (B : Nat) (v : Value) (T : List Tok) (w : World) : Prop := w.ownsRow B 149 2 v T.length (tkCells T)
theorem CO.snoc {B : Nat} {v : Value} {T : List Tok} {x : Tok} {w : World} (h : w.ownsRow B 149 2 v (T.length + 1) (tkCells T ++ [.bool (isRf x), .string (bs (txt x))])) : CO B v (T ++ [x]) w := by
  unfold CO; rw [List.length_append, tkCells_snoc]; exact h
theorem bs_sub (S : ByteArray) (a b : Nat) (s x r : Str) (h : S.data.toList = s ++ x ++ r) (ha : a = s.length) (hb : b = s.length + x.length) : S.extract a b = bs x := by
  rw [← bs_of (S.extract a b)]
  congr 1
  have := Lib.extract_toList S a b
  rw [Lib.toList_data] at this
  rw [this, h, ha, hb, List.append_assoc, List.drop_left, Nat.add_sub_cancel_left, List.take_left]
theorem byte_eq (c : UInt8) (n : Nat) (hn : n < 256) : ((c.toNat : Int) == (n : Int)) = decide (c = UInt8.ofNat n) := by
  rw [Bool.eq_iff_iff, beq_iff_eq, decide_eq_true_iff]
  constructor
  · intro h
    apply UInt8.toNat_inj.1
    rw [UInt8.toNat_ofNat_of_lt' (by omega)]; omega
  · intro h
    rw [h, UInt8.toNat_ofNat_of_lt' (by omega)]
theorem byte_yes {c : UInt8} {n : Nat} (hn : n < 256) (h : c = UInt8.ofNat n) : ((c.toNat : Int) == (n : Int)) = true ∧ ((c.toNat : Int) != (n : Int)) = false := by
  have := byte_eq c n hn
  rw [decide_eq_true h] at this
  exact ⟨this, by rw [bne, this]; rfl⟩
theorem byte_no {c : UInt8} {n : Nat} (hn : n < 256) (h : c ≠ UInt8.ofNat n) : ((c.toNat : Int) == (n : Int)) = false ∧ ((c.toNat : Int) != (n : Int)) = true := by
  have := byte_eq c n hn
  rw [decide_eq_false h] at this
  exact ⟨this, by rw [bne, this]; rfl⟩
theorem cut_name {s : Str} {f : Nat → UInt8} {n : Nat} (HD : ∀ i, i < n → s.drop i = f i :: s.drop (i + 1)) {m : Nat} (hm : m < n) (h41 : f m = 41) :
    ∀ (d k : Nat), m - k = d → k ≤ m → (∀ i, k ≤ i → i < m → f i ≠ 41) → ∃ x, s.drop k = x ++ 41 :: s.drop (m + 1) ∧ 41 ∉ x ∧ x.length = m - k
  | 0, k, hd, hk, hno => by
    obtain rfl : k = m := by omega
    exact ⟨[], by rw [HD k hm, h41]; rfl, List.not_mem_nil, by simp⟩
  | d + 1, k, hd, hk, hno => by
    obtain ⟨x, h1, h2, h3⟩ := cut_name HD hm h41 d (k + 1) (by omega) (by omega) (fun i h1 h2 => hno i (by omega) h2)
    refine ⟨f k :: x, by rw [HD k (by omega), h1]; rfl, fun e => ?_, by rw [List.length_cons]; omega⟩
    rcases List.mem_cons.1 e with e | e
    · exact hno k (Nat.le_refl _) (by omega) e.symm
    · exact h2 e
theorem no_close {s : Str} {f : Nat → UInt8} {n : Nat} (HD : ∀ i, i < n → s.drop i = f i :: s.drop (i + 1)) (HN : s.drop n = []) :
    ∀ (d k : Nat), n - k = d → k ≤ n → (∀ i, k ≤ i → i < n → f i ≠ 41) → 41 ∉ s.drop k
  | 0, k, hd, hk, hno => by
    obtain rfl : k = n := by omega
    rw [HN]; exact List.not_mem_nil
  | d + 1, k, hd, hk, hno => by
    have ih := no_close HD HN d (k + 1) (by omega) (by omega) (fun i h1 h2 => hno i (by omega) h2)
    rw [HD k (by omega)]
    intro e
    rcases List.mem_cons.1 e with e | e
    · exact hno k (Nat.le_refl _) (by omega) e.symm
    · exact ih e
theorem tk_bad' {c : UInt8} {r : Str} (h1 : c ≠ 36) (h2 : c ≠ 40) : tk (some none) (c :: r) = none := by simp only [tk]; rw [if_neg h1, if_neg h2]
/-- what Calls hands back -/
def CallPost (s : Str) (w : World) (e : Ending) (w' : World) : Prop :=
  Below w.heap.size w w' ∧ ((∃ T v, tk none s = some T ∧ T.length ≤ s.length ∧ e = .returned (.tuple #[v, .bool true]) ∧ CIn w' v T) ∨ (tk none s = none ∧ e = .returned (.tuple #[.slice none 0 0, .bool false])))
set_option maxHeartbeats 8000000 in
set_option maxRecDepth 100000 in
theorem calls_any (S : ByteArray) (w : World) (hs : S.size ≤ 4294967296) :
    Calls Tryz.prog 76 #[.string S] w (CallPost S.data.toList w) := by
  have HF : Hid (∀ k (h : k < S.size), S[k].toNat = (bK S k).toNat) := bK_get S
  have HX : Hid (∀ k, k < S.size → S.extract k (k + 1) = bs [bK S k]) := bK_ext S
  have HD : Hid (∀ k, k < S.size → S.data.toList.drop k = bK S k :: S.data.toList.drop (k + 1)) := drop_bK S
  have HN : Hid (S.data.toList.drop S.size = []) := Lib.hid (by rw [← size_list]; exact List.drop_length)
  have SL : Hid (S.data.toList.length = S.size) := size_list S
  have SB : Hid (∀ (a b : Nat) (s x r : Str), S.data.toList = s ++ x ++ r → a = s.length → b = s.length + x.length → S.extract a b = bs x) := bs_sub S
  obtain ⟨i0, hi, hz0, hz1, hz2⟩ := info_parts infoTk
  have HI := Lib.hid hi; clear hi
  generalize bK S = f at *
  generalize S.data.toList = s at *
  go_enter Tryz.func76, Tryz.ntmps76
  go_wp2_with fail
  go_loopw [4, 5] (fun o i wr => ∃ (k : Nat) (T : List Tok), k ≤ S.size ∧ CO w.heap.size o T wr ∧ i = .int .i64 (k : Int) ∧ tk none s = (tk none (s.drop k)).map (T ++ ·) ∧ T.length ≤ k ∧ Below w.heap.size w wr) (fun _ i _ => S.size - (intOf i).toNat)
  case atStart => exact ⟨0, [], Nat.zero_le _, World.ownsRow_nil _ _ _ _, rfl, by rw [List.drop_zero]; cases tk none s <;> simp, Nat.le_refl _, Below.refl _ _⟩
  case round =>
    obtain ⟨k, T, hk, qo, rfl, q1, hT, qb⟩ := hrel
    have QO := Lib.hid qo; have Q1 := Lib.hid q1; have QB := Lib.hid qb; clear qo q1 qb
    have OA : Hid (∀ o, (wr.alloc o).ownsRow w.heap.size 149 2 u4 T.length (tkCells T)) := fun o => World.ownsRow.alloc QO.out o
    have SA : Hid (∀ o, w.heap.size ≤ (wr.alloc o).heap.size) := fun o => by have := QB.out.size; simp; omega
    have LT : Hid (∀ k, u4.ownBlock = some k → w.heap.size ≤ k) := fun k hk => (QO.out.lt k hk).1
    have WA : Hid (∀ o, Below w.heap.size w (wr.alloc o)) := fun o => QB.out.alloc QB.out.size o
    by_cases hlt : k < S.size
    · have hb := HF.out k hlt
      have D := Lib.hid (HD.out k hlt)
      by_cases h36 : f k = 36
      · obtain ⟨b1, b1'⟩ : (((f (k)).toNat : Int) == 36) = true ∧ (((f (k)).toNat : Int) != 36) = false := byte_yes (n := 36) (by omega) h36
        have E : Hid (tk none s = (tk (some none) (s.drop (k + 1))).map (T ++ ·)) := by show _ = _; rw [Q1.out, D.out, h36, tk_dollar]
        clear Q1 D h36
        by_cases hlt1 : k + 1 < S.size
        · have hb1 := HF.out (k + 1) hlt1
          have D1 := Lib.hid (HD.out (k + 1) hlt1)
          by_cases h36 : f (k + 1) = 36
          · obtain ⟨b2, b2'⟩ : (((f (k + 1)).toNat : Int) == 36) = true ∧ (((f (k + 1)).toNat : Int) != 36) = false := byte_yes (n := 36) (by omega) h36
            have E2 : Hid (tk none s = (tk none (s.drop (k + 2))).map ((T ++ [Sum.inl 36]) ++ ·)) := by
              show _ = _; rw [E.out, D1.out, h36, tk_two]; cases tk none (s.drop (k + 1 + 1)) <;> simp
            have e36 : bs [36] = ByteArray.mk #[36] := rfl
            clear h36 E D1
            go_wp2_with (at_builtin; go_must (refine wpList_append_own _ rfl (.tmp 36) (.tmp 38) 120 rfl w.heap.size 149 i0 (.agg #[.bool false, .string ByteArray.empty]) 2 24 Tryz.underlying120 HI.out hz0 hz1 hz2 rfl (by decide) _ _ _ rfl (OA.out _) ⟨wr.heap.size, 0, none⟩ 1 1 [.bool false, .string (bs [36])] rfl rfl (two_new _ _ _ _) (by intro u hu; simp at hu; rcases hu with rfl | rfl <;> rfl) (by unfold maxLen; omega) (by omega) (SA.out _) ?_; intro v4 w4 q1 q2 q3; have O4 := Lib.hid q1; have G4 := Lib.hid q2; clear q1 q2 q3))
            go_roundw
            case rel => exact ⟨k + 2, T ++ [.inl 36], by omega, CO.snoc (x := .inl 36) O4.out, by go_num, E2.out, by simp; omega, (WA.out _).grown G4.out (SA.out _) LT.out⟩
            case measure => simp [intOf]; omega
          · obtain ⟨b2, b2'⟩ : (((f (k + 1)).toNat : Int) == 36) = false ∧ (((f (k + 1)).toNat : Int) != 36) = true := byte_no (n := 36) (by omega) h36
            have H36 := Lib.hid h36; clear h36
            go_wp2_with fail
            go_loopw [6] (fun j wq => ∃ m : Nat, k + 1 ≤ m ∧ m ≤ S.size ∧ j = .int .i64 (m : Int) ∧ (∀ i, k + 1 ≤ i → i < m → f i ≠ 41) ∧ wq = wr) (fun j _ => S.size - (intOf j).toNat)
            case atStart => exact ⟨k + 1, Nat.le_refl _, by omega, by go_num, fun i h1 h2 => by omega, rfl⟩
            case round =>
              obtain ⟨m, hm1, hm2, rfl, hm3, rfl⟩ := hrel
              have M3 := Lib.hid hm3; clear hm3
              by_cases hml : m < S.size
              · have hb2 := HF.out m hml
                by_cases h41 : f m = 41
                · obtain ⟨b4, b4'⟩ : (((f (m)).toNat : Int) == 41) = true ∧ (((f (m)).toNat : Int) != 41) = false := byte_yes (n := 41) (by omega) h41
                  by_cases h40 : f (k + 1) = 40
                  · obtain ⟨b3, b3'⟩ : (((f (k + 1)).toNat : Int) == 40) = true ∧ (((f (k + 1)).toNat : Int) != 40) = false := byte_yes (n := 40) (by omega) h40
                    have hkm : k + 2 ≤ m := by
                      rcases Nat.lt_or_ge m (k + 2) with h | h
                      · obtain rfl : m = k + 1 := by omega
                        rw [h41] at h40; exact absurd h40 (by decide)
                      · exact h
                    obtain ⟨x, x1, x2, x3⟩ := cut_name HD.out hml h41 _ (k + 2) rfl hkm (fun i h1 h2 => M3.out i (by omega) h2)
                    have EX : S.extract (k + 2) m = bs x := SB.out (k + 2) m (s.take (k + 2)) x (41 :: s.drop (m + 1)) (by rw [List.append_assoc, ← x1, List.take_append_drop]) (by rw [List.length_take, SL.out]; omega) (by rw [List.length_take, SL.out]; omega)
                    have E3 : Hid (tk none s = if good x then (tk none (s.drop (m + 1))).map ((T ++ [Sum.inr x]) ++ ·) else none) := by
                      show _ = _
                      rw [E.out, D1.out, h40, tk_par, show k + 1 + 1 = k + 2 from rfl, x1, tk_in _ _ _ x2, List.nil_append]
                      cases good x
                      · rfl
                      · cases tk none (s.drop (m + 1)) <;> simp
                    have GN := Lib.hid (goodName_any (bs x) wr (by rw [bs_size]; omega))
                    rw [bs_list] at GN
                    have XS : (bs x).size = m - (k + 2) := by rw [bs_size]; exact x3
                    clear h40 h41 x1 x2 x3 E D1 H36 M3
                    go_wp2_with fail
                    refine GN.out.mono ?_
                    rintro e w5 ⟨rfl, h⟩
                    rw [h]
                    clear h w5
                    cases hg : good x
                    · have E4 : Hid (tk none s = none) := by show _ = _; rw [E3.out, hg]; rfl
                      clear hg GN
                      go_wp2
                      go_ret2
                      exact ⟨QB.out, .inr ⟨E4.out, rfl⟩⟩
                    · have E4 : Hid (tk none s = (tk none (s.drop (m + 1))).map ((T ++ [Sum.inr x]) ++ ·)) := by show _ = _; rw [E3.out, hg]; rfl
                      clear hg GN E3
                      go_wp2_with (at_builtin; go_must (refine wpList_append_own _ rfl (.tmp 72) (.tmp 79) 120 rfl w.heap.size 149 i0 (.agg #[.bool false, .string ByteArray.empty]) 2 24 Tryz.underlying120 HI.out hz0 hz1 hz2 rfl (by decide) _ _ _ rfl (OA.out _) ⟨wr.heap.size, 0, none⟩ 1 1 [.bool true, .string (bs x)] rfl rfl (two_new _ _ _ _) (by intro u hu; simp at hu; rcases hu with rfl | rfl <;> rfl) (by unfold maxLen; omega) (by omega) (SA.out _) ?_; intro v4 w4 q1 q2 q3; have O4 := Lib.hid q1; have G4 := Lib.hid q2; clear q1 q2 q3))
                      go_roundw
                      case rel => exact ⟨m + 1, T ++ [.inr x], by omega, CO.snoc (x := .inr x) O4.out, by go_num, E4.out, by simp; omega, (WA.out _).grown G4.out (SA.out _) LT.out⟩
                      case measure => simp [intOf]; omega
                  · obtain ⟨b3, b3'⟩ : (((f (k + 1)).toNat : Int) == 40) = false ∧ (((f (k + 1)).toNat : Int) != 40) = true := byte_no (n := 40) (by omega) h40
                    have E4 : Hid (tk none s = none) := by show _ = _; rw [E.out, D1.out, tk_bad' H36.out h40]; rfl
                    clear h40 h41
                    go_wp2
                    go_ret2
                    exact ⟨QB.out, .inr ⟨E4.out, rfl⟩⟩
                · obtain ⟨b4, b4'⟩ : (((f (m)).toNat : Int) == 41) = false ∧ (((f (m)).toNat : Int) != 41) = true := byte_no (n := 41) (by omega) h41
                  have H41 := Lib.hid h41; clear h41
                  go_wp2
                  go_roundw
                  case rel =>
                    refine ⟨m + 1, by omega, by omega, by go_num, fun i h1 h2 => ?_, trivial⟩
                    rcases Nat.lt_succ_iff_lt_or_eq.1 h2 with h | h
                    · exact M3.out i h1 h
                    · rw [h]; exact H41.out
                  case measure => simp [intOf]; omega
              · have hmS : m = S.size := by omega
                have t5 : decide (m < S.size) = false := decide_eq_false hml
                have t6 : ((m : Int) == (S.size : Int)) = true := by rw [beq_iff_eq, hmS]
                by_cases h40 : f (k + 1) = 40
                · obtain ⟨b3, b3'⟩ : (((f (k + 1)).toNat : Int) == 40) = true ∧ (((f (k + 1)).toNat : Int) != 40) = false := byte_yes (n := 40) (by omega) h40
                  have E4 : Hid (tk none s = none) := by
                    show _ = _
                    rw [E.out, D1.out, h40, tk_par, tk_open _ _ (no_close HD.out HN.out _ (k + 1 + 1) rfl (by omega) (fun i h1 h2 => M3.out i (by omega) (by omega)))]; rfl
                  clear h40 hmS
                  go_wp2
                  go_ret2
                  exact ⟨QB.out, .inr ⟨E4.out, rfl⟩⟩
                · obtain ⟨b3, b3'⟩ : (((f (k + 1)).toNat : Int) == 40) = false ∧ (((f (k + 1)).toNat : Int) != 40) = true := byte_no (n := 40) (by omega) h40
                  have E4 : Hid (tk none s = none) := by show _ = _; rw [E.out, D1.out, tk_bad' H36.out h40]; rfl
                  clear h40 hmS
                  go_wp2
                  go_ret2
                  exact ⟨QB.out, .inr ⟨E4.out, rfl⟩⟩
        · have hS : S.size = k + 1 := by omega
          have t5 : (((k : Int) + 1) == (S.size : Int)) = true := by rw [beq_iff_eq, hS]; omega
          have E4 : Hid (tk none s = none) := by show _ = _; rw [E.out, ← hS, HN.out]; simp [tk]
          clear hS
          go_wp2
          go_ret2
          exact ⟨QB.out, .inr ⟨E4.out, rfl⟩⟩
      · obtain ⟨b1, b1'⟩ : (((f (k)).toNat : Int) == 36) = false ∧ (((f (k)).toNat : Int) != 36) = true := byte_no (n := 36) (by omega) h36
        have E : Hid (tk none s = (tk none (s.drop (k + 1))).map ((T ++ [Sum.inl (f k)]) ++ ·)) := by
          show _ = _; rw [Q1.out, D.out]; simp only [tk]; rw [if_neg h36]; cases tk none (s.drop (k + 1)) <;> simp
        have hx := HX.out k hlt
        have h1 : (bs [f k]).size = 1 := bs_size _
        clear h36 D Q1
        go_wp2_with (at_builtin; go_must (refine wpList_append_own _ rfl (.tmp 17) (.tmp 24) 120 rfl w.heap.size 149 i0 (.agg #[.bool false, .string ByteArray.empty]) 2 24 Tryz.underlying120 HI.out hz0 hz1 hz2 rfl (by decide) _ _ _ rfl (OA.out _) ⟨wr.heap.size, 0, none⟩ 1 1 [.bool false, .string (bs [f k])] rfl rfl (two_new _ _ _ _) (by intro u hu; simp at hu; rcases hu with rfl | rfl <;> rfl) (by unfold maxLen; omega) (by omega) (SA.out _) ?_; intro v4 w4 q1 q2 q3; have O4 := Lib.hid q1; have G4 := Lib.hid q2; clear q1 q2 q3))
        go_roundw
        case rel => exact ⟨k + 1, T ++ [.inl (f k)], by omega, CO.snoc (x := .inl (f k)) O4.out, by go_num, E.out, by simp; omega, (WA.out _).grown G4.out (SA.out _) LT.out⟩
        case measure => simp [intOf]; omega
    · obtain rfl : k = S.size := by omega
      have E : Hid (tk none s = some T) := by show _ = _; rw [Q1.out, HN.out]; simp [tk]
      go_wp2
      go_ret2
      exact ⟨QB.out, .inl ⟨T, _, E.out, by rw [SL.out]; exact hT, rfl, CIn.own QO.out (by omega)⟩⟩
end Go.Proofs.YtfgcbdjkimkgpaaGreatDoor
namespace Go.Proofs.YtfgcbdjkimkgpaaGreatDoor
set_option maxRecDepth 100000
set_option linter.unusedVariables false
open Go.ChangeShapes Go.WideShapes Go.ChangeAt Go.RowKit

theorem tk_good : ∀ (s : Str) (m : Option (Option Str)) (T : List Tok), tk m s = some T → ∀ n, Sum.inr n ∈ T → good n = true
  | [], none, T, h, n, hn => by simp only [tk, Option.some.injEq] at h; subst h; cases hn
  | [], some _, T, h, n, hn => by simp [tk] at h
  | c :: r, none, T, h, n, hn => by
    simp only [tk] at h
    split at h
    · exact tk_good r _ _ h n hn
    · cases hr : tk none r with
      | none => rw [hr] at h; cases h
      | some x => rw [hr] at h; cases h; cases hn with | tail _ hn => exact tk_good r _ _ hr n hn
  | c :: r, some none, T, h, n, hn => by
    simp only [tk] at h
    split at h
    · cases hr : tk none r with
      | none => rw [hr] at h; cases h
      | some x => rw [hr] at h; cases h; cases hn with | tail _ hn => exact tk_good r _ _ hr n hn
    · split at h
      · exact tk_good r _ _ h n hn
      · cases h
  | c :: r, some (some a), T, h, n, hn => by
    simp only [tk] at h
    split at h
    · split at h
      · rename_i hg
        cases hr : tk none r with
        | none => rw [hr] at h; cases h
        | some x =>
          rw [hr] at h; cases h
          cases hn with
          | head => exact hg
          | tail _ hn => exact tk_good r _ _ hr n hn
      · cases h
    · exact tk_good r _ _ h n hn

def tkAt (T : List Tok) (k : Nat) : Tok := T.getD k (.inl 0)
theorem tk_some {T : List Tok} {k : Nat} (h : k < T.length) : T[k]? = some (tkAt T k) := by
  unfold tkAt; rw [List.getD, List.getElem?_eq_getElem h]; rfl
theorem tk_take {T : List Tok} {k : Nat} (h : k < T.length) : T.take (k + 1) = T.take k ++ [tkAt T k] := by
  rw [List.take_add_one, tk_some h]; rfl
/-- the token in block k stays -/
def StayT (k : Nat) (x : Value) (y : Value) (w : World) : Prop := w.heap[k]? = some (.cells #[x, y] 149 (0, 0))
theorem StayT.cells {k : Nat} {x y : Value} {w : World} (h : StayT k x y w) : w.cell? ⟨k, 0, none⟩ = some x ∧ w.cell? ⟨k, 1, none⟩ = some y := by
  unfold StayT at h
  unfold World.cell?
  simp [h]
theorem StayT.later {k : Nat} {x y : Value} {w w' : World} (h : StayT k x y w) (hb : Below w.heap.size w w') : StayT k x y w' := by
  unfold StayT at h ⊢
  exact (hb.block _ (lt_of_block h)).trans h
theorem stayT_new (w : World) (x y : Value) : StayT w.heap.size x y (w.alloc (.cells #[x, y] 149)) := by unfold StayT; exact heap_alloc_new _ _

set_option maxHeartbeats 4000000 in
set_option maxRecDepth 100000 in
theorem called_any (T : List Tok) (v : Value) (w : World) (h : CIn w v T) (hT : T.length ≤ 4294967296) (hg : ∀ n, Sum.inr n ∈ T → good n = true) :
    Calls Tryz.prog 77 #[v] w fun e w' => ∃ v', e = .returned v' ∧ SO w.heap.size v' (dd T) w' ∧ Below w.heap.size w w' := by
  rcases h.open with ⟨rfl, a, cap, rfl⟩ | ⟨hp, b, off, cap, rfl, hcap, hlt, hc⟩
  · clear h
    go_enter Tryz.func77, Tryz.ntmps77
    go_wp2_with fail
    go_rounds 1
    go_ret
    exact ⟨_, rfl, World.ownsRow_nil _ _ _ _, Below.refl _ _⟩
  · have HC : Hid (∀ W, Below w.heap.size w W → ∀ k, k < T.length → W.cell? ⟨b, off + k * 2, none⟩ = some (.bool (isRf (tkAt T k))) ∧ W.cell? ⟨b, off + k * 2 + 1, none⟩ = some (.string (bs (txt (tkAt T k))))) := fun W hW k hk => ⟨cell_later hW (hc k _ (tk_some hk)).1, cell_later hW (hc k _ (tk_some hk)).2⟩
    have HT : Hid (∀ k, k < T.length → dd (T.take (k + 1)) = ddS (dd (T.take k)) (tkAt T k)) := fun k hk => by rw [tk_take hk]; unfold dd; rw [List.foldl_append]; rfl
    have HG : Hid (∀ k, k < T.length → ∀ n, tkAt T k = .inr n → good n = true) := fun k hk n e => hg n (by rw [← e]; exact List.mem_of_getElem? (tk_some hk))
    have GD : Hid (∀ k, ∀ x ∈ dd (T.take k), x.length ≤ 9223372036854775807) := fun k x hx => by
      have := (good_len (hg x (List.mem_of_mem_take ((mem_dd x _).1 hx)))).2; omega
    have DL : Hid (∀ k, (dd (T.take k)).length ≤ k) := fun k => by have := dd_le (T.take k); rw [List.length_take] at this; omega
    obtain ⟨i0, hi, hz0, hz1, hz2⟩ := info_parts infoStr
    have IH := Lib.hid hi; clear hi
    clear h hc hlt hg
    go_enter Tryz.func77, Tryz.ntmps77
    go_wp2_with fail
    go_loopw [3, 8] (fun o i wr => ∃ k : Nat, k ≤ T.length ∧ i = .int .i64 (k : Int) ∧ SO w.heap.size o (dd (T.take k)) wr ∧ Below w.heap.size w wr) (fun _ i _ => T.length - (intOf i).toNat)
    case atStart => exact ⟨0, Nat.zero_le _, rfl, World.ownsRow_nil _ _ _ _, Below.refl _ _⟩
    case round =>
      obtain ⟨k, hk, rfl, qo, qb⟩ := hrel
      have QO := Lib.hid qo; have QB := Lib.hid qb; clear qo qb
      by_cases hk2 : k < T.length
      · obtain ⟨c1, c2⟩ := HC.out wr QB.out k hk2
        have T1 := Lib.hid (HT.out k hk2)
        have G1 := Lib.hid (HG.out k hk2)
        have GK := Lib.hid (GD.out k)
        have DK := Lib.hid (DL.out k)
        generalize tkAt T k = x at *
        generalize dd (T.take k) = D at *
        have BA : Hid (Below w.heap.size w (wr.alloc (.cells #[.bool (isRf x), .string (bs (txt x))] 149))) := QB.out.alloc QB.out.size _
        have OA : Hid (SO w.heap.size u3 D (wr.alloc (.cells #[.bool (isRf x), .string (bs (txt x))] 149))) := World.ownsRow.alloc QO.out _
        have SZ : Hid (w.heap.size ≤ (wr.alloc (.cells #[.bool (isRf x), .string (bs (txt x))] 149)).heap.size) := BA.out.size
        cases x with
        | inl c =>
          have e1 : isRf (Sum.inl c) = false := rfl
          rw [e1] at c1
          rw [e1] at BA OA
          clear e1
          go_wp2
          go_roundw
          case rel => exact ⟨k + 1, by omega, by go_num, by rw [T1.out]; exact OA.out, BA.out⟩
          case measure => simp [intOf]; omega
        | inr n =>
          have e1 : isRf (Sum.inr n) = true := rfl
          have e2 : txt (Sum.inr n) = n := rfl
          rw [e1] at c1
          rw [e2] at c2
          rw [e1, e2] at BA OA SZ
          clear e1 e2
          have IS : Hid (SIn (wr.alloc (.cells #[.bool true, .string (bs n)] 149)) u3 D) := SIn.own OA.out (by have := DK.out; omega) GK.out
          have PL := Lib.hid (place_of IS.out n)
          obtain ⟨W1, hW1⟩ : ∃ W1, W1 = wr.alloc (.cells #[.bool true, .string (bs n)] 149) := ⟨_, rfl⟩
          have S1 : Hid (StayT wr.heap.size (.bool true) (.string (bs n)) W1) := by rw [hW1]; exact stayT_new _ _ _
          rw [← hW1] at BA OA SZ IS PL
          obtain ⟨d1, d2⟩ := S1.out.cells
          have OB : Hid (∀ o, (W1.alloc o).ownsRow w.heap.size 9 1 u3 D.length (D.map encStr)) := fun o => World.ownsRow.alloc OA.out o
          have SB : Hid (∀ o, w.heap.size ≤ (W1.alloc o).heap.size) := fun o => by have := SZ.out; simp; omega
          have LT : Hid (∀ j, u3.ownBlock = some j → w.heap.size ≤ j) := fun j hj => (OA.out.lt j hj).1
          have WB : Hid (∀ o, Below w.heap.size w (W1.alloc o)) := fun o => BA.out.alloc SZ.out o
          go_wp2_with fail
          rw [← hW1]
          clear hW1
          refine PL.out.mono ?_
          rintro e w5 ⟨hpl, h⟩
          rw [h]
          clear h w5
          rcases hpl with ⟨i, hi1, hi2, rfl⟩ | ⟨hi, rfl⟩
          · have M1 : Hid (dd (T.take (k + 1)) = D) := by
              show _ = _
              rw [T1.out]
              show (if D.contains n then D else D ++ [n]) = D
              rw [if_pos]
              rw [List.contains_iff_mem, ← hi2, List.getD, List.getElem?_eq_getElem hi1]
              exact List.getElem_mem hi1
            have t1 : decide ((i : Int) < 0) = false := decide_eq_false (by omega)
            clear hi1 hi2 PL
            go_wp2
            go_roundw
            case rel => exact ⟨k + 1, by omega, by go_num, by rw [M1.out]; exact OA.out, BA.out⟩
            case measure => simp [intOf]; omega
          · have M1 : Hid (dd (T.take (k + 1)) = D ++ [n]) := by
              show _ = _
              rw [T1.out]
              show (if D.contains n then D else D ++ [n]) = D ++ [n]
              rw [if_neg (by rw [List.contains_iff_mem]; exact hi)]
            have dk := DK.out
            clear hi PL
            go_wp2_with (at_builtin; go_must (refine wpList_append_own _ rfl (.tmp 21) (.tmp 24) 27 rfl w.heap.size 9 i0 (.string ByteArray.empty) 1 16 Tryz.underlying27 IH.out hz0 hz1 hz2 rfl (by decide) _ _ _ rfl (OB.out _) ⟨W1.heap.size, 0, none⟩ 1 1 [.string (bs n)] rfl rfl (cell_one' _ _ _) (by intro u hu; simp at hu; rcases hu with rfl; rfl) (by unfold maxLen; omega) (by omega) (SB.out _) ?_; intro v4 w4 q1 q2 q3; have O4 := Lib.hid q1; have G4 := Lib.hid q2; clear q1 q2 q3))
            go_roundw
            case rel => exact ⟨k + 1, by omega, by go_num, by rw [M1.out]; exact SO.snoc O4.out, (WB.out _).grown G4.out (SB.out _) LT.out⟩
            case measure => simp [intOf]; omega
      · obtain rfl : k = T.length := by omega
        go_wp2
        go_ret
        have q := QO.out
        rw [List.take_length] at q
        exact ⟨_, rfl, q, QB.out⟩
theorem names_take {z : List Mc} {k : Nat} (h : k < z.length) : names (z.take (k + 1)) = names (z.take k) ++ [nm z k] := by rw [take_at h, names_snoc]
set_option maxHeartbeats 4000000 in
set_option maxRecDepth 100000 in
theorem mnames_any (z : List Mc) (v : Value) (w : World) (h : McIn w v z) (hn : z.length ≤ 1048576) :
    Calls Tryz.prog 75 #[v] w fun e w' => ∃ v', e = .returned v' ∧ SO w.heap.size v' (names z) w' ∧ Below w.heap.size w w' := by
  rcases h.open with ⟨rfl, a, cap, rfl⟩ | ⟨hp, b, off, cap, rfl, hcap, hlt, hc⟩
  · clear h
    go_enter Tryz.func75, Tryz.ntmps75
    go_wp2_with fail
    go_rounds 1
    go_ret
    exact ⟨_, rfl, World.ownsRow_nil _ _ _ _, Below.refl _ _⟩
  · have HC : Hid (∀ W, Below w.heap.size w W → ∀ k, k < z.length → W.cell? ⟨b, off + k * 2, none⟩ = some (.string (bs (nm z k))) ∧ W.cell? ⟨b, off + k * 2 + 1, none⟩ = some (.string (bs (vl z k)))) := fun W hW k hk => ⟨cell_later hW (hc k _ (at_some hk)).1, cell_later hW (hc k _ (at_some hk)).2⟩
    have HT : Hid (∀ k, k < z.length → names (z.take (k + 1)) = names (z.take k) ++ [nm z k]) := fun k hk => names_take hk
    have NL : Hid (∀ k, (names (z.take k)).length ≤ k) := fun k => by unfold names; rw [List.length_map, List.length_take]; omega
    obtain ⟨i0, hi, hz0, hz1, hz2⟩ := info_parts infoStr
    have IH := Lib.hid hi; clear hi
    clear h hc hlt
    generalize nm z = f at *
    generalize vl z = g at *
    go_enter Tryz.func75, Tryz.ntmps75
    go_wp2_with fail
    go_loopw [3, 8] (fun o i wr => ∃ k : Nat, k ≤ z.length ∧ i = .int .i64 (k : Int) ∧ SO w.heap.size o (names (z.take k)) wr ∧ Below w.heap.size w wr) (fun _ i _ => z.length - (intOf i).toNat)
    case atStart => exact ⟨0, Nat.zero_le _, rfl, World.ownsRow_nil _ _ _ _, Below.refl _ _⟩
    case round =>
      obtain ⟨k, hk, rfl, qo, qb⟩ := hrel
      have QO := Lib.hid qo; have QB := Lib.hid qb; clear qo qb
      by_cases hk2 : k < z.length
      · obtain ⟨c1, c2⟩ := HC.out wr QB.out k hk2
        have T1 := Lib.hid (HT.out k hk2)
        have dk := NL.out k
        generalize f k = x at *
        generalize g k = y at *
        generalize names (z.take k) = D at *
        have OB : Hid (∀ o, ((wr.alloc (.cells #[.string (bs x), .string (bs y)] 72)).alloc o).ownsRow w.heap.size 9 1 u3 D.length (D.map encStr)) := fun o => World.ownsRow.alloc (World.ownsRow.alloc QO.out _) o
        have SB : Hid (∀ o, w.heap.size ≤ ((wr.alloc (.cells #[.string (bs x), .string (bs y)] 72)).alloc o).heap.size) := fun o => by have := QB.out.size; simp; omega
        have LT : Hid (∀ j, u3.ownBlock = some j → w.heap.size ≤ j) := fun j hj => (QO.out.lt j hj).1
        have WB : Hid (∀ o, Below w.heap.size w ((wr.alloc (.cells #[.string (bs x), .string (bs y)] 72)).alloc o)) := fun o => (QB.out.alloc QB.out.size _).alloc (by have := QB.out.size; simp; omega) o
        have C1 : Hid (∀ j u, [Value.string (bs x)][j]? = some u → ((wr.alloc (.cells #[.string (bs x), .string (bs y)] 72)).alloc (.cells #[.string (bs x)] 9)).cell? ((⟨wr.heap.size + 1, 0, none⟩ : Addr).add j) = some u) := by
          have := cell_one' (wr.alloc (.cells #[.string (bs x), .string (bs y)] 72)) (.string (bs x)) 9
          have e : (wr.alloc (.cells #[.string (bs x), .string (bs y)] 72)).heap.size = wr.heap.size + 1 := by simp
          rw [e] at this
          exact this
        go_wp2_with (at_builtin; go_must (refine wpList_append_own _ rfl (.tmp 12) (.tmp 15) 27 rfl w.heap.size 9 i0 (.string ByteArray.empty) 1 16 Tryz.underlying27 IH.out hz0 hz1 hz2 rfl (by decide) _ _ _ rfl (OB.out _) ⟨wr.heap.size + 1, 0, none⟩ 1 1 [.string (bs x)] rfl rfl C1.out (by intro u hu; simp at hu; rcases hu with rfl; rfl) (by unfold maxLen; omega) (by omega) (SB.out _) ?_; intro v4 w4 q1 q2 q3; have O4 := Lib.hid q1; have G4 := Lib.hid q2; clear q1 q2 q3))
        go_roundw
        case rel => exact ⟨k + 1, by omega, by go_num, by rw [T1.out]; exact SO.snoc O4.out, (WB.out _).grown G4.out (SB.out _) LT.out⟩
        case measure => simp [intOf]; omega
      · obtain rfl : k = z.length := by omega
        go_wp2
        go_ret
        have q := QO.out
        rw [List.take_length] at q
        exact ⟨_, rfl, q, QB.out⟩
end Go.Proofs.YtfgcbdjkimkgpaaGreatDoor
namespace Go.Proofs.YtfgcbdjkimkgpaaGreatDoor
set_option maxRecDepth 100000
set_option linter.unusedVariables false
open Go.ChangeShapes Go.WideShapes Go.ChangeAt Go.RowKit

theorem bs_append (a b : Str) : bs a ++ bs b = bs (a ++ b) := by
  rw [← bs_of (bs a ++ bs b)]; simp [bs]
theorem CIn.later' {w w' : World} {v : Value} {T : List Tok} (h : CIn w v T) (hb : Below w.heap.size w w') : CIn w' v T := h.later hb
/-- what stands for a token -/
def rep1 (g : Str → Option Str) : Tok → Str
  | .inl c => [c]
  | .inr n => (g n).getD []
theorem subD_one (g : Str → Option Str) (x : Tok) : subD g [x] = rep1 g x := by
  cases x <;> simp [subD, rep1]
theorem subD_step (g : Str → Option Str) {T : List Tok} {k : Nat} (h : k < T.length) : subD g (T.take (k + 1)) = subD g (T.take k) ++ rep1 g (tkAt T k) := by
  rw [tk_take h, subD_append, subD_one]
theorem subD_part (g : Str → Option Str) (T : List Tok) (k : Nat) : (subD g (T.take k)).length ≤ (subD g T).length := by
  have : subD g T = subD g (T.take k) ++ subD g (T.drop k) := by rw [← subD_append, List.take_append_drop]
  rw [this, List.length_append]; omega
/-- what flatten hands back -/
def TenPost (y : List Mc) (T : List Tok) (w : World) (e : Ending) (w' : World) : Prop :=
  Below w.heap.size w w' ∧ (((subD (look y) T).length ≤ 2000 ∧ e = .returned (.tuple #[.string (bs (subD (look y) T)), .bool true])) ∨ (2000 < (subD (look y) T).length ∧ e = .returned (.tuple #[.string (bs []), .bool false])))
theorem look_at {y : List Mc} (hd : (names y).Nodup) {i : Nat} {n : Str} (hi : i < (names y).length) (e : (names y).getD i [] = n) : i < y.length ∧ look y n = some (vl y i) := by
  have hl : i < y.length := by unfold names at hi; rw [List.length_map] at hi; exact hi
  refine ⟨hl, ?_⟩
  have h1 : (names y).getD i [] = nm y i := by
    unfold names nm
    rw [List.getD, List.getElem?_map, List.getElem?_eq_getElem hl, List.getD, List.getElem?_eq_getElem hl]; rfl
  rw [← e, h1]
  exact look_of hd (mem_at hl)
set_option maxHeartbeats 4000000 in
set_option maxRecDepth 100000 in
theorem ten_any (y : List Mc) (T : List Tok) (v u : Value) (w : World) (hv : McIn w v y) (hu : CIn w u T) (hn : y.length ≤ 1048576) (hT : T.length ≤ 4294967296) (hd : (names y).Nodup) (hy : ∀ m ∈ y, m.1.length ≤ maxLen ∧ m.2.length ≤ 2000) (hr : ∀ n, Sum.inr n ∈ T → n ∈ names y) :
    Calls Tryz.prog 78 #[v, u] w (TenPost y T w) := by
  rcases hu.open with ⟨rfl, a, cap, rfl⟩ | ⟨hp, b, off, cap, rfl, hcap, hlt, hc⟩
  · clear hu
    go_enter Tryz.func78, Tryz.ntmps78
    go_wp2_with fail
    go_rounds 1
    go_ret2
    exact ⟨Below.refl _ _, .inl ⟨Nat.zero_le _, rfl⟩⟩
  · have HC : Hid (∀ W, Below w.heap.size w W → ∀ k, k < T.length → W.cell? ⟨b, off + k * 2, none⟩ = some (.bool (isRf (tkAt T k))) ∧ W.cell? ⟨b, off + k * 2 + 1, none⟩ = some (.string (bs (txt (tkAt T k))))) := fun W hW k hk => ⟨cell_later hW (hc k _ (tk_some hk)).1, cell_later hW (hc k _ (tk_some hk)).2⟩
    have HT : Hid (∀ k, k < T.length → subD (look y) (T.take (k + 1)) = subD (look y) (T.take k) ++ rep1 (look y) (tkAt T k)) := fun k hk => subD_step _ hk
    have HP : Hid (∀ k, (subD (look y) (T.take k)).length ≤ (subD (look y) T).length) := fun k => subD_part _ T k
    have HR : Hid (∀ k, k < T.length → ∀ n, tkAt T k = .inr n → n ∈ names y) := fun k hk n e => hr n (by rw [← e]; exact List.mem_of_getElem? (tk_some hk))
    have MN : Hid (∀ W, Below w.heap.size w W → Calls Tryz.prog 75 #[v] W fun e w' => ∃ v', e = .returned v' ∧ SO W.heap.size v' (names y) w' ∧ Below W.heap.size W w') := fun W hW => mnames_any y v W (hv.later hW) hn
    have YC : Hid (∀ W, Below w.heap.size w W → ∀ i, i < y.length → ∃ b2 off2 cap2, v = .slice (some ⟨b2, off2, none⟩) y.length cap2 ∧ W.cell? ⟨b2, off2 + i * 2 + 1, none⟩ = some (.string (bs (vl y i)))) := fun W hW i hi => by
      rcases (hv.later hW).open with ⟨rfl, _⟩ | ⟨_, b2, off2, cap2, rfl, _, _, h2⟩
      · simp at hi
      · exact ⟨b2, off2, cap2, rfl, (h2 i _ (at_some hi)).2⟩
    have NB : Hid ((names y).length ≤ 17592186044416 ∧ ∀ x ∈ names y, x.length ≤ 9223372036854775807) := by
      refine ⟨by unfold names; rw [List.length_map]; omega, fun x hx => ?_⟩
      obtain ⟨m, hm, rfl⟩ := List.mem_map.1 hx
      have := (hy m hm).1; unfold maxLen at this; omega
    have LK : Hid (∀ i n, i < (names y).length → (names y).getD i [] = n → i < y.length ∧ look y n = some (vl y i) ∧ (vl y i).length ≤ 2000) := fun i n h1 h2 => ⟨(look_at hd h1 h2).1, (look_at hd h1 h2).2, (hy _ (mem_at (look_at hd h1 h2).1)).2⟩
    clear hu hc hlt hv hn hd hy hr
    go_enter Tryz.func78, Tryz.ntmps78
    go_wp2_with fail
    go_loopw [6, 12] (fun o i wr => ∃ k : Nat, k ≤ T.length ∧ i = .int .i64 (k : Int) ∧ o = .string (bs (subD (look y) (T.take k))) ∧ (subD (look y) (T.take k)).length ≤ 2000 ∧ Below w.heap.size w wr) (fun _ i _ => T.length - (intOf i).toNat)
    case atStart => exact ⟨0, Nat.zero_le _, rfl, rfl, Nat.zero_le _, Below.refl _ _⟩
    case round =>
      obtain ⟨k, hk, rfl, rfl, hl, qb⟩ := hrel
      have QB := Lib.hid qb; clear qb
      by_cases hk2 : k < T.length
      · obtain ⟨c1, c2⟩ := HC.out wr QB.out k hk2
        have T1 := Lib.hid (HT.out k hk2)
        have R1 := Lib.hid (HR.out k hk2)
        have P1 := Lib.hid (HP.out (k + 1))
        rw [T1.out] at P1
        generalize tkAt T k = x at *
        generalize subD (look y) (T.take k) = O at *
        have so : (bs O).size = O.length := bs_size O
        have BA : Hid (Below w.heap.size w (wr.alloc (.cells #[.bool (isRf x), .string (bs (txt x))] 149))) := QB.out.alloc QB.out.size _
        cases x with
        | inl c =>
          have e1 : isRf (Sum.inl c) = false := rfl
          have e2 : txt (Sum.inl c) = [c] := rfl
          have e3 : rep1 (look y) (Sum.inl c) = [c] := rfl
          rw [e1] at c1
          rw [e2] at c2
          rw [e1, e2] at BA
          rw [e3] at T1 P1
          clear e1 e2 e3
          have s1 : (bs [c]).size = 1 := bs_size _
          have cat := bs_append O [c]
          by_cases hb : O.length + 1 ≤ 2000
          · have t1 : decide ((2000 : Int) < (O.length : Int) + 1) = false := decide_eq_false (by omega)
            go_wp2
            go_roundw
            case rel => exact ⟨k + 1, by omega, by go_num, by rw [T1.out], by rw [T1.out, List.length_append, List.length_singleton]; exact hb, BA.out⟩
            case measure => simp [intOf]; omega
          · have t1 : decide ((2000 : Int) < (O.length : Int) + 1) = true := decide_eq_true (by omega)
            have BIG : Hid (2000 < (subD (look y) T).length) := by have := P1.out; rw [List.length_append, List.length_singleton] at this; show _ < _; omega
            go_wp2
            go_ret2
            exact ⟨BA.out, .inr ⟨BIG.out, rfl⟩⟩
        | inr n =>
          have e1 : isRf (Sum.inr n) = true := rfl
          have e2 : txt (Sum.inr n) = n := rfl
          have e3 : rep1 (look y) (Sum.inr n) = (look y n).getD [] := rfl
          rw [e1] at c1
          rw [e2] at c2
          rw [e1, e2] at BA
          rw [e3] at T1 P1
          have RN := R1.out n rfl
          clear e1 e2 e3 R1
          have RH := Lib.hid RN; clear RN
          have MC := Lib.hid (MN.out _ BA.out)
          go_wp2_with fail
          refine MC.out.mono ?_
          rintro e w3 ⟨v', rfl, o3, hb3⟩
          have B3 : Hid (Below w.heap.size w w3) := BA.out.trans (hb3.mono BA.out.size)
          have I3 : Hid (SIn w3 v' (names y)) := SIn.own o3 NB.out.1 NB.out.2
          clear o3 hb3 MC
          go_wp2_with fail
          refine (place_of I3.out n).mono ?_
          rintro e w5 ⟨hpl, h⟩
          rw [h]
          clear h w5
          rcases hpl with ⟨i, hi1, hi2, rfl⟩ | ⟨hi, rfl⟩
          · obtain ⟨hi3, hlk, hv2⟩ := LK.out i n hi1 hi2
            obtain ⟨b2, off2, cap2, rfl, c5⟩ := YC.out w3 B3.out i hi3
            rw [hlk] at T1 P1
            generalize vl y i = t at *
            have T2 : Hid (subD (look y) (T.take (k + 1)) = O ++ t) := T1.out
            have P2 : Hid ((O ++ t).length ≤ (subD (look y) T).length) := P1.out
            have s1 : (bs t).size = t.length := bs_size _
            have cat := bs_append O t
            clear hlk hi1 hi2 T1 P1
            by_cases hb : O.length + t.length ≤ 2000
            · have t1 : decide ((2000 : Int) < (O.length : Int) + (t.length : Int)) = false := decide_eq_false (by omega)
              go_wp2
              go_roundw
              case rel => exact ⟨k + 1, by omega, by go_num, by rw [T2.out], by rw [T2.out, List.length_append]; exact hb, B3.out⟩
              case measure => simp [intOf]; omega
            · have t1 : decide ((2000 : Int) < (O.length : Int) + (t.length : Int)) = true := decide_eq_true (by omega)
              have BIG : Hid (2000 < (subD (look y) T).length) := by have := P2.out; rw [List.length_append] at this; show _ < _; omega
              go_wp2
              go_ret2
              exact ⟨B3.out, .inr ⟨BIG.out, rfl⟩⟩
          · exact absurd RH.out hi
      · obtain rfl : k = T.length := by omega
        have e : Hid (subD (look y) (T.take T.length) = subD (look y) T) := by show _ = _; rw [List.take_length]
        rw [e.out] at hl ⊢
        have HL := Lib.hid hl; clear hl
        go_wp2
        go_ret2
        exact ⟨QB.out, .inl ⟨HL.out, rfl⟩⟩
end Go.Proofs.YtfgcbdjkimkgpaaGreatDoor
