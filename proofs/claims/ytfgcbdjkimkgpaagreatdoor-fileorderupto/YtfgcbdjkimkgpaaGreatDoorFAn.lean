/-
  strings.IndexAny with the chars "=:" at any string of fewer than 2^32 bytes: its exact answer; where a line is a definition. No condition else.
-/
import Derived.Test.YtfgcbdjkimkgpaaGreatDoorFOpen
namespace Go.Proofs.YtfgcbdjkimkgpaaGreatDoor
set_option maxRecDepth 100000
set_option linter.unusedVariables false
open Go.ChangeShapes Go.WideShapes Go.ChangeAt Go.RowKit

theorem idx2E : ∀ n : Fin 128, n.val ≠ 61 → n.val ≠ 58 → Lib.indexByte [61, 58] ((n.val : Int).toNat.toUInt8) = -1 := by decide +kernel

set_option maxRecDepth 100000 in
set_option maxHeartbeats 2000000 in
theorem idxRune_asciiE (r : Nat) (h : r < 128) (h1 : r ≠ 61) (h2 : r ≠ 58) (w : World) :
    Calls Tryz.prog 60 #[.string (ByteArray.mk #[61, 58]), .int .i32 r] w fun e w' => e = .returned (.int .i64 (-1)) ∧ w' = w := by
  have HE : Hid (Lib.indexByte (ByteArray.mk #[61, 58]).data.toList ((r : Int).toNat.toUInt8) = -1) := idx2E ⟨r, h⟩ h1 h2
  clear h1 h2
  have h3 : (r : Int) < 128 := by omega
  go_enter Tryz.func60, Tryz.ntmps60
  go_wp2_with fail
  refine (idxByte_any _ _ _).mono ?_
  rw [HE.out]
  rintro e w' ⟨rfl, rfl⟩
  go_wp2
  go_ret
  exact ⟨rfl, rfl⟩

set_option maxRecDepth 100000 in
set_option maxHeartbeats 4000000 in
theorem idxRune_errE (w : World) :
    Calls Tryz.prog 60 #[.string (ByteArray.mk #[61, 58]), .int .i32 65533] w fun e w' => e = .returned (.int .i64 (-1)) ∧ Below w.heap.size w w' := by
  have n0 := fun ty => run_next_ascii (P := Tryz.prog) w (ByteArray.mk #[61, 58]) 0 ty (by decide) (by decide)
  have n1 := fun ty => run_next_ascii (P := Tryz.prog) w (ByteArray.mk #[61, 58]) 1 ty (by decide) (by decide)
  have n2 := fun ty => run_next_end (P := Tryz.prog) w (ByteArray.mk #[61, 58]) 2 ty (by decide)
  go_enter Tryz.func60, Tryz.ntmps60
  go_wp2_with fail
  go_loopg [5, 6] 2 (fun g _ _ wr => ∃ k : Nat, k + g = 2 ∧ wr = w.iter (ByteArray.mk #[61, 58]) k)
  case atStart => exact ⟨0, rfl, rfl⟩
  case round =>
    obtain ⟨k, hk, rfl⟩ := hrel
    match gk, k, hk with
    | 0, 2, _ =>
      go_wp2
      go_ret
      exact ⟨rfl, (Below.refl _ w).alloc (Nat.le_refl _) _⟩
    | 1, 1, _ =>
      go_wp2
      go_roundg 0
      case measure => omega
      case rel => exact ⟨2, rfl, rfl⟩
    | 2, 0, _ =>
      go_wp2
      go_roundg 1
      case measure => omega
      case rel => exact ⟨1, rfl, rfl⟩

set_option maxRecDepth 100000 in
set_option maxHeartbeats 4000000 in
theorem idxRune_highE (ch : ByteArray) (hch : ch.size = 2) (hc1 : ∀ h : 1 < ch.size, (ch[1]'h).toNat = 58) (r : Int) (h : Rn r) (h128 : 128 ≤ r) (hne : r ≠ 65533) (w : World) :
    Calls Tryz.prog 60 #[.string ch, .int .i32 r] w fun e w' => e = .returned (.int .i64 (-1)) ∧ Below w.heap.size w w' := by
  have HR := Lib.hid h
  obtain ⟨f1, f2, f3⟩ := encode_facts r h.valid h128
  have t0 : (0 : Int) ≤ r := by omega
  have t1 : ¬ r < 128 := by omega
  have t2 : (r == 65533) = false := by rw [beq_eq_false_iff_ne]; exact hne
  clear h hne h128
  have hc := hc1 (by omega)
  clear hc1
  go_enter Tryz.func60, Tryz.ntmps60
  go_wp2_with fail
  refine (validRune_any r HR.out _).mono ?_
  rintro e w' ⟨rfl, rfl⟩
  by_cases h2 : (Utf8.encode r).size = 2
  · obtain ⟨y, hy, hb⟩ : ∃ y : Nat, 128 ≤ y ∧ ∀ h : 1 < (Utf8.encode r).size, ((Utf8.encode r)[1]'h).toNat = y := by
      have h1 : 1 < (Utf8.encode r).size := by omega
      refine ⟨((Utf8.encode r)[1]'h1).toNat, ?_, fun _ => rfl⟩
      have := f3 (by omega)
      simpa only [h2] using this
    have h1 : 1 < (Utf8.encode r).size := by omega
    have hb1 := hb h1
    have tt : ((58 : Int) != (y : Int)) = true := by rw [bne_iff_ne]; omega
    clear f3 hb hy
    go_wp2_with fail
    go_step3
    go_wp2_with fail
    refine wp_loop_rounds 1 ?_
    rw [rounds_succ]
    go_wp2_with fail
    go_step3
    go_wp2_with fail
    go_quiet (fail)
    go_wp2_with fail
    have HB : Hid (Below w'.heap.size w' (w'.drewN nq)) := below_drewN (Below.refl _ _) nq
    generalize w'.drewN nq = wq at HB ⊢
    go_quiet (first | (go_at_call 93; exact Calls.quiet_of_same (idxByte_any _ _ _)))
    rw [idx_empty]
    go_wp2_with fail
    rw [Exit.noGoto_ret]
    simp only [Exit.inBlock, Exit.then]
    rw [Exit.noGoto_ret]
    simp only [Exit.inBlock]
    go_ret
    exact ⟨rfl, below_drewN HB.out _⟩
  · have h3 : 3 ≤ (Utf8.encode r).size := by omega
    clear h2 f3
    go_wp2_with fail
    go_step3
    go_wp2_with fail
    refine wp_loop_rounds 1 ?_
    rw [rounds_succ]
    go_wp2_with fail
    rw [Exit.noGoto_ret]
    simp only [Exit.inBlock]
    go_ret
    exact ⟨rfl, Below.refl _ _⟩

/-- IndexRune in "=:" of a rune that is neither -/
theorem idxRune_noneE (r : Nat) (h : Rn (r : Int)) (h1 : r ≠ 61) (h2 : r ≠ 58) (w : World) :
    Calls Tryz.prog 60 #[.string (ByteArray.mk #[61, 58]), .int .i32 r] w fun e w' => e = .returned (.int .i64 (-1)) ∧ Below w.heap.size w w' := by
  by_cases h3 : r < 128
  · exact (idxRune_asciiE r h3 h1 h2 w).mono fun e w' k => ⟨k.1, k.2 ▸ Below.refl _ _⟩
  · by_cases h4 : r = 65533
    · subst h4; exact idxRune_errE w
    · exact idxRune_highE (ByteArray.mk #[61, 58]) rfl (fun _ => rfl) r h (by omega) (by omega) w

set_option maxRecDepth 100000 in
theorem idxRune_hitE (r : Nat) (h : r = 61 ∨ r = 58) (w : World) :
    Calls Tryz.prog 60 #[.string (ByteArray.mk #[61, 58]), .int .i32 r] w fun e w' => (∃ k : Nat, e = .returned (.int .i64 k)) ∧ w' = w := by
  rcases h with rfl | rfl
  · have HE : Hid (Lib.indexByte (ByteArray.mk #[61, 58]).data.toList (((61 : Nat) : Int).toNat.toUInt8) = 0) := Lib.hid (by decide +kernel)
    go_enter Tryz.func60, Tryz.ntmps60
    go_wp2_with fail
    refine (idxByte_any _ _ _).mono ?_
    rintro e w' ⟨rfl, rfl⟩
    go_wp2
    go_ret
    exact ⟨⟨0, rfl⟩, rfl⟩
  · have HE : Hid (Lib.indexByte (ByteArray.mk #[61, 58]).data.toList (((58 : Nat) : Int).toNat.toUInt8) = 1) := Lib.hid (by decide +kernel)
    go_enter Tryz.func60, Tryz.ntmps60
    go_wp2_with fail
    refine (idxByte_any _ _ _).mono ?_
    rintro e w' ⟨rfl, rfl⟩
    go_wp2
    go_ret
    exact ⟨⟨1, rfl⟩, rfl⟩
theorem dec_ascii (s : ByteArray) (pos : Nat) (h : pos < s.size) (hb : byteAt s pos < 128) : Utf8.decode s pos = (byteAt s pos, 1) := by
  rw [Lib.decode_N]
  exact Lib.decodeN_ascii _ _ _ _ _ hb
theorem dec_skip (s : ByteArray) (pos : Nat) (h : pos < s.size) : ∀ j, 0 < j → j < (Utf8.decode s pos).2 → 128 ≤ byteAt s (pos + j) := by
  unfold byteAt
  rw [Lib.decode_N]
  generalize s.data.toList = l at *
  rcases Lib.decodeN_shape (l.length - pos) (l.getD pos 0).toNat (l.getD (pos + 1) 0).toNat (l.getD (pos + 2) 0).toNat (l.getD (pos + 3) 0).toNat with ⟨h0, e⟩ | ⟨h0, h1, h2, h3, e⟩ | ⟨h0, h1, h2, h3, h4, h5, e⟩ | ⟨h0, h1, h2, h3, h4, h5, h6, e⟩ | e
  all_goals rw [e]; intro j hj0 hj
  · have : j < 1 := hj; omega
  · have : j < 2 := hj
    obtain rfl : j = 1 := by omega
    omega
  · have : j < 3 := hj
    rcases (by omega : j = 1 ∨ j = 2) with rfl | rfl <;> omega
  · have : j < 4 := hj
    rcases (by omega : j = 1 ∨ j = 2 ∨ j = 3) with rfl | rfl | rfl <;> omega
  · have : j < 1 := hj; omega
/-- neither sign -/
def NoE (b : Nat) : Prop := b ≠ 61 ∧ b ≠ 58
theorem con_e (b : UInt8) : List.contains [61, 58] b = decide (b.toNat = 61 ∨ b.toNat = 58) := by
  have h1 : b = 61 ↔ b.toNat = 61 := ⟨fun e => by rw [e]; rfl, fun e => UInt8.toNat_inj.1 e⟩
  have h2 : b = 58 ↔ b.toNat = 58 := ⟨fun e => by rw [e]; rfl, fun e => UInt8.toNat_inj.1 e⟩
  rw [Bool.eq_iff_iff, List.contains_iff_mem, decide_eq_true_iff, ← h1, ← h2]
  simp
theorem anyE_no : ∀ (l : Str), (∀ j, j < l.length → NoE (l.getD j 0).toNat) → Lib.indexAny l [61, 58] = -1
  | [], _ => rfl
  | b :: r, h => by
    have h0 : NoE b.toNat := h 0 (by simp)
    have hr := anyE_no r fun j hj => by simpa using h (j + 1) (by simpa using hj)
    rw [Lib.indexAny, con_e, decide_eq_false (fun e => e.elim h0.1 h0.2), if_neg (by decide), hr]
    rfl
theorem anyE_at : ∀ (l : Str) (i : Nat), i < l.length → (∀ j, j < i → NoE (l.getD j 0).toNat) → ((l.getD i 0).toNat = 61 ∨ (l.getD i 0).toNat = 58) → Lib.indexAny l [61, 58] = (i : Int)
  | [], i, hi, _, _ => by simp at hi
  | b :: r, 0, hi, _, hk => by
    have hk : b.toNat = 61 ∨ b.toNat = 58 := hk
    rw [Lib.indexAny, con_e, decide_eq_true hk, if_pos rfl]; rfl
  | b :: r, i + 1, hi, hn, hk => by
    have h0 : NoE b.toNat := hn 0 (by omega)
    have hr := anyE_at r i (by simpa using hi) (fun j hj => by simpa using hn (j + 1) (by omega)) (by simpa using hk)
    rw [Lib.indexAny, con_e, decide_eq_false (fun e => e.elim h0.1 h0.2), if_neg (by decide), hr]
    rw [if_neg (by rw [beq_iff_eq]; omega)]
    omega
set_option maxRecDepth 100000 in
set_option maxHeartbeats 4000000 in
/-- a short string: rune by rune -/
theorem anyShortE (s : ByteArray) (hs : s.size ≤ 8) (w : World) :
    Calls Tryz.prog 27 #[.string s, .string (ByteArray.mk #[61, 58])] w fun e w' => e = .returned (.int .i64 (Lib.indexAny s.data.toList [61, 58])) ∧ Below w.heap.size w w' := by
  have AT : Hid (∀ i, i < s.size → (∀ j, j < i → NoE (byteAt s j)) → (byteAt s i = 61 ∨ byteAt s i = 58) → Lib.indexAny s.data.toList [61, 58] = (i : Int)) := fun i hi hn hk => anyE_at _ i (by rw [size_list]; exact hi) hn hk
  have NO : Hid ((∀ j, j < s.size → NoE (byteAt s j)) → Lib.indexAny s.data.toList [61, 58] = -1) := fun h => anyE_no _ fun j hj => h j (by rw [size_list] at hj; exact hj)
  generalize Lib.indexAny s.data.toList [61, 58] = X at *
  have h8 : decide ((8 : Int) < (s.size : Int)) = false := decide_eq_false (by omega)
  go_enter Tryz.func27, Tryz.ntmps27
  go_wp2_with fail
  refine (useSet_any _ _).mono ?_
  rw [h8]
  rintro e w' ⟨rfl, rfl⟩
  go_wp2_with fail
  go_loopg [9, 10] s.size (fun g _ _ wx => ∃ i : Nat, s.size ≤ i + g ∧ wx.heap[w'.heap.size]? = some (.stringIter s i) ∧ Below w'.heap.size w' wx ∧ ∀ j, j < i → j < s.size → NoE (byteAt s j))
  case atStart => exact ⟨0, by omega, World.iter_heap w' s 0, (Below.refl _ w').alloc (Nat.le_refl _) _, fun j hj => absurd hj (Nat.not_lt_zero _)⟩
  case round =>
    obtain ⟨i, hi, hit, hb, hn⟩ := hrel
    have HB := Lib.hid hb; clear hb
    have HN := Lib.hid hn; clear hn
    by_cases hlt : i < s.size
    · by_cases hk : byteAt s i = 61 ∨ byteAt s i = 58
      · have dd := dec_ascii s i hlt (by omega)
        have XI := Lib.hid (AT.out i hlt (fun j hj => HN.out j hj (by omega)) hk)
        have hnx := fun ty => Lib.run_next_any_at (P := Tryz.prog) wr w'.heap.size s i ty hit hlt
        rw [dd] at hnx
        have IR : Hid (∀ W, Calls Tryz.prog 60 #[.string (ByteArray.mk #[61, 58]), .int .i32 (byteAt s i : Nat)] W fun e w' => (∃ k : Nat, e = .returned (.int .i64 k)) ∧ w' = W) := fun W => idxRune_hitE _ hk W
        have B2 : Hid (Below w'.heap.size w' (wr.iterAt w'.heap.size s (i + 1))) := Lib.below_iterAt HB.out (Nat.le_refl _) s (i + 1)
        clear hit dd hk
        generalize byteAt s i = r at *
        go_wp2_with fail
        refine (IR.out _).mono ?_
        rintro e w2 ⟨⟨k, rfl⟩, rfl⟩
        go_wp2
        go_ret
        exact ⟨by rw [XI.out]; rfl, B2.out⟩
      · obtain ⟨d1, d2⟩ := decode_cases s i hlt
        have SK := Lib.hid (dec_skip s i hlt)
        have hnx := fun ty => Lib.run_next_any_at (P := Tryz.prog) wr w'.heap.size s i ty hit hlt
        have HI := Lib.hid hit; clear hit
        have D2 : Hid (Rn ((Utf8.decode s i).1 : Int) ∧ (Utf8.decode s i).1 ≠ 61 ∧ (Utf8.decode s i).1 ≠ 58) := by
          rcases d2 with ⟨h1, h2⟩ | ⟨h1, h2⟩
          · show _ ∧ _
            rw [h2]; exact ⟨byte_rn h1, fun e => hk (.inl e), fun e => hk (.inr e)⟩
          · exact ⟨h2, by omega, by omega⟩
        have NK : Hid (NoE (byteAt s i)) := ⟨fun e => hk (.inl e), fun e => hk (.inr e)⟩
        have D1 := Lib.hid d1
        clear d1 d2 hk
        generalize (Utf8.decode s i).1 = r at hnx D2
        generalize (Utf8.decode s i).2 = n at hnx D1 SK
        cases gk with
        | zero => omega
        | succ g =>
          go_wp2_with fail
          refine (idxRune_noneE r D2.out.1 D2.out.2.1 D2.out.2.2 _).mono ?_
          rintro e w2 ⟨rfl, hb⟩
          have HI2 : Hid (w2.heap[w'.heap.size]? = some (.stringIter s (i + n))) := by
            show _ = _
            have h1 := Lib.iterAt_heap wr w'.heap.size s i (i + n) HI.out
            have h2 : w'.heap.size < (wr.iterAt w'.heap.size s (i + n)).heap.size := (Array.getElem?_eq_some_iff.1 h1).1
            rw [hb.block _ h2]; exact h1
          have HB2 : Hid (Below w'.heap.size w' w2) := (Lib.below_iterAt HB.out (Nat.le_refl _) s (i + n)).trans (hb.mono (by rw [Lib.iterAt_size]; exact HB.out.size))
          have HN2 : Hid (∀ j, j < i + n → j < s.size → NoE (byteAt s j)) := fun j hj hjs => by
            rcases Nat.lt_trichotomy j i with h | h | h
            · exact HN.out j h hjs
            · rw [h]; exact NK.out
            · have := SK.out (j - i) (by omega) (by omega)
              rw [show i + (j - i) = j by omega] at this
              exact ⟨by omega, by omega⟩
          clear hb hnx HI SK
          go_wp2
          go_roundg g
          case measure => omega
          case rel => exact ⟨i + n, by have := D1.out; omega, HI2.out, HB2.out, HN2.out⟩
    · have hnx := fun ty => Lib.run_next_end_at (P := Tryz.prog) wr w'.heap.size s i ty hit hlt
      have XI := Lib.hid (NO.out fun j hj => HN.out j (by omega) hj)
      clear hit
      go_wp2
      go_ret
      exact ⟨by rw [XI.out]; rfl, HB.out⟩
theorem ascE : ∀ (j : Nat) b, (ByteArray.mk #[61, 58]).data.toList[j]? = some b → b.toNat < 128
  | 0, b, h => by cases h; decide
  | 1, b, h => by cases h; decide
  | (_ + 2), b, h => by cases h
theorem anyE (s : ByteArray) (hs : s.size ≤ 16777216) (w : World) :
    Calls Tryz.prog 27 #[.string s, .string (ByteArray.mk #[61, 58])] w fun e w' => e = .returned (.int .i64 (Lib.indexAny s.data.toList [61, 58])) ∧ Below w.heap.size w w' := by
  by_cases h : s.size ≤ 8
  · exact anyShortE s h w
  · refine (Tryz.strings_IndexAny_long (zero_of_info info116).1 s (ByteArray.mk #[61, 58]) w (by decide) (by omega) (by omega) (by decide) ascE).mono ?_
    rintro e w' ⟨rfl, rfl⟩
    exact ⟨rfl, ((Below.refl _ w).alloc (Nat.le_refl _) _).alloc (by simp) _⟩
end Go.Proofs.YtfgcbdjkimkgpaaGreatDoor
