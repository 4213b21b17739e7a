/-
  strings.ContainsAny with a space and a tab, at a string that has neither, whatever its bytes. Condition: the string is shorter than 2^62 bytes.
-/
import Derived.Test.YtdencbkepiaigaaDoorLWp
import Derived.Test.YtdencbkepiaigaaDoorLIn
import Derived.Lib.Bytealg
import Derived.Laws.Externs
import Derived.Lib.AsciiSet
import Derived.Lib.Builder
import Derived.Deep.WholeRow
import Derived.Laws.Runes
import Derived.Laws.RangeString
import Derived.Lib.OthersKept
import Derived.Lib.DecodeN
import Derived.WalkMore
import Derived.Deep.LoopGhost
import Derived.Deep.Draws
namespace Go.Proofs.YtdencbkepiaigaaDoor
open Go.ChangeShapes Go.WideShapes Go.ChangeAt Go.RowKit

theorem idxLite_any (s : ByteArray) (c : Int) (w : World) :
    Calls Tryd.prog 68 #[.string s, .int .u8 c] w fun e w' => e = .returned (.int .i64 (Lib.indexByte s.data.toList c.toNat.toUInt8)) ∧ w' = w := Tryd.stringslite_IndexByte s c w
theorem idxByte_any (s : ByteArray) (c : Int) (w : World) :
    Calls Tryd.prog 54 #[.string s, .int .u8 c] w fun e w' => e = .returned (.int .i64 (Lib.indexByte s.data.toList c.toNat.toUInt8)) ∧ w' = w := Tryd.strings_IndexByte s c w
theorem bang_at (s : ByteArray) (j : Nat) (hj : j < s.size) : (s.data[j]!).toNat = byteAt s j := by
  rw [getElem!_pos s.data j hj]; exact byteAt_get s j hj


/-- a valid rune -/
def Rn (r : Int) : Prop := 0 ≤ r ∧ r ≤ 1114111 ∧ (r < 55296 ∨ 57344 ≤ r)
theorem Rn.valid {r : Int} (h : Rn r) : Utf8.valid r = true := by
  obtain ⟨h0, h1, h2⟩ := h
  unfold Utf8.valid
  simp only [Bool.and_eq_true, Bool.or_eq_true, decide_eq_true_eq]
  omega

theorem get_at (s : ByteArray) (i : Nat) (h : i < s.size) : (s.get! i).toNat = byteAt s i := by
  have : s.get! i = s.data[i]! := rfl
  rw [this, bang_at s i h]
/-- what a range over a string hands out -/
theorem decode_cases (s : ByteArray) (i : Nat) (h : i < s.size) :
    1 ≤ (Utf8.decode s i).2 ∧ ((byteAt s i < 128 ∧ (Utf8.decode s i).1 = byteAt s i) ∨ (128 ≤ (Utf8.decode s i).1 ∧ Rn ((Utf8.decode s i).1 : Int))) := by
  rw [Lib.decode_at, get_at s i h]
  generalize byteAt s i = b0
  generalize (s.get! (i + 1)).toNat = b1
  generalize (s.get! (i + 2)).toNat = b2
  generalize (s.get! (i + 3)).toNat = b3
  generalize s.size - i = n
  unfold Lib.decodeN Rn
  repeat' split
  all_goals refine ⟨by omega, ?_⟩
  · left; exact ⟨by assumption, rfl⟩
  all_goals right; refine ⟨by omega, ?_⟩; refine ⟨by omega, ?_, ?_⟩ <;> omega

theorem validRune_any (r : Int) (h : Rn r) (w : World) : Calls Tryd.prog 106 #[.int .i32 r] w fun e w' => e = .returned (.bool true) ∧ w' = w := by
  obtain ⟨h0, h1, h2⟩ := h
  by_cases h3 : r < 55296
  · clear h2
    go_enter Tryd.func106, Tryd.ntmps106
    go_wp2
    go_ret
    exact ⟨rfl, rfl⟩
  · have h4 : 57343 < r := by omega
    clear h2
    go_enter Tryd.func106, Tryd.ntmps106
    go_wp2
    go_ret
    exact ⟨rfl, rfl⟩

theorem idx2 : ∀ n : Fin 128, n.val ≠ 32 → n.val ≠ 9 → Lib.indexByte [32, 9] ((n.val : Int).toNat.toUInt8) = -1 := by decide +kernel

set_option maxRecDepth 100000 in
set_option maxHeartbeats 2000000 in
theorem idxRune_ascii (r : Nat) (h : r < 128) (h1 : r ≠ 32) (h2 : r ≠ 9) (w : World) :
    Calls Tryd.prog 98 #[.string (ByteArray.mk #[32, 9]), .int .i32 r] w fun e w' => e = .returned (.int .i64 (-1)) ∧ w' = w := by
  have HE : Hid (Lib.indexByte (ByteArray.mk #[32, 9]).data.toList ((r : Int).toNat.toUInt8) = -1) := idx2 ⟨r, h⟩ h1 h2
  clear h1 h2
  have h3 : (r : Int) < 128 := by omega
  go_enter Tryd.func98, Tryd.ntmps98
  go_wp2_with fail
  refine (idxByte_any _ _ _).mono ?_
  rw [HE.out]
  rintro e w' ⟨rfl, rfl⟩
  go_wp2
  go_ret
  exact ⟨rfl, rfl⟩

set_option maxRecDepth 100000 in
set_option maxHeartbeats 4000000 in
theorem idxRune_err (w : World) :
    Calls Tryd.prog 98 #[.string (ByteArray.mk #[32, 9]), .int .i32 65533] w fun e w' => e = .returned (.int .i64 (-1)) ∧ Below w.heap.size w w' := by
  have n0 := fun ty => run_next_ascii (P := Tryd.prog) w (ByteArray.mk #[32, 9]) 0 ty (by decide) (by decide)
  have n1 := fun ty => run_next_ascii (P := Tryd.prog) w (ByteArray.mk #[32, 9]) 1 ty (by decide) (by decide)
  have n2 := fun ty => run_next_end (P := Tryd.prog) w (ByteArray.mk #[32, 9]) 2 ty (by decide)
  go_enter Tryd.func98, Tryd.ntmps98
  go_wp2_with fail
  go_loopg [5, 6] 2 (fun g _ _ wr => ∃ k : Nat, k + g = 2 ∧ wr = w.iter (ByteArray.mk #[32, 9]) k)
  case atStart => exact ⟨0, rfl, rfl⟩
  case round =>
    obtain ⟨k, hk, rfl⟩ := hrel
    match gk, k, hk with
    | 0, 2, _ =>
      go_wp2
      go_ret
      exact ⟨rfl, (Below.refl _ w).alloc (Nat.le_refl _) _⟩
    | 1, 1, _ =>
      go_wp2
      go_roundg 0
      case measure => omega
      case rel => exact ⟨2, rfl, rfl⟩
    | 2, 0, _ =>
      go_wp2
      go_roundg 1
      case measure => omega
      case rel => exact ⟨1, rfl, rfl⟩

theorem idx_empty (c : UInt8) : Lib.indexByte ByteArray.empty.data.toList c = -1 := rfl
set_option maxRecDepth 100000 in
set_option maxHeartbeats 4000000 in
theorem idxRune_high (ch : ByteArray) (hch : ch.size = 2) (hc1 : ∀ h : 1 < ch.size, (ch[1]'h).toNat = 9) (r : Int) (h : Rn r) (h128 : 128 ≤ r) (hne : r ≠ 65533) (w : World) :
    Calls Tryd.prog 98 #[.string ch, .int .i32 r] w fun e w' => e = .returned (.int .i64 (-1)) ∧ Below w.heap.size w w' := by
  have HR := Lib.hid h
  obtain ⟨f1, f2, f3⟩ := encode_facts r h.valid h128
  have t0 : (0 : Int) ≤ r := by omega
  have t1 : ¬ r < 128 := by omega
  have t2 : (r == 65533) = false := by rw [beq_eq_false_iff_ne]; exact hne
  clear h hne h128
  have hc := hc1 (by omega)
  clear hc1
  go_enter Tryd.func98, Tryd.ntmps98
  go_wp2_with fail
  refine (validRune_any r HR.out _).mono ?_
  rintro e w' ⟨rfl, rfl⟩
  by_cases h2 : (Utf8.encode r).size = 2
  · obtain ⟨y, hy, hb⟩ : ∃ y : Nat, 128 ≤ y ∧ ∀ h : 1 < (Utf8.encode r).size, ((Utf8.encode r)[1]'h).toNat = y := by
      have h1 : 1 < (Utf8.encode r).size := by omega
      refine ⟨((Utf8.encode r)[1]'h1).toNat, ?_, fun _ => rfl⟩
      have := f3 (by omega)
      simpa only [h2] using this
    have h1 : 1 < (Utf8.encode r).size := by omega
    have hb1 := hb h1
    have tt : ((9 : Int) != (y : Int)) = true := by rw [bne_iff_ne]; omega
    clear f3 hb hy
    go_wp2_with fail
    go_step3
    go_wp2_with fail
    refine wp_loop_rounds 1 ?_
    rw [rounds_succ]
    go_wp2_with fail
    go_step3
    go_wp2_with fail
    go_quiet (fail)
    go_wp2_with fail
    have HB : Hid (Below w'.heap.size w' (w'.drewN nq)) := below_drewN (Below.refl _ _) nq
    generalize w'.drewN nq = wq at HB ⊢
    go_quiet (first | (go_at_call 54; exact Calls.quiet_of_same (idxByte_any _ _ _)))
    rw [idx_empty]
    go_wp2_with fail
    rw [Exit.noGoto_ret]
    simp only [Exit.inBlock, Exit.then]
    rw [Exit.noGoto_ret]
    simp only [Exit.inBlock]
    go_ret
    exact ⟨rfl, below_drewN HB.out _⟩
  · have h3 : 3 ≤ (Utf8.encode r).size := by omega
    clear h2 f3
    go_wp2_with fail
    go_step3
    go_wp2_with fail
    refine wp_loop_rounds 1 ?_
    rw [rounds_succ]
    go_wp2_with fail
    rw [Exit.noGoto_ret]
    simp only [Exit.inBlock]
    go_ret
    exact ⟨rfl, Below.refl _ _⟩

/-- IndexRune in "./" of a rune that is neither -/
theorem idxRune_none (r : Nat) (h : Rn (r : Int)) (h1 : r ≠ 32) (h2 : r ≠ 9) (w : World) :
    Calls Tryd.prog 98 #[.string (ByteArray.mk #[32, 9]), .int .i32 r] w fun e w' => e = .returned (.int .i64 (-1)) ∧ Below w.heap.size w w' := by
  by_cases h3 : r < 128
  · exact (idxRune_ascii r h3 h1 h2 w).mono fun e w' k => ⟨k.1, k.2 ▸ Below.refl _ _⟩
  · by_cases h4 : r = 65533
    · subst h4; exact idxRune_err w
    · exact idxRune_high (ByteArray.mk #[32, 9]) rfl (fun _ => rfl) r h (by omega) (by omega) w

theorem byte_rn {b : Nat} (h : b < 128) : Rn (b : Int) := ⟨by omega, by omega, .inl (by omega)⟩

theorem info116 : (Tryd.prog.info? 91).map (fun i => (i.zero, i.size)) = some (some (.agg (Array.replicate 256 (.bool false))), 256) := by kernel_rfl
theorem zc116 : Tryd.zeroCells91.size = 256 := by kernel_rfl
theorem asc2 : ∀ (j : Nat) b, (ByteArray.mk #[32, 9]).data.toList[j]? = some b → b.toNat < 128
  | 0, b, h => by cases h; decide
  | 1, b, h => by cases h; decide
  | (_ + 2), b, h => by cases h
theorem has2 (x : UInt8) (h1 : x.toNat ≠ 32) (h2 : x.toNat ≠ 9) : (ByteArray.mk #[32, 9]).data.toList.contains x = false := by
  have e1 : x ≠ 32 := fun e => h1 (by rw [e]; rfl)
  have e2 : x ≠ 9 := fun e => h2 (by rw [e]; rfl)
  show List.contains [32, 9] x = false
  simp [e1, e2]

end Go.Proofs.YtdencbkepiaigaaDoor
