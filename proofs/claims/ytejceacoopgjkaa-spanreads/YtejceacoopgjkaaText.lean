/-
  What package span's Text, digitValue and Read answer, and the reference's Hex16 and HexRead. No condition.
-/
import Derived.Test.YtejceacoopgjkaaSum
import Derived.Test.YtejceacoopgjkaaHexP
import Derived.Laws.IdiomStrings
namespace Go.Proofs.Ytejceacoopgjkaa
open Go.ChangeShapes Go.WideShapes Go.ChangeAt Go.RowKit

/-- what Text's loop keeps -/
def TextInv (U k : Nat) (w wr : World) : Prop := Below w.heap.size w wr ∧ w.heap.size < wr.heap.size ∧
  (∀ i, i < 16 → wr.cell? ⟨w.heap.size, i, none⟩ = some (.int .u8 (if 16 - k ≤ i then ((hexc (U / 16 ^ (15 - i) % 16)).toNat : Int) else 0))) ∧
  ∀ i, wr.frozen? ⟨w.heap.size, i, none⟩ = false

theorem addr_add (b j : Nat) : (⟨b, 0, none⟩ : Addr).add j = ⟨b, j, none⟩ := by
  unfold Addr.add; by_cases h : j = 0 <;> simp [h]

theorem text_step {U k : Nat} {w wr : World} (h : TextInv U k w wr) (hk : k < 16) :
    TextInv U (k + 1) w (wr.setCell ⟨w.heap.size, 15 - k, none⟩ (.int .u8 ((hexc (U / 16 ^ k % 16)).toNat : Int))) := by
  obtain ⟨h1, h2, h3, h4⟩ := h
  refine ⟨h1.setCell (Nat.le_refl _) _, by simpa using h2, fun i hi => ?_, fun i => by rw [World.frozen?_setCell]; exact h4 i⟩
  by_cases e : i = 15 - k
  · subst e
    rw [World.cell?_setCell_same (h := h3 _ hi), if_pos (by omega), show 15 - (15 - k) = k by omega]
  · rw [World.cell?_setCell_other (h := by intro x; cases x; exact e rfl), h3 i hi]
    by_cases g : 16 - k ≤ i
    · rw [if_pos g, if_pos (by omega)]
    · rw [if_neg g, if_neg (by omega)]

set_option maxHeartbeats 1000000 in
set_option maxRecDepth 10000 in
theorem text_any (u : Nat) (h : u < 18446744073709551616) (w : World) :
    Calls Try.prog 26 #[.float .f64 u] w fun e w' => e = .returned (.string ⟨(txt u).toArray⟩) ∧ Below w.heap.size w w' := by
  have hb := fbits
  have H := Lib.hid h; clear h
  go_enter Try.func26, Try.ntmps26
  go_wp2_with fail
  go_loopw [3, 5] (fun v i wr => ∃ k : Nat, k ≤ 16 ∧ i = .int .i64 (15 - (k : Int)) ∧ v = .int .u64 ((u / 16 ^ k : Nat) : Int) ∧ TextInv u k w wr) (fun _ i _ => ((intOf i) + 1).toNat)
  case atStart =>
    refine ⟨0, by omega, rfl, by simp, Below.alloc (Below.refl _ w) (Nat.le_refl _) _, by simp, fun i hi => ?_, fun i => by simp⟩
    have : i = 0 ∨ i = 1 ∨ i = 2 ∨ i = 3 ∨ i = 4 ∨ i = 5 ∨ i = 6 ∨ i = 7 ∨ i = 8 ∨ i = 9 ∨ i = 10 ∨ i = 11 ∨ i = 12 ∨ i = 13 ∨ i = 14 ∨ i = 15 := by omega
    rcases this with rfl | rfl | rfl | rfl | rfl | rfl | rfl | rfl | rfl | rfl | rfl | rfl | rfl | rfl | rfl | rfl <;> simp
  case round =>
    obtain ⟨k, hk, rfl, rfl, hinv⟩ := hrel
    have HI := Lib.hid hinv; clear hinv
    have hd : u / 16 ^ k < 18446744073709551616 := Nat.lt_of_le_of_lt (Nat.div_le_self _ _) H.out
    by_cases hlt : k < 16
    · have hc := HI.out.2.2.1 (15 - k) (by omega)
      have hf := HI.out.2.2.2 (15 - k)
      rw [if_neg (by omega)] at hc
      have HT : Hid (u / 16 ^ (k + 1) = u / 16 ^ k / 16) := by show _ = _; rw [Nat.pow_succ, Nat.div_div_eq_div_mul]
      have HX : Hid (TextInv u (k + 1) w (wr.setCell ⟨w.heap.size, 15 - k, none⟩ (.int .u8 ((hexc (u / 16 ^ k % 16)).toNat : Int)))) := text_step HI.out hlt
      generalize u / 16 ^ k = t at *
      go_wp2
      go_roundw
      case rel =>
        refine ⟨k + 1, by omega, by go_num, ?_, ?_⟩
        · rw [HT.out, show ((t / 16 : Nat) : Int) = (t : Int) / 16 by omega]
        · have := HX.out
          rw [← hexc_tab (t % 16) (by show t % 16 < 16; omega)] at this
          exact this
      case measure => simp [intOf]; omega
    · obtain rfl : k = 16 := by omega
      have hcv : ∀ cap, (convert 66 9 (.slice (some ⟨w.heap.size, 0, none⟩) 16 cap)).run Try.prog wr = .ok (.string ⟨(txt u).toArray⟩) wr := fun cap => by
        have := run_convert_bytes_back (P := Try.prog) wr 66 9 5 ⟨w.heap.size, 0, none⟩ cap (txt u) Try.underlying66 Try.underlying5 Try.underlying9 (fun j hj => by
          rw [txt_length] at hj
          have := HI.out.2.2.1 j hj
          rw [if_pos (by omega)] at this
          rw [txt_get u j (by rw [txt_length]; exact hj), addr_add, this])
        rwa [txt_length] at this
      clear hd
      generalize hq : txt u = q at hcv
      have HQ := Lib.hid hq; clear hq
      generalize u / 16 ^ 16 = t at *
      go_wp2
      go_ret
      exact ⟨by rw [HQ.out]; rfl, HI.out.1⟩
end Go.Proofs.Ytejceacoopgjkaa
