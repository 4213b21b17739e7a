/-
  What the reference's Hex16, HexRead, Bits and SameBits answer. No condition.
-/
import Derived.Test.YtejceacoopgjkaaRead
import Derived.WalkSpells
namespace Go.Proofs.Ytejceacoopgjkaa
open Go.ChangeShapes Go.WideShapes Go.ChangeAt Go.RowKit

theorem bits_any (u : Nat) (w : World) : Calls Try.prog 28 #[.float .f64 u] w fun e w' => e = .returned (.int .u64 (u : Int)) ∧ w = w' := by
  have hb := fbits
  go_enter Try.func28, Try.ntmps28
  go_wp2
  go_ret
  exact ⟨rfl, rfl⟩
theorem sameBits_any (u v : Nat) (w : World) : Calls Try.prog 16 #[.float .f64 u, .float .f64 v] w fun e w' => e = .returned (.bool ((u : Int) == (v : Int))) ∧ w = w' := by
  have hb := fbits
  go_enter Try.func16, Try.ntmps16
  go_wp2
  go_ret
  exact ⟨rfl, rfl⟩

/-- the last k digits -/
def txtEnd (U k : Nat) : List UInt8 := (txt U).drop (16 - k)
theorem txtEnd_zero (U : Nat) : txtEnd U 0 = [] := by unfold txtEnd; rw [List.drop_of_length_le (by rw [txt_length]; omega)]
theorem txtEnd_all (U : Nat) : txtEnd U 16 = txt U := rfl
theorem txtEnd_succ (U k : Nat) (h : k < 16) : txtEnd U (k + 1) = hexc (U / 16 ^ k % 16) :: txtEnd U k := by
  unfold txtEnd
  have hl : 16 - (k + 1) < (txt U).length := by rw [txt_length]; omega
  rw [List.drop_eq_getElem_cons hl, txt_get U _ hl, show 15 - (16 - (k + 1)) = k by omega, show 16 - (k + 1) + 1 = 16 - k by omega]
theorem txtEnd_length (U k : Nat) (h : k ≤ 16) : (txtEnd U k).length = k := by unfold txtEnd; rw [List.length_drop, txt_length]; omega

theorem tab_slice (d : Nat) (h : d < 16) (w : World) :
    (Instr.slice 9 (.string (ByteArray.mk #[48, 49, 50, 51, 52, 53, 54, 55, 56, 57, 97, 98, 99, 100, 101, 102])) (some (.int .u64 (d : Int))) (some (.int .u64 ((d : Int) + 1))) none).run Try.prog w = .ok (.string ⟨[hexc d].toArray⟩) w := by
  have key : ∀ d : Fin 16, (ByteArray.mk #[48, 49, 50, 51, 52, 53, 54, 55, 56, 57, 97, 98, 99, 100, 101, 102]).extract d.val (d.val + 1) = ⟨[hexc d.val].toArray⟩ := by decide +kernel
  have k := key ⟨d, h⟩
  simp only at k
  rw [run_slice_string_if (P := Try.prog) w 9 _ .u64 .u64 (d : Int) ((d : Int) + 1) Try.underlying9, if_pos ⟨by omega, by show (d : Int) + 1 ≤ 16; omega⟩, if_pos ⟨by omega, by omega⟩,
    show ((d : Int) + 1).toNat = d + 1 by omega, Int.toNat_natCast, k]

set_option maxHeartbeats 1000000 in
theorem hex_any (u : Nat) (h : u < 18446744073709551616) (w : World) :
    Calls Try.prog 27 #[.int .u64 u] w fun e w' => e = .returned (.string ⟨(txt u).toArray⟩) ∧ w = w' := by
  have H := Lib.hid h; clear h
  go_enter Try.func27, Try.ntmps27
  go_wp2_with fail
  go_loopw [0, 3, 4] (fun v s i wr => ∃ k : Nat, k ≤ 16 ∧ i = .int .i64 (k : Int) ∧ v = .int .u64 ((u / 16 ^ k : Nat) : Int) ∧ s = .string ⟨(txtEnd u k).toArray⟩ ∧ wr = w) (fun _ _ i _ => (16 - intOf i).toNat)
  case atStart => exact ⟨0, by omega, rfl, by simp, by rw [txtEnd_zero], rfl⟩
  case round =>
    obtain ⟨k, hk, rfl, rfl, rfl, rfl⟩ := hrel
    have hd : u / 16 ^ k < 18446744073709551616 := Nat.lt_of_le_of_lt (Nat.div_le_self _ _) H.out
    by_cases hlt : k < 16
    · have HT : Hid (u / 16 ^ (k + 1) = u / 16 ^ k / 16) := by show _ = _; rw [Nat.pow_succ, Nat.div_div_eq_div_mul]
      have hs := fun w => tab_slice (u / 16 ^ k % 16) (Nat.mod_lt _ (by omega)) w
      have hc := fun w => run_string_add_sum (P := Try.prog) w ⟨[hexc (u / 16 ^ k % 16)].toArray⟩ ⟨(txtEnd u k).toArray⟩ (by
        have := txtEnd_length u k hk
        show 1 + (txtEnd u k).length ≤ _
        omega)
      have HX : Hid (ByteArray.mk [hexc (u / 16 ^ k % 16)].toArray ++ ByteArray.mk (txtEnd u k).toArray = ⟨(txtEnd u (k + 1)).toArray⟩) := by
        show _ = _
        rw [txtEnd_succ u k hlt]
        apply ByteArray.ext
        apply Array.toList_inj.1
        simp
      generalize ByteArray.mk [hexc (u / 16 ^ k % 16)].toArray = c at *
      generalize ByteArray.mk (txtEnd u k).toArray = q at *
      generalize c ++ q = q' at *
      generalize u / 16 ^ k = t at *
      have e1 : ((t % 16 : Nat) : Int) = (t : Int) % 16 := by omega
      rw [e1] at hs
      clear e1
      go_wp2
      go_roundw
      case rel =>
        refine ⟨k + 1, by omega, by go_num, ?_, ?_, trivial⟩
        · rw [HT.out, show ((t / 16 : Nat) : Int) = (t : Int) / 16 by omega]
        · rw [HX.out]
      case measure => simp [intOf]; omega
    · obtain rfl : k = 16 := by omega
      generalize u / 16 ^ 16 = t at *
      rw [txtEnd_all]
      generalize hq : txt u = q
      have HQ := Lib.hid hq; clear hq
      go_wp2
      go_ret
      exact ⟨by rw [HQ.out]; rfl, rfl⟩

/-- what HexRead hands back, r being the number that is read -/
def HexPost (r : Option Nat) (w : World) (e : Ending) (w' : World) : Prop :=
  (∃ v : Nat, r = some v ∧ e = .returned (.tuple #[.int .u64 (v : Int), .bool true]) ∧ w = w') ∨ r = none ∧ e = .returned (.tuple #[.int .u64 0, .bool false]) ∧ w = w'

set_option maxHeartbeats 1000000 in
theorem hexRead_16 (s : ByteArray) (hs : s.size = 16) (w : World) :
    Calls Try.prog 25 #[.string s] w (HexPost (rd (byteAt s) 16) w) := by
  have HF : Hid (∀ k (h : k < s.size), s[k].toNat = byteAt s k) := byteAt_get s
  have HL : Hid (∀ k, byteAt s k < 256) := byteAt_lt s
  generalize hq : byteAt s = f at *
  clear hq
  go_enter Try.func25, Try.ntmps25
  go_wp2_with fail
  go_loopw [4, 10] (fun v i wr => ∃ k : Nat, k ≤ 16 ∧ i = .int .i64 (k : Int) ∧ (∃ t : Nat, rd f k = some t ∧ v = .int .u64 (t : Int)) ∧ wr = w) (fun _ i _ => (16 - intOf i).toNat)
  case atStart => exact ⟨0, by omega, rfl, ⟨0, rfl, rfl⟩, rfl⟩
  case round =>
    obtain ⟨k, hk, rfl, ⟨t, hrd, rfl⟩, rfl⟩ := hrel
    have HR := Lib.hid hrd; clear hrd
    by_cases hlt : k < 16
    · have hb := HF.out k (by omega)
      have hl := HL.out k
      have stop : hv (f k) = none → Hid (rd f 16 = none) := fun hd => by
        have := rd_none (rd_stop hd) (15 - k)
        rw [show k + 1 + (15 - k) = 16 by omega] at this
        exact this
      have step : ∀ d, hv (f k) = some d → Hid (rd f (k + 1) = some (t * 16 + d)) := fun d hd => rd_succ HR.out hd
      have bnd : ∀ d, hv (f k) = some d → t * 16 + d < 18446744073709551616 := fun d hd => Nat.lt_of_lt_of_le (rd_lt (k + 1) _ (step d hd)) (pow16_le (by omega))
      by_cases h1 : 48 ≤ f k
      · by_cases h2 : f k ≤ 57
        · have e : hv (f k) = some (f k - 48) := by unfold hv; rw [if_pos ⟨h1, h2⟩]
          have HS := step _ e
          have HB := bnd _ e
          clear e step bnd stop
          go_wp2
          go_roundw
          case rel => exact ⟨k + 1, by omega, by go_num, ⟨t * 16 + (f k - 48), HS.out, by go_num⟩, trivial⟩
          case measure => simp [intOf]; omega
        · by_cases h3 : 97 ≤ f k
          · by_cases h4 : f k ≤ 102
            · have e : hv (f k) = some (f k - 97 + 10) := by unfold hv; rw [if_neg (by omega), if_pos ⟨h3, h4⟩]
              have HS := step _ e
              have HB := bnd _ e
              clear e step bnd stop
              go_wp2
              go_roundw
              case rel => exact ⟨k + 1, by omega, by go_num, ⟨t * 16 + (f k - 97 + 10), HS.out, by go_num⟩, trivial⟩
              case measure => simp [intOf]; omega
            · have HN := stop (by unfold hv; rw [if_neg (by omega), if_neg (by omega)])
              clear step bnd stop
              go_wp2
              go_ret2
              exact .inr ⟨HN.out, rfl, rfl⟩
          · have HN := stop (by unfold hv; rw [if_neg (by omega), if_neg (by omega)])
            clear step bnd stop
            go_wp2
            go_ret2
            exact .inr ⟨HN.out, rfl, rfl⟩
      · have HN := stop (by unfold hv; rw [if_neg (by omega), if_neg (by omega)])
        clear step bnd stop
        go_wp2
        go_ret2
        exact .inr ⟨HN.out, rfl, rfl⟩
    · obtain rfl : k = 16 := by omega
      go_wp2
      go_ret2
      exact .inl ⟨t, HR.out, rfl, rfl⟩

theorem hexRead_other (s : ByteArray) (hs : s.size ≠ 16) (w : World) :
    Calls Try.prog 25 #[.string s] w fun e w' => e = .returned (.tuple #[.int .u64 0, .bool false]) ∧ w = w' := by
  have t : ((s.size : Int) != 16) = true := by rw [bne_iff_ne]; omega
  clear hs
  go_enter Try.func25, Try.ntmps25
  go_wp2
  go_ret2
  exact ⟨rfl, rfl⟩
end Go.Proofs.Ytejceacoopgjkaa
