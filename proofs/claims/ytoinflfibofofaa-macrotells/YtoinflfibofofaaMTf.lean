/-
  The reference's flatten. Condition: at most 2^32 tokens, at most 1048576 macros whose values have at most 2000 bytes.
-/
import Derived.Test.YtoinflfibofofaaMTl
namespace Go.Proofs.Ytoinflfibofofaa
set_option linter.unusedVariables false
open Go.ChangeShapes Go.WideShapes Go.ChangeAt Go.RowKit

theorem bs_append (a b : Str) : bs a ++ bs b = bs (a ++ b) := by
  rw [← bs_of (bs a ++ bs b)]; simp [bs]
theorem CIn.later' {w w' : World} {v : Value} {T : List Tok} (h : CIn w v T) (hb : Below w.heap.size w w') : CIn w' v T := h.later hb
/-- what stands for a token -/
def rep1 (g : Str → Option Str) : Tok → Str
  | .inl c => [c]
  | .inr n => (g n).getD []
theorem subD_one (g : Str → Option Str) (x : Tok) : subD g [x] = rep1 g x := by
  cases x <;> simp [subD, rep1]
theorem subD_step (g : Str → Option Str) {T : List Tok} {k : Nat} (h : k < T.length) : subD g (T.take (k + 1)) = subD g (T.take k) ++ rep1 g (tkAt T k) := by
  rw [tk_take h, subD_append, subD_one]
theorem subD_part (g : Str → Option Str) (T : List Tok) (k : Nat) : (subD g (T.take k)).length ≤ (subD g T).length := by
  have : subD g T = subD g (T.take k) ++ subD g (T.drop k) := by rw [← subD_append, List.take_append_drop]
  rw [this, List.length_append]; omega
/-- what flatten hands back -/
def TenPost (y : List Mc) (T : List Tok) (w : World) (e : Ending) (w' : World) : Prop :=
  Below w.heap.size w w' ∧ (((subD (look y) T).length ≤ 2000 ∧ e = .returned (.tuple #[.string (bs (subD (look y) T)), .bool true])) ∨ (2000 < (subD (look y) T).length ∧ e = .returned (.tuple #[.string (bs []), .bool false])))
theorem look_at {y : List Mc} (hd : (names y).Nodup) {i : Nat} {n : Str} (hi : i < (names y).length) (e : (names y).getD i [] = n) : i < y.length ∧ look y n = some (vl y i) := by
  have hl : i < y.length := by unfold names at hi; rw [List.length_map] at hi; exact hi
  refine ⟨hl, ?_⟩
  have h1 : (names y).getD i [] = nm y i := by
    unfold names nm
    rw [List.getD, List.getElem?_map, List.getElem?_eq_getElem hl, List.getD, List.getElem?_eq_getElem hl]; rfl
  rw [← e, h1]
  exact look_of hd (mem_at hl)
set_option maxHeartbeats 4000000 in
set_option maxRecDepth 100000 in
theorem ten_any (y : List Mc) (T : List Tok) (v u : Value) (w : World) (hv : McIn w v y) (hu : CIn w u T) (hn : y.length ≤ 1048576) (hT : T.length ≤ 4294967296) (hd : (names y).Nodup) (hy : ∀ m ∈ y, m.1.length ≤ maxLen ∧ m.2.length ≤ 2000) (hr : ∀ n, Sum.inr n ∈ T → n ∈ names y) :
    Calls Try.prog 33 #[v, u] w (TenPost y T w) := by
  rcases hu.open with ⟨rfl, a, cap, rfl⟩ | ⟨hp, b, off, cap, rfl, hcap, hlt, hc⟩
  · clear hu
    go_enter Try.func33, Try.ntmps33
    go_wp2_with fail
    go_rounds 1
    go_ret2
    exact ⟨Below.refl _ _, .inl ⟨Nat.zero_le _, rfl⟩⟩
  · have HC : Hid (∀ W, Below w.heap.size w W → ∀ k, k < T.length → W.cell? ⟨b, off + k * 2, none⟩ = some (.bool (isR (tkAt T k))) ∧ W.cell? ⟨b, off + k * 2 + 1, none⟩ = some (.string (bs (txt (tkAt T k))))) := fun W hW k hk => ⟨cell_later hW (hc k _ (tk_some hk)).1, cell_later hW (hc k _ (tk_some hk)).2⟩
    have HT : Hid (∀ k, k < T.length → subD (look y) (T.take (k + 1)) = subD (look y) (T.take k) ++ rep1 (look y) (tkAt T k)) := fun k hk => subD_step _ hk
    have HP : Hid (∀ k, (subD (look y) (T.take k)).length ≤ (subD (look y) T).length) := fun k => subD_part _ T k
    have HR : Hid (∀ k, k < T.length → ∀ n, tkAt T k = .inr n → n ∈ names y) := fun k hk n e => hr n (by rw [← e]; exact List.mem_of_getElem? (tk_some hk))
    have MN : Hid (∀ W, Below w.heap.size w W → Calls Try.prog 32 #[v] W fun e w' => ∃ v', e = .returned v' ∧ SO W.heap.size v' (names y) w' ∧ Below W.heap.size W w') := fun W hW => mnames_any y v W (hv.later hW) hn
    have YC : Hid (∀ W, Below w.heap.size w W → ∀ i, i < y.length → ∃ b2 off2 cap2, v = .slice (some ⟨b2, off2, none⟩) y.length cap2 ∧ W.cell? ⟨b2, off2 + i * 2 + 1, none⟩ = some (.string (bs (vl y i)))) := fun W hW i hi => by
      rcases (hv.later hW).open with ⟨rfl, _⟩ | ⟨_, b2, off2, cap2, rfl, _, _, h2⟩
      · simp at hi
      · exact ⟨b2, off2, cap2, rfl, (h2 i _ (at_some hi)).2⟩
    have NB : Hid ((names y).length ≤ 17592186044416 ∧ ∀ x ∈ names y, x.length ≤ 9223372036854775807) := by
      refine ⟨by unfold names; rw [List.length_map]; omega, fun x hx => ?_⟩
      obtain ⟨m, hm, rfl⟩ := List.mem_map.1 hx
      have := (hy m hm).1; unfold maxLen at this; omega
    have LK : Hid (∀ i n, i < (names y).length → (names y).getD i [] = n → i < y.length ∧ look y n = some (vl y i) ∧ (vl y i).length ≤ 2000) := fun i n h1 h2 => ⟨(look_at hd h1 h2).1, (look_at hd h1 h2).2, (hy _ (mem_at (look_at hd h1 h2).1)).2⟩
    clear hu hc hlt hv hn hd hy hr
    go_enter Try.func33, Try.ntmps33
    go_wp2_with fail
    go_loopw [6, 12] (fun o i wr => ∃ k : Nat, k ≤ T.length ∧ i = .int .i64 (k : Int) ∧ o = .string (bs (subD (look y) (T.take k))) ∧ (subD (look y) (T.take k)).length ≤ 2000 ∧ Below w.heap.size w wr) (fun _ i _ => T.length - (intOf i).toNat)
    case atStart => exact ⟨0, Nat.zero_le _, rfl, rfl, Nat.zero_le _, Below.refl _ _⟩
    case round =>
      obtain ⟨k, hk, rfl, rfl, hl, qb⟩ := hrel
      have QB := Lib.hid qb; clear qb
      by_cases hk2 : k < T.length
      · obtain ⟨c1, c2⟩ := HC.out wr QB.out k hk2
        have T1 := Lib.hid (HT.out k hk2)
        have R1 := Lib.hid (HR.out k hk2)
        have P1 := Lib.hid (HP.out (k + 1))
        rw [T1.out] at P1
        generalize tkAt T k = x at *
        generalize subD (look y) (T.take k) = O at *
        have so : (bs O).size = O.length := bs_size O
        have BA : Hid (Below w.heap.size w (wr.alloc (.cells #[.bool (isR x), .string (bs (txt x))] 63))) := QB.out.alloc QB.out.size _
        cases x with
        | inl c =>
          have e1 : isR (Sum.inl c) = false := rfl
          have e2 : txt (Sum.inl c) = [c] := rfl
          have e3 : rep1 (look y) (Sum.inl c) = [c] := rfl
          rw [e1] at c1
          rw [e2] at c2
          rw [e1, e2] at BA
          rw [e3] at T1 P1
          clear e1 e2 e3
          have s1 : (bs [c]).size = 1 := bs_size _
          have cat := bs_append O [c]
          by_cases hb : O.length + 1 ≤ 2000
          · have t1 : decide ((2000 : Int) < (O.length : Int) + 1) = false := decide_eq_false (by omega)
            go_wp2
            go_roundw
            case rel => exact ⟨k + 1, by omega, by go_num, by rw [T1.out], by rw [T1.out, List.length_append, List.length_singleton]; exact hb, BA.out⟩
            case measure => simp [intOf]; omega
          · have t1 : decide ((2000 : Int) < (O.length : Int) + 1) = true := decide_eq_true (by omega)
            have BIG : Hid (2000 < (subD (look y) T).length) := by have := P1.out; rw [List.length_append, List.length_singleton] at this; show _ < _; omega
            go_wp2
            go_ret2
            exact ⟨BA.out, .inr ⟨BIG.out, rfl⟩⟩
        | inr n =>
          have e1 : isR (Sum.inr n) = true := rfl
          have e2 : txt (Sum.inr n) = n := rfl
          have e3 : rep1 (look y) (Sum.inr n) = (look y n).getD [] := rfl
          rw [e1] at c1
          rw [e2] at c2
          rw [e1, e2] at BA
          rw [e3] at T1 P1
          have RN := R1.out n rfl
          clear e1 e2 e3 R1
          have RH := Lib.hid RN; clear RN
          have MC := Lib.hid (MN.out _ BA.out)
          go_wp2_with fail
          refine MC.out.mono ?_
          rintro e w3 ⟨v', rfl, o3, hb3⟩
          have B3 : Hid (Below w.heap.size w w3) := BA.out.trans (hb3.mono BA.out.size)
          have I3 : Hid (SIn w3 v' (names y)) := SIn.own o3 NB.out.1 NB.out.2
          clear o3 hb3 MC
          go_wp2_with fail
          refine (place_of I3.out n).mono ?_
          rintro e w5 ⟨hpl, h⟩
          rw [h]
          clear h w5
          rcases hpl with ⟨i, hi1, hi2, rfl⟩ | ⟨hi, rfl⟩
          · obtain ⟨hi3, hlk, hv2⟩ := LK.out i n hi1 hi2
            obtain ⟨b2, off2, cap2, rfl, c5⟩ := YC.out w3 B3.out i hi3
            rw [hlk] at T1 P1
            generalize vl y i = t at *
            have T2 : Hid (subD (look y) (T.take (k + 1)) = O ++ t) := T1.out
            have P2 : Hid ((O ++ t).length ≤ (subD (look y) T).length) := P1.out
            have s1 : (bs t).size = t.length := bs_size _
            have cat := bs_append O t
            clear hlk hi1 hi2 T1 P1
            by_cases hb : O.length + t.length ≤ 2000
            · have t1 : decide ((2000 : Int) < (O.length : Int) + (t.length : Int)) = false := decide_eq_false (by omega)
              go_wp2
              go_roundw
              case rel => exact ⟨k + 1, by omega, by go_num, by rw [T2.out], by rw [T2.out, List.length_append]; exact hb, B3.out⟩
              case measure => simp [intOf]; omega
            · have t1 : decide ((2000 : Int) < (O.length : Int) + (t.length : Int)) = true := decide_eq_true (by omega)
              have BIG : Hid (2000 < (subD (look y) T).length) := by have := P2.out; rw [List.length_append] at this; show _ < _; omega
              go_wp2
              go_ret2
              exact ⟨B3.out, .inr ⟨BIG.out, rfl⟩⟩
          · exact absurd RH.out hi
      · obtain rfl : k = T.length := by omega
        have e : Hid (subD (look y) (T.take T.length) = subD (look y) T) := by show _ = _; rw [List.take_length]
        rw [e.out] at hl ⊢
        have HL := Lib.hid hl; clear hl
        go_wp2
        go_ret2
        exact ⟨QB.out, .inl ⟨HL.out, rfl⟩⟩
end Go.Proofs.Ytoinflfibofofaa
