/-
  The reference's Called, macroNames and flatten. Condition: at most 2^32 tokens, at most 1048576 macros.
-/
import Derived.Test.YtoinflfibofofaaMTk
import Derived.Test.YtoinflfibofofaaMSem
namespace Go.Proofs.Ytoinflfibofofaa
set_option linter.unusedVariables false
open Go.ChangeShapes Go.WideShapes Go.ChangeAt Go.RowKit

theorem tk_good : ∀ (s : Str) (m : Option (Option Str)) (T : List Tok), tk m s = some T → ∀ n, Sum.inr n ∈ T → good n = true
  | [], none, T, h, n, hn => by simp only [tk, Option.some.injEq] at h; subst h; cases hn
  | [], some _, T, h, n, hn => by simp [tk] at h
  | c :: r, none, T, h, n, hn => by
    simp only [tk] at h
    split at h
    · exact tk_good r _ _ h n hn
    · cases hr : tk none r with
      | none => rw [hr] at h; cases h
      | some x => rw [hr] at h; cases h; cases hn with | tail _ hn => exact tk_good r _ _ hr n hn
  | c :: r, some none, T, h, n, hn => by
    simp only [tk] at h
    split at h
    · cases hr : tk none r with
      | none => rw [hr] at h; cases h
      | some x => rw [hr] at h; cases h; cases hn with | tail _ hn => exact tk_good r _ _ hr n hn
    · split at h
      · exact tk_good r _ _ h n hn
      · cases h
  | c :: r, some (some a), T, h, n, hn => by
    simp only [tk] at h
    split at h
    · split at h
      · rename_i hg
        cases hr : tk none r with
        | none => rw [hr] at h; cases h
        | some x =>
          rw [hr] at h; cases h
          cases hn with
          | head => exact hg
          | tail _ hn => exact tk_good r _ _ hr n hn
      · cases h
    · exact tk_good r _ _ h n hn

def tkAt (T : List Tok) (k : Nat) : Tok := T.getD k (.inl 0)
theorem tk_some {T : List Tok} {k : Nat} (h : k < T.length) : T[k]? = some (tkAt T k) := by
  unfold tkAt; rw [List.getD, List.getElem?_eq_getElem h]; rfl
theorem tk_take {T : List Tok} {k : Nat} (h : k < T.length) : T.take (k + 1) = T.take k ++ [tkAt T k] := by
  rw [List.take_add_one, tk_some h]; rfl
/-- the token in block k stays -/
def StayT (k : Nat) (x : Value) (y : Value) (w : World) : Prop := w.heap[k]? = some (.cells #[x, y] 63 (0, 0))
theorem StayT.cells {k : Nat} {x y : Value} {w : World} (h : StayT k x y w) : w.cell? ⟨k, 0, none⟩ = some x ∧ w.cell? ⟨k, 1, none⟩ = some y := by
  unfold StayT at h
  unfold World.cell?
  simp [h]
theorem StayT.later {k : Nat} {x y : Value} {w w' : World} (h : StayT k x y w) (hb : Below w.heap.size w w') : StayT k x y w' := by
  unfold StayT at h ⊢
  exact (hb.block _ (lt_of_block h)).trans h
theorem stayT_new (w : World) (x y : Value) : StayT w.heap.size x y (w.alloc (.cells #[x, y] 63)) := by unfold StayT; exact heap_alloc_new _ _

set_option maxHeartbeats 4000000 in
set_option maxRecDepth 100000 in
theorem called_any (T : List Tok) (v : Value) (w : World) (h : CIn w v T) (hT : T.length ≤ 4294967296) (hg : ∀ n, Sum.inr n ∈ T → good n = true) :
    Calls Try.prog 19 #[v] w fun e w' => ∃ v', e = .returned v' ∧ SO w.heap.size v' (dd T) w' ∧ Below w.heap.size w w' := by
  rcases h.open with ⟨rfl, a, cap, rfl⟩ | ⟨hp, b, off, cap, rfl, hcap, hlt, hc⟩
  · clear h
    go_enter Try.func19, Try.ntmps19
    go_wp2_with fail
    go_rounds 1
    go_ret
    exact ⟨_, rfl, World.ownsRow_nil _ _ _ _, Below.refl _ _⟩
  · have HC : Hid (∀ W, Below w.heap.size w W → ∀ k, k < T.length → W.cell? ⟨b, off + k * 2, none⟩ = some (.bool (isR (tkAt T k))) ∧ W.cell? ⟨b, off + k * 2 + 1, none⟩ = some (.string (bs (txt (tkAt T k))))) := fun W hW k hk => ⟨cell_later hW (hc k _ (tk_some hk)).1, cell_later hW (hc k _ (tk_some hk)).2⟩
    have HT : Hid (∀ k, k < T.length → dd (T.take (k + 1)) = ddS (dd (T.take k)) (tkAt T k)) := fun k hk => by rw [tk_take hk]; unfold dd; rw [List.foldl_append]; rfl
    have HG : Hid (∀ k, k < T.length → ∀ n, tkAt T k = .inr n → good n = true) := fun k hk n e => hg n (by rw [← e]; exact List.mem_of_getElem? (tk_some hk))
    have GD : Hid (∀ k, ∀ x ∈ dd (T.take k), x.length ≤ 9223372036854775807) := fun k x hx => by
      have := (good_len (hg x (List.mem_of_mem_take ((mem_dd x _).1 hx)))).2; omega
    have DL : Hid (∀ k, (dd (T.take k)).length ≤ k) := fun k => by have := dd_le (T.take k); rw [List.length_take] at this; omega
    obtain ⟨i0, hi, hz0, hz1, hz2⟩ := info_parts infoStr
    have IH := Lib.hid hi; clear hi
    clear h hc hlt hg
    go_enter Try.func19, Try.ntmps19
    go_wp2_with fail
    go_loopw [3, 8] (fun o i wr => ∃ k : Nat, k ≤ T.length ∧ i = .int .i64 (k : Int) ∧ SO w.heap.size o (dd (T.take k)) wr ∧ Below w.heap.size w wr) (fun _ i _ => T.length - (intOf i).toNat)
    case atStart => exact ⟨0, Nat.zero_le _, rfl, World.ownsRow_nil _ _ _ _, Below.refl _ _⟩
    case round =>
      obtain ⟨k, hk, rfl, qo, qb⟩ := hrel
      have QO := Lib.hid qo; have QB := Lib.hid qb; clear qo qb
      by_cases hk2 : k < T.length
      · obtain ⟨c1, c2⟩ := HC.out wr QB.out k hk2
        have T1 := Lib.hid (HT.out k hk2)
        have G1 := Lib.hid (HG.out k hk2)
        have GK := Lib.hid (GD.out k)
        have DK := Lib.hid (DL.out k)
        generalize tkAt T k = x at *
        generalize dd (T.take k) = D at *
        have BA : Hid (Below w.heap.size w (wr.alloc (.cells #[.bool (isR x), .string (bs (txt x))] 63))) := QB.out.alloc QB.out.size _
        have OA : Hid (SO w.heap.size u3 D (wr.alloc (.cells #[.bool (isR x), .string (bs (txt x))] 63))) := World.ownsRow.alloc QO.out _
        have SZ : Hid (w.heap.size ≤ (wr.alloc (.cells #[.bool (isR x), .string (bs (txt x))] 63)).heap.size) := BA.out.size
        cases x with
        | inl c =>
          have e1 : isR (Sum.inl c) = false := rfl
          rw [e1] at c1
          rw [e1] at BA OA
          clear e1
          go_wp2
          go_roundw
          case rel => exact ⟨k + 1, by omega, by go_num, by rw [T1.out]; exact OA.out, BA.out⟩
          case measure => simp [intOf]; omega
        | inr n =>
          have e1 : isR (Sum.inr n) = true := rfl
          have e2 : txt (Sum.inr n) = n := rfl
          rw [e1] at c1
          rw [e2] at c2
          rw [e1, e2] at BA OA SZ
          clear e1 e2
          have IS : Hid (SIn (wr.alloc (.cells #[.bool true, .string (bs n)] 63)) u3 D) := SIn.own OA.out (by have := DK.out; omega) GK.out
          have PL := Lib.hid (place_of IS.out n)
          obtain ⟨W1, hW1⟩ : ∃ W1, W1 = wr.alloc (.cells #[.bool true, .string (bs n)] 63) := ⟨_, rfl⟩
          have S1 : Hid (StayT wr.heap.size (.bool true) (.string (bs n)) W1) := by rw [hW1]; exact stayT_new _ _ _
          rw [← hW1] at BA OA SZ IS PL
          obtain ⟨d1, d2⟩ := S1.out.cells
          have OB : Hid (∀ o, (W1.alloc o).ownsRow w.heap.size 9 1 u3 D.length (D.map encStr)) := fun o => World.ownsRow.alloc OA.out o
          have SB : Hid (∀ o, w.heap.size ≤ (W1.alloc o).heap.size) := fun o => by have := SZ.out; simp; omega
          have LT : Hid (∀ j, u3.ownBlock = some j → w.heap.size ≤ j) := fun j hj => (OA.out.lt j hj).1
          have WB : Hid (∀ o, Below w.heap.size w (W1.alloc o)) := fun o => BA.out.alloc SZ.out o
          go_wp2_with fail
          rw [← hW1]
          clear hW1
          refine PL.out.mono ?_
          rintro e w5 ⟨hpl, h⟩
          rw [h]
          clear h w5
          rcases hpl with ⟨i, hi1, hi2, rfl⟩ | ⟨hi, rfl⟩
          · have M1 : Hid (dd (T.take (k + 1)) = D) := by
              show _ = _
              rw [T1.out]
              show (if D.contains n then D else D ++ [n]) = D
              rw [if_pos]
              rw [List.contains_iff_mem, ← hi2, List.getD, List.getElem?_eq_getElem hi1]
              exact List.getElem_mem hi1
            have t1 : decide ((i : Int) < 0) = false := decide_eq_false (by omega)
            clear hi1 hi2 PL
            go_wp2
            go_roundw
            case rel => exact ⟨k + 1, by omega, by go_num, by rw [M1.out]; exact OA.out, BA.out⟩
            case measure => simp [intOf]; omega
          · have M1 : Hid (dd (T.take (k + 1)) = D ++ [n]) := by
              show _ = _
              rw [T1.out]
              show (if D.contains n then D else D ++ [n]) = D ++ [n]
              rw [if_neg (by rw [List.contains_iff_mem]; exact hi)]
            have dk := DK.out
            clear hi PL
            go_wp2_with (at_builtin; go_must (refine wpList_append_own _ rfl (.tmp 21) (.tmp 24) 32 rfl w.heap.size 9 i0 (.string ByteArray.empty) 1 16 Try.underlying32 IH.out hz0 hz1 hz2 rfl (by decide) _ _ _ rfl (OB.out _) ⟨W1.heap.size, 0, none⟩ 1 1 [.string (bs n)] rfl rfl (cell_one' _ _ _) (by intro u hu; simp at hu; rcases hu with rfl; rfl) (by unfold maxLen; omega) (by omega) (SB.out _) ?_; intro v4 w4 q1 q2 q3; have O4 := Lib.hid q1; have G4 := Lib.hid q2; clear q1 q2 q3))
            go_roundw
            case rel => exact ⟨k + 1, by omega, by go_num, by rw [M1.out]; exact SO.snoc O4.out, (WB.out _).grown G4.out (SB.out _) LT.out⟩
            case measure => simp [intOf]; omega
      · obtain rfl : k = T.length := by omega
        go_wp2
        go_ret
        have q := QO.out
        rw [List.take_length] at q
        exact ⟨_, rfl, q, QB.out⟩
theorem names_take {z : List Mc} {k : Nat} (h : k < z.length) : names (z.take (k + 1)) = names (z.take k) ++ [nm z k] := by rw [take_at h, names_snoc]
set_option maxHeartbeats 4000000 in
set_option maxRecDepth 100000 in
theorem mnames_any (z : List Mc) (v : Value) (w : World) (h : McIn w v z) (hn : z.length ≤ 1048576) :
    Calls Try.prog 32 #[v] w fun e w' => ∃ v', e = .returned v' ∧ SO w.heap.size v' (names z) w' ∧ Below w.heap.size w w' := by
  rcases h.open with ⟨rfl, a, cap, rfl⟩ | ⟨hp, b, off, cap, rfl, hcap, hlt, hc⟩
  · clear h
    go_enter Try.func32, Try.ntmps32
    go_wp2_with fail
    go_rounds 1
    go_ret
    exact ⟨_, rfl, World.ownsRow_nil _ _ _ _, Below.refl _ _⟩
  · have HC : Hid (∀ W, Below w.heap.size w W → ∀ k, k < z.length → W.cell? ⟨b, off + k * 2, none⟩ = some (.string (bs (nm z k))) ∧ W.cell? ⟨b, off + k * 2 + 1, none⟩ = some (.string (bs (vl z k)))) := fun W hW k hk => ⟨cell_later hW (hc k _ (at_some hk)).1, cell_later hW (hc k _ (at_some hk)).2⟩
    have HT : Hid (∀ k, k < z.length → names (z.take (k + 1)) = names (z.take k) ++ [nm z k]) := fun k hk => names_take hk
    have NL : Hid (∀ k, (names (z.take k)).length ≤ k) := fun k => by unfold names; rw [List.length_map, List.length_take]; omega
    obtain ⟨i0, hi, hz0, hz1, hz2⟩ := info_parts infoStr
    have IH := Lib.hid hi; clear hi
    clear h hc hlt
    generalize nm z = f at *
    generalize vl z = g at *
    go_enter Try.func32, Try.ntmps32
    go_wp2_with fail
    go_loopw [3, 8] (fun o i wr => ∃ k : Nat, k ≤ z.length ∧ i = .int .i64 (k : Int) ∧ SO w.heap.size o (names (z.take k)) wr ∧ Below w.heap.size w wr) (fun _ i _ => z.length - (intOf i).toNat)
    case atStart => exact ⟨0, Nat.zero_le _, rfl, World.ownsRow_nil _ _ _ _, Below.refl _ _⟩
    case round =>
      obtain ⟨k, hk, rfl, qo, qb⟩ := hrel
      have QO := Lib.hid qo; have QB := Lib.hid qb; clear qo qb
      by_cases hk2 : k < z.length
      · obtain ⟨c1, c2⟩ := HC.out wr QB.out k hk2
        have T1 := Lib.hid (HT.out k hk2)
        have dk := NL.out k
        generalize f k = x at *
        generalize g k = y at *
        generalize names (z.take k) = D at *
        have OB : Hid (∀ o, ((wr.alloc (.cells #[.string (bs x), .string (bs y)] 25)).alloc o).ownsRow w.heap.size 9 1 u3 D.length (D.map encStr)) := fun o => World.ownsRow.alloc (World.ownsRow.alloc QO.out _) o
        have SB : Hid (∀ o, w.heap.size ≤ ((wr.alloc (.cells #[.string (bs x), .string (bs y)] 25)).alloc o).heap.size) := fun o => by have := QB.out.size; simp; omega
        have LT : Hid (∀ j, u3.ownBlock = some j → w.heap.size ≤ j) := fun j hj => (QO.out.lt j hj).1
        have WB : Hid (∀ o, Below w.heap.size w ((wr.alloc (.cells #[.string (bs x), .string (bs y)] 25)).alloc o)) := fun o => (QB.out.alloc QB.out.size _).alloc (by have := QB.out.size; simp; omega) o
        have C1 : Hid (∀ j u, [Value.string (bs x)][j]? = some u → ((wr.alloc (.cells #[.string (bs x), .string (bs y)] 25)).alloc (.cells #[.string (bs x)] 9)).cell? ((⟨wr.heap.size + 1, 0, none⟩ : Addr).add j) = some u) := by
          have := cell_one' (wr.alloc (.cells #[.string (bs x), .string (bs y)] 25)) (.string (bs x)) 9
          have e : (wr.alloc (.cells #[.string (bs x), .string (bs y)] 25)).heap.size = wr.heap.size + 1 := by simp
          rw [e] at this
          exact this
        go_wp2_with (at_builtin; go_must (refine wpList_append_own _ rfl (.tmp 12) (.tmp 15) 32 rfl w.heap.size 9 i0 (.string ByteArray.empty) 1 16 Try.underlying32 IH.out hz0 hz1 hz2 rfl (by decide) _ _ _ rfl (OB.out _) ⟨wr.heap.size + 1, 0, none⟩ 1 1 [.string (bs x)] rfl rfl C1.out (by intro u hu; simp at hu; rcases hu with rfl; rfl) (by unfold maxLen; omega) (by omega) (SB.out _) ?_; intro v4 w4 q1 q2 q3; have O4 := Lib.hid q1; have G4 := Lib.hid q2; clear q1 q2 q3))
        go_roundw
        case rel => exact ⟨k + 1, by omega, by go_num, by rw [T1.out]; exact SO.snoc O4.out, (WB.out _).grown G4.out (SB.out _) LT.out⟩
        case measure => simp [intOf]; omega
      · obtain rfl : k = z.length := by omega
        go_wp2
        go_ret
        have q := QO.out
        rw [List.take_length] at q
        exact ⟨_, rfl, q, QB.out⟩
end Go.Proofs.Ytoinflfibofofaa
