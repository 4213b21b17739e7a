/-
  Package file's appendNew at strings and at pairs of suffixes; inference. Condition: the rows are short.
  What package file's Parse keeps: the file's block, its rows, each in a block of its own. No condition.
  Package file's addPhony. No condition beyond the state's own.
-/
import Derived.Test.YtfgcbdjkimkgpaaGreatDoorGc19MEx
import Derived.Test.YtfgcbdjkimkgpaaGreatDoorGc20FPo
import Derived.Test.YtfgcbdjkimkgpaaGreatDoorGc10FTx
import Derived.Laws.StructEq
import Derived.Maps.AppendAt
namespace Go.Proofs.YtfgcbdjkimkgpaaGreatDoor
set_option maxRecDepth 100000
set_option linter.unusedVariables false
open Go.ChangeShapes Go.WideShapes Go.ChangeAt Go.RowKit

theorem grown_alloc (w : World) (o : Obj) (row : Option Nat) : w.grownBy (w.alloc o) row := ⟨rfl, rfl, rfl, by simp, fun k hk _ => Below.heap_alloc _ _ _ hk⟩
theorem grown_refl (w : World) (row : Option Nat) : w.grownBy w row := ⟨rfl, rfl, rfl, Nat.le_refl _, fun _ _ _ => rfl⟩
theorem grown_below {w w' : World} (h : Below w.heap.size w w') (row : Option Nat) : w.grownBy w' row := ⟨h.os, h.tape, h.output, h.size, fun k hk _ => h.block k hk⟩
theorem ow_at {v v' : Value} {w w1 : World} (h : v'.ownBlock = v.ownBlock ∨ v'.ownBlock = some w1.heap.size) (hs : w.heap.size ≤ w1.heap.size) : Ow v v' w := fun k hk => by
  rcases h with e | e
  · rw [e] at hk; exact .inl hk
  · rw [e] at hk; injection hk with hk; right; omega
/-- a row of pairs of suffixes of the call's own -/
def IO (B : Nat) (v : Value) (l : List Mc) (w : World) : Prop := w.ownsRow B 74 2 v l.length (mcCells l)
theorem McIn.ownI {w : World} {base : Nat} {v : Value} {z : List Mc} (h : w.ownsRow base 74 2 v z.length (mcCells z)) (hn : z.length ≤ 8796093022208) : McIn w v z := by
  rcases h.2 with ⟨hv, h0⟩ | ⟨g, cap, cur, hv, hb, hg, hc, hm, hs, ht⟩
  · have : z = [] := List.length_eq_zero_iff.1 h0
    subst this
    exact ⟨none, 0, hv, Nat.le_refl _, Nat.zero_le _, Nat.zero_le _, .inl rfl⟩
  · refine ⟨_, cap, hv, hc, hm, hn, .inr ⟨g, 0, rfl, ?_, fun k x hk => ?_⟩⟩
    · rcases Nat.lt_or_ge g w.heap.size with h' | h'
      · exact h'
      · simp [Array.getElem?_eq_none h'] at hg
    · have hc := h.cells (g := g) (by rw [hv]; rfl)
      obtain ⟨h1, h2⟩ := mcCells_at z k x hk
      have e1 := hc _ _ h1
      have e2 := hc _ _ h2
      rw [add_off] at e1 e2
      rw [Nat.zero_add]
      exact ⟨e1, e2⟩
theorem infoInf : (Tryz.prog.info? 74).map (fun i => (i.zero, i.size, i.bytes)) = some (some (.agg #[.string ByteArray.empty, .string ByteArray.empty]), 2, 32) := by kernel_rfl
theorem contains_dec {α : Type} [BEq α] [LawfulBEq α] (l : List α) (x : α) [Decidable (x ∈ l)] : l.contains x = decide (x ∈ l) := by
  rw [Bool.eq_iff_iff, List.contains_iff_mem, decide_eq_true_iff]
set_option maxHeartbeats 4000000 in
theorem appS_any {B : Nat} (x : Str) (l : List Str) (v : Value) (w : World) (h : SO B v l w) (hB : B ≤ w.heap.size) (hl : l.length ≤ 1000) (hx : ∀ y ∈ l, y.length ≤ 9223372036854775807) :
    Calls Tryz.prog 117 #[v, .string (bs x)] w fun e w' => ∃ v', e = .returned v' ∧ SO B v' (addU l x) w' ∧ w.grownBy w' v.ownBlock ∧ Ow v v' w := by
  have CO := Lib.hid (contains_of (SIn.own h (by omega) hx) x)
  have HH := Lib.hid h
  obtain ⟨i0, hi, hz0, hz1, hz2⟩ := info_parts infoStr
  have IH := Lib.hid hi
  have OA : Hid (∀ o, (w.alloc o).ownsRow B 9 1 v l.length (l.map encStr)) := fun o => World.ownsRow.alloc h o
  have SA : Hid (∀ o, B ≤ (w.alloc o).heap.size) := fun o => by simp; omega
  have AD : addU l x = if decide (x ∈ l) = true then l else l ++ [x] := by unfold addU; rw [contains_dec]
  clear h hx hi
  cases hq : decide (x ∈ l)
  · rw [hq, if_neg (by decide)] at AD
    have AE := Lib.hid AD
    rw [hq] at CO
    clear AD hq
    go_enter Tryz.func117, Tryz.ntmps117
    go_wp2_with fail
    refine CO.out.mono ?_
    rintro e w1 ⟨rfl, rfl⟩
    go_wp2_with (at_builtin; go_must (refine wpList_append_own_at _ rfl (.tmp 9) (.tmp 11) 27 rfl B 9 i0 (.string ByteArray.empty) 1 16 Tryz.underlying27 IH.out hz0 hz1 hz2 rfl (by decide) _ _ _ rfl (OA.out _) ⟨w1.heap.size, 0, none⟩ 1 1 [.string (bs x)] rfl rfl (cell_one' _ _ _) (by intro u hu; simp at hu; rcases hu with rfl; rfl) (by unfold maxLen; omega) (by omega) (SA.out _) ?_; intro v4 w4 q1 q2 q3 q4; have O4 := Lib.hid q1; have G4 := Lib.hid q2; have P4 := Lib.hid q4; clear q1 q2 q3 q4))
    go_ret
    exact ⟨_, rfl, by rw [AE.out]; exact SO.snoc O4.out, World.grownBy.trans (grown_alloc _ _ _) G4.out, ow_at P4.out (by simp)⟩
  · rw [hq, if_pos rfl] at AD
    have AE := Lib.hid AD
    rw [hq] at CO
    clear AD hq
    go_enter Tryz.func117, Tryz.ntmps117
    go_wp2_with fail
    refine CO.out.mono ?_
    rintro e w1 ⟨rfl, rfl⟩
    go_wp2
    go_ret
    exact ⟨_, rfl, by rw [AE.out]; exact HH.out, grown_refl _ _, Ow.refl _ _⟩

set_option maxHeartbeats 4000000 in
theorem idxI_any (z : List Mc) (x y : Str) (v : Value) (w : World) (h : McIn w v z) :
    Calls Tryz.prog 155 #[v, .agg #[.string (bs x), .string (bs y)]] w fun e w' => (∃ i : Int, e = .returned (.int .i64 i) ∧ decide (0 ≤ i) = z.contains (x, y)) ∧ Below w.heap.size w w' := by
  have hn : z.length ≤ 8796093022208 := by obtain ⟨_, _, _, _, _, h4, _⟩ := h; exact h4
  have BA : Hid (Below w.heap.size w (w.alloc (.cells #[.string (bs x), .string (bs y)] 74))) := (Below.refl _ _).alloc (Nat.le_refl _) _
  have hA := h.later BA.out
  have b0 := blk_new w #[.string (bs x), .string (bs y)] 74
  rcases hA.open with ⟨rfl, a, cap, rfl⟩ | ⟨hp, b, off, cap, rfl, hcap, hlt, hc⟩
  · clear h hA b0
    go_enter Tryz.func155, Tryz.ntmps155
    go_wp2_with fail
    go_rounds 1
    go_ret
    exact ⟨⟨-1, rfl, rfl⟩, BA.out⟩
  · have d1 := b0.cell (i := 0) rfl
    have d2 := b0.cell (i := 1) rfl
    obtain ⟨W1, hW1⟩ : ∃ W1, W1 = w.alloc (.cells #[.string (bs x), .string (bs y)] 74) := ⟨_, rfl⟩
    rw [← hW1] at hc d1 d2 BA
    have D1 := Lib.hid d1; have D2 := Lib.hid d2
    have HC : Hid (∀ k, k < z.length → W1.cell? ⟨b, off + k * 2, none⟩ = some (.string (bs (nm z k))) ∧ W1.cell? ⟨b, off + k * 2 + 1, none⟩ = some (.string (bs (vl z k)))) := fun k hk => hc k _ (at_some hk)
    have TK : Hid (∀ k, k < z.length → z.take (k + 1) = z.take k ++ [(nm z k, vl z k)]) := fun k hk => take_at hk
    have MM : Hid (∀ k, k < z.length → (nm z k, vl z k) ∈ z) := fun k hk => mem_at hk
    have TL := Lib.hid (List.take_length (l := z))
    have HW := Lib.hid hW1
    clear h hA b0 hc hlt d1 d2 hW1
    generalize nm z = f at *
    generalize vl z = g at *
    go_enter Tryz.func155, Tryz.ntmps155
    go_wp2_with fail
    rw [← HW.out]
    have d1 := D1.out
    have d2 := D2.out
    generalize w.heap.size = N at d1 d2 ⊢
    go_loopw [8] (fun i wr => ∃ k : Nat, k ≤ z.length ∧ i = .int .i64 k ∧ (x, y) ∉ z.take k ∧ ∃ m, wr = W1.drewN m) (fun i _ => z.length - (intOf i).toNat)
    case atStart => exact ⟨0, Nat.zero_le _, rfl, by simp, 0, rfl⟩
    case round =>
      obtain ⟨k, hk, rfl, hno, m, rfl⟩ := hrel
      have NO := Lib.hid hno; clear hno
      by_cases hkl : k < z.length
      · obtain ⟨c1, c2⟩ := HC.out k hkl
        have T1 := Lib.hid (TK.out k hkl)
        have M1 := Lib.hid (MM.out k hkl)
        generalize f k = p at *
        generalize g k = q at *
        have e1 : ((bs x).toList == (bs p).toList) = decide (x = p) := by rw [bs_toList, bs_toList, beq_dec]
        have e2 : ((bs y).toList == (bs q).toList) = decide (y = q) := by rw [bs_toList, bs_toList, beq_dec]
        by_cases hx : x = p
        · rw [decide_eq_true hx] at e1
          by_cases hy : y = q
          · rw [decide_eq_true hy] at e2
            have IN : Hid (z.contains (x, y) = true) := by show _ = _; rw [List.contains_iff_mem, hx, hy]; exact M1.out
            clear hx hy
            go_wp2_with fail
            go_quiet (fail)
            go_wp2
            go_ret
            exact ⟨⟨k, rfl, by rw [IN.out]; exact decide_eq_true (by omega)⟩, below_drewN (below_drewN BA.out _) _⟩
          · rw [decide_eq_false hy] at e2
            have NX : Hid ((x, y) ∉ z.take k ++ [(p, q)]) := by
              intro hm
              rcases List.mem_append.1 hm with hm | hm
              · exact NO.out hm
              · rw [List.mem_singleton] at hm; injection hm with h1 h2; exact hy h2
            clear hx hy
            go_wp2_with fail
            go_quiet (fail)
            go_wp2
            go_roundw
            case rel => exact ⟨k + 1, by omega, by go_num, by rw [T1.out]; exact NX.out, _, rfl⟩
            case measure => simp [intOf]; omega
        · rw [decide_eq_false hx] at e1
          have NX : Hid ((x, y) ∉ z.take k ++ [(p, q)]) := by
            intro hm
            rcases List.mem_append.1 hm with hm | hm
            · exact NO.out hm
            · rw [List.mem_singleton] at hm; injection hm with h1 h2; exact hx h1
          clear hx
          go_wp2_with fail
          go_quiet (fail)
          go_wp2
          go_roundw
          case rel => exact ⟨k + 1, by omega, by go_num, by rw [T1.out]; exact NX.out, _, rfl⟩
          case measure => simp [intOf]; omega
      · obtain rfl : k = z.length := by omega
        have OUT : Hid (z.contains (x, y) = false) := by
          show _ = _
          have h := NO.out
          rw [TL.out] at h
          rw [← Bool.not_eq_true, List.contains_iff_mem]
          exact h
        go_wp2
        go_ret
        exact ⟨⟨-1, rfl, by rw [OUT.out]; rfl⟩, below_drewN BA.out _⟩
theorem snocI {B : Nat} {v : Value} {o : List Mc} {x y : Str} {w : World} (h : w.ownsRow B 74 2 v (o.length + 1) (mcCells o ++ [.string (bs x), .string (bs y)])) : IO B v (o ++ [(x, y)]) w := by
  unfold IO; rw [List.length_append, mcCells_snoc]; exact h
set_option maxHeartbeats 4000000 in
theorem conI_any (z : List Mc) (x y : Str) (v : Value) (w : World) (h : McIn w v z) :
    Calls Tryz.prog 119 #[v, .agg #[.string (bs x), .string (bs y)]] w fun e w' => e = .returned (.bool (z.contains (x, y))) ∧ Below w.heap.size w w' := by
  have BA : Hid (Below w.heap.size w (w.alloc (.cells #[.string (bs x), .string (bs y)] 74))) := (Below.refl _ _).alloc (Nat.le_refl _) _
  have b0 := blk_new w #[.string (bs x), .string (bs y)] 74
  have d1 := b0.cell (i := 0) rfl
  have d2 := b0.cell (i := 1) rfl
  have IX := Lib.hid (idxI_any z x y v _ (h.later BA.out))
  clear h b0
  go_enter Tryz.func119, Tryz.ntmps119
  go_wp2_with fail
  refine IX.out.mono ?_
  rintro e w1 ⟨⟨i, rfl, hi⟩, hb⟩
  have B1 : Hid (Below w.heap.size w w1) := BA.out.trans (hb.mono BA.out.size)
  have HI := Lib.hid hi
  clear hb hi IX d1 d2
  go_wp2
  go_ret
  exact ⟨by rw [← HI.out]; rfl, B1.out⟩
set_option maxHeartbeats 4000000 in
theorem appI_any {B : Nat} (x y : Str) (l : List Mc) (v : Value) (w : World) (h : IO B v l w) (hB : B ≤ w.heap.size) (hl : l.length ≤ 1000) :
    Calls Tryz.prog 89 #[v, .agg #[.string (bs x), .string (bs y)]] w fun e w' => ∃ v', e = .returned v' ∧ IO B v' (addU l (x, y)) w' ∧ w.grownBy w' v.ownBlock ∧ Ow v v' w := by
  have ba : Below w.heap.size w (w.alloc (.cells #[.string (bs x), .string (bs y)] 74)) := (Below.refl _ _).alloc (Nat.le_refl _) _
  have BA := Lib.hid ba
  have b0 := blk_new w #[.string (bs x), .string (bs y)] 74
  have S0 := Lib.hid b0
  have d1 := b0.cell (i := 0) rfl
  have d2 := b0.cell (i := 1) rfl
  have CO := Lib.hid (conI_any l x y v _ ((McIn.ownI h (by omega)).later ba))
  have HH := Lib.hid h
  obtain ⟨i0, hi, hz0, hz1, hz2⟩ := info_parts infoInf
  have IH := Lib.hid hi
  have AD : addU l (x, y) = if l.contains (x, y) = true then l else l ++ [(x, y)] := rfl
  clear h hi b0 ba
  cases hq : l.contains (x, y)
  · rw [hq, if_neg (by decide)] at AD
    have AE := Lib.hid AD
    rw [hq] at CO
    clear AD hq
    go_enter Tryz.func89, Tryz.ntmps89
    go_wp2_with fail
    refine CO.out.mono ?_
    rintro e w1 ⟨rfl, hb⟩
    have B1 : Hid (Below w.heap.size w w1) := BA.out.trans (hb.mono BA.out.size)
    have S1 := Lib.hid (S0.out.later hb)
    have O1 : Hid (IO B v l w1) := own_later HH.out B1.out
    clear hb d1 d2 CO
    obtain ⟨d1, d2⟩ := show _ ∧ _ from ⟨S1.out.cell (i := 0) rfl, S1.out.cell (i := 1) rfl⟩
    have OA : Hid (∀ o, (w1.alloc o).ownsRow B 74 2 v l.length (mcCells l)) := fun o => World.ownsRow.alloc O1.out o
    have SA : Hid (∀ o, B ≤ (w1.alloc o).heap.size) := fun o => by have := B1.out.size; simp; omega
    go_wp2_with (at_builtin; go_must (refine wpList_append_own_at _ rfl (.tmp 9) (.tmp 11) 33 rfl B 74 i0 (.agg #[.string ByteArray.empty, .string ByteArray.empty]) 2 32 Tryz.underlying33 IH.out hz0 hz1 hz2 rfl (by decide) _ _ _ rfl (OA.out _) ⟨w1.heap.size, 0, none⟩ 1 1 [.string (bs x), .string (bs y)] rfl rfl (two_new _ _ _ _) (by intro u hu; simp at hu; rcases hu with rfl | rfl <;> rfl) (by unfold maxLen; omega) (by omega) (SA.out _) ?_; intro v4 w4 q1 q2 q3 q4; have O4 := Lib.hid q1; have G4 := Lib.hid q2; have P4 := Lib.hid q4; clear q1 q2 q3 q4))
    go_ret
    exact ⟨_, rfl, by rw [AE.out]; exact snocI O4.out, World.grownBy.trans (World.grownBy.trans (grown_below B1.out _) (grown_alloc _ _ _)) G4.out, ow_at P4.out (by have := B1.out.size; simp; omega)⟩
  · rw [hq, if_pos rfl] at AD
    have AE := Lib.hid AD
    rw [hq] at CO
    clear AD hq
    go_enter Tryz.func89, Tryz.ntmps89
    go_wp2_with fail
    refine CO.out.mono ?_
    rintro e w1 ⟨rfl, hb⟩
    have B1 : Hid (Below w.heap.size w w1) := BA.out.trans (hb.mono BA.out.size)
    have O1 : Hid (IO B v l w1) := own_later HH.out B1.out
    clear hb d1 d2 CO
    go_wp2
    go_ret
    exact ⟨_, rfl, by rw [AE.out]; exact O1.out, grown_below B1.out _, Ow.refl _ _⟩

/-! inference -/
def iF (r : Rl) : Str := ((infR r).getD ([], [])).1
def iT (r : Rl) : Str := ((infR r).getD ([], [])).2
theorem good_asc {x : Str} (h : good x = true) : asc x := fun c hc => by
  have := (good_bytes h).2 c hc
  unfold okB at this
  have := of_decide_eq_true this
  omega
set_option maxHeartbeats 4000000 in
theorem inf_any (t n : List Str) (vt vn : Value) (w : World) (ht : SIn w vt t) (hn : SIn w vn n) (hg : t.all good = true) :
    Calls Tryz.prog 88 #[.agg #[vt, vn]] w fun e w' => e = .returned (.tuple #[.agg #[.string (bs (iF (t, n))), .string (bs (iT (t, n)))], .bool (infR (t, n)).isSome]) ∧ Below w.heap.size w w' := by
  have NO : Hid (infR (t, n) = none → iF (t, n) = [] ∧ iT (t, n) = [] ∧ (infR (t, n)).isSome = false) := fun h => by unfold iF iT; rw [h]; exact ⟨rfl, rfl, rfl⟩
  have IR : infR (t, n) = if t.length = 1 ∧ n.length = 0 then pairR (t.getD 0 []) else none := rfl
  have b0 := (blk_new w #[vt, vn] 82).alloc (.cells #[.string (bs []), .string (bs [])] 74)
  have b1 := blk_new (w.alloc (.cells #[vt, vn] 82)) #[.string (bs []), .string (bs [])] 74
  have s1 : (w.alloc (.cells #[vt, vn] 82)).heap.size = w.heap.size + 1 := by simp
  rw [s1] at b1
  have BA : Hid (Below w.heap.size w ((w.alloc (.cells #[vt, vn] 82)).alloc (.cells #[.string (bs []), .string (bs [])] 74))) := ((Below.refl _ _).alloc (Nat.le_refl _) _).alloc (by omega) _
  obtain ⟨d1, d2⟩ := show _ ∧ _ from ⟨b0.cell (i := 0) rfl, b0.cell (i := 1) rfl⟩
  have HT := Lib.hid (ht.later BA.out)
  have B1 := Lib.hid b1
  obtain ⟨at', ct, rfl⟩ := ht.shape
  obtain ⟨an, cn, rfl⟩ := hn.shape
  clear b0 b1 ht hn
  by_cases h1 : t.length = 1
  · by_cases h2 : n.length = 0
    · rw [if_pos ⟨h1, h2⟩] at IR
      rcases HT.out.open with ⟨hz, _⟩ | ⟨p1, b, off, cap, e1, hcap, hlt, hc⟩
      · rw [hz] at h1; cases h1
      · obtain ⟨rfl, rfl⟩ : at' = some ⟨b, off, none⟩ ∧ ct = cap := by simpa using e1
        have c0 := hc 0 p1
        rw [Nat.add_zero] at c0
        have gx : good (t.getD 0 []) = true := List.all_eq_true.1 hg _ (getD_mem p1)
        have PA := Lib.hid (pair_any (t.getD 0 []) ((w.alloc (.cells #[.slice (some ⟨b, off, none⟩) t.length ct, .slice an n.length cn] 82)).alloc (.cells #[.string (bs []), .string (bs [])] 74)) (by have := (good_len gx).2; omega) (good_asc gx))
        have E1 : Hid (iF (t, n) = pF (t.getD 0 [])) := by show _ = _; unfold iF pF; rw [IR]
        have E2 : Hid (iT (t, n) = pT (t.getD 0 [])) := by show _ = _; unfold iT pT; rw [IR]
        have E3 : Hid ((infR (t, n)).isSome = (pairR (t.getD 0 [])).isSome) := by show _ = _; rw [IR]
        generalize t.getD 0 [] = x at *
        rw [h1] at d1 c0 PA B1 BA
        rw [h2] at d1 d2 c0 PA B1 BA
        rw [h1] at d2
        rw [h1, h2]
        have c0' : ((w.alloc (.cells #[.slice (some ⟨b, off, none⟩) 1 ct, .slice an 0 cn] 82)).alloc (.cells #[.string { data := #[] }, .string { data := #[] }] 74)).cell? ⟨b, off, none⟩ = some (.string (bs x)) := c0
        clear HT e1 hc hlt hcap gx IR NO hg h1 h2 p1
        go_enter Tryz.func88, Tryz.ntmps88
        go_wp2_with fail
        refine PA.out.mono ?_
        rintro e w1 ⟨rfl, hb⟩
        have S1 := Lib.hid (B1.out.later hb)
        have B2 : Hid (Below w.heap.size w w1) := BA.out.trans (hb.mono BA.out.size)
        clear hb c0 c0' d1 d2 PA
        obtain ⟨c0, c1⟩ := show _ ∧ _ from ⟨S1.out.cell (i := 0) rfl, S1.out.cell (i := 1) rfl⟩
        obtain ⟨f0, f1⟩ := show _ ∧ _ from ⟨S1.out.free 0, S1.out.free 1⟩
        go_wp2
        (try simp only [Exit.inBlock, Exit.then])
        refine bodyPost_ret (v := .tuple #[.agg #[.string (bs (pF x)), .string (bs (pT x))], .bool (pairR x).isSome]) ?_ rfl ⟨by rw [E1.out, E2.out, E3.out], ?_⟩
        · rw [results_cell_tmp rfl]; go_simp
        · exact (B2.out.setCell (by simp) _).setCell (by simp) _
    · rw [if_neg (fun e => h2 e.2)] at IR
      obtain ⟨e1, e2, e3⟩ := NO.out IR
      have E1 := Lib.hid e1; have E2 := Lib.hid e2; have E3 := Lib.hid e3
      have z1 : ((n.length : Int) != 0) = true := by rw [bne_iff_ne]; omega
      rw [h1] at d1 d2 BA
      rw [h1]
      clear HT IR NO hg e1 e2 e3 h1 h2
      go_enter Tryz.func88, Tryz.ntmps88
      go_wp2
      (try simp only [Exit.inBlock, Exit.then])
      refine bodyPost_ret (v := .tuple #[.agg #[.string (bs []), .string (bs [])], .bool false]) ?_ rfl ⟨by rw [E1.out, E2.out, E3.out], ?_⟩
      · rw [results_cell_tmp rfl]; go_simp; try rfl
      · exact BA.out
  · rw [if_neg (fun e => h1 e.1)] at IR
    obtain ⟨e1, e2, e3⟩ := NO.out IR
    have E1 := Lib.hid e1; have E2 := Lib.hid e2; have E3 := Lib.hid e3
    have z1 : ((t.length : Int) != 1) = true := by rw [bne_iff_ne]; omega
    clear HT IR NO hg e1 e2 e3 h1
    go_enter Tryz.func88, Tryz.ntmps88
    go_wp2
    (try simp only [Exit.inBlock, Exit.then])
    refine bodyPost_ret (v := .tuple #[.agg #[.string (bs []), .string (bs [])], .bool false]) ?_ rfl ⟨by rw [E1.out, E2.out, E3.out], ?_⟩
    · rw [results_cell_tmp rfl]; go_simp; try rfl
    · exact BA.out
end Go.Proofs.YtfgcbdjkimkgpaaGreatDoor
namespace Go.Proofs.YtfgcbdjkimkgpaaGreatDoor
set_option maxRecDepth 100000
set_option linter.unusedVariables false
open Go.ChangeShapes Go.WideShapes Go.ChangeAt Go.RowKit

theorem own_blk {w : World} {B : Nat} {e t : TypeId} {s n k : Nat} {v : Value} {xs : List Value} {ys : Array Value} (h : w.ownsRow B e s v n xs) (hk : Blk k ys t w) (hne : t ≠ e) : v.ownBlock ≠ some k := by
  intro he
  rcases h.2 with ⟨rfl, _⟩ | ⟨g, cap, cur, rfl, _, hg, _⟩
  · cases he
  · have : g = k := Option.some.inj he
    subst this
    unfold Blk at hk
    rw [hk] at hg
    cases hg
    exact hne rfl
theorem blk_kept {w w' : World} {B : Nat} {e t : TypeId} {s n k : Nat} {v : Value} {xs : List Value} {ys : Array Value} (hk : Blk k ys t w) (h : w.ownsRow B e s v n xs) (hne : t ≠ e) (g : w.grownBy w' v.ownBlock) : Blk k ys t w' :=
  hk.at (g.block k hk.lt (fun e => own_blk h hk hne e.symm))
theorem own_kept {w w' : World} {b1 b2 : Nat} {e1 e2 : TypeId} {s1 s2 n1 n2 : Nat} {v1 v2 : Value} {x1 x2 : List Value} (h1 : w.ownsRow b1 e1 s1 v1 n1 x1) (h2 : w.ownsRow b2 e2 s2 v2 n2 x2) (hne : e1 ≠ e2) (g : w.grownBy w' v2.ownBlock) : w'.ownsRow b1 e1 s1 v1 n1 x1 :=
  World.ownsRow.kept h1 g (own_type h1 h2 hne)
theorem apart_kept {w w' : World} {B : Nat} {v u : Value} {z : List Str} (h : SO B u z w) (g : w.grownBy w' v.ownBlock) (ha : Apart u v) : SO B u z w' := by
  refine World.ownsRow.kept h g ?_
  cases hu : u.ownBlock with
  | none => exact .inl rfl
  | some k => exact .inr (fun e => ha k hu e.symm)

/-- the file in block k: macros z, what was added st; c: the rules' values -/
structure FIs (B k : Nat) (z : List Mc) (st : St) (vm vp vi vr : Value) (c : List (Value × Value)) (w : World) : Prop where
  blk : Blk k #[vm, vp, vi, vr] 36 w
  mac : MO B vm z w
  pho : SO B vp st.1 w
  inf : IO B vi st.2.1 w
  rul : ROb B vr st.2.2 w c
  apt : ∀ u ∈ rcells c, Apart u vp
  lo : B ≤ k
  bnd : z.length ≤ 200 ∧ st.1.length ≤ 40 ∧ st.2.1.length ≤ 200 ∧ st.2.2.length ≤ 100
  sml : ∀ y ∈ st.1, y.length ≤ 40
variable {B k : Nat} {z : List Mc} {st : St} {vm vp vi vr : Value} {c : List (Value × Value)} {w : World}
theorem FIs.base (h : FIs B k z st vm vp vi vr c w) : B ≤ w.heap.size := Nat.le_trans h.lo (Nat.le_of_lt h.blk.lt)
theorem FIs.later {w' : World} (h : FIs B k z st vm vp vi vr c w) (hb : Below w.heap.size w w') : FIs B k z st vm vp vi vr c w' :=
  ⟨h.blk.later hb, own_later h.mac hb, own_later h.pho hb, own_later h.inf hb, h.rul.later hb, h.apt, h.lo, h.bnd, h.sml⟩
theorem set_blk {w : World} {k i : Nat} {ys : Array Value} {B : Nat} {e : TypeId} {s n : Nat} {v : Value} {xs : List Value} (h : w.ownsRow B e s v n xs) (hk : Blk k ys 36 w) (hne : 36 ≠ e) (u : Value) : (w.setCell ⟨k, i, none⟩ u).ownsRow B e s v n xs :=
  ownsRow_setCell_other h (by exact own_blk h hk hne) _
theorem ROb.set {u : Value} {i : Nat} {ys : Array Value} (h : ROb B vr st.2.2 w c) (hk : Blk k ys 36 w) : ROb B vr st.2.2 (w.setCell ⟨k, i, none⟩ u) c := by
  obtain ⟨h1, h2, h3, h4⟩ := h
  exact ⟨h1, set_blk h2 hk (by decide) _, fun j p hj => ⟨set_blk (h3 j p hj).1 hk (by decide) _, set_blk (h3 j p hj).2 hk (by decide) _⟩, h4⟩
theorem ROb.at {w' : World} (h : ROb B vr st.2.2 w c) (h2 : w'.ownsRow B 82 2 vr st.2.2.length (rcells c)) (h3 : ∀ j p, c[j]? = some p → SO B p.1 (tg st.2.2 j) w' ∧ SO B p.2 (nd st.2.2 j) w') : ROb B vr st.2.2 w' c := ⟨h.1, h2, h3, h.2.2.2⟩
theorem rc_mem {c : List (Value × Value)} {j : Nat} {p : Value × Value} (h : c[j]? = some p) : p.1 ∈ rcells c ∧ p.2 ∈ rcells c :=
  ⟨rcells_mem.2 ⟨p, List.mem_of_getElem? h, .inl rfl⟩, rcells_mem.2 ⟨p, List.mem_of_getElem? h, .inr rfl⟩⟩
/-- the phony names have grown -/
theorem FIs.ph {w1 : World} {v : Value} {l : List Str} (h : FIs B k z st vm vp vi vr c w) (o : SO B v l w1) (g : w.grownBy w1 vp.ownBlock) (ow : Ow vp v w) (hl : l.length ≤ 40) (hx : ∀ y ∈ l, y.length ≤ 40) :
    FIs B k z (l, st.2) vm v vi vr c (w1.setCell ⟨k, 1, none⟩ v) := by
  have hk := blk_kept h.blk h.pho (by decide) g
  have hm := own_kept h.mac h.pho (by decide) g
  have hi := own_kept h.inf h.pho (by decide) g
  have hr : ROb B vr st.2.2 w1 c := h.rul.at (own_kept h.rul.2.1 h.pho (by decide) g) fun j p hj => by
    obtain ⟨a, b⟩ := h.rul.2.2.1 j p hj
    obtain ⟨m1, m2⟩ := rc_mem hj
    exact ⟨apart_kept a g (h.apt _ m1), apart_kept b g (h.apt _ m2)⟩
  refine ⟨hk.set 1 v, set_blk hm hk (by decide) _, set_blk o hk (by decide) _, set_blk hi hk (by decide) _, hr.set hk, fun u hu j hj e => ?_, h.lo, ⟨h.bnd.1, hl, h.bnd.2.2⟩, hx⟩
  rcases ow j e with q | q
  · exact h.apt u hu j hj q
  · obtain ⟨p, hp, hpa⟩ := rcells_mem.1 hu
    obtain ⟨i, hi, rfl⟩ := List.getElem_of_mem hp
    have hek := h.rul.2.2.1 i _ (List.getElem?_eq_getElem hi)
    have : j < w.heap.size := by
      rcases hpa with rfl | rfl
      · exact (hek.1.lt j hj).2
      · exact (hek.2.lt j hj).2
    omega
/-- the pairs have grown -/
theorem FIs.pairs {w1 : World} {v : Value} {l : List Mc} (h : FIs B k z st vm vp vi vr c w) (o : IO B v l w1) (g : w.grownBy w1 vi.ownBlock) (hl : l.length ≤ 200) :
    FIs B k z (st.1, l, st.2.2) vm vp v vr c (w1.setCell ⟨k, 2, none⟩ v) := by
  have hk := blk_kept h.blk h.inf (by decide) g
  have hm := own_kept h.mac h.inf (by decide) g
  have hp := own_kept h.pho h.inf (by decide) g
  have hr : ROb B vr st.2.2 w1 c := h.rul.at (own_kept h.rul.2.1 h.inf (by decide) g) fun j p hj => by
    obtain ⟨a, b⟩ := h.rul.2.2.1 j p hj
    exact ⟨own_kept a h.inf (by decide) g, own_kept b h.inf (by decide) g⟩
  exact ⟨hk.set 2 v, set_blk hm hk (by decide) _, set_blk hp hk (by decide) _, set_blk o hk (by decide) _, hr.set hk, h.apt, h.lo, ⟨h.bnd.1, h.bnd.2.1, hl, h.bnd.2.2.2⟩, h.sml⟩
/-- the rules have grown -/
theorem FIs.rules {w1 w2 : World} {v p1 p2 : Value} {t n : List Str} (h : FIs B k z st vm vp vi vr c w) (hb : Below w.heap.size w w1) (h1 : SO w.heap.size p1 t w1) (h2 : SO w.heap.size p2 n w1) (ap : Apart p1 p2)
    (g : w1.grownBy w2 vr.ownBlock) (o : w2.ownsRow B 82 2 v (st.2.2.length + 1) (rcells c ++ [p1, p2])) (hl : st.2.2.length + 1 ≤ 100) :
    FIs B k z (st.1, st.2.1, st.2.2 ++ [(t, n)]) vm vp vi v (c ++ [(p1, p2)]) (w2.setCell ⟨k, 3, none⟩ v) := by
  have h' := h.later hb
  have hk := blk_kept h'.blk h'.rul.2.1 (by decide) g
  have hm := own_kept h'.mac h'.rul.2.1 (by decide) g
  have hp := own_kept h'.pho h'.rul.2.1 (by decide) g
  have hi := own_kept h'.inf h'.rul.2.1 (by decide) g
  have hr : ROb B v (st.2.2 ++ [(t, n)]) w2 (c ++ [(p1, p2)]) := ro_snoc h.rul.1 h.rul.2.1 h.rul.2.2.1 h.rul.2.2.2 hb h1 h2 ap h.base g o
  refine ⟨hk.set 3 v, set_blk hm hk (by decide) _, set_blk hp hk (by decide) _, set_blk hi hk (by decide) _, ROb.set (st := (st.1, st.2.1, st.2.2 ++ [(t, n)])) hr hk, fun u hu => ?_, h.lo, ⟨h.bnd.1, h.bnd.2.1, h.bnd.2.2.1, by rw [List.length_append]; exact hl⟩, h.sml⟩
  rw [rcells_snoc] at hu
  rcases List.mem_append.1 hu with hu | hu
  · exact h.apt u hu
  · intro j hj e
    have h3 := (h.pho.lt j e).2
    simp at hu
    rcases hu with rfl | rfl
    · have := (h1.lt j hj).1; omega
    · have := (h2.lt j hj).1; omega
end Go.Proofs.YtfgcbdjkimkgpaaGreatDoor
namespace Go.Proofs.YtfgcbdjkimkgpaaGreatDoor
set_option maxRecDepth 100000
set_option linter.unusedVariables false
open Go.ChangeShapes Go.WideShapes Go.ChangeAt Go.RowKit

theorem SO.len {B : Nat} {v : Value} {l : List Str} {w : World} (h : SO B v l w) : ∃ a c, v = .slice a l.length c := by
  rcases h.2 with ⟨h, h0⟩ | ⟨g, cap, cur, h, _⟩
  · exact ⟨none, 0, by rw [h, h0]⟩
  · exact ⟨_, _, h⟩
theorem phN_step {l : List Str} (ph : List Str) {j : Nat} (h : j < l.length) : phN ph (l.take (j + 1)) = addU (phN ph (l.take j)) (l.getD j []) := by
  have e : l[j]? = some (l.getD j []) := by rw [List.getD, List.getElem?_eq_getElem h]; rfl
  unfold phN
  rw [List.take_add_one, e, List.foldl_append]; rfl
theorem addU_len (l : List Str) (x : Str) : (addU l x).length ≤ l.length + 1 := by
  unfold addU; split <;> simp
theorem addU_mem {l : List Str} {x y : Str} (h : y ∈ addU l x) : y ∈ l ∨ y = x := by
  unfold addU at h
  split at h
  · exact .inl h
  · simpa using h
theorem phN_len (ph : List Str) : ∀ n : List Str, (phN ph n).length ≤ ph.length + n.length := by
  intro n
  unfold phN
  induction n generalizing ph with
  | nil => simp
  | cons x r ih =>
    rw [List.foldl_cons]
    have h1 := ih (addU ph x)
    have h2 := addU_len ph x
    rw [List.length_cons]
    omega
theorem phN_mem {y : Str} : ∀ (n ph : List Str), y ∈ phN ph n → y ∈ ph ∨ y ∈ n := by
  intro n
  unfold phN
  induction n with
  | nil => intro ph h; exact .inl h
  | cons x r ih =>
    intro ph h
    rw [List.foldl_cons] at h
    rcases ih _ h with h | h
    · rcases addU_mem h with h | rfl
      · exact .inl h
      · exact .inr (by simp)
    · exact .inr (by simp [h])
/-- what a phony rule adds -/
def phL (st : St) (r : Rl) : Int × St := if 1 < r.1.length then (3, st) else if 20 < (phN st.1 r.2).length then (2, st) else (0, (phN st.1 r.2, st.2))
variable {B k : Nat} {z : List Mc} {st : St} {vm vp vi vr : Value} {c : List (Value × Value)} {w : World}
set_option maxHeartbeats 8000000 in
theorem phony_any {B2 : Nat} (t n : List Str) (vt vn : Value) (h : FIs B k z st vm vp vi vr c w) (hp : st.1.length ≤ 20) (ht : SIn w vt t) (hn : SO B2 vn n w) (ha : Apart vn vp) (hl : n.length ≤ 20) (hg : n.all good = true) :
    Calls Tryz.prog 87 #[.pointer (some ⟨k, 0, none⟩), .agg #[vt, vn]] w fun e w' => e = .returned (.int .i64 (phL st (t, n)).1) ∧ Below B w w' ∧ ((phL st (t, n)).1 = 0 → ∃ v, FIs B k z (phL st (t, n)).2 vm v vi vr c w') := by
  have b0 := blk_new w #[vt, vn] 82
  have ba : Below w.heap.size w (w.alloc (.cells #[vt, vn] 82)) := (Below.refl _ _).alloc (Nat.le_refl _) _
  have F0 := Lib.hid (h.later ba)
  have HB := Lib.hid h.base
  have BB : Hid (Below B w (w.alloc (.cells #[vt, vn] 82))) := ba.mono h.base
  have K0 : Hid (KR k k vp w (w.alloc (.cells #[vt, vn] 82))) := KR.below ba
  obtain ⟨d1, d2⟩ := show _ ∧ _ from ⟨b0.cell (i := 0) rfl, b0.cell (i := 1) rfl⟩
  have PL : phL st (t, n) = if 1 < t.length then (3, st) else if 20 < (phN st.1 n).length then (2, st) else (0, (phN st.1 n, st.2)) := rfl
  obtain ⟨at', ct, rfl⟩ := ht.shape
  obtain ⟨an, cn, rfl⟩ := hn.len
  have VP : Hid (∀ j, vp.ownBlock = some j → B ≤ j) := fun j hj => (h.pho.lt j hj).1
  have LO := Lib.hid h.lo
  have KB : Hid (∀ W, KR k k vp w W → Below B w W) := fun W hW => hW.to LO.out LO.out VP.out HB.out
  by_cases h1 : 1 < t.length
  · rw [if_pos h1] at PL
    have P1 := Lib.hid PL
    clear h F0 K0 ht hn b0 ba PL
    go_enter Tryz.func87, Tryz.ntmps87
    go_wp2
    go_ret
    exact ⟨by rw [P1.out]; rfl, BB.out, fun e => by rw [P1.out] at e; cases e⟩
  · rw [if_neg h1] at PL
    have P1 := Lib.hid PL
    have GD : Hid (∀ y ∈ n, y.length ≤ 40) := fun y hy => (good_len (List.all_eq_true.1 hg y hy)).2
    have PS : Hid (∀ j, j ≤ n.length → (phN st.1 (n.take j)).length ≤ 40 ∧ ∀ y ∈ phN st.1 (n.take j), y.length ≤ 40) := fun j hj => by
      refine ⟨?_, fun y hy => ?_⟩
      · have e1 := phN_len st.1 (n.take j)
        rw [List.length_take] at e1
        omega
      · rcases phN_mem _ _ hy with hy | hy
        · exact h.sml y hy
        · exact GD.out y (List.mem_of_mem_take hy)
    have ST : Hid (∀ j, j < n.length → phN st.1 (n.take (j + 1)) = addU (phN st.1 (n.take j)) (n.getD j [])) := fun j hj => phN_step _ hj
    have TL := Lib.hid (List.take_length (l := n))
    have HC : Hid (∀ j, j < n.length → ∃ g, an = some ⟨g, 0, none⟩ ∧ ∀ W, KR k k vp w W → W.cell? ⟨g, j, none⟩ = some (.string (bs (n.getD j [])))) := fun j hj => by
      rcases hn.2 with ⟨e, h0⟩ | ⟨g, cap, cur, e, _, hgb, _⟩
      · omega
      · obtain ⟨rfl, rfl⟩ : an = some ⟨g, 0, none⟩ ∧ cn = cap := by injection e with e1 e2 e3; exact ⟨e1, e3⟩
        refine ⟨g, rfl, fun W hW => ?_⟩
        have hgk : g ≠ k := fun e => own_blk hn h.blk (by decide) (by rw [e]; rfl)
        have hgv : vp.ownBlock ≠ some g := ha g rfl
        have hlt : g < w.heap.size := by
          rcases Nat.lt_or_ge g w.heap.size with h' | h'
          · exact h'
          · simp [Array.getElem?_eq_none h'] at hgb
        have hb := hW.block g hlt hgk hgk hgv
        have hc := hn.cells (g := g) rfl j (encStr (n.getD j [])) (by rw [List.getElem?_map, List.getD, List.getElem?_eq_getElem hj]; rfl)
        rw [add_off] at hc
        exact (World.cell?_of_block (a := ⟨g, j, none⟩) hb).trans hc
    clear ht hn ha b0 ba PL hg
    by_cases h0 : n.length = 0
    · have hn0 : n = [] := List.length_eq_zero_iff.1 h0
      have R1 : Hid (phL st (t, n) = (0, st)) := by
        show _ = _
        rw [P1.out, hn0, if_neg (show ¬ 20 < (phN st.1 []).length by show ¬ 20 < st.1.length; omega)]; rfl
      have e1 := F0.out.blk.cell (i := 1) rfl
      obtain ⟨av, cv, hv⟩ := h.pho.len
      rw [hv] at e1
      rw [h0] at e1 d1 d2 F0 BB
      rw [h0]
      have KK := Lib.hid BB.out
      clear h P1 ST PS HC K0 hn0 hv
      generalize st.1.length = lp at *
      go_enter Tryz.func87, Tryz.ntmps87
      go_wp2_with fail
      go_rounds 1
      go_ret
      exact ⟨by rw [R1.out]; rfl, KK.out, fun e => by rw [R1.out]; exact ⟨_, F0.out⟩⟩
    · obtain ⟨g, rfl, _⟩ := HC.out 0 (by omega)
      have HD : Hid (∀ j, j < n.length → ∀ W, KR k k vp w W → W.cell? ⟨g, j, none⟩ = some (.string (bs (n.getD j [])))) := fun j hj W hW => by
        obtain ⟨g', e, h2⟩ := HC.out j hj
        injection e with e; injection e with e1 _ _
        rw [e1]; exact h2 W hW
      clear HC h
      go_enter Tryz.func87, Tryz.ntmps87
      go_wp2_with fail
      go_loopw [14] (fun i wr => ∃ (j : Nat) (v : Value), j ≤ n.length ∧ i = .int .i64 (j : Int) ∧ FIs B k z (phN st.1 (n.take j), st.2) vm v vi vr c wr ∧ KR k k vp w wr ∧ Ow vp v w) (fun i _ => n.length - (intOf i).toNat)
      case atStart => exact ⟨0, vp, Nat.zero_le _, rfl, F0.out, K0.out, Ow.refl _ _⟩
      case round =>
        obtain ⟨j, v, hj, rfl, q1, q2, q3⟩ := hrel
        have Q1 := Lib.hid q1; have Q2 := Lib.hid q2; have Q3 := Lib.hid q3
        clear q1 q2 q3
        by_cases hj2 : j < n.length
        · have c1 := HD.out j hj2 wr Q2.out
          have S1 := Lib.hid (ST.out j hj2)
          obtain ⟨p1, p2⟩ := PS.out j (by omega)
          obtain ⟨p3, p4⟩ := PS.out (j + 1) (by omega)
          rw [S1.out] at p3 p4
          generalize n.getD j [] = x at *
          have AP := Lib.hid (appS_any x (phN st.1 (n.take j)) v wr Q1.out.pho Q1.out.base (by omega) (fun y hy => by have := p2 y hy; omega))
          have P3 := Lib.hid p3; have P4 := Lib.hid p4
          have e1 := Q1.out.blk.cell (i := 1) rfl
          clear p1 p2 p3 p4
          go_wp2_with fail
          refine AP.out.mono ?_
          rintro e w1 ⟨v1, rfl, o1, g1, ow1⟩
          obtain ⟨av1, nv1, cv1, rfl⟩ := own_shape o1
          have BK := blk_kept Q1.out.blk Q1.out.pho (by decide) g1
          have N1 := Lib.hid (Q1.out.ph o1 g1 ow1 P3.out P4.out)
          have K1 : Hid (KR k k vp w (w1.setCell ⟨k, 1, none⟩ (.slice av1 nv1 cv1))) := (Q2.out.trans Q3.out (KR.grown g1)).trans (Ow.trans Q3.out ow1 Q2.out.size) (KR.cell _ w1 1 _)
          have O1 : Hid (Ow vp (.slice av1 nv1 cv1) w) := Ow.trans Q3.out ow1 Q2.out.size
          have e2 := BK.cell (i := 1) rfl
          have f2 := BK.free 1
          clear o1 g1 ow1 BK AP
          go_wp2
          go_roundw
          case rel => exact ⟨j + 1, .slice av1 nv1 cv1, by omega, by go_num, by rw [S1.out]; exact N1.out, K1.out, O1.out⟩
          case measure => simp [intOf]; omega
        · obtain rfl : j = n.length := by omega
          have q := Q1.out
          rw [TL.out] at q
          have QQ := Lib.hid q
          have e1 := q.blk.cell (i := 1) rfl
          obtain ⟨av, cv, rfl⟩ := q.pho.len
          have PZ := Lib.hid (PS.out n.length (Nat.le_refl _)).1
          rw [TL.out] at PZ
          have KK := Lib.hid (KB.out _ Q2.out)
          clear q
          by_cases h2 : 20 < (phN st.1 n).length
          · have R1 : Hid (phL st (t, n) = (2, st)) := by show _ = _; rw [P1.out, if_pos h2]
            clear P1
            generalize (phN st.1 n).length = lp at *
            go_wp2
            go_ret
            exact ⟨by rw [R1.out]; rfl, KK.out, fun e => by rw [R1.out] at e; cases e⟩
          · have R1 : Hid (phL st (t, n) = (0, (phN st.1 n, st.2))) := by show _ = _; rw [P1.out, if_neg h2]
            clear P1
            generalize (phN st.1 n).length = lp at *
            go_wp2
            go_ret
            exact ⟨by rw [R1.out]; rfl, KK.out, fun e => by rw [R1.out]; exact ⟨_, QQ.out⟩⟩
end Go.Proofs.YtfgcbdjkimkgpaaGreatDoor
