/-
  The reference's In and Ordered over rows that tell which macros each one refers to. Condition: at most 40 macros.
  The reference's MacroFault. Condition: the macros' values have at most 2^32 bytes.
-/
import Derived.Test.YtfgcbdjkimkgpaaGreatDoorGc14NGood
import Derived.Test.YtfgcbdjkimkgpaaGreatDoorGc15MTk
import Derived.Test.YtfgcbdjkimkgpaaGreatDoorGc5MBy
namespace Go.Proofs.YtfgcbdjkimkgpaaGreatDoor
set_option maxRecDepth 100000
set_option linter.unusedVariables false
open Go.ChangeShapes Go.WideShapes Go.ChangeAt Go.RowKit

theorem in_walk (s : Bv) (n : Nat) : (((s.toNat : Int) / 2 ^ n).tmod 2 == 1) = s.getLsbD n := by
  have e : ((s.toNat : Int) / 2 ^ n) = ((s.toNat / 2 ^ n : Nat) : Int) := by simp
  have hb : s.getLsbD n = decide (s.toNat / 2 ^ n % 2 = 1) := by
    show s.toNat.testBit n = _
    rw [Nat.testBit_eq_decide_div_mod_eq]
  rw [e, hb, Int.tmod_eq_emod_of_nonneg (Int.natCast_nonneg _)]
  generalize s.toNat / 2 ^ n = x
  by_cases h : x % 2 = 1
  · rw [decide_eq_true h, beq_iff_eq]; omega
  · rw [decide_eq_false h]
    cases hc : ((x : Int) % 2 == 1)
    · rfl
    · rw [beq_iff_eq] at hc; omega
theorem in_nat (s : Bv) (n : Nat) (w : World) (hn : n < 64) (b : Bool) (hb : s.getLsbD n = b) :
    Calls Tryz.prog 133 #[.int .u64 s.toNat, .int .i64 n] w fun e w' => e = .returned (.bool b) ∧ w = w' := by
  have h1 : ((n : Int) < 64) := by omega
  have HB := Lib.hid hb; clear hb
  go_enter Tryz.func133, Tryz.ntmps133
  go_wp2
  go_ret
  refine ⟨?_, rfl⟩
  show Ending.returned (.bool (((s.toNat : Int) / 2 ^ n).tmod 2 == 1)) = _
  rw [in_walk, HB.out]

theorem one_walk (n : Nat) (h : n < 64) : IntKind.u64.wrap (2 ^ n) = ((one n).toNat : Int) := by
  rw [one_toNat n h, IntKind.wrap_u64]
  have hlt : 2 ^ n < 2 ^ 64 := Nat.pow_lt_pow_right (by omega) h
  have e : (2 : Int) ^ n = ((2 ^ n : Nat) : Int) := by simp
  rw [e]
  generalize 2 ^ n = x at *
  omega
theorem or_walk (s : Bv) (k : Nat) (h : k < 64) : bits .or .u64 (s.toNat : Int) (IntKind.u64.wrap (2 ^ k)) = ((s ||| one k).toNat : Int) := by
  rw [one_walk k h, bv_or]
theorem bv_zero (x : Bv) : ((x.toNat : Int) == 0) = decide (x = 0#64) := by
  rw [Bool.eq_iff_iff, beq_iff_eq, decide_eq_true_iff]
  constructor
  · intro h; apply BitVec.eq_of_toNat_eq; show x.toNat = 0; omega
  · intro h; rw [h]; rfl
/-- the row r tells the names U -/
def RowIs (z : List Mc) (U : List Str) (r : Bv) : Prop := ∀ j, r.getLsbD j = true ↔ j < z.length ∧ nm z j ∈ U
theorem row_zero (z : List Mc) : RowIs z [] 0#64 := by
  intro j
  constructor
  · intro h; simp at h
  · rintro ⟨_, h⟩; cases h
theorem nm_inj {z : List Mc} (hd : (names z).Nodup) {i j : Nat} (hi : i < z.length) (hj : j < z.length) (e : nm z i = nm z j) : i = j := by
  have h1 : (names z)[i]? = some (nm z i) := by unfold names; rw [List.getElem?_map, at_some hi]; rfl
  have h2 : (names z)[j]? = some (nm z j) := by unfold names; rw [List.getElem?_map, at_some hj]; rfl
  have li : i < (names z).length := by unfold names; rw [List.length_map]; exact hi
  have lj : j < (names z).length := by unfold names; rw [List.length_map]; exact hj
  exact (List.getElem?_inj li hd).1 (by rw [h1, h2, e])
theorem row_step {z : List Mc} (hd : (names z).Nodup) (hn : z.length ≤ 40) {U : List Str} {r : Bv} (h : RowIs z U r) {k : Nat} (hk : k < z.length) : RowIs z (U ++ [nm z k]) (r ||| one k) := by
  intro j
  rcases Nat.lt_or_ge j 64 with hj | hj
  · rw [BitVec.getLsbD_or, Bool.or_eq_true, h j, one_bit k j hj, decide_eq_true_iff]
    constructor
    · rintro (⟨a, b⟩ | rfl)
      · exact ⟨a, List.mem_append_left _ b⟩
      · exact ⟨hk, List.mem_append_right _ (List.mem_singleton.2 rfl)⟩
    · rintro ⟨a, b⟩
      rcases List.mem_append.1 b with b | b
      · exact .inl ⟨a, b⟩
      · exact .inr (nm_inj hd a hk (List.mem_singleton.1 b))
  · constructor
    · intro e; rw [bit_ge _ hj] at e; cases e
    · rintro ⟨a, _⟩; omega
theorem row_sub {z : List Mc} {U V : List Str} {r H : Bv} (h1 : RowIs z U r) (h2 : RowIs z V H) (hU : ∀ x ∈ U, x ∈ names z) : (r &&& ~~~H = 0#64) ↔ ∀ x ∈ U, x ∈ V := by
  constructor
  · intro e x hx
    obtain ⟨m, hm, rfl⟩ := List.mem_map.1 (hU x hx)
    obtain ⟨j, hj⟩ := List.mem_iff_getElem?.1 hm
    have hjl : j < z.length := by
      rcases Nat.lt_or_ge j z.length with h | h
      · exact h
      · rw [List.getElem?_eq_none h] at hj; cases hj
    rw [at_some hjl] at hj
    cases hj
    have hb := (h1 j).2 ⟨hjl, hx⟩
    have h64 : j < 64 := by
      rcases Nat.lt_or_ge j 64 with h | h
      · exact h
      · rw [bit_ge _ h] at hb; cases hb
    have he := congrArg (fun q : Bv => q.getLsbD j) e
    simp [hb, h64] at he
    exact ((h2 j).1 he).2
  · intro hs
    apply bv_ext
    intro j hj
    rw [BitVec.getLsbD_and, BitVec.getLsbD_not]
    cases hr : r.getLsbD j
    · simp
    · have hH : H.getLsbD j = true := (h2 j).2 ⟨((h1 j).1 hr).1, hs _ ((h1 j).1 hr).2⟩
      simp [hH]
theorem names_nm {z o : List Mc} {k : Nat} : names (o ++ [(nm z k, vl z k)]) = names o ++ [nm z k] := names_snoc o _

set_option maxHeartbeats 4000000 in
set_option maxRecDepth 100000 in
theorem ordered_any (z : List Mc) (R : Nat → Bv) (b off c : Nat) (w : World) (hn : z.length ≤ 40) (hp : 0 < z.length) (hd : (names z).Nodup) (hr : Refs z) (hR : ∀ i, i < z.length → RowIs z (usesR (vl z i)) (R i)) (hc : ∀ i, i < z.length → w.cell? ⟨b, off + i, none⟩ = some (.int .u64 (R i).toNat)) :
    Calls Tryz.prog 106 #[.slice (some ⟨b, off, none⟩) z.length c] w fun e w' => ∃ a o c', e = .returned (.slice a o.length c') ∧ OI z o ∧ (o.length < z.length → ∀ m ∈ z, Block o m) ∧ Below w.heap.size w w' := by
  have HC : Hid (∀ W, Below w.heap.size w W → ∀ i, i < z.length → W.cell? ⟨b, off + i, none⟩ = some (.int .u64 (R i).toNat)) := fun W hW i hi => cell_later hW (hc i hi)
  have HI : Hid (∀ k, k < z.length → (nm z k, vl z k) ∈ z) := fun k hk => mem_at hk
  have QT : Hid (∀ (o : List Mc) (H : Bv) (k : Nat), k < z.length → RowIs z (names o) H → H.getLsbD k = decide (nm z k ∈ names o) ∧ bits .andNot .u64 ((R k).toNat : Int) (H.toNat : Int) = ((R k &&& ~~~H).toNat : Int) ∧ (((R k &&& ~~~H).toNat : Int) == 0) = decide (∀ x ∈ usesR (vl z k), x ∈ names o)) := fun o H k hk hH => by
    refine ⟨?_, bv_andNot _ _, ?_⟩
    · rw [Bool.eq_iff_iff, hH k, decide_eq_true_iff]; exact ⟨fun h => h.2, fun h => ⟨hk, h⟩⟩
    · rw [bv_zero]
      have := row_sub (hR k hk) hH (fun x hx => hr _ (mem_at hk) x hx)
      by_cases h : ∀ x ∈ usesR (vl z k), x ∈ names o
      · rw [decide_eq_true h, decide_eq_true (this.2 h)]
      · rw [decide_eq_false h, decide_eq_false (fun e => h (this.1 e))]
  have ST : Hid (∀ (o : List Mc) (H : Bv) (k : Nat), k < z.length → RowIs z (names o) H → RowIs z (names (o ++ [(nm z k, vl z k)])) (H ||| one k) ∧ bits .or .u64 (H.toNat : Int) (IntKind.u64.wrap (2 ^ k)) = ((H ||| one k).toNat : Int)) := fun o H k hk hH => ⟨by rw [names_nm]; exact row_step hd hn hH hk, or_walk H k (by omega)⟩
  have HT : Hid (∀ k, k < z.length → z.take (k + 1) = z.take k ++ [(nm z k, vl z k)]) := fun k hk => take_at hk
  have ND := Lib.hid hd
  have H0 := Lib.hid (row_zero z)
  obtain ⟨i0, hi, hz0, hz1, hz2⟩ := info_parts (show (Tryz.prog.info? 3).map (fun i => (i.zero, i.size, i.bytes)) = some (some (.int .i64 0), 1, 8) by kernel_rfl)
  have IH := Lib.hid hi; clear hi
  clear hc hd hr hR
  generalize nm z = f at *
  generalize vl z = g at *
  go_enter Tryz.func106, Tryz.ntmps106
  go_wp2_with fail
  go_loopw [3, 4, 8] (fun u3 u4 u8 wr => ∃ (t : Nat) (o : List Mc) (H : Bv) (xs : List Value), t ≤ z.length ∧ u8 = .int .i64 (t : Int) ∧ u4 = .int .u64 (H.toNat : Int) ∧ wr.ownsRow w.heap.size 3 1 u3 o.length xs ∧ OI z o ∧ RowIs z (names o) H ∧ (o.length = t ∨ (o.length < t ∧ ∀ m ∈ z, Block o m)) ∧ Below w.heap.size w wr) (fun _ _ u8 _ => z.length - (intOf u8).toNat)
  case atStart => exact ⟨0, [], 0#64, [], Nat.zero_le _, rfl, rfl, World.ownsRow_nil _ _ _ _, OI.start z, H0.out, .inl rfl, Below.refl _ _⟩
  case round =>
    obtain ⟨t, o, H, xs, ht, rfl, rfl, q1, q2, q3, q4, q5⟩ := hrel
    have Q1 := Lib.hid q1; have Q2 := Lib.hid q2; have Q3 := Lib.hid q3; have Q4 := Lib.hid q4; have Q5 := Lib.hid q5; clear q1 q2 q3 q4 q5
    by_cases ht2 : t < z.length
    · go_wp2_with fail
      obtain ⟨V3, hV3⟩ : ∃ V3, V3 = u3 := ⟨_, rfl⟩
      rw [← hV3] at Q1 ⊢
      obtain ⟨W3, hW3⟩ : ∃ W3, W3 = wr := ⟨_, rfl⟩
      rw [← hW3] at Q1 Q5 ⊢
      clear hV3 hW3
      go_loopw [3, 4, 12] (fun v3 v4 i wq => ∃ k : Nat, k ≤ z.length ∧ i = .int .i64 (k : Int) ∧ v3 = V3 ∧ v4 = .int .u64 (H.toNat : Int) ∧ (∀ m ∈ z.take k, Block o m) ∧ wq = W3) (fun _ _ i _ => z.length - (intOf i).toNat)
      case atStart => exact ⟨0, Nat.zero_le _, rfl, rfl, rfl, fun m hm => absurd hm (by simp), rfl⟩
      case round =>
        obtain ⟨k, hk, rfl, rfl, rfl, hm, rfl⟩ := hrel
        have HM := Lib.hid hm; clear hm
        rename World => wr
        by_cases hk2 : k < z.length
        · have c1 := HC.out wr Q5.out k hk2
          obtain ⟨b1, b2, b3⟩ := QT.out o H k hk2 Q3.out
          generalize R k &&& ~~~H = X at b2 b3
          have IN := Lib.hid (in_nat H k wr (by omega) _ b1)
          have T1 := Lib.hid (HT.out k hk2)
          have I1 := Lib.hid (HI.out k hk2)
          clear b1
          by_cases hin : f k ∈ names o
          · rw [decide_eq_true hin] at IN
            have BK : Hid (Block o (f k, g k)) := .inl hin
            clear hin b2 b3
            go_wp2_with fail
            refine IN.out.mono ?_
            rintro e w' ⟨rfl, h⟩
            rw [← h]
            clear h w'
            go_wp2
            go_roundw
            case rel =>
              refine ⟨k + 1, by omega, by go_num, rfl, rfl, fun m hm => ?_, trivial⟩
              rw [T1.out] at hm
              rcases List.mem_append.1 hm with hm | hm
              · exact HM.out m hm
              · rw [List.mem_singleton.1 hm]; exact BK.out
            case measure => simp [intOf]; omega
          · rw [decide_eq_false hin] at IN
            by_cases hs : ∀ x ∈ usesR (g k), x ∈ names o
            · rw [decide_eq_true hs] at b3
              have CN : Hid ((names o).contains (f k) = false) := by
                show _ = _
                cases e : (names o).contains (f k)
                · rfl
                · exact absurd (List.contains_iff_mem.1 e) hin
              have N2 := Lib.hid (Q2.out.snoc (m := (f k, g k)) ND.out I1.out CN.out hs)
              obtain ⟨s1, s2⟩ := ST.out o H k hk2 Q3.out
              generalize H ||| one k = H2 at s1 s2
              have S1 := Lib.hid s1
              have L1 : Hid (o.length = t) := by
                rcases Q4.out with h | ⟨_, h⟩
                · exact h
                · rcases h _ I1.out with h | ⟨x, hx, hx2⟩
                  · exact absurd h hin
                  · exact absurd (hs x hx) hx2
              have OA : Hid (∀ o', (wr.alloc o').ownsRow w.heap.size 3 1 u3 o.length xs) := fun o' => World.ownsRow.alloc Q1.out o'
              have SA : Hid (∀ o', w.heap.size ≤ (wr.alloc o').heap.size) := fun o' => by have := Q5.out.size; simp; omega
              have LT : Hid (∀ j, u3.ownBlock = some j → w.heap.size ≤ j) := fun j hj => (Q1.out.lt j hj).1
              have WA : Hid (∀ o', Below w.heap.size w (wr.alloc o')) := fun o' => Q5.out.alloc Q5.out.size o'
              have ol := L1.out
              have olh := Lib.hid ol
              clear hin hs s1 ol
              have ol : o.length ≤ 40 := by have := olh.out; omega
              go_wp2_with fail
              refine IN.out.mono ?_
              rintro e w' ⟨rfl, h⟩
              rw [← h]
              clear h w'
              go_wp2_with (at_builtin; go_must (refine wpList_append_own _ rfl (.tmp 28) (.tmp 30) 146 rfl w.heap.size 3 i0 (.int .i64 0) 1 8 Tryz.underlying146 IH.out hz0 hz1 hz2 rfl (by decide) _ _ _ rfl (OA.out _) ⟨wr.heap.size, 0, none⟩ 1 1 [.int .i64 (k : Int)] rfl rfl (cell_one' _ _ _) (by intro u hu; simp at hu; rcases hu with rfl; rfl) (by unfold maxLen; omega) (by omega) (SA.out _) ?_; intro v4 w4 q1 q2 q3; have O4 := Lib.hid q1; have G4 := Lib.hid q2; clear q1 q2 q3))
              go_roundw
              case rel => exact ⟨t + 1, o ++ [(f k, g k)], H2, _, by omega, by go_num, rfl, by rw [List.length_append]; exact O4.out, N2.out, S1.out, .inl (by rw [List.length_append, olh.out]; rfl), (WA.out _).grown G4.out (SA.out _) LT.out⟩
              case measure => simp [intOf]; omega
            · rw [decide_eq_false hs] at b3
              have BK : Hid (Block o (f k, g k)) := by
                simp only [Classical.not_forall] at hs
                obtain ⟨x, hx, h⟩ := hs
                exact .inr ⟨x, hx, h⟩
              clear hin hs
              go_wp2_with fail
              refine IN.out.mono ?_
              rintro e w' ⟨rfl, h⟩
              rw [← h]
              clear h w'
              go_wp2
              go_roundw
              case rel =>
                refine ⟨k + 1, by omega, by go_num, rfl, rfl, fun m hm => ?_, trivial⟩
                rw [T1.out] at hm
                rcases List.mem_append.1 hm with hm | hm
                · exact HM.out m hm
                · rw [List.mem_singleton.1 hm]; exact BK.out
              case measure => simp [intOf]; omega
        · obtain rfl : k = z.length := by omega
          have AL : Hid (∀ m ∈ z, Block o m) := by have := HM.out; rw [List.take_length] at this; exact this
          go_wp2
          go_roundw
          case rel => exact ⟨t + 1, o, H, xs, by omega, by go_num, rfl, Q1.out, Q2.out, Q3.out, .inr ⟨by rcases Q4.out with h | ⟨h, _⟩ <;> omega, AL.out⟩, Q5.out⟩
          case measure => simp [intOf]; omega
    · obtain rfl : t = z.length := by omega
      obtain ⟨a, c', rfl⟩ : ∃ a c', u3 = .slice a o.length c' := by
        rcases Q1.out.2 with ⟨h, h0⟩ | ⟨g', cap, cur, h, _⟩
        · exact ⟨_, _, by rw [h, h0]⟩
        · exact ⟨_, _, h⟩
      go_wp2
      go_ret
      exact ⟨a, o, c', rfl, Q2.out, fun hl => by
        rcases Q4.out with h | ⟨_, h⟩
        · omega
        · exact h, Q5.out⟩
end Go.Proofs.YtfgcbdjkimkgpaaGreatDoor
namespace Go.Proofs.YtfgcbdjkimkgpaaGreatDoor
set_option maxRecDepth 100000
set_option linter.unusedVariables false
open Go.ChangeShapes Go.WideShapes Go.ChangeAt Go.RowKit

def placeF : List Str → Str → Option Nat
  | [], _ => none
  | y :: r, x => if y = x then some 0 else (placeF r x).map (· + 1)
def placeIx (z : List Str) (x : Str) : Int := match placeF z x with
  | some i => (i : Int)
  | none => -1
theorem placeF_none : ∀ {z : List Str} {x : Str}, x ∉ z → placeF z x = none
  | [], _, _ => rfl
  | y :: r, x, h => by
    rw [placeF, if_neg (fun e => h (by rw [e]; exact List.mem_cons_self)), placeF_none (fun e => h (List.mem_cons_of_mem _ e))]; rfl
theorem placeF_some : ∀ {z : List Str} {x : Str}, x ∈ z → ∃ i : Nat, placeF z x = some i ∧ i < z.length ∧ z.getD i [] = x
  | [], _, h => by cases h
  | y :: r, x, h => by
    by_cases e : y = x
    · exact ⟨0, by rw [placeF, if_pos e], by simp, by simpa using e⟩
    · have h' : x ∈ r := by
        rcases List.mem_cons.1 h with h | h
        · exact absurd h.symm e
        · exact h
      obtain ⟨i, h1, h2, h3⟩ := placeF_some h'
      exact ⟨i + 1, by rw [placeF, if_neg e, h1]; rfl, by simpa using h2, by simpa using h3⟩
theorem placeF_at : ∀ {z : List Str} {x : Str} {k : Nat}, k < z.length → z.getD k [] = x → (∀ j, j < k → z.getD j [] ≠ x) → placeF z x = some k
  | [], _, k, h, _, _ => by simp at h
  | y :: r, x, 0, _, h, _ => by rw [placeF, if_pos (by simpa using h)]
  | y :: r, x, k + 1, hk, h, ha => by
    rw [placeF, if_neg (by simpa using ha 0 (by omega)), placeF_at (k := k) (by simpa using hk) (by simpa using h) (fun j hj => by simpa using ha (j + 1) (by omega))]; rfl
theorem placeIx_none {z : List Str} {x : Str} (h : x ∉ z) : placeIx z x = -1 := by unfold placeIx; rw [placeF_none h]
theorem placeIx_some {z : List Str} {x : Str} (h : x ∈ z) : ∃ i : Nat, placeIx z x = i ∧ i < z.length ∧ z.getD i [] = x := by
  obtain ⟨i, h1, h2⟩ := placeF_some h
  exact ⟨i, by unfold placeIx; rw [h1], h2⟩
theorem placeIx_at {z : List Str} {x : Str} {k : Nat} (h1 : k < z.length) (h2 : z.getD k [] = x) (h3 : ∀ j, j < k → z.getD j [] ≠ x) : placeIx z x = k := by unfold placeIx; rw [placeF_at h1 h2 h3]
set_option maxHeartbeats 1000000 in
theorem place_ix {w : World} {v : Value} {z : List Str} (h : SIn w v z) (x : Str) :
    Calls Tryz.prog 46 #[v, .string (bs x)] w fun e w' => e = .returned (.int .i64 (placeIx z x)) ∧ w' = w := by
  have hn := h.bound
  rcases h.open with ⟨hz, a, cap, rfl⟩ | ⟨hpos, b, off, cap, rfl, hcap, hlt, hc⟩
  · clear h hn
    subst hz
    go_enter Tryz.func46, Tryz.ntmps46
    go_wp2_with fail
    go_rounds 1
    go_ret
    exact ⟨ret_i (by rw [placeIx_none List.not_mem_nil]), rfl⟩
  · clear h
    have HC := Lib.hid hc; clear hc
    generalize hL : z.length = L at *
    have HL := Lib.hid hL; clear hL
    go_enter Tryz.func46, Tryz.ntmps46
    go_wp2_with fail
    go_loopw [9] (fun i wr => ∃ k : Nat, k ≤ L ∧ i = .int .i64 (k : Int) ∧ (∀ j, j < k → z.getD j [] ≠ x) ∧ wr = w) (fun i _ => L - (intOf i).toNat)
    case atStart => exact ⟨0, by omega, rfl, fun _ h => absurd h (Nat.not_lt_zero _), rfl⟩
    case round =>
      obtain ⟨k, hk, rfl, hall, rfl⟩ := hrel
      have HA := Lib.hid hall; clear hall
      by_cases hk2 : k < L
      · have c1 := HC.out k hk2
        by_cases hx : z.getD k [] = x
        · have HX := Lib.hid hx
          rw [hx] at c1
          clear hx
          go_wp2
          go_ret
          exact ⟨ret_i (by rw [placeIx_at (by rw [HL.out]; exact hk2) HX.out HA.out]), rfl⟩
        · have HX := Lib.hid hx
          have t : ((bs (z.getD k [])).toList == (bs x).toList) = false := by rw [bs_toList, bs_toList]; simpa using hx
          clear hx
          generalize bs (z.getD k []) = y at c1 t
          go_wp2
          go_roundw
          case rel =>
            refine ⟨k + 1, by omega, by go_num, fun j hj => ?_, trivial⟩
            rcases Nat.lt_succ_iff_lt_or_eq.1 hj with h | h
            · exact HA.out j h
            · rw [h]; exact HX.out
          case measure => simp [intOf]; omega
      · obtain rfl : k = L := by omega
        go_wp2
        go_ret
        have hx : x ∉ z := fun hx => by
          obtain ⟨i, hi, e⟩ := mem_getD hx
          exact HA.out i (by rw [← HL.out]; exact hi) e
        exact ⟨ret_i (by rw [placeIx_none hx]), rfl⟩

/-- the first part of a slice of strings -/
theorem SIn.part {w : World} {a : Option Addr} {n cap : Nat} {U : List Str} (h : SIn w (.slice a n cap) U) {k : Nat} (hk : k ≤ U.length) : SIn w (.slice a k cap) (U.take k) := by
  obtain ⟨a', cap', e, h2, h3, h4, h5⟩ := h
  cases e
  have hl : (U.take k).length = k := by rw [List.length_take]; omega
  refine ⟨a, cap, by rw [hl], by rw [hl]; omega, by rw [hl]; omega, fun x hx => h4 x (List.mem_of_mem_take hx), ?_⟩
  by_cases h0 : U.take k = []
  · exact .inl h0
  · rcases h5 with rfl | ⟨b, off, e1, e2, e3⟩
    · exact absurd (by simp) h0
    · refine .inr ⟨b, off, e1, e2, fun j hj => ?_⟩
      rw [hl] at hj
      rw [e3 j (by omega), List.getD, List.getD, List.getElem?_take_of_lt hj]
/-- a row of words of the call's own -/
def encU (x : Bv) : Value := .int .u64 (x.toNat : Int)
def RQ (B g : Nat) (L : List Bv) (w : World) : Prop := w.ownsRow B 145 1 (.slice (some ⟨g, 0, none⟩) L.length L.length) L.length (L.map encU)
theorem RQ.later {B g : Nat} {L : List Bv} {w w' : World} (h : RQ B g L w) (hb : Below w.heap.size w w') : RQ B g L w' := by
  refine World.ownsRow.kept (row := none) h ⟨hb.os, hb.tape, hb.output, hb.size, fun k hk _ => hb.block k hk⟩ ?_
  exact .inr (by simp [Value.ownBlock])
theorem RQ.cell {B g : Nat} {L : List Bv} {w : World} (h : RQ B g L w) {k : Nat} (hk : k < L.length) : w.cell? ⟨g, k, none⟩ = some (.int .u64 ((L.getD k 0#64).toNat : Int)) ∧ w.frozen? ⟨g, k, none⟩ = false := by
  have hc := World.ownsRow.cells h (g := g) rfl k (encU (L.getD k 0#64)) (by rw [List.getElem?_map, List.getD, List.getElem?_eq_getElem hk]; rfl)
  rw [add_off] at hc
  exact ⟨hc, World.ownsRow.frozenAt h k⟩
theorem RQ.put {B g : Nat} {L : List Bv} {w : World} (h : RQ B g L w) {k : Nat} (hk : k < L.length) (x : Bv) : RQ B g (L.set k x) (w.setCell ⟨g, k, none⟩ (.int .u64 (x.toNat : Int))) := by
  have := (World.ownsRow.stored h k (encU x)).1
  unfold RQ
  rw [List.length_set, List.map_set]
  exact this
theorem RQ.alloc {B g : Nat} {L : List Bv} {w : World} (h : RQ B g L w) (o : Obj) : RQ B g L (w.alloc o) := World.ownsRow.alloc h o
theorem RQ.drew {B g : Nat} {L : List Bv} {w : World} (h : RQ B g L w) : RQ B g L w.drew := h
theorem zeros_u (n : Nat) : (madeCells (Value.int .u64 0).cells (n * 1)).toList = (List.replicate n (0#64 : Bv)).map encU := by
  have h : (Value.int .u64 0).cells = #[.int .u64 0] := rfl
  rw [h, Nat.mul_one, toList_madeCells_one, List.map_replicate]; rfl
/-- which fault macros have -/
def FtRes (z : List Mc) (E : Int) : Prop :=
  (40 < z.length ∧ E = 2) ∨ (z.length ≤ 40 ∧ ((formR [] z ≠ 0 ∧ E = formR [] z) ∨ (formR [] z = 0 ∧ (((∃ m ∈ z, ∃ x ∈ usesR m.2, x ∉ names z) ∧ E = 5) ∨ (Refs z ∧ ((Stuck z ∧ E = 8) ∨ ((∃ o, Ord o ∧ ∀ m, m ∈ o ↔ m ∈ z) ∧ E = 0)))))))
theorem ord_free {z o : List Mc} (ho : Ord o) (hm : ∀ m, m ∈ o ↔ m ∈ z) : ¬ Stuck z := by
  rintro ⟨P, ⟨m0, hm0, hp0⟩, hP⟩
  have key : ∀ (n i : Nat) (m : Mc), i < n → o[i]? = some m → m.1 ∈ P := by
    intro n
    induction n with
    | zero => intro i m hi; omega
    | succ n ih =>
      intro i m hi e
      cases Classical.em (m.1 ∈ P) with
      | inl h => exact h
      | inr h =>
        obtain ⟨x, hx, hxp⟩ := hP m ((hm m).1 (List.mem_of_getElem? e)) h
        have hxn := ho i m e x hx
        obtain ⟨y, hy, rfl⟩ := List.mem_map.1 hxn
        obtain ⟨j, hj⟩ := List.mem_iff_getElem?.1 hy
        have hji : j < i := by
          rcases Nat.lt_or_ge j i with h | h
          · exact h
          · rw [List.getElem?_eq_none (by rw [List.length_take]; omega)] at hj; cases hj
        rw [List.getElem?_take_of_lt hji] at hj
        exact absurd (ih j y (by omega) hj) hxp
  obtain ⟨i, hi⟩ := List.mem_iff_getElem?.1 ((hm m0).2 hm0)
  exact hp0 (key (i + 1) i m0 (by omega) hi)
theorem FtRes.one {z : List Mc} {E F : Int} (h1 : FtRes z E) (h2 : FtRes z F) : E = F := by
  rcases h1 with ⟨a, rfl⟩ | ⟨a, h1⟩ <;> rcases h2 with ⟨b, rfl⟩ | ⟨b, h2⟩
  · rfl
  · omega
  · omega
  · rcases h1 with ⟨c, rfl⟩ | ⟨c, h1⟩ <;> rcases h2 with ⟨d, rfl⟩ | ⟨d, h2⟩
    · rfl
    · exact absurd d c
    · exact absurd c d
    · rcases h1 with ⟨⟨m, hm, x, hx, hn⟩, rfl⟩ | ⟨e, h1⟩ <;> rcases h2 with ⟨⟨m', hm', x', hx', hn'⟩, rfl⟩ | ⟨f, h2⟩
      · rfl
      · exact absurd (f m hm x hx) hn
      · exact absurd (e m' hm' x' hx') hn'
      · rcases h1 with ⟨g, rfl⟩ | ⟨⟨o, ho, hm⟩, rfl⟩ <;> rcases h2 with ⟨k, rfl⟩ | ⟨⟨o', ho', hm'⟩, rfl⟩
        · rfl
        · exact absurd g (ord_free ho' hm')
        · exact absurd k (ord_free ho hm)
        · rfl
theorem ordered_none (a : Option Addr) (c : Nat) (w : World) : Calls Tryz.prog 106 #[.slice a 0 c] w fun e w' => e = .returned (.slice none 0 0) ∧ w' = w := by
  go_enter Tryz.func106, Tryz.ntmps106
  go_wp2_with fail
  go_rounds 1
  go_ret
  exact ⟨rfl, rfl⟩
end Go.Proofs.YtfgcbdjkimkgpaaGreatDoor
