/-
  What package rule's needsOf answers. Condition: at most 100 rules with at most 20 needs each.
  What package rule's Join answers. No condition beyond the form's own.
  Package file's appendNew at strings and at pairs of suffixes; inference. Condition: the rows are short.
-/
import Derived.Test.YtebjofffijnihaaGreatDoorGc10NFind
import Derived.Test.YtebjofffijnihaaGreatDoorGc13FDe
import Derived.Test.YtebjofffijnihaaGreatDoorGc8LRa
import Derived.Laws.StructEq
import Derived.Maps.AppendAt
namespace Go.Proofs.YtebjofffijnihaaGreatDoor
set_option maxRecDepth 100000
set_option linter.unusedVariables false
open Go.ChangeShapes Go.WideShapes Go.ChangeAt Go.RowKit

def addN (acc : List Str) (x : Str) : List Str := if x ∈ acc then acc else acc ++ [x]
def addAll (acc l : List Str) : List Str := l.foldl addN acc
def needStep (t : Str) (acc : List Str) (r : Rl) : List Str := if t ∈ r.1 then addAll acc r.2 else acc
/-- the needs of the rules that have the target, each at its first occurrence -/
def needsR (l : List Rl) (t : Str) : List Str := l.foldl (needStep t) []
theorem addN_mem {acc : List Str} {x y : Str} : y ∈ addN acc x ↔ y ∈ acc ∨ y = x := by
  unfold addN
  by_cases h : x ∈ acc
  · rw [if_pos h]
    exact ⟨.inl, fun k => k.elim id (fun e => e ▸ h)⟩
  · rw [if_neg h]; simp
theorem addN_len (acc : List Str) (x : Str) : (addN acc x).length ≤ acc.length + 1 := by
  unfold addN
  by_cases h : x ∈ acc
  · rw [if_pos h]; omega
  · rw [if_neg h]; simp
theorem addAll_take {acc l : List Str} {m : Nat} (h : m < l.length) : addAll acc (l.take (m + 1)) = addN (addAll acc (l.take m)) (l.getD m []) := by
  unfold addAll
  rw [List.take_add_one, List.getElem?_eq_getElem h, List.getD, List.getElem?_eq_getElem h, List.foldl_append]
  rfl
theorem addAll_mem : ∀ {l acc : List Str} {y : Str}, y ∈ addAll acc l ↔ y ∈ acc ∨ y ∈ l
  | [], acc, y => by simp [addAll]
  | x :: r, acc, y => by
    show y ∈ addAll (addN acc x) r ↔ _
    rw [addAll_mem, addN_mem, List.mem_cons]
    constructor
    · rintro ((h | h) | h)
      · exact .inl h
      · exact .inr (.inl h)
      · exact .inr (.inr h)
    · rintro (h | h | h)
      · exact .inl (.inl h)
      · exact .inl (.inr h)
      · exact .inr h
theorem addAll_len : ∀ (l acc : List Str), (addAll acc l).length ≤ acc.length + l.length
  | [], acc => by simp [addAll]
  | x :: r, acc => by
    have h1 := addAll_len r (addN acc x)
    have h2 := addN_len acc x
    show (addAll (addN acc x) r).length ≤ _
    rw [List.length_cons]
    omega
theorem needs_take {z : List Rl} {t : Str} {k : Nat} (h : k < z.length) : needsR (z.take (k + 1)) t = needStep t (needsR (z.take k) t) (tg z k, nd z k) := by
  unfold needsR
  rw [rl_take h, List.foldl_append]
  rfl
theorem needs_mem : ∀ {l : List Rl} {acc : List Str} {t y : Str}, y ∈ l.foldl (needStep t) acc ↔ y ∈ acc ∨ ∃ r ∈ l, t ∈ r.1 ∧ y ∈ r.2
  | [], acc, t, y => by simp
  | r :: l, acc, t, y => by
    rw [List.foldl_cons, needs_mem]
    unfold needStep
    by_cases h : t ∈ r.1
    · rw [if_pos h, addAll_mem]
      simp [h, or_assoc]
    · rw [if_neg h]
      simp [h]
theorem needs_spec (l : List Rl) (t y : Str) : y ∈ needsR l t ↔ ∃ r ∈ l, t ∈ r.1 ∧ y ∈ r.2 := by
  unfold needsR
  rw [needs_mem]
  simp

set_option maxHeartbeats 4000000 in
set_option maxRecDepth 100000 in
theorem needs_any {w : World} {v : Value} {z : List Rl} (h : RIn w v z) (x : Str) (hn : z.length ≤ 100) (hd : ∀ k, k < z.length → (nd z k).length ≤ 20) (hs : ∀ k, k < z.length → ∀ y ∈ nd z k, y.length ≤ 4294967296) :
    Calls Tryz.prog 50 #[v, .string (bs x)] w fun e w' => ∃ u, e = .returned u ∧ SO w.heap.size u (needsR z x) w' ∧ (∀ y ∈ needsR z x, y.length ≤ 9223372036854775807) ∧ (needsR z x).length ≤ 2000 ∧ Below w.heap.size w w' ∧ Tl u w' := by
  obtain ⟨i0, hi, hz0, hz1, hz2⟩ := info_parts infoStr
  have HI := Lib.hid hi; clear hi
  rcases h.open with ⟨rfl, a, cap, rfl⟩ | ⟨hp, b, off, cap, rfl, hcap, hlt, T, U, hc⟩
  · clear h hn hd hs
    go_enter Tryz.func50, Tryz.ntmps50
    go_wp2_with fail
    go_rounds 1
    go_ret
    exact ⟨_, rfl, World.ownsRow_nil _ _ _ _, fun y hy => absurd hy List.not_mem_nil, Nat.zero_le _, Below.refl _ _, Tl.nil _ _ _⟩
  · have HC : Hid (∀ W, Below w.heap.size w W → ∀ k, k < z.length → W.cell? ⟨b, off + k * 2, none⟩ = some (T k) ∧ W.cell? ⟨b, off + k * 2 + 1, none⟩ = some (U k) ∧ SIn W (T k) (tg z k) ∧ SIn W (U k) (nd z k)) := fun W hW k hk => ⟨cell_later hW (hc k hk).1, cell_later hW (hc k hk).2.1, (hc k hk).2.2.1.later hW, (hc k hk).2.2.2.later hW⟩
    have HD := Lib.hid hd
    have HS := Lib.hid hs
    have N0 : Hid (needsR (z.take 0) x = []) := rfl
    have NE : Hid (needsR (z.take z.length) x = needsR z x) := Lib.hid (by rw [List.take_length])
    have NS : Hid (∀ k, k < z.length → needsR (z.take (k + 1)) x = needStep x (needsR (z.take k) x) (tg z k, nd z k)) := fun k hk => needs_take hk
    clear hc hd h hs
    generalize hL : z.length = L at *
    clear hL
    go_enter Tryz.func50, Tryz.ntmps50
    go_wp2_with fail
    go_loopw [5, 12] (fun o i wr => ∃ (k : Nat) (acc : List Str), k ≤ L ∧ i = .int .i64 (k : Int) ∧ acc = needsR (z.take k) x ∧ SO w.heap.size o acc wr ∧ (∀ y ∈ acc, y.length ≤ 9223372036854775807) ∧ acc.length ≤ 20 * k ∧ Below w.heap.size w wr ∧ Tl o wr) (fun _ i _ => L - (intOf i).toNat)
    case atStart => exact ⟨0, [], Nat.zero_le _, rfl, N0.out.symm, World.ownsRow_nil _ _ _ _, fun y hy => absurd hy List.not_mem_nil, Nat.zero_le _, Below.refl _ _, Tl.nil _ _ _⟩
    case round =>
      obtain ⟨k, acc, hk, rfl, ha, qo, qs, ql, qb, qt⟩ := hrel
      have QT := Lib.hid qt; clear qt
      have QO := Lib.hid qo; have QS := Lib.hid qs; have QB := Lib.hid qb; have HA := Lib.hid ha; clear qo qs qb ha
      by_cases hkl : k < L
      · obtain ⟨c0, c1, s0, s1⟩ := HC.out wr QB.out k hkl
        have NK := Lib.hid (NS.out k hkl)
        have SW := Lib.hid (HC.out w (Below.refl _ _) k hkl).2.2.2
        have DK := HD.out k hkl
        have HK := Lib.hid (HS.out k hkl)
        generalize T k = tv at *
        generalize U k = uv at *
        generalize tg z k = tk at *
        generalize nd z k = nk at *
        obtain ⟨at', ct, rfl⟩ := s0.shape
        have BA : Hid (∀ o, Below wr.heap.size wr (wr.alloc o)) := fun o => (Below.refl _ _).alloc (Nat.le_refl _) _
        have S0 : Hid (∀ o, SIn (wr.alloc o) (.slice at' tk.length ct) tk) := fun o => s0.later (BA.out o)
        have OA : Hid (∀ o, (wr.alloc o).ownsRow w.heap.size 9 1 u5 acc.length (acc.map encStr)) := fun o => QO.out.alloc o
        have WA : Hid (∀ o, Below w.heap.size w (wr.alloc o)) := fun o => QB.out.alloc QB.out.size o
        have TA : Hid (∀ o, Tl u5 (wr.alloc o)) := fun o => QT.out.alloc o
        by_cases hx : x ∈ tk
        · have hxd : decide (x ∈ tk) = true := decide_eq_true hx
          have ST : Hid (needStep x acc (tk, nk) = addAll acc nk) := Lib.hid (by unfold needStep; rw [if_pos hx])
          clear hx
          rcases s1.open with ⟨hnil, a2, c2, rfl⟩ | ⟨hp2, b2, off2, c2, rfl, hcap2, hlt2, hc2⟩
          · subst hnil
            clear s0 s1
            go_wp2_with fail
            refine (contains_of (S0.out _) x).mono ?_
            rintro e w' ⟨rfl, rfl⟩
            rw [hxd]
            go_wp2_with fail
            go_rounds 1
            go_roundw
            case rel =>
              refine ⟨k + 1, acc, by omega, by go_num, ?_, OA.out _, QS.out, by omega, WA.out _, TA.out _⟩
              rw [NK.out, ← HA.out, ST.out]; rfl
            case measure => simp [intOf]; omega
          · have SM := Lib.hid s1.small
            have HC2 : Hid (∀ W, Below w.heap.size w W → ∀ m, m < nk.length → W.cell? ⟨b2, off2 + m, none⟩ = some (.string (bs (nk.getD m [])))) := fun W hW m hm => by
              rcases (SW.out.later hW).open with ⟨e0, _⟩ | ⟨_, b3, off3, c3, e3, _, _, h3⟩
              · rw [e0] at hm; exact absurd hm (Nat.not_lt_zero _)
              · cases e3; exact h3 m hm
            have AT : Hid (∀ m, m < nk.length → addAll acc (nk.take (m + 1)) = addN (addAll acc (nk.take m)) (nk.getD m [])) := fun m hm => addAll_take hm
            have AE : Hid (addAll acc (nk.take nk.length) = addAll acc nk) := Lib.hid (by rw [List.take_length])
            have MM : Hid (∀ m, m < nk.length → (nk.getD m []).length ≤ 9223372036854775807) := fun m hm => SM.out _ (getD_mem hm)
            have MS : Hid (∀ m, m < nk.length → (bs (nk.getD m [])).size ≤ 4294967296) := fun m hm => by rw [bs_size]; exact HK.out _ (getD_mem hm)
            clear s0 s1 hc2
            generalize hln : nk.length = ln at *
            clear hln
            go_wp2_with fail
            refine (contains_of (S0.out _) x).mono ?_
            rintro e w' ⟨rfl, rfl⟩
            rw [hxd]
            go_wp2_with fail
            go_loopw [5, 24] (fun o i wi => ∃ (m : Nat) (ac : List Str), m ≤ ln ∧ i = .int .i64 (m : Int) ∧ ac = addAll acc (nk.take m) ∧ SO w.heap.size o ac wi ∧ (∀ y ∈ ac, y.length ≤ 9223372036854775807) ∧ ac.length ≤ 20 * k + m ∧ Below w.heap.size w wi ∧ Tl o wi) (fun _ i _ => ln - (intOf i).toNat)
            case atStart => exact ⟨0, acc, Nat.zero_le _, rfl, rfl, OA.out _, QS.out, ql, WA.out _, TA.out _⟩
            case round =>
              obtain ⟨m, ac, hm, rfl, ha2, qo2, qs2, ql2, qb2, qt2⟩ := hrel
              have QT2 := Lib.hid qt2; clear qt2
              have QO2 := Lib.hid qo2; have QS2 := Lib.hid qs2; have QB2 := Lib.hid qb2; have HA2 := Lib.hid ha2; clear qo2 qs2 qb2 ha2
              rename World => wi
              by_cases hml : m < ln
              · have d0 := HC2.out wi QB2.out m hml
                have AM := Lib.hid (AT.out m hml)
                have YM := Lib.hid (MM.out m hml)
                have YS := Lib.hid (MS.out m hml)
                generalize nk.getD m [] = y at *
                have I2 : Hid (SIn wi u5 ac) := SIn.own QO2.out (by omega) QS2.out
                by_cases hy : y ∈ ac
                · have hyd : decide (y ∈ ac) = true := decide_eq_true hy
                  have SY : Hid (addN ac y = ac) := Lib.hid (by unfold addN; rw [if_pos hy])
                  clear hy
                  go_wp2_with fail
                  refine (contains_of I2.out y).mono ?_
                  rintro e w' ⟨rfl, rfl⟩
                  rw [hyd]
                  go_wp2
                  go_roundw
                  case rel =>
                    refine ⟨m + 1, ac, by omega, by go_num, ?_, QO2.out, QS2.out, by omega, QB2.out, QT2.out⟩
                    rw [AM.out, ← HA2.out, SY.out]
                  case measure => simp [intOf]; omega
                · have hyd : decide (y ∈ ac) = false := decide_eq_false hy
                  have SY : Hid (addN ac y = ac ++ [y]) := Lib.hid (by unfold addN; rw [if_neg hy])
                  clear hy
                  have OA2 : Hid (∀ o, (wi.alloc o).ownsRow w.heap.size 9 1 u5 ac.length (ac.map encStr)) := fun o => QO2.out.alloc o
                  have SA2 : Hid (∀ o, w.heap.size ≤ (wi.alloc o).heap.size) := fun o => by have := QB2.out.size; simp; omega
                  have LT2 : Hid (∀ k, u5.ownBlock = some k → w.heap.size ≤ k) := fun k hk => (QO2.out.lt k hk).1
                  have TA2 : Hid (∀ o, Tl u5 (wi.alloc o)) := fun o => QT2.out.alloc o
                  have WA2 : Hid (∀ o, Below w.heap.size w (wi.alloc o)) := fun o => QB2.out.alloc QB2.out.size o
                  go_wp2_with fail
                  refine (contains_of I2.out y).mono ?_
                  rintro e w' ⟨rfl, hw'⟩
                  rw [hw', hyd]
                  clear hw'
                  go_wp2_with (at_builtin; go_must (refine wpList_append_tl _ rfl (.tmp 32) (.tmp 34) rfl w.heap.size i0 HI.out hz0 hz1 hz2 _ _ _ rfl (OA2.out _) (TA2.out _) ⟨wi.heap.size, 0, none⟩ 1 (bs y) rfl (cell_one' _ _ _) YS.out (by unfold maxLen; omega) (by omega) (SA2.out _) ?_; intro v4 w4 q1 q2 q3; have O4 := Lib.hid q1; have G4 := Lib.hid q2; have T4 := Lib.hid q3; clear q1 q2 q3))
                  go_roundw
                  case rel =>
                    refine ⟨m + 1, ac ++ [y], by omega, by go_num, ?_, SO.snoc O4.out, ?_, by simp; omega, (WA2.out _).grown G4.out (SA2.out _) LT2.out, T4.out⟩
                    · rw [AM.out, ← HA2.out, SY.out]
                    · intro q hq
                      rcases List.mem_append.1 hq with h | h
                      · exact QS2.out q h
                      · rw [List.mem_singleton] at h; rw [h]; exact YM.out
                  case measure => simp [intOf]; omega
              · obtain rfl : m = ln := by omega
                have A2 := HA2.out
                rw [AE.out, ← ST.out, HA.out, ← NK.out] at A2
                have HA3 := Lib.hid A2; clear A2
                go_wp2
                go_roundw
                case rel => exact ⟨k + 1, ac, by omega, by go_num, HA3.out, QO2.out, QS2.out, by omega, QB2.out, QT2.out⟩
                case measure => simp [intOf]; omega
        · have hxd : decide (x ∈ tk) = false := decide_eq_false hx
          have ST : Hid (needStep x acc (tk, nk) = acc) := Lib.hid (by unfold needStep; rw [if_neg hx])
          obtain ⟨a2, c2, rfl⟩ := s1.shape
          clear hx s0 s1
          go_wp2_with fail
          refine (contains_of (S0.out _) x).mono ?_
          rintro e w' ⟨rfl, rfl⟩
          rw [hxd]
          go_wp2
          go_roundw
          case rel =>
            refine ⟨k + 1, acc, by omega, by go_num, ?_, OA.out _, QS.out, by omega, WA.out _, TA.out _⟩
            rw [NK.out, ← HA.out, ST.out]
          case measure => simp [intOf]; omega
      · obtain rfl : k = L := by omega
        have A := HA.out
        rw [NE.out] at A
        subst A
        go_wp2
        go_ret
        exact ⟨_, rfl, QO.out, QS.out, by omega, QB.out, QT.out⟩
end Go.Proofs.YtebjofffijnihaaGreatDoor
namespace Go.Proofs.YtebjofffijnihaaGreatDoor
set_option maxRecDepth 100000
set_option linter.unusedVariables false
open Go.ChangeShapes Go.WideShapes Go.ChangeAt Go.RowKit

theorem own_base {w : World} {b1 b2 : Nat} {e : TypeId} {s n : Nat} {v : Value} {xs : List Value} (h : w.ownsRow b1 e s v n xs) (hb : b2 ≤ b1) : w.ownsRow b2 e s v n xs := by
  refine ⟨h.1, ?_⟩
  rcases h.2 with k | ⟨g, cap, cur, h1, h2, r⟩
  · exact .inl k
  · exact .inr ⟨g, cap, cur, h1, Nat.le_trans hb h2, r⟩
theorem own_type {w : World} {b1 b2 : Nat} {e1 e2 : TypeId} {s1 s2 n1 n2 : Nat} {v1 v2 : Value} {x1 x2 : List Value} (h1 : w.ownsRow b1 e1 s1 v1 n1 x1) (h2 : w.ownsRow b2 e2 s2 v2 n2 x2) (hne : e1 ≠ e2) : v1.ownBlock = none ∨ v1.ownBlock ≠ v2.ownBlock := by
  rcases h1.2 with ⟨rfl, _⟩ | ⟨g, cap, cur, rfl, _, hg, _⟩
  · exact .inl rfl
  · right
    rcases h2.2 with ⟨rfl, _⟩ | ⟨g', cap', cur', rfl, _, hg', _⟩
    · intro h; cases h
    · intro h
      have : g = g' := Option.some.inj h
      subst this
      rw [hg] at hg'
      cases hg'
      exact hne rfl

/-- two values lie in different blocks -/
def Apart (a b : Value) : Prop := ∀ k, a.ownBlock = some k → b.ownBlock ≠ some k
def rcells (c : List (Value × Value)) : List Value := c.flatMap fun p => [p.1, p.2]
theorem rcells_snoc (c : List (Value × Value)) (p q : Value) : rcells (c ++ [(p, q)]) = rcells c ++ [p, q] := by simp [rcells]
theorem rcells_mem {c : List (Value × Value)} {a : Value} : a ∈ rcells c ↔ ∃ p ∈ c, a = p.1 ∨ a = p.2 := by simp [rcells]
theorem rcells_at : ∀ (c : List (Value × Value)) (k : Nat) (p : Value × Value), c[k]? = some p → (rcells c)[k * 2]? = some p.1 ∧ (rcells c)[k * 2 + 1]? = some p.2
  | [], k, x, h => by simp at h
  | y :: t, 0, x, h => by simp at h; subst h; simp [rcells]
  | y :: t, k + 1, x, h => by
    have ih := rcells_at t k x (by simpa using h)
    have e : rcells (y :: t) = y.1 :: y.2 :: rcells t := by simp [rcells]
    rw [e, show (k + 1) * 2 = k * 2 + 1 + 1 by omega]
    simpa using ih
/-- a row of rules of the call's own, whose targets and needs lie in blocks of their own: the values are c -/
def ROb (B : Nat) (v : Value) (z : List Rl) (w : World) (c : List (Value × Value)) : Prop :=
  c.length = z.length ∧ w.ownsRow B 40 2 v z.length (rcells c) ∧ (∀ k p, c[k]? = some p → SO B p.1 (tg z k) w ∧ SO B p.2 (nd z k) w) ∧ (rcells c).Pairwise Apart
def RO (B : Nat) (v : Value) (z : List Rl) (w : World) : Prop := ∃ c : List (Value × Value), ROb B v z w c
/-- .. and every cell of their blocks is a string -/
def ROT (B : Nat) (v : Value) (z : List Rl) (w : World) : Prop := ∃ c : List (Value × Value), ROb B v z w c ∧ ∀ u ∈ rcells c, Tl u w
theorem ROT.ro {B : Nat} {v : Value} {z : List Rl} {w : World} (h : ROT B v z w) : RO B v z w := by obtain ⟨c, h, _⟩ := h; exact ⟨c, h⟩
theorem RO.nil (B : Nat) (w : World) : RO B (.slice none 0 0) [] w := ⟨[], rfl, World.ownsRow_nil _ _ _ _, fun k p h => by simp at h, List.Pairwise.nil⟩
theorem ROT.nil (B : Nat) (w : World) : ROT B (.slice none 0 0) [] w := ⟨[], ⟨rfl, World.ownsRow_nil _ _ _ _, fun k p h => by simp at h, List.Pairwise.nil⟩, fun u hu => by simp [rcells] at hu⟩
theorem ROb.later {B : Nat} {v : Value} {z : List Rl} {w w' : World} {c : List (Value × Value)} (h : ROb B v z w c) (hb : Below w.heap.size w w') : ROb B v z w' c := by
  obtain ⟨h1, h2, h3, h4⟩ := h
  exact ⟨h1, own_later h2 hb, fun k p hk => ⟨own_later (h3 k p hk).1 hb, own_later (h3 k p hk).2 hb⟩, h4⟩
theorem ROb.less {B B' : Nat} {v : Value} {z : List Rl} {w : World} {c : List (Value × Value)} (h : ROb B v z w c) (hb : B' ≤ B) : ROb B' v z w c := by
  obtain ⟨h1, h2, h3, h4⟩ := h
  exact ⟨h1, own_base h2 hb, fun k p hk => ⟨own_base (h3 k p hk).1 hb, own_base (h3 k p hk).2 hb⟩, h4⟩
theorem RO.later {B : Nat} {v : Value} {z : List Rl} {w w' : World} (h : RO B v z w) (hb : Below w.heap.size w w') : RO B v z w' := by obtain ⟨c, h⟩ := h; exact ⟨c, h.later hb⟩
theorem RO.less {B B' : Nat} {v : Value} {z : List Rl} {w : World} (h : RO B v z w) (hb : B' ≤ B) : RO B' v z w := by obtain ⟨c, h⟩ := h; exact ⟨c, h.less hb⟩
theorem ROT.less {B B' : Nat} {v : Value} {z : List Rl} {w : World} (h : ROT B v z w) (hb : B' ≤ B) : ROT B' v z w := by obtain ⟨c, h, k⟩ := h; exact ⟨c, h.less hb, k⟩
theorem tg_left {a : List Rl} {x : Rl} {k : Nat} (h : k < a.length) : tg (a ++ [x]) k = tg a k ∧ nd (a ++ [x]) k = nd a k := by
  unfold tg nd
  rw [List.getD, List.getD, List.getElem?_append_left h]
  exact ⟨rfl, rfl⟩
theorem tg_last (a : List Rl) (x : Rl) : tg (a ++ [x]) a.length = x.1 ∧ nd (a ++ [x]) a.length = x.2 := by
  unfold tg nd
  rw [List.getD, List.getElem?_append_right (Nat.le_refl _)]
  simp
theorem ro_snoc {B : Nat} {wr w4 w5 : World} {v v5 p1 p2 : Value} {out : List Rl} {c : List (Value × Value)} {t n : List Str} (hcl : c.length = out.length) (ho : wr.ownsRow B 40 2 v out.length (rcells c))
    (he : ∀ k p, c[k]? = some p → SO B p.1 (tg out k) wr ∧ SO B p.2 (nd out k) wr) (hap : (rcells c).Pairwise Apart) (hb : Below wr.heap.size wr w4) (h1 : SO wr.heap.size p1 t w4) (h2 : SO wr.heap.size p2 n w4) (ap : Apart p1 p2) (hB : B ≤ wr.heap.size)
    (g : w4.grownBy w5 v.ownBlock) (o5 : w5.ownsRow B 40 2 v5 (out.length + 1) (rcells c ++ [p1, p2])) : ROb B v5 (out ++ [(t, n)]) w5 (c ++ [(p1, p2)]) := by
  have ho4 := own_later ho hb
  have keep : ∀ {b p z}, SO b p z w4 → SO b p z w5 := fun {b p z} h => World.ownsRow.kept h g (own_type h ho4 (by decide))
  refine ⟨by simp [hcl], by rw [rcells_snoc, List.length_append]; exact o5, fun k p hk => ?_, ?_⟩
  · rcases Nat.lt_or_ge k c.length with hlt | hge
    · rw [List.getElem?_append_left hlt] at hk
      obtain ⟨e1, e2⟩ := tg_left (a := out) (x := (t, n)) (k := k) (by omega)
      rw [e1, e2]
      exact ⟨keep (own_later (he k p hk).1 hb), keep (own_later (he k p hk).2 hb)⟩
    · rw [List.getElem?_append_right hge] at hk
      have hk0 : k - c.length = 0 := by
        rcases Nat.eq_zero_or_pos (k - c.length) with h | h
        · exact h
        · rw [List.getElem?_eq_none (show 1 ≤ k - c.length from h)] at hk; cases hk
      rw [hk0] at hk
      simp at hk
      subst hk
      obtain rfl : k = out.length := by omega
      obtain ⟨e1, e2⟩ := tg_last out (t, n)
      rw [e1, e2]
      exact ⟨own_base (keep h1) hB, own_base (keep h2) hB⟩
  · rw [rcells_snoc, List.pairwise_append]
    refine ⟨hap, List.pairwise_cons.2 ⟨fun b hb' => ?_, List.pairwise_singleton _ _⟩, fun a ha b hb' => ?_⟩
    · rw [List.mem_singleton] at hb'; subst hb'; exact ap
    · obtain ⟨p, hp, hpa⟩ := rcells_mem.1 ha
      obtain ⟨k, hk, rfl⟩ := List.getElem_of_mem hp
      have hek := he k _ (List.getElem?_eq_getElem hk)
      intro q hq
      have hlt : q < wr.heap.size := by
        rcases hpa with rfl | rfl
        · exact (hek.1.lt q hq).2
        · exact (hek.2.lt q hq).2
      intro hbq
      have hge : wr.heap.size ≤ q := by
        simp at hb'
        rcases hb' with rfl | rfl
        · exact (h1.lt q hbq).1
        · exact (h2.lt q hbq).1
      omega

theorem tl_other {B : Nat} {w4 w5 : World} {u v : Value} {n : Nat} {xs : List Value} (h : Tl u w4) (ho : w4.ownsRow B 40 2 v n xs) (g : w4.grownBy w5 v.ownBlock) : Tl u w5 := by
  refine h.kept g ?_
  cases hu : u.ownBlock with
  | none => exact .inl rfl
  | some k =>
    right
    intro he
    obtain ⟨cur, h1, _⟩ := h k hu
    rcases ho.2 with ⟨rfl, _⟩ | ⟨g', cap, cur', rfl, _, hg', _⟩
    · cases he
    · have : k = g' := Option.some.inj he
      subst this
      rw [h1] at hg'
      cases hg'
theorem rot_snoc {B : Nat} {wr w4 w5 : World} {v v5 p1 p2 : Value} {out : List Rl} {c : List (Value × Value)} {t n : List Str} (hcl : c.length = out.length) (ho : wr.ownsRow B 40 2 v out.length (rcells c))
    (he : ∀ k p, c[k]? = some p → SO B p.1 (tg out k) wr ∧ SO B p.2 (nd out k) wr) (hap : (rcells c).Pairwise Apart) (hb : Below wr.heap.size wr w4) (h1 : SO wr.heap.size p1 t w4) (h2 : SO wr.heap.size p2 n w4) (ap : Apart p1 p2) (hB : B ≤ wr.heap.size)
    (g : w4.grownBy w5 v.ownBlock) (o5 : w5.ownsRow B 40 2 v5 (out.length + 1) (rcells c ++ [p1, p2])) (ht : ∀ u ∈ rcells c, Tl u wr) (t1 : Tl p1 w4) (t2 : Tl p2 w4) : ROT B v5 (out ++ [(t, n)]) w5 := by
  refine ⟨_, ro_snoc hcl ho he hap hb h1 h2 ap hB g o5, fun u hu => ?_⟩
  have ho4 := own_later ho hb
  rw [rcells_snoc] at hu
  rcases List.mem_append.1 hu with h | h
  · exact tl_other ((ht u h).later hb) ho4 g
  · simp at h
    rcases h with rfl | rfl
    · exact tl_other t1 ho4 g
    · exact tl_other t2 ho4 g

/-- the first fault of the rules -/
def firstR : List Rl → Int
  | [] => 0
  | r :: l => if chkR r = 0 then firstR l else chkR r
theorem first_snoc {l : List Rl} {r : Rl} (h : firstR l = 0) : firstR (l ++ [r]) = chkR r := by
  induction l with
  | nil => show (if chkR r = 0 then 0 else chkR r) = chkR r; split <;> simp_all
  | cons a l ih =>
    rw [firstR] at h
    rw [List.cons_append, firstR]
    by_cases ha : chkR a = 0
    · rw [if_pos ha] at h ⊢; exact ih h
    · rw [if_neg ha] at h; exact absurd h ha
theorem first_append {l r : List Rl} (h : firstR l ≠ 0) : firstR (l ++ r) = firstR l := by
  induction l with
  | nil => exact absurd rfl h
  | cons a l ih =>
    rw [firstR] at h
    rw [List.cons_append, firstR, firstR]
    by_cases ha : chkR a = 0
    · rw [if_pos ha] at h ⊢; rw [if_pos ha]; exact ih h
    · rw [if_neg ha, if_neg ha]
theorem first_ok {l : List Rl} (h : firstR l = 0) : ∀ r ∈ l, chkR r = 0 := by
  induction l with
  | nil => intro r hr; cases hr
  | cons a l ih =>
    rw [firstR] at h
    by_cases ha : chkR a = 0
    · rw [if_pos ha] at h
      intro r hr
      rcases List.mem_cons.1 hr with rfl | hr
      · exact ha
      · exact ih h r hr
    · rw [if_neg ha] at h; exact absurd h ha
theorem chk_ok {r : Rl} (h : chkR r = 0) : r.1.length ≤ 20 ∧ r.2.length ≤ 20 ∧ 0 < r.1.length ∧ r.1.all good = true ∧ r.2.all good = true := by
  unfold chkR at h
  by_cases h1 : 20 < r.1.length ∨ 20 < r.2.length
  · rw [if_pos h1] at h; cases h
  rw [if_neg h1] at h
  by_cases h2 : r.1.length = 0
  · rw [if_pos h2] at h; cases h
  rw [if_neg h2] at h
  by_cases h3 : r.1.all good = false
  · rw [if_pos h3] at h; cases h
  rw [if_neg h3] at h
  by_cases h4 : r.2.all good = false
  · rw [if_pos h4] at h; cases h
  exact ⟨by omega, by omega, by omega, by simpa using h3, by simpa using h4⟩

/-- all targets -/
def allT (l : List Rl) : List Str := l.flatMap (·.1)
def oneR (l : List Rl) (t : Str) : Rl := ([t], needsR l t)
/-- what Join answers -/
inductive JoinR (l : List Rl) : List Rl → Int → Prop
  | large : 100 < l.length → JoinR l [] 2
  | fault : l.length ≤ 100 → firstR l ≠ 0 → JoinR l [] (firstR l)
  | many : l.length ≤ 100 → firstR l = 0 → 64 < (uniq (allT l)).length → JoinR l [] 2
  | needs (t : Str) : l.length ≤ 100 → firstR l = 0 → (uniq (allT l)).length ≤ 64 → t ∈ uniq (allT l) → 64 < (needsR l t).length → JoinR l [] 2
  | ok : l.length ≤ 100 → firstR l = 0 → (uniq (allT l)).length ≤ 64 → (∀ t ∈ uniq (allT l), (needsR l t).length ≤ 64) → JoinR l ((uniq (allT l)).map (oneR l)) 0
theorem JoinR.same {l a b : List Rl} {e f : Int} (h : JoinR l a e) (k : JoinR l b f) : a = b ∧ e = f := by
  cases h <;> cases k <;> first
    | exact ⟨rfl, rfl⟩
    | omega
    | (rename_i h1 h2; exact absurd h1 (by assumption))
    | (exfalso; simp_all; done)
    | (exfalso; rename_i t _ _ _ hm hl _ _ _ ha; have := ha t hm; omega)
    | (exfalso; rename_i _ _ _ ha t _ _ _ hm hl; have := ha t hm; omega)
def JoinPost (l : List Rl) (w : World) (e : Ending) (w' : World) : Prop :=
  ∃ v z x, e = .returned (.tuple #[v, .int .i64 x]) ∧ JoinR l z x ∧ RO w.heap.size v z w' ∧ Below w.heap.size w w'
/-- .. with the blocks' other cells -/
def JoinPostT (l : List Rl) (w : World) (e : Ending) (w' : World) : Prop :=
  ∃ v z x, e = .returned (.tuple #[v, .int .i64 x]) ∧ JoinR l z x ∧ ROT w.heap.size v z w' ∧ Below w.heap.size w w'
end Go.Proofs.YtebjofffijnihaaGreatDoor
namespace Go.Proofs.YtebjofffijnihaaGreatDoor
set_option maxRecDepth 100000
set_option linter.unusedVariables false
open Go.ChangeShapes Go.WideShapes Go.ChangeAt Go.RowKit

theorem grown_alloc (w : World) (o : Obj) (row : Option Nat) : w.grownBy (w.alloc o) row := ⟨rfl, rfl, rfl, by simp, fun k hk _ => Below.heap_alloc _ _ _ hk⟩
theorem grown_refl (w : World) (row : Option Nat) : w.grownBy w row := ⟨rfl, rfl, rfl, Nat.le_refl _, fun _ _ _ => rfl⟩
theorem grown_below {w w' : World} (h : Below w.heap.size w w') (row : Option Nat) : w.grownBy w' row := ⟨h.os, h.tape, h.output, h.size, fun k hk _ => h.block k hk⟩
theorem ow_at {v v' : Value} {w w1 : World} (h : v'.ownBlock = v.ownBlock ∨ v'.ownBlock = some w1.heap.size) (hs : w.heap.size ≤ w1.heap.size) : Ow v v' w := fun k hk => by
  rcases h with e | e
  · rw [e] at hk; exact .inl hk
  · rw [e] at hk; injection hk with hk; right; omega
/-- a row of pairs of suffixes of the call's own -/
def IO (B : Nat) (v : Value) (l : List Mc) (w : World) : Prop := w.ownsRow B 96 2 v l.length (mcCells l)
theorem McIn.ownI {w : World} {base : Nat} {v : Value} {z : List Mc} (h : w.ownsRow base 96 2 v z.length (mcCells z)) (hn : z.length ≤ 8796093022208) : McIn w v z := by
  rcases h.2 with ⟨hv, h0⟩ | ⟨g, cap, cur, hv, hb, hg, hc, hm, hs, ht⟩
  · have : z = [] := List.length_eq_zero_iff.1 h0
    subst this
    exact ⟨none, 0, hv, Nat.le_refl _, Nat.zero_le _, Nat.zero_le _, .inl rfl⟩
  · refine ⟨_, cap, hv, hc, hm, hn, .inr ⟨g, 0, rfl, ?_, fun k x hk => ?_⟩⟩
    · rcases Nat.lt_or_ge g w.heap.size with h' | h'
      · exact h'
      · simp [Array.getElem?_eq_none h'] at hg
    · have hc := h.cells (g := g) (by rw [hv]; rfl)
      obtain ⟨h1, h2⟩ := mcCells_at z k x hk
      have e1 := hc _ _ h1
      have e2 := hc _ _ h2
      rw [add_off] at e1 e2
      rw [Nat.zero_add]
      exact ⟨e1, e2⟩
theorem infoInf : (Tryz.prog.info? 96).map (fun i => (i.zero, i.size, i.bytes)) = some (some (.agg #[.string ByteArray.empty, .string ByteArray.empty]), 2, 32) := by kernel_rfl
theorem contains_dec {α : Type} [BEq α] [LawfulBEq α] (l : List α) (x : α) [Decidable (x ∈ l)] : l.contains x = decide (x ∈ l) := by
  rw [Bool.eq_iff_iff, List.contains_iff_mem, decide_eq_true_iff]
set_option maxHeartbeats 4000000 in
theorem appS_any {B : Nat} (x : Str) (l : List Str) (v : Value) (w : World) (h : SO B v l w) (hB : B ≤ w.heap.size) (hl : l.length ≤ 1000) (hx : ∀ y ∈ l, y.length ≤ 9223372036854775807) :
    Calls Tryz.prog 120 #[v, .string (bs x)] w fun e w' => ∃ v', e = .returned v' ∧ SO B v' (addU l x) w' ∧ w.grownBy w' v.ownBlock ∧ Ow v v' w := by
  have CO := Lib.hid (contains_of (SIn.own h (by omega) hx) x)
  have HH := Lib.hid h
  obtain ⟨i0, hi, hz0, hz1, hz2⟩ := info_parts infoStr
  have IH := Lib.hid hi
  have OA : Hid (∀ o, (w.alloc o).ownsRow B 9 1 v l.length (l.map encStr)) := fun o => World.ownsRow.alloc h o
  have SA : Hid (∀ o, B ≤ (w.alloc o).heap.size) := fun o => by simp; omega
  have AD : addU l x = if decide (x ∈ l) = true then l else l ++ [x] := by unfold addU; rw [contains_dec]
  clear h hx hi
  cases hq : decide (x ∈ l)
  · rw [hq, if_neg (by decide)] at AD
    have AE := Lib.hid AD
    rw [hq] at CO
    clear AD hq
    go_enter Tryz.func120, Tryz.ntmps120
    go_wp2_with fail
    refine CO.out.mono ?_
    rintro e w1 ⟨rfl, rfl⟩
    go_wp2_with (at_builtin; go_must (refine wpList_append_own_at _ rfl (.tmp 9) (.tmp 11) 23 rfl B 9 i0 (.string ByteArray.empty) 1 16 Tryz.underlying23 IH.out hz0 hz1 hz2 rfl (by decide) _ _ _ rfl (OA.out _) ⟨w1.heap.size, 0, none⟩ 1 1 [.string (bs x)] rfl rfl (cell_one' _ _ _) (by intro u hu; simp at hu; rcases hu with rfl; rfl) (by unfold maxLen; omega) (by omega) (SA.out _) ?_; intro v4 w4 q1 q2 q3 q4; have O4 := Lib.hid q1; have G4 := Lib.hid q2; have P4 := Lib.hid q4; clear q1 q2 q3 q4))
    go_ret
    exact ⟨_, rfl, by rw [AE.out]; exact SO.snoc O4.out, World.grownBy.trans (grown_alloc _ _ _) G4.out, ow_at P4.out (by simp)⟩
  · rw [hq, if_pos rfl] at AD
    have AE := Lib.hid AD
    rw [hq] at CO
    clear AD hq
    go_enter Tryz.func120, Tryz.ntmps120
    go_wp2_with fail
    refine CO.out.mono ?_
    rintro e w1 ⟨rfl, rfl⟩
    go_wp2
    go_ret
    exact ⟨_, rfl, by rw [AE.out]; exact HH.out, grown_refl _ _, Ow.refl _ _⟩

set_option maxHeartbeats 4000000 in
theorem idxI_any (z : List Mc) (x y : Str) (v : Value) (w : World) (h : McIn w v z) :
    Calls Tryz.prog 78 #[v, .agg #[.string (bs x), .string (bs y)]] w fun e w' => (∃ i : Int, e = .returned (.int .i64 i) ∧ decide (0 ≤ i) = z.contains (x, y)) ∧ Below w.heap.size w w' := by
  have hn : z.length ≤ 8796093022208 := by obtain ⟨_, _, _, _, _, h4, _⟩ := h; exact h4
  have BA : Hid (Below w.heap.size w (w.alloc (.cells #[.string (bs x), .string (bs y)] 96))) := (Below.refl _ _).alloc (Nat.le_refl _) _
  have hA := h.later BA.out
  have b0 := blk_new w #[.string (bs x), .string (bs y)] 96
  rcases hA.open with ⟨rfl, a, cap, rfl⟩ | ⟨hp, b, off, cap, rfl, hcap, hlt, hc⟩
  · clear h hA b0
    go_enter Tryz.func78, Tryz.ntmps78
    go_wp2_with fail
    go_rounds 1
    go_ret
    exact ⟨⟨-1, rfl, rfl⟩, BA.out⟩
  · have d1 := b0.cell (i := 0) rfl
    have d2 := b0.cell (i := 1) rfl
    obtain ⟨W1, hW1⟩ : ∃ W1, W1 = w.alloc (.cells #[.string (bs x), .string (bs y)] 96) := ⟨_, rfl⟩
    rw [← hW1] at hc d1 d2 BA
    have D1 := Lib.hid d1; have D2 := Lib.hid d2
    have HC : Hid (∀ k, k < z.length → W1.cell? ⟨b, off + k * 2, none⟩ = some (.string (bs (nm z k))) ∧ W1.cell? ⟨b, off + k * 2 + 1, none⟩ = some (.string (bs (vl z k)))) := fun k hk => hc k _ (at_some hk)
    have TK : Hid (∀ k, k < z.length → z.take (k + 1) = z.take k ++ [(nm z k, vl z k)]) := fun k hk => take_at hk
    have MM : Hid (∀ k, k < z.length → (nm z k, vl z k) ∈ z) := fun k hk => mem_at hk
    have TL := Lib.hid (List.take_length (l := z))
    have HW := Lib.hid hW1
    clear h hA b0 hc hlt d1 d2 hW1
    generalize nm z = f at *
    generalize vl z = g at *
    go_enter Tryz.func78, Tryz.ntmps78
    go_wp2_with fail
    rw [← HW.out]
    have d1 := D1.out
    have d2 := D2.out
    generalize w.heap.size = N at d1 d2 ⊢
    go_loopw [8] (fun i wr => ∃ k : Nat, k ≤ z.length ∧ i = .int .i64 k ∧ (x, y) ∉ z.take k ∧ ∃ m, wr = W1.drewN m) (fun i _ => z.length - (intOf i).toNat)
    case atStart => exact ⟨0, Nat.zero_le _, rfl, by simp, 0, rfl⟩
    case round =>
      obtain ⟨k, hk, rfl, hno, m, rfl⟩ := hrel
      have NO := Lib.hid hno; clear hno
      by_cases hkl : k < z.length
      · obtain ⟨c1, c2⟩ := HC.out k hkl
        have T1 := Lib.hid (TK.out k hkl)
        have M1 := Lib.hid (MM.out k hkl)
        generalize f k = p at *
        generalize g k = q at *
        have e1 : ((bs x).toList == (bs p).toList) = decide (x = p) := by rw [bs_toList, bs_toList, beq_dec]
        have e2 : ((bs y).toList == (bs q).toList) = decide (y = q) := by rw [bs_toList, bs_toList, beq_dec]
        by_cases hx : x = p
        · rw [decide_eq_true hx] at e1
          by_cases hy : y = q
          · rw [decide_eq_true hy] at e2
            have IN : Hid (z.contains (x, y) = true) := by show _ = _; rw [List.contains_iff_mem, hx, hy]; exact M1.out
            clear hx hy
            go_wp2_with fail
            go_quiet (fail)
            go_wp2
            go_ret
            exact ⟨⟨k, rfl, by rw [IN.out]; exact decide_eq_true (by omega)⟩, below_drewN (below_drewN BA.out _) _⟩
          · rw [decide_eq_false hy] at e2
            have NX : Hid ((x, y) ∉ z.take k ++ [(p, q)]) := by
              intro hm
              rcases List.mem_append.1 hm with hm | hm
              · exact NO.out hm
              · rw [List.mem_singleton] at hm; injection hm with h1 h2; exact hy h2
            clear hx hy
            go_wp2_with fail
            go_quiet (fail)
            go_wp2
            go_roundw
            case rel => exact ⟨k + 1, by omega, by go_num, by rw [T1.out]; exact NX.out, _, rfl⟩
            case measure => simp [intOf]; omega
        · rw [decide_eq_false hx] at e1
          have NX : Hid ((x, y) ∉ z.take k ++ [(p, q)]) := by
            intro hm
            rcases List.mem_append.1 hm with hm | hm
            · exact NO.out hm
            · rw [List.mem_singleton] at hm; injection hm with h1 h2; exact hx h1
          clear hx
          go_wp2_with fail
          go_quiet (fail)
          go_wp2
          go_roundw
          case rel => exact ⟨k + 1, by omega, by go_num, by rw [T1.out]; exact NX.out, _, rfl⟩
          case measure => simp [intOf]; omega
      · obtain rfl : k = z.length := by omega
        have OUT : Hid (z.contains (x, y) = false) := by
          show _ = _
          have h := NO.out
          rw [TL.out] at h
          rw [← Bool.not_eq_true, List.contains_iff_mem]
          exact h
        go_wp2
        go_ret
        exact ⟨⟨-1, rfl, by rw [OUT.out]; rfl⟩, below_drewN BA.out _⟩
theorem snocI {B : Nat} {v : Value} {o : List Mc} {x y : Str} {w : World} (h : w.ownsRow B 96 2 v (o.length + 1) (mcCells o ++ [.string (bs x), .string (bs y)])) : IO B v (o ++ [(x, y)]) w := by
  unfold IO; rw [List.length_append, mcCells_snoc]; exact h
set_option maxHeartbeats 4000000 in
theorem conI_any (z : List Mc) (x y : Str) (v : Value) (w : World) (h : McIn w v z) :
    Calls Tryz.prog 52 #[v, .agg #[.string (bs x), .string (bs y)]] w fun e w' => e = .returned (.bool (z.contains (x, y))) ∧ Below w.heap.size w w' := by
  have BA : Hid (Below w.heap.size w (w.alloc (.cells #[.string (bs x), .string (bs y)] 96))) := (Below.refl _ _).alloc (Nat.le_refl _) _
  have b0 := blk_new w #[.string (bs x), .string (bs y)] 96
  have d1 := b0.cell (i := 0) rfl
  have d2 := b0.cell (i := 1) rfl
  have IX := Lib.hid (idxI_any z x y v _ (h.later BA.out))
  clear h b0
  go_enter Tryz.func52, Tryz.ntmps52
  go_wp2_with fail
  refine IX.out.mono ?_
  rintro e w1 ⟨⟨i, rfl, hi⟩, hb⟩
  have B1 : Hid (Below w.heap.size w w1) := BA.out.trans (hb.mono BA.out.size)
  have HI := Lib.hid hi
  clear hb hi IX d1 d2
  go_wp2
  go_ret
  exact ⟨by rw [← HI.out]; rfl, B1.out⟩
set_option maxHeartbeats 4000000 in
theorem appI_any {B : Nat} (x y : Str) (l : List Mc) (v : Value) (w : World) (h : IO B v l w) (hB : B ≤ w.heap.size) (hl : l.length ≤ 1000) :
    Calls Tryz.prog 95 #[v, .agg #[.string (bs x), .string (bs y)]] w fun e w' => ∃ v', e = .returned v' ∧ IO B v' (addU l (x, y)) w' ∧ w.grownBy w' v.ownBlock ∧ Ow v v' w := by
  have ba : Below w.heap.size w (w.alloc (.cells #[.string (bs x), .string (bs y)] 96)) := (Below.refl _ _).alloc (Nat.le_refl _) _
  have BA := Lib.hid ba
  have b0 := blk_new w #[.string (bs x), .string (bs y)] 96
  have S0 := Lib.hid b0
  have d1 := b0.cell (i := 0) rfl
  have d2 := b0.cell (i := 1) rfl
  have CO := Lib.hid (conI_any l x y v _ ((McIn.ownI h (by omega)).later ba))
  have HH := Lib.hid h
  obtain ⟨i0, hi, hz0, hz1, hz2⟩ := info_parts infoInf
  have IH := Lib.hid hi
  have AD : addU l (x, y) = if l.contains (x, y) = true then l else l ++ [(x, y)] := rfl
  clear h hi b0 ba
  cases hq : l.contains (x, y)
  · rw [hq, if_neg (by decide)] at AD
    have AE := Lib.hid AD
    rw [hq] at CO
    clear AD hq
    go_enter Tryz.func95, Tryz.ntmps95
    go_wp2_with fail
    refine CO.out.mono ?_
    rintro e w1 ⟨rfl, hb⟩
    have B1 : Hid (Below w.heap.size w w1) := BA.out.trans (hb.mono BA.out.size)
    have S1 := Lib.hid (S0.out.later hb)
    have O1 : Hid (IO B v l w1) := own_later HH.out B1.out
    clear hb d1 d2 CO
    obtain ⟨d1, d2⟩ := show _ ∧ _ from ⟨S1.out.cell (i := 0) rfl, S1.out.cell (i := 1) rfl⟩
    have OA : Hid (∀ o, (w1.alloc o).ownsRow B 96 2 v l.length (mcCells l)) := fun o => World.ownsRow.alloc O1.out o
    have SA : Hid (∀ o, B ≤ (w1.alloc o).heap.size) := fun o => by have := B1.out.size; simp; omega
    go_wp2_with (at_builtin; go_must (refine wpList_append_own_at _ rfl (.tmp 9) (.tmp 11) 24 rfl B 96 i0 (.agg #[.string ByteArray.empty, .string ByteArray.empty]) 2 32 Tryz.underlying24 IH.out hz0 hz1 hz2 rfl (by decide) _ _ _ rfl (OA.out _) ⟨w1.heap.size, 0, none⟩ 1 1 [.string (bs x), .string (bs y)] rfl rfl (two_new _ _ _ _) (by intro u hu; simp at hu; rcases hu with rfl | rfl <;> rfl) (by unfold maxLen; omega) (by omega) (SA.out _) ?_; intro v4 w4 q1 q2 q3 q4; have O4 := Lib.hid q1; have G4 := Lib.hid q2; have P4 := Lib.hid q4; clear q1 q2 q3 q4))
    go_ret
    exact ⟨_, rfl, by rw [AE.out]; exact snocI O4.out, World.grownBy.trans (World.grownBy.trans (grown_below B1.out _) (grown_alloc _ _ _)) G4.out, ow_at P4.out (by have := B1.out.size; simp; omega)⟩
  · rw [hq, if_pos rfl] at AD
    have AE := Lib.hid AD
    rw [hq] at CO
    clear AD hq
    go_enter Tryz.func95, Tryz.ntmps95
    go_wp2_with fail
    refine CO.out.mono ?_
    rintro e w1 ⟨rfl, hb⟩
    have B1 : Hid (Below w.heap.size w w1) := BA.out.trans (hb.mono BA.out.size)
    have O1 : Hid (IO B v l w1) := own_later HH.out B1.out
    clear hb d1 d2 CO
    go_wp2
    go_ret
    exact ⟨_, rfl, by rw [AE.out]; exact O1.out, grown_below B1.out _, Ow.refl _ _⟩

/-! inference -/
def iF (r : Rl) : Str := ((infR r).getD ([], [])).1
def iT (r : Rl) : Str := ((infR r).getD ([], [])).2
theorem good_asc {x : Str} (h : good x = true) : asc x := fun c hc => by
  have := (good_bytes h).2 c hc
  unfold okB at this
  have := of_decide_eq_true this
  omega
set_option maxHeartbeats 4000000 in
theorem inf_any (t n : List Str) (vt vn : Value) (w : World) (ht : SIn w vt t) (hn : SIn w vn n) (hg : t.all good = true) :
    Calls Tryz.prog 94 #[.agg #[vt, vn]] w fun e w' => e = .returned (.tuple #[.agg #[.string (bs (iF (t, n))), .string (bs (iT (t, n)))], .bool (infR (t, n)).isSome]) ∧ Below w.heap.size w w' := by
  have NO : Hid (infR (t, n) = none → iF (t, n) = [] ∧ iT (t, n) = [] ∧ (infR (t, n)).isSome = false) := fun h => by unfold iF iT; rw [h]; exact ⟨rfl, rfl, rfl⟩
  have IR : infR (t, n) = if t.length = 1 ∧ n.length = 0 then pairR (t.getD 0 []) else none := rfl
  have b0 := (blk_new w #[vt, vn] 40).alloc (.cells #[.string (bs []), .string (bs [])] 96)
  have b1 := blk_new (w.alloc (.cells #[vt, vn] 40)) #[.string (bs []), .string (bs [])] 96
  have s1 : (w.alloc (.cells #[vt, vn] 40)).heap.size = w.heap.size + 1 := by simp
  rw [s1] at b1
  have BA : Hid (Below w.heap.size w ((w.alloc (.cells #[vt, vn] 40)).alloc (.cells #[.string (bs []), .string (bs [])] 96))) := ((Below.refl _ _).alloc (Nat.le_refl _) _).alloc (by omega) _
  obtain ⟨d1, d2⟩ := show _ ∧ _ from ⟨b0.cell (i := 0) rfl, b0.cell (i := 1) rfl⟩
  have HT := Lib.hid (ht.later BA.out)
  have B1 := Lib.hid b1
  obtain ⟨at', ct, rfl⟩ := ht.shape
  obtain ⟨an, cn, rfl⟩ := hn.shape
  clear b0 b1 ht hn
  by_cases h1 : t.length = 1
  · by_cases h2 : n.length = 0
    · rw [if_pos ⟨h1, h2⟩] at IR
      rcases HT.out.open with ⟨hz, _⟩ | ⟨p1, b, off, cap, e1, hcap, hlt, hc⟩
      · rw [hz] at h1; cases h1
      · obtain ⟨rfl, rfl⟩ : at' = some ⟨b, off, none⟩ ∧ ct = cap := by simpa using e1
        have c0 := hc 0 p1
        rw [Nat.add_zero] at c0
        have gx : good (t.getD 0 []) = true := List.all_eq_true.1 hg _ (getD_mem p1)
        have PA := Lib.hid (pair_any (t.getD 0 []) ((w.alloc (.cells #[.slice (some ⟨b, off, none⟩) t.length ct, .slice an n.length cn] 40)).alloc (.cells #[.string (bs []), .string (bs [])] 96)) (by have := (good_len gx).2; omega) (good_asc gx))
        have E1 : Hid (iF (t, n) = pF (t.getD 0 [])) := by show _ = _; unfold iF pF; rw [IR]
        have E2 : Hid (iT (t, n) = pT (t.getD 0 [])) := by show _ = _; unfold iT pT; rw [IR]
        have E3 : Hid ((infR (t, n)).isSome = (pairR (t.getD 0 [])).isSome) := by show _ = _; rw [IR]
        generalize t.getD 0 [] = x at *
        rw [h1] at d1 c0 PA B1 BA
        rw [h2] at d1 d2 c0 PA B1 BA
        rw [h1] at d2
        rw [h1, h2]
        have c0' : ((w.alloc (.cells #[.slice (some ⟨b, off, none⟩) 1 ct, .slice an 0 cn] 40)).alloc (.cells #[.string { data := #[] }, .string { data := #[] }] 96)).cell? ⟨b, off, none⟩ = some (.string (bs x)) := c0
        clear HT e1 hc hlt hcap gx IR NO hg h1 h2 p1
        go_enter Tryz.func94, Tryz.ntmps94
        go_wp2_with fail
        refine PA.out.mono ?_
        rintro e w1 ⟨rfl, hb⟩
        have S1 := Lib.hid (B1.out.later hb)
        have B2 : Hid (Below w.heap.size w w1) := BA.out.trans (hb.mono BA.out.size)
        clear hb c0 c0' d1 d2 PA
        obtain ⟨c0, c1⟩ := show _ ∧ _ from ⟨S1.out.cell (i := 0) rfl, S1.out.cell (i := 1) rfl⟩
        obtain ⟨f0, f1⟩ := show _ ∧ _ from ⟨S1.out.free 0, S1.out.free 1⟩
        go_wp2
        (try simp only [Exit.inBlock, Exit.then])
        refine bodyPost_ret (v := .tuple #[.agg #[.string (bs (pF x)), .string (bs (pT x))], .bool (pairR x).isSome]) ?_ rfl ⟨by rw [E1.out, E2.out, E3.out], ?_⟩
        · rw [results_cell_tmp rfl]; go_simp
        · exact (B2.out.setCell (by simp) _).setCell (by simp) _
    · rw [if_neg (fun e => h2 e.2)] at IR
      obtain ⟨e1, e2, e3⟩ := NO.out IR
      have E1 := Lib.hid e1; have E2 := Lib.hid e2; have E3 := Lib.hid e3
      have z1 : ((n.length : Int) != 0) = true := by rw [bne_iff_ne]; omega
      rw [h1] at d1 d2 BA
      rw [h1]
      clear HT IR NO hg e1 e2 e3 h1 h2
      go_enter Tryz.func94, Tryz.ntmps94
      go_wp2
      (try simp only [Exit.inBlock, Exit.then])
      refine bodyPost_ret (v := .tuple #[.agg #[.string (bs []), .string (bs [])], .bool false]) ?_ rfl ⟨by rw [E1.out, E2.out, E3.out], ?_⟩
      · rw [results_cell_tmp rfl]; go_simp; try rfl
      · exact BA.out
  · rw [if_neg (fun e => h1 e.1)] at IR
    obtain ⟨e1, e2, e3⟩ := NO.out IR
    have E1 := Lib.hid e1; have E2 := Lib.hid e2; have E3 := Lib.hid e3
    have z1 : ((t.length : Int) != 1) = true := by rw [bne_iff_ne]; omega
    clear HT IR NO hg e1 e2 e3 h1
    go_enter Tryz.func94, Tryz.ntmps94
    go_wp2
    (try simp only [Exit.inBlock, Exit.then])
    refine bodyPost_ret (v := .tuple #[.agg #[.string (bs []), .string (bs [])], .bool false]) ?_ rfl ⟨by rw [E1.out, E2.out, E3.out], ?_⟩
    · rw [results_cell_tmp rfl]; go_simp; try rfl
    · exact BA.out
end Go.Proofs.YtebjofffijnihaaGreatDoor
