/-
  Package infer: namesOf and needsByTarget. Condition: at most 64 rules with at most 64 targets and 64 needs each.
  Package infer in plain words: what Fill answers; rows of rules whose strings lie in blocks of one's own or in elder ones. No condition.
  Package infer: needsByTarget. Condition: at most 64 rules, each with a target.
-/
import Derived.Test.YtebjofffijnihaaGreatDoorGc20RJw
import Derived.Lib.AppendZeros
import Derived.Deep.RegionLaw
namespace Go.Proofs.YtebjofffijnihaaGreatDoor
set_option maxRecDepth 100000
set_option linter.unusedVariables false
open Go.ChangeShapes Go.WideShapes Go.ChangeAt Go.RowKit

/-- strings appended to a row of one's own -/
theorem app_sin {w : World} {base : Nat} {u v2 : Value} {z1 z2 : List Str} (hown : SO base u z1 w) (h2 : SIn w v2 z2) (hs : z1.length + z2.length ≤ 4194304) (hbase : base ≤ w.heap.size) :
    ∃ a n c w', (Builtin.append_ #[23, 23] 23 #[u, v2]).run Tryz.prog w = .ok (.slice a n c) w' ∧ SO base (.slice a n c) (z1 ++ z2) w' ∧ w.grownBy w' u.ownBlock ∧ Below base w w' := by
  rcases h2.open with ⟨rfl, a, c, rfl⟩ | ⟨_, b, off, c, rfl, _, _, hc⟩
  · rw [List.append_nil]
    obtain ⟨a2, c2, rfl⟩ := own_shape' hown
    exact ⟨a2, _, c2, w, app_none _ hown a c, hown, ⟨rfl, rfl, rfl, Nat.le_refl _, fun _ _ _ => rfl⟩, Below.refl _ _⟩
  · obtain ⟨i0, hi, hz0, hz1, hz2⟩ := info_parts infoStr
    obtain ⟨v', w', r, o, gr, _⟩ := run_append_own (P := Tryz.prog) w base 23 23 9 i0 (.string ByteArray.empty) 1 16 Tryz.underlying23 hi hz0 hz1 hz2 rfl (by omega) u z1.length (z1.map encStr) hown ⟨b, off, none⟩ z2.length c (z2.map encStr) (by simp) (fun j y hj => by
      obtain ⟨hlt, rfl⟩ := map_at hj
      have := hc j hlt
      rw [List.getD, List.getElem?_eq_getElem hlt] at this
      rw [addrK]; exact this) (map_one _) (by unfold maxLen; omega) (by omega) hbase
    rw [← List.map_append] at o
    rw [← List.length_append] at o
    obtain ⟨a2, c2, rfl⟩ := own_shape' o
    exact ⟨a2, _, c2, w', r, o, gr, (Below.refl _ w).grown gr hbase fun k hk => (hown.lt k hk).1⟩

/-- all names of rules, in order -/
def namesJ (z : List Rl) : List Str := z.flatMap fun r => r.1 ++ r.2
theorem namesJ_take {z : List Rl} {k : Nat} (h : k < z.length) : namesJ (z.take (k + 1)) = namesJ (z.take k) ++ tg z k ++ nd z k := by
  unfold namesJ
  rw [rl_take h, List.flatMap_append, List.append_assoc]
  simp
/-- rules of a bounded size -/
def RB (z : List Rl) : Prop := z.length ≤ 64 ∧ ∀ k, k < z.length → (tg z k).length ≤ 64 ∧ (nd z k).length ≤ 64
set_option maxHeartbeats 4000000 in
theorem namesOf_any {w : World} {v : Value} {z : List Rl} (h : RIn w v z) (hb : RB z) :
    Calls Tryz.prog 30 #[v] w fun e w' => ∃ a c, e = .returned (.slice a (uniq (namesJ z)).length c) ∧ SO w.heap.size (.slice a (uniq (namesJ z)).length c) (uniq (namesJ z)) w' ∧ (uniq (namesJ z)).length ≤ 8192 ∧ Below w.heap.size w w' := by
  obtain ⟨HL, hB⟩ := hb
  have HB := Lib.hid hB; clear hB
  have NT : Hid (∀ k, k < z.length → namesJ (z.take (k + 1)) = namesJ (z.take k) ++ tg z k ++ nd z k) := fun k hk => namesJ_take hk
  have NE : Hid (namesJ (z.take z.length) = namesJ z) := Lib.hid (by rw [List.take_length])
  obtain ⟨a, cap, rfl, hcap, _, _, h5⟩ := h
  have HC : Hid (∀ W, Below w.heap.size w W → ∀ k, k < z.length → ∃ b off tv uv, a = some ⟨b, off, none⟩ ∧ W.cell? ⟨b, off + k * 2, none⟩ = some tv ∧ W.cell? ⟨b, off + k * 2 + 1, none⟩ = some uv ∧ SIn w tv (tg z k) ∧ SIn w uv (nd z k)) := fun W hW k hk => by
    rcases h5 with rfl | ⟨b, off, ha, hlt, T, U, hc⟩
    · exact absurd hk (Nat.not_lt_zero _)
    · exact ⟨b, off, T k, U k, ha, cell_later hW (hc k hk).1, cell_later hW (hc k hk).2.1, (hc k hk).2.2.1, (hc k hk).2.2.2⟩
  clear h5
  generalize eL : z.length = L at *
  clear eL
  go_enter Tryz.func30, Tryz.ntmps30
  go_wp2_with fail
  go_loopw [3, 8] (fun o i wr => ∃ (k : Nat) (all : List Str) (ao : Option Addr) (no co : Nat), k ≤ L ∧ i = .int .i64 (k : Int) ∧ o = .slice ao no co ∧ all = namesJ (z.take k) ∧ SO w.heap.size o all wr ∧ all.length ≤ 128 * k ∧ Below w.heap.size w wr) (fun _ i _ => L - (intOf i).toNat)
  case atStart => exact ⟨0, [], none, 0, 0, Nat.zero_le _, rfl, rfl, rfl, World.ownsRow_nil _ _ _ _, Nat.zero_le _, Below.refl _ _⟩
  case round =>
    obtain ⟨k, all, ao, no, co, hk, rfl, rfl, ha, qo, ql, qb⟩ := hrel
    have QO := Lib.hid qo; have QB := Lib.hid qb; have HA := Lib.hid ha; clear qo qb ha
    by_cases hkl : k < L
    · obtain ⟨b, off, tv, uv, rfl, c0, c1, s0, s1⟩ := HC.out wr QB.out k hkl
      have N1 := Lib.hid (NT.out k hkl)
      obtain ⟨l1, l2⟩ := HB.out k hkl
      generalize tg z k = tk at *
      generalize nd z k = nk at *
      have K0 := Lib.hid (blk_new wr #[tv, uv] 40)
      have O0 : SO w.heap.size (.slice ao no co) all (wr.alloc (.cells #[tv, uv] 40)) := World.ownsRow.alloc QO.out _
      have W0 : Below w.heap.size w (wr.alloc (.cells #[tv, uv] 40)) := QB.out.alloc QB.out.size _
      obtain ⟨a1, n1, k1, w1, r1, o1, g1, b1⟩ := app_sin O0 (s0.later W0) (by omega) W0.size
      have W1 : Below w.heap.size w w1 := W0.trans b1
      have K1 := Lib.hid (blk_grown K0.out g1 (fun q hq => (QO.out.lt q hq).2))
      obtain ⟨a2, n2, k2, w2, r2, o2, g2, b2⟩ := app_sin o1 (s1.later W1) (by rw [List.length_append]; omega) W1.size
      have R1 := Lib.hid r1; have R2 := Lib.hid r2
      have O2 := Lib.hid o2
      have W2 := Lib.hid (W1.trans b2)
      obtain ⟨at', ct, rfl⟩ := s0.shape
      obtain ⟨an', cn, rfl⟩ := s1.shape
      have LA : Hid ((all ++ tk ++ nk).length ≤ 128 * (k + 1)) := Lib.hid (by rw [List.length_append, List.length_append]; omega)
      have d0 := K0.out.cell (i := 0) rfl
      have d1 := K1.out.cell (i := 1) rfl
      clear O0 W0 W1 r1 r2 o1 o2 g1 g2 b1 b2 l1 l2 s0 s1
      generalize tk.length = lt at *
      generalize nk.length = ln at *
      go_wp2_with (at_builtin; go_must (first
        | refine Lib.wpList_append_run _ rfl (.tmp 12) (.tmp 14) 23 23 rfl _ _ rfl rfl _ _ R1.out ?_
        | refine Lib.wpList_append_run _ rfl (.tmp 16) (.tmp 18) 23 23 rfl _ _ rfl rfl _ _ R2.out ?_))
      go_roundw
      case rel => exact ⟨k + 1, all ++ tk ++ nk, _, _, _, by omega, by go_num, rfl, by rw [N1.out, HA.out], O2.out, LA.out, W2.out⟩
      case measure => simp [intOf]; omega
    · obtain rfl : k = L := by omega
      have A := HA.out
      rw [NE.out] at A
      subst A
      have QO' := QO.out
      unfold SO at QO'
      have UL : (uniq (namesJ z)).length ≤ 8192 := Nat.le_trans (uniq_le _) (by omega)
      have SR := Lib.hid (sortRow_own QO' (by omega))
      have SL : Hid ((sortS (namesJ z)).length < 4611686018427387904) := Lib.hid (by rw [(sortS_perm _).length_eq]; omega)
      have HU := Lib.hid UL
      clear UL QO' ql
      go_wp2_with fail
      refine SR.out.mono ?_
      rintro e w1 ⟨rfl, o1, b1⟩
      have B1 := Lib.hid (b1 _ _ (Nat.le_refl _) QB.out)
      have o1' : w1.ownsRow w.heap.size 9 1 (.slice ao no co) (sortS (namesJ z)).length ((sortS (namesJ z)).map encStr) := by rw [(sortS_perm _).length_eq]; exact o1
      have CR := Lib.hid (compactRow_own o1' SL.out)
      clear o1 b1 o1'
      go_wp2_with fail
      refine CR.out.mono ?_
      rintro e w2 ⟨v2, rfl, o2, b2⟩
      have O2 := Lib.hid o2
      have B2 := Lib.hid (b2 _ _ (Nat.le_refl _) B1.out)
      obtain ⟨a2, c2, rfl⟩ := own_shape' o2
      clear o2 b2
      have e2 : Lib.compact (sortS (namesJ z)) = uniq (namesJ z) := rfl
      rw [e2] at O2 ⊢
      generalize hn : (uniq (namesJ z)).length = nu at *
      go_wp2
      go_ret
      refine ⟨a2, c2, by rw [hn]; rfl, ?_, by rw [hn]; exact HU.out, B2.out⟩
      unfold SO
      rw [hn]
      exact O2.out
end Go.Proofs.YtebjofffijnihaaGreatDoor
namespace Go.Proofs.YtebjofffijnihaaGreatDoor
set_option maxRecDepth 100000
set_option linter.unusedVariables false
open Go.ChangeShapes Go.WideShapes Go.ChangeAt Go.RowKit

/-! what Fill answers -/
noncomputable def fillOne (l : List Rl) (I : List Mc) (K : List Str) (s : Str) : Option Rl :=
  if needsR l s = [] then
    match inf1 I K (stm s) (sfx s) with
    | some n => some ([s], [n])
    | none => if s ∈ uniq (allT l) then some ([s], []) else none
  else some ([s], needsR l s)
noncomputable def fillL (l z : List Rl) (I : List Mc) (T : List Str) : List Rl := (uniq (namesJ z)).filterMap (fillOne l I (uniq (uniq (namesJ z) ++ T)))
/-- z, x: what Join answers -/
noncomputable def fillR (l z : List Rl) (x : Int) (I : List Mc) (T : List Str) : List Rl × Int :=
  if x ≠ 0 then ([], x) else if infE I ≠ 0 then ([], infE I) else if T.all good = false then ([], 3) else if 64 < (uniq (uniq (namesJ z) ++ T)).length then ([], 2) else (fillL l z I T, 0)
theorem fillR_join {l z : List Rl} {x : Int} {I : List Mc} {T : List Str} (h : x ≠ 0) : fillR l z x I T = ([], x) := by unfold fillR; rw [if_pos h]
theorem fillR_inf {l z : List Rl} {I : List Mc} {T : List Str} (h : infE I ≠ 0) : fillR l z 0 I T = ([], infE I) := by unfold fillR; rw [if_neg (by simp), if_pos h]
theorem fillR_names {l z : List Rl} {I : List Mc} {T : List Str} (h : infE I = 0) (h2 : T.all good = false) : fillR l z 0 I T = ([], 3) := by unfold fillR; rw [if_neg (by simp), if_neg (by simp [h]), if_pos h2]
theorem fillR_many {l z : List Rl} {I : List Mc} {T : List Str} (h : infE I = 0) (h2 : T.all good = true) (h3 : 64 < (uniq (uniq (namesJ z) ++ T)).length) : fillR l z 0 I T = ([], 2) := by unfold fillR; rw [if_neg (by simp), if_neg (by simp [h]), if_neg (by simp [h2]), if_pos h3]
theorem fillR_ok {l z : List Rl} {I : List Mc} {T : List Str} (h : infE I = 0) (h2 : T.all good = true) (h3 : (uniq (uniq (namesJ z) ++ T)).length ≤ 64) : fillR l z 0 I T = (fillL l z I T, 0) := by unfold fillR; rw [if_neg (by simp), if_neg (by simp [h]), if_neg (by simp [h2]), if_neg (by omega)]

theorem fill_take {l : List Rl} {I : List Mc} {K U : List Str} {k : Nat} (h : k < U.length) : (U.take (k + 1)).filterMap (fillOne l I K) = (U.take k).filterMap (fillOne l I K) ++ (fillOne l I K (U.getD k [])).toList := by
  rw [List.take_add_one, List.getElem?_eq_getElem h, List.filterMap_append, List.getD, List.getElem?_eq_getElem h]
  congr 1
theorem one_needs {l : List Rl} {I : List Mc} {K : List Str} {s : Str} (h : needsR l s ≠ []) : fillOne l I K s = some ([s], needsR l s) := by unfold fillOne; rw [if_neg h]
theorem one_inf {l : List Rl} {I : List Mc} {K : List Str} {s n : Str} (h : needsR l s = []) (h2 : inf1 I K (stm s) (sfx s) = some n) : fillOne l I K s = some ([s], [n]) := by unfold fillOne; rw [if_pos h, h2]
theorem one_made {l : List Rl} {I : List Mc} {K : List Str} {s : Str} (h : needsR l s = []) (h2 : inf1 I K (stm s) (sfx s) = none) (h3 : s ∈ uniq (allT l)) : fillOne l I K s = some ([s], []) := by
  unfold fillOne; rw [if_pos h, h2]; exact if_pos h3
theorem one_none {l : List Rl} {I : List Mc} {K : List Str} {s : Str} (h : needsR l s = []) (h2 : inf1 I K (stm s) (sfx s) = none) (h3 : s ∉ uniq (allT l)) : fillOne l I K s = none := by
  unfold fillOne; rw [if_pos h, h2]; exact if_neg h3
theorem needs_target {l : List Rl} {s : Str} (h : s ∉ uniq (allT l)) : needsR l s = [] := by
  cases hn : needsR l s with
  | nil => rfl
  | cons y r =>
    obtain ⟨q, hq, h1, _⟩ := (needs_spec l s y).1 (by rw [hn]; exact List.mem_cons_self)
    exact absurd (uniq_mem.2 (allT_mem.2 ⟨q, hq, h1⟩)) h

/-! the joined rules -/
/-- what Join answers without a fault -/
structure Joined (l z : List Rl) : Prop where
  eq : z = (uniq (allT l)).map (oneR l)
  fine : firstR l = 0
  few : (uniq (allT l)).length ≤ 64
  needs : ∀ t ∈ uniq (allT l), (needsR l t).length ≤ 64
theorem JoinR.joined {l z : List Rl} (h : JoinR l z 0) : Joined l z := by
  obtain ⟨h1, h2, _, h3, h4⟩ := h.fine rfl
  exact ⟨h1, h2, h3, h4⟩
theorem Joined.len {l z : List Rl} (h : Joined l z) : z.length = (uniq (allT l)).length := by rw [h.eq, List.length_map]
theorem Joined.tg {l z : List Rl} (h : Joined l z) {k : Nat} (hk : k < z.length) : tg z k = [(uniq (allT l)).getD k []] := join_tg h.eq hk
theorem Joined.nd {l z : List Rl} (h : Joined l z) {k : Nat} (hk : k < z.length) : nd z k = needsR l ((uniq (allT l)).getD k []) := by
  have hk' := hk
  rw [h.len] at hk'
  unfold Go.Proofs.YtebjofffijnihaaGreatDoor.nd
  rw [h.eq, List.getD, List.getElem?_map, List.getD, List.getElem?_eq_getElem hk']
  rfl
theorem Joined.rb {l z : List Rl} (h : Joined l z) : RB z := by
  refine ⟨by rw [h.len]; exact h.few, fun k hk => ⟨by rw [h.tg hk]; simp, ?_⟩⟩
  rw [h.nd hk]
  exact h.needs _ (getD_mem (by rw [← h.len]; exact hk))
theorem Joined.good {l z : List Rl} (h : Joined l z) : (namesJ z).all good = true := by
  rw [List.all_eq_true]
  intro x hx
  unfold namesJ at hx
  obtain ⟨r, hr, hx⟩ := List.mem_flatMap.1 hx
  rw [h.eq] at hr
  obtain ⟨t, ht, rfl⟩ := List.mem_map.1 hr
  rcases List.mem_append.1 hx with hx | hx
  · rw [List.mem_singleton.1 hx]
    exact List.all_eq_true.1 (good_uniq (allgood h.fine)) t ht
  · exact List.all_eq_true.1 (needs_good h.fine t) x hx
theorem Joined.small {l z : List Rl} (h : Joined l z) : ∀ r ∈ z, (r.1.length ≤ 17592186044416 ∧ r.2.length ≤ 17592186044416) ∧ (∀ x ∈ r.1, x.length ≤ 9223372036854775807) ∧ ∀ x ∈ r.2, x.length ≤ 9223372036854775807 := join_small h.eq h.fine h.needs

/-! strings in a block of one's own, or in an elder one -/
def HN (B : Nat) (v : Value) (z : List Str) (w : World) : Prop := SO B v z w ∨ ∃ w0, w0.heap.size ≤ B ∧ SIn w0 v z ∧ Below w0.heap.size w0 w
theorem HN.later {B : Nat} {v : Value} {z : List Str} {w w' : World} (h : HN B v z w) (hb : Below w.heap.size w w') : HN B v z w' := by
  rcases h with h | ⟨w0, h1, h2, h3⟩
  · exact .inl (own_later h hb)
  · exact .inr ⟨w0, h1, h2, h3.trans (hb.mono h3.size)⟩
theorem HN.kept {B : Nat} {v o : Value} {z : List Str} {w w' : World} {n : Nat} {xs : List Value} (h : HN B v z w) (ho : w.ownsRow B 40 2 o n xs) (g : w.grownBy w' o.ownBlock) : HN B v z w' := by
  rcases h with h | ⟨w0, h1, h2, h3⟩
  · exact .inl (World.ownsRow.kept h g (own_type h ho (by decide)))
  · exact .inr ⟨w0, h1, h2, h3.grown g h3.size (fun k hk => Nat.le_trans h1 (ho.lt k hk).1)⟩
theorem HN.sin {B : Nat} {v : Value} {z : List Str} {w : World} (h : HN B v z w) (hn : z.length ≤ 17592186044416) (hx : ∀ x ∈ z, x.length ≤ 9223372036854775807) : SIn w v z := by
  rcases h with h | ⟨w0, h1, h2, h3⟩
  · exact SIn.own h hn hx
  · exact h2.later h3
/-- a row of rules of one's own, their strings anywhere but in it -/
def FO (B : Nat) (v : Value) (z : List Rl) (w : World) : Prop :=
  ∃ c : List (Value × Value), c.length = z.length ∧ w.ownsRow B 40 2 v z.length (rcells c) ∧ ∀ k p, c[k]? = some p → HN B p.1 (tg z k) w ∧ HN B p.2 (nd z k) w
theorem FO.nil (B : Nat) (w : World) : FO B (.slice none 0 0) [] w := ⟨[], rfl, World.ownsRow_nil _ _ _ _, fun k p h => by simp at h⟩
theorem FO.later {B : Nat} {v : Value} {z : List Rl} {w w' : World} (h : FO B v z w) (hb : Below w.heap.size w w') : FO B v z w' := by
  obtain ⟨c, h1, h2, h3⟩ := h
  exact ⟨c, h1, own_later h2 hb, fun k p hk => ⟨(h3 k p hk).1.later hb, (h3 k p hk).2.later hb⟩⟩
theorem fo_snoc {B : Nat} {w4 w5 : World} {v v5 p1 p2 : Value} {out : List Rl} {c : List (Value × Value)} {t n : List Str} (hcl : c.length = out.length) (ho : w4.ownsRow B 40 2 v out.length (rcells c))
    (he : ∀ k p, c[k]? = some p → HN B p.1 (tg out k) w4 ∧ HN B p.2 (nd out k) w4) (h1 : HN B p1 t w4) (h2 : HN B p2 n w4)
    (g : w4.grownBy w5 v.ownBlock) (o5 : w5.ownsRow B 40 2 v5 (out.length + 1) (rcells c ++ [p1, p2])) : FO B v5 (out ++ [(t, n)]) w5 := by
  refine ⟨c ++ [(p1, p2)], by simp [hcl], by rw [rcells_snoc, List.length_append]; exact o5, fun k p hk => ?_⟩
  rcases Nat.lt_or_ge k c.length with hlt | hge
  · rw [List.getElem?_append_left hlt] at hk
    obtain ⟨e1, e2⟩ := tg_left (a := out) (x := (t, n)) (k := k) (by omega)
    rw [e1, e2]
    exact ⟨(he k p hk).1.kept ho g, (he k p hk).2.kept ho g⟩
  · rw [List.getElem?_append_right hge] at hk
    have hk0 : k - c.length = 0 := by
      rcases Nat.eq_zero_or_pos (k - c.length) with h | h
      · exact h
      · rw [List.getElem?_eq_none (show 1 ≤ k - c.length from h)] at hk; cases hk
    rw [hk0] at hk
    simp at hk
    subst hk
    obtain rfl : k = out.length := by omega
    obtain ⟨e1, e2⟩ := tg_last out (t, n)
    rw [e1, e2]
    exact ⟨h1.kept ho g, h2.kept ho g⟩
theorem FO.rin {B : Nat} {v : Value} {z : List Rl} {w : World} (h : FO B v z w) (hn : z.length ≤ 2932031007317) (hx : ∀ r ∈ z, (r.1.length ≤ 17592186044416 ∧ r.2.length ≤ 17592186044416) ∧ (∀ x ∈ r.1, x.length ≤ 9223372036854775807) ∧ ∀ x ∈ r.2, x.length ≤ 9223372036854775807) : RIn w v z := by
  obtain ⟨c, hcl, ho, he⟩ := h
  have hr := ho.2
  rcases hr with ⟨hv, h0⟩ | ⟨g, cap, cur, hv, hb, hg, hc, hm, hs, ht⟩
  · have : z = [] := List.length_eq_zero_iff.1 h0
    subst this
    exact ⟨none, 0, hv, Nat.le_refl _, Nat.zero_le _, Nat.zero_le _, .inl rfl⟩
  · refine ⟨_, cap, hv, hc, hm, hn, .inr ⟨g, 0, rfl, ?_, fun k => (c.getD k (.slice none 0 0, .slice none 0 0)).1, fun k => (c.getD k (.slice none 0 0, .slice none 0 0)).2, fun k hk => ?_⟩⟩
    · rcases Nat.lt_or_ge g w.heap.size with h' | h'
      · exact h'
      · simp [Array.getElem?_eq_none h'] at hg
    · have hkc : k < c.length := by omega
      have hp := List.getElem?_eq_getElem hkc
      have hcs := ho.cells (g := g) (by rw [hv]; rfl)
      obtain ⟨h1, h2⟩ := rcells_at c k _ hp
      have e1 := hcs _ _ h1
      have e2 := hcs _ _ h2
      rw [add_off] at e1 e2
      obtain ⟨q1, q2⟩ := he k _ hp
      obtain ⟨⟨b1, b2⟩, b3, b4⟩ := hx _ (rl_mem hk)
      have hgd : c.getD k (.slice none 0 0, .slice none 0 0) = c[k] := by rw [List.getD, hp]; rfl
      simp only [hgd, Nat.zero_add]
      exact ⟨e1, e2, q1.sin b1 b3, q2.sin b2 b4⟩
theorem up_sub {a b : List Str} (ha : Up a) (hb : Up b) (h : ∀ x ∈ a, x ∈ b) : a.length ≤ b.length := by
  have e : a = b.filter (fun x => decide (x ∈ a)) := up_ext ha (List.Pairwise.filter _ hb) fun x => by
    rw [List.mem_filter, decide_eq_true_iff]
    exact ⟨fun hx => ⟨h x hx, hx⟩, fun hx => hx.2⟩
  rw [e]
  exact List.length_filter_le _ _
/-- the rules that Fill answers are short -/
theorem fill_small {l z : List Rl} (hj : Joined l z) {I : List Mc} {T : List Str} (hK : (uniq (uniq (namesJ z) ++ T)).length ≤ 64) (hT : T.all good = true) :
    (fillL l z I T).length ≤ 64 ∧ ∀ r ∈ fillL l z I T, (r.1.length ≤ 17592186044416 ∧ r.2.length ≤ 17592186044416) ∧ (∀ x ∈ r.1, x.length ≤ 9223372036854775807) ∧ ∀ x ∈ r.2, x.length ≤ 9223372036854775807 := by
  have hall : (uniq (uniq (namesJ z) ++ T)).all good = true := by
    refine good_uniq ?_
    rw [List.all_append, good_uniq hj.good, hT]; rfl
  have hle : (uniq (namesJ z)).length ≤ (uniq (uniq (namesJ z) ++ T)).length := by
    exact up_sub (uniq_up _) (uniq_up _) fun x hx => uniq_mem.2 (List.mem_append_left _ hx)
  refine ⟨by unfold fillL; exact Nat.le_trans (List.length_filterMap_le _ _) (by omega), fun r hr => ?_⟩
  unfold fillL at hr
  obtain ⟨s, hs, he⟩ := List.mem_filterMap.1 hr
  have gs : good s = true := List.all_eq_true.1 (good_uniq hj.good) s hs
  have one : ∀ {a : Str}, good a = true → ∀ x ∈ [a], x.length ≤ 9223372036854775807 := fun {a} ha x hx => by
    rw [List.mem_singleton.1 hx]; have := (good_len ha).2; omega
  unfold fillOne at he
  split at he
  · split at he
    · rename_i n hn
      injection he with he
      subst he
      have gn : good n = true := by
        have : ∀ (I : List Mc) (K : List Str) (a b : Str), inf1 I K a b = some n → n ∈ K := fun I => by
          induction I with
          | nil => intro K a b h; cases h
          | cons y r ih =>
            intro K a b h
            rw [inf1] at h
            split at h
            · rename_i hc; injection h with h; subst h; exact hc.2
            · exact ih K a b h
        exact List.all_eq_true.1 hall n (this _ _ _ _ hn)
      exact ⟨⟨by simp, by simp⟩, one gs, one gn⟩
    · split at he
      · injection he with he
        subst he
        exact ⟨⟨by simp, by simp⟩, one gs, fun x hx => absurd hx List.not_mem_nil⟩
      · cases he
  · injection he with he
    subst he
    have hm : s ∈ uniq (allT l) := by
      rcases Classical.em (s ∈ uniq (allT l)) with h | h
      · exact h
      · rename_i hne; exact absurd (needs_target h) hne
    exact ⟨⟨by simp, by have := hj.needs s hm; show (needsR l s).length ≤ _; omega⟩, one gs, small_all (needs_good hj.fine s)⟩
end Go.Proofs.YtebjofffijnihaaGreatDoor
namespace Go.Proofs.YtebjofffijnihaaGreatDoor
set_option maxRecDepth 100000
set_option linter.unusedVariables false
open Go.ChangeShapes Go.WideShapes Go.ChangeAt Go.RowKit

def hd (z : List Rl) (k : Nat) : Str := (tg z k).getD 0 []
/-- f holds the needs by target, as they lie in w -/
def NM (z : List Rl) (f : Str → Option Value) (w : World) : Prop :=
  (∀ s x, f s = some x → ∃ k, k < z.length ∧ hd z k = s ∧ SIn w x (nd z k)) ∧ ∀ s, f s = none → ∀ k, k < z.length → hd z k ≠ s
def NMk (z : List Rl) (m : Nat) (f : Str → Option Value) (w : World) : Prop :=
  (∀ s x, f s = some x → ∃ k, k < m ∧ hd z k = s ∧ SIn w x (nd z k)) ∧ ∀ s, f s = none → ∀ k, k < m → hd z k ≠ s
theorem NMk.step {z : List Rl} {m : Nat} {f : Str → Option Value} {w : World} (h : NMk z m f w) {x : Value} (hx : SIn w x (nd z m)) : NMk z (m + 1) (upd f (hd z m) x) w := by
  refine ⟨fun s y hy => ?_, fun s hs k hk => ?_⟩
  · unfold upd at hy
    split at hy
    · rename_i e
      injection hy with hy
      subst hy
      exact ⟨m, by omega, e.symm, hx⟩
    · obtain ⟨k, hk, h1, h2⟩ := h.1 s y hy
      exact ⟨k, by omega, h1, h2⟩
  · unfold upd at hs
    split at hs
    · cases hs
    · rename_i e
      rcases Nat.lt_succ_iff_lt_or_eq.1 hk with h' | rfl
      · exact h.2 s hs k h'
      · exact fun e' => e e'.symm
set_option maxHeartbeats 4000000 in
theorem needsBy_any {w : World} {v : Value} {z : List Rl} (h : RIn w v z) (hL : z.length ≤ 64) (ht : ∀ k, k < z.length → 0 < (tg z k).length ∧ (hd z k).length ≤ maxLen) :
    Calls Tryz.prog 31 #[v] w fun e w' => ∃ f, e = .returned (.map (some w.heap.size)) ∧ MI w.heap.size z.length f w' ∧ NM z f w ∧ Below w.heap.size w w' := by
  have hmm := @run_makeMap Tryz.prog
  have M0 := Lib.hid (MI.made w)
  have HT := Lib.hid ht; clear ht
  have N0 : Hid (NMk z 0 (fun _ => none) w) := ⟨fun s x hx => (by cases hx), fun s _ k hk => absurd hk (Nat.not_lt_zero _)⟩
  obtain ⟨a, cap, rfl, hcap, _, _, h5⟩ := h
  have HC : Hid (∀ W, Below w.heap.size w W → ∀ k, k < z.length → ∃ b off tv uv, a = some ⟨b, off, none⟩ ∧ W.cell? ⟨b, off + k * 2, none⟩ = some tv ∧ W.cell? ⟨b, off + k * 2 + 1, none⟩ = some uv ∧ SIn w tv (tg z k) ∧ SIn w uv (nd z k)) := fun W hW k hk => by
    rcases h5 with rfl | ⟨b, off, ha, hlt, T, U, hc⟩
    · exact absurd hk (Nat.not_lt_zero _)
    · exact ⟨b, off, T k, U k, ha, cell_later hW (hc k hk).1, cell_later hW (hc k hk).2.1, (hc k hk).2.2.1, (hc k hk).2.2.2⟩
  clear h5
  have ST : Hid (∀ m f x, NMk z m f w → SIn w x (nd z m) → NMk z (m + 1) (upd f (hd z m) x) w) := fun m f x h hx => h.step hx
  generalize eL : z.length = L at *
  have EL := Lib.hid eL; clear eL
  go_enter Tryz.func31, Tryz.ntmps31
  go_wp2_with fail
  go_loopw [9] (fun i wr => ∃ (k : Nat) (f : Str → Option Value), k ≤ L ∧ i = .int .i64 (k : Int) ∧ MI w.heap.size k f wr ∧ NMk z k f w ∧ Below w.heap.size w wr) (fun i _ => L - (intOf i).toNat)
  case atStart => exact ⟨0, _, Nat.zero_le _, rfl, M0.out, N0.out, (Below.refl _ _).alloc (Nat.le_refl _) _⟩
  case round =>
    obtain ⟨k, f, hk, rfl, q1, q2, q3⟩ := hrel
    have Q1 := Lib.hid q1; have Q2 := Lib.hid q2; have Q3 := Lib.hid q3; clear q1 q2 q3
    by_cases hkl : k < L
    · obtain ⟨b, off, tv, uv, rfl, c0, c1, s0, s1⟩ := HC.out wr Q3.out k hkl
      obtain ⟨t0, t1⟩ := HT.out k hkl
      have HS := Lib.hid (ST.out k f uv Q2.out s1)
      have SH : hd z k = (tg z k).getD 0 [] := rfl
      rcases s0.open with ⟨e0, _⟩ | ⟨_, b3, off3, c3, rfl, _, _, h3⟩
      · rw [e0] at t0; exact absurd t0 (Nat.not_lt_zero _)
      have c3' := h3 0 t0
      rw [← SH, Nat.add_zero] at c3'
      clear SH
      obtain ⟨an', cn, rfl⟩ := s1.shape
      generalize hd z k = x at *
      generalize (tg z k).length = lt at *
      generalize (nd z k).length = ln at *
      have BA : Below w.heap.size w (wr.alloc (.cells #[.slice (some ⟨b3, off3, none⟩) lt c3, .slice an' ln cn] 40)) := Q3.out.alloc Q3.out.size _
      have BD : Below w.heap.size w (wr.alloc (.cells #[.slice (some ⟨b3, off3, none⟩) lt c3, .slice an' ln cn] 40)).drew := BA.drew
      have K0 := blk_new wr #[.slice (some ⟨b3, off3, none⟩) lt c3, .slice an' ln cn] 40
      have d0 := K0.cell (i := 0) rfl
      have d1 := K0.cell (i := 1) rfl
      have d2 := cell_later BA c3'
      obtain ⟨w3, r3, n3, g3, z3⟩ := ((Q1.out.alloc (.cells #[.slice (some ⟨b3, off3, none⟩) lt c3, .slice an' ln cn] 40)).later (Below.refl _ _).drew).store (t := 70) (e := 23) (x := x) Tryz.underlying70 (by unfold maxLen; omega) t1 (.slice an' ln cn)
      have N3 := Lib.hid n3
      have B3 : Hid (Below w.heap.size w w3) := BD.grown g3 BD.size (fun j hj => by injection hj with hj; omega)
      have p1 : (0 : Int) < (lt : Int) := by omega
      clear n3 g3 z3 s0 s1 h3 c3' BA BD K0
      go_wp2_with fail
      go_region
      all_goals go_wp2
      all_goals go_roundw
      case rel => exact ⟨k + 1, _, by omega, by go_num, N3.out, HS.out, B3.out⟩
      case measure => simp [intOf]; omega
    · obtain rfl : k = L := by omega
      go_wp2
      go_ret
      exact ⟨f, rfl, Q1.out, by unfold NM; rw [EL.out]; exact Q2.out, Q3.out⟩
end Go.Proofs.YtebjofffijnihaaGreatDoor
