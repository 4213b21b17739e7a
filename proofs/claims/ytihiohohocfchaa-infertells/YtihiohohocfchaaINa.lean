/-
  Package infer: namesOf and needsByTarget. Condition: at most 64 rules with at most 64 targets and 64 needs each.
-/
import Derived.Test.YtihiohohocfchaaROpen
import Derived.Test.YtihiohohocfchaaIOf
import Derived.Test.YtihiohohocfchaaRJr
import Derived.Lib.AppendZeros
namespace Go.Proofs.Ytihiohohocfchaa
set_option maxRecDepth 100000
set_option linter.unusedVariables false
open Go.ChangeShapes Go.WideShapes Go.ChangeAt Go.RowKit

/-- strings appended to a row of one's own -/
theorem app_sin {w : World} {base : Nat} {u v2 : Value} {z1 z2 : List Str} (hown : SO base u z1 w) (h2 : SIn w v2 z2) (hs : z1.length + z2.length ≤ 4194304) (hbase : base ≤ w.heap.size) :
    ∃ a n c w', (Builtin.append_ #[24, 24] 24 #[u, v2]).run Try.prog w = .ok (.slice a n c) w' ∧ SO base (.slice a n c) (z1 ++ z2) w' ∧ w.grownBy w' u.ownBlock ∧ Below base w w' := by
  rcases h2.open with ⟨rfl, a, c, rfl⟩ | ⟨_, b, off, c, rfl, _, _, hc⟩
  · rw [List.append_nil]
    obtain ⟨a2, c2, rfl⟩ := own_shape' hown
    exact ⟨a2, _, c2, w, app_none _ hown a c, hown, ⟨rfl, rfl, rfl, Nat.le_refl _, fun _ _ _ => rfl⟩, Below.refl _ _⟩
  · obtain ⟨i0, hi, hz0, hz1, hz2⟩ := info_parts infoStr
    obtain ⟨v', w', r, o, gr, _⟩ := run_append_own (P := Try.prog) w base 24 24 9 i0 (.string ByteArray.empty) 1 16 Try.underlying24 hi hz0 hz1 hz2 rfl (by omega) u z1.length (z1.map encStr) hown ⟨b, off, none⟩ z2.length c (z2.map encStr) (by simp) (fun j y hj => by
      obtain ⟨hlt, rfl⟩ := map_at hj
      have := hc j hlt
      rw [List.getD, List.getElem?_eq_getElem hlt] at this
      rw [addrK]; exact this) (map_one _) (by unfold maxLen; omega) (by omega) hbase
    rw [← List.map_append] at o
    rw [← List.length_append] at o
    obtain ⟨a2, c2, rfl⟩ := own_shape' o
    exact ⟨a2, _, c2, w', r, o, gr, (Below.refl _ w).grown gr hbase fun k hk => (hown.lt k hk).1⟩

/-- all names of rules, in order -/
def namesJ (z : List Rl) : List Str := z.flatMap fun r => r.1 ++ r.2
theorem namesJ_take {z : List Rl} {k : Nat} (h : k < z.length) : namesJ (z.take (k + 1)) = namesJ (z.take k) ++ tg z k ++ nd z k := by
  unfold namesJ
  rw [rl_take h, List.flatMap_append, List.append_assoc]
  simp
theorem blk_grown {k : Nat} {xs : Array Value} {t : TypeId} {w w' : World} {row : Option Nat} (h : Blk k xs t w) (g : w.grownBy w' row) (hr : ∀ q, row = some q → q < k) : Blk k xs t w' :=
  h.at (g.block k h.lt (fun e => by have := hr k e.symm; omega))
/-- rules of a bounded size -/
def RB (z : List Rl) : Prop := z.length ≤ 64 ∧ ∀ k, k < z.length → (tg z k).length ≤ 64 ∧ (nd z k).length ≤ 64
set_option maxHeartbeats 4000000 in
theorem namesOf_any {w : World} {v : Value} {z : List Rl} (h : RIn w v z) (hb : RB z) :
    Calls Try.prog 29 #[v] w fun e w' => ∃ a c, e = .returned (.slice a (uniq (namesJ z)).length c) ∧ SO w.heap.size (.slice a (uniq (namesJ z)).length c) (uniq (namesJ z)) w' ∧ (uniq (namesJ z)).length ≤ 8192 ∧ Below w.heap.size w w' := by
  obtain ⟨HL, hB⟩ := hb
  have HB := Lib.hid hB; clear hB
  have NT : Hid (∀ k, k < z.length → namesJ (z.take (k + 1)) = namesJ (z.take k) ++ tg z k ++ nd z k) := fun k hk => namesJ_take hk
  have NE : Hid (namesJ (z.take z.length) = namesJ z) := Lib.hid (by rw [List.take_length])
  obtain ⟨a, cap, rfl, hcap, _, _, h5⟩ := h
  have HC : Hid (∀ W, Below w.heap.size w W → ∀ k, k < z.length → ∃ b off tv uv, a = some ⟨b, off, none⟩ ∧ W.cell? ⟨b, off + k * 2, none⟩ = some tv ∧ W.cell? ⟨b, off + k * 2 + 1, none⟩ = some uv ∧ SIn w tv (tg z k) ∧ SIn w uv (nd z k)) := fun W hW k hk => by
    rcases h5 with rfl | ⟨b, off, ha, hlt, T, U, hc⟩
    · exact absurd hk (Nat.not_lt_zero _)
    · exact ⟨b, off, T k, U k, ha, cell_later hW (hc k hk).1, cell_later hW (hc k hk).2.1, (hc k hk).2.2.1, (hc k hk).2.2.2⟩
  clear h5
  generalize eL : z.length = L at *
  clear eL
  go_enter Try.func29, Try.ntmps29
  go_wp2_with fail
  go_loopw [3, 8] (fun o i wr => ∃ (k : Nat) (all : List Str) (ao : Option Addr) (no co : Nat), k ≤ L ∧ i = .int .i64 (k : Int) ∧ o = .slice ao no co ∧ all = namesJ (z.take k) ∧ SO w.heap.size o all wr ∧ all.length ≤ 128 * k ∧ Below w.heap.size w wr) (fun _ i _ => L - (intOf i).toNat)
  case atStart => exact ⟨0, [], none, 0, 0, Nat.zero_le _, rfl, rfl, rfl, World.ownsRow_nil _ _ _ _, Nat.zero_le _, Below.refl _ _⟩
  case round =>
    obtain ⟨k, all, ao, no, co, hk, rfl, rfl, ha, qo, ql, qb⟩ := hrel
    have QO := Lib.hid qo; have QB := Lib.hid qb; have HA := Lib.hid ha; clear qo qb ha
    by_cases hkl : k < L
    · obtain ⟨b, off, tv, uv, rfl, c0, c1, s0, s1⟩ := HC.out wr QB.out k hkl
      have N1 := Lib.hid (NT.out k hkl)
      obtain ⟨l1, l2⟩ := HB.out k hkl
      generalize tg z k = tk at *
      generalize nd z k = nk at *
      have K0 := Lib.hid (blk_new wr #[tv, uv] 40)
      have O0 : SO w.heap.size (.slice ao no co) all (wr.alloc (.cells #[tv, uv] 40)) := World.ownsRow.alloc QO.out _
      have W0 : Below w.heap.size w (wr.alloc (.cells #[tv, uv] 40)) := QB.out.alloc QB.out.size _
      obtain ⟨a1, n1, k1, w1, r1, o1, g1, b1⟩ := app_sin O0 (s0.later W0) (by omega) W0.size
      have W1 : Below w.heap.size w w1 := W0.trans b1
      have K1 := Lib.hid (blk_grown K0.out g1 (fun q hq => (QO.out.lt q hq).2))
      obtain ⟨a2, n2, k2, w2, r2, o2, g2, b2⟩ := app_sin o1 (s1.later W1) (by rw [List.length_append]; omega) W1.size
      have R1 := Lib.hid r1; have R2 := Lib.hid r2
      have O2 := Lib.hid o2
      have W2 := Lib.hid (W1.trans b2)
      obtain ⟨at', ct, rfl⟩ := s0.shape
      obtain ⟨an', cn, rfl⟩ := s1.shape
      have LA : Hid ((all ++ tk ++ nk).length ≤ 128 * (k + 1)) := Lib.hid (by rw [List.length_append, List.length_append]; omega)
      have d0 := K0.out.cell (i := 0) rfl
      have d1 := K1.out.cell (i := 1) rfl
      clear O0 W0 W1 r1 r2 o1 o2 g1 g2 b1 b2 l1 l2 s0 s1
      generalize tk.length = lt at *
      generalize nk.length = ln at *
      go_wp2_with (at_builtin; go_must (first
        | refine Lib.wpList_append_run _ rfl (.tmp 12) (.tmp 14) 24 24 rfl _ _ rfl rfl _ _ R1.out ?_
        | refine Lib.wpList_append_run _ rfl (.tmp 16) (.tmp 18) 24 24 rfl _ _ rfl rfl _ _ R2.out ?_))
      go_roundw
      case rel => exact ⟨k + 1, all ++ tk ++ nk, _, _, _, by omega, by go_num, rfl, by rw [N1.out, HA.out], O2.out, LA.out, W2.out⟩
      case measure => simp [intOf]; omega
    · obtain rfl : k = L := by omega
      have A := HA.out
      rw [NE.out] at A
      subst A
      have QO' := QO.out
      unfold SO at QO'
      have UL : (uniq (namesJ z)).length ≤ 8192 := Nat.le_trans (uniq_le _) (by omega)
      have SR := Lib.hid (sortRow_own QO' (by omega))
      have SL : Hid ((sortS (namesJ z)).length < 4611686018427387904) := Lib.hid (by rw [(sortS_perm _).length_eq]; omega)
      have HU := Lib.hid UL
      clear UL QO' ql
      go_wp2_with fail
      refine SR.out.mono ?_
      rintro e w1 ⟨rfl, o1, b1⟩
      have B1 := Lib.hid (b1 _ _ (Nat.le_refl _) QB.out)
      have o1' : w1.ownsRow w.heap.size 9 1 (.slice ao no co) (sortS (namesJ z)).length ((sortS (namesJ z)).map encStr) := by rw [(sortS_perm _).length_eq]; exact o1
      have CR := Lib.hid (compactRow_own o1' SL.out)
      clear o1 b1 o1'
      go_wp2_with fail
      refine CR.out.mono ?_
      rintro e w2 ⟨v2, rfl, o2, b2⟩
      have O2 := Lib.hid o2
      have B2 := Lib.hid (b2 _ _ (Nat.le_refl _) B1.out)
      obtain ⟨a2, c2, rfl⟩ := own_shape' o2
      clear o2 b2
      have e2 : Lib.compact (sortS (namesJ z)) = uniq (namesJ z) := rfl
      rw [e2] at O2 ⊢
      generalize hn : (uniq (namesJ z)).length = nu at *
      go_wp2
      go_ret
      refine ⟨a2, c2, by rw [hn]; rfl, ?_, by rw [hn]; exact HU.out, B2.out⟩
      unfold SO
      rw [hn]
      exact O2.out
end Go.Proofs.Ytihiohohocfchaa
