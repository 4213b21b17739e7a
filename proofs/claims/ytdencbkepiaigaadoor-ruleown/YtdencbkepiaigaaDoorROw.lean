/-
  What the law RuleOwn's own functions do: spoil writes into its slice's block alone; a copy of rules holds the same rules in blocks of its own; rules that are the same compare as the same. No condition beyond the form's own.
-/
import Derived.Test.YtdencbkepiaigaaDoorRJoinW
import Derived.Test.YtdencbkepiaigaaDoorRHas
import Derived.Test.YtdencbkepiaigaaDoorNRise
import Derived.Deep.RegionHeld3
namespace Go.Proofs.YtdencbkepiaigaaDoor
set_option linter.unusedVariables false
open Go.ChangeShapes Go.WideShapes Go.ChangeAt Go.RowKit

theorem grown_trans {a b c : World} {row : Option Nat} (h : a.grownBy b row) (k : b.grownBy c row) : a.grownBy c row :=
  ⟨k.os.trans h.os, k.tape.trans h.tape, k.output.trans h.output, Nat.le_trans h.size k.size, fun i hi hne => (k.block i (Nat.lt_of_lt_of_le hi h.size) hne).trans (h.block i hi hne)⟩

set_option maxHeartbeats 1000000 in
set_option maxRecDepth 100000 in
theorem spoil_any {w : World} {B : Nat} {v : Value} {z : List Str} (ho : SO B v z w) (ht : Tl v w) :
    Calls Tryd.prog 31 #[v] w fun e w' => e = .returned (.tuple #[]) ∧ w.grownBy w' v.ownBlock := by
  rcases ho.2 with ⟨rfl, _⟩ | ⟨g, cap, cur, rfl, hb, hg, hnc, hcm, hcs, _⟩
  · clear ho ht
    go_enter Tryd.func31, Tryd.ntmps31
    go_wp2_with fail
    go_rounds 1
    go_end0
    exact ⟨rfl, rfl, rfl, rfl, Nat.le_refl _, fun _ _ _ => rfl⟩
  · obtain ⟨cur', h1, h2⟩ := ht g rfl
    rw [hg] at h1
    cases h1
    have hl : cur.toList.length = cap := by rw [Array.length_toList, hcs]; omega
    have O0 : Hid (w.ownsRow B 9 1 (.slice (some ⟨g, 0, none⟩) cap cap) cap cur.toList) := ⟨by rw [hl]; omega, .inr ⟨g, cap, cur, rfl, hb, hg, Nat.le_refl _, hcm, hcs, List.take_of_length_le (by rw [hl]; omega)⟩⟩
    have SS : Hid (∀ j, j < cap → ∃ s : ByteArray, cur.toList[j]? = some (.string s) ∧ s.size ≤ 4294967296) := fun j hj => by
      rw [← hl] at hj
      obtain ⟨s, e, hs⟩ := h2 _ (List.getElem_mem hj)
      exact ⟨s, by rw [List.getElem?_eq_getElem hj, e], hs⟩
    have hcap : cap ≤ 9223372036854775807 := by unfold maxLen at hcm; omega
    have hob : (Value.slice (some ⟨g, 0, none⟩) z.length cap).ownBlock = some g := rfl
    rw [hob]
    clear ho ht h2 hcs hcm hg hl hob
    generalize z.length = n at *
    generalize cur.toList = ys at *
    go_enter Tryd.func31, Tryd.ntmps31
    go_wp2_with fail
    go_loopw [9] (fun i wr => ∃ (k : Nat) (xs : List Value), k ≤ cap ∧ i = .int .i64 (k : Int) ∧ wr.ownsRow B 9 1 (.slice (some ⟨g, 0, none⟩) cap cap) cap xs ∧ (∀ j, k ≤ j → xs[j]? = ys[j]?) ∧ w.grownBy wr (some g)) (fun i _ => cap - (intOf i).toNat)
    case atStart => exact ⟨0, ys, Nat.zero_le _, rfl, O0.out, fun _ _ => rfl, rfl, rfl, rfl, Nat.le_refl _, fun _ _ _ => rfl⟩
    case round =>
      obtain ⟨k, xs, hk, rfl, qo, qe, qg⟩ := hrel
      have QO := Lib.hid qo; have QE := Lib.hid qe; have QG := Lib.hid qg; clear qo qe qg
      by_cases hkl : k < cap
      · obtain ⟨s, e, hs⟩ := SS.out k hkl
        have c0 : wr.cell? ⟨g, k, none⟩ = some (.string s) := by rw [QO.out.cellAt k (by omega), QE.out k (Nat.le_refl _)]; exact e
        have f0 := QO.out.frozenAt k
        have ST := Lib.hid (QO.out.stored k (.string (s ++ ByteArray.mk #[33])))
        have h1 : (ByteArray.mk #[33]).size = 1 := rfl
        clear e
        go_wp2
        go_roundw
        case rel =>
          refine ⟨k + 1, xs.set k (.string (s ++ ByteArray.mk #[33])), by omega, by go_num, ST.out.1, fun j hj => ?_, grown_trans QG.out ST.out.2⟩
          rw [List.getElem?_set_ne (by omega)]
          exact QE.out j (by omega)
        case measure => simp [intOf]; omega
      · obtain rfl : k = cap := by omega
        go_wp2
        go_end0
        exact ⟨rfl, QG.out⟩

/-- a rule appended to a row of rules -/
theorem app_rule {w : World} {B N n : Nat} {v x y : Value} {xs : List Value} (hown : w.ownsRow B 24 2 v n xs) (hx : x.oneCell' = true) (hy : y.oneCell' = true) (hN : N = w.heap.size) (hn : n ≤ 2932031007316) (hB : B ≤ w.heap.size) :
    ∃ v' w', (Builtin.append_ #[25, 25] 25 #[v, .slice (some ⟨N, 0, none⟩) 1 1]).run Tryd.prog (w.alloc (.cells #[x, y] 24)) = .ok v' w' ∧
      w'.ownsRow B 24 2 v' (n + 1) (xs ++ [x, y]) ∧ (w.alloc (.cells #[x, y] 24)).grownBy w' v.ownBlock := by
  obtain ⟨j0, ji, jz0, jz1, jz2⟩ := info_parts infoRl
  obtain ⟨v', w', h1, h2, h3, _⟩ := run_append_own (P := Tryd.prog) (w.alloc (.cells #[x, y] 24)) B 25 25 24 j0 (.agg #[.slice none 0 0, .slice none 0 0]) 2 48 Tryd.underlying25 ji jz0 jz1 jz2 rfl (by decide) v n xs (hown.alloc _)
    ⟨N, 0, none⟩ 1 1 [x, y] rfl (cell_two' w x y 24 N hN) (by intro u hu; simp at hu; rcases hu with rfl | rfl <;> assumption) (by unfold maxLen; omega) (by omega) (by simp; omega)
  exact ⟨v', w', h1, h2, h3⟩
theorem SO.one {B : Nat} {v : Value} {z : List Str} {w : World} (h : SO B v z w) : v.oneCell' = true := by
  rcases h.2 with ⟨rfl, _⟩ | ⟨g, cap, cur, rfl, _⟩ <;> rfl
theorem so_apart {B : Nat} {p q : Value} {t n : List Str} {w w' : World} (h1 : SO B p t w) (h2 : SO w.heap.size q n w') : Apart p q := fun k hk hk' => by
  have a := (h1.lt k hk).2
  have b := (h2.lt k hk').1
  omega

set_option maxHeartbeats 4000000 in
set_option maxRecDepth 100000 in
theorem copied_any {w : World} {v : Value} {z : List Rl} (h : RIn w v z) :
    Calls Tryd.prog 26 #[v] w fun e w' => ∃ u, e = .returned u ∧ RO w.heap.size u z w' ∧ Below w.heap.size w w' := by
  have HB := h.bound
  rcases h.open with ⟨rfl, a, cap, rfl⟩ | ⟨hp, b, off, cap, rfl, hcap, hlt, T, U, hc⟩
  · clear h HB
    go_enter Tryd.func26, Tryd.ntmps26
    go_wp2_with fail
    go_rounds 1
    go_ret
    exact ⟨_, rfl, RO.nil _ _, Below.refl _ _⟩
  · have HC : Hid (∀ W, Below w.heap.size w W → ∀ k, k < z.length → W.cell? ⟨b, off + k * 2, none⟩ = some (T k) ∧ W.cell? ⟨b, off + k * 2 + 1, none⟩ = some (U k) ∧ SIn W (T k) (tg z k) ∧ SIn W (U k) (nd z k)) := fun W hW k hk => ⟨cell_later hW (hc k hk).1, cell_later hW (hc k hk).2.1, (hc k hk).2.2.1.later hW, (hc k hk).2.2.2.later hW⟩
    have ZT : Hid (∀ k, k < z.length → z.take (k + 1) = z.take k ++ [(tg z k, nd z k)]) := fun k hk => rl_take hk
    have ZL : Hid (∀ k, k ≤ z.length → (z.take k).length = k) := fun k hk => by rw [List.length_take]; omega
    have ZE : Hid (z.take z.length = z) := List.take_length
    clear h hc hlt
    generalize hL : z.length = L at *
    clear hL
    go_enter Tryd.func26, Tryd.ntmps26
    go_wp2_with fail
    go_loopw [3, 8] (fun o i wr => ∃ k : Nat, k ≤ L ∧ i = .int .i64 (k : Int) ∧ RO w.heap.size o (z.take k) wr ∧ Below w.heap.size w wr) (fun _ i _ => L - (intOf i).toNat)
    case atStart => exact ⟨0, Nat.zero_le _, rfl, RO.nil _ _, Below.refl _ _⟩
    case round =>
      obtain ⟨k, hk, rfl, qo, qb⟩ := hrel
      have QB := Lib.hid qb; clear qb
      by_cases hkl : k < L
      · obtain ⟨c0, c1, s0, s1⟩ := HC.out wr QB.out k hkl
        have TK := Lib.hid (ZT.out k hkl)
        have LK := Lib.hid (ZL.out k hk)
        generalize T k = tv at *
        generalize U k = uv at *
        generalize tg z k = tk at *
        generalize nd z k = nk at *
        obtain ⟨at', ct, rfl⟩ := s0.shape
        obtain ⟨an', cn, rfl⟩ := s1.shape
        obtain ⟨c, hcl, hro, he, hap⟩ := qo
        have CL := Lib.hid hcl; have CO := Lib.hid hro; have CE := Lib.hid he; have CP := Lib.hid hap; clear hcl hro he hap
        have B1 : Hid (Below wr.heap.size wr (wr.alloc (.cells #[.slice at' tk.length ct, .slice an' nk.length cn] 24))) := (Below.refl _ _).alloc (Nat.le_refl _) _
        have S1 := Lib.hid (stayR_new wr (.slice at' tk.length ct) (.slice an' nk.length cn))
        have I0 := Lib.hid (s0.later B1.out); have I1 := Lib.hid (s1.later B1.out)
        have WS := Lib.hid QB.out.size
        obtain ⟨d0, d1⟩ := S1.out.cells
        clear s0 s1
        generalize hlt' : tk.length = lt at *
        generalize hln' : nk.length = ln at *
        have HLT := Lib.hid hlt'; have HLN := Lib.hid hln'; clear hlt' hln'
        go_wp2_with fail
        obtain ⟨w1, hw1⟩ : ∃ w1, w1 = wr.alloc (.cells #[.slice at' lt ct, .slice an' ln cn] 24) := ⟨_, rfl⟩
        rw [← hw1] at B1 S1 I0 I1 d0 d1 ⊢
        clear hw1
        have C1 : Hid (∀ W, Below w1.heap.size w1 W → Calls Tryd.prog 27 #[.slice at' lt ct] W fun e w' => ∃ v', e = .returned v' ∧ SO W.heap.size v' tk w' ∧ Below W.heap.size W w') := fun W hW => clone_of (I0.out.later hW)
        have C2 : Hid (∀ W, Below w1.heap.size w1 W → Calls Tryd.prog 27 #[.slice an' ln cn] W fun e w' => ∃ v', e = .returned v' ∧ SO W.heap.size v' nk w' ∧ Below W.heap.size W w') := fun W hW => clone_of (I1.out.later hW)
        have NE : Hid (some wr.heap.size ≠ u3.ownBlock) := fun e => by have := (CO.out.lt _ e.symm).2; omega
        have SL : Hid (∀ W, Below w1.heap.size w1 W → StayR wr.heap.size (.slice at' lt ct) (.slice an' ln cn) W) := fun W hW => S1.out.later hW
        go_region_held3 (fun w' => w'.cell? ⟨wr.heap.size, 0, none⟩ = some (.slice at' lt ct) ∧ w'.cell? ⟨wr.heap.size, 1, none⟩ = some (.slice an' ln cn)) (first | exact ⟨d0, d1⟩ | exact ⟨k0, k1⟩ | exact ⟨k2, k3⟩ | exact ⟨k4, k5⟩ | assumption | go_keep) (first
          | (go_at_call_of 27 (Value.slice at' lt ct)
             refine (C1.out w1.drew (Below.refl _ _).drew).mono ?_
             rintro e w2 ⟨v2, rfl, o2, b2⟩
             obtain ⟨a2, q2, rfl⟩ := own_shape' o2
             have O2 := Lib.hid o2
             have B2 : Hid (Below w1.heap.size w1 w2) := (Below.refl _ _).drew.trans b2
             obtain ⟨k0, k1⟩ := (SL.out _ B2.out).cells
             clear o2 b2)
          | (go_at_call_of 27 (Value.slice an' ln cn)
             refine (C2.out w2 B2.out).mono ?_
             rintro e w3 ⟨v3, rfl, o3, b3⟩
             obtain ⟨a3, q3, rfl⟩ := own_shape' o3
             have O3 := Lib.hid o3
             have B3 : Hid (Below w1.heap.size w1 w3) := B2.out.trans (b3.mono B2.out.size)
             have O2' := Lib.hid (own_later O2.out b3)
             obtain ⟨k2, k3⟩ := (SL.out _ B3.out).cells
             obtain ⟨v5, w5, r5, o5, g5⟩ := app_rule (own_later (own_later CO.out B1.out) B3.out) O2.out.one o3.one rfl (by rw [LK.out]; omega) (by have := B1.out.size; have := B3.out.size; have := WS.out; omega)
             have k4 := g5.cell (cell_later ((Below.refl _ w3).alloc (Nat.le_refl _) _) k2) (NE.out)
             have k5 := g5.cell (cell_later ((Below.refl _ w3).alloc (Nat.le_refl _) _) k3) (NE.out)
             have R5 := Lib.hid r5; have O5 := Lib.hid o5; have G5 := Lib.hid g5
             clear o3 b3 r5 o5 g5)
          | (refine step_append_run rfl (.tmp 12) (.tmp 20) 25 rfl u3 (.slice (some ⟨w3.heap.size, 0, none⟩) 1 1) (by simp [Act.eval]) (by simp [Act.eval]) v5 w5 R5.out ?_))
        have hbb : Below wr.heap.size wr (w3.alloc (.cells #[.slice a2 tk.length q2, .slice a3 nk.length q3] 24)) := (B1.out.trans (B3.out.mono B1.out.size)).alloc (Nat.le_trans B1.out.size B3.out.size) _
        have hws : wr.heap.size ≤ w1.drew.heap.size := B1.out.size
        have hw2 : wr.heap.size ≤ w2.heap.size := Nat.le_trans B1.out.size B2.out.size
        have F := Lib.hid (ro_snoc (t := tk) (n := nk) CL.out CO.out CE.out CP.out hbb (own_base (O2'.out.alloc _) hws) (own_base (O3.out.alloc _) hw2) (so_apart O2.out O3.out) WS.out G5.out O5.out)
        have WB := Lib.hid ((QB.out.trans (hbb.mono QB.out.size)).grown G5.out (Nat.le_trans WS.out hbb.size) (fun q hq => (CO.out.lt q hq).1))
        clear hbb hws hw2
        go_wp2
        go_roundw
        case rel =>
          refine ⟨k + 1, by omega, by go_num, ?_, WB.out⟩
          rw [TK.out]
          exact ⟨_, F.out⟩
        case measure => simp [intOf]; omega
      · obtain rfl : k = L := by omega
        rw [ZE.out] at qo
        have QO := Lib.hid qo; clear qo
        go_wp2
        go_ret
        exact ⟨_, rfl, QO.out, QB.out⟩
end Go.Proofs.YtdencbkepiaigaaDoor
