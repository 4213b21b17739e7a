/-
  Package file's linesOf: the lines of any file of bounded size. Condition: FB (names, values and rows of at most 2^24 bytes).
-/
import Derived.Test.YtebjofffijnihaaGreatDoorGc17FEq
namespace Go.Proofs.YtebjofffijnihaaGreatDoor
set_option maxRecDepth 100000
set_option linter.unusedVariables false
open Go.ChangeShapes Go.WideShapes Go.ChangeAt Go.RowKit

/-- a file of bounded size -/
structure FB (F : Fil) : Prop where
  mac : ∀ m ∈ F.1, m.1.length ≤ 16777216 ∧ m.2.length ≤ 16777216
  pho : bulk F.2.1 ≤ 16777216
  inf : ∀ m ∈ F.2.2.1, m.1.length ≤ 16777216 ∧ m.2.length ≤ 16777216
  rul : ∀ r ∈ F.2.2.2, bulk r.1 ≤ 16777216 ∧ bulk r.2 ≤ 16777216
  len : F.1.length ≤ 16777216 ∧ F.2.2.1.length ≤ 16777216 ∧ F.2.2.2.length ≤ 16777216
def mcL (m : Mc) : Str := m.1 ++ [32, 61, 32] ++ m.2
def inL (m : Mc) : Str := lineU (m.1 ++ m.2) []
def rlL (r : Rl) : Str := lineU (Lib.join r.1 [32]) r.2
def phL1 (ph : List Str) : List Str := if ph = [] then [] else [lineU phonyW ph]
theorem lnsF_eq (F : Fil) : lnsF F = F.1.map mcL ++ phL1 F.2.1 ++ F.2.2.1.map inL ++ F.2.2.2.map rlL := by
  unfold lnsF phL1 mcL inL rlL
  simp only [lineT_one]
  simp only [lineT_eq]
theorem map_take {α β : Type} (f : α → β) {z : List α} {k : Nat} {x : α} (h : z[k]? = some x) : (z.take (k + 1)).map f = (z.take k).map f ++ [f x] := by
  rw [List.take_add_one, h]; simp
theorem lns_len (F : Fil) (h : FB F) : (lnsF F).length ≤ 67108864 := by
  rw [lnsF_eq]
  have := h.len
  have : (phL1 F.2.1).length ≤ 1 := by unfold phL1; split <;> simp
  simp only [List.length_append, List.length_map]
  omega
theorem lns_small (F : Fil) (h : FB F) : ∀ x ∈ lnsF F, x.length ≤ 4294967296 := by
  rw [lnsF_eq]
  intro x hx
  simp only [List.mem_append, List.mem_map] at hx
  rcases hx with ((⟨m, hm, rfl⟩ | hx) | ⟨m, hm, rfl⟩) | ⟨r, hr, rfl⟩
  · have := h.mac m hm
    unfold mcL; simp only [List.length_append, List.length_cons, List.length_nil]; omega
  · unfold phL1 at hx
    split at hx
    · cases hx
    · rw [List.mem_singleton] at hx
      subst hx
      have := h.pho
      rw [lineU_len]; simp only [phonyW, List.length_cons, List.length_nil]; omega
  · have := h.inf m hm
    unfold inL; rw [lineU_len, List.length_append]; simp only [bulk, List.map_nil, List.sum_nil]; omega
  · have := h.rul r hr
    have j := join_len r.1
    unfold rlL; rw [lineU_len]; omega
theorem app_so {B : Nat} {z : List Str} {v : Value} {x : Str} {w : World} (h : SO B v z w) (hn : z.length ≤ 4294967296) (hB : B ≤ w.heap.size) :
    ∃ a c w4, (Builtin.append_ #[23, 23] 23 #[v, .slice (some ⟨w.heap.size, 0, none⟩) 1 1]).run Tryz.prog (w.alloc (.cells #[.string (bs x)] 9)) = .ok (.slice a (z.length + 1) c) w4 ∧ SO B (.slice a (z.length + 1) c) (z ++ [x]) w4 ∧ (w.alloc (.cells #[.string (bs x)] 9)).grownBy w4 v.ownBlock := by
  obtain ⟨i0, hi, hz0, hz1, hz2⟩ := info_parts infoStr
  obtain ⟨v4, w4, r4, o4, g4, _⟩ := run_append_own (P := Tryz.prog) (w.alloc (.cells #[.string (bs x)] 9)) B 23 23 9 i0 (.string ByteArray.empty) 1 16 Tryz.underlying23 hi hz0 hz1 hz2 rfl (by decide) v z.length (z.map encStr) (World.ownsRow.alloc h _) ⟨w.heap.size, 0, none⟩ 1 1 [.string (bs x)] rfl (cell_one' _ _ _) (by intro u hu; simp at hu; rcases hu with rfl; rfl) (by unfold maxLen; omega) (by omega) (by simp; omega)
  have o5 := SO.snoc o4
  obtain ⟨a, c, rfl⟩ := own_len o5
  rw [List.length_append, List.length_singleton] at r4 o5
  exact ⟨a, c, w4, r4, o5, g4⟩
set_option maxHeartbeats 8000000 in
theorem linesOf_any {w : World} {vm vp vi vr : Value} {F : Fil} (h : FIn w vm vp vi vr F) (hb : FB F) :
    Calls Tryz.prog 46 #[.agg #[vm, vp, vi, vr]] w fun e w' => ∃ v, e = .returned v ∧ SIn w' v (lnsF F) ∧ Below w.heap.size w w' := by
  have LL := Lib.hid (lns_len F hb)
  have LS := Lib.hid (lns_small F hb)
  have LE := Lib.hid (lnsF_eq F)
  obtain ⟨F1, F2, F3, F4⟩ := F
  obtain ⟨ha, hp, hi, hr⟩ := h
  obtain ⟨bm, bp, bi, br, bl⟩ := hb
  dsimp only at ha hp hi hr bm bp bi br bl LE
  obtain ⟨am, cm, rfl⟩ : ∃ a c, vm = .slice a F1.length c := by obtain ⟨a, c, h, _⟩ := ha; exact ⟨a, c, h⟩
  obtain ⟨ap, cp, rfl⟩ := hp.shape
  obtain ⟨ai, ci, rfl⟩ : ∃ a c, vi = .slice a F3.length c := by obtain ⟨a, c, h, _⟩ := hi; exact ⟨a, c, h⟩
  obtain ⟨ar, cr, rfl⟩ : ∃ a c, vr = .slice a F4.length c := by obtain ⟨a, c, h, _⟩ := hr; exact ⟨a, c, h⟩
  have ba : Below w.heap.size w (w.alloc (.cells #[.slice am F1.length cm, .slice ap F2.length cp, .slice ai F3.length ci, .slice ar F4.length cr] 27)) := (Below.refl _ _).alloc (Nat.le_refl _) _
  have b0 := blk_new w #[.slice am F1.length cm, .slice ap F2.length cp, .slice ai F3.length ci, .slice ar F4.length cr] 27
  obtain ⟨W0, hW0⟩ : ∃ W0, W0 = (w.alloc (.cells #[.slice am F1.length cm, .slice ap F2.length cp, .slice ai F3.length ci, .slice ar F4.length cr] 27)) := ⟨_, rfl⟩
  rw [← hW0] at ba b0
  have BA := Lib.hid ba
  have HW := Lib.hid hW0
  have KB : Hid (∀ W, Below W0.heap.size W0 W → W.cell? ⟨w.heap.size, 0, none⟩ = some (.slice am F1.length cm) ∧ W.cell? ⟨w.heap.size, 1, none⟩ = some (.slice ap F2.length cp) ∧ W.cell? ⟨w.heap.size, 2, none⟩ = some (.slice ai F3.length ci) ∧ W.cell? ⟨w.heap.size, 3, none⟩ = some (.slice ar F4.length cr)) := fun W hW =>
    ⟨(b0.later hW).cell (i := 0) rfl, (b0.later hW).cell (i := 1) rfl, (b0.later hW).cell (i := 2) rfl, (b0.later hW).cell (i := 3) rfl⟩
  have BW : Hid (∀ W, Below W0.heap.size W0 W → Below w.heap.size w W) := fun W hW => ba.trans (hW.mono ba.size)
  have EM : Hid (∀ W, Below W0.heap.size W0 W → ∀ k, k < F1.length → ∃ b off, am = some ⟨b, off, none⟩ ∧ W.cell? ⟨b, off + k * 2, none⟩ = some (.string (bs (nm F1 k))) ∧ W.cell? ⟨b, off + k * 2 + 1, none⟩ = some (.string (bs (vl F1 k)))) := fun W hW k hk => by
    obtain ⟨a9, c9, e9, _, _, _, h9⟩ := ha.later (BW.out W hW)
    cases e9
    rcases h9 with rfl | ⟨b, off, h1, _, hc⟩
    · exact absurd hk (Nat.not_lt_zero _)
    · exact ⟨b, off, h1, hc k _ (at_some hk)⟩
  have EI : Hid (∀ W, Below W0.heap.size W0 W → ∀ k, k < F3.length → ∃ b off, ai = some ⟨b, off, none⟩ ∧ W.cell? ⟨b, off + k * 2, none⟩ = some (.string (bs (nm F3 k))) ∧ W.cell? ⟨b, off + k * 2 + 1, none⟩ = some (.string (bs (vl F3 k)))) := fun W hW k hk => by
    obtain ⟨a9, c9, e9, _, _, _, h9⟩ := hi.later (BW.out W hW)
    cases e9
    rcases h9 with rfl | ⟨b, off, h1, _, hc⟩
    · exact absurd hk (Nat.not_lt_zero _)
    · exact ⟨b, off, h1, hc k _ (at_some hk)⟩
  have ER : Hid (∀ W, Below W0.heap.size W0 W → ∀ k, k < F4.length → ∃ b off T U, ar = some ⟨b, off, none⟩ ∧ W.cell? ⟨b, off + k * 2, none⟩ = some T ∧ W.cell? ⟨b, off + k * 2 + 1, none⟩ = some U ∧ SIn W T (tg F4 k) ∧ SIn W U (nd F4 k)) := fun W hW k hk => by
    obtain ⟨a9, c9, e9, _, _, _, h9⟩ := hr.later (BW.out W hW)
    cases e9
    rcases h9 with rfl | ⟨b, off, h1, _, T, U, hc⟩
    · exact absurd hk (Nat.not_lt_zero _)
    · obtain ⟨q1, q2, q3, q4⟩ := hc k hk
      exact ⟨b, off, T k, U k, h1, q1, q2, q3, q4⟩
  have HP : Hid (∀ W, Below W0.heap.size W0 W → SIn W (.slice ap F2.length cp) F2) := fun W hW => hp.later (BW.out W hW)
  have LM : Hid (∀ k, k < F1.length → (nm F1 k).length ≤ 16777216 ∧ (vl F1 k).length ≤ 16777216) := fun k hk => bm _ (mem_at hk)
  have LI : Hid (∀ k, k < F3.length → (nm F3 k).length ≤ 16777216 ∧ (vl F3 k).length ≤ 16777216) := fun k hk => bi _ (mem_at hk)
  have LR : Hid (∀ k, k < F4.length → bulk (tg F4 k) ≤ 16777216 ∧ bulk (nd F4 k) ≤ 16777216) := fun k hk => br _ (rl_mem hk)
  have SM : Hid (∀ k, k < F1.length → (F1.take (k + 1)).map mcL = (F1.take k).map mcL ++ [nm F1 k ++ [32, 61, 32] ++ vl F1 k]) := fun k hk => map_take mcL (at_some hk)
  have SI : Hid (∀ k, k < F3.length → (F3.take (k + 1)).map inL = (F3.take k).map inL ++ [lineU (nm F3 k ++ vl F3 k) []]) := fun k hk => map_take inL (at_some hk)
  have SR : Hid (∀ k, k < F4.length → (F4.take (k + 1)).map rlL = (F4.take k).map rlL ++ [lineU (Lib.join (tg F4 k) [32]) (nd F4 k)]) := fun k hk => map_take rlL (rl_some hk)
  have NM : Hid (∀ k, ((F1.take k).map mcL).length ≤ 16777216) := fun k => by show _ ≤ _; rw [List.length_map]; have := List.length_take_le k F1; rw [List.length_take]; omega
  have NI : Hid (∀ k, ((F3.take k).map inL).length ≤ 16777216) := fun k => by show _ ≤ _; rw [List.length_map, List.length_take]; omega
  have NR : Hid (∀ k, ((F4.take k).map rlL).length ≤ 16777216) := fun k => by show _ ≤ _; rw [List.length_map, List.length_take]; omega
  have TM : Hid ((F1.take F1.length).map mcL = F1.map mcL) := Lib.hid (by rw [List.take_length])
  have TI : Hid ((F3.take F3.length).map inL = F3.map inL) := Lib.hid (by rw [List.take_length])
  have TR : Hid ((F4.take F4.length).map rlL = F4.map rlL) := Lib.hid (by rw [List.take_length])
  have LA : Hid ((F1.map mcL).length ≤ 16777216) := by show _ ≤ _; rw [List.length_map]; exact bl.1
  have LB : Hid ((F3.map inL).length ≤ 16777216) := by show _ ≤ _; rw [List.length_map]; exact bl.2.1
  have PB := Lib.hid bp
  have PN : Hid (F2 = [] → phL1 F2 = []) := fun e => by unfold phL1; rw [if_pos e]
  have PS : Hid (F2 ≠ [] → phL1 F2 = [lineU phonyW F2]) := fun e => by unfold phL1; rw [if_neg e]
  have PL : Hid (F2 ≠ [] → 0 < F2.length) := fun e => List.length_pos_iff.2 e
  have PZ : Hid (F2 = [] → F2.length = 0) := fun e => by show _ = _; rw [e]; rfl
  have P1 : Hid ((phL1 F2).length ≤ 1) := by show _ ≤ _; unfold phL1; split <;> simp
  obtain ⟨i0, hinf, hz0, hz1, hz2⟩ := info_parts infoStr
  have IH := Lib.hid hinf
  obtain ⟨k0, k1, k2, k3⟩ := KB.out W0 (Below.refl _ _)
  have hn1 := bl.1; have hn3 := bl.2.1; have hn4 := bl.2.2
  clear ha hp hi hr bm bp bi br bl ba b0 hinf
  generalize nm F1 = f1 at *
  generalize vl F1 = g1 at *
  generalize nm F3 = f3 at *
  generalize vl F3 = g3 at *
  generalize F2.length = n2 at *
  generalize F1.length = n1 at *
  generalize F3.length = n3 at *
  generalize F4.length = n4 at *
  go_enter Tryz.func46, Tryz.ntmps46
  go_wp2_with fail
  rw [← HW.out]
  clear hW0 k0 k1 k2 k3
  go_loopw [3, 13] (fun s i wr => ∃ k : Nat, k ≤ n1 ∧ i = .int .i64 (k : Int) ∧ SO W0.heap.size s ((F1.take k).map mcL) wr ∧ Below W0.heap.size W0 wr) (fun _ i _ => n1 - (intOf i).toNat)
  case atStart => exact ⟨0, Nat.zero_le _, rfl, World.ownsRow_nil _ _ _ _, Below.refl _ _⟩
  case round =>
    obtain ⟨k, hk, rfl, q1, q2⟩ := hrel
    have Q1 := Lib.hid q1; have Q2 := Lib.hid q2; clear q1 q2
    by_cases hkl : k < n1
    · obtain ⟨b, off, rfl, c1, c2⟩ := EM.out wr Q2.out k hkl
      have S1 := Lib.hid (SM.out k hkl)
      have L1 := LM.out k hkl
      have ll := NM.out k
      generalize f1 k = xa at *
      generalize g1 k = xb at *
      generalize (F1.take k).map mcL = z at *
      have BE : Hid (Below W0.heap.size W0 (wr.alloc (.cells #[.string (bs xa), .string (bs xb)] 109))) := Q2.out.alloc Q2.out.size _
      have OE : Hid (SO W0.heap.size u3 z (wr.alloc (.cells #[.string (bs xa), .string (bs xb)] 109))) := World.ownsRow.alloc Q1.out _
      have LV : Hid (∀ j, u3.ownBlock = some j → W0.heap.size ≤ j) := fun j hj => (Q1.out.lt j hj).1
      have c3 : bs xa ++ ByteArray.mk #[32, 61, 32] = bs (xa ++ [32, 61, 32]) := by
        rw [show ByteArray.mk #[32, 61, 32] = bs [32, 61, 32] from rfl, bs_append]
      have c4 : bs (xa ++ [32, 61, 32]) ++ bs xb = bs (xa ++ [32, 61, 32] ++ xb) := by rw [bs_append]
      have s4 : (bs (xa ++ [32, 61, 32])).size = xa.length + 3 := by rw [bs_size]; simp
      have s5 : (ByteArray.mk #[32, 61, 32]).size = 3 := rfl
      have s6 : (bs xa).size = xa.length := bs_size _
      have s7 : (bs xb).size = xb.length := bs_size _
      generalize hY : xa ++ [32, 61, 32] ++ xb = Y at *
      clear hY
      have TN : Hid (∀ j u, [Value.string (bs Y)][j]? = some u → ((wr.alloc (.cells #[.string (bs xa), .string (bs xb)] 109)).alloc (.cells #[.string (bs Y)] 9)).cell? ((⟨wr.heap.size + 1, 0, none⟩ : Addr).add j) = some u) := fun j u hj => by
        have := cell_one' (wr.alloc (.cells #[.string (bs xa), .string (bs xb)] 109)) (.string (bs Y)) 9 j u hj
        rw [show (wr.alloc (.cells #[.string (bs xa), .string (bs xb)] 109)).heap.size = wr.heap.size + 1 by simp] at this
        exact this
      have OA : Hid (∀ o, ((wr.alloc (.cells #[.string (bs xa), .string (bs xb)] 109)).alloc o).ownsRow W0.heap.size 9 1 u3 z.length (z.map encStr)) := fun o => World.ownsRow.alloc OE.out o
      have SA : Hid (∀ o, W0.heap.size ≤ ((wr.alloc (.cells #[.string (bs xa), .string (bs xb)] 109)).alloc o).heap.size) := fun o => by have := Q2.out.size; simp; omega
      have BB : Hid (∀ o, Below W0.heap.size W0 ((wr.alloc (.cells #[.string (bs xa), .string (bs xb)] 109)).alloc o)) := fun o => BE.out.alloc BE.out.size o
      generalize bs (xa ++ [32, 61, 32]) = X1 at *
      go_wp2_with (at_builtin; go_must (refine wpList_append_own _ rfl (.tmp 17) (.tmp 24) 23 rfl W0.heap.size 9 i0 (.string ByteArray.empty) 1 16 Tryz.underlying23 IH.out hz0 hz1 hz2 rfl (by decide) _ _ _ rfl (OA.out _) ⟨wr.heap.size + 1, 0, none⟩ 1 1 [.string (bs Y)] rfl rfl TN.out (by intro u hu; simp at hu; rcases hu with rfl; rfl) (by unfold maxLen; omega) (by omega) (SA.out _) ?_; intro v5 w5 q1 q2 q3; have O5 := Lib.hid q1; have G5 := Lib.hid q2; clear q1 q2 q3))
      go_roundw
      case rel => exact ⟨k + 1, by omega, by go_num, by rw [S1.out]; exact SO.snoc O5.out, (BB.out _).grown G5.out (SA.out _) LV.out⟩
      case measure => simp [intOf]; omega
    · obtain rfl : k = n1 := by omega
      rw [TM.out] at Q1
      clear EM LM SM NM TM
      obtain ⟨k0, k1, k2, k3⟩ := KB.out wr Q2.out
      by_cases hp : F2 = []
      · rw [PN.out hp] at LE P1
        obtain rfl : n2 = 0 := PZ.out hp
        rw [List.append_nil] at LE
        have LQ := LA.out
        generalize F1.map mcL = L2 at *
        have Q3 := Q1; have Q4 := Q2
        clear Q1 Q2 PS PL PN PZ HP PB P1 LA hp
        go_wp2_with fail
        go_loopw [3, 40] (fun s i wr => ∃ k : Nat, k ≤ n3 ∧ i = .int .i64 (k : Int) ∧ SO W0.heap.size s (L2 ++ (F3.take k).map inL) wr ∧ Below W0.heap.size W0 wr) (fun _ i _ => n3 - (intOf i).toNat)
        case atStart => exact ⟨0, Nat.zero_le _, rfl, by simpa using Q3.out, Q4.out⟩
        case round =>
          obtain ⟨k, hk, rfl, q1, q2⟩ := hrel
          have Q1 := Lib.hid q1; have Q2 := Lib.hid q2; clear q1 q2
          by_cases hkl : k < n3
          · obtain ⟨b, off, rfl, c1, c2⟩ := EI.out wr Q2.out k hkl
            have S1 := Lib.hid (SI.out k hkl)
            have L1 := LI.out k hkl
            have ll : (L2 ++ (F3.take k).map inL).length ≤ 33554433 := by have := NI.out k; rw [List.length_append]; omega
            have AS := Lib.hid (List.append_assoc L2 ((F3.take k).map inL) [lineU (f3 k ++ g3 k) []])
            generalize f3 k = xa at *
            generalize g3 k = xb at *
            rw [← S1.out] at AS
            generalize L2 ++ (F3.take k).map inL = z at *
            have BE : Hid (Below W0.heap.size W0 (wr.alloc (.cells #[.string (bs xa), .string (bs xb)] 96))) := Q2.out.alloc Q2.out.size _
            have OE : Hid (SO W0.heap.size u3 z (wr.alloc (.cells #[.string (bs xa), .string (bs xb)] 96))) := World.ownsRow.alloc Q1.out _
            have LV : Hid (∀ j, u3.ownBlock = some j → W0.heap.size ≤ j) := fun j hj => (Q1.out.lt j hj).1
            have c3 : bs xa ++ bs xb = bs (xa ++ xb) := bs_append _ _
            have s6 : (bs xa).size = xa.length := bs_size _
            have s7 : (bs xb).size = xb.length := bs_size _
            have RL := Lib.hid (ruleLine_any (w := (wr.alloc (.cells #[.string (bs xa), .string (bs xb)] 96))) (n := []) (xa ++ xb) (sin_none _) (by rw [List.length_append]; omega) (by simp [bulk]))
            generalize lineU (xa ++ xb) [] = Y at *
            generalize bs (xa ++ xb) = X1 at *
            go_wp2_with fail
            refine RL.out.mono ?_
            rintro e w6 ⟨rfl, b6⟩
            have B6 : Hid (Below W0.heap.size W0 w6) := BE.out.trans (b6.mono BE.out.size)
            have O6 : Hid (SO W0.heap.size u3 z w6) := own_later OE.out b6
            clear b6 RL
            have TN : Hid (∀ j u, [Value.string (bs Y)][j]? = some u → (w6.alloc (.cells #[.string (bs Y)] 9)).cell? ((⟨w6.heap.size, 0, none⟩ : Addr).add j) = some u) := cell_one' w6 (.string (bs Y)) 9
            have OA : Hid (∀ o, (w6.alloc o).ownsRow W0.heap.size 9 1 u3 z.length (z.map encStr)) := fun o => World.ownsRow.alloc O6.out o
            have SA : Hid (∀ o, W0.heap.size ≤ (w6.alloc o).heap.size) := fun o => by have := B6.out.size; simp; omega
            have BB : Hid (∀ o, Below W0.heap.size W0 (w6.alloc o)) := fun o => B6.out.alloc B6.out.size o
            go_wp2_with (at_builtin; go_must (refine wpList_append_own _ rfl (.tmp 44) (.tmp 51) 23 rfl W0.heap.size 9 i0 (.string ByteArray.empty) 1 16 Tryz.underlying23 IH.out hz0 hz1 hz2 rfl (by decide) _ _ _ rfl (OA.out _) ⟨w6.heap.size, 0, none⟩ 1 1 [.string (bs Y)] rfl rfl TN.out (by intro u hu; simp at hu; rcases hu with rfl; rfl) (by unfold maxLen; omega) (by omega) (SA.out _) ?_; intro v7 w7 q1 q2 q3; have O7 := Lib.hid q1; have G7 := Lib.hid q2; clear q1 q2 q3))
            go_roundw
            case rel => exact ⟨k + 1, by omega, by go_num, by rw [← AS.out]; exact SO.snoc O7.out, (BB.out _).grown G7.out (SA.out _) LV.out⟩
            case measure => simp [intOf]; omega
          · obtain rfl : k = n3 := by omega
            rw [TI.out] at Q1
            have LQ3 : (L2 ++ F3.map inL).length ≤ 33554433 := by have := LB.out; rw [List.length_append]; omega
            have Q5 := Q1; have Q6 := Q2
            clear EI LI SI NI TI Q1 Q2 LB LQ
            generalize L2 ++ F3.map inL = L3 at *
            obtain ⟨k0, k1, k2, k3⟩ := KB.out wr Q6.out
            go_wp2_with fail
            clear k0 k1 k2 k3
            go_loopw [3, 57] (fun s i wr => ∃ k : Nat, k ≤ n4 ∧ i = .int .i64 (k : Int) ∧ SO W0.heap.size s (L3 ++ (F4.take k).map rlL) wr ∧ Below W0.heap.size W0 wr) (fun _ i _ => n4 - (intOf i).toNat)
            case atStart => exact ⟨0, Nat.zero_le _, rfl, by simpa using Q5.out, Q6.out⟩
            case round =>
              obtain ⟨k, hk, rfl, q1, q2⟩ := hrel
              have Q1 := Lib.hid q1; have Q2 := Lib.hid q2; clear q1 q2
              by_cases hkl : k < n4
              · obtain ⟨b, off, T, U, rfl, c1, c2, st, su⟩ := ER.out wr Q2.out k hkl
                have S1 := Lib.hid (SR.out k hkl)
                have L1 := Lib.hid (LR.out k hkl)
                have ll : (L3 ++ (F4.take k).map rlL).length ≤ 67108866 := by have := NR.out k; rw [List.length_append]; omega
                have AS := Lib.hid (List.append_assoc L3 ((F4.take k).map rlL) [lineU (Lib.join (tg F4 k) [32]) (nd F4 k)])
                rw [← S1.out] at AS
                generalize L3 ++ (F4.take k).map rlL = z at *
                obtain ⟨a1, e1, rfl⟩ := st.shape
                obtain ⟨a2, e2, rfl⟩ := su.shape
                generalize tg F4 k = t at *
                generalize nd F4 k = n at *
                have b0 := blk_new wr #[.slice a1 t.length e1, .slice a2 n.length e2] 40
                have ba : Below wr.heap.size wr (wr.alloc (.cells #[.slice a1 t.length e1, .slice a2 n.length e2] 40)) := (Below.refl _ _).alloc (Nat.le_refl _) _
                have BE : Hid (Below W0.heap.size W0 (wr.alloc (.cells #[.slice a1 t.length e1, .slice a2 n.length e2] 40))) := Q2.out.alloc Q2.out.size _
                have OE : Hid (SO W0.heap.size u3 z (wr.alloc (.cells #[.slice a1 t.length e1, .slice a2 n.length e2] 40))) := World.ownsRow.alloc Q1.out _
                have LV : Hid (∀ j, u3.ownBlock = some j → W0.heap.size ≤ j) := fun j hj => (Q1.out.lt j hj).1
                have ST := Lib.hid (st.later ba)
                have SU := Lib.hid (su.later ba)
                have NE := Lib.hid (show 40 ≠ 9 by decide)
                clear st su ba Q1
                go_wp2_with fail
                obtain ⟨we, hwe⟩ : ∃ we, we = wr.alloc (.cells #[.slice a1 t.length e1, .slice a2 n.length e2] 40) := ⟨_, rfl⟩
                rw [← hwe] at BE OE ST SU b0 ⊢
                have KC : Hid (∀ W, Below we.heap.size we W → Blk wr.heap.size #[.slice a1 t.length e1, .slice a2 n.length e2] 40 W) := fun W hW => b0.later hW
                have d0 := b0.cell (i := 0) rfl
                have d1 := b0.cell (i := 1) rfl
                have bd : Below we.heap.size we we.drew := (Below.refl _ _).drew
                have JC := Lib.hid (joinS_any (ST.out.later bd) (by have := L1.out.1; omega))
                have BD := Lib.hid bd
                have RL : Hid (∀ W, Below we.heap.size we W → Calls Tryz.prog 65 #[.string (bs (Lib.join t [32])), .slice a2 n.length e2] W fun e w' => e = .returned (.string (bs (lineU (Lib.join t [32]) n))) ∧ Below W.heap.size W w') := fun W hW => ruleLine_any _ (SU.out.later hW) (by have := L1.out.1; have := join_len t; omega) (by have := L1.out.2; omega)
                clear b0 hwe bd ST SU L1 c1 c2
                generalize lineU (Lib.join t [32]) n = Y at *
                generalize Lib.join t [32] = J at *
                generalize t.length = lt at *
                generalize n.length = ln at *
                go_region_held3 (fun w' => w'.cell? ⟨wr.heap.size, 0, none⟩ = some (.slice a1 lt e1) ∧ w'.cell? ⟨wr.heap.size, 1, none⟩ = some (.slice a2 ln e2)) (first | assumption | exact ⟨d0, d1⟩ | exact ⟨k1, k2⟩ | exact ⟨k3, k4⟩ | exact ⟨k5, k6⟩ | exact ⟨k7, k8⟩ | go_keep) (first
                  | (go_at_call 66
                     refine JC.out.mono ?_
                     rintro e w1 ⟨rfl, b1⟩
                     have B1 : Hid (Below we.heap.size we w1) := BD.out.trans b1
                     have k1 := (KC.out _ B1.out).cell (i := 0) rfl
                     have k2 := (KC.out _ B1.out).cell (i := 1) rfl
                     clear b1)
                  | (go_at_call 65
                     refine (RL.out _ B1.out).mono ?_
                     rintro e w2 ⟨rfl, b2⟩
                     have B2 : Hid (Below we.heap.size we w2) := B1.out.trans (b2.mono B1.out.size)
                     have k3 := (KC.out _ B2.out).cell (i := 0) rfl
                     have k4 := (KC.out _ B2.out).cell (i := 1) rfl
                     have bb := B2.out.alloc B2.out.size (.cells #[.string (bs Y)] 9)
                     have k5 := (KC.out _ bb).cell (i := 0) rfl
                     have k6 := (KC.out _ bb).cell (i := 1) rfl
                     have ob := own_later OE.out bb
                     obtain ⟨a4, c4, w4, r4, o4, g4⟩ := app_so (x := Y) (own_later OE.out B2.out) (by omega) (by have h1 := BE.out.size; have h2 := B2.out.size; omega)
                     have bk := blk_kept (KC.out _ bb) ob NE.out g4
                     have k7 := bk.cell (i := 0) rfl
                     have k8 := bk.cell (i := 1) rfl
                     have O4 := Lib.hid o4; have R4 := Lib.hid r4
                     have B4 : Hid (Below W0.heap.size W0 w4) := (BE.out.trans (bb.mono BE.out.size)).grown g4 (by have h1 := BE.out.size; have h2 := bb.size; omega) LV.out
                     clear b2 bb ob o4 r4 g4 bk)
                  | (refine step_append_run rfl (.tmp 61) (.tmp 68) 23 rfl u3 (.slice (some ⟨w2.heap.size, 0, none⟩) 1 1) (by simp [Act.eval]) (by simp [Act.eval]) (.slice a4 (z.length + 1) c4) w4 R4.out ?_))
                all_goals go_wp2
                all_goals go_roundw
                case rel => exact ⟨k + 1, by omega, by go_num, by rw [← AS.out]; exact O4.out, B4.out⟩
                case measure => simp [intOf]; omega
              · obtain rfl : k = n4 := by omega
                rw [TR.out] at Q1
                go_wp2
                go_ret
                exact ⟨_, rfl, by rw [LE.out]; rw [LE.out] at LL LS; exact SIn.own Q1.out (by have := LL.out; show _ ≤ _; omega) (fun x hx => by have := LS.out x hx; omega), BW.out _ Q2.out⟩
      · have PS1 := PS.out hp
        have PL1 := PL.out hp
        rw [PS1] at LE
        have RL := Lib.hid (ruleLine_any phonyW (HP.out wr Q2.out) (by decide) (by have := PB.out; omega))
        go_wp2_with fail
        refine RL.out.mono ?_
        rintro e w6 ⟨rfl, b6⟩
        have B6 : Hid (Below W0.heap.size W0 w6) := Q2.out.trans (b6.mono Q2.out.size)
        have O6 : Hid (SO W0.heap.size u3 (F1.map mcL) w6) := own_later Q1.out b6
        have LV : Hid (∀ j, u3.ownBlock = some j → W0.heap.size ≤ j) := fun j hj => (Q1.out.lt j hj).1
        have LQ : (F1.map mcL ++ [lineU phonyW F2]).length ≤ 16777217 := by have := LA.out; rw [List.length_append]; simpa using this
        have ll := LA.out
        clear b6 RL LA
        generalize lineU phonyW F2 = Y at *
        generalize F1.map mcL = z at *
        have TN : Hid (∀ j u, [Value.string (bs Y)][j]? = some u → (w6.alloc (.cells #[.string (bs Y)] 9)).cell? ((⟨w6.heap.size, 0, none⟩ : Addr).add j) = some u) := cell_one' w6 (.string (bs Y)) 9
        have OA : Hid (∀ o, (w6.alloc o).ownsRow W0.heap.size 9 1 u3 z.length (z.map encStr)) := fun o => World.ownsRow.alloc O6.out o
        have SA : Hid (∀ o, W0.heap.size ≤ (w6.alloc o).heap.size) := fun o => by have := B6.out.size; simp; omega
        have BB : Hid (∀ o, Below W0.heap.size W0 (w6.alloc o)) := fun o => B6.out.alloc B6.out.size o
        have KK : Hid (∀ W, Below W0.heap.size W0 W → W.cell? ⟨w.heap.size, 2, none⟩ = some (.slice ai n3 ci)) := fun W hW => (KB.out W hW).2.2.1
        go_wp2_with (at_builtin; go_must (refine wpList_append_own _ rfl (.tmp 31) (.tmp 35) 23 rfl W0.heap.size 9 i0 (.string ByteArray.empty) 1 16 Tryz.underlying23 IH.out hz0 hz1 hz2 rfl (by decide) _ _ _ rfl (OA.out _) ⟨w6.heap.size, 0, none⟩ 1 1 [.string (bs Y)] rfl rfl TN.out (by intro u hu; simp at hu; rcases hu with rfl; rfl) (by unfold maxLen; omega) (by omega) (SA.out _) ?_; intro v5 w5 q1 q2 q3; have O5 := Lib.hid (SO.snoc q1); have Q4 := Lib.hid ((BB.out _).grown q2 (SA.out _) LV.out); clear q1 q2 q3; have k2 := KK.out _ Q4.out))
        have Q3 := O5
        clear O5 TN OA SA BB LV O6 B6 ll Q1 Q2
        generalize z ++ [Y] = L2 at *
        go_wp2_with fail
        go_loopw [3, 40] (fun s i wr => ∃ k : Nat, k ≤ n3 ∧ i = .int .i64 (k : Int) ∧ SO W0.heap.size s (L2 ++ (F3.take k).map inL) wr ∧ Below W0.heap.size W0 wr) (fun _ i _ => n3 - (intOf i).toNat)
        case atStart => exact ⟨0, Nat.zero_le _, rfl, by simpa using Q3.out, Q4.out⟩
        case round =>
          obtain ⟨k, hk, rfl, q1, q2⟩ := hrel
          have Q1 := Lib.hid q1; have Q2 := Lib.hid q2; clear q1 q2
          by_cases hkl : k < n3
          · obtain ⟨b, off, rfl, c1, c2⟩ := EI.out wr Q2.out k hkl
            have S1 := Lib.hid (SI.out k hkl)
            have L1 := LI.out k hkl
            have ll : (L2 ++ (F3.take k).map inL).length ≤ 33554433 := by have := NI.out k; rw [List.length_append]; omega
            have AS := Lib.hid (List.append_assoc L2 ((F3.take k).map inL) [lineU (f3 k ++ g3 k) []])
            generalize f3 k = xa at *
            generalize g3 k = xb at *
            rw [← S1.out] at AS
            generalize L2 ++ (F3.take k).map inL = z at *
            have BE : Hid (Below W0.heap.size W0 (wr.alloc (.cells #[.string (bs xa), .string (bs xb)] 96))) := Q2.out.alloc Q2.out.size _
            have OE : Hid (SO W0.heap.size u3 z (wr.alloc (.cells #[.string (bs xa), .string (bs xb)] 96))) := World.ownsRow.alloc Q1.out _
            have LV : Hid (∀ j, u3.ownBlock = some j → W0.heap.size ≤ j) := fun j hj => (Q1.out.lt j hj).1
            have c3 : bs xa ++ bs xb = bs (xa ++ xb) := bs_append _ _
            have s6 : (bs xa).size = xa.length := bs_size _
            have s7 : (bs xb).size = xb.length := bs_size _
            have RL := Lib.hid (ruleLine_any (w := (wr.alloc (.cells #[.string (bs xa), .string (bs xb)] 96))) (n := []) (xa ++ xb) (sin_none _) (by rw [List.length_append]; omega) (by simp [bulk]))
            generalize lineU (xa ++ xb) [] = Y at *
            generalize bs (xa ++ xb) = X1 at *
            go_wp2_with fail
            refine RL.out.mono ?_
            rintro e w6 ⟨rfl, b6⟩
            have B6 : Hid (Below W0.heap.size W0 w6) := BE.out.trans (b6.mono BE.out.size)
            have O6 : Hid (SO W0.heap.size u3 z w6) := own_later OE.out b6
            clear b6 RL
            have TN : Hid (∀ j u, [Value.string (bs Y)][j]? = some u → (w6.alloc (.cells #[.string (bs Y)] 9)).cell? ((⟨w6.heap.size, 0, none⟩ : Addr).add j) = some u) := cell_one' w6 (.string (bs Y)) 9
            have OA : Hid (∀ o, (w6.alloc o).ownsRow W0.heap.size 9 1 u3 z.length (z.map encStr)) := fun o => World.ownsRow.alloc O6.out o
            have SA : Hid (∀ o, W0.heap.size ≤ (w6.alloc o).heap.size) := fun o => by have := B6.out.size; simp; omega
            have BB : Hid (∀ o, Below W0.heap.size W0 (w6.alloc o)) := fun o => B6.out.alloc B6.out.size o
            go_wp2_with (at_builtin; go_must (refine wpList_append_own _ rfl (.tmp 44) (.tmp 51) 23 rfl W0.heap.size 9 i0 (.string ByteArray.empty) 1 16 Tryz.underlying23 IH.out hz0 hz1 hz2 rfl (by decide) _ _ _ rfl (OA.out _) ⟨w6.heap.size, 0, none⟩ 1 1 [.string (bs Y)] rfl rfl TN.out (by intro u hu; simp at hu; rcases hu with rfl; rfl) (by unfold maxLen; omega) (by omega) (SA.out _) ?_; intro v7 w7 q1 q2 q3; have O7 := Lib.hid q1; have G7 := Lib.hid q2; clear q1 q2 q3))
            go_roundw
            case rel => exact ⟨k + 1, by omega, by go_num, by rw [← AS.out]; exact SO.snoc O7.out, (BB.out _).grown G7.out (SA.out _) LV.out⟩
            case measure => simp [intOf]; omega
          · obtain rfl : k = n3 := by omega
            rw [TI.out] at Q1
            have LQ3 : (L2 ++ F3.map inL).length ≤ 33554433 := by have := LB.out; rw [List.length_append]; omega
            have Q5 := Q1; have Q6 := Q2
            clear EI LI SI NI TI Q1 Q2 LB LQ
            generalize L2 ++ F3.map inL = L3 at *
            obtain ⟨k0, k1, k2, k3⟩ := KB.out wr Q6.out
            go_wp2_with fail
            clear k0 k1 k2 k3
            go_loopw [3, 57] (fun s i wr => ∃ k : Nat, k ≤ n4 ∧ i = .int .i64 (k : Int) ∧ SO W0.heap.size s (L3 ++ (F4.take k).map rlL) wr ∧ Below W0.heap.size W0 wr) (fun _ i _ => n4 - (intOf i).toNat)
            case atStart => exact ⟨0, Nat.zero_le _, rfl, by simpa using Q5.out, Q6.out⟩
            case round =>
              obtain ⟨k, hk, rfl, q1, q2⟩ := hrel
              have Q1 := Lib.hid q1; have Q2 := Lib.hid q2; clear q1 q2
              by_cases hkl : k < n4
              · obtain ⟨b, off, T, U, rfl, c1, c2, st, su⟩ := ER.out wr Q2.out k hkl
                have S1 := Lib.hid (SR.out k hkl)
                have L1 := Lib.hid (LR.out k hkl)
                have ll : (L3 ++ (F4.take k).map rlL).length ≤ 67108866 := by have := NR.out k; rw [List.length_append]; omega
                have AS := Lib.hid (List.append_assoc L3 ((F4.take k).map rlL) [lineU (Lib.join (tg F4 k) [32]) (nd F4 k)])
                rw [← S1.out] at AS
                generalize L3 ++ (F4.take k).map rlL = z at *
                obtain ⟨a1, e1, rfl⟩ := st.shape
                obtain ⟨a2, e2, rfl⟩ := su.shape
                generalize tg F4 k = t at *
                generalize nd F4 k = n at *
                have b0 := blk_new wr #[.slice a1 t.length e1, .slice a2 n.length e2] 40
                have ba : Below wr.heap.size wr (wr.alloc (.cells #[.slice a1 t.length e1, .slice a2 n.length e2] 40)) := (Below.refl _ _).alloc (Nat.le_refl _) _
                have BE : Hid (Below W0.heap.size W0 (wr.alloc (.cells #[.slice a1 t.length e1, .slice a2 n.length e2] 40))) := Q2.out.alloc Q2.out.size _
                have OE : Hid (SO W0.heap.size u3 z (wr.alloc (.cells #[.slice a1 t.length e1, .slice a2 n.length e2] 40))) := World.ownsRow.alloc Q1.out _
                have LV : Hid (∀ j, u3.ownBlock = some j → W0.heap.size ≤ j) := fun j hj => (Q1.out.lt j hj).1
                have ST := Lib.hid (st.later ba)
                have SU := Lib.hid (su.later ba)
                have NE := Lib.hid (show 40 ≠ 9 by decide)
                clear st su ba Q1
                go_wp2_with fail
                obtain ⟨we, hwe⟩ : ∃ we, we = wr.alloc (.cells #[.slice a1 t.length e1, .slice a2 n.length e2] 40) := ⟨_, rfl⟩
                rw [← hwe] at BE OE ST SU b0 ⊢
                have KC : Hid (∀ W, Below we.heap.size we W → Blk wr.heap.size #[.slice a1 t.length e1, .slice a2 n.length e2] 40 W) := fun W hW => b0.later hW
                have d0 := b0.cell (i := 0) rfl
                have d1 := b0.cell (i := 1) rfl
                have bd : Below we.heap.size we we.drew := (Below.refl _ _).drew
                have JC := Lib.hid (joinS_any (ST.out.later bd) (by have := L1.out.1; omega))
                have BD := Lib.hid bd
                have RL : Hid (∀ W, Below we.heap.size we W → Calls Tryz.prog 65 #[.string (bs (Lib.join t [32])), .slice a2 n.length e2] W fun e w' => e = .returned (.string (bs (lineU (Lib.join t [32]) n))) ∧ Below W.heap.size W w') := fun W hW => ruleLine_any _ (SU.out.later hW) (by have := L1.out.1; have := join_len t; omega) (by have := L1.out.2; omega)
                clear b0 hwe bd ST SU L1 c1 c2
                generalize lineU (Lib.join t [32]) n = Y at *
                generalize Lib.join t [32] = J at *
                generalize t.length = lt at *
                generalize n.length = ln at *
                go_region_held3 (fun w' => w'.cell? ⟨wr.heap.size, 0, none⟩ = some (.slice a1 lt e1) ∧ w'.cell? ⟨wr.heap.size, 1, none⟩ = some (.slice a2 ln e2)) (first | assumption | exact ⟨d0, d1⟩ | exact ⟨k1, k2⟩ | exact ⟨k3, k4⟩ | exact ⟨k5, k6⟩ | exact ⟨k7, k8⟩ | go_keep) (first
                  | (go_at_call 66
                     refine JC.out.mono ?_
                     rintro e w1 ⟨rfl, b1⟩
                     have B1 : Hid (Below we.heap.size we w1) := BD.out.trans b1
                     have k1 := (KC.out _ B1.out).cell (i := 0) rfl
                     have k2 := (KC.out _ B1.out).cell (i := 1) rfl
                     clear b1)
                  | (go_at_call 65
                     refine (RL.out _ B1.out).mono ?_
                     rintro e w2 ⟨rfl, b2⟩
                     have B2 : Hid (Below we.heap.size we w2) := B1.out.trans (b2.mono B1.out.size)
                     have k3 := (KC.out _ B2.out).cell (i := 0) rfl
                     have k4 := (KC.out _ B2.out).cell (i := 1) rfl
                     have bb := B2.out.alloc B2.out.size (.cells #[.string (bs Y)] 9)
                     have k5 := (KC.out _ bb).cell (i := 0) rfl
                     have k6 := (KC.out _ bb).cell (i := 1) rfl
                     have ob := own_later OE.out bb
                     obtain ⟨a4, c4, w4, r4, o4, g4⟩ := app_so (x := Y) (own_later OE.out B2.out) (by omega) (by have h1 := BE.out.size; have h2 := B2.out.size; omega)
                     have bk := blk_kept (KC.out _ bb) ob NE.out g4
                     have k7 := bk.cell (i := 0) rfl
                     have k8 := bk.cell (i := 1) rfl
                     have O4 := Lib.hid o4; have R4 := Lib.hid r4
                     have B4 : Hid (Below W0.heap.size W0 w4) := (BE.out.trans (bb.mono BE.out.size)).grown g4 (by have h1 := BE.out.size; have h2 := bb.size; omega) LV.out
                     clear b2 bb ob o4 r4 g4 bk)
                  | (refine step_append_run rfl (.tmp 61) (.tmp 68) 23 rfl u3 (.slice (some ⟨w2.heap.size, 0, none⟩) 1 1) (by simp [Act.eval]) (by simp [Act.eval]) (.slice a4 (z.length + 1) c4) w4 R4.out ?_))
                all_goals go_wp2
                all_goals go_roundw
                case rel => exact ⟨k + 1, by omega, by go_num, by rw [← AS.out]; exact O4.out, B4.out⟩
                case measure => simp [intOf]; omega
              · obtain rfl : k = n4 := by omega
                rw [TR.out] at Q1
                go_wp2
                go_ret
                exact ⟨_, rfl, by rw [LE.out]; rw [LE.out] at LL LS; exact SIn.own Q1.out (by have := LL.out; show _ ≤ _; omega) (fun x hx => by have := LS.out x hx; omega), BW.out _ Q2.out⟩
end Go.Proofs.YtebjofffijnihaaGreatDoor
