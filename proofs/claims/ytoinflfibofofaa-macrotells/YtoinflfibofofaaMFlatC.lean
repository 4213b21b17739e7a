/-
  Package macro's Flat; slices.Equal of the same macros. Condition: the macros' strings have at most 2^32 bytes.
-/
import Derived.Test.YtoinflfibofofaaMAll
import Derived.Test.YtoinflfibofofaaMClone
import Derived.Laws.StructEq
namespace Go.Proofs.Ytoinflfibofofaa
set_option linter.unusedVariables false
open Go.ChangeShapes Go.WideShapes Go.ChangeAt Go.RowKit

set_option maxHeartbeats 1000000 in
theorem eqm_same (z : List Mc) (v u : Value) (w : World) (hv : McIn w v z) (hu : McIn w u z) :
    Calls Try.prog 17 #[v, u] w fun e w' => e = .returned (.bool true) ∧ Below w.heap.size w w' := by
  have hn : z.length ≤ 8796093022208 := by obtain ⟨_, _, _, _, _, h4, _⟩ := hv; exact h4
  rcases hv.open with ⟨rfl, a, cap, rfl⟩ | ⟨hp, b, off, cap, rfl, hcap, hlt, hc⟩
  · rcases hu.open with ⟨_, a2, cap2, rfl⟩ | ⟨hp, _⟩
    · clear hv hu
      go_enter Try.func17, Try.ntmps17
      go_wp2_with fail
      go_rounds 1
      go_ret
      exact ⟨rfl, Below.refl _ _⟩
    · exact absurd hp (by simp)
  · rcases hu.open with ⟨rfl, _⟩ | ⟨_, b2, off2, cap2, rfl, hcap2, hlt2, hc2⟩
    · exact absurd hp (by simp)
    · have H1 : Hid (∀ k, k < z.length → w.cell? ⟨b, off + k * 2, none⟩ = some (.string (bs (nm z k))) ∧ w.cell? ⟨b, off + k * 2 + 1, none⟩ = some (.string (bs (vl z k)))) := fun k hk => hc k _ (at_some hk)
      have H2 : Hid (∀ k, k < z.length → w.cell? ⟨b2, off2 + k * 2, none⟩ = some (.string (bs (nm z k))) ∧ w.cell? ⟨b2, off2 + k * 2 + 1, none⟩ = some (.string (bs (vl z k)))) := fun k hk => hc2 k _ (at_some hk)
      have BB : Hid (∀ a : Str, ((bs a).toList == (bs a).toList) = true) := fun a => by simp
      clear hv hu hc hc2 hlt hlt2
      generalize nm z = f at *
      generalize vl z = g at *
      go_enter Try.func17, Try.ntmps17
      go_wp2_with fail
      go_loopw [13] (fun i wr => ∃ k : Nat, k ≤ z.length ∧ i = .int .i64 k ∧ ∃ m, wr = w.drewN m) (fun i _ => z.length - (intOf i).toNat)
      case atStart => exact ⟨0, Nat.zero_le _, rfl, 0, rfl⟩
      case round =>
        obtain ⟨k, hk, rfl, m, rfl⟩ := hrel
        by_cases hkl : k < z.length
        · obtain ⟨c1, c2⟩ := H1.out k hkl
          obtain ⟨c3, c4⟩ := H2.out k hkl
          have e1 := BB.out (f k)
          have e2 := BB.out (g k)
          go_wp2_with fail
          go_quiet (fail)
          go_wp2
          go_roundw
          case rel => exact ⟨k + 1, by omega, by go_num, _, rfl⟩
          case measure => simp [intOf]; omega
        · go_wp2
          go_ret
          exact ⟨rfl, below_drewN (Below.refl _ _) _⟩

def flatL (f : Str → Option Str) (z : List Mc) : List Mc := z.map fun m => (m.1, (f m.1).getD [])
theorem flatL_at (f : Str → Option Str) {z : List Mc} {k : Nat} (h : k < z.length) : (flatL f z).take (k + 1) = (flatL f z).take k ++ [(nm z k, (f (nm z k)).getD [])] := by
  unfold flatL
  rw [List.take_add_one, List.getElem?_map, at_some h]; rfl
theorem zeros_row (n : Nat) : (madeCells (Value.agg #[.string ByteArray.empty, .string ByteArray.empty]).cells (n * 2)).toList = mcCells (List.replicate n ([], [])) := by
  have h1 : (madeCells (Value.agg #[.string ByteArray.empty, .string ByteArray.empty]).cells (n * 2)).toList = List.replicate (n * 2) (.string ByteArray.empty) := by
    rw [List.eq_replicate_iff]
    refine ⟨by simp [madeCells], fun b hb => ?_⟩
    obtain ⟨j, hj⟩ := List.mem_iff_getElem?.1 hb
    simp [madeCells, Value.cells] at hj
    obtain ⟨i, _, h2⟩ := hj
    rw [← h2]
    rcases Nat.mod_two_eq_zero_or_one i with e | e <;> simp [e]
  have h2 : mcCells (List.replicate n ([], [])) = List.replicate (n * 2) (.string ByteArray.empty) := by
    rw [List.eq_replicate_iff]
    refine ⟨by rw [mcCells_length, List.length_replicate], fun b hb => ?_⟩
    obtain ⟨j, hj⟩ := List.mem_iff_getElem?.1 hb
    obtain ⟨k, x, hx, (⟨_, rfl⟩ | ⟨_, rfl⟩)⟩ := mcCells_inv _ j b hj <;> (have := List.eq_of_mem_replicate (List.mem_of_getElem? hx); subst this; rfl)
  rw [h1, h2]
/-- what Flat hands back -/
def FPost (z : List Mc) (w : World) (e : Ending) (w' : World) : Prop :=
  Below w.heap.size w w' ∧ ((Fine z ∧ ∃ o f v, (∀ m, m ∈ o ↔ m ∈ z) ∧ FE z o f ∧ McIn w' v (flatL f z) ∧ e = .returned (.tuple #[v, .int .i64 0])) ∨ ∃ E, XErr z E ∧ e = .returned (.tuple #[.slice none 0 0, .int .i64 E]))
set_option maxHeartbeats 4000000 in
set_option maxRecDepth 100000 in
theorem flat_any (z : List Mc) (v : Value) (w : World) (h : McIn w v z) (hx : ∀ m ∈ z, m.1.length ≤ maxLen ∧ m.2.length ≤ 4294967296) :
    Calls Try.prog 9 #[v] w (FPost z w) := by
  have AL := Lib.hid (all_any z v w h hx)
  have HM := Lib.hid h
  have HX := Lib.hid hx
  clear hx
  obtain ⟨a, cap, rfl, _⟩ := h
  go_enter Try.func9, Try.ntmps9
  go_wp2_with fail
  refine AL.out.mono ?_
  rintro e w1 ⟨hb, (⟨hF, o, f, mb, n, ho, hE, hM, hmb, rfl⟩ | ⟨E, hE, rfl⟩)⟩
  · have B1 := Lib.hid hb; have FF := Lib.hid hF; have HO := Lib.hid ho; have HE := Lib.hid hE; have MB := Lib.hid hM
    have MZ := Lib.hid (HM.out.later hb)
    have ZL : Hid (z.length ≤ 40) := hF.1
    have zl := hF.1
    obtain ⟨i0, hi, hz0, hz1, hz2⟩ := info_parts infoMc
    obtain ⟨w2, r2, o2, g2⟩ := run_make_full (P := Try.prog) w1 w1.heap.size 22 25 i0 (.agg #[.string ByteArray.empty, .string ByteArray.empty]) 2 Try.underlying22 hi hz0 hz1 .i64 .i64 z.length (by rw [hz2]; omega) (by unfold maxLen; omega) (Nat.le_refl _)
    rw [zeros_row] at o2
    have O2 : Hid (MO w1.heap.size (.slice (some ⟨w1.heap.size, 0, none⟩) z.length z.length) (List.replicate z.length ([], [])) w2) := by
      show World.ownsRow _ _ _ _ _ _ _
      rw [List.length_replicate]; exact o2
    have B2 : Hid (Below w1.heap.size w1 w2) := (Below.refl _ _).grown g2 (Nat.le_refl _) (fun k hk => by cases hk)
    have BW : Hid (∀ W, Below w1.heap.size w1 W → Below w.heap.size w W) := fun W hW => B1.out.trans (hW.mono B1.out.size)
    have ML : Hid (mb < w1.heap.size) := hM.lt
    clear hb hF ho hE hM hmb AL HM o2 g2 hi hz0 hz1 hz2
    rcases MZ.out.open with ⟨rfl, _, _, _⟩ | ⟨hp, b, off, cap', e1, hcap, hlt, hc⟩
    · have r3 : (Instr.makeSlice 22 (.int .i64 0) (.int .i64 0)).run Try.prog w1 = .ok (.slice (some ⟨w1.heap.size, 0, none⟩) 0 0) w2 := r2
      clear r2
      go_wp2_with fail
      go_rounds 1
      go_ret2
      exact ⟨BW.out _ B2.out, .inl ⟨FF.out, o, f, _, HO.out, HE.out, ⟨_, _, rfl, Nat.le_refl _, Nat.zero_le _, Nat.zero_le _, .inl rfl⟩, rfl⟩⟩
    · obtain ⟨rfl, rfl⟩ : a = some ⟨b, off, none⟩ ∧ cap = cap' := by simpa using e1
      have HC : Hid (∀ W, Below w1.heap.size w1 W → ∀ k, k < z.length → W.cell? ⟨b, off + k * 2, none⟩ = some (.string (bs (nm z k))) ∧ W.cell? ⟨b, off + k * 2 + 1, none⟩ = some (.string (bs (vl z k)))) := fun W hW k hk => ⟨cell_later hW (hc k _ (at_some hk)).1, cell_later hW (hc k _ (at_some hk)).2⟩
      have HL : Hid (∀ k, k < z.length → (nm z k).length ≤ maxLen) := fun k hk => (HX.out _ (mem_at hk)).1
      have TK : Hid (∀ k, k < z.length → (flatL f z).take (k + 1) = (flatL f z).take k ++ [(nm z k, (f (nm z k)).getD [])]) := fun k hk => flatL_at f hk
      have HP : Hid (∀ (q : List Mc) (w' : World), q.length = z.length → MO w1.heap.size (.slice (some ⟨w1.heap.size, 0, none⟩) z.length z.length) q w' → ∀ k, k < z.length → (w'.cell? ⟨w1.heap.size, k * 2, none⟩ = some (.string (bs (nm q k))) ∧ w'.cell? ⟨w1.heap.size, k * 2 + 1, none⟩ = some (.string (bs (vl q k)))) ∧ ∀ j, w'.frozen? ⟨w1.heap.size, j, none⟩ = false) := fun q w' hq hm k hk => ⟨hm.cell (by omega), fun j => by unfold MO at hm; rw [hq] at hm; exact World.ownsRow.frozenAt hm j⟩
      clear e1 hc hlt
      generalize nm z = p1 at *
      generalize vl z = p2 at *
      go_wp2_with fail
      go_loopw [22] (fun i wr => ∃ (k : Nat) (q : List Mc), k ≤ z.length ∧ i = .int .i64 (k : Int) ∧ q.length = z.length ∧ q.take k = (flatL f z).take k ∧ MO w1.heap.size (.slice (some ⟨w1.heap.size, 0, none⟩) z.length z.length) q wr ∧ Below w1.heap.size w1 wr) (fun i _ => z.length - (intOf i).toNat)
      case atStart => exact ⟨0, _, Nat.zero_le _, rfl, List.length_replicate, rfl, O2.out, B2.out⟩
      case round =>
        obtain ⟨k, q, hk, rfl, hq, q1, q2, q3⟩ := hrel
        have Q0 := Lib.hid hq; have Q1 := Lib.hid q1; have Q2 := Lib.hid q2; have Q3 := Lib.hid q3; clear q1 q2 q3 hq
        by_cases hk2 : k < z.length
        · obtain ⟨c1, c2⟩ := HC.out wr Q3.out k hk2
          have X1 := Lib.hid (HL.out k hk2)
          have T1 := Lib.hid (TK.out k hk2)
          have BA : Hid (Below w1.heap.size w1 (wr.alloc (.cells #[.string (bs (p1 k)), .string (bs (p2 k))] 25))) := Q3.out.alloc Q3.out.size _
          have QA : Hid (MO w1.heap.size (.slice (some ⟨w1.heap.size, 0, none⟩) z.length z.length) q (wr.alloc (.cells #[.string (bs (p1 k)), .string (bs (p2 k))] 25))) := World.ownsRow.alloc Q2.out _
          obtain ⟨⟨d1, d2⟩, fz⟩ := HP.out q _ Q0.out QA.out k hk2
          have f1 := fz (k * 2)
          have f2 := fz (k * 2 + 1)
          have l1 := (MB.out.later BA.out).look (t := 50) (e := 9) (z := .string (bs [])) (x := p1 k) Try.underlying50 (Try.zeroValue9 _) X1.out
          rw [show (fT f (p1 k)).getD (.string (bs [])) = .string (bs ((f (p1 k)).getD [])) by unfold fT; cases f (p1 k) <;> rfl] at l1
          have PU : Hid (MO w1.heap.size (.slice (some ⟨w1.heap.size, 0, none⟩) z.length z.length) (q.set k (p1 k, (f (p1 k)).getD [])) (((wr.alloc (.cells #[.string (bs (p1 k)), .string (bs (p2 k))] 25)).setCell ⟨w1.heap.size, k * 2, none⟩ (.string (bs (p1 k)))).setCell ⟨w1.heap.size, k * 2 + 1, none⟩ (.string (bs ((f (p1 k)).getD []))))) := by
            have h1 := QA.out
            rw [← Q0.out] at h1 ⊢
            exact MO.put h1 (k := k) (by have := Q0.out; omega) _ _
          generalize p1 k = x at *
          generalize p2 k = y at *
          generalize (f x).getD [] = t at *
          clear fz
          go_wp2
          go_roundw
          case rel =>
            refine ⟨k + 1, _, by omega, by go_num, by rw [List.length_set]; exact Q0.out, ?_, PU.out, (BA.out.setCell (Nat.le_refl _) _).setCell (Nat.le_refl _) _⟩
            rw [T1.out, ← Q1.out, List.take_add_one, List.getElem?_set_self (by have := Q0.out; omega), List.take_set_of_le (Nat.le_refl _)]
            rfl
          case measure => simp [intOf]; omega
        · obtain rfl : k = z.length := by omega
          have FL : Hid (McIn wr (.slice (some ⟨w1.heap.size, 0, none⟩) z.length z.length) (flatL f z)) := by
            have e1 := Q1.out
            have e2 : q = flatL f z := by
              rw [← Q0.out, List.take_length, Q0.out, show z.length = (flatL f z).length by unfold flatL; rw [List.length_map], List.take_length] at e1
              exact e1
            rw [← e2]
            exact McIn.own Q2.out (by have := Q0.out; have := ZL.out; omega)
          go_wp2
          go_ret2
          exact ⟨BW.out _ Q3.out, .inl ⟨FF.out, o, f, _, HO.out, HE.out, FL.out, rfl⟩⟩
  · have B1 := Lib.hid hb; have HE := Lib.hid hE
    have t1 : (E != 0) = true := by simpa using hE.bad.2
    clear hb hE AL
    go_wp2
    go_ret2
    exact ⟨B1.out, .inr ⟨E, HE.out, rfl⟩⟩
end Go.Proofs.Ytoinflfibofofaa
