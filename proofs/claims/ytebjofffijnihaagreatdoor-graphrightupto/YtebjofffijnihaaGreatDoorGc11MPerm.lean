/-
  Macros in another order, and with one more: in plain words. No condition.
  slices.Clone of macros. Condition: at most 1048576 macros.
  Package macro's Flat; slices.Equal of the same macros. Condition: the macros' strings have at most 2^32 bytes.
  What the reference's GoodName, GoodNames and Place answer. No condition but those of the slices.
  What the reference's Rising answers: the strings sorted, each once. Condition: at most 4194304 of them.
-/
import Derived.Test.YtebjofffijnihaaGreatDoorGc10NFind
import Derived.Test.YtebjofffijnihaaGreatDoorGc6MRep
import Derived.Test.YtebjofffijnihaaGreatDoorGc5MBy
import Derived.Laws.StructEq
import Derived.Deep.RegionLaw
import Derived.Deep.AppendSrc
namespace Go.Proofs.YtebjofffijnihaaGreatDoor
set_option maxRecDepth 100000
set_option linter.unusedVariables false

theorem names_perm {z y : List Mc} (h : y.Perm z) (hd : (names z).Nodup) : (names y).Nodup := (List.Perm.map (Prod.fst (α := Str) (β := Str)) h).nodup_iff.2 hd
theorem look_perm {z y : List Mc} (h : y.Perm z) (hd : (names z).Nodup) (x : Str) : look y x = look z x := by
  cases e : look z x with
  | some v =>
    have := look_of (names_perm h hd) (m := (x, v)) (h.mem_iff.2 (look_mem e))
    exact this
  | none =>
    cases e2 : look y x with
    | none => rfl
    | some v =>
      have := look_of hd (m := (x, v)) (h.mem_iff.1 (look_mem e2))
      rw [show look z x = some v from this] at e
      cases e
theorem ev_perm {z y : List Mc} (h : y.Perm z) (hd : (names z).Nodup) : ∀ k : Nat, ev y k = ev z k
  | 0 => rfl
  | k + 1 => by
    funext x
    rw [ev, ev, look_perm h hd, ev_perm h hd k]
theorem Fine.perm {z y : List Mc} (h : y.Perm z) (F : Fine z) : Fine y := by
  obtain ⟨h1, h2, h3, k, h4⟩ := F
  exact ⟨by rw [h.length_eq]; exact h1, names_perm h h2, fun m hm => h3 m (h.mem_iff.1 hm), k, fun m hm => by rw [ev_perm h h2]; exact h4 m (h.mem_iff.1 hm)⟩
theorem Exp.perm {z y : List Mc} {s t : Str} (h : y.Perm z) (E : Exp z s t) : Exp y s t := by
  obtain ⟨F, k, e⟩ := E
  exact ⟨F.perm h, k, by rw [ev_perm h F.2.1]; exact e⟩
theorem look_more {z : List Mc} (x : Mc) {n v : Str} (h : look z n = some v) : look (z ++ [x]) n = some v := by
  unfold look at h ⊢
  rw [List.find?_append]
  cases e : z.find? fun m => m.1 == n with
  | none => rw [e] at h; cases h
  | some m => rw [e] at h; exact h
theorem ev_more {z : List Mc} (x : Mc) : ∀ (k : Nat) (n t : Str), ev z k n = some t → ev (z ++ [x]) k n = some t
  | 0, n, t, h => by cases h
  | k + 1, n, t, h => by
    rw [ev] at h ⊢
    cases hl : look z n with
    | none => rw [hl] at h; cases h
    | some v => rw [hl] at h; rw [look_more x hl]; rw [Option.bind_some] at h ⊢; exact val_mono (ev_more x k) h
theorem Exp.more {z : List Mc} {x : Mc} {s a b : Str} (h : Exp z s a) (g : Exp (z ++ [x]) s b) : a = b := by
  obtain ⟨_, k, h⟩ := h
  obtain ⟨F, j, g⟩ := g
  exact Exp.one ⟨F, k, val_mono (ev_more x k) h⟩ ⟨F, j, g⟩
end Go.Proofs.YtebjofffijnihaaGreatDoor
namespace Go.Proofs.YtebjofffijnihaaGreatDoor
set_option maxRecDepth 100000
set_option linter.unusedVariables false
open Go.ChangeShapes Go.WideShapes Go.ChangeAt Go.RowKit

theorem mcCells_inv : ∀ (z : List Mc) (j : Nat) (u : Value), (mcCells z)[j]? = some u → ∃ k x, z[k]? = some x ∧ ((j = k * 2 ∧ u = .string (bs x.1)) ∨ (j = k * 2 + 1 ∧ u = .string (bs x.2)))
  | [], j, u, h => by simp [mcCells] at h
  | y :: t, 0, u, h => by simp [mcCells, encMc] at h; exact ⟨0, y, rfl, .inl ⟨rfl, h.symm⟩⟩
  | y :: t, 1, u, h => by simp [mcCells, encMc] at h; exact ⟨0, y, rfl, .inr ⟨rfl, h.symm⟩⟩
  | y :: t, j + 2, u, h => by
    have e : mcCells (y :: t) = .string (bs y.1) :: .string (bs y.2) :: mcCells t := by simp [mcCells, encMc]
    rw [e] at h
    obtain ⟨k, x, h1, h2⟩ := mcCells_inv t j u (by simpa using h)
    refine ⟨k + 1, x, by simpa using h1, ?_⟩
    rcases h2 with ⟨h2, h3⟩ | ⟨h2, h3⟩
    · exact .inl ⟨by omega, h3⟩
    · exact .inr ⟨by omega, h3⟩
theorem mcCells_one (z : List Mc) : ∀ u ∈ mcCells z, u.oneCell' = true := by
  intro u hu
  obtain ⟨j, hj⟩ := List.mem_iff_getElem?.1 hu
  obtain ⟨k, x, _, (⟨_, rfl⟩ | ⟨_, rfl⟩)⟩ := mcCells_inv z j u hj <;> rfl
theorem mcCells_set : ∀ (p : List Mc) (i : Nat) (x y : Str), i < p.length → mcCells (p.set i (x, y)) = ((mcCells p).set (i * 2) (.string (bs x))).set (i * 2 + 1) (.string (bs y))
  | [], i, x, y, h => by simp at h
  | a :: t, 0, x, y, h => by simp [mcCells, encMc]
  | a :: t, i + 1, x, y, h => by
    have ih := mcCells_set t i x y (by simpa using h)
    have e : ∀ (a : Mc) (t : List Mc), mcCells (a :: t) = .string (bs a.1) :: .string (bs a.2) :: mcCells t := fun a t => by simp [mcCells, encMc]
    rw [List.set_cons_succ, e, e, ih, show (i + 1) * 2 = (i * 2) + 1 + 1 by omega, List.set_cons_succ, List.set_cons_succ, List.set_cons_succ, List.set_cons_succ]
theorem MO.cell {B g n cap : Nat} {p : List Mc} {w : World} (h : MO B (.slice (some ⟨g, 0, none⟩) n cap) p w) {k : Nat} (hk : k < p.length) : w.cell? ⟨g, k * 2, none⟩ = some (.string (bs (nm p k))) ∧ w.cell? ⟨g, k * 2 + 1, none⟩ = some (.string (bs (vl p k))) := by
  have hc := World.ownsRow.cells h (g := g) rfl
  obtain ⟨h1, h2⟩ := mcCells_at p k _ (at_some hk)
  have e1 := hc _ _ h1
  have e2 := hc _ _ h2
  rw [add_off] at e1 e2
  exact ⟨e1, e2⟩
theorem MO.put {B g cap : Nat} {p : List Mc} {w : World} (h : MO B (.slice (some ⟨g, 0, none⟩) p.length cap) p w) {k : Nat} (hk : k < p.length) (x y : Str) :
    MO B (.slice (some ⟨g, 0, none⟩) p.length cap) (p.set k (x, y)) ((w.setCell ⟨g, k * 2, none⟩ (.string (bs x))).setCell ⟨g, k * 2 + 1, none⟩ (.string (bs y))) := by
  unfold MO at h ⊢
  rw [List.length_set, mcCells_set p k x y hk]
  have h1 := (h.stored (k * 2) (.string (bs x))).1
  exact (h1.stored (k * 2 + 1) (.string (bs y))).1
theorem McIn.cells {w : World} {b off n cap : Nat} {z : List Mc} (hc : ∀ k x, z[k]? = some x → w.cell? ⟨b, off + k * 2, none⟩ = some (.string (bs x.1)) ∧ w.cell? ⟨b, off + k * 2 + 1, none⟩ = some (.string (bs x.2))) :
    ∀ j u, (mcCells z)[j]? = some u → w.cell? ⟨b, off + j, none⟩ = some u := by
  intro j u hj
  obtain ⟨k, x, h1, (⟨rfl, rfl⟩ | ⟨rfl, rfl⟩)⟩ := mcCells_inv z j u hj
  · exact (hc k x h1).1
  · exact (hc k x h1).2
end Go.Proofs.YtebjofffijnihaaGreatDoor
namespace Go.Proofs.YtebjofffijnihaaGreatDoor
set_option maxRecDepth 100000
set_option linter.unusedVariables false
open Go.ChangeShapes Go.WideShapes Go.ChangeAt Go.RowKit

set_option maxHeartbeats 1000000 in
theorem eqm_same (z : List Mc) (v u : Value) (w : World) (hv : McIn w v z) (hu : McIn w u z) :
    Calls Tryz.prog 71 #[v, u] w fun e w' => e = .returned (.bool true) ∧ Below w.heap.size w w' := by
  have hn : z.length ≤ 8796093022208 := by obtain ⟨_, _, _, _, _, h4, _⟩ := hv; exact h4
  rcases hv.open with ⟨rfl, a, cap, rfl⟩ | ⟨hp, b, off, cap, rfl, hcap, hlt, hc⟩
  · rcases hu.open with ⟨_, a2, cap2, rfl⟩ | ⟨hp, _⟩
    · clear hv hu
      go_enter Tryz.func71, Tryz.ntmps71
      go_wp2_with fail
      go_rounds 1
      go_ret
      exact ⟨rfl, Below.refl _ _⟩
    · exact absurd hp (by simp)
  · rcases hu.open with ⟨rfl, _⟩ | ⟨_, b2, off2, cap2, rfl, hcap2, hlt2, hc2⟩
    · exact absurd hp (by simp)
    · have H1 : Hid (∀ k, k < z.length → w.cell? ⟨b, off + k * 2, none⟩ = some (.string (bs (nm z k))) ∧ w.cell? ⟨b, off + k * 2 + 1, none⟩ = some (.string (bs (vl z k)))) := fun k hk => hc k _ (at_some hk)
      have H2 : Hid (∀ k, k < z.length → w.cell? ⟨b2, off2 + k * 2, none⟩ = some (.string (bs (nm z k))) ∧ w.cell? ⟨b2, off2 + k * 2 + 1, none⟩ = some (.string (bs (vl z k)))) := fun k hk => hc2 k _ (at_some hk)
      have BB : Hid (∀ a : Str, ((bs a).toList == (bs a).toList) = true) := fun a => by simp
      clear hv hu hc hc2 hlt hlt2
      generalize nm z = f at *
      generalize vl z = g at *
      go_enter Tryz.func71, Tryz.ntmps71
      go_wp2_with fail
      go_loopw [13] (fun i wr => ∃ k : Nat, k ≤ z.length ∧ i = .int .i64 k ∧ ∃ m, wr = w.drewN m) (fun i _ => z.length - (intOf i).toNat)
      case atStart => exact ⟨0, Nat.zero_le _, rfl, 0, rfl⟩
      case round =>
        obtain ⟨k, hk, rfl, m, rfl⟩ := hrel
        by_cases hkl : k < z.length
        · obtain ⟨c1, c2⟩ := H1.out k hkl
          obtain ⟨c3, c4⟩ := H2.out k hkl
          have e1 := BB.out (f k)
          have e2 := BB.out (g k)
          go_wp2_with fail
          go_quiet (fail)
          go_wp2
          go_roundw
          case rel => exact ⟨k + 1, by omega, by go_num, _, rfl⟩
          case measure => simp [intOf]; omega
        · go_wp2
          go_ret
          exact ⟨rfl, below_drewN (Below.refl _ _) _⟩

def flatL (f : Str → Option Str) (z : List Mc) : List Mc := z.map fun m => (m.1, (f m.1).getD [])
theorem flatL_at (f : Str → Option Str) {z : List Mc} {k : Nat} (h : k < z.length) : (flatL f z).take (k + 1) = (flatL f z).take k ++ [(nm z k, (f (nm z k)).getD [])] := by
  unfold flatL
  rw [List.take_add_one, List.getElem?_map, at_some h]; rfl
theorem zeros_row (n : Nat) : (madeCells (Value.agg #[.string ByteArray.empty, .string ByteArray.empty]).cells (n * 2)).toList = mcCells (List.replicate n ([], [])) := by
  have h1 : (madeCells (Value.agg #[.string ByteArray.empty, .string ByteArray.empty]).cells (n * 2)).toList = List.replicate (n * 2) (.string ByteArray.empty) := by
    rw [List.eq_replicate_iff]
    refine ⟨by simp [madeCells], fun b hb => ?_⟩
    obtain ⟨j, hj⟩ := List.mem_iff_getElem?.1 hb
    simp [madeCells, Value.cells] at hj
    obtain ⟨i, _, h2⟩ := hj
    rw [← h2]
    rcases Nat.mod_two_eq_zero_or_one i with e | e <;> simp [e]
  have h2 : mcCells (List.replicate n ([], [])) = List.replicate (n * 2) (.string ByteArray.empty) := by
    rw [List.eq_replicate_iff]
    refine ⟨by rw [mcCells_length, List.length_replicate], fun b hb => ?_⟩
    obtain ⟨j, hj⟩ := List.mem_iff_getElem?.1 hb
    obtain ⟨k, x, hx, (⟨_, rfl⟩ | ⟨_, rfl⟩)⟩ := mcCells_inv _ j b hj <;> (have := List.eq_of_mem_replicate (List.mem_of_getElem? hx); subst this; rfl)
  rw [h1, h2]
/-- what Flat hands back -/
def FPost (z : List Mc) (w : World) (e : Ending) (w' : World) : Prop :=
  Below w.heap.size w w' ∧ ((Fine z ∧ ∃ o f v, (∀ m, m ∈ o ↔ m ∈ z) ∧ FE z o f ∧ McIn w' v (flatL f z) ∧ e = .returned (.tuple #[v, .int .i64 0])) ∨ ∃ E, XErr z E ∧ e = .returned (.tuple #[.slice none 0 0, .int .i64 E]))
set_option maxHeartbeats 4000000 in
set_option maxRecDepth 100000 in
theorem flat_any (z : List Mc) (v : Value) (w : World) (h : McIn w v z) (hx : ∀ m ∈ z, m.1.length ≤ maxLen ∧ m.2.length ≤ 4294967296) :
    Calls Tryz.prog 68 #[v] w (FPost z w) := by
  have AL := Lib.hid (all_any z v w h hx)
  have HM := Lib.hid h
  have HX := Lib.hid hx
  clear hx
  obtain ⟨a, cap, rfl, _⟩ := h
  go_enter Tryz.func68, Tryz.ntmps68
  go_wp2_with fail
  refine AL.out.mono ?_
  rintro e w1 ⟨hb, (⟨hF, o, f, mb, n, ho, hE, hM, hmb, rfl⟩ | ⟨E, hE, rfl⟩)⟩
  · have B1 := Lib.hid hb; have FF := Lib.hid hF; have HO := Lib.hid ho; have HE := Lib.hid hE; have MB := Lib.hid hM
    have MZ := Lib.hid (HM.out.later hb)
    have ZL : Hid (z.length ≤ 40) := hF.1
    have zl := hF.1
    obtain ⟨i0, hi, hz0, hz1, hz2⟩ := info_parts infoMc
    obtain ⟨w2, r2, o2, g2⟩ := run_make_full (P := Tryz.prog) w1 w1.heap.size 22 109 i0 (.agg #[.string ByteArray.empty, .string ByteArray.empty]) 2 Tryz.underlying22 hi hz0 hz1 .i64 .i64 z.length (by rw [hz2]; omega) (by unfold maxLen; omega) (Nat.le_refl _)
    rw [zeros_row] at o2
    have O2 : Hid (MO w1.heap.size (.slice (some ⟨w1.heap.size, 0, none⟩) z.length z.length) (List.replicate z.length ([], [])) w2) := by
      show World.ownsRow _ _ _ _ _ _ _
      rw [List.length_replicate]; exact o2
    have B2 : Hid (Below w1.heap.size w1 w2) := (Below.refl _ _).grown g2 (Nat.le_refl _) (fun k hk => by cases hk)
    have BW : Hid (∀ W, Below w1.heap.size w1 W → Below w.heap.size w W) := fun W hW => B1.out.trans (hW.mono B1.out.size)
    have ML : Hid (mb < w1.heap.size) := hM.lt
    clear hb hF ho hE hM hmb AL HM o2 g2 hi hz0 hz1 hz2
    rcases MZ.out.open with ⟨rfl, _, _, _⟩ | ⟨hp, b, off, cap', e1, hcap, hlt, hc⟩
    · have r3 : (Instr.makeSlice 22 (.int .i64 0) (.int .i64 0)).run Tryz.prog w1 = .ok (.slice (some ⟨w1.heap.size, 0, none⟩) 0 0) w2 := r2
      clear r2
      go_wp2_with fail
      go_rounds 1
      go_ret2
      exact ⟨BW.out _ B2.out, .inl ⟨FF.out, o, f, _, HO.out, HE.out, ⟨_, _, rfl, Nat.le_refl _, Nat.zero_le _, Nat.zero_le _, .inl rfl⟩, rfl⟩⟩
    · obtain ⟨rfl, rfl⟩ : a = some ⟨b, off, none⟩ ∧ cap = cap' := by simpa using e1
      have HC : Hid (∀ W, Below w1.heap.size w1 W → ∀ k, k < z.length → W.cell? ⟨b, off + k * 2, none⟩ = some (.string (bs (nm z k))) ∧ W.cell? ⟨b, off + k * 2 + 1, none⟩ = some (.string (bs (vl z k)))) := fun W hW k hk => ⟨cell_later hW (hc k _ (at_some hk)).1, cell_later hW (hc k _ (at_some hk)).2⟩
      have HL : Hid (∀ k, k < z.length → (nm z k).length ≤ maxLen) := fun k hk => (HX.out _ (mem_at hk)).1
      have TK : Hid (∀ k, k < z.length → (flatL f z).take (k + 1) = (flatL f z).take k ++ [(nm z k, (f (nm z k)).getD [])]) := fun k hk => flatL_at f hk
      have HP : Hid (∀ (q : List Mc) (w' : World), q.length = z.length → MO w1.heap.size (.slice (some ⟨w1.heap.size, 0, none⟩) z.length z.length) q w' → ∀ k, k < z.length → (w'.cell? ⟨w1.heap.size, k * 2, none⟩ = some (.string (bs (nm q k))) ∧ w'.cell? ⟨w1.heap.size, k * 2 + 1, none⟩ = some (.string (bs (vl q k)))) ∧ ∀ j, w'.frozen? ⟨w1.heap.size, j, none⟩ = false) := fun q w' hq hm k hk => ⟨hm.cell (by omega), fun j => by unfold MO at hm; rw [hq] at hm; exact World.ownsRow.frozenAt hm j⟩
      clear e1 hc hlt
      generalize nm z = p1 at *
      generalize vl z = p2 at *
      go_wp2_with fail
      go_loopw [22] (fun i wr => ∃ (k : Nat) (q : List Mc), k ≤ z.length ∧ i = .int .i64 (k : Int) ∧ q.length = z.length ∧ q.take k = (flatL f z).take k ∧ MO w1.heap.size (.slice (some ⟨w1.heap.size, 0, none⟩) z.length z.length) q wr ∧ Below w1.heap.size w1 wr) (fun i _ => z.length - (intOf i).toNat)
      case atStart => exact ⟨0, _, Nat.zero_le _, rfl, List.length_replicate, rfl, O2.out, B2.out⟩
      case round =>
        obtain ⟨k, q, hk, rfl, hq, q1, q2, q3⟩ := hrel
        have Q0 := Lib.hid hq; have Q1 := Lib.hid q1; have Q2 := Lib.hid q2; have Q3 := Lib.hid q3; clear q1 q2 q3 hq
        by_cases hk2 : k < z.length
        · obtain ⟨c1, c2⟩ := HC.out wr Q3.out k hk2
          have X1 := Lib.hid (HL.out k hk2)
          have T1 := Lib.hid (TK.out k hk2)
          have BA : Hid (Below w1.heap.size w1 (wr.alloc (.cells #[.string (bs (p1 k)), .string (bs (p2 k))] 109))) := Q3.out.alloc Q3.out.size _
          have QA : Hid (MO w1.heap.size (.slice (some ⟨w1.heap.size, 0, none⟩) z.length z.length) q (wr.alloc (.cells #[.string (bs (p1 k)), .string (bs (p2 k))] 109))) := World.ownsRow.alloc Q2.out _
          obtain ⟨⟨d1, d2⟩, fz⟩ := HP.out q _ Q0.out QA.out k hk2
          have f1 := fz (k * 2)
          have f2 := fz (k * 2 + 1)
          have l1 := (MB.out.later BA.out).look (t := 142) (e := 9) (z := .string (bs [])) (x := p1 k) Tryz.underlying142 (Tryz.zeroValue9 _) X1.out
          rw [show (fT f (p1 k)).getD (.string (bs [])) = .string (bs ((f (p1 k)).getD [])) by unfold fT; cases f (p1 k) <;> rfl] at l1
          have PU : Hid (MO w1.heap.size (.slice (some ⟨w1.heap.size, 0, none⟩) z.length z.length) (q.set k (p1 k, (f (p1 k)).getD [])) (((wr.alloc (.cells #[.string (bs (p1 k)), .string (bs (p2 k))] 109)).setCell ⟨w1.heap.size, k * 2, none⟩ (.string (bs (p1 k)))).setCell ⟨w1.heap.size, k * 2 + 1, none⟩ (.string (bs ((f (p1 k)).getD []))))) := by
            have h1 := QA.out
            rw [← Q0.out] at h1 ⊢
            exact MO.put h1 (k := k) (by have := Q0.out; omega) _ _
          generalize p1 k = x at *
          generalize p2 k = y at *
          generalize (f x).getD [] = t at *
          clear fz
          go_wp2
          go_roundw
          case rel =>
            refine ⟨k + 1, _, by omega, by go_num, by rw [List.length_set]; exact Q0.out, ?_, PU.out, (BA.out.setCell (Nat.le_refl _) _).setCell (Nat.le_refl _) _⟩
            rw [T1.out, ← Q1.out, List.take_add_one, List.getElem?_set_self (by have := Q0.out; omega), List.take_set_of_le (Nat.le_refl _)]
            rfl
          case measure => simp [intOf]; omega
        · obtain rfl : k = z.length := by omega
          have FL : Hid (McIn wr (.slice (some ⟨w1.heap.size, 0, none⟩) z.length z.length) (flatL f z)) := by
            have e1 := Q1.out
            have e2 : q = flatL f z := by
              rw [← Q0.out, List.take_length, Q0.out, show z.length = (flatL f z).length by unfold flatL; rw [List.length_map], List.take_length] at e1
              exact e1
            rw [← e2]
            exact McIn.own Q2.out (by have := Q0.out; have := ZL.out; omega)
          go_wp2
          go_ret2
          exact ⟨BW.out _ Q3.out, .inl ⟨FF.out, o, f, _, HO.out, HE.out, FL.out, rfl⟩⟩
  · have B1 := Lib.hid hb; have HE := Lib.hid hE
    have t1 : (E != 0) = true := by simpa using hE.bad.2
    clear hb hE AL
    go_wp2
    go_ret2
    exact ⟨B1.out, .inr ⟨E, HE.out, rfl⟩⟩
end Go.Proofs.YtebjofffijnihaaGreatDoor
namespace Go.Proofs.YtebjofffijnihaaGreatDoor
set_option maxRecDepth 100000
open Go.ChangeShapes Go.WideShapes Go.ChangeAt Go.RowKit

/-- a byte that no name holds -/
def NoB (c : Nat) : Prop := ((c : Int) == 95) = false ∧ ((c : Int) == 46) = false ∧ ((c : Int) == 47) = false ∧ ((c : Int) == 45) = false ∧ ((c : Int) == 43) = false
theorem byte_cases (c : Nat) : (97 ≤ c ∧ c ≤ 122) ∨ (¬ 97 ≤ c ∧ 65 ≤ c ∧ c ≤ 90) ∨ (¬ 97 ≤ c ∧ ¬ 65 ≤ c ∧ 48 ≤ c ∧ c ≤ 57) ∨ c = 95 ∨ c = 46 ∨ c = 47 ∨ c = 45 ∨ c = 43 ∨
    (okB c = false ∧ NoB c ∧ ¬ 97 ≤ c ∧ ¬ 65 ≤ c ∧ ¬ 48 ≤ c) ∨ (okB c = false ∧ NoB c ∧ ¬ 97 ≤ c ∧ ¬ 65 ≤ c ∧ 48 ≤ c ∧ ¬ c ≤ 57) ∨ (okB c = false ∧ NoB c ∧ ¬ 97 ≤ c ∧ 65 ≤ c ∧ ¬ c ≤ 90 ∧ 48 ≤ c ∧ ¬ c ≤ 57) ∨ (okB c = false ∧ NoB c ∧ 97 ≤ c ∧ ¬ c ≤ 122 ∧ 65 ≤ c ∧ ¬ c ≤ 90 ∧ 48 ≤ c ∧ ¬ c ≤ 57) := by
  unfold okB NoB
  simp only [beq_eq_false_iff_ne, ne_eq, decide_eq_false_iff_not]
  omega

/-- what Place hands back -/
def PlacePost (z : List Str) (x : Str) (e : Ending) : Prop :=
  (∃ i : Nat, i < z.length ∧ z.getD i [] = x ∧ e = .returned (.int .i64 i)) ∨ x ∉ z ∧ e = .returned (.int .i64 (-1))

end Go.Proofs.YtebjofffijnihaaGreatDoor
namespace Go.Proofs.YtebjofffijnihaaGreatDoor
set_option maxRecDepth 100000
open Go.ChangeShapes Go.WideShapes Go.ChangeAt Go.RowKit

/-- x put in at place k -/
def ins (k : Nat) (x : Str) (U : List Str) : List Str := U.take k ++ x :: U.drop k
theorem ins_length (k : Nat) (x : Str) (U : List Str) : (ins k x U).length = U.length + 1 := by
  unfold ins
  rw [List.length_append, List.length_cons, List.length_take, List.length_drop]
  omega
theorem ins_mem {k : Nat} {x y : Str} {U : List Str} : y ∈ ins k x U ↔ y = x ∨ y ∈ U := by
  unfold ins
  rw [List.mem_append, List.mem_cons]
  constructor
  · rintro (h | h | h)
    · exact .inr (List.mem_of_mem_take h)
    · exact .inl h
    · exact .inr (List.mem_of_mem_drop h)
  · rintro (h | h)
    · exact .inr (.inl h)
    · rw [← List.take_append_drop k U] at h
      rcases List.mem_append.1 h with h | h
      · exact .inl h
      · exact .inr (.inr h)
theorem mem_take_at {U : List Str} {k : Nat} {y : Str} (h : y ∈ U.take k) : ∃ t, t < k ∧ t < U.length ∧ U.getD t [] = y := by
  obtain ⟨i, hi, e⟩ := List.getElem_of_mem h
  have hi' := hi
  rw [List.length_take] at hi'
  refine ⟨i, by omega, by omega, ?_⟩
  rw [List.getElem_take] at e
  rw [List.getD, List.getElem?_eq_getElem (by omega)]; exact e
theorem mem_drop_at {U : List Str} {k : Nat} {y : Str} (h : y ∈ U.drop k) : ∃ t, k ≤ t ∧ t < U.length ∧ U.getD t [] = y := by
  obtain ⟨i, hi, e⟩ := List.getElem_of_mem h
  have hi' := hi
  rw [List.length_drop] at hi'
  refine ⟨k + i, by omega, by omega, ?_⟩
  rw [List.getElem_drop] at e
  rw [List.getD, List.getElem?_eq_getElem (by omega)]; exact e
theorem ins_up {k : Nat} {x : Str} {U : List Str} (hU : Up U) (hlo : ∀ t, t < k → t < U.length → U.getD t [] < x) (hhi : k < U.length → ¬ U.getD k [] < x) (hx : x ∉ U) : Up (ins k x U) := by
  have hgt : ∀ y ∈ U.drop k, x < y := fun y hy => by
    obtain ⟨t, h1, h2, rfl⟩ := mem_drop_at hy
    have h3 : x ≤ U.getD t [] := List.le_trans (List.not_lt.1 (hhi (by omega))) (up_le hU h1 h2)
    exact lt_of_le_ne h3 (fun e => hx (e ▸ getD_mem h2))
  have hlt : ∀ y ∈ U.take k, y < x := fun y hy => by
    obtain ⟨t, h1, h2, rfl⟩ := mem_take_at hy
    exact hlo t h1 h2
  unfold ins Up
  refine List.pairwise_append.2 ⟨hU.sublist (List.take_sublist _ _), List.pairwise_cons.2 ⟨hgt, hU.sublist (List.drop_sublist _ _)⟩, fun a ha b hb => ?_⟩
  rcases List.mem_cons.1 hb with rfl | hb
  · exact hlt a ha
  · exact List.lt_trans (hlt a ha) (hgt b hb)

/-- append as one step of a region that draws -/
theorem step_append_run {P : Program} {ops : Array Oper} {o : Oper} {a : Act} {w : World} {K : Act → World → Prop} {Q : Exit → Act → World → Prop} {E : Prop}
    (hg : o.guard = none) (s x : Operand) (t : TypeId) (hop : o.op = Op.call { callee := Callee.builtin Builtin.append, args := #[s, x], argTypes := #[t, t] })
    (vs vx : Value) (hs : a.eval s = vs) (hx : a.eval x = vx) (v' : Value) (w' : World) (hr : (Builtin.append_ #[t, t] o.type #[vs, vx]).run P w = .ok v' w') (hK : K (a.put o.dst v') w') :
    if Region.wanted o (yielded ops a.tmps) = true then Oper.wp P o a w K Q else E := by
  have hw : Region.wanted o (yielded ops a.tmps) = true := by simp [Region.wanted, hg]
  rw [if_pos hw]
  unfold Oper.wp
  simp [execOp, hop, resolve, invoke, builtin, hs, hx, hr, Result.andThen]
  exact hK

theorem map_at {l : List Str} {j : Nat} {u : Value} (h : (l.map encStr)[j]? = some u) : ∃ hj : j < l.length, u = encStr l[j] := by
  have hlt : j < l.length := by
    rcases Nat.lt_or_ge j l.length with k | k
    · exact k
    · rw [List.getElem?_eq_none (by rw [List.length_map]; exact k)] at h; cases h
  rw [List.getElem?_map, List.getElem?_eq_getElem hlt] at h
  cases h
  exact ⟨hlt, rfl⟩
theorem map_one (l : List Str) : ∀ u ∈ l.map encStr, u.oneCell' = true := by intro u hu; simp at hu; obtain ⟨_, _, rfl⟩ := hu; rfl
theorem addr0 (g j : Nat) : (⟨g, 0, none⟩ : Addr).add j = ⟨g, j, none⟩ := by unfold Addr.add; by_cases h : j = 0 <;> simp [h]
theorem addrK (g k j : Nat) : (⟨g, k, none⟩ : Addr).add j = ⟨g, k + j, none⟩ := by unfold Addr.add; by_cases h : j = 0 <;> simp [h]

/-- appended to a slice that has no room: a new row -/
theorem app_new {w : World} {base k m c : Nat} {olds news : List Str} {b x : Addr} (ty : TypeId) (hlo : olds.length = k) (ho : ∀ j u, (olds.map encStr)[j]? = some u → w.cell? (b.add j) = some u)
    (hl : news.length = m) (hc : ∀ j u, (news.map encStr)[j]? = some u → w.cell? (x.add j) = some u) (hm : 0 < m) (hbig : k + m ≤ 8388608) (hbase : base ≤ w.heap.size) :
    ∃ cap' w', (Builtin.append_ #[23, 23] ty #[.slice (some b) k k, .slice (some x) m c]).run Tryz.prog w = .ok (.slice (some ⟨w.heap.size, 0, none⟩) (k + m) cap') w' ∧ k + m ≤ cap' ∧
      w'.ownsRow base 9 1 (.slice (some ⟨w.heap.size, 0, none⟩) (k + m) cap') (k + m) ((olds ++ news).map encStr) ∧ w.grownBy w' none := by
  obtain ⟨i0, hi, hz0, hz1, hz2⟩ := info_parts infoStr
  have hr := run_append_grow (P := Tryz.prog) w 23 ty 9 i0 (.string ByteArray.empty) Tryz.underlying23 hi hz0 b k k (olds.map encStr) (by rw [hz1, List.length_map, hlo]; omega) ho x m c (news.map encStr) (by rw [hz1, List.length_map, hl]; omega) hc (by omega) (by omega) (growslice_fits (by omega) (by rw [hz2]; omega))
  have hge := grownCap_ge w (k + m) k 9
  have hlen : ((olds ++ news).map encStr).length = (k + m) * 1 := by rw [List.length_map, List.length_append, hlo, hl]; omega
  refine ⟨_, _, hr, hge, ⟨hlen, .inr ⟨w.heap.size, _, _, rfl, hbase, heap_alloc_new w.drew _, hge, grownCap_le_maxLen w (k + m) k 9 (by unfold maxLen; omega), ?_, ?_⟩⟩, ⟨rfl, rfl, rfl, by simp, fun k hk _ => heap_alloc_old w.drew _ hk⟩⟩
  · simp only [Array.size_append, List.size_toArray, size_zeroCells, List.length_map, hlo, hl]
    show k + m + _ * 1 = _
    omega
  · simp only [Array.toList_append, List.append_assoc]
    rw [← List.append_assoc, ← hlen, List.map_append]
    exact List.take_left

/-- what the reference's two appends leave -/
theorem rise_some {W : World} {base g n cap k : Nat} {U : List Str} (x : Str) (hown : W.ownsRow base 9 1 (.slice (some ⟨g, 0, none⟩) n cap) n (U.map encStr)) (hk : k ≤ n) (hn : n ≤ 4194304) (hbase : base ≤ W.heap.size)
    (A : Option Addr) (hA : k < n → A = some ⟨g, k, none⟩) (c : Nat) :
    ∃ v2 W2 g3 cap3 W3, (Builtin.append_ #[23, 23] 23 #[.slice (some ⟨W.heap.size, 0, none⟩) 1 1, .slice A (n - k) c]).run Tryz.prog (W.alloc (.cells #[.string (bs x)] 9)) = .ok v2 W2 ∧
      (Builtin.append_ #[23, 23] 23 #[.slice (some ⟨g, 0, none⟩) k k, v2]).run Tryz.prog W2 = .ok (.slice (some ⟨g3, 0, none⟩) (n + 1) cap3) W3 ∧
      n + 1 ≤ cap3 ∧ W3.ownsRow base 9 1 (.slice (some ⟨g3, 0, none⟩) (n + 1) cap3) (n + 1) ((ins k x U).map encStr) ∧ Below base W W3 := by
  have hU : U.length = n := by have := hown.1; simpa using this
  have hg := hown.lt g rfl
  have hrow : (W.alloc (.cells #[.string (bs x)] 9)).ownsRow base 9 1 (.slice (some ⟨W.heap.size, 0, none⟩) 1 1) 1 ([x].map encStr) :=
    ⟨rfl, .inr ⟨W.heap.size, 1, #[.string (bs x)], rfl, hbase, heap_alloc_new W _, Nat.le_refl _, by unfold maxLen; omega, rfl, rfl⟩⟩
  have hB1 : Below base W (W.alloc (.cells #[.string (bs x)] 9)) := (Below.refl _ W).alloc hbase _
  have hown1 := hown.alloc (.cells #[.string (bs x)] 9)
  have hsz1 : (W.alloc (.cells #[.string (bs x)] 9)).heap.size = W.heap.size + 1 := by simp
  -- the inner append
  obtain ⟨g2, cap2, W2, r1, o2, hB2, hown2⟩ : ∃ g2 cap2 W2, (Builtin.append_ #[23, 23] 23 #[.slice (some ⟨W.heap.size, 0, none⟩) 1 1, .slice A (n - k) c]).run Tryz.prog (W.alloc (.cells #[.string (bs x)] 9)) = .ok (.slice (some ⟨g2, 0, none⟩) (1 + (n - k)) cap2) W2 ∧
      W2.ownsRow base 9 1 (.slice (some ⟨g2, 0, none⟩) (1 + (n - k)) cap2) (1 + (n - k)) ((x :: U.drop k).map encStr) ∧ Below base W W2 ∧ W2.ownsRow base 9 1 (.slice (some ⟨g, 0, none⟩) n cap) n (U.map encStr) := by
    by_cases hkn : k < n
    · rw [hA hkn]
      obtain ⟨i0, hi, hz0, hz1, hz2⟩ := info_parts infoStr
      obtain ⟨g2, cap2, W2, r1, o2, gr2, _⟩ := app_own (x := ⟨g, k, none⟩) (m := n - k) (c := c) (news := (U.drop k).map encStr) 23 hi hz0 hz1 hz2 rfl hrow (by rw [List.length_map, List.length_drop, hU]) (fun j u hj => by
          obtain ⟨hlt, rfl⟩ := map_at hj
          rw [List.length_drop] at hlt
          have := hown1.cells (g := g) rfl (k + j) (encStr (U.drop k)[j]) (by rw [List.getElem?_map, List.getElem?_eq_getElem (by omega), List.getElem_drop]; rfl)
          rw [addr0] at this
          rw [addrK]; exact this) (map_one _) (by unfold maxLen; omega) (.inr (growslice_fits (by omega) (by omega))) (by omega)
      refine ⟨g2, cap2, W2, r1, ?_, hB1.grown gr2 (by omega) (by intro q hq; cases hq; exact hbase), hown1.kept gr2 (.inr (by simp [Value.ownBlock]; omega))⟩
      simpa using o2
    · have e0 : n - k = 0 := by omega
      rw [e0]
      refine ⟨W.heap.size, 1, _, app_none 23 hrow A c, ?_, hB1, hown1⟩
      have : U.drop k = [] := List.drop_eq_nil_of_le (by omega)
      rw [this]; exact hrow
  -- the outer append
  obtain ⟨cap3, W3, r2, hc3, o3, gr3⟩ := app_new (w := W2) (base := base) (k := k) (m := 1 + (n - k)) (c := cap2) (olds := U.take k) (news := x :: U.drop k) (b := ⟨g, 0, none⟩) (x := ⟨g2, 0, none⟩) 23 (by rw [List.length_take]; omega) (fun j u hj => by
      obtain ⟨hlt, rfl⟩ := map_at hj
      rw [List.length_take] at hlt
      exact hown2.cells (g := g) rfl j _ (by rw [List.getElem?_map, List.getElem?_eq_getElem (by omega), List.getElem_take]; rfl)) (by rw [List.length_cons, List.length_drop, hU]; omega) (o2.cells (g := g2) rfl) (by omega) (by omega) (Nat.le_trans hbase hB2.size)
  have e1 : k + (1 + (n - k)) = n + 1 := by omega
  rw [e1] at r2 hc3 o3
  exact ⟨_, W2, _, cap3, W3, r1, r2, hc3, o3, hB2.grown gr3 (Nat.le_trans hbase hB2.size) (by intro q hq; cases hq)⟩

/-- the first string -/
theorem rise_nil (W : World) (base : Nat) (x : Str) (hbase : base ≤ W.heap.size) :
    ∃ g3 cap3 W3, (Builtin.append_ #[23, 23] 23 #[.slice (some ⟨W.heap.size, 0, none⟩) 1 1, .slice none 0 0]).run Tryz.prog (W.alloc (.cells #[.string (bs x)] 9)) = .ok (.slice (some ⟨W.heap.size, 0, none⟩) 1 1) (W.alloc (.cells #[.string (bs x)] 9)) ∧
      (Builtin.append_ #[23, 23] 23 #[.slice none 0 0, .slice (some ⟨W.heap.size, 0, none⟩) 1 1]).run Tryz.prog (W.alloc (.cells #[.string (bs x)] 9)) = .ok (.slice (some ⟨g3, 0, none⟩) 1 cap3) W3 ∧
      1 ≤ cap3 ∧ W3.ownsRow base 9 1 (.slice (some ⟨g3, 0, none⟩) 1 cap3) 1 ([x].map encStr) ∧ Below base W W3 := by
  have hrow : (W.alloc (.cells #[.string (bs x)] 9)).ownsRow base 9 1 (.slice (some ⟨W.heap.size, 0, none⟩) 1 1) 1 ([x].map encStr) :=
    ⟨rfl, .inr ⟨W.heap.size, 1, #[.string (bs x)], rfl, hbase, heap_alloc_new W _, Nat.le_refl _, by unfold maxLen; omega, rfl, rfl⟩⟩
  have hB1 : Below base W (W.alloc (.cells #[.string (bs x)] 9)) := (Below.refl _ W).alloc hbase _
  obtain ⟨i0, hi, hz0, hz1, hz2⟩ := info_parts infoStr
  obtain ⟨v', w', r2, o3, gr3, hv⟩ := run_append_own (P := Tryz.prog) (W.alloc (.cells #[.string (bs x)] 9)) base 23 23 9 i0 (.string ByteArray.empty) 1 16 Tryz.underlying23 hi hz0 hz1 hz2 rfl (by omega) (.slice none 0 0) 0 [] (World.ownsRow_nil _ _ _ _) ⟨W.heap.size, 0, none⟩ 1 1 ([x].map encStr) rfl (hrow.cells (g := W.heap.size) rfl) (map_one _) (by unfold maxLen; omega) (by omega) (by simp; omega)
  rcases o3.2 with ⟨h, _⟩ | ⟨g3, cap3, cur, rfl, _, _, hc3, _⟩
  · exact absurd (hv.1 h).2 (by omega)
  · exact ⟨g3, cap3, w', app_none 23 hrow none 0, r2, hc3, o3, hB1.grown gr3 (by simp; omega) (by intro q hq; cases hq)⟩

/-- what the loop keeps: the strings so far -/
def RInv (z : List Str) (w : World) (i : Nat) (out : Value) (wr : World) : Prop :=
  ∃ U : List Str, Up U ∧ (∀ x, x ∈ U ↔ x ∈ z.take i) ∧ U.length ≤ i ∧ Below w.heap.size w wr ∧
    ((U = [] ∧ out = .slice none 0 0) ∨ (0 < U.length ∧ ∃ g cap, out = .slice (some ⟨g, 0, none⟩) U.length cap ∧ U.length ≤ cap ∧ wr.ownsRow w.heap.size 9 1 out U.length (U.map encStr)))

theorem take_succ_mem {z : List Str} {i : Nat} (hi : i < z.length) (x : Str) : x ∈ z.take (i + 1) ↔ x = z.getD i [] ∨ x ∈ z.take i := by
  rw [List.take_succ_eq_append_getElem hi, List.mem_append, List.mem_singleton, List.getD, List.getElem?_eq_getElem hi, or_comm]; rfl

end Go.Proofs.YtebjofffijnihaaGreatDoor
