/-
  Rows of edges of the call's own whose block holds numbers alone, also behind the slice's end; append keeps this. No condition.
  Package graph's edgesOf and renumbered. Condition: the table of math/bits lies in memory as its text lays it (the card ties this).
  Plain facts on what Make makes: sets of names' numbers, the rows of rules, the graph. No condition.
  Package graph: numbersOf and namesOf, under Make. Condition: the names are in order and at most 64; the rules are of a bounded size.
-/
import Derived.Test.YtebjofffijnihaaGreatDoorGc25GCh
import Derived.Test.YtebjofffijnihaaGreatDoorGc13FDe
import Derived.Deep.RegionLaw
import Derived.Test.YtebjofffijnihaaGreatDoorGc23Sub
import Derived.Test.YtebjofffijnihaaGreatDoorGc24GPt
import Derived.Test.YtebjofffijnihaaGreatDoorGc21INa
namespace Go.Proofs.YtebjofffijnihaaGreatDoor
set_option maxRecDepth 100000
set_option linter.unusedVariables false
open Go.ChangeShapes Go.WideShapes Go.ChangeAt Go.RowKit

/-- a number -/
def In64 (u : Value) : Prop := ∃ n : Int, u = .int .i64 n
/-- every cell of the slice's block is a number -/
def TlE (v : Value) (w : World) : Prop := ∀ g, v.ownBlock = some g → ∃ cur : Array Value, w.heap[g]? = some (.cells cur 38 (0, 0)) ∧ ∀ u ∈ cur.toList, In64 u
theorem TlE.nil (w : World) (n c : Nat) : TlE (.slice none n c) w := fun g h => by cases h
theorem TlE.later {v : Value} {w w' : World} (h : TlE v w) (hb : Below w.heap.size w w') : TlE v w' := fun g hg => by
  obtain ⟨cur, h1, h2⟩ := h g hg
  exact ⟨cur, (hb.block g (heap_lt h1)).trans h1, h2⟩
theorem TlE.alloc {v : Value} {w : World} (h : TlE v w) (o : Obj) : TlE v (w.alloc o) := h.later ((Below.refl _ w).alloc (Nat.le_refl _) o)
theorem TlE.kept {v : Value} {w w' : World} {row : Option Nat} (h : TlE v w) (hg : w.grownBy w' row) (hne : v.ownBlock = none ∨ v.ownBlock ≠ row) : TlE v w' := fun g hv => by
  obtain ⟨cur, h1, h2⟩ := h g hv
  refine ⟨cur, (hg.block g (heap_lt h1) ?_).trans h1, h2⟩
  rcases hne with h' | h'
  · rw [h'] at hv; cases hv
  · rw [← hv]; exact h'
theorem zero_in (n : Nat) : ∀ u ∈ (Builtin.zeroCells (Value.cells (.agg #[.int .i64 0, .int .i64 0])) n).toList, In64 u := by
  intro u hu
  simp only [Builtin.zeroCells, Value.cells, Array.toList_map, List.mem_map] at hu
  obtain ⟨i, _, rfl⟩ := hu
  refine ⟨0, ?_⟩
  have : i % 2 = 0 ∨ i % 2 = 1 := by omega
  rcases this with h | h <;> simp [h]
/-- an edge appended -/
theorem app_ed {w : World} {B q : Nat} {u : Value} {z : List Ed} {x : Ed} (ho : EO B u z w) (ht : TlE u w) (c0 : w.cell? ⟨q, 0, none⟩ = some (.int .i64 x.1)) (c1 : w.cell? ⟨q, 1, none⟩ = some (.int .i64 x.2)) (hl : z.length ≤ 1048576) (hB : B ≤ w.heap.size) :
    ∃ a n c w', (Builtin.append_ #[29, 29] 29 #[u, .slice (some ⟨q, 0, none⟩) 1 1]).run Tryz.prog w = .ok (.slice a n c) w' ∧ EO B (.slice a n c) (z ++ [x]) w' ∧ w.grownBy w' u.ownBlock ∧ TlE (.slice a n c) w' := by
  obtain ⟨i0, hi, hz0, hz1, hz2⟩ := info_parts infoEd
  have hnews : ∀ j v, [Value.int .i64 x.1, Value.int .i64 x.2][j]? = some v → w.cell? ((⟨q, 0, none⟩ : Addr).add j) = some v := fun j v hj => by
    match j, hj with
    | 0, hj => simp at hj; subst hj; exact c0
    | 1, hj => simp at hj; subst hj; simpa [Addr.add] using c1
    | (j + 2), hj => simp at hj
  have h1 : ∀ v ∈ [Value.int .i64 x.1, Value.int .i64 x.2], v.oneCell' = true := by intro v hv; simp at hv; rcases hv with rfl | rfl <;> rfl
  obtain ⟨v', w', r, o, gr, _⟩ := run_append_own (P := Tryz.prog) w B 29 29 38 i0 (.agg #[.int .i64 0, .int .i64 0]) 2 16 Tryz.underlying29 hi hz0 hz1 hz2 rfl (by decide) u z.length (edCells z) ho ⟨q, 0, none⟩ 1 1 [.int .i64 x.1, .int .i64 x.2] rfl hnews h1 (by unfold maxLen; omega) (by omega) hB
  have hx : ∀ v ∈ [Value.int .i64 x.1, Value.int .i64 x.2], In64 v := by intro v hv; simp at hv; rcases hv with rfl | rfl <;> exact ⟨_, rfl⟩
  have T : TlE v' w' := by
    rcases ho.2 with ⟨rfl, hz⟩ | ⟨g, cap, cur, rfl, hbg, hg, hnc, hcm, hcs, htake⟩
    · have hr' := run_append_nil (P := Tryz.prog) w 29 29 38 i0 (.agg #[.int .i64 0, .int .i64 0]) Tryz.underlying29 hi hz0 ⟨q, 0, none⟩ 1 1 [.int .i64 x.1, .int .i64 x.2] (by rw [hz1]; rfl) hnews (by decide) (by decide) (by rw [hz2]; decide)
      rw [hr'] at r
      cases r
      intro g hg
      have e : w.heap.size = g := Option.some.inj hg
      subst e
      refine ⟨_, heap_alloc_new w.drew _, fun v hv => ?_⟩
      rw [Array.toList_append] at hv
      rcases List.mem_append.1 hv with h' | h'
      · exact hx v (by simpa using h')
      · exact zero_in _ v h'
    · obtain ⟨cur', hc1, hc2⟩ := ht g rfl
      rw [hg] at hc1
      cases hc1
      by_cases hroom : z.length + 1 ≤ cap
      · have hr' := run_append_room (P := Tryz.prog) w 29 29 38 i0 Tryz.underlying29 hi g z.length cap cur hg ⟨q, 0, none⟩ 1 1 [.int .i64 x.1, .int .i64 x.2] (by rw [hz1]; rfl) hnews h1 hroom (by rw [hz1, hcs]; simp; omega)
        rw [hr'] at r
        cases r
        intro g' hg'
        have e : g = g' := Option.some.inj hg'
        subst e
        refine ⟨_, setRow_heap w g cur _ 38 _ hg, fun v hv => ?_⟩
        simp only [List.mem_append] at hv
        rcases hv with (h' | h') | h'
        · exact hc2 v (List.mem_of_mem_take h')
        · exact hx v h'
        · exact hc2 v (List.mem_of_mem_drop h')
      · have holds : ∀ j v, (edCells z)[j]? = some v → w.cell? ((⟨g, 0, none⟩ : Addr).add j) = some v := World.ownsRow.cells ho (g := g) rfl
        have hxl := ho.1
        have hr' := run_append_grow (P := Tryz.prog) w 29 29 38 i0 (.agg #[.int .i64 0, .int .i64 0]) Tryz.underlying29 hi hz0 ⟨g, 0, none⟩ z.length cap (edCells z) (by rw [hz1]; exact hxl) holds ⟨q, 0, none⟩ 1 1 [.int .i64 x.1, .int .i64 x.2] (by rw [hz1]; rfl) hnews (by omega) (by omega) (by rw [hz2]; exact growslice_fits (by omega) (by omega))
        rw [hr'] at r
        cases r
        intro g' hg'
        have e : w.heap.size = g' := Option.some.inj hg'
        subst e
        refine ⟨_, heap_alloc_new w.drew _, fun v hv => ?_⟩
        rw [Array.toList_append, Array.toList_append] at hv
        rcases List.mem_append.1 hv with h' | h'
        · rcases List.mem_append.1 h' with h' | h'
          · rw [← htake] at h'; exact hc2 v (List.mem_of_mem_take (by simpa using h'))
          · exact hx v (by simpa using h')
        · exact zero_in _ v h'
  have O2 : w'.ownsRow B 38 2 v' (z.length + 1) (edCells z ++ [.int .i64 x.1, .int .i64 x.2]) := o
  obtain ⟨a, n, c, rfl⟩ : ∃ a n c, v' = .slice a n c := by
    rcases o.2 with ⟨h, _⟩ | ⟨g, cap, _, h, _⟩
    · exact ⟨_, _, _, h⟩
    · exact ⟨_, _, _, h⟩
  exact ⟨a, n, c, w', r, EO.snoc O2, gr, T⟩
end Go.Proofs.YtebjofffijnihaaGreatDoor
namespace Go.Proofs.YtebjofffijnihaaGreatDoor
set_option maxRecDepth 100000
set_option linter.unusedVariables false
open Go.ChangeShapes Go.WideShapes Go.ChangeAt Go.RowKit

/-- a slice that holds the sets r -/
def WIn (w : World) (v : Value) (r : List Bv) : Prop :=
  ∃ a cap, v = .slice a r.length cap ∧ ∀ k, k < r.length → ∃ b off, a = some ⟨b, off, none⟩ ∧ w.cell? ⟨b, off + k, none⟩ = some (.int .u64 ((wAt r k).toNat : Int))
theorem WIn.later {w w' : World} {v : Value} {r : List Bv} (h : WIn w v r) (hb : Below w.heap.size w w') : WIn w' v r := by
  obtain ⟨a, cap, h1, h2⟩ := h
  refine ⟨a, cap, h1, fun k hk => ?_⟩
  obtain ⟨b, off, e, c⟩ := h2 k hk
  exact ⟨b, off, e, cell_later hb c⟩
theorem WO.win {B : Nat} {v : Value} {r : List Bv} {w : World} (h : WO B v r w) : WIn w v r := by
  rcases h.2 with ⟨hv, h0⟩ | ⟨g, cap, cur, hv, _⟩
  · exact ⟨none, 0, by rw [hv, h0], fun k hk => by omega⟩
  · refine ⟨_, cap, hv, fun k hk => ⟨g, 0, rfl, ?_⟩⟩
    subst hv
    rw [Nat.zero_add]
    exact WO.cell h hk
/-- a list of numbers in a block of its own -/
theorem list_blk {s : Bv} {w w' : World} {e : Ending} (h : ListPost s w e w') : e = .returned (.slice (some ⟨w.heap.size, 0, none⟩) (cnt s) (cnt s)) ∧ Below w.heap.size w w' ∧
    ∃ cur, Blk w.heap.size cur 3 w' ∧ ∀ (j n : Nat), (nums s)[j]? = some n → cur[j]? = some (.int .i64 (n : Int)) := by
  obtain ⟨h1, h2, h3⟩ := h
  refine ⟨h1, h3, ?_⟩
  rcases h2.2 with ⟨hv, _⟩ | ⟨g, cap, cur, hv, _, hg, _, _, _, ht⟩
  · simp at hv
  · simp only [Value.slice.injEq, Option.some.injEq, Addr.mk.injEq, and_true, true_and] at hv
    obtain ⟨rfl, _⟩ := hv
    refine ⟨cur, hg, fun j n hj => ?_⟩
    have e1 := ints_get _ _ _ hj
    rw [← ht, List.getElem?_take] at e1
    split at e1
    · simpa using e1
    · cases e1
/-- another row's append leaves a block of another type -/
theorem blk_app {q : Nat} {ys : Array Value} {t e : TypeId} {w w' : World} {B s n : Nat} {u : Value} {xs : List Value} (h : Blk q ys t w) (o : w.ownsRow B e s u n xs) (hne : t ≠ e) (g : w.grownBy w' u.ownBlock) : Blk q ys t w' := by
  refine h.at (g.block q h.lt fun hq => hne ?_)
  rcases o.2 with ⟨rfl, _⟩ | ⟨g', cap, cur, rfl, _, hg, _⟩
  · cases hq
  · have e1 : q = g' := Option.some.inj hq
    subst e1
    unfold Blk at h
    rw [h] at hg
    injection hg with hg
    injection hg
theorem edgesAt_take {i : Nat} {s : Bv} {j n : Nat} (h : (nums s)[j]? = some n) : (edgesAt i s).take (j + 1) = (edgesAt i s).take j ++ [((i : Int), (n : Int))] := by
  unfold edgesAt
  rw [List.take_add_one, List.getElem?_map, h]; rfl
theorem edgesAt_length (i : Nat) (s : Bv) : (edgesAt i s).length = cnt s := by unfold edgesAt; rw [List.length_map, nums_length]
theorem eo_len {r : List Bv} {k j : Nat} (hk : k ≤ 64) (s : Bv) : (edgesTo r k ++ (edgesAt k s).take j).length ≤ 1048576 := by
  rw [List.length_append, List.length_take, edgesAt_length]
  have := edgesTo_le r k
  have := cnt_le s
  omega
set_option maxHeartbeats 8000000 in
theorem edgesOf_any {w : World} {v : Value} {r : List Bv} (h : WIn w v r) (hl : r.length ≤ 64) (ht : Tab w) :
    Calls Tryz.prog 18 #[v] w fun e w' => ∃ a n c, e = .returned (.slice a n c) ∧ EO w.heap.size (.slice a n c) (edgesL r) w' ∧ TlE (.slice a n c) w' ∧ Below w.heap.size w w' := by
  have LA := Lib.hid (fun s W (hW : Below w.heap.size w W) => (list_any s W (ht.below hW ht.1)).mono (fun _ _ => list_blk))
  obtain ⟨a, cap, rfl, hc⟩ := h
  have HC : Hid (∀ W, Below w.heap.size w W → ∀ k, k < r.length → ∃ b off, a = some ⟨b, off, none⟩ ∧ W.cell? ⟨b, off + k, none⟩ = some (.int .u64 ((wAt r k).toNat : Int))) := fun W hW k hk => by
    obtain ⟨b, off, e, c⟩ := hc k hk
    exact ⟨b, off, e, cell_later hW c⟩
  have ES : Hid (∀ k, edgesTo r (k + 1) = edgesTo r k ++ edgesAt k (wAt r k)) := fun k => edgesTo_succ r k
  have E0 : Hid (edgesTo r 0 = []) := Lib.hid (edgesTo_zero r)
  have EL : Hid (edgesTo r r.length = edgesL r) := Lib.hid rfl
  have LE : Hid (∀ k j s, k ≤ 64 → (edgesTo r k ++ (edgesAt k s).take j).length ≤ 1048576) := fun k j s hk => eo_len hk s
  clear hc ht
  generalize edgesL r = ER at *
  generalize hw : wAt r = f at *
  generalize edgesTo r = F at *
  generalize r.length = L at *
  clear hw
  go_enter Tryz.func18, Tryz.ntmps18
  go_wp2_with fail
  go_loopw [3, 10] (fun u i wr => ∃ (k : Nat) (ua : Option Addr) (un uc : Nat), k ≤ L ∧ i = .int .i64 (k : Int) ∧ u = .slice ua un uc ∧ EO w.heap.size u (F k) wr ∧ TlE u wr ∧ Below w.heap.size w wr) (fun _ i _ => L - (intOf i).toNat)
  case atStart => exact ⟨0, none, 0, 0, Nat.zero_le _, rfl, rfl, by rw [E0.out]; exact World.ownsRow_nil _ _ _ _, TlE.nil _ _ _, Below.refl _ _⟩
  case round =>
    obtain ⟨k, ua, un, uc, hk, rfl, rfl, qo, qt, qb⟩ := hrel
    have QO := Lib.hid qo; have QT := Lib.hid qt; have QB := Lib.hid qb; clear qo qt qb
    by_cases hkl : k < L
    · obtain ⟨b, off, rfl, c0⟩ := HC.out wr QB.out k hkl
      have S1 := Lib.hid (ES.out k)
      have LE1 := Lib.hid (fun j => LE.out k j (f k) (by omega))
      generalize f k = s at *
      go_wp2_with fail
      refine (LA.out s _ QB.out).mono ?_
      rintro e w2 ⟨rfl, b2, cur, k2, hcur⟩
      have B2 := Lib.hid (QB.out.trans (b2.mono QB.out.size))
      have K2 := Lib.hid k2
      have HR := Lib.hid hcur
      have O2 := Lib.hid (own_later QO.out b2)
      have T2 := Lib.hid (QT.out.later b2)
      have HQ : Hid (w.heap.size ≤ wr.heap.size) := QB.out.size
      generalize wr.heap.size = q at *
      have hcn := cnt_le s
      have NG := Lib.hid (fun j hj => nums_get s j hj)
      have AT := Lib.hid (fun (j n : Nat) (h : (nums s)[j]? = some n) => edgesAt_take (i := k) h)
      have AF : Hid ((edgesAt k s).take (cnt s) = edgesAt k s) := Lib.hid (List.take_of_length_le (by rw [edgesAt_length]; exact Nat.le_refl _))
      clear b2 k2 hcur c0
      generalize edgesAt k s = A at *
      generalize nums s = ns at *
      generalize cnt s = C at *
      go_wp2_with fail
      go_loopw [3, 18] (fun u i wq => ∃ (j : Nat) (ua : Option Addr) (un uc : Nat), j ≤ C ∧ i = .int .i64 (j : Int) ∧ u = .slice ua un uc ∧ EO w.heap.size u (F k ++ A.take j) wq ∧ TlE u wq ∧ Blk q cur 3 wq ∧ Below w.heap.size w wq) (fun _ i _ => C - (intOf i).toNat)
      case atStart => exact ⟨0, _, _, _, Nat.zero_le _, rfl, rfl, by rw [List.take_zero, List.append_nil]; exact O2.out, T2.out, K2.out, B2.out⟩
      case round =>
        obtain ⟨j, va, vn, vc, hj, rfl, rfl, po, pt, pk, pb⟩ := hrel
        have PO := Lib.hid po; have PT := Lib.hid pt; have PB := Lib.hid pb; have PK := Lib.hid pk; clear po pt pb pk
        rename World => W4
        by_cases hjl : j < C
        · obtain ⟨n, n1, _, _, n4⟩ := NG.out j hjl
          have cj := PK.out.cell (HR.out j n n4)
          have A1 := Lib.hid (AT.out j n n4)
          have WA : Hid (Below w.heap.size w (W4.alloc (.cells #[.int .i64 (k : Int), .int .i64 (n : Int)] 38))) := PB.out.alloc PB.out.size _
          have OA : EO w.heap.size (.slice va vn vc) (F k ++ A.take j) (W4.alloc (.cells #[.int .i64 (k : Int), .int .i64 (n : Int)] 38)) := World.ownsRow.alloc PO.out _
          have b0 := blk_new W4 #[.int .i64 (k : Int), .int .i64 (n : Int)] 38
          obtain ⟨a5, n5, c5, w5, r5, o5, g5, t5⟩ := app_ed (x := ((k : Int), (n : Int))) OA (PT.out.alloc _) (b0.cell rfl) (b0.cell rfl) (LE1.out j) WA.out.size
          have K5 := Lib.hid (blk_app (PK.out.alloc _) OA (by decide) g5)
          have B5 := Lib.hid (WA.out.grown g5 WA.out.size (fun q hq => (OA.lt q hq).1))
          have R5 := Lib.hid r5; have O5 := Lib.hid o5; have T5 := Lib.hid t5
          clear OA b0 r5 o5 g5 t5
          go_wp2_with (at_builtin; go_must (refine Lib.wpList_append_run _ rfl (.tmp 22) (.tmp 26) 29 29 rfl _ _ rfl rfl _ _ R5.out ?_))
          go_roundw
          case rel => exact ⟨j + 1, _, _, _, by omega, by go_num, rfl, by rw [A1.out, ← List.append_assoc]; exact O5.out, T5.out, K5.out, B5.out⟩
          case measure => simp [intOf]; omega
        · obtain rfl : j = C := by omega
          go_wp2
          go_roundw
          case rel => exact ⟨k + 1, _, _, _, by omega, by go_num, rfl, by rw [S1.out, ← AF.out]; exact PO.out, PT.out, PB.out⟩
          case measure => simp [intOf]; omega
    · obtain rfl : k = L := by omega
      go_wp2
      go_ret
      exact ⟨_, _, _, rfl, by rw [← EL.out]; exact QO.out, QT.out, QB.out⟩

/-! renumbered -/
theorem renum_next {s t : Bv} {j n : Nat} (h : (nums (t &&& s))[j]? = some n) : orAll s 0#64 ((nums (t &&& s)).take (j + 1)) = orAll s 0#64 ((nums (t &&& s)).take j) ||| one (cntTo s.getLsbD n) := by
  rw [List.take_add_one, h]
  exact orAll_snoc _ _ _ _
end Go.Proofs.YtebjofffijnihaaGreatDoor
namespace Go.Proofs.YtebjofffijnihaaGreatDoor
set_option maxRecDepth 100000
set_option linter.unusedVariables false

/-- s tells which of the names z are among l -/
def SetOf (z l : List Str) (s : Bv) : Prop := ∀ i, i < 64 → (s.getLsbD i = true ↔ i < z.length ∧ z.getD i [] ∈ l)
theorem setOf_nil (z : List Str) : SetOf z [] 0#64 := fun i hi => by simp
theorem setOf_snoc {z l : List Str} {s : Bv} {n : Nat} {x : Str} (h : SetOf z l s) (hup : Up z) (hn : n < z.length) (hx : z.getD n [] = x) : SetOf z (l ++ [x]) (s ||| one n) := fun i hi => by
  rw [BitVec.getLsbD_or, one_bit n i hi, Bool.or_eq_true, decide_eq_true_iff, h i hi, List.mem_append, List.mem_singleton]
  constructor
  · rintro (⟨a, b⟩ | rfl)
    · exact ⟨a, .inl b⟩
    · exact ⟨hn, .inr hx⟩
  · rintro ⟨a, b | b⟩
    · exact .inl ⟨a, b⟩
    · exact .inr (up_inj hup a hn (b.trans hx.symm))
theorem setOf_lt {z l : List Str} {s : Bv} (h : SetOf z l s) {i : Nat} (hi : s.getLsbD i = true) : i < z.length := by
  by_cases h64 : i < 64
  · exact ((h i h64).1 hi).1
  · rw [BitVec.getLsbD_of_ge _ _ (by omega)] at hi; cases hi
theorem setOf_inj {z l : List Str} {s t : Bv} (h : SetOf z l s) (k : SetOf z l t) : s = t := bv_ext fun i hi => by rw [Bool.eq_iff_iff, h i hi, k i hi]
theorem setOf_cons {z l : List Str} {s : Bv} {n : Nat} {x : Str} (h : SetOf z l s) (hup : Up z) (hn : n < z.length) (hx : z.getD n [] = x) : SetOf z (x :: l) (s ||| one n) := fun i hi => by
  rw [BitVec.getLsbD_or, one_bit n i hi, Bool.or_eq_true, decide_eq_true_iff, h i hi, List.mem_cons]
  constructor
  · rintro (⟨a, b⟩ | rfl)
    · exact ⟨a, .inr b⟩
    · exact ⟨hn, .inl hx⟩
  · rintro ⟨a, b | b⟩
    · exact .inr (up_inj hup a hn (b.trans hx.symm))
    · exact .inl ⟨a, b⟩
theorem setOf_has {z : List Str} (hup : Up z) : ∀ l : List Str, (∀ x ∈ l, x ∈ z) → ∃ s, SetOf z l s
  | [], _ => ⟨_, setOf_nil z⟩
  | x :: l, h => by
    obtain ⟨s, hs⟩ := setOf_has hup l (fun y hy => h y (List.mem_cons_of_mem _ hy))
    obtain ⟨n, hn, e⟩ := mem_getD (h x (List.mem_cons_self ..))
    exact ⟨_, setOf_cons hs hup hn e⟩
open Classical in
/-- the set of the numbers of the names l among z -/
noncomputable def setB (z l : List Str) : Bv := if h : ∃ s, SetOf z l s then h.choose else 0#64
theorem setB_of {z l : List Str} {s : Bv} (h : SetOf z l s) : setB z l = s := by
  unfold setB
  rw [dif_pos ⟨s, h⟩]
  exact setOf_inj (Exists.choose_spec (⟨s, h⟩ : ∃ s, SetOf z l s)) h
theorem setB_is {z l : List Str} (hup : Up z) (h : ∀ x ∈ l, x ∈ z) : SetOf z l (setB z l) := by
  obtain ⟨s, hs⟩ := setOf_has hup l h
  rw [setB_of hs]; exact hs

/-! what Make makes of rules: R the rules filled, P the phony names -/
noncomputable def madeG (z : List Str) (R : List Rl) : Bv := R.foldl (fun m r => m ||| setB z r.1) 0#64
noncomputable def rowIn (rw : List Bv) (u : Bv) (l : List Nat) : List Bv := l.foldl (fun rw n => orAt rw n u) rw
noncomputable def rowsR (z : List Str) (R : List Rl) : List Bv := R.foldl (fun rw r => rowIn rw (setB z r.2) (nums (setB z r.1))) (List.replicate z.length 0#64)
noncomputable def namesR (R : List Rl) (P : List Str) : List Str := uniq (namesJ R ++ P)
noncomputable def makeG (R : List Rl) (P : List Str) : Gr := ⟨namesR R P, edgesL (rowsR (namesR R P) R), setB (namesR R P) P, madeG (namesR R P) R⟩
theorem rowIn_length (u : Bv) : ∀ (l : List Nat) (rw : List Bv), (rowIn rw u l).length = rw.length
  | [], _ => rfl
  | n :: l, rw => by
    show (rowIn (orAt rw n u) u l).length = _
    rw [rowIn_length u l, orAt_length]
theorem rowIn_snoc (rw : List Bv) (u : Bv) (l : List Nat) (n : Nat) : rowIn rw u (l ++ [n]) = orAt (rowIn rw u l) n u := by unfold rowIn; rw [List.foldl_append]; rfl
theorem rowIn_bit (u : Bv) (i k : Nat) : ∀ (l : List Nat) (rw : List Bv), (∀ n ∈ l, n < rw.length) → ((wAt (rowIn rw u l) i).getLsbD k = true ↔ (wAt rw i).getLsbD k = true ∨ i ∈ l ∧ u.getLsbD k = true)
  | [], rw, _ => by
    show (wAt rw i).getLsbD k = true ↔ _
    simp
  | n :: l, rw, h => by
    have hn := h n (List.mem_cons_self ..)
    show (wAt (rowIn (orAt rw n u) u l) i).getLsbD k = true ↔ _
    rw [rowIn_bit u i k l _ (fun m hm => by rw [orAt_length]; exact h m (List.mem_cons_of_mem _ hm)), wAt_orAt _ _ _ _ hn, List.mem_cons]
    by_cases hi : i = n
    · subst hi
      rw [if_pos rfl, BitVec.getLsbD_or, Bool.or_eq_true]
      constructor
      · rintro ((h1 | h1) | ⟨h1, h2⟩)
        · exact .inl h1
        · exact .inr ⟨.inl rfl, h1⟩
        · exact .inr ⟨.inl rfl, h2⟩
      · rintro (h1 | ⟨_, h2⟩)
        · exact .inl (.inl h1)
        · exact .inl (.inr h2)
    · rw [if_neg hi]
      simp [hi]
/-- the rules' names are among z -/
def NamesIn (z : List Str) (R : List Rl) : Prop := ∀ r ∈ R, (∀ x ∈ r.1, x ∈ z) ∧ ∀ x ∈ r.2, x ∈ z
theorem names_in (R : List Rl) (P : List Str) : NamesIn (namesR R P) R := fun r hr => by
  have : ∀ x ∈ r.1 ++ r.2, x ∈ namesR R P := fun x hx => uniq_mem.2 (List.mem_append_left _ (List.mem_flatMap.2 ⟨r, hr, hx⟩))
  exact ⟨fun x hx => this x (List.mem_append_left _ hx), fun x hx => this x (List.mem_append_right _ hx)⟩
theorem phony_in (R : List Rl) (P : List Str) : ∀ x ∈ P, x ∈ namesR R P := fun x hx => uniq_mem.2 (List.mem_append_right _ hx)
theorem made_from {z : List Str} (hup : Up z) (i : Nat) (hi : i < 64) : ∀ (R : List Rl) (m : Bv), NamesIn z R → ((R.foldl (fun m r => m ||| setB z r.1) m).getLsbD i = true ↔ m.getLsbD i = true ∨ i < z.length ∧ ∃ r ∈ R, z.getD i [] ∈ r.1)
  | [], m, _ => by simp
  | r :: R, m, h => by
    rw [List.foldl_cons, made_from hup i hi R _ (fun q hq => h q (List.mem_cons_of_mem _ hq)), BitVec.getLsbD_or, Bool.or_eq_true, setB_is hup (h r (List.mem_cons_self ..)).1 i hi]
    constructor
    · rintro ((h1 | ⟨h1, h2⟩) | ⟨h1, q, h2, h3⟩)
      · exact .inl h1
      · exact .inr ⟨h1, r, List.mem_cons_self .., h2⟩
      · exact .inr ⟨h1, q, List.mem_cons_of_mem _ h2, h3⟩
    · rintro (h1 | ⟨h1, q, h2, h3⟩)
      · exact .inl (.inl h1)
      · rcases List.mem_cons.1 h2 with rfl | h2
        · exact .inl (.inr ⟨h1, h3⟩)
        · exact .inr ⟨h1, q, h2, h3⟩
theorem madeG_bit {z : List Str} {R : List Rl} (hup : Up z) (h : NamesIn z R) {i : Nat} (hi : i < 64) : (madeG z R).getLsbD i = true ↔ i < z.length ∧ ∃ r ∈ R, z.getD i [] ∈ r.1 := by
  unfold madeG
  rw [made_from hup i hi R _ h]; simp
theorem setB_nums {z l : List Str} (hup : Up z) (h : ∀ x ∈ l, x ∈ z) {n : Nat} (hn : n ∈ nums (setB z l)) : n < z.length := by
  obtain ⟨h1, h2⟩ := nums_mem.1 hn
  exact ((setB_is hup h n h1).1 h2).1
theorem rows_from {z : List Str} (hup : Up z) (i k : Nat) (hi : i < 64) (hk : k < 64) : ∀ (R : List Rl) (rw : List Bv), NamesIn z R → rw.length = z.length →
    ((wAt (R.foldl (fun rw r => rowIn rw (setB z r.2) (nums (setB z r.1))) rw) i).getLsbD k = true ↔ (wAt rw i).getLsbD k = true ∨ i < z.length ∧ k < z.length ∧ ∃ r ∈ R, z.getD i [] ∈ r.1 ∧ z.getD k [] ∈ r.2)
  | [], rw, _, _ => by simp
  | r :: R, rw, h, hl => by
    obtain ⟨h1, h2⟩ := h r (List.mem_cons_self ..)
    rw [List.foldl_cons, rows_from hup i k hi hk R _ (fun q hq => h q (List.mem_cons_of_mem _ hq)) (by rw [rowIn_length]; exact hl), rowIn_bit _ i k _ _ (fun n hn => by rw [hl]; exact setB_nums hup h1 hn), nums_mem, setB_is hup h1 i hi, setB_is hup h2 k hk]
    constructor
    · rintro ((a | ⟨⟨_, a, b⟩, c, d⟩) | ⟨a, b, q, c, d⟩)
      · exact .inl a
      · exact .inr ⟨a, c, r, List.mem_cons_self .., b, d⟩
      · exact .inr ⟨a, b, q, List.mem_cons_of_mem _ c, d⟩
    · rintro (a | ⟨a, b, q, c, d⟩)
      · exact .inl (.inl a)
      · rcases List.mem_cons.1 c with rfl | c
        · exact .inl (.inr ⟨⟨hi, a, d.1⟩, b, d.2⟩)
        · exact .inr ⟨a, b, q, c, d⟩
theorem rows_len (z : List Str) : ∀ (R : List Rl) (rw : List Bv), (R.foldl (fun rw r => rowIn rw (setB z r.2) (nums (setB z r.1))) rw).length = rw.length
  | [], _ => rfl
  | r :: R, rw => by rw [List.foldl_cons, rows_len z R, rowIn_length]
theorem rowsR_length (z : List Str) (R : List Rl) : (rowsR z R).length = z.length := by unfold rowsR; rw [rows_len, List.length_replicate]
theorem rowsR_bit {z : List Str} {R : List Rl} (hup : Up z) (h : NamesIn z R) {i k : Nat} (hi : i < 64) (hk : k < 64) : (wAt (rowsR z R) i).getLsbD k = true ↔ i < z.length ∧ k < z.length ∧ ∃ r ∈ R, z.getD i [] ∈ r.1 ∧ z.getD k [] ∈ r.2 := by
  unfold rowsR
  rw [rows_from hup i k hi hk R _ h (by rw [List.length_replicate]), wAt_replicate]; simp
/-- what is made of rules is a right graph -/
theorem make_valid {R : List Rl} {P : List Str} (h64 : (namesR R P).length ≤ 64) (hg : ∀ x ∈ namesR R P, good x = true) : Valid (makeG R P) := by
  have hup : Up (namesR R P) := uniq_up _
  have hin := names_in R P
  refine ⟨h64, hg, hup, ?_, edgesL_up _, ?_⟩
  · show EdIn (namesR R P).length (edgesL (rowsR (namesR R P) R))
    have e := rowsR_length (namesR R P) R
    rw [← e]
    refine edgesL_in fun i hi k hk => ?_
    rw [e] at hi hk
    cases hb : (wAt (rowsR (namesR R P) R) i).getLsbD k
    · rfl
    · have h1 : k < 64 := by
        rcases Nat.lt_or_ge k 64 with h | h
        · exact h
        · rw [bit_ge _ h] at hb; cases hb
      have := ((rowsR_bit hup hin (by omega) h1).1 hb).2.1
      omega
  · refine setIn_mk (fun i hi => ?_) (fun i hi => ?_)
    · cases hb : (makeG R P).ph.getLsbD i
      · rfl
      · have h1 : i < 64 := by
          rcases Nat.lt_or_ge i 64 with h | h
          · exact h
          · rw [bit_ge _ h] at hb; cases hb
        have := ((setB_is hup (phony_in R P) i h1).1 hb).1
        exact absurd this (Nat.not_lt.2 hi)
    · cases hb : (makeG R P).md.getLsbD i
      · rfl
      · have h1 : i < 64 := by
          rcases Nat.lt_or_ge i 64 with h | h
          · exact h
          · rw [bit_ge _ h] at hb; cases hb
        have := ((madeG_bit hup hin h1).1 hb).1
        exact absurd this (Nat.not_lt.2 hi)
/-- an edge's head is made; a rule's edges are there -/
theorem make_from {R : List Rl} {P : List Str} (h64 : (namesR R P).length ≤ 64) {i k : Nat} (h : ((i : Int), (k : Int)) ∈ (makeG R P).es) : i < 64 ∧ (makeG R P).md.getLsbD i = true := by
  have hup : Up (namesR R P) := uniq_up _
  have hin := names_in R P
  obtain ⟨h1, h2, h3⟩ := edgesL_mem.1 h
  rw [rowsR_length] at h1
  obtain ⟨a, _, r, b, c, _⟩ := (rowsR_bit hup hin (by omega) h2).1 h3
  exact ⟨by omega, (madeG_bit hup hin (by omega)).2 ⟨a, r, b, c⟩⟩
theorem make_made {R : List Rl} {P : List Str} (h64 : (namesR R P).length ≤ 64) {i : Nat} {r : Rl} (hr : r ∈ R) (hi : i < (namesR R P).length) (ht : (namesR R P).getD i [] ∈ r.1) : (makeG R P).md.getLsbD i = true :=
  (madeG_bit (uniq_up _) (names_in R P) (by omega)).2 ⟨hi, r, hr, ht⟩
theorem make_edge {R : List Rl} {P : List Str} (h64 : (namesR R P).length ≤ 64) {i k : Nat} {r : Rl} (hr : r ∈ R) (hi : i < (namesR R P).length) (ht : (namesR R P).getD i [] ∈ r.1) (hk : k < (namesR R P).length) (hn : (namesR R P).getD k [] ∈ r.2) : ((i : Int), (k : Int)) ∈ (makeG R P).es := by
  refine edgesL_mem.2 ⟨by rw [rowsR_length]; exact hi, by omega, (rowsR_bit (uniq_up _) (names_in R P) (by omega) (by omega)).2 ⟨hi, hk, r, hr, ht, hn⟩⟩
end Go.Proofs.YtebjofffijnihaaGreatDoor
namespace Go.Proofs.YtebjofffijnihaaGreatDoor
set_option maxRecDepth 100000
set_option linter.unusedVariables false
open Go.ChangeShapes Go.WideShapes Go.ChangeAt Go.RowKit

theorem str_take {l : List Str} {k : Nat} (h : k < l.length) : l.take (k + 1) = l.take k ++ [l.getD k []] := by
  rw [List.take_add_one, List.getElem?_eq_getElem h, List.getD, List.getElem?_eq_getElem h]; rfl

set_option maxHeartbeats 4000000 in
theorem numbersOf_any {w : World} {v u : Value} {z l : List Str} (h1 : SIn w v z) (hup : Up z) (hz : z.length ≤ 64) (h2 : SIn w u l) (hl : ∀ x ∈ l, x ∈ z) :
    Calls Tryz.prog 16 #[v, u] w fun e w' => e = .returned (.int .u64 ((setB z l).toNat : Int)) ∧ Below w.heap.size w w' := by
  have FI : Hid (∀ W, Below w.heap.size w W → ∀ x, x ∈ z → Calls Tryz.prog 7 #[v, .string (bs x)] W fun e w' => ∃ i : Nat, i < z.length ∧ z.getD i [] = x ∧ e = .returned (.tuple #[.int .i64 i, .bool true]) ∧ Below W.heap.size W w') := fun W hW x hx => (find_of (h1.later hW) hup x).mono fun e w' => by
    rintro ⟨⟨i, a, b, c⟩ | ⟨k, _⟩, r, rfl⟩
    · exact ⟨i, a, b, c, below_drewN (Below.refl _ _) _⟩
    · exact absurd hx k
  have ST : Hid (∀ k s n, k < l.length → SetOf z (l.take k) s → n < z.length → z.getD n [] = l.getD k [] → SetOf z (l.take (k + 1)) (s ||| one n)) := fun k s n hk hs hn hx => by rw [str_take hk]; exact setOf_snoc hs hup hn hx
  have SE : Hid (∀ s, SetOf z (l.take l.length) s → setB z l = s) := fun s hs => by rw [List.take_length] at hs; exact setB_of hs
  have S0 : Hid (SetOf z (l.take 0) 0#64) := setOf_nil z
  obtain ⟨a, cap, rfl, hcap, _, _, h5⟩ := h2
  have HC : Hid (∀ W, Below w.heap.size w W → ∀ k, k < l.length → ∃ b off, a = some ⟨b, off, none⟩ ∧ W.cell? ⟨b, off + k, none⟩ = some (.string (bs (l.getD k [])))) := fun W hW k hk => by
    rcases h5 with rfl | ⟨b, off, ha, hlt, hc⟩
    · exact absurd hk (Nat.not_lt_zero _)
    · exact ⟨b, off, ha, cell_later hW (hc k hk)⟩
  have HM : Hid (∀ k, k < l.length → l.getD k [] ∈ z) := fun k hk => by
    rw [List.getD, List.getElem?_eq_getElem hk]
    exact hl _ (List.getElem_mem hk)
  obtain ⟨az, cz, rfl⟩ := h1.shape2
  clear h5 hl h1 hup
  have HZ := Lib.hid hz; clear hz
  have HL : Hid (l.length = l.length) := rfl
  generalize hL : l.length = L at *
  clear hL HL
  go_enter Tryz.func16, Tryz.ntmps16
  go_wp2_with fail
  go_loopw [5, 12] (fun o i wr => ∃ (k : Nat) (s : Bv), k ≤ L ∧ i = .int .i64 (k : Int) ∧ o = .int .u64 (s.toNat : Int) ∧ SetOf z (l.take k) s ∧ Below w.heap.size w wr) (fun _ i _ => L - (intOf i).toNat)
  case atStart => exact ⟨0, 0#64, Nat.zero_le _, rfl, rfl, S0.out, Below.refl _ _⟩
  case round =>
    obtain ⟨k, s, hk, rfl, rfl, qs, qb⟩ := hrel
    have QS := Lib.hid qs; have QB := Lib.hid qb; clear qs qb
    by_cases hkl : k < L
    · obtain ⟨b, off, rfl, c0⟩ := HC.out wr QB.out k hkl
      have FX := Lib.hid (FI.out wr QB.out _ (HM.out k hkl))
      have SX := Lib.hid (fun n => ST.out k s n hkl QS.out)
      have SU : (s.toNat : Int) = (s.toNat : Int) := rfl
      clear SU
      generalize l.getD k [] = x at *
      go_wp2_with fail
      refine FX.out.mono ?_
      rintro e w2 ⟨n, hn, hx, rfl, b2⟩
      have B2 := Lib.hid (QB.out.trans (b2.mono QB.out.size))
      have SN := Lib.hid (SX.out n hn hx)
      have hn64 : n < 64 := Nat.lt_of_lt_of_le hn HZ.out
      have e1 : bits .or .u64 (s.toNat : Int) (IntKind.u64.wrap (2 ^ n)) = ((s ||| one n).toNat : Int) := by rw [one_walk n hn64, bv_or]
      have hn' : (n : Int) < 64 := by omega
      clear b2 hx hn FX SX c0
      generalize (s ||| one n) = s2 at *
      go_wp2
      go_roundw
      case rel => exact ⟨k + 1, s2, by omega, by go_num, rfl, SN.out, B2.out⟩
      case measure => simp [intOf]; omega
    · obtain rfl : k = L := by omega
      have Q2 := Lib.hid (SE.out s QS.out)
      go_wp2
      go_ret
      rw [Q2.out]
      exact ⟨rfl, QB.out⟩
set_option maxHeartbeats 4000000 in
theorem namesG_any {w : World} {v : Value} {z : List Rl} (h : RIn w v z) (hb : RB z) :
    Calls Tryz.prog 15 #[v] w fun e w' => ∃ a c, e = .returned (.slice a (namesJ z).length c) ∧ SO w.heap.size (.slice a (namesJ z).length c) (namesJ z) w' ∧ (namesJ z).length ≤ 8192 ∧ Below w.heap.size w w' := by
  obtain ⟨HL, hB⟩ := hb
  have HB := Lib.hid hB; clear hB
  have NT : Hid (∀ k, k < z.length → namesJ (z.take (k + 1)) = namesJ (z.take k) ++ tg z k ++ nd z k) := fun k hk => namesJ_take hk
  have NE : Hid (namesJ (z.take z.length) = namesJ z) := Lib.hid (by rw [List.take_length])
  obtain ⟨a, cap, rfl, hcap, _, _, h5⟩ := h
  have HC : Hid (∀ W, Below w.heap.size w W → ∀ k, k < z.length → ∃ b off tv uv, a = some ⟨b, off, none⟩ ∧ W.cell? ⟨b, off + k * 2, none⟩ = some tv ∧ W.cell? ⟨b, off + k * 2 + 1, none⟩ = some uv ∧ SIn w tv (tg z k) ∧ SIn w uv (nd z k)) := fun W hW k hk => by
    rcases h5 with rfl | ⟨b, off, ha, hlt, T, U, hc⟩
    · exact absurd hk (Nat.not_lt_zero _)
    · exact ⟨b, off, T k, U k, ha, cell_later hW (hc k hk).1, cell_later hW (hc k hk).2.1, (hc k hk).2.2.1, (hc k hk).2.2.2⟩
  clear h5
  generalize eL : z.length = L at *
  clear eL
  go_enter Tryz.func15, Tryz.ntmps15
  go_wp2_with fail
  go_loopw [3, 8] (fun o i wr => ∃ (k : Nat) (all : List Str) (ao : Option Addr) (no co : Nat), k ≤ L ∧ i = .int .i64 (k : Int) ∧ o = .slice ao no co ∧ all = namesJ (z.take k) ∧ SO w.heap.size o all wr ∧ all.length ≤ 128 * k ∧ Below w.heap.size w wr) (fun _ i _ => L - (intOf i).toNat)
  case atStart => exact ⟨0, [], none, 0, 0, Nat.zero_le _, rfl, rfl, rfl, World.ownsRow_nil _ _ _ _, Nat.zero_le _, Below.refl _ _⟩
  case round =>
    obtain ⟨k, all, ao, no, co, hk, rfl, rfl, ha, qo, ql, qb⟩ := hrel
    have QO := Lib.hid qo; have QB := Lib.hid qb; have HA := Lib.hid ha; clear qo qb ha
    by_cases hkl : k < L
    · obtain ⟨b, off, tv, uv, rfl, c0, c1, s0, s1⟩ := HC.out wr QB.out k hkl
      have N1 := Lib.hid (NT.out k hkl)
      obtain ⟨l1, l2⟩ := HB.out k hkl
      generalize tg z k = tk at *
      generalize nd z k = nk at *
      have K0 := Lib.hid (blk_new wr #[tv, uv] 40)
      have O0 : SO w.heap.size (.slice ao no co) all (wr.alloc (.cells #[tv, uv] 40)) := World.ownsRow.alloc QO.out _
      have W0 : Below w.heap.size w (wr.alloc (.cells #[tv, uv] 40)) := QB.out.alloc QB.out.size _
      obtain ⟨a1, n1, k1, w1, r1, o1, g1, b1⟩ := app_sin O0 (s0.later W0) (by omega) W0.size
      have W1 : Below w.heap.size w w1 := W0.trans b1
      have K1 := Lib.hid (blk_grown K0.out g1 (fun q hq => (QO.out.lt q hq).2))
      obtain ⟨a2, n2, k2, w2, r2, o2, g2, b2⟩ := app_sin o1 (s1.later W1) (by rw [List.length_append]; omega) W1.size
      have R1 := Lib.hid r1; have R2 := Lib.hid r2
      have O2 := Lib.hid o2
      have W2 := Lib.hid (W1.trans b2)
      obtain ⟨at', ct, rfl⟩ := s0.shape
      obtain ⟨an', cn, rfl⟩ := s1.shape
      have LA : Hid ((all ++ tk ++ nk).length ≤ 128 * (k + 1)) := Lib.hid (by rw [List.length_append, List.length_append]; omega)
      have d0 := K0.out.cell (i := 0) rfl
      have d1 := K1.out.cell (i := 1) rfl
      clear O0 W0 W1 r1 r2 o1 o2 g1 g2 b1 b2 l1 l2 s0 s1
      generalize tk.length = lt at *
      generalize nk.length = ln at *
      go_wp2_with (at_builtin; go_must (first
        | refine Lib.wpList_append_run _ rfl (.tmp 12) (.tmp 14) 23 23 rfl _ _ rfl rfl _ _ R1.out ?_
        | refine Lib.wpList_append_run _ rfl (.tmp 16) (.tmp 18) 23 23 rfl _ _ rfl rfl _ _ R2.out ?_))
      go_roundw
      case rel => exact ⟨k + 1, all ++ tk ++ nk, _, _, _, by omega, by go_num, rfl, by rw [N1.out, HA.out], O2.out, LA.out, W2.out⟩
      case measure => simp [intOf]; omega
    · obtain rfl : k = L := by omega
      have A := HA.out
      rw [NE.out] at A
      subst A
      obtain ⟨a3, c3, e3⟩ := own_shape' QO.out
      cases e3
      have QL : Hid ((namesJ z).length ≤ 8192) := Lib.hid (by omega)
      clear ql
      go_wp2
      go_ret
      exact ⟨_, _, rfl, QO.out, QL.out, QB.out⟩
end Go.Proofs.YtebjofffijnihaaGreatDoor
