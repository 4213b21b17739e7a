/-
  The law GraphOwn: spoil writes into its slice's block alone; a copy of edges; the law's own comparison (GraphOwn$1); what Turn and Part hand back is of the call's own. Condition: the table of math/bits lies in memory as its text lays it (the card ties this).
-/
import Derived.Test.YtpjcdfphllbonaaDoorGPa
import Derived.Test.YtpjcdfphllbonaaDoorGSg
import Derived.Test.YtpjcdfphllbonaaDoorGOpen
import Derived.Deep.RegionHeld3
namespace Go.Proofs.YtpjcdfphllbonaaDoor
set_option maxRecDepth 100000
set_option linter.unusedVariables false
open Go.ChangeShapes Go.WideShapes Go.ChangeAt Go.RowKit

set_option maxHeartbeats 1000000 in
set_option maxRecDepth 100000 in
theorem spoil_any {w : World} {B : Nat} {v : Value} {z : List Str} (ho : SO B v z w) (ht : Tl v w) :
    Calls Tryd.prog 32 #[v] w fun e w' => e = .returned (.tuple #[]) ∧ w.grownBy w' v.ownBlock := by
  rcases ho.2 with ⟨rfl, _⟩ | ⟨g, cap, cur, rfl, hb, hg, hnc, hcm, hcs, _⟩
  · clear ho ht
    go_enter Tryd.func32, Tryd.ntmps32
    go_wp2_with fail
    go_rounds 1
    go_end0
    exact ⟨rfl, rfl, rfl, rfl, Nat.le_refl _, fun _ _ _ => rfl⟩
  · obtain ⟨cur', h1, h2⟩ := ht g rfl
    rw [hg] at h1
    cases h1
    have hl : cur.toList.length = cap := by rw [Array.length_toList, hcs]; omega
    have O0 : Hid (w.ownsRow B 9 1 (.slice (some ⟨g, 0, none⟩) cap cap) cap cur.toList) := ⟨by rw [hl]; omega, .inr ⟨g, cap, cur, rfl, hb, hg, Nat.le_refl _, hcm, hcs, List.take_of_length_le (by rw [hl]; omega)⟩⟩
    have SS : Hid (∀ j, j < cap → ∃ s : ByteArray, cur.toList[j]? = some (.string s) ∧ s.size ≤ 4294967296) := fun j hj => by
      rw [← hl] at hj
      obtain ⟨s, e, hs⟩ := h2 _ (List.getElem_mem hj)
      exact ⟨s, by rw [List.getElem?_eq_getElem hj, e], hs⟩
    have hcap : cap ≤ 9223372036854775807 := by unfold maxLen at hcm; omega
    have hob : (Value.slice (some ⟨g, 0, none⟩) z.length cap).ownBlock = some g := rfl
    rw [hob]
    clear ho ht h2 hcs hcm hg hl hob
    generalize z.length = n at *
    generalize cur.toList = ys at *
    go_enter Tryd.func32, Tryd.ntmps32
    go_wp2_with fail
    go_loopw [9] (fun i wr => ∃ (k : Nat) (xs : List Value), k ≤ cap ∧ i = .int .i64 (k : Int) ∧ wr.ownsRow B 9 1 (.slice (some ⟨g, 0, none⟩) cap cap) cap xs ∧ (∀ j, k ≤ j → xs[j]? = ys[j]?) ∧ w.grownBy wr (some g)) (fun i _ => cap - (intOf i).toNat)
    case atStart => exact ⟨0, ys, Nat.zero_le _, rfl, O0.out, fun _ _ => rfl, rfl, rfl, rfl, Nat.le_refl _, fun _ _ _ => rfl⟩
    case round =>
      obtain ⟨k, xs, hk, rfl, qo, qe, qg⟩ := hrel
      have QO := Lib.hid qo; have QE := Lib.hid qe; have QG := Lib.hid qg; clear qo qe qg
      by_cases hkl : k < cap
      · obtain ⟨s, e, hs⟩ := SS.out k hkl
        have c0 : wr.cell? ⟨g, k, none⟩ = some (.string s) := by rw [QO.out.cellAt k (by omega), QE.out k (Nat.le_refl _)]; exact e
        have f0 := QO.out.frozenAt k
        have ST := Lib.hid (QO.out.stored k (.string (s ++ ByteArray.mk #[33])))
        have h1 : (ByteArray.mk #[33]).size = 1 := rfl
        clear e
        go_wp2
        go_roundw
        case rel =>
          refine ⟨k + 1, xs.set k (.string (s ++ ByteArray.mk #[33])), by omega, by go_num, ST.out.1, fun j hj => ?_, grown_trans QG.out ST.out.2⟩
          rw [List.getElem?_set_ne (by omega)]
          exact QE.out j (by omega)
        case measure => simp [intOf]; omega
      · obtain rfl : k = cap := by omega
        go_wp2
        go_end0
        exact ⟨rfl, QG.out⟩

/-! a copy of edges -/
theorem edCells_inv : ∀ (z : List Ed) (j : Nat) (u : Value), (edCells z)[j]? = some u → ∃ k x, z[k]? = some x ∧ ((j = k * 2 ∧ u = .int .i64 x.1) ∨ (j = k * 2 + 1 ∧ u = .int .i64 x.2))
  | [], j, u, h => by simp [edCells] at h
  | y :: t, j, u, h => by
    have e : edCells (y :: t) = .int .i64 y.1 :: .int .i64 y.2 :: edCells t := by simp [edCells, encEd]
    rw [e] at h
    match j, h with
    | 0, h => simp at h; exact ⟨0, y, rfl, .inl ⟨rfl, h.symm⟩⟩
    | 1, h => simp at h; exact ⟨0, y, rfl, .inr ⟨rfl, h.symm⟩⟩
    | j + 2, h =>
      obtain ⟨k, x, h1, h2⟩ := edCells_inv t j u (by simpa using h)
      refine ⟨k + 1, x, by simpa using h1, ?_⟩
      rcases h2 with ⟨rfl, h2⟩ | ⟨rfl, h2⟩
      · exact .inl ⟨by omega, h2⟩
      · exact .inr ⟨by omega, h2⟩
theorem edCells_one (z : List Ed) : ∀ u ∈ edCells z, u.oneCell' = true := by
  intro u hu
  obtain ⟨j, hj⟩ := List.mem_iff_getElem?.1 hu
  obtain ⟨k, x, _, (⟨_, rfl⟩ | ⟨_, rfl⟩)⟩ := edCells_inv z j u hj <;> rfl
set_option maxHeartbeats 2000000 in
set_option maxRecDepth 100000 in
theorem cloneE_any (z : List Ed) (v : Value) (w : World) (h : EIn w v z) :
    Calls Tryd.prog 28 #[v] w fun e w' => ∃ v', e = .returned v' ∧ EO w.heap.size v' z w' ∧ Below w.heap.size w w' := by
  obtain ⟨i0, hi, hz0, hz1, hz2⟩ := info_parts infoEd
  have IH := Lib.hid hi; clear hi
  have q22 : ∀ (w : World) (a : Option Addr) (n c n' c' : Nat), (binOp .eql 23 (.slice a n c) (.slice none n' c')).run Tryd.prog w = .ok (.bool a.isNone) w := fun w a n c n' c' => Lib.run_eql_slice_nil w _ _ a n c n' c' Tryd.underlying23
  have LEN : Hid ((edCells z).length = z.length * 2) := edCells_length z
  have ONE := Lib.hid (edCells_one z)
  have HN := Lib.hid h.bound
  obtain ⟨x, cap, rfl, A⟩ : ∃ (x : Option Addr) (cap : Nat), v = .slice x z.length cap ∧ Hid ((x = none ∧ z = []) ∨ ∃ y, x = some y ∧ ∀ j u, (edCells z)[j]? = some u → w.cell? (y.add j) = some u) := by
    rcases h.open with ⟨rfl, a, cap, rfl⟩ | ⟨hp, b, off, cap, rfl, hcap, hlt, hc⟩
    · cases a with
      | none => exact ⟨none, cap, rfl, .inl ⟨rfl, rfl⟩⟩
      | some y => exact ⟨some y, cap, rfl, .inr ⟨y, rfl, fun j u hj => by simp [edCells] at hj⟩⟩
    · refine ⟨_, cap, rfl, .inr ⟨_, rfl, fun j u hj => ?_⟩⟩
      rw [Addr.add_lit]
      obtain ⟨k, x, h1, (⟨rfl, rfl⟩ | ⟨rfl, rfl⟩)⟩ := edCells_inv z j u hj
      · exact (hc k x h1).1
      · exact (hc k x h1).2
  clear h
  rcases A.out with ⟨rfl, rfl⟩ | ⟨y, rfl, hc⟩
  · go_enter Tryd.func28, Tryd.ntmps28
    go_wp2
    go_ret
    exact ⟨_, rfl, World.ownsRow_nil _ _ _ _, Below.refl _ _⟩
  · have HC : Hid (∀ o j u, (edCells z)[j]? = some u → (w.alloc o).cell? (y.add j) = some u) := fun o j u hj => Lib.cell?_alloc_some _ (hc j u hj)
    clear hc A
    go_enter Tryd.func28, Tryd.ntmps28
    go_wp2_with (at_builtin; go_must (refine wpList_append_own _ rfl (.tmp 5) (.tmp 6) 23 rfl w.heap.size 49 i0 (.agg #[.int .i64 0, .int .i64 0]) 2 16 Tryd.underlying23 IH.out hz0 hz1 hz2 rfl (by decide) _ _ _ rfl (World.ownsRow_made w #[] 0 (Nat.le_refl _) (Nat.zero_le _) (by simp)) y z.length cap (edCells z) rfl LEN.out (HC.out _) ONE.out (by have := HN.out; unfold maxLen; omega) (by have := HN.out; omega) (by simp) ?_; intro v4 w4 q1 q2 q3; have O4 := Lib.hid q1; have G4 : Hid ((w.alloc (.cells #[] 49)).grownBy w4 (some w.heap.size)) := q2; clear q1 q2 q3))
    go_ret
    refine ⟨v4, rfl, by have := O4.out; rw [List.nil_append, Nat.zero_add] at this; exact this, ?_⟩
    exact ((Below.refl _ w).alloc (Nat.le_refl _) _).grown G4.out (by simp) (by intro k hk; injection hk with hk; omega)

/-! what is handed back is of the call's own -/
def zeroGr : Gr := ⟨[], [], 0#64, 0#64⟩
theorem zero_go (B : Nat) (w : World) : GO B zeroG zeroGr w := ⟨_, _, rfl, World.ownsRow_nil _ _ _ _, Tl.nil _ _ _, World.ownsRow_nil _ _ _ _, TlE.nil _ _ _⟩
theorem turn_go {w : World} {v : Value} {g : Gr} (h : GIn w v g) (ht : Tab w) :
    Calls Tryd.prog 8 #[v] w fun e w' => ∃ u c g', e = .returned (.tuple #[u, .int .i64 c]) ∧ GO w.heap.size u g' w' ∧ Below w.heap.size w w' := by
  refine (turn_any h ht).mono ?_
  rintro e w' ⟨hb, ⟨_, rfl⟩ | ⟨_, v', rfl, ho⟩⟩
  · exact ⟨_, _, zeroGr, rfl, zero_go _ _, hb⟩
  · exact ⟨_, _, _, rfl, ho, hb⟩
theorem part_go (s : Bv) {w : World} {v : Value} {g : Gr} (h : GIn w v g) (ht : Tab w) :
    Calls Tryd.prog 9 #[v, .int .u64 (s.toNat : Int)] w fun e w' => ∃ u c g', e = .returned (.tuple #[u, .int .i64 c]) ∧ GO w.heap.size u g' w' ∧ Below w.heap.size w w' := by
  refine (part_any s h ht).mono ?_
  rintro e w' ⟨hb, ⟨_, rfl⟩ | ⟨_, ⟨_, rfl⟩ | ⟨_, v', rfl, ho⟩⟩⟩
  · exact ⟨_, _, zeroGr, rfl, zero_go _ _, hb⟩
  · exact ⟨_, _, zeroGr, rfl, zero_go _ _, hb⟩
  · exact ⟨_, _, _, rfl, ho, hb⟩

/-! the law's own comparison -/
/-- what the law's closure looks at: the graph's cells, the copies' cells, and what they hold -/
structure Own (k p q : Nat) (nv ev v1 v2 : Value) (g : Gr) (w : World) : Prop where
  gk : GBlk k nv ev g w
  pk : Blk p #[v1] 22 w
  qk : Blk q #[v2] 23 w
  n1 : SIn w nv g.ns
  n2 : SIn w v1 g.ns
  e1 : EIn w ev g.es
  e2 : EIn w v2 g.es
theorem Own.later {k p q : Nat} {nv ev v1 v2 : Value} {g : Gr} {w w' : World} (h : Own k p q nv ev v1 v2 g w) (hb : Below w.heap.size w w') : Own k p q nv ev v1 v2 g w' :=
  ⟨h.gk.later hb, h.pk.later hb, h.qk.later hb, h.n1.later hb, h.n2.later hb, h.e1.later hb, h.e2.later hb⟩
set_option maxHeartbeats 4000000 in
theorem sameOwn_any {k p q : Nat} {nv ev v1 v2 : Value} {g : Gr} {w : World} (h : Own k p q nv ev v1 v2 g w) :
    Calls Tryd.prog 29 #[.pointer (some ⟨k, 0, none⟩), .pointer (some ⟨p, 0, none⟩), .pointer (some ⟨q, 0, none⟩)] w fun e w' => e = .returned (.bool true) ∧ Below w.heap.size w w' := by
  have SN := Lib.hid (equal_of h.n1 h.n2)
  have SE := Lib.hid (fun r => equalE_same (h.e1.later (below_drewN (Below.refl _ w) r)) (h.e2.later (below_drewN (Below.refl _ w) r)))
  have HD : decide (g.ns = g.ns) = true := by simp
  rw [HD] at SN
  obtain ⟨d0, d1, _, _⟩ := h.gk.get
  have c1 := h.pk.cell (i := 0) rfl
  have c2 := h.qk.cell (i := 0) rfl
  obtain ⟨x1, y1, rfl⟩ := h.n1.shape2
  obtain ⟨x2, y2, rfl⟩ := h.e1.shape2
  obtain ⟨x3, y3, rfl⟩ := h.n2.shape2
  obtain ⟨x4, y4, rfl⟩ := h.e2.shape2
  clear h HD
  generalize g.ns.length = L at *
  generalize g.es.length = M at *
  go_enter Tryd.func29, Tryd.ntmps29
  go_wp2_with fail
  refine SN.out.mono ?_
  rintro e w' ⟨rfl, r, rfl⟩
  go_wp2_with fail
  refine (SE.out r).mono ?_
  rintro e w' ⟨rfl, r2, rfl⟩
  go_wp2
  go_ret
  exact ⟨rfl, below_drewN (Below.refl _ w) _⟩
end Go.Proofs.YtpjcdfphllbonaaDoor
