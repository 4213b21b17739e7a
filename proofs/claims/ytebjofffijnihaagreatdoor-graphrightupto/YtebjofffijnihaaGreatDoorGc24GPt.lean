/-
  Plain facts on graphs: what is turned twice, what a part has, a part of a part, a part of what is turned, all of it. No condition.
  Edges in memory, handed in or of one's own; rows of sets of one's own; a graph in memory. No condition.
  cmp.Compare and cmp.Or, package graph's compareEdges, areIncreasing and areNumbers. No condition.
-/
import Derived.Test.YtebjofffijnihaaGreatDoorGc23Sub
import Derived.Test.YtebjofffijnihaaGreatDoorGc1Ls
import Derived.Test.YtebjofffijnihaaGreatDoorGc2MPl
import Derived.Test.YtebjofffijnihaaGreatDoorGc19FPn
import Derived.Deep.RegionWith
import Derived.Deep.RegionHeld3
namespace Go.Proofs.YtebjofffijnihaaGreatDoor
set_option maxRecDepth 100000

structure Valid (g : Gr) : Prop where
  len : g.ns.length ≤ 64
  all : ∀ x ∈ g.ns, good x = true
  up : Up g.ns
  ein : EdIn g.ns.length g.es
  eup : EdUp g.es
  sin : SetIn g.ns.length (g.ph ||| g.md)
theorem gr_ext {a b : Gr} (h1 : a.ns = b.ns) (h2 : a.es = b.es) (h3 : a.ph = b.ph) (h4 : a.md = b.md) : a = b := by
  cases a; cases b; subst h1 h2 h3 h4; rfl
theorem cnt_in {s : Bv} {n : Nat} (h : s.getLsbD n = true) : n < 64 := by
  rcases Nat.lt_or_ge n 64 with h' | h'
  · exact h'
  · rw [bit_ge s h'] at h; cases h
theorem in_len {s : Bv} {m n : Nat} (hs : SetIn m s) (h : s.getLsbD n = true) : n < m := by
  rcases Nat.lt_or_ge n m with h' | h'
  · exact h'
  · rw [hs n h'] at h; cases h

/-! turned -/
theorem turn_mem {g : Gr} (h : Valid g) (x : Ed) : x ∈ (turnG g).es ↔ sw x ∈ g.es := by
  show x ∈ edgesL _ ↔ _
  unfold edgesL
  rw [edgesTo_mem, rowsTo_length]
  constructor
  · rintro ⟨i, k, h1, h2, h3, rfl⟩
    rw [rowsTo_bit h.ein.sw i k h2, List.mem_map] at h3
    obtain ⟨y, hy, e⟩ := h3
    rw [← e]; exact hy
  · intro hx
    obtain ⟨h1, h2, h3, h4⟩ := h.ein _ hx
    have hl := h.len
    unfold sw at h1 h2 h3 h4
    simp only at h1 h2 h3 h4
    have e : (((x.1.toNat : Nat) : Int), ((x.2.toNat : Nat) : Int)) = x := Prod.ext (by simp; omega) (by simp; omega)
    refine ⟨x.1.toNat, x.2.toNat, by omega, by omega, (rowsTo_bit h.ein.sw _ _ (by omega)).2 ?_, e.symm⟩
    rw [e]
    exact List.mem_map.2 ⟨_, hx, rfl⟩
theorem valid_turn {g : Gr} (h : Valid g) : Valid (turnG g) where
  len := h.len
  all := h.all
  up := h.up
  ein := fun x hx => by
    obtain ⟨a, b, c, d⟩ := h.ein _ ((turn_mem h x).1 hx)
    exact ⟨c, d, a, b⟩
  eup := edgesL_up _
  sin := h.sin
theorem turn_turn {g : Gr} (h : Valid g) : turnG (turnG g) = g := by
  refine gr_ext rfl (ed_ext (edgesL_up _) h.eup fun x => ?_) rfl rfl
  rw [turn_mem (valid_turn h), turn_mem h]; rfl

/-! parts -/
theorem nums_rank {s : Bv} {n : Nat} (h : s.getLsbD n = true) : (nums s)[cntTo s.getLsbD n]? = some n := nums_at s n (cnt_in h) h
theorem rank_lt {s : Bv} {n : Nat} (h : s.getLsbD n = true) : cntTo s.getLsbD n < cnt s := cntTo_hit _ (cnt_in h) h
theorem part_mem {g : Gr} (h : Valid g) (s : Bv) (x : Ed) :
    x ∈ (partG g s).es ↔ ∃ i k : Nat, s.getLsbD i = true ∧ s.getLsbD k = true ∧ ((i : Int), (k : Int)) ∈ g.es ∧ x = (((cntTo s.getLsbD i : Nat) : Int), ((cntTo s.getLsbD k : Nat) : Int)) := by
  show x ∈ edgesL _ ↔ _
  unfold edgesL
  rw [edgesTo_mem, List.length_map, nums_length]
  constructor
  · rintro ⟨j, l, h1, h2, h3, rfl⟩
    obtain ⟨n, n1, n2, n3, n4⟩ := nums_get s j h1
    unfold wAt at h3
    rw [List.getD, List.getElem?_map, n4] at h3
    obtain ⟨k, k1, k2, k3, k4⟩ := (renum_bit _ s l).1 h3
    exact ⟨n, k, n2, k3, (rowsTo_bit h.ein n k k1).1 k2, by rw [n3, k4]⟩
  · rintro ⟨i, k, h1, h2, h3, rfl⟩
    have hl := cnt_le s
    refine ⟨_, _, rank_lt h1, by have := rank_lt h2; omega, ?_, rfl⟩
    unfold wAt
    rw [List.getD, List.getElem?_map, nums_rank h1]
    show (renum (wAt (rowsTo g.ns.length g.es) i) s).getLsbD _ = true
    rw [renum_at _ s h2]
    exact (rowsTo_bit h.ein i k (cnt_in h2)).2 h3
theorem valid_part {g : Gr} (h : Valid g) {s : Bv} (hs : SetIn g.ns.length s) : Valid (partG g s) := by
  have hl : (partG g s).ns.length = cnt s := by show (List.map _ _).length = _; rw [List.length_map, nums_length]
  refine ⟨by rw [hl]; exact cnt_le s, fun x hx => ?_, ?_, fun x hx => ?_, edgesL_up _, ?_⟩
  · obtain ⟨n, hn, rfl⟩ := List.mem_map.1 hx
    have := in_len hs (nums_mem.1 hn).2
    rw [List.getD, List.getElem?_eq_getElem this]
    exact h.all _ (List.getElem_mem _)
  · refine List.pairwise_map.2 ((nums_up s).imp_of_mem fun {a b} ha hb hab => ?_)
    exact up_get h.up hab (in_len hs (nums_mem.1 hb).2)
  · obtain ⟨i, k, h1, h2, _, rfl⟩ := (part_mem h s x).1 hx
    rw [hl]
    have e1 := rank_lt h1
    have e2 := rank_lt h2
    exact ⟨by simp, by simpa using e1, by simp, by simpa using e2⟩
  · rw [hl]
    exact setIn_mk (fun i hi => renum_high _ s hi) (fun i hi => renum_high _ s hi)
theorem nums_renum (s t : Bv) : nums (renum t s) = (nums (s &&& t)).map (cntTo s.getLsbD) := by
  refine nat_ext (nums_up _) (List.pairwise_map.2 ((nums_up _).imp_of_mem fun {a b} ha _ hab => ?_)) fun x => ?_
  · have := (nums_mem.1 ha).2
    rw [BitVec.getLsbD_and, Bool.and_eq_true] at this
    exact cntTo_hit _ hab this.1
  · rw [nums_mem, renum_bit, List.mem_map]
    constructor
    · rintro ⟨_, n, h1, h2, h3, h4⟩
      exact ⟨n, nums_mem.2 ⟨h1, by rw [BitVec.getLsbD_and, h2, h3]; rfl⟩, h4⟩
    · rintro ⟨n, h1, rfl⟩
      obtain ⟨h1, h2⟩ := nums_mem.1 h1
      rw [BitVec.getLsbD_and, Bool.and_eq_true] at h2
      have := rank_lt h2.1
      have := cnt_le s
      exact ⟨by omega, n, h1, h2.2, h2.1, rfl⟩
theorem renum_renum (s t p : Bv) : renum (renum p s) (renum t s) = renum p (s &&& t) := by
  refine bv_ext fun i _ => ?_
  rw [Bool.eq_iff_iff, renum_bit, renum_bit]
  constructor
  · rintro ⟨m, _, h2, h3, h4⟩
    obtain ⟨n, n1, n2, n3, rfl⟩ := (renum_bit p s m).1 h2
    rw [renum_at t s n3] at h3
    rw [renum_rank] at h4
    exact ⟨n, n1, n2, by rw [BitVec.getLsbD_and, n3, h3]; rfl, h4⟩
  · rintro ⟨n, n1, n2, n3, n4⟩
    rw [BitVec.getLsbD_and, Bool.and_eq_true] at n3
    have := rank_lt n3.1
    have := cnt_le s
    exact ⟨cntTo s.getLsbD n, by omega, by rw [renum_at _ _ n3.1]; exact n2, by rw [renum_at _ _ n3.1]; exact n3.2, by rw [renum_rank]; exact n4⟩
theorem part_part {g : Gr} (h : Valid g) {s : Bv} (hs : SetIn g.ns.length s) (t : Bv) : partG (partG g s) (renum t s) = partG g (s &&& t) := by
  refine gr_ext ?_ (ed_ext (edgesL_up _) (edgesL_up _) fun x => ?_) (renum_renum s t _) (renum_renum s t _)
  · show (nums (renum t s)).map (fun n => ((nums s).map fun n => g.ns.getD n []).getD n []) = (nums (s &&& t)).map fun n => g.ns.getD n []
    rw [nums_renum, List.map_map]
    refine List.map_congr_left fun n hn => ?_
    have h2 := (nums_mem.1 hn).2
    rw [BitVec.getLsbD_and, Bool.and_eq_true] at h2
    show ((nums s).map fun n => g.ns.getD n []).getD (cntTo s.getLsbD n) [] = _
    rw [List.getD, List.getElem?_map, nums_rank h2.1]; rfl
  · rw [part_mem (valid_part h hs), part_mem h]
    constructor
    · rintro ⟨i, k, h1, h2, h3, rfl⟩
      obtain ⟨a, b, a1, b1, hab, e⟩ := (part_mem h s _).1 h3
      have e1 : i = cntTo s.getLsbD a := by have h : (i : Int) = ((cntTo s.getLsbD a : Nat) : Int) := congrArg Prod.fst e; omega
      have e2 : k = cntTo s.getLsbD b := by have h : (k : Int) = ((cntTo s.getLsbD b : Nat) : Int) := congrArg Prod.snd e; omega
      subst e1 e2
      rw [renum_at t s a1] at h1
      rw [renum_at t s b1] at h2
      exact ⟨a, b, by rw [BitVec.getLsbD_and, a1, h1]; rfl, by rw [BitVec.getLsbD_and, b1, h2]; rfl, hab, by rw [renum_rank, renum_rank]⟩
    · rintro ⟨a, b, h1, h2, h3, rfl⟩
      rw [BitVec.getLsbD_and, Bool.and_eq_true] at h1 h2
      exact ⟨_, _, by rw [renum_at t s h1.1]; exact h1.2, by rw [renum_at t s h2.1]; exact h2.2, (part_mem h s _).2 ⟨a, b, h1.1, h2.1, h3, rfl⟩, by rw [renum_rank, renum_rank]⟩
theorem part_turn {g : Gr} (h : Valid g) {s : Bv} (hs : SetIn g.ns.length s) : partG (turnG g) s = turnG (partG g s) := by
  refine gr_ext rfl (ed_ext (edgesL_up _) (edgesL_up _) fun x => ?_) rfl rfl
  rw [part_mem (valid_turn h), turn_mem (valid_part h hs), part_mem h]
  constructor
  · rintro ⟨i, k, h1, h2, h3, rfl⟩
    exact ⟨k, i, h2, h1, (turn_mem h _).1 h3, rfl⟩
  · rintro ⟨k, i, h1, h2, h3, e⟩
    refine ⟨i, k, h2, h1, (turn_mem h _).2 h3, ?_⟩
    have := congrArg sw e
    exact this
theorem low_rank {n : Nat} (hn : n ≤ 64) : ∀ {i : Nat}, i ≤ n → cntTo (low n).getLsbD i = i
  | 0, _ => rfl
  | i + 1, h => by
    rw [cntTo_succ, low_rank hn (by omega), low_bit n i (by omega)]
    have : decide (i < n) = true := decide_eq_true (by omega)
    rw [this]; simp
theorem low_in {n i : Nat} (hn : n ≤ 64) : (low n).getLsbD i = true ↔ i < n := by
  rcases Nat.lt_or_ge i 64 with h | h
  · rw [low_bit n i h]; simp
  · rw [bit_ge _ h]
    constructor
    · intro e; cases e
    · intro e; omega
theorem setIn_low {n : Nat} (hn : n ≤ 64) (s : Bv) : SetIn n (s &&& low n) := fun i hi => by
  rw [BitVec.getLsbD_and]
  cases h : (low n).getLsbD i
  · simp
  · have := (low_in hn).1 h; omega
theorem nums_low {n : Nat} (hn : n ≤ 64) : nums (low n) = List.range n := by
  refine nat_ext (nums_up _) List.pairwise_lt_range fun x => ?_
  rw [nums_mem, low_in hn, List.mem_range]
  constructor
  · exact fun h => h.2
  · exact fun h => ⟨by omega, h⟩
theorem renum_low {n : Nat} (hn : n ≤ 64) {t : Bv} (ht : SetIn n t) : renum t (low n) = t := by
  refine bv_ext fun i _ => ?_
  rw [Bool.eq_iff_iff, renum_bit]
  constructor
  · rintro ⟨m, _, h2, h3, h4⟩
    rw [low_rank hn (by have := (low_in hn).1 h3; omega)] at h4
    subst h4; exact h2
  · intro h
    have hi := in_len ht h
    exact ⟨i, by omega, h, (low_in hn).2 hi, low_rank hn (by omega)⟩
theorem part_all {g : Gr} (h : Valid g) : partG g (low g.ns.length) = g := by
  have hl := h.len
  obtain ⟨s1, s2⟩ := setIn_or h.sin
  refine gr_ext ?_ (ed_ext (edgesL_up _) h.eup fun x => ?_) (renum_low hl s1) (renum_low hl s2)
  · show (nums (low g.ns.length)).map (fun n => g.ns.getD n []) = g.ns
    rw [nums_low hl]
    apply List.ext_getElem?
    intro i
    rw [List.getElem?_map]
    rcases Nat.lt_or_ge i g.ns.length with h' | h'
    · rw [List.getElem?_range h', List.getElem?_eq_getElem h']
      simp [List.getD, List.getElem?_eq_getElem h']
    · rw [List.getElem?_eq_none (by rw [List.length_range]; exact h'), List.getElem?_eq_none h']; rfl
  · rw [part_mem h]
    constructor
    · rintro ⟨i, k, h1, h2, h3, rfl⟩
      rw [low_rank hl (by have := (low_in hl).1 h1; omega), low_rank hl (by have := (low_in hl).1 h2; omega)]
      exact h3
    · intro hx
      obtain ⟨h1, h2, h3, h4⟩ := h.ein x hx
      have e : (((x.1.toNat : Nat) : Int), ((x.2.toNat : Nat) : Int)) = x := Prod.ext (by simp; omega) (by simp; omega)
      refine ⟨x.1.toNat, x.2.toNat, (low_in hl).2 (by omega), (low_in hl).2 (by omega), by rw [e]; exact hx, ?_⟩
      rw [low_rank hl (by omega), low_rank hl (by omega), e]
end Go.Proofs.YtebjofffijnihaaGreatDoor
namespace Go.Proofs.YtebjofffijnihaaGreatDoor
set_option maxRecDepth 100000
set_option linter.unusedVariables false
open Go.ChangeShapes Go.WideShapes Go.ChangeAt Go.RowKit

/-- the cells of an edge -/
def encEd (x : Ed) : List Value := [.int .i64 x.1, .int .i64 x.2]
def edCells (z : List Ed) : List Value := z.flatMap encEd
theorem edCells_length (z : List Ed) : (edCells z).length = z.length * 2 := by
  induction z with
  | nil => rfl
  | cons x r ih => simp [edCells, encEd] at ih ⊢; omega
theorem edCells_snoc (z : List Ed) (x : Ed) : edCells (z ++ [x]) = edCells z ++ [.int .i64 x.1, .int .i64 x.2] := by simp [edCells, encEd]
theorem edCells_append (y z : List Ed) : edCells (y ++ z) = edCells y ++ edCells z := by simp [edCells]
theorem edCells_at : ∀ (z : List Ed) (k : Nat) (x : Ed), z[k]? = some x → (edCells z)[k * 2]? = some (.int .i64 x.1) ∧ (edCells z)[k * 2 + 1]? = some (.int .i64 x.2)
  | [], k, x, h => by simp at h
  | y :: t, 0, x, h => by
    simp at h
    subst h
    simp [edCells, encEd]
  | y :: t, k + 1, x, h => by
    have ih := edCells_at t k x (by simpa using h)
    have e : edCells (y :: t) = .int .i64 y.1 :: .int .i64 y.2 :: edCells t := by simp [edCells, encEd]
    rw [e, show (k + 1) * 2 = k * 2 + 1 + 1 by omega, show k * 2 + 1 + 1 + 1 = (k * 2 + 1) + 1 + 1 by omega]
    simpa using ih

/-- a slice that holds the edges z -/
def EIn (w : World) (v : Value) (z : List Ed) : Prop :=
  ∃ a cap, v = .slice a z.length cap ∧ z.length ≤ cap ∧ cap ≤ maxLen ∧ z.length ≤ 8796093022208 ∧
    (z = [] ∨ ∃ b off, a = some ⟨b, off, none⟩ ∧ b < w.heap.size ∧ ∀ k x, z[k]? = some x → w.cell? ⟨b, off + k * 2, none⟩ = some (.int .i64 x.1) ∧ w.cell? ⟨b, off + k * 2 + 1, none⟩ = some (.int .i64 x.2))
theorem EIn.later {w w' : World} {v : Value} {z : List Ed} (h : EIn w v z) (hb : Below w.heap.size w w') : EIn w' v z := by
  obtain ⟨a, cap, h1, h2, h3, h4, h5⟩ := h
  refine ⟨a, cap, h1, h2, h3, h4, ?_⟩
  rcases h5 with h5 | ⟨b, off, h5, h6, h7⟩
  · exact .inl h5
  · exact .inr ⟨b, off, h5, Nat.lt_of_lt_of_le h6 hb.size, fun k x hk => ⟨cell_later hb (h7 k x hk).1, cell_later hb (h7 k x hk).2⟩⟩
theorem EIn.bound {w : World} {v : Value} {z : List Ed} (h : EIn w v z) : z.length ≤ 8796093022208 := by obtain ⟨_, _, _, _, _, h3, _⟩ := h; exact h3
theorem EIn.shape {w : World} {v : Value} {z : List Ed} (h : EIn w v z) : ∃ a c, v = .slice a z.length c := by obtain ⟨a, c, h, _⟩ := h; exact ⟨a, c, h⟩
theorem EIn.open {w : World} {v : Value} {z : List Ed} (h : EIn w v z) : (z = [] ∧ ∃ a cap, v = .slice a 0 cap) ∨
    (0 < z.length ∧ ∃ b off cap, v = .slice (some ⟨b, off, none⟩) z.length cap ∧ z.length ≤ cap ∧ b < w.heap.size ∧ ∀ k x, z[k]? = some x → w.cell? ⟨b, off + k * 2, none⟩ = some (.int .i64 x.1) ∧ w.cell? ⟨b, off + k * 2 + 1, none⟩ = some (.int .i64 x.2)) := by
  obtain ⟨a, cap, rfl, h2, _, _, h5⟩ := h
  by_cases h0 : z = []
  · subst h0; exact .inl ⟨rfl, a, cap, rfl⟩
  · rcases h5 with h5 | ⟨b, off, rfl, h6, h7⟩
    · exact absurd h5 h0
    · exact .inr ⟨List.length_pos_iff.2 h0, b, off, cap, rfl, h2, h6, h7⟩
theorem EIn.own {w : World} {base : Nat} {v : Value} {z : List Ed} (h : w.ownsRow base 38 2 v z.length (edCells z)) (hn : z.length ≤ 8796093022208) : EIn w v z := by
  rcases h.2 with ⟨hv, h0⟩ | ⟨g, cap, cur, hv, hb, hg, hc, hm, hs, ht⟩
  · have : z = [] := List.length_eq_zero_iff.1 h0
    subst this
    exact ⟨none, 0, hv, Nat.le_refl _, Nat.zero_le _, Nat.zero_le _, .inl rfl⟩
  · refine ⟨_, cap, hv, hc, hm, hn, .inr ⟨g, 0, rfl, ?_, fun k x hk => ?_⟩⟩
    · rcases Nat.lt_or_ge g w.heap.size with h' | h'
      · exact h'
      · simp [Array.getElem?_eq_none h'] at hg
    · have hc := h.cells (g := g) (by rw [hv]; rfl)
      obtain ⟨h1, h2⟩ := edCells_at z k x hk
      have e1 := hc _ _ h1
      have e2 := hc _ _ h2
      rw [add_off] at e1 e2
      rw [Nat.zero_add]
      exact ⟨e1, e2⟩
theorem ein_nil (w : World) : EIn w (.slice none 0 0) [] := ⟨none, 0, rfl, Nat.le_refl _, Nat.zero_le _, Nat.zero_le _, .inl rfl⟩
theorem infoEd : (Tryz.prog.info? 38).map (fun i => (i.zero, i.size, i.bytes)) = some (some (.agg #[.int .i64 0, .int .i64 0]), 2, 16) := by kernel_rfl
def EO (B : Nat) (v : Value) (z : List Ed) (w : World) : Prop := w.ownsRow B 38 2 v z.length (edCells z)
theorem EO.snoc {B : Nat} {v : Value} {z : List Ed} {x : Ed} {w : World} (h : w.ownsRow B 38 2 v (z.length + 1) (edCells z ++ [.int .i64 x.1, .int .i64 x.2])) : EO B v (z ++ [x]) w := by
  unfold EO; rw [List.length_append, edCells_snoc]; exact h

/-! rows of sets -/
def encW (s : Bv) : Value := .int .u64 (s.toNat : Int)
theorem infoW : (Tryz.prog.info? 30).map (fun i => (i.zero, i.size, i.bytes)) = some (some (.int .u64 0), 1, 8) := by kernel_rfl
def WO (B : Nat) (v : Value) (r : List Bv) (w : World) : Prop := w.ownsRow B 30 1 v r.length (r.map encW)
theorem wAt_get {r : List Bv} {i : Nat} (h : i < r.length) : (r.map encW)[i]? = some (.int .u64 ((wAt r i).toNat : Int)) := by
  unfold wAt
  rw [List.getElem?_map, List.getD, List.getElem?_eq_getElem h]; rfl
theorem orAt_map (r : List Bv) (i : Nat) (s : Bv) : (orAt r i s).map encW = (r.map encW).set i (encW (wAt r i ||| s)) := by
  unfold orAt; rw [List.map_set]
theorem WO.cell {B : Nat} {g c : Nat} {r : List Bv} {w : World} (h : WO B (.slice (some ⟨g, 0, none⟩) r.length c) r w) {i : Nat} (hi : i < r.length) : w.cell? ⟨g, i, none⟩ = some (.int .u64 ((wAt r i).toNat : Int)) := by
  rw [World.ownsRow.cellAt h i (by omega)]
  exact wAt_get hi
theorem WO.frozen {B : Nat} {g c : Nat} {r : List Bv} {w : World} (h : WO B (.slice (some ⟨g, 0, none⟩) r.length c) r w) (i : Nat) : w.frozen? ⟨g, i, none⟩ = false := World.ownsRow.frozenAt h i
theorem WO.store {B : Nat} {g c : Nat} {r : List Bv} {w : World} (h : WO B (.slice (some ⟨g, 0, none⟩) r.length c) r w) (i : Nat) (s : Bv) :
    WO B (.slice (some ⟨g, 0, none⟩) r.length c) (orAt r i s) (w.setCell ⟨g, i, none⟩ (.int .u64 ((wAt r i ||| s).toNat : Int))) ∧ w.grownBy (w.setCell ⟨g, i, none⟩ (.int .u64 ((wAt r i ||| s).toNat : Int))) (some g) := by
  have := World.ownsRow.stored h i (encW (wAt r i ||| s))
  refine ⟨?_, this.2⟩
  unfold WO
  rw [orAt_map, orAt_length]
  exact this.1

/-- a graph in memory -/
def GIn (w : World) (v : Value) (g : Gr) : Prop := ∃ nv ev, v = .agg #[nv, ev, .int .u64 (g.ph.toNat : Int), .int .u64 (g.md.toNat : Int)] ∧ SIn w nv g.ns ∧ EIn w ev g.es
theorem GIn.later {w w' : World} {v : Value} {g : Gr} (h : GIn w v g) (hb : Below w.heap.size w w') : GIn w' v g := by
  obtain ⟨nv, ev, h1, h2, h3⟩ := h
  exact ⟨nv, ev, h1, h2.later hb, h3.later hb⟩
end Go.Proofs.YtebjofffijnihaaGreatDoor
namespace Go.Proofs.YtebjofffijnihaaGreatDoor
set_option maxRecDepth 100000
set_option linter.unusedVariables false
open Go.ChangeShapes Go.WideShapes Go.ChangeAt Go.RowKit

def cI (x y : Int) : Int := if x < y then -1 else if y < x then 1 else 0
def cS (x y : Str) : Int := if x < y then -1 else if y < x then 1 else 0
theorem cS_neg {x y : Str} : cS x y < 0 ↔ x < y := by
  unfold cS
  by_cases h : x < y
  · simp [h]
  · rw [if_neg h]
    constructor
    · intro k; split at k <;> omega
    · intro k; exact absurd k h
def cE (x y : Ed) : Int := if cI x.1 y.1 ≠ 0 then cI x.1 y.1 else cI x.2 y.2
theorem cE_neg {x y : Ed} : cE x y < 0 ↔ edLt x y := by
  unfold cE edLt cI
  rcases Int.lt_trichotomy x.1 y.1 with h | h | h
  · simp [h]
  · rw [h]
    simp only [Int.lt_irrefl, if_false, ne_eq, not_true, true_and, false_or]
    constructor
    · intro k
      split at k
      · assumption
      · split at k <;> omega
    · intro k; rw [if_pos k]; omega
  · have h1 : ¬ x.1 < y.1 := by omega
    have h2 : ¬ x.1 = y.1 := by omega
    simp [h, h1, h2]
theorem isNaNi_any (x : Int) (w : World) : Calls Tryz.prog 83 #[.int .i64 x] w fun e w' => e = .returned (.bool false) ∧ w' = w := by
  go_enter Tryz.func83, Tryz.ntmps83
  go_wp2
  go_ret
  exact ⟨ret_b (by simp), rfl⟩
theorem cmpI_any (x y : Int) (w : World) : Calls Tryz.prog 63 #[.int .i64 x, .int .i64 y] w fun e w' => e = .returned (.int .i64 (cI x y)) ∧ w' = w := by
  unfold cI
  by_cases h1 : x < y
  · rw [if_pos h1]
    go_enter Tryz.func63, Tryz.ntmps63
    go_wp2_with (go_at_call 83; refine (isNaNi_any _ _).mono ?_; rintro e w' ⟨rfl, rfl⟩)
    go_ret
    exact ⟨rfl, rfl⟩
  · rw [if_neg h1]
    by_cases h2 : y < x
    · rw [if_pos h2]
      go_enter Tryz.func63, Tryz.ntmps63
      go_wp2_with (go_at_call 83; refine (isNaNi_any _ _).mono ?_; rintro e w' ⟨rfl, rfl⟩)
      go_ret
      exact ⟨rfl, rfl⟩
    · rw [if_neg h2]
      go_enter Tryz.func63, Tryz.ntmps63
      go_wp2_with (go_at_call 83; refine (isNaNi_any _ _).mono ?_; rintro e w' ⟨rfl, rfl⟩)
      go_ret
      exact ⟨rfl, rfl⟩
theorem isNaNs_any (s : ByteArray) (w : World) : Calls Tryz.prog 60 #[.string s] w fun e w' => e = .returned (.bool false) ∧ w' = w := by
  go_enter Tryz.func60, Tryz.ntmps60
  go_wp2
  go_ret
  exact ⟨ret_b (by simp), rfl⟩
theorem cmpS_any (x y : Str) (w : World) : Calls Tryz.prog 42 #[.string (bs x), .string (bs y)] w fun e w' => e = .returned (.int .i64 (cS x y)) ∧ w' = w := by
  have e1 : Op.bytesLess (bs x).toList (bs y).toList = decide (x < y) := by rw [bs_toList, bs_toList]; exact bytesLess_eq x y
  have e3 : ((bs x).toList == (bs y).toList) = decide (x = y) := by rw [bs_toList, bs_toList]; exact beq_dec x y
  unfold cS
  by_cases h1 : x < y
  · rw [if_pos h1]
    rw [decide_eq_true h1] at e1
    clear e3 h1
    go_enter Tryz.func42, Tryz.ntmps42
    go_wp2_with (go_at_call 60; refine (isNaNs_any _ _).mono ?_; rintro e w' ⟨rfl, rfl⟩)
    go_ret
    exact ⟨rfl, rfl⟩
  · rw [if_neg h1]
    rw [decide_eq_false h1] at e1
    by_cases h2 : y < x
    · have hne : x ≠ y := fun h => by subst h; exact List.lt_irrefl _ h2
      rw [if_pos h2]
      rw [decide_eq_false hne] at e3
      clear h1 h2 hne
      go_enter Tryz.func42, Tryz.ntmps42
      go_wp2_with (go_at_call 60; refine (isNaNs_any _ _).mono ?_; rintro e w' ⟨rfl, rfl⟩)
      go_ret
      exact ⟨rfl, rfl⟩
    · have he : x = y := List.le_antisymm (List.not_lt.1 h2) (List.not_lt.1 h1)
      rw [if_neg h2]
      rw [decide_eq_true he] at e3
      clear h1 h2 he
      go_enter Tryz.func42, Tryz.ntmps42
      go_wp2_with (go_at_call 60; refine (isNaNs_any _ _).mono ?_; rintro e w' ⟨rfl, rfl⟩)
      go_ret
      exact ⟨rfl, rfl⟩
theorem below3 (w : World) (o1 o2 o3 : Obj) : Below w.heap.size w (((w.alloc o1).alloc o2).alloc o3).drew := by
  have h1 := (Below.refl w.heap.size w).alloc (Nat.le_refl _) o1
  have h2 := h1.alloc h1.size o2
  exact (h2.alloc h2.size o3).drew
theorem new3 {w : World} {o1 o2 : Obj} {xs : Array Value} {t : TypeId} {i : Nat} {x : Value} (h : xs[i]? = some x) : (((w.alloc o1).alloc o2).alloc (.cells xs t)).drew.cell? ⟨w.heap.size + 1 + 1, i, none⟩ = some x := by
  have := (blk_new ((w.alloc o1).alloc o2) xs t).cell h
  simpa using this
theorem orI_any (b : Nat) (x y : Int) (w : World) (c0 : w.cell? ⟨b, 0, none⟩ = some (.int .i64 x)) (c1 : w.cell? ⟨b, 1, none⟩ = some (.int .i64 y)) :
    Calls Tryz.prog 62 #[.slice (some ⟨b, 0, none⟩) 2 2] w fun e w' => e = .returned (.int .i64 (if x ≠ 0 then x else y)) ∧ w' = w := by
  by_cases h1 : x = 0
  · subst h1
    by_cases h2 : y = 0
    · subst h2
      go_enter Tryz.func62, Tryz.ntmps62
      go_wp2_with fail
      go_rounds 3
      go_ret
      exact ⟨rfl, rfl⟩
    · have t : (y != 0) = true := bne_iff_ne.2 h2
      go_enter Tryz.func62, Tryz.ntmps62
      go_wp2_with fail
      go_rounds 2
      go_ret
      exact ⟨rfl, rfl⟩
  · have t : (x != 0) = true := bne_iff_ne.2 h1
    rw [if_pos h1]
    clear h1
    go_enter Tryz.func62, Tryz.ntmps62
    go_wp2_with fail
    go_rounds 1
    go_ret
    exact ⟨rfl, rfl⟩
theorem orE_any (b : Nat) (p q : Ed) (w : World) (c0 : w.cell? ⟨b, 0, none⟩ = some (.int .i64 (cI p.1 q.1))) (c1 : w.cell? ⟨b, 1, none⟩ = some (.int .i64 (cI p.2 q.2))) :
    Calls Tryz.prog 62 #[.slice (some ⟨b, 0, none⟩) 2 2] w fun e w' => e = .returned (.int .i64 (cE p q)) ∧ w' = w := orI_any b _ _ w c0 c1
set_option maxHeartbeats 4000000 in
theorem cmpE_any (x y : Ed) (w : World) : Calls Tryz.prog 44 #[.agg #[.int .i64 x.1, .int .i64 x.2], .agg #[.int .i64 y.1, .int .i64 y.2]] w fun e w' => e = .returned (.int .i64 (cE x y)) ∧ Below w.heap.size w w' := by
  obtain ⟨a, b⟩ := x
  obtain ⟨c, d⟩ := y
  have d0 : (((w.alloc (.cells #[.int .i64 a, .int .i64 b] 38)).alloc (.cells #[.int .i64 c, .int .i64 d] 38))).cell? ⟨w.heap.size, 0, none⟩ = some (.int .i64 a) := ((blk_new w #[.int .i64 a, .int .i64 b] 38).alloc _).cell rfl
  have d1 : (((w.alloc (.cells #[.int .i64 a, .int .i64 b] 38)).alloc (.cells #[.int .i64 c, .int .i64 d] 38))).cell? ⟨w.heap.size, 1, none⟩ = some (.int .i64 b) := ((blk_new w #[.int .i64 a, .int .i64 b] 38).alloc _).cell rfl
  have d2 : (((w.alloc (.cells #[.int .i64 a, .int .i64 b] 38)).alloc (.cells #[.int .i64 c, .int .i64 d] 38))).cell? ⟨w.heap.size + 1, 0, none⟩ = some (.int .i64 c) := by simp
  have d3 : (((w.alloc (.cells #[.int .i64 a, .int .i64 b] 38)).alloc (.cells #[.int .i64 c, .int .i64 d] 38))).cell? ⟨w.heap.size + 1, 1, none⟩ = some (.int .i64 d) := by simp
  have BB := Lib.hid (below3 w)
  go_enter Tryz.func44, Tryz.ntmps44
  go_wp2_with fail
  go_region_held3 (fun w' => w'.cell? ⟨w.heap.size, 0, none⟩ = some (.int .i64 a) ∧ w'.cell? ⟨w.heap.size, 1, none⟩ = some (.int .i64 b) ∧ w'.cell? ⟨w.heap.size + 1, 0, none⟩ = some (.int .i64 c) ∧ w'.cell? ⟨w.heap.size + 1, 1, none⟩ = some (.int .i64 d)) (first | exact ⟨d0, d1, d2, d3⟩ | assumption | go_keep) (first
    | (go_at_call 63; refine (cmpI_any _ _ _).mono ?_; rintro e w' ⟨rfl, rfl⟩)
    | (go_at_call 62; refine (orE_any _ (a, b) (c, d) _ (new3 rfl) (new3 rfl)).mono ?_; rintro e w' ⟨rfl, rfl⟩))
  all_goals
    go_wp2
    go_ret
    exact ⟨rfl, BB.out _ _ _⟩
theorem sin_at {w : World} {v : Value} {z : List Str} (h : SIn w v z) : ∃ a cap, v = .slice a z.length cap ∧ ∀ W, Below w.heap.size w W → ∀ k, k < z.length → ∃ b off, a = some ⟨b, off, none⟩ ∧ W.cell? ⟨b, off + k, none⟩ = some (.string (bs (z.getD k []))) := by
  obtain ⟨a, cap, rfl, _, _, _, h5⟩ := h
  refine ⟨a, cap, rfl, fun W hW k hk => ?_⟩
  rcases h5 with rfl | ⟨b, off, ha, hlt, hc⟩
  · exact absurd hk (Nat.not_lt_zero _)
  · exact ⟨b, off, ha, cell_later hW (hc k hk)⟩
def edAt (z : List Ed) (k : Nat) : Ed := z.getD k (0, 0)
theorem edAt_get {z : List Ed} {k : Nat} (h : k < z.length) : z[k]? = some (edAt z k) := by
  unfold edAt
  rw [List.getD, List.getElem?_eq_getElem h]; rfl
theorem edAt_mem {z : List Ed} {k : Nat} (h : k < z.length) : edAt z k ∈ z := List.mem_of_getElem? (edAt_get h)
theorem ein_at {w : World} {v : Value} {z : List Ed} (h : EIn w v z) : ∃ a cap, v = .slice a z.length cap ∧ ∀ W, Below w.heap.size w W → ∀ k, k < z.length → ∃ b off, a = some ⟨b, off, none⟩ ∧ W.cell? ⟨b, off + k * 2, none⟩ = some (.int .i64 (edAt z k).1) ∧ W.cell? ⟨b, off + k * 2 + 1, none⟩ = some (.int .i64 (edAt z k).2) := by
  obtain ⟨a, cap, rfl, _, _, _, h5⟩ := h
  refine ⟨a, cap, rfl, fun W hW k hk => ?_⟩
  rcases h5 with rfl | ⟨b, off, ha, hlt, hc⟩
  · exact absurd hk (Nat.not_lt_zero _)
  · have := hc k _ (edAt_get hk)
    exact ⟨b, off, ha, cell_later hW this.1, cell_later hW this.2⟩
/-! each before the next -/
theorem up_next {z : List Str} : (∀ m, m + 1 < z.length → z.getD m [] < z.getD (m + 1) []) → Up z := by
  induction z with
  | nil => exact fun _ => List.Pairwise.nil
  | cons x r ih =>
    intro h
    have hr : Up r := ih fun m hm => by
      have := h (m + 1) (by rw [List.length_cons]; omega)
      simpa using this
    refine List.pairwise_cons.2 ⟨fun y hy => ?_, hr⟩
    cases r with
    | nil => exact absurd hy List.not_mem_nil
    | cons a t =>
      have h0 : x < a := by
        have := h 0 (by simp)
        simpa using this
      rcases List.mem_cons.1 hy with rfl | hy
      · exact h0
      · exact List.lt_trans h0 ((List.pairwise_cons.1 hr).1 y hy)
theorem edUp_next {z : List Ed} : (∀ m, m + 1 < z.length → edLt (edAt z m) (edAt z (m + 1))) → EdUp z := by
  induction z with
  | nil => exact fun _ => List.Pairwise.nil
  | cons x r ih =>
    intro h
    have hr : EdUp r := ih fun m hm => by
      have := h (m + 1) (by rw [List.length_cons]; omega)
      simpa [edAt] using this
    refine List.pairwise_cons.2 ⟨fun y hy => ?_, hr⟩
    cases r with
    | nil => exact absurd hy List.not_mem_nil
    | cons a t =>
      have h0 : edLt x a := by
        have := h 0 (by simp)
        simpa [edAt] using this
      rcases List.mem_cons.1 hy with rfl | hy
      · exact h0
      · exact edLt_trans h0 ((List.pairwise_cons.1 hr).1 y hy)
theorem edUp_at {z : List Ed} (h : EdUp z) {m : Nat} (hm : m + 1 < z.length) : edLt (edAt z m) (edAt z (m + 1)) := by
  have := List.pairwise_iff_getElem.1 h m (m + 1) (by omega) hm (by omega)
  unfold edAt
  rw [List.getD, List.getD, List.getElem?_eq_getElem (by omega), List.getElem?_eq_getElem hm]
  exact this
set_option maxHeartbeats 4000000 in
theorem incS_any {w : World} {v : Value} {z : List Str} (h : SIn w v z) :
    Calls Tryz.prog 41 #[v, .func (.func 42) #[] #[]] w fun e w' => (∃ b, e = .returned (.bool b) ∧ (b = true ↔ Up z)) ∧ Below w.heap.size w w' := by
  have hb := h.bound
  have UN : Hid ((∀ m, m + 1 < z.length → z.getD m [] < z.getD (m + 1) []) → Up z) := up_next
  have UA : Hid (∀ m, m + 1 < z.length → Up z → z.getD m [] < z.getD (m + 1) []) := fun m hm h => up_get h (by omega) hm
  obtain ⟨a, cap, rfl, hc⟩ := sin_at h
  have HC := Lib.hid hc; clear hc h
  generalize z.length = L at *
  go_enter Tryz.func41, Tryz.ntmps41
  go_wp2_with fail
  go_loopw [5] (fun i wr => ∃ m : Nat, i = .int .i64 ((m + 1 : Nat) : Int) ∧ (m + 1 ≤ L ∨ m = 0) ∧ (∀ j, j < m → z.getD j [] < z.getD (j + 1) []) ∧ Below w.heap.size w wr) (fun i _ => L + 1 - (intOf i).toNat)
  case atStart => exact ⟨0, rfl, .inr rfl, fun j hj => absurd hj (Nat.not_lt_zero _), Below.refl _ _⟩
  case round =>
    obtain ⟨m, rfl, hm, ha, qb⟩ := hrel
    have HA := Lib.hid ha; have QB := Lib.hid qb; clear ha qb
    by_cases hlt : m + 1 < L
    · obtain ⟨b, off, rfl, c0⟩ := HC.out wr QB.out m (by omega)
      obtain ⟨b', off', e, c1⟩ := HC.out wr QB.out (m + 1) hlt
      injection e with e; injection e with e1 e2; subst e1 e2
      have UA1 := Lib.hid (UA.out m hlt)
      have SG := Lib.hid (cS_neg (x := z.getD m []) (y := z.getD (m + 1) []))
      have CA := Lib.hid (fun W => cmpS_any (z.getD m []) (z.getD (m + 1) []) W)
      have HX : Hid (z.getD m [] < z.getD (m + 1) [] → ∀ j, j < m + 1 → z.getD j [] < z.getD (j + 1) []) := fun h j hj => by
        rcases Nat.lt_succ_iff_lt_or_eq.1 hj with h' | rfl
        · exact HA.out j h'
        · exact h
      generalize z.getD m [] = x at *
      generalize z.getD (m + 1) [] = y at *
      generalize cS x y = c at *
      by_cases hneg : c < 0
      · have LT := Lib.hid (SG.out.1 hneg)
        go_wp2_with fail
        go_quiet (first | (go_at_call 42; exact Calls.quiet_of_same (CA.out _)))
        go_wp2
        go_roundw
        case rel => exact ⟨m + 1, by go_num, .inl (by omega), HX.out LT.out, below_drewN QB.out _⟩
        case measure => simp [intOf]; omega
      · have LT : Hid (¬ x < y) := Lib.hid fun h => hneg (SG.out.2 h)
        go_wp2_with fail
        go_quiet (first | (go_at_call 42; exact Calls.quiet_of_same (CA.out _)))
        go_wp2
        go_ret
        exact ⟨⟨false, rfl, fun h => by (cases h), fun h => absurd (UA1.out h) LT.out⟩, below_drewN QB.out _⟩
    · go_wp2
      go_ret
      exact ⟨⟨true, rfl, fun _ => UN.out fun j hj => HA.out j (by omega), fun _ => rfl⟩, QB.out⟩
end Go.Proofs.YtebjofffijnihaaGreatDoor
