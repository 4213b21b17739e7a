/-
  Plain facts on graphs: what is turned twice, what a part has, a part of a part, a part of what is turned, all of it. No condition.
-/
import Derived.Test.YtpjcdfphllbonaaDoorGPl
import Derived.Test.YtpjcdfphllbonaaDoorNm
namespace Go.Proofs.YtpjcdfphllbonaaDoor
set_option maxRecDepth 100000

structure Valid (g : Gr) : Prop where
  len : g.ns.length ≤ 64
  all : ∀ x ∈ g.ns, good x = true
  up : Up g.ns
  ein : EdIn g.ns.length g.es
  eup : EdUp g.es
  sin : SetIn g.ns.length (g.ph ||| g.md)
theorem gr_ext {a b : Gr} (h1 : a.ns = b.ns) (h2 : a.es = b.es) (h3 : a.ph = b.ph) (h4 : a.md = b.md) : a = b := by
  cases a; cases b; subst h1 h2 h3 h4; rfl
theorem cnt_in {s : Bv} {n : Nat} (h : s.getLsbD n = true) : n < 64 := by
  rcases Nat.lt_or_ge n 64 with h' | h'
  · exact h'
  · rw [bit_ge s h'] at h; cases h
theorem in_len {s : Bv} {m n : Nat} (hs : SetIn m s) (h : s.getLsbD n = true) : n < m := by
  rcases Nat.lt_or_ge n m with h' | h'
  · exact h'
  · rw [hs n h'] at h; cases h

/-! turned -/
theorem turn_mem {g : Gr} (h : Valid g) (x : Ed) : x ∈ (turnG g).es ↔ sw x ∈ g.es := by
  show x ∈ edgesL _ ↔ _
  unfold edgesL
  rw [edgesTo_mem, rowsTo_length]
  constructor
  · rintro ⟨i, k, h1, h2, h3, rfl⟩
    rw [rowsTo_bit h.ein.sw i k h2, List.mem_map] at h3
    obtain ⟨y, hy, e⟩ := h3
    rw [← e]; exact hy
  · intro hx
    obtain ⟨h1, h2, h3, h4⟩ := h.ein _ hx
    have hl := h.len
    unfold sw at h1 h2 h3 h4
    simp only at h1 h2 h3 h4
    have e : (((x.1.toNat : Nat) : Int), ((x.2.toNat : Nat) : Int)) = x := Prod.ext (by simp; omega) (by simp; omega)
    refine ⟨x.1.toNat, x.2.toNat, by omega, by omega, (rowsTo_bit h.ein.sw _ _ (by omega)).2 ?_, e.symm⟩
    rw [e]
    exact List.mem_map.2 ⟨_, hx, rfl⟩
theorem valid_turn {g : Gr} (h : Valid g) : Valid (turnG g) where
  len := h.len
  all := h.all
  up := h.up
  ein := fun x hx => by
    obtain ⟨a, b, c, d⟩ := h.ein _ ((turn_mem h x).1 hx)
    exact ⟨c, d, a, b⟩
  eup := edgesL_up _
  sin := h.sin
theorem turn_turn {g : Gr} (h : Valid g) : turnG (turnG g) = g := by
  refine gr_ext rfl (ed_ext (edgesL_up _) h.eup fun x => ?_) rfl rfl
  rw [turn_mem (valid_turn h), turn_mem h]; rfl

/-! parts -/
theorem nums_rank {s : Bv} {n : Nat} (h : s.getLsbD n = true) : (nums s)[cntTo s.getLsbD n]? = some n := nums_at s n (cnt_in h) h
theorem rank_lt {s : Bv} {n : Nat} (h : s.getLsbD n = true) : cntTo s.getLsbD n < cnt s := cntTo_hit _ (cnt_in h) h
theorem part_mem {g : Gr} (h : Valid g) (s : Bv) (x : Ed) :
    x ∈ (partG g s).es ↔ ∃ i k : Nat, s.getLsbD i = true ∧ s.getLsbD k = true ∧ ((i : Int), (k : Int)) ∈ g.es ∧ x = (((cntTo s.getLsbD i : Nat) : Int), ((cntTo s.getLsbD k : Nat) : Int)) := by
  show x ∈ edgesL _ ↔ _
  unfold edgesL
  rw [edgesTo_mem, List.length_map, nums_length]
  constructor
  · rintro ⟨j, l, h1, h2, h3, rfl⟩
    obtain ⟨n, n1, n2, n3, n4⟩ := nums_get s j h1
    unfold wAt at h3
    rw [List.getD, List.getElem?_map, n4] at h3
    obtain ⟨k, k1, k2, k3, k4⟩ := (renum_bit _ s l).1 h3
    exact ⟨n, k, n2, k3, (rowsTo_bit h.ein n k k1).1 k2, by rw [n3, k4]⟩
  · rintro ⟨i, k, h1, h2, h3, rfl⟩
    have hl := cnt_le s
    refine ⟨_, _, rank_lt h1, by have := rank_lt h2; omega, ?_, rfl⟩
    unfold wAt
    rw [List.getD, List.getElem?_map, nums_rank h1]
    show (renum (wAt (rowsTo g.ns.length g.es) i) s).getLsbD _ = true
    rw [renum_at _ s h2]
    exact (rowsTo_bit h.ein i k (cnt_in h2)).2 h3
theorem valid_part {g : Gr} (h : Valid g) {s : Bv} (hs : SetIn g.ns.length s) : Valid (partG g s) := by
  have hl : (partG g s).ns.length = cnt s := by show (List.map _ _).length = _; rw [List.length_map, nums_length]
  refine ⟨by rw [hl]; exact cnt_le s, fun x hx => ?_, ?_, fun x hx => ?_, edgesL_up _, ?_⟩
  · obtain ⟨n, hn, rfl⟩ := List.mem_map.1 hx
    have := in_len hs (nums_mem.1 hn).2
    rw [List.getD, List.getElem?_eq_getElem this]
    exact h.all _ (List.getElem_mem _)
  · refine List.pairwise_map.2 ((nums_up s).imp_of_mem fun {a b} ha hb hab => ?_)
    exact up_get h.up hab (in_len hs (nums_mem.1 hb).2)
  · obtain ⟨i, k, h1, h2, _, rfl⟩ := (part_mem h s x).1 hx
    rw [hl]
    have e1 := rank_lt h1
    have e2 := rank_lt h2
    exact ⟨by simp, by simpa using e1, by simp, by simpa using e2⟩
  · rw [hl]
    exact setIn_mk (fun i hi => renum_high _ s hi) (fun i hi => renum_high _ s hi)
theorem nums_renum (s t : Bv) : nums (renum t s) = (nums (s &&& t)).map (cntTo s.getLsbD) := by
  refine nat_ext (nums_up _) (List.pairwise_map.2 ((nums_up _).imp_of_mem fun {a b} ha _ hab => ?_)) fun x => ?_
  · have := (nums_mem.1 ha).2
    rw [BitVec.getLsbD_and, Bool.and_eq_true] at this
    exact cntTo_hit _ hab this.1
  · rw [nums_mem, renum_bit, List.mem_map]
    constructor
    · rintro ⟨_, n, h1, h2, h3, h4⟩
      exact ⟨n, nums_mem.2 ⟨h1, by rw [BitVec.getLsbD_and, h2, h3]; rfl⟩, h4⟩
    · rintro ⟨n, h1, rfl⟩
      obtain ⟨h1, h2⟩ := nums_mem.1 h1
      rw [BitVec.getLsbD_and, Bool.and_eq_true] at h2
      have := rank_lt h2.1
      have := cnt_le s
      exact ⟨by omega, n, h1, h2.2, h2.1, rfl⟩
theorem renum_renum (s t p : Bv) : renum (renum p s) (renum t s) = renum p (s &&& t) := by
  refine bv_ext fun i _ => ?_
  rw [Bool.eq_iff_iff, renum_bit, renum_bit]
  constructor
  · rintro ⟨m, _, h2, h3, h4⟩
    obtain ⟨n, n1, n2, n3, rfl⟩ := (renum_bit p s m).1 h2
    rw [renum_at t s n3] at h3
    rw [renum_rank] at h4
    exact ⟨n, n1, n2, by rw [BitVec.getLsbD_and, n3, h3]; rfl, h4⟩
  · rintro ⟨n, n1, n2, n3, n4⟩
    rw [BitVec.getLsbD_and, Bool.and_eq_true] at n3
    have := rank_lt n3.1
    have := cnt_le s
    exact ⟨cntTo s.getLsbD n, by omega, by rw [renum_at _ _ n3.1]; exact n2, by rw [renum_at _ _ n3.1]; exact n3.2, by rw [renum_rank]; exact n4⟩
theorem part_part {g : Gr} (h : Valid g) {s : Bv} (hs : SetIn g.ns.length s) (t : Bv) : partG (partG g s) (renum t s) = partG g (s &&& t) := by
  refine gr_ext ?_ (ed_ext (edgesL_up _) (edgesL_up _) fun x => ?_) (renum_renum s t _) (renum_renum s t _)
  · show (nums (renum t s)).map (fun n => ((nums s).map fun n => g.ns.getD n []).getD n []) = (nums (s &&& t)).map fun n => g.ns.getD n []
    rw [nums_renum, List.map_map]
    refine List.map_congr_left fun n hn => ?_
    have h2 := (nums_mem.1 hn).2
    rw [BitVec.getLsbD_and, Bool.and_eq_true] at h2
    show ((nums s).map fun n => g.ns.getD n []).getD (cntTo s.getLsbD n) [] = _
    rw [List.getD, List.getElem?_map, nums_rank h2.1]; rfl
  · rw [part_mem (valid_part h hs), part_mem h]
    constructor
    · rintro ⟨i, k, h1, h2, h3, rfl⟩
      obtain ⟨a, b, a1, b1, hab, e⟩ := (part_mem h s _).1 h3
      have e1 : i = cntTo s.getLsbD a := by have h : (i : Int) = ((cntTo s.getLsbD a : Nat) : Int) := congrArg Prod.fst e; omega
      have e2 : k = cntTo s.getLsbD b := by have h : (k : Int) = ((cntTo s.getLsbD b : Nat) : Int) := congrArg Prod.snd e; omega
      subst e1 e2
      rw [renum_at t s a1] at h1
      rw [renum_at t s b1] at h2
      exact ⟨a, b, by rw [BitVec.getLsbD_and, a1, h1]; rfl, by rw [BitVec.getLsbD_and, b1, h2]; rfl, hab, by rw [renum_rank, renum_rank]⟩
    · rintro ⟨a, b, h1, h2, h3, rfl⟩
      rw [BitVec.getLsbD_and, Bool.and_eq_true] at h1 h2
      exact ⟨_, _, by rw [renum_at t s h1.1]; exact h1.2, by rw [renum_at t s h2.1]; exact h2.2, (part_mem h s _).2 ⟨a, b, h1.1, h2.1, h3, rfl⟩, by rw [renum_rank, renum_rank]⟩
theorem part_turn {g : Gr} (h : Valid g) {s : Bv} (hs : SetIn g.ns.length s) : partG (turnG g) s = turnG (partG g s) := by
  refine gr_ext rfl (ed_ext (edgesL_up _) (edgesL_up _) fun x => ?_) rfl rfl
  rw [part_mem (valid_turn h), turn_mem (valid_part h hs), part_mem h]
  constructor
  · rintro ⟨i, k, h1, h2, h3, rfl⟩
    exact ⟨k, i, h2, h1, (turn_mem h _).1 h3, rfl⟩
  · rintro ⟨k, i, h1, h2, h3, e⟩
    refine ⟨i, k, h2, h1, (turn_mem h _).2 h3, ?_⟩
    have := congrArg sw e
    exact this
theorem low_rank {n : Nat} (hn : n ≤ 64) : ∀ {i : Nat}, i ≤ n → cntTo (low n).getLsbD i = i
  | 0, _ => rfl
  | i + 1, h => by
    rw [cntTo_succ, low_rank hn (by omega), low_bit n i (by omega)]
    have : decide (i < n) = true := decide_eq_true (by omega)
    rw [this]; simp
theorem low_in {n i : Nat} (hn : n ≤ 64) : (low n).getLsbD i = true ↔ i < n := by
  rcases Nat.lt_or_ge i 64 with h | h
  · rw [low_bit n i h]; simp
  · rw [bit_ge _ h]
    constructor
    · intro e; cases e
    · intro e; omega
theorem setIn_low {n : Nat} (hn : n ≤ 64) (s : Bv) : SetIn n (s &&& low n) := fun i hi => by
  rw [BitVec.getLsbD_and]
  cases h : (low n).getLsbD i
  · simp
  · have := (low_in hn).1 h; omega
theorem nums_low {n : Nat} (hn : n ≤ 64) : nums (low n) = List.range n := by
  refine nat_ext (nums_up _) List.pairwise_lt_range fun x => ?_
  rw [nums_mem, low_in hn, List.mem_range]
  constructor
  · exact fun h => h.2
  · exact fun h => ⟨by omega, h⟩
theorem renum_low {n : Nat} (hn : n ≤ 64) {t : Bv} (ht : SetIn n t) : renum t (low n) = t := by
  refine bv_ext fun i _ => ?_
  rw [Bool.eq_iff_iff, renum_bit]
  constructor
  · rintro ⟨m, _, h2, h3, h4⟩
    rw [low_rank hn (by have := (low_in hn).1 h3; omega)] at h4
    subst h4; exact h2
  · intro h
    have hi := in_len ht h
    exact ⟨i, by omega, h, (low_in hn).2 hi, low_rank hn (by omega)⟩
theorem part_all {g : Gr} (h : Valid g) : partG g (low g.ns.length) = g := by
  have hl := h.len
  obtain ⟨s1, s2⟩ := setIn_or h.sin
  refine gr_ext ?_ (ed_ext (edgesL_up _) h.eup fun x => ?_) (renum_low hl s1) (renum_low hl s2)
  · show (nums (low g.ns.length)).map (fun n => g.ns.getD n []) = g.ns
    rw [nums_low hl]
    apply List.ext_getElem?
    intro i
    rw [List.getElem?_map]
    rcases Nat.lt_or_ge i g.ns.length with h' | h'
    · rw [List.getElem?_range h', List.getElem?_eq_getElem h']
      simp [List.getD, List.getElem?_eq_getElem h']
    · rw [List.getElem?_eq_none (by rw [List.length_range]; exact h'), List.getElem?_eq_none h']; rfl
  · rw [part_mem h]
    constructor
    · rintro ⟨i, k, h1, h2, h3, rfl⟩
      rw [low_rank hl (by have := (low_in hl).1 h1; omega), low_rank hl (by have := (low_in hl).1 h2; omega)]
      exact h3
    · intro hx
      obtain ⟨h1, h2, h3, h4⟩ := h.ein x hx
      have e : (((x.1.toNat : Nat) : Int), ((x.2.toNat : Nat) : Int)) = x := Prod.ext (by simp; omega) (by simp; omega)
      refine ⟨x.1.toNat, x.2.toNat, (low_in hl).2 (by omega), (low_in hl).2 (by omega), by rw [e]; exact hx, ?_⟩
      rw [low_rank hl (by omega), low_rank hl (by omega), e]
end Go.Proofs.YtpjcdfphllbonaaDoor
