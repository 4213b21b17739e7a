/-
  Package knot: smallest, ready, ordered, ringIn, Order, Ring; slices.Index at numbers; the laws' knots. Condition: the table of math/bits lies in memory as its text lays it (the card ties this).
-/
import Derived.Test.YtbippnldofalbaaDoorHGd
import Derived.Test.YtbippnldofalbaaDoorHKs
namespace Go.Proofs.YtbippnldofalbaaDoor
set_option maxRecDepth 100000
set_option linter.unusedVariables false
open Go.ChangeShapes Go.WideShapes Go.ChangeAt Go.RowKit

/-! numbers in memory -/
def iAt (l : List Nat) (k : Nat) : Nat := l.getD k 0
theorem iAt_get {l : List Nat} {k n : Nat} (h : l[k]? = some n) : iAt l k = n := by unfold iAt; rw [List.getD, h]; rfl
theorem get_iAt {l : List Nat} {k : Nat} (h : k < l.length) : l[k]? = some (iAt l k) := by unfold iAt; rw [List.getD, List.getElem?_eq_getElem h]; rfl
/-- a row of numbers of one's own -/
def NO (B : Nat) (v : Value) (l : List Nat) (w : World) : Prop := w.ownsRow B 3 1 v l.length (ints l)
/-- a slice that holds the numbers l -/
def NI (w : World) (v : Value) (l : List Nat) : Prop :=
  ∃ a cap, v = .slice a l.length cap ∧ l.length ≤ cap ∧ ∀ k, k < l.length → ∃ b off, a = some ⟨b, off, none⟩ ∧ w.cell? ⟨b, off + k, none⟩ = some (.int .i64 ((iAt l k : Nat) : Int))
theorem NI.later {w w' : World} {v : Value} {l : List Nat} (h : NI w v l) (hb : Below w.heap.size w w') : NI w' v l := by
  obtain ⟨a, cap, h1, h3, h2⟩ := h
  refine ⟨a, cap, h1, h3, fun k hk => ?_⟩
  obtain ⟨b, off, e, c⟩ := h2 k hk
  exact ⟨b, off, e, cell_later hb c⟩
theorem NO.cell {B : Nat} {g c : Nat} {l : List Nat} {w : World} (h : NO B (.slice (some ⟨g, 0, none⟩) l.length c) l w) {i : Nat} (hi : i < l.length) : w.cell? ⟨g, i, none⟩ = some (.int .i64 ((iAt l i : Nat) : Int)) := by
  rw [World.ownsRow.cellAt h i (by omega)]
  exact ints_get _ _ _ (get_iAt hi)
theorem NO.ni {B : Nat} {v : Value} {l : List Nat} {w : World} (h : NO B v l w) : NI w v l := by
  rcases h.2 with ⟨hv, h0⟩ | ⟨g, cap, cur, hv, _, _, hn, _⟩
  · exact ⟨none, 0, by rw [hv, h0], by omega, fun k hk => by omega⟩
  · refine ⟨_, cap, hv, hn, fun k hk => ⟨g, 0, rfl, ?_⟩⟩
    subst hv
    rw [Nat.zero_add]
    exact NO.cell h hk
theorem NO.shape {B : Nat} {v : Value} {l : List Nat} {w : World} (h : NO B v l w) : ∃ a c, v = .slice a l.length c ∧ l.length ≤ c ∧ (0 < l.length → ∃ g, a = some ⟨g, 0, none⟩) := by
  rcases h.2 with ⟨hv, h0⟩ | ⟨g, cap, cur, hv, _, _, hn, _⟩
  · exact ⟨none, 0, by rw [hv, h0], by omega, fun hk => by omega⟩
  · exact ⟨_, cap, hv, hn, fun _ => ⟨g, rfl⟩⟩
theorem NO.drop {B : Nat} {g c : Nat} {l : List Nat} {w : World} (h : NO B (.slice (some ⟨g, 0, none⟩) l.length c) l w) {k : Nat} (hk : k ≤ l.length) (hc : l.length ≤ c) : NI w (.slice (some ⟨g, k, none⟩) (l.length - k) (c - k)) (l.drop k) := by
  refine ⟨_, c - k, by rw [List.length_drop], by rw [List.length_drop]; omega, fun i hi => ⟨g, k, rfl, ?_⟩⟩
  rw [List.length_drop] at hi
  rw [NO.cell h (by omega)]
  unfold iAt
  rw [List.getD, List.getD, List.getElem?_drop]
theorem ni_nil (w : World) : NI w (.slice none 0 0) [] := ⟨none, 0, rfl, Nat.le_refl _, fun k hk => absurd hk (Nat.not_lt_zero _)⟩
theorem no_nil (B : Nat) (w : World) : NO B (.slice none 0 0) [] w := World.ownsRow_nil _ _ _ _
theorem no_later {w w' : World} {B : Nat} {v : Value} {l : List Nat} (h : NO B v l w) (hb : Below w.heap.size w w') : NO B v l w' := own_later h hb

/-! smallest -/
theorem head_post {s : Bv} {w w' : World} {e : Ending} (h : NextPost s (clamp 0) w e w') : ∃ is : Bool, e = .returned (.tuple #[.int .i64 ((headW s : Nat) : Int), .bool is]) ∧ w' = w := by
  rw [show clamp 0 = 0 from clamp_nat 0 (by omega)] at h
  obtain ⟨h1, ⟨h2, h3⟩ | ⟨m, h2, h3, _, h5, h6⟩⟩ := h
  · refine ⟨false, ?_, h1.symm⟩
    have : s = 0#64 := bv_ext fun i hi => by rw [h3 i (Nat.zero_le _) hi]; simp
    rw [this, headW_zero]; exact h2
  · refine ⟨true, ?_, h1.symm⟩
    rw [headW_least ⟨h3, h5, fun i hi => h6 i (Nat.zero_le _) hi⟩]; exact h2
theorem smallestK_any (s : Bv) (w : World) (ht : Tab w) :
    Calls Tryd.prog 54 #[.int .u64 (s.toNat : Int)] w fun e w' => e = .returned (.int .i64 ((headW s : Nat) : Int)) ∧ w' = w := by
  have NX := Lib.hid ((next_any s 0 w ht).mono fun _ _ h => head_post h)
  clear ht
  generalize headW s = H at *
  go_enter Tryd.func54, Tryd.ntmps54
  go_wp2_with fail
  refine NX.out.mono ?_
  rintro e w' ⟨is, rfl, rfl⟩
  go_wp2
  go_ret
  exact ⟨rfl, rfl⟩

/-! ready -/
set_option maxHeartbeats 4000000 in
theorem ready_any {w : World} {v : Value} {r : List Bv} (u : Bv) (h : WIn w v r) (hr : RowsIn r) (ht : Tab w) :
    Calls Tryd.prog 58 #[v, .int .u64 ((leftR r u).toNat : Int)] w fun e w' =>
      ((∃ n, nextR r u = some n ∧ e = .returned (.tuple #[.int .i64 ((n : Nat) : Int), .bool true])) ∨ (nextR r u = none ∧ e = .returned (.tuple #[.int .i64 0, .bool false]))) ∧ Below w.heap.size w w' := by
  have LA := Lib.hid ((list_any (leftR r u) w ht).mono (fun _ _ => list_blk))
  have HW := Lib.hid (fun W (hW : Below w.heap.size w W) => h.later hW)
  obtain ⟨a, c, rfl, _⟩ := h
  have HC : Hid (∀ W, Below w.heap.size w W → ∀ k, k < r.length → ∃ b off, a = some ⟨b, off, none⟩ ∧ W.cell? ⟨b, off + k, none⟩ = some (.int .u64 ((wAt r k).toNat : Int))) := fun W hW k hk => by
    obtain ⟨a', c', e, hh⟩ := HW.out W hW
    cases e
    exact hh k hk
  have NG : Hid (∀ j, j < cnt (leftR r u) → ∃ n, n < r.length ∧ (nums (leftR r u))[j]? = some n) := fun j hj => by
    obtain ⟨n, _, h2, _, h4⟩ := nums_get (leftR r u) j hj
    exact ⟨n, ((leftR_bit hr.len).1 h2).1, h4⟩
  have YES : Hid (∀ j n, (nums (leftR r u))[j]? = some n → wAt r n &&& leftR r u = 0#64 → (∀ i m, i < j → (nums (leftR r u))[i]? = some m → wAt r m &&& leftR r u ≠ 0#64) → nextR r u = some n) := fun j n h1 h2 h3 => next_yes hr h1 h2 h3
  have NO' : Hid ((∀ i m, i < cnt (leftR r u) → (nums (leftR r u))[i]? = some m → wAt r m &&& leftR r u ≠ 0#64) → nextR r u = none) := fun h => next_no hr h
  have hcn := cnt_le (leftR r u)
  clear hr ht HW
  generalize nextR r u = N at *
  generalize leftR r u = s at *
  generalize nums s = ns at *
  generalize cnt s = C at *
  generalize r.length = L at *
  go_enter Tryd.func58, Tryd.ntmps58
  go_wp2_with fail
  refine LA.out.mono ?_
  rintro e w2 ⟨rfl, b2, cur, k2, hcur⟩
  have B2 := Lib.hid b2
  have K2 := Lib.hid k2
  have HR := Lib.hid hcur
  clear b2 k2 hcur LA
  go_wp2_with fail
  go_loopw [11] (fun i wr => ∃ j : Nat, j ≤ C ∧ i = .int .i64 (j : Int) ∧ (∀ i m, i < j → ns[i]? = some m → wAt r m &&& s ≠ 0#64) ∧ wr = w2) (fun i _ => C - (intOf i).toNat)
  case atStart => exact ⟨0, Nat.zero_le _, rfl, fun i m hi => absurd hi (Nat.not_lt_zero _), rfl⟩
  case round =>
    obtain ⟨j, hj, rfl, qa, rfl⟩ := hrel
    have QA := Lib.hid qa; clear qa
    by_cases hjl : j < C
    · obtain ⟨n, n1, n4⟩ := NG.out j hjl
      have cj := K2.out.cell (HR.out j n n4)
      obtain ⟨b, off, rfl, c0⟩ := HC.out wr B2.out n n1
      have i2 : (n : Int) < (L : Int) := by omega
      have YK := Lib.hid (YES.out j n n4)
      have NX : Hid (wAt r n &&& s ≠ 0#64 → ∀ i m, i < j + 1 → ns[i]? = some m → wAt r m &&& s ≠ 0#64) := fun hx i m hi hm => by
        rcases Nat.lt_succ_iff_lt_or_eq.1 hi with h' | rfl
        · exact QA.out i m h' hm
        · rw [n4] at hm; cases hm; exact hx
      clear n4
      by_cases hz : wAt r n &&& s = 0#64
      · have e1 : (bits .and .u64 ((wAt r n).toNat : Int) (s.toNat : Int) == 0) = true := by rw [bv_and, hz]; rfl
        have EE := Lib.hid (YK.out hz QA.out)
        clear hz NX YK
        generalize wAt r n = x at *
        go_wp2
        go_ret2
        exact ⟨.inl ⟨n, EE.out, rfl⟩, B2.out⟩
      · have e1 : (bits .and .u64 ((wAt r n).toNat : Int) (s.toNat : Int) == 0) = false := by
          rw [bv_and]
          cases hb : (((wAt r n &&& s).toNat : Int) == 0)
          · rfl
          · exact absurd ((bv_zero_iff _).1 hb) hz
        have NX1 := Lib.hid (NX.out hz)
        clear hz NX YK
        generalize wAt r n = x at *
        go_wp2
        go_roundw
        case rel => exact ⟨j + 1, by omega, by go_num, NX1.out, trivial⟩
        case measure => simp [intOf]; omega
    · obtain rfl : j = C := by omega
      have EE := Lib.hid (NO'.out QA.out)
      go_wp2
      go_ret2
      exact ⟨.inr ⟨EE.out, rfl⟩, B2.out⟩

/-! ordered -/
theorem ret_vn {v : Value} {a b : Nat} (h : a = b) : Ending.returned (.tuple #[v, .int .u64 (a : Int)]) = .returned (.tuple #[v, .int .u64 (b : Int)]) := by rw [h]
theorem no_len {B : Nat} {v : Value} {l : List Nat} {w : World} (h : NO B v l w) : lenOf v = l.length := by
  obtain ⟨a, c, rfl, _⟩ := h.shape; rfl
set_option maxHeartbeats 8000000 in
theorem ordered_any {w : World} {v : Value} {r : List Bv} (h : WIn w v r) (hr : RowsIn r) (ht : Tab w) :
    Calls Tryd.prog 36 #[v] w fun e w' => ∃ u, e = .returned (.tuple #[u, .int .u64 ((leftR r (setL (ordR r))).toNat : Int)]) ∧ NO w.heap.size u (ordR r) w' ∧ Below w.heap.size w w' := by
  obtain ⟨i0, hi, hz0, hz1, hz2⟩ := info_parts infoInt
  have HI := Lib.hid hi; clear hi
  have HZ0 := Lib.hid hz0; clear hz0
  have HZ1 := Lib.hid hz1; clear hz1
  have HZ2 := Lib.hid hz2; clear hz2
  have hl := hr.len
  have BE := Lib.hid (fun W => belowT_any r.length W hl)
  have RD := Lib.hid (fun W (hW : Below w.heap.size w W) u => ready_any u (h.later hW) hr (ht.below hW ht.1))
  have OZ := Lib.hid (ot_zero r)
  have ON := Lib.hid (fun m n l (h : Ot r m l) hn => ot_next (n := n) hr h hn)
  have OS := Lib.hid (fun m l (h : Ot r m l) hn => ot_stop h hn)
  have OL : Hid (∀ m l, Ot r m l → m ≤ r.length ∧ l.length = m) := fun m l h => ⟨h.le, h.len⟩
  have LZ : Hid (low r.length = leftR r (setL [])) := Lib.hid (leftR_zero r).symm
  have LN : Hid (∀ l n, leftR r (setL l) &&& ~~~one n = leftR r (setL (l ++ [n]))) := fun l n => by rw [setL_snoc]; exact leftR_one r _ n
  have NL : Hid (∀ u n, nextR r u = some n → n < r.length) := fun u n h => (nextR_some h).1
  obtain ⟨a, c, rfl, _⟩ := h
  clear hr ht
  generalize r.length = L at *
  go_enter Tryd.func36, Tryd.ntmps36
  go_wp2_with fail
  refine (BE.out _).mono ?_
  rintro e w1 ⟨rfl, rfl⟩
  rw [LZ.out]
  go_wp2_with fail
  go_loopw [4, 6] (fun s o wr => ∃ (m : Nat) (l : List Nat), Ot r m l ∧ s = .int .u64 ((leftR r (setL l)).toNat : Int) ∧ NO w1.heap.size o l wr ∧ Below w1.heap.size w1 wr) (fun _ o _ => L + 1 - lenOf o)
  case atStart => exact ⟨0, [], OZ.out, rfl, no_nil _ _, Below.refl _ _⟩
  case round =>
    rename_i o wr
    obtain ⟨m, l, qt, rfl, qo, qb⟩ := hrel
    have QT := Lib.hid qt; have QO := Lib.hid qo; have QB := Lib.hid qb; clear qt qo qb
    obtain ⟨hm, hlm⟩ := OL.out m l QT.out
    have RD1 := Lib.hid (RD.out wr QB.out (setL l))
    have hle := no_len QO.out
    go_wp2_with fail
    refine RD1.out.mono ?_
    rintro e w2 ⟨⟨n, hn, rfl⟩ | ⟨hn, rfl⟩, b2⟩
    · have B2 := Lib.hid (QB.out.trans (b2.mono QB.out.size))
      have O2 := Lib.hid (no_later QO.out b2)
      have QN := Lib.hid (ON.out m n l QT.out hn)
      obtain ⟨hm2, _⟩ := OL.out _ _ QN.out
      have hnL := NL.out _ _ hn
      have hn64 : (n : Int) < 64 := by omega
      have e1 : bits .andNot .u64 ((leftR r (setL l)).toNat : Int) (IntKind.u64.wrap (2 ^ n)) = ((leftR r (setL (l ++ [n]))).toNat : Int) := by rw [one_walk n (by omega), bv_andNot, LN.out]
      clear b2 hn RD1
      generalize hy : (leftR r (setL (l ++ [n]))).toNat = y at *
      have HY := Lib.hid hy; clear hy
      generalize (leftR r (setL l)).toNat = x at *
      go_wp2_with (at_builtin; refine wpList_append_own _ rfl _ _ 26 rfl w1.heap.size 3 i0 (.int .i64 0) 1 8 Tryd.underlying26 HI.out HZ0.out HZ1.out HZ2.out rfl (by decide) _ _ _ rfl (World.ownsRow.alloc O2.out _) ⟨w2.heap.size, 0, none⟩ 1 1 [.int .i64 (n : Int)] rfl rfl ?c1 ?c2 ?c3 ?c4 ?c5 ?_)
      case c1 =>
        intro i u hu
        match i, hu with
        | 0, hu => simp at hu; subst hu; simp [Addr.add]
      case c2 => intro u hu; simp at hu; subst hu; rfl
      case c3 => unfold maxLen; omega
      case c4 => omega
      case c5 => have := B2.out.size; simp; omega
      intro v' w3 hown3 hgrow3 _
      have B3 := Lib.hid ((B2.out.alloc B2.out.size _).grown hgrow3 (by have := B2.out.size; simp; omega) (fun g hg => (O2.out.lt g hg).1))
      have O3 : Hid (NO w1.heap.size v' (l ++ [n]) w3) := Lib.hid (by
        unfold NO
        rw [List.length_append, ints_append, hlm]
        exact hown3)
      have hle3 := no_len O3.out
      rw [List.length_append] at hle3
      clear hgrow3 hown3
      go_wp2
      go_roundw
      case rel => exact ⟨m + 1, l ++ [n], QN.out, by rw [HY.out], O3.out, B3.out⟩
      case measure => simp at hle3; omega
    · have B2 := Lib.hid (QB.out.trans (b2.mono QB.out.size))
      have O2 := Lib.hid (no_later QO.out b2)
      have EE := OS.out m l QT.out hn
      clear b2 hn RD1
      subst EE
      generalize hx : (leftR r (setL (ordR r))).toNat = x at *
      have HX := Lib.hid hx; clear hx
      go_wp2
      go_ret2
      exact ⟨_, ret_vn HX.out.symm, O2.out, B2.out⟩

/-! slices.Index at numbers -/
set_option maxHeartbeats 4000000 in
theorem indexI_any {w : World} {v : Value} {l : List Nat} (x : Nat) (h : NI w v l) (hl : l.length ≤ 64) :
    Calls Tryd.prog 49 #[v, .int .i64 (x : Int)] w fun e w' =>
      ((∃ k : Nat, k < l.length ∧ l[k]? = some x ∧ e = .returned (.int .i64 (k : Int))) ∨ (x ∉ l ∧ e = .returned (.int .i64 (-1)))) ∧ w' = w := by
  obtain ⟨a, c, rfl, _, hc⟩ := h
  have HC := Lib.hid hc; clear hc
  have GE : Hid (∀ k, k < l.length → l[k]? = some (iAt l k)) := fun k hk => get_iAt hk
  have NM : Hid ((∀ k, k < l.length → iAt l k ≠ x) → x ∉ l) := fun h hm => by
    obtain ⟨k, hk, e⟩ := List.getElem_of_mem hm
    exact h k hk (by rw [iAt_get (List.getElem?_eq_getElem hk), e])
  generalize hL : l.length = L at *
  clear hL
  generalize iAt l = I at *
  go_enter Tryd.func49, Tryd.ntmps49
  go_wp2_with fail
  go_loopw [8] (fun i wr => ∃ k : Nat, k ≤ L ∧ i = .int .i64 (k : Int) ∧ (∀ j, j < k → I j ≠ x) ∧ wr = w) (fun i _ => L - (intOf i).toNat)
  case atStart => exact ⟨0, Nat.zero_le _, rfl, fun j hj => absurd hj (Nat.not_lt_zero _), rfl⟩
  case round =>
    obtain ⟨k, hk, rfl, qa, rfl⟩ := hrel
    have QA := Lib.hid qa; clear qa
    by_cases hkl : k < L
    · obtain ⟨b, off, rfl, c0⟩ := HC.out k hkl
      have GK := Lib.hid (GE.out k hkl)
      have NX : Hid (I k ≠ x → ∀ j, j < k + 1 → I j ≠ x) := fun h j hj => by
        rcases Nat.lt_succ_iff_lt_or_eq.1 hj with h' | rfl
        · exact QA.out j h'
        · exact h
      by_cases hx : I k = x
      · rw [hx] at GK c0
        have t1 : ((x : Int) == (x : Int)) = true := by simp
        clear NX hx
        go_wp2
        go_ret
        exact ⟨.inl ⟨k, by omega, GK.out, rfl⟩, rfl⟩
      · have NX1 := Lib.hid (NX.out hx)
        have t1 : ((x : Int) == (I k : Int)) = false := by rw [beq_eq_false_iff_ne]; omega
        clear NX hx GK
        go_wp2
        go_roundw
        case rel => exact ⟨k + 1, by omega, by go_num, NX1.out, trivial⟩
        case measure => simp [intOf]; omega
    · obtain rfl : k = L := by omega
      have NN := Lib.hid (NM.out QA.out)
      go_wp2
      go_ret
      exact ⟨.inr ⟨NN.out, rfl⟩, rfl⟩

/-! ringIn -/
set_option maxHeartbeats 8000000 in
theorem ringIn_any {w : World} {v : Value} {r : List Bv} (s : Bv) (h : WIn w v r) (hr : RowsIn r) (hs : SetIn r.length s) (hne : s ≠ 0#64) (hn : ∀ k, s.getLsbD k = true → wAt r k &&& s ≠ 0#64) (ht : Tab w) :
    Calls Tryd.prog 37 #[v, .int .u64 (s.toNat : Int)] w fun e w' => ∃ u l, e = .returned u ∧ NI w' u l ∧ RingL r l ∧ Below w.heap.size w w' := by
  obtain ⟨i0, hi, hz0, hz1, hz2⟩ := info_parts infoInt
  have HI := Lib.hid hi; clear hi
  have HZ0 := Lib.hid hz0; clear hz0
  have HZ1 := Lib.hid hz1; clear hz1
  have HZ2 := Lib.hid hz2; clear hz2
  have hl := hr.len
  have SM := Lib.hid (fun S W (hW : Below w.heap.size w W) => smallestK_any S W (ht.below hW ht.1))
  have W0 := Lib.hid (wi_start (r := r) hne)
  have WN := Lib.hid (fun l x (h : Wi r s l x) hx => wi_next h hx (hn x h.at_))
  have WL := Lib.hid (fun l x (h : Wi r s l x) => wi_len h)
  have WT := Lib.hid (fun l x (h : Wi r s l x) hx => wi_lt h hx)
  have WR := Lib.hid (fun l x k (h : Wi r s l x) hk => wi_ring (k := k) hs h hk)
  have XL : Hid (∀ l x, Wi r s l x → x < r.length) := fun l x h => by
    rcases Nat.lt_or_ge x r.length with h' | h'
    · exact h'
    · have := h.at_; rw [hs x h'] at this; cases this
  obtain ⟨a, c, rfl, hc0⟩ := h
  have HC : Hid (∀ W, Below w.heap.size w W → ∀ k, k < r.length → ∃ b off, a = some ⟨b, off, none⟩ ∧ W.cell? ⟨b, off + k, none⟩ = some (.int .u64 ((wAt r k).toNat : Int))) := fun W hW k hk => by
    obtain ⟨b, off, e, c⟩ := hc0 k hk
    exact ⟨b, off, e, cell_later hW c⟩
  have SM0 := Lib.hid (SM.out s w (Below.refl _ _))
  clear hr hs hne hn ht hc0
  generalize r.length = L at *
  generalize headW s = h0 at *
  go_enter Tryd.func37, Tryd.ntmps37
  go_wp2_with fail
  refine SM0.out.mono ?_
  rintro e w1 ⟨rfl, rfl⟩
  go_wp2_with fail
  go_loopw [5, 6] (fun o n wr => ∃ (l : List Nat) (x : Nat), Wi r s l x ∧ n = .int .i64 (x : Int) ∧ NO w1.heap.size o l wr ∧ Below w1.heap.size w1 wr) (fun o _ _ => 65 - lenOf o)
  case atStart => exact ⟨[], h0, W0.out, rfl, no_nil _ _, Below.refl _ _⟩
  case round =>
    rename_i wr
    obtain ⟨l, x, qt, rfl, qo, qb⟩ := hrel
    have QT := Lib.hid qt; have QO := Lib.hid qo; have QB := Lib.hid qb; clear qt qo qb
    have hlen := WL.out l x QT.out
    have IX := Lib.hid (indexI_any x QO.out.ni hlen)
    have hle := no_len QO.out
    have hxL := XL.out l x QT.out
    obtain ⟨oa, oc, rfl, hoc, hog⟩ := QO.out.shape
    go_wp2_with fail
    refine IX.out.mono ?_
    rintro e w2 ⟨⟨k, hk, hkx, rfl⟩ | ⟨hx, rfl⟩, rfl⟩
    · obtain ⟨g, rfl⟩ := hog (by omega)
      have RR := Lib.hid (WR.out l x k QT.out hkx)
      have DR := Lib.hid (NO.drop QO.out (k := k) (by omega) hoc)
      have i1 : (0 : Int) ≤ (k : Int) := by omega
      have i2 : (k : Int) ≤ (l.length : Int) := by omega
      have i3 : (l.length : Int) ≤ (oc : Int) := by omega
      clear hkx IX hog hle
      generalize l.length = M at *
      go_wp2
      go_ret
      exact ⟨_, _, rfl, DR.out, RR.out, QB.out⟩
    · have QN := Lib.hid (WN.out l x QT.out hx)
      have hlt := WT.out l x QT.out hx
      obtain ⟨b, off, rfl, c0⟩ := HC.out w2 QB.out x hxL
      have i2 : (x : Int) < (L : Int) := by omega
      have e1 : bits .and .u64 ((wAt r x).toNat : Int) (s.toNat : Int) = ((wAt r x &&& s).toNat : Int) := bv_and _ _
      have SX := Lib.hid (fun W hW => SM.out (wAt r x &&& s) W hW)
      have CX : Hid (∀ W, Below w1.heap.size w1 W → W.cell? ⟨b, off + x, none⟩ = some (.int .u64 ((wAt r x).toNat : Int))) := Lib.hid (fun W hW => by
        obtain ⟨b', off', e, c⟩ := HC.out W hW x hxL
        cases e; exact c)
      clear c0 IX hog hx HC
      generalize hz : headW (wAt r x &&& s) = z at *
      have HZ := Lib.hid hz; clear hz
      generalize (wAt r x &&& s).toNat = y at *
      generalize (wAt r x).toNat = q at *
      go_wp2_with (at_builtin; refine wpList_append_own _ rfl _ _ 26 rfl w1.heap.size 3 i0 (.int .i64 0) 1 8 Tryd.underlying26 HI.out HZ0.out HZ1.out HZ2.out rfl (by decide) _ _ _ rfl (World.ownsRow.alloc QO.out _) ⟨w2.heap.size, 0, none⟩ 1 1 [.int .i64 (x : Int)] rfl rfl ?c1 ?c2 ?c3 ?c4 ?c5 ?_)
      case c1 =>
        intro i u hu
        match i, hu with
        | 0, hu => simp at hu; subst hu; simp [Addr.add]
      case c2 => intro u hu; simp at hu; subst hu; rfl
      case c3 => unfold maxLen; omega
      case c4 => omega
      case c5 => have := QB.out.size; simp; omega
      intro v' w3 hown3 hgrow3 _
      have B3 := Lib.hid ((QB.out.alloc QB.out.size _).grown hgrow3 (by have := QB.out.size; simp; omega) (fun g hg => (QO.out.lt g hg).1))
      have O3 : Hid (NO w1.heap.size v' (l ++ [x]) w3) := Lib.hid (by
        unfold NO
        rw [List.length_append, ints_append]
        exact hown3)
      have hle3 := no_len O3.out
      rw [List.length_append] at hle3
      have c3 := CX.out w3 B3.out
      have SX3 := Lib.hid (SX.out w3 B3.out)
      clear hown3 hgrow3 CX SX
      go_wp2_with fail
      refine SX3.out.mono ?_
      rintro e w4 ⟨rfl, rfl⟩
      go_wp2
      go_roundw
      case rel => exact ⟨l ++ [x], z, QN.out, rfl, O3.out, B3.out⟩
      case measure =>
        have e3 : lenOf v' = l.length + 1 := hle3
        show 65 - lenOf v' < 65 - l.length
        rw [e3]; omega

/-! Order, Ring -/
/-- what Order hands back -/
def OrdPost (r : List Bv) (w : World) (e : Ending) (w' : World) : Prop :=
  Below w.heap.size w w' ∧ ∃ u, e = .returned (.tuple #[u, .int .i64 (ordC r)]) ∧ NO w.heap.size u (ordL r) w'
/-- what Ring hands back -/
def RingPost (r : List Bv) (w : World) (e : Ending) (w' : World) : Prop :=
  Below w.heap.size w w' ∧ ∃ u l, e = .returned (.tuple #[u, .int .i64 (ringC r)]) ∧ NI w' u l ∧ (ringC r = 0 → RingL r l) ∧ (ringC r ≠ 0 → l = [])
theorem ret_vi {v : Value} {a b : Int} (h : a = b) : Ending.returned (.tuple #[v, .int .i64 a]) = .returned (.tuple #[v, .int .i64 b]) := by rw [h]
set_option maxHeartbeats 4000000 in
theorem order_any {w : World} {v : Value} {r : List Bv} (h : WIn w v r) (ht : Tab w) : Calls Tryd.prog 10 #[v] w (OrdPost r w) := by
  have CK := Lib.hid (check_any h)
  have OD := Lib.hid (fun (hr : RowsIn r) => ordered_any h hr ht)
  have CZ : Hid (ckR r = 0 → RowsIn r) := ckR_zero
  have BD : Hid (ckR r ≠ 0 → ordC r = ckR r ∧ ordL r = []) := fun h => ⟨ordC_bad h, ordL_bad (by rw [ordC_bad h]; exact h)⟩
  have CY : Hid (ckR r = 0 → leftR r (setL (ordR r)) ≠ 0#64 → ordC r = 8 ∧ ordL r = []) := fun h hn => by
    have hr := ckR_zero h
    have e := ordC_cyc h (fun e => hn ((ordd_left hr.len (ord_ordd hr)).2 e))
    exact ⟨e, ordL_bad (by rw [e]; decide)⟩
  have OK : Hid (ckR r = 0 → leftR r (setL (ordR r)) = 0#64 → ordC r = 0 ∧ ordL r = ordR r) := fun h hn => by
    have hr := ckR_zero h
    have e := ordC_ok h ((ordd_left hr.len (ord_ordd hr)).1 hn)
    exact ⟨e, ordL_ok e⟩
  have RP : Hid (∀ e w', OrdPost r w e w' ↔ (Below w.heap.size w w' ∧ ∃ u, e = .returned (.tuple #[u, .int .i64 (ordC r)]) ∧ NO w.heap.size u (ordL r) w')) := fun _ _ => Iff.rfl
  obtain ⟨a, c, rfl, _⟩ := h
  clear ht
  generalize ckR r = C at *
  generalize ordC r = D at *
  generalize ordL r = OL at *
  generalize leftR r (setL (ordR r)) = s at *
  generalize r.length = L at *
  go_enter Tryd.func10, Tryd.ntmps10
  go_wp2_with fail
  refine CK.out.mono ?_
  rintro e w2 ⟨rfl, rfl⟩
  by_cases hc : C = 0
  · subst hc
    have OD1 := Lib.hid (OD.out (CZ.out rfl))
    clear OD CZ BD
    go_wp2_with fail
    refine OD1.out.mono ?_
    rintro e w3 ⟨u, rfl, o3, b3⟩
    have B3 := Lib.hid b3; have O3 := Lib.hid o3
    clear b3 o3
    by_cases hs : s = 0#64
    · obtain ⟨e1, e2⟩ := OK.out (by trivial) hs
      have E1 := Lib.hid e1
      have t1 : ((s.toNat : Int) != 0) = false := by rw [hs]; rfl
      subst e2
      clear CY OK hs e1
      generalize s.toNat = y at *
      go_wp2
      go_ret2
      exact (RP.out _ _).2 ⟨B3.out, _, ret_vi E1.out.symm, O3.out⟩
    · obtain ⟨e1, e2⟩ := CY.out (by trivial) hs
      have E1 := Lib.hid e1
      have t1 : ((s.toNat : Int) != 0) = true := by rw [bv_ne_zero, bne_iff_ne]; exact hs
      subst e2
      clear CY OK hs e1
      generalize s.toNat = y at *
      go_wp2
      go_ret2
      exact (RP.out _ _).2 ⟨B3.out, _, ret_vi E1.out.symm, no_nil _ _⟩
  · have t1 := zero_ne hc
    obtain ⟨e1, e2⟩ := BD.out hc
    have E1 := Lib.hid e1
    subst e2
    clear hc OD CZ CY OK BD e1
    go_wp2
    go_ret2
    exact (RP.out _ _).2 ⟨Below.refl _ _, _, ret_vi E1.out.symm, no_nil _ _⟩
set_option maxHeartbeats 4000000 in
theorem ring_any {w : World} {v : Value} {r : List Bv} (h : WIn w v r) (ht : Tab w) : Calls Tryd.prog 11 #[v] w (RingPost r w) := by
  have CK := Lib.hid (check_any h)
  have OD := Lib.hid (fun (hr : RowsIn r) => ordered_any h hr ht)
  have CZ : Hid (ckR r = 0 → RowsIn r) := ckR_zero
  have BD : Hid (ckR r ≠ 0 → ringC r = ckR r ∧ ringC r ≠ 0) := fun h => ⟨ringC_bad h, by rw [ringC_bad h]; exact h⟩
  have CY : Hid (ckR r = 0 → leftR r (setL (ordR r)) ≠ 0#64 → ringC r = 0 ∧ ∀ W, Below w.heap.size w W → Calls Tryd.prog 37 #[v, .int .u64 ((leftR r (setL (ordR r))).toNat : Int)] W fun e w' => ∃ u l, e = .returned u ∧ NI w' u l ∧ RingL r l ∧ Below W.heap.size W w') := fun hz hn => by
    have hr := ckR_zero hz
    have hne : (ordR r).length ≠ r.length := fun e => hn ((ordd_left hr.len (ord_ordd hr)).2 e)
    refine ⟨ringC_ok hz hne, fun W hW => ?_⟩
    exact ringIn_any _ (h.later hW) hr (fun k hk => by
      cases hb : (leftR r (setL (ordR r))).getLsbD k
      · rfl
      · have := ((leftR_bit hr.len).1 hb).1; omega) hn (fun k hk => left_needs hr (ord_next r hr.len hne hr) hk) (ht.below hW ht.1)
  have OK : Hid (ckR r = 0 → leftR r (setL (ordR r)) = 0#64 → ringC r = 5) := fun h hn => by
    have hr := ckR_zero h
    exact ringC_none h ((ordd_left hr.len (ord_ordd hr)).1 hn)
  have RP : Hid (∀ e w', RingPost r w e w' ↔ (Below w.heap.size w w' ∧ ∃ u l, e = .returned (.tuple #[u, .int .i64 (ringC r)]) ∧ NI w' u l ∧ (ringC r = 0 → RingL r l) ∧ (ringC r ≠ 0 → l = []))) := fun _ _ => Iff.rfl
  obtain ⟨a, c, rfl, _⟩ := h
  clear ht
  generalize ckR r = C at *
  generalize ringC r = D at *
  generalize leftR r (setL (ordR r)) = s at *
  generalize r.length = L at *
  go_enter Tryd.func11, Tryd.ntmps11
  go_wp2_with fail
  refine CK.out.mono ?_
  rintro e w2 ⟨rfl, rfl⟩
  by_cases hc : C = 0
  · subst hc
    have OD1 := Lib.hid (OD.out (CZ.out rfl))
    clear OD CZ BD
    go_wp2_with fail
    refine OD1.out.mono ?_
    rintro e w3 ⟨u, rfl, o3, b3⟩
    have B3 := Lib.hid b3
    clear b3 o3
    by_cases hs : s = 0#64
    · have e1 := OK.out (by trivial) hs
      have E1 := Lib.hid e1
      have t1 : ((s.toNat : Int) == 0) = true := by rw [hs]; rfl
      clear CY OK hs e1
      generalize s.toNat = y at *
      go_wp2
      go_ret2
      exact (RP.out _ _).2 ⟨B3.out, _, [], ret_vi E1.out.symm, ni_nil _, ⟨fun h => absurd (E1.out.symm.trans h) (by decide), fun _ => rfl⟩⟩
    · obtain ⟨e1, e2⟩ := CY.out (by trivial) hs
      have E1 := Lib.hid e1
      have RI := Lib.hid (e2 w3 B3.out)
      have t1 : ((s.toNat : Int) == 0) = false := by
        cases hb : ((s.toNat : Int) == 0)
        · rfl
        · exact absurd ((bv_zero_iff _).1 hb) hs
      clear CY OK hs e1 e2
      generalize s.toNat = y at *
      go_wp2_with fail
      refine RI.out.mono ?_
      rintro e w4 ⟨u2, l, rfl, n4, r4, b4⟩
      have B4 := Lib.hid (B3.out.trans (b4.mono B3.out.size))
      have N4 := Lib.hid n4; have R4 := Lib.hid r4
      clear b4 n4 r4
      go_wp2
      go_ret2
      exact (RP.out _ _).2 ⟨B4.out, _, l, ret_vi E1.out.symm, N4.out, fun _ => R4.out, fun h => absurd E1.out h⟩
  · have t1 := zero_ne hc
    obtain ⟨e1, e2⟩ := BD.out hc
    have E1 := Lib.hid e1; have E2 := Lib.hid e2
    clear hc OD CZ CY OK BD e1 e2
    go_wp2
    go_ret2
    exact (RP.out _ _).2 ⟨Below.refl _ _, _, [], ret_vi E1.out.symm, ni_nil _, fun h => absurd h E2.out, fun _ => rfl⟩

/-! the laws' knots -/
theorem k0_in : RowsIn [2#64, 0#64] := by
  refine ⟨by decide, fun i => ?_⟩
  match i with
  | 0 => exact setIn_iff.2 (by decide +kernel)
  | 1 => exact setIn_iff.2 (by decide +kernel)
  | i + 2 => intro k _; rw [wAt_ge (by simp)]; simp
theorem k0_ord : ordR [2#64, 0#64] = [1, 0] := by decide +kernel
theorem k0_c : ordC [2#64, 0#64] = 0 := ordC_ok (ckR_rows k0_in) (by rw [k0_ord]; rfl)
theorem k0_l : ordL [2#64, 0#64] = [1, 0] := by rw [ordL_ok k0_c, k0_ord]
set_option maxHeartbeats 2000000 in
theorem knots_true (w : World) (ht : Tab w) :
    Calls Tryd.prog 20 #[] w fun e w' => e = .returned (.bool true) ∧ Below w.heap.size w w' := by
  have OR : Hid (∀ T, Calls Tryd.prog 10 #[.slice (some ⟨w.heap.size, 0, none⟩) 2 2] (w.alloc (.cells #[.int .u64 2, .int .u64 0] T)) fun e w' => ∃ g c, e = .returned (.tuple #[.slice (some ⟨g, 0, none⟩) 2 c, .int .i64 0]) ∧ w'.cell? ⟨g, 0, none⟩ = some (.int .i64 1) ∧ Below (w.alloc (.cells #[.int .u64 2, .int .u64 0] T)).heap.size (w.alloc (.cells #[.int .u64 2, .int .u64 0] T)) w') := fun T => by
    refine (order_any (win_two w 2#64 0#64 T) (ht.below (below_al w _) ht.1)).mono ?_
    rintro e w' ⟨b, u, rfl, o⟩
    rw [k0_c]
    rw [k0_l] at o
    obtain ⟨a, c, rfl, _, hg⟩ := o.shape
    obtain ⟨g, rfl⟩ := hg (by decide)
    exact ⟨g, c, rfl, NO.cell o (i := 0) (by decide), b⟩
  have WA := Lib.hid (fun T => below_al w (.cells #[.int .u64 2, .int .u64 0] T))
  clear ht
  go_enter Tryd.func20, Tryd.ntmps20
  go_wp2_with fail
  refine (OR.out _).mono ?_
  rintro e w2 ⟨g, c, rfl, c0, b2⟩
  have B2 := Lib.hid ((WA.out _).trans (b2.mono (WA.out _).size))
  clear b2
  go_wp2
  go_ret
  exact ⟨rfl, B2.out⟩
end Go.Proofs.YtbippnldofalbaaDoor
