/-
  What package file's Parse keeps: the file's block, its rows, each in a block of its own. No condition.
  Package file's addPhony. No condition beyond the state's own.
  Package file's addLine. Condition: the strings have at most 2^32 bytes.
-/
import Derived.Test.YtebjofffijnihaaGreatDoorGc14RNd
import Derived.Test.YtebjofffijnihaaGreatDoorGc10NFind
import Derived.Deep.RegionHeld3
namespace Go.Proofs.YtebjofffijnihaaGreatDoor
set_option maxRecDepth 100000
set_option linter.unusedVariables false
open Go.ChangeShapes Go.WideShapes Go.ChangeAt Go.RowKit

theorem own_blk {w : World} {B : Nat} {e t : TypeId} {s n k : Nat} {v : Value} {xs : List Value} {ys : Array Value} (h : w.ownsRow B e s v n xs) (hk : Blk k ys t w) (hne : t ≠ e) : v.ownBlock ≠ some k := by
  intro he
  rcases h.2 with ⟨rfl, _⟩ | ⟨g, cap, cur, rfl, _, hg, _⟩
  · cases he
  · have : g = k := Option.some.inj he
    subst this
    unfold Blk at hk
    rw [hk] at hg
    cases hg
    exact hne rfl
theorem blk_kept {w w' : World} {B : Nat} {e t : TypeId} {s n k : Nat} {v : Value} {xs : List Value} {ys : Array Value} (hk : Blk k ys t w) (h : w.ownsRow B e s v n xs) (hne : t ≠ e) (g : w.grownBy w' v.ownBlock) : Blk k ys t w' :=
  hk.at (g.block k hk.lt (fun e => own_blk h hk hne e.symm))
theorem own_kept {w w' : World} {b1 b2 : Nat} {e1 e2 : TypeId} {s1 s2 n1 n2 : Nat} {v1 v2 : Value} {x1 x2 : List Value} (h1 : w.ownsRow b1 e1 s1 v1 n1 x1) (h2 : w.ownsRow b2 e2 s2 v2 n2 x2) (hne : e1 ≠ e2) (g : w.grownBy w' v2.ownBlock) : w'.ownsRow b1 e1 s1 v1 n1 x1 :=
  World.ownsRow.kept h1 g (own_type h1 h2 hne)
theorem apart_kept {w w' : World} {B : Nat} {v u : Value} {z : List Str} (h : SO B u z w) (g : w.grownBy w' v.ownBlock) (ha : Apart u v) : SO B u z w' := by
  refine World.ownsRow.kept h g ?_
  cases hu : u.ownBlock with
  | none => exact .inl rfl
  | some k => exact .inr (fun e => ha k hu e.symm)

/-- the file in block k: macros z, what was added st; c: the rules' values -/
structure FIs (B k : Nat) (z : List Mc) (st : St) (vm vp vi vr : Value) (c : List (Value × Value)) (w : World) : Prop where
  blk : Blk k #[vm, vp, vi, vr] 27 w
  mac : MO B vm z w
  pho : SO B vp st.1 w
  inf : IO B vi st.2.1 w
  rul : ROb B vr st.2.2 w c
  apt : ∀ u ∈ rcells c, Apart u vp
  lo : B ≤ k
  bnd : z.length ≤ 200 ∧ st.1.length ≤ 40 ∧ st.2.1.length ≤ 200 ∧ st.2.2.length ≤ 100
  sml : ∀ y ∈ st.1, y.length ≤ 40
variable {B k : Nat} {z : List Mc} {st : St} {vm vp vi vr : Value} {c : List (Value × Value)} {w : World}
theorem FIs.base (h : FIs B k z st vm vp vi vr c w) : B ≤ w.heap.size := Nat.le_trans h.lo (Nat.le_of_lt h.blk.lt)
theorem FIs.later {w' : World} (h : FIs B k z st vm vp vi vr c w) (hb : Below w.heap.size w w') : FIs B k z st vm vp vi vr c w' :=
  ⟨h.blk.later hb, own_later h.mac hb, own_later h.pho hb, own_later h.inf hb, h.rul.later hb, h.apt, h.lo, h.bnd, h.sml⟩
theorem set_blk {w : World} {k i : Nat} {ys : Array Value} {B : Nat} {e : TypeId} {s n : Nat} {v : Value} {xs : List Value} (h : w.ownsRow B e s v n xs) (hk : Blk k ys 27 w) (hne : 27 ≠ e) (u : Value) : (w.setCell ⟨k, i, none⟩ u).ownsRow B e s v n xs :=
  ownsRow_setCell_other h (by exact own_blk h hk hne) _
theorem ROb.set {u : Value} {i : Nat} {ys : Array Value} (h : ROb B vr st.2.2 w c) (hk : Blk k ys 27 w) : ROb B vr st.2.2 (w.setCell ⟨k, i, none⟩ u) c := by
  obtain ⟨h1, h2, h3, h4⟩ := h
  exact ⟨h1, set_blk h2 hk (by decide) _, fun j p hj => ⟨set_blk (h3 j p hj).1 hk (by decide) _, set_blk (h3 j p hj).2 hk (by decide) _⟩, h4⟩
theorem ROb.at {w' : World} (h : ROb B vr st.2.2 w c) (h2 : w'.ownsRow B 40 2 vr st.2.2.length (rcells c)) (h3 : ∀ j p, c[j]? = some p → SO B p.1 (tg st.2.2 j) w' ∧ SO B p.2 (nd st.2.2 j) w') : ROb B vr st.2.2 w' c := ⟨h.1, h2, h3, h.2.2.2⟩
theorem rc_mem {c : List (Value × Value)} {j : Nat} {p : Value × Value} (h : c[j]? = some p) : p.1 ∈ rcells c ∧ p.2 ∈ rcells c :=
  ⟨rcells_mem.2 ⟨p, List.mem_of_getElem? h, .inl rfl⟩, rcells_mem.2 ⟨p, List.mem_of_getElem? h, .inr rfl⟩⟩
/-- the phony names have grown -/
theorem FIs.ph {w1 : World} {v : Value} {l : List Str} (h : FIs B k z st vm vp vi vr c w) (o : SO B v l w1) (g : w.grownBy w1 vp.ownBlock) (ow : Ow vp v w) (hl : l.length ≤ 40) (hx : ∀ y ∈ l, y.length ≤ 40) :
    FIs B k z (l, st.2) vm v vi vr c (w1.setCell ⟨k, 1, none⟩ v) := by
  have hk := blk_kept h.blk h.pho (by decide) g
  have hm := own_kept h.mac h.pho (by decide) g
  have hi := own_kept h.inf h.pho (by decide) g
  have hr : ROb B vr st.2.2 w1 c := h.rul.at (own_kept h.rul.2.1 h.pho (by decide) g) fun j p hj => by
    obtain ⟨a, b⟩ := h.rul.2.2.1 j p hj
    obtain ⟨m1, m2⟩ := rc_mem hj
    exact ⟨apart_kept a g (h.apt _ m1), apart_kept b g (h.apt _ m2)⟩
  refine ⟨hk.set 1 v, set_blk hm hk (by decide) _, set_blk o hk (by decide) _, set_blk hi hk (by decide) _, hr.set hk, fun u hu j hj e => ?_, h.lo, ⟨h.bnd.1, hl, h.bnd.2.2⟩, hx⟩
  rcases ow j e with q | q
  · exact h.apt u hu j hj q
  · obtain ⟨p, hp, hpa⟩ := rcells_mem.1 hu
    obtain ⟨i, hi, rfl⟩ := List.getElem_of_mem hp
    have hek := h.rul.2.2.1 i _ (List.getElem?_eq_getElem hi)
    have : j < w.heap.size := by
      rcases hpa with rfl | rfl
      · exact (hek.1.lt j hj).2
      · exact (hek.2.lt j hj).2
    omega
/-- the pairs have grown -/
theorem FIs.pairs {w1 : World} {v : Value} {l : List Mc} (h : FIs B k z st vm vp vi vr c w) (o : IO B v l w1) (g : w.grownBy w1 vi.ownBlock) (hl : l.length ≤ 200) :
    FIs B k z (st.1, l, st.2.2) vm vp v vr c (w1.setCell ⟨k, 2, none⟩ v) := by
  have hk := blk_kept h.blk h.inf (by decide) g
  have hm := own_kept h.mac h.inf (by decide) g
  have hp := own_kept h.pho h.inf (by decide) g
  have hr : ROb B vr st.2.2 w1 c := h.rul.at (own_kept h.rul.2.1 h.inf (by decide) g) fun j p hj => by
    obtain ⟨a, b⟩ := h.rul.2.2.1 j p hj
    exact ⟨own_kept a h.inf (by decide) g, own_kept b h.inf (by decide) g⟩
  exact ⟨hk.set 2 v, set_blk hm hk (by decide) _, set_blk hp hk (by decide) _, set_blk o hk (by decide) _, hr.set hk, h.apt, h.lo, ⟨h.bnd.1, h.bnd.2.1, hl, h.bnd.2.2.2⟩, h.sml⟩
/-- the rules have grown -/
theorem FIs.rules {w1 w2 : World} {v p1 p2 : Value} {t n : List Str} (h : FIs B k z st vm vp vi vr c w) (hb : Below w.heap.size w w1) (h1 : SO w.heap.size p1 t w1) (h2 : SO w.heap.size p2 n w1) (ap : Apart p1 p2)
    (g : w1.grownBy w2 vr.ownBlock) (o : w2.ownsRow B 40 2 v (st.2.2.length + 1) (rcells c ++ [p1, p2])) (hl : st.2.2.length + 1 ≤ 100) :
    FIs B k z (st.1, st.2.1, st.2.2 ++ [(t, n)]) vm vp vi v (c ++ [(p1, p2)]) (w2.setCell ⟨k, 3, none⟩ v) := by
  have h' := h.later hb
  have hk := blk_kept h'.blk h'.rul.2.1 (by decide) g
  have hm := own_kept h'.mac h'.rul.2.1 (by decide) g
  have hp := own_kept h'.pho h'.rul.2.1 (by decide) g
  have hi := own_kept h'.inf h'.rul.2.1 (by decide) g
  have hr : ROb B v (st.2.2 ++ [(t, n)]) w2 (c ++ [(p1, p2)]) := ro_snoc h.rul.1 h.rul.2.1 h.rul.2.2.1 h.rul.2.2.2 hb h1 h2 ap h.base g o
  refine ⟨hk.set 3 v, set_blk hm hk (by decide) _, set_blk hp hk (by decide) _, set_blk hi hk (by decide) _, ROb.set (st := (st.1, st.2.1, st.2.2 ++ [(t, n)])) hr hk, fun u hu => ?_, h.lo, ⟨h.bnd.1, h.bnd.2.1, h.bnd.2.2.1, by rw [List.length_append]; exact hl⟩, h.sml⟩
  rw [rcells_snoc] at hu
  rcases List.mem_append.1 hu with hu | hu
  · exact h.apt u hu
  · intro j hj e
    have h3 := (h.pho.lt j e).2
    simp at hu
    rcases hu with rfl | rfl
    · have := (h1.lt j hj).1; omega
    · have := (h2.lt j hj).1; omega
end Go.Proofs.YtebjofffijnihaaGreatDoor
namespace Go.Proofs.YtebjofffijnihaaGreatDoor
set_option maxRecDepth 100000
set_option linter.unusedVariables false
open Go.ChangeShapes Go.WideShapes Go.ChangeAt Go.RowKit

theorem SO.len {B : Nat} {v : Value} {l : List Str} {w : World} (h : SO B v l w) : ∃ a c, v = .slice a l.length c := by
  rcases h.2 with ⟨h, h0⟩ | ⟨g, cap, cur, h, _⟩
  · exact ⟨none, 0, by rw [h, h0]⟩
  · exact ⟨_, _, h⟩
theorem phN_step {l : List Str} (ph : List Str) {j : Nat} (h : j < l.length) : phN ph (l.take (j + 1)) = addU (phN ph (l.take j)) (l.getD j []) := by
  have e : l[j]? = some (l.getD j []) := by rw [List.getD, List.getElem?_eq_getElem h]; rfl
  unfold phN
  rw [List.take_add_one, e, List.foldl_append]; rfl
theorem addU_len (l : List Str) (x : Str) : (addU l x).length ≤ l.length + 1 := by
  unfold addU; split <;> simp
theorem addU_mem {l : List Str} {x y : Str} (h : y ∈ addU l x) : y ∈ l ∨ y = x := by
  unfold addU at h
  split at h
  · exact .inl h
  · simpa using h
theorem phN_len (ph : List Str) : ∀ n : List Str, (phN ph n).length ≤ ph.length + n.length := by
  intro n
  unfold phN
  induction n generalizing ph with
  | nil => simp
  | cons x r ih =>
    rw [List.foldl_cons]
    have h1 := ih (addU ph x)
    have h2 := addU_len ph x
    rw [List.length_cons]
    omega
theorem phN_mem {y : Str} : ∀ (n ph : List Str), y ∈ phN ph n → y ∈ ph ∨ y ∈ n := by
  intro n
  unfold phN
  induction n with
  | nil => intro ph h; exact .inl h
  | cons x r ih =>
    intro ph h
    rw [List.foldl_cons] at h
    rcases ih _ h with h | h
    · rcases addU_mem h with h | rfl
      · exact .inl h
      · exact .inr (by simp)
    · exact .inr (by simp [h])
/-- what a phony rule adds -/
def phL (st : St) (r : Rl) : Int × St := if 1 < r.1.length then (3, st) else if 20 < (phN st.1 r.2).length then (2, st) else (0, (phN st.1 r.2, st.2))
variable {B k : Nat} {z : List Mc} {st : St} {vm vp vi vr : Value} {c : List (Value × Value)} {w : World}
set_option maxHeartbeats 8000000 in
theorem phony_any {B2 : Nat} (t n : List Str) (vt vn : Value) (h : FIs B k z st vm vp vi vr c w) (hp : st.1.length ≤ 20) (ht : SIn w vt t) (hn : SO B2 vn n w) (ha : Apart vn vp) (hl : n.length ≤ 20) (hg : n.all good = true) :
    Calls Tryz.prog 93 #[.pointer (some ⟨k, 0, none⟩), .agg #[vt, vn]] w fun e w' => e = .returned (.int .i64 (phL st (t, n)).1) ∧ Below B w w' ∧ ((phL st (t, n)).1 = 0 → ∃ v, FIs B k z (phL st (t, n)).2 vm v vi vr c w') := by
  have b0 := blk_new w #[vt, vn] 40
  have ba : Below w.heap.size w (w.alloc (.cells #[vt, vn] 40)) := (Below.refl _ _).alloc (Nat.le_refl _) _
  have F0 := Lib.hid (h.later ba)
  have HB := Lib.hid h.base
  have BB : Hid (Below B w (w.alloc (.cells #[vt, vn] 40))) := ba.mono h.base
  have K0 : Hid (KR k k vp w (w.alloc (.cells #[vt, vn] 40))) := KR.below ba
  obtain ⟨d1, d2⟩ := show _ ∧ _ from ⟨b0.cell (i := 0) rfl, b0.cell (i := 1) rfl⟩
  have PL : phL st (t, n) = if 1 < t.length then (3, st) else if 20 < (phN st.1 n).length then (2, st) else (0, (phN st.1 n, st.2)) := rfl
  obtain ⟨at', ct, rfl⟩ := ht.shape
  obtain ⟨an, cn, rfl⟩ := hn.len
  have VP : Hid (∀ j, vp.ownBlock = some j → B ≤ j) := fun j hj => (h.pho.lt j hj).1
  have LO := Lib.hid h.lo
  have KB : Hid (∀ W, KR k k vp w W → Below B w W) := fun W hW => hW.to LO.out LO.out VP.out HB.out
  by_cases h1 : 1 < t.length
  · rw [if_pos h1] at PL
    have P1 := Lib.hid PL
    clear h F0 K0 ht hn b0 ba PL
    go_enter Tryz.func93, Tryz.ntmps93
    go_wp2
    go_ret
    exact ⟨by rw [P1.out]; rfl, BB.out, fun e => by rw [P1.out] at e; cases e⟩
  · rw [if_neg h1] at PL
    have P1 := Lib.hid PL
    have GD : Hid (∀ y ∈ n, y.length ≤ 40) := fun y hy => (good_len (List.all_eq_true.1 hg y hy)).2
    have PS : Hid (∀ j, j ≤ n.length → (phN st.1 (n.take j)).length ≤ 40 ∧ ∀ y ∈ phN st.1 (n.take j), y.length ≤ 40) := fun j hj => by
      refine ⟨?_, fun y hy => ?_⟩
      · have e1 := phN_len st.1 (n.take j)
        rw [List.length_take] at e1
        omega
      · rcases phN_mem _ _ hy with hy | hy
        · exact h.sml y hy
        · exact GD.out y (List.mem_of_mem_take hy)
    have ST : Hid (∀ j, j < n.length → phN st.1 (n.take (j + 1)) = addU (phN st.1 (n.take j)) (n.getD j [])) := fun j hj => phN_step _ hj
    have TL := Lib.hid (List.take_length (l := n))
    have HC : Hid (∀ j, j < n.length → ∃ g, an = some ⟨g, 0, none⟩ ∧ ∀ W, KR k k vp w W → W.cell? ⟨g, j, none⟩ = some (.string (bs (n.getD j [])))) := fun j hj => by
      rcases hn.2 with ⟨e, h0⟩ | ⟨g, cap, cur, e, _, hgb, _⟩
      · omega
      · obtain ⟨rfl, rfl⟩ : an = some ⟨g, 0, none⟩ ∧ cn = cap := by injection e with e1 e2 e3; exact ⟨e1, e3⟩
        refine ⟨g, rfl, fun W hW => ?_⟩
        have hgk : g ≠ k := fun e => own_blk hn h.blk (by decide) (by rw [e]; rfl)
        have hgv : vp.ownBlock ≠ some g := ha g rfl
        have hlt : g < w.heap.size := by
          rcases Nat.lt_or_ge g w.heap.size with h' | h'
          · exact h'
          · simp [Array.getElem?_eq_none h'] at hgb
        have hb := hW.block g hlt hgk hgk hgv
        have hc := hn.cells (g := g) rfl j (encStr (n.getD j [])) (by rw [List.getElem?_map, List.getD, List.getElem?_eq_getElem hj]; rfl)
        rw [add_off] at hc
        exact (World.cell?_of_block (a := ⟨g, j, none⟩) hb).trans hc
    clear ht hn ha b0 ba PL hg
    by_cases h0 : n.length = 0
    · have hn0 : n = [] := List.length_eq_zero_iff.1 h0
      have R1 : Hid (phL st (t, n) = (0, st)) := by
        show _ = _
        rw [P1.out, hn0, if_neg (show ¬ 20 < (phN st.1 []).length by show ¬ 20 < st.1.length; omega)]; rfl
      have e1 := F0.out.blk.cell (i := 1) rfl
      obtain ⟨av, cv, hv⟩ := h.pho.len
      rw [hv] at e1
      rw [h0] at e1 d1 d2 F0 BB
      rw [h0]
      have KK := Lib.hid BB.out
      clear h P1 ST PS HC K0 hn0 hv
      generalize st.1.length = lp at *
      go_enter Tryz.func93, Tryz.ntmps93
      go_wp2_with fail
      go_rounds 1
      go_ret
      exact ⟨by rw [R1.out]; rfl, KK.out, fun e => by rw [R1.out]; exact ⟨_, F0.out⟩⟩
    · obtain ⟨g, rfl, _⟩ := HC.out 0 (by omega)
      have HD : Hid (∀ j, j < n.length → ∀ W, KR k k vp w W → W.cell? ⟨g, j, none⟩ = some (.string (bs (n.getD j [])))) := fun j hj W hW => by
        obtain ⟨g', e, h2⟩ := HC.out j hj
        injection e with e; injection e with e1 _ _
        rw [e1]; exact h2 W hW
      clear HC h
      go_enter Tryz.func93, Tryz.ntmps93
      go_wp2_with fail
      go_loopw [14] (fun i wr => ∃ (j : Nat) (v : Value), j ≤ n.length ∧ i = .int .i64 (j : Int) ∧ FIs B k z (phN st.1 (n.take j), st.2) vm v vi vr c wr ∧ KR k k vp w wr ∧ Ow vp v w) (fun i _ => n.length - (intOf i).toNat)
      case atStart => exact ⟨0, vp, Nat.zero_le _, rfl, F0.out, K0.out, Ow.refl _ _⟩
      case round =>
        obtain ⟨j, v, hj, rfl, q1, q2, q3⟩ := hrel
        have Q1 := Lib.hid q1; have Q2 := Lib.hid q2; have Q3 := Lib.hid q3
        clear q1 q2 q3
        by_cases hj2 : j < n.length
        · have c1 := HD.out j hj2 wr Q2.out
          have S1 := Lib.hid (ST.out j hj2)
          obtain ⟨p1, p2⟩ := PS.out j (by omega)
          obtain ⟨p3, p4⟩ := PS.out (j + 1) (by omega)
          rw [S1.out] at p3 p4
          generalize n.getD j [] = x at *
          have AP := Lib.hid (appS_any x (phN st.1 (n.take j)) v wr Q1.out.pho Q1.out.base (by omega) (fun y hy => by have := p2 y hy; omega))
          have P3 := Lib.hid p3; have P4 := Lib.hid p4
          have e1 := Q1.out.blk.cell (i := 1) rfl
          clear p1 p2 p3 p4
          go_wp2_with fail
          refine AP.out.mono ?_
          rintro e w1 ⟨v1, rfl, o1, g1, ow1⟩
          obtain ⟨av1, nv1, cv1, rfl⟩ := own_shape o1
          have BK := blk_kept Q1.out.blk Q1.out.pho (by decide) g1
          have N1 := Lib.hid (Q1.out.ph o1 g1 ow1 P3.out P4.out)
          have K1 : Hid (KR k k vp w (w1.setCell ⟨k, 1, none⟩ (.slice av1 nv1 cv1))) := (Q2.out.trans Q3.out (KR.grown g1)).trans (Ow.trans Q3.out ow1 Q2.out.size) (KR.cell _ w1 1 _)
          have O1 : Hid (Ow vp (.slice av1 nv1 cv1) w) := Ow.trans Q3.out ow1 Q2.out.size
          have e2 := BK.cell (i := 1) rfl
          have f2 := BK.free 1
          clear o1 g1 ow1 BK AP
          go_wp2
          go_roundw
          case rel => exact ⟨j + 1, .slice av1 nv1 cv1, by omega, by go_num, by rw [S1.out]; exact N1.out, K1.out, O1.out⟩
          case measure => simp [intOf]; omega
        · obtain rfl : j = n.length := by omega
          have q := Q1.out
          rw [TL.out] at q
          have QQ := Lib.hid q
          have e1 := q.blk.cell (i := 1) rfl
          obtain ⟨av, cv, rfl⟩ := q.pho.len
          have PZ := Lib.hid (PS.out n.length (Nat.le_refl _)).1
          rw [TL.out] at PZ
          have KK := Lib.hid (KB.out _ Q2.out)
          clear q
          by_cases h2 : 20 < (phN st.1 n).length
          · have R1 : Hid (phL st (t, n) = (2, st)) := by show _ = _; rw [P1.out, if_pos h2]
            clear P1
            generalize (phN st.1 n).length = lp at *
            go_wp2
            go_ret
            exact ⟨by rw [R1.out]; rfl, KK.out, fun e => by rw [R1.out] at e; cases e⟩
          · have R1 : Hid (phL st (t, n) = (0, (phN st.1 n, st.2))) := by show _ = _; rw [P1.out, if_neg h2]
            clear P1
            generalize (phN st.1 n).length = lp at *
            go_wp2
            go_ret
            exact ⟨by rw [R1.out]; rfl, KK.out, fun e => by rw [R1.out]; exact ⟨_, QQ.out⟩⟩
end Go.Proofs.YtebjofffijnihaaGreatDoor
namespace Go.Proofs.YtebjofffijnihaaGreatDoor
set_option maxRecDepth 100000
set_option linter.unusedVariables false
open Go.ChangeShapes Go.WideShapes Go.ChangeAt Go.RowKit

theorem cell_two' (w : World) (x y : Value) (t : TypeId) (N : Nat) (hN : N = w.heap.size) : ∀ j u, [x, y][j]? = some u → (w.alloc (.cells #[x, y] t)).cell? ((⟨N, 0, none⟩ : Addr).add j) = some u := by
  subst hN; exact two_new w x y t
/-- a rule appended to a row of rules -/
theorem app_rule {w : World} {B N n : Nat} {v x y : Value} {xs : List Value} (hown : w.ownsRow B 40 2 v n xs) (hx : x.oneCell' = true) (hy : y.oneCell' = true) (hN : N = w.heap.size) (hn : n ≤ 2932031007316) (hB : B ≤ w.heap.size) :
    ∃ v' w', (Builtin.append_ #[25, 25] 25 #[v, .slice (some ⟨N, 0, none⟩) 1 1]).run Tryz.prog (w.alloc (.cells #[x, y] 40)) = .ok v' w' ∧
      w'.ownsRow B 40 2 v' (n + 1) (xs ++ [x, y]) ∧ (w.alloc (.cells #[x, y] 40)).grownBy w' v.ownBlock := by
  obtain ⟨j0, ji, jz0, jz1, jz2⟩ := info_parts infoRl
  obtain ⟨v', w', h1, h2, h3, _⟩ := run_append_own (P := Tryz.prog) (w.alloc (.cells #[x, y] 40)) B 25 25 40 j0 (.agg #[.slice none 0 0, .slice none 0 0]) 2 48 Tryz.underlying25 ji jz0 jz1 jz2 rfl (by decide) v n xs (hown.alloc _)
    ⟨N, 0, none⟩ 1 1 [x, y] rfl (cell_two' w x y 40 N hN) (by intro u hu; simp at hu; rcases hu with rfl | rfl <;> assumption) (by unfold maxLen; omega) (by omega) (by simp; omega)
  exact ⟨v', w', h1, h2, h3⟩
theorem SO.one {B : Nat} {v : Value} {z : List Str} {w : World} (h : SO B v z w) : v.oneCell' = true := by
  rcases h.2 with ⟨rfl, _⟩ | ⟨g, cap, cur, rfl, _⟩ <;> rfl
variable {B k : Nat} {z : List Mc} {st : St} {vm vp vi vr : Value} {c : List (Value × Value)} {w : World}
theorem own_len {w : World} {B : Nat} {e : TypeId} {s n : Nat} {v : Value} {xs : List Value} (h : w.ownsRow B e s v n xs) : ∃ a c, v = .slice a n c := by
  rcases h.2 with ⟨h, h0⟩ | ⟨g, cap, cur, h, _⟩
  · exact ⟨none, 0, by rw [h, h0]⟩
  · exact ⟨_, _, h⟩
theorem addU_lenI (l : List Mc) (x : Mc) : (addU l x).length ≤ l.length + 1 := by
  unfold addU; split <;> simp
theorem parse_fine {s : Str} (h : (parseR s).2 = 0) : chkR (parseR s).1 = 0 := by
  unfold parseR at *
  cases hc : colon s with
  | none => rw [hc] at h; cases h
  | some p =>
    rw [hc] at h
    simp only [] at h ⊢
    split at h
    · rename_i h1; rw [if_pos h1]; exact h1
    · rename_i h1; exact absurd h h1
/-- what addLine hands back -/
def AdPost (B k : Nat) (z : List Mc) (vm : Value) (a : Int × St) (w : World) (e : Ending) (w' : World) : Prop :=
  e = .returned (.int .i64 a.1) ∧ Below B w w' ∧ (a.1 = 0 → ∃ vp vi vr c, FIs B k z a.2 vm vp vi vr c w')
set_option maxHeartbeats 16000000 in
theorem addLine_any (s : Str) (h : FIs B k z st vm vp vi vr c w) (hp : st.1.length ≤ 20) (hi : st.2.1.length < 200) (hs : s.length ≤ 4294967296) (hx : ∀ m ∈ z, m.1.length ≤ maxLen ∧ m.2.length ≤ 4294967296) :
    Calls Tryz.prog 70 #[.pointer (some ⟨k, 0, none⟩), .string (bs s)] w (AdPost B k z vm (addL z st s) w) := by
  have c0 := h.blk.cell (i := 0) rfl
  have EX := Lib.hid (exp_any z s vm w (McIn.own h.mac (by have := h.bnd.1; omega)) hx hs)
  have HH := Lib.hid h
  have HB := Lib.hid h.base
  have HP := Lib.hid hp
  have HI := Lib.hid hi
  clear h hs hx hp hi
  go_enter Tryz.func70, Tryz.ntmps70
  go_wp2_with fail
  refine EX.out.mono ?_
  intro e w1 h1
  obtain ⟨hb1, a, E, rfl, hA⟩ := ans_of h1
  have B1 : Hid (Below w.heap.size w w1) := hb1
  have W1 : Hid (Below B w w1) := hb1.mono HB.out
  have XE := Lib.hid (expR_eq hA)
  have AL := Lib.hid (ans_len hA)
  clear h1 hb1 hA EX
  by_cases hE : E = 0
  · subst hE
    have AD : Hid (addL z st s = if (parseR a).2 ≠ 0 then ((parseR a).2, st) else putL st (parseR a).1) := by show _ = _; unfold addL; rw [XE.out]; rfl
    have PA := Lib.hid (parseO_any (bs a) w1 (by rw [bs_size]; have := AL.out; omega))
    rw [bs_list] at PA
    go_wp2_with fail
    refine PA.out.mono ?_
    rintro e w2 ⟨vt, vn, rfl, ot, on', hap, hb2⟩
    have B2 : Hid (Below w.heap.size w w2) := B1.out.trans (hb2.mono B1.out.size)
    have PF : Hid ((parseR a).2 = 0 → chkR (parseR a).1 = 0) := parse_fine
    generalize parseR a = R at *
    obtain ⟨⟨t, n⟩, E2⟩ := R
    dsimp only at ot on' AD PF
    have OT := Lib.hid (so_base ot B1.out.size); have ON := Lib.hid (so_base on' B1.out.size); have AP := Lib.hid hap
    obtain ⟨at', ct, rfl⟩ := ot.len
    obtain ⟨an, cn, rfl⟩ := on'.len
    have ba : Below w2.heap.size w2 (w2.alloc (.cells #[.slice at' t.length ct, .slice an n.length cn] 40)) := (Below.refl _ _).alloc (Nat.le_refl _) _
    have B3 : Hid (Below w.heap.size w (w2.alloc (.cells #[.slice at' t.length ct, .slice an n.length cn] 40))) := B2.out.trans (ba.mono B2.out.size)
    have S3 := Lib.hid (blk_new w2 #[.slice at' t.length ct, .slice an n.length cn] 40)
    have OT3 := Lib.hid (own_later OT.out ba); have ON3 := Lib.hid (own_later ON.out ba)
    have F3 := Lib.hid (HH.out.later B3.out)
    obtain ⟨d0, d1⟩ := show _ ∧ _ from ⟨S3.out.cell (i := 0) rfl, S3.out.cell (i := 1) rfl⟩
    have W3 : Hid (Below B w (w2.alloc (.cells #[.slice at' t.length ct, .slice an n.length cn] 40))) := B3.out.mono HB.out
    clear ba ot on' hap hb2 PA OT ON c0
    obtain ⟨w3, hw3⟩ : ∃ w3, w3 = w2.alloc (.cells #[.slice at' t.length ct, .slice an n.length cn] 40) := ⟨_, rfl⟩
    have W2S : Hid (w3.heap.size = w2.heap.size + 1) := by rw [hw3]; show _ = _; simp
    by_cases hE2 : E2 = 0
    · subst hE2
      have AD2 : Hid (addL z st s = putL st (t, n)) := AD.out
      have CK := PF.out rfl
      obtain ⟨k1, k2, k3, k4, k5⟩ := chk_ok CK
      have K1 := Lib.hid k1; have K2 := Lib.hid k2; have K4 := Lib.hid k4; have K5 := Lib.hid k5
      dsimp only at k1 k2
      have ST3 : Hid (SIn w3 (.slice at' t.length ct) t) := by rw [hw3]; exact SIn.own OT3.out (by omega) (small_all k4)
      have SN3 : Hid (SIn w3 (.slice an n.length cn) n) := by rw [hw3]; exact SIn.own ON3.out (by omega) (small_all k5)
      have CO := Lib.hid (contains_of ST3.out phonyW)
      rw [hw3] at CO
      go_wp2_with fail
      refine (show Calls Tryz.prog 75 #[.slice at' t.length ct, .string (ByteArray.mk #[46, 80, 72, 79, 78, 89])] _ _ from CO.out).mono ?_
      rintro e w4 ⟨rfl, rfl⟩
      rw [← hw3] at S3 OT3 ON3 F3 W3 B3 d0 d1 ⊢
      clear hw3 CO
      have LT : Hid (∀ j, vp.ownBlock = some j → j < w.heap.size) := fun j hj => (HH.out.pho.lt j hj).2
      have LB : Hid (∀ (v : Value) (m : Nat) (xs : List Value), w3.ownsRow w.heap.size 9 1 v m xs → Apart v vp) := fun v m xs h j hj e => by have := (h.lt j hj).1; have := LT.out j e; omega
      cases hq : decide (phonyW ∈ t)
      · have AD3 : Hid (addL z st s = match infR (t, n) with
            | some p => (0, (st.1, addU st.2.1 p, st.2.2))
            | none => if 100 < st.2.2.length + 1 then (2, st) else (0, (st.1, st.2.1, st.2.2 ++ [(t, n)]))) := by show _ = _; rw [AD2.out, putL, contains_dec, hq, if_neg (by decide)]; cases infR (t, n) <;> rfl
        have IA := Lib.hid (inf_any t n _ _ w3 ST3.out SN3.out K4.out)
        clear hq AD AD2 CK k1 k2 k3 k4 k5 ST3 SN3 PF
        go_wp2_with fail
        refine IA.out.mono ?_
        rintro e w4 ⟨rfl, hb4⟩
        have B4 : Hid (Below w.heap.size w w4) := B3.out.trans (hb4.mono B3.out.size)
        have S4 := Lib.hid (S3.out.later hb4)
        have OT4 := Lib.hid (own_later OT3.out hb4); have ON4 := Lib.hid (own_later ON3.out hb4)
        have F4 := Lib.hid (F3.out.later hb4)
        have IFT : Hid (∀ p, infR (t, n) = some p → p = (iF (t, n), iT (t, n))) := fun p h => by unfold iF iT; rw [h]; rfl
        have SZ : Hid (w.heap.size ≤ w4.heap.size) := B4.out.size
        clear hb4 IA d0 d1 S3 OT3 ON3 F3 B3 W3
        generalize iF (t, n) = xf at *
        generalize iT (t, n) = xt at *
        have ba : Below w4.heap.size w4 (w4.alloc (.cells #[.string (bs xf), .string (bs xt)] 96)) := (Below.refl _ _).alloc (Nat.le_refl _) _
        have B5 : Hid (Below w.heap.size w (w4.alloc (.cells #[.string (bs xf), .string (bs xt)] 96))) := B4.out.trans (ba.mono B4.out.size)
        have T5 := Lib.hid (blk_new w4 #[.string (bs xf), .string (bs xt)] 96)
        have S5 := Lib.hid (S4.out.later ba)
        have OT5 := Lib.hid (own_later OT4.out ba); have ON5 := Lib.hid (own_later ON4.out ba)
        have F5 := Lib.hid (F4.out.later ba)
        clear ba B4 S4 OT4 ON4 F4
        obtain ⟨d0, d1⟩ := show _ ∧ _ from ⟨S5.out.cell (i := 0) rfl, S5.out.cell (i := 1) rfl⟩
        obtain ⟨t0, t1⟩ := show _ ∧ _ from ⟨T5.out.cell (i := 0) rfl, T5.out.cell (i := 1) rfl⟩
        obtain ⟨fc2, fc3⟩ := show _ ∧ _ from ⟨F5.out.blk.cell (i := 2) rfl, F5.out.blk.cell (i := 3) rfl⟩
        cases hz : (infR (t, n)).isSome
        · have hn0 : infR (t, n) = none := by
            cases h : infR (t, n) with
            | none => rfl
            | some p => rw [h] at hz; cases hz
          rw [hn0] at AD3
          clear hz hn0 IFT t0 t1 T5 fc2
          go_wp2_with fail
          obtain ⟨w5, hw5⟩ : ∃ w5, w5 = w4.alloc (.cells #[.string (bs xf), .string (bs xt)] 96) := ⟨_, rfl⟩
          rw [← hw5] at B5 S5 OT5 ON5 F5 d0 d1 fc3 ⊢
          clear hw5
          have bd : Below w5.heap.size w5 w5.drew := Below.drew (Below.refl _ _)
          have F6 := Lib.hid (F5.out.later bd)
          have B6 : Hid (Below w.heap.size w w5.drew) := B5.out.trans (bd.mono B5.out.size)
          have OT6 := Lib.hid (own_later OT5.out bd); have ON6 := Lib.hid (own_later ON5.out bd)
          have RL : Hid (st.2.2.length ≤ 100) := F5.out.bnd.2.2.2
          obtain ⟨v6, w6, r6, o6, g6⟩ := app_rule (w := w5.drew) (N := w5.heap.size) (x := .slice at' t.length ct) (y := .slice an n.length cn) F6.out.rul.2.1 rfl rfl rfl (by have := RL.out; omega) F6.out.base
          obtain ⟨a6, c6, rfl⟩ := own_len o6
          have ba : Below w5.heap.size w5 (w5.alloc (.cells #[.slice at' t.length ct, .slice an n.length cn] 40)) := (Below.refl _ _).alloc (Nat.le_refl _) _
          have fc4 := cell_later ba fc3
          have bd2 : Below w5.drew.heap.size w5.drew (w5.drew.alloc (.cells #[.slice at' t.length ct, .slice an n.length cn] 40)) := (Below.refl _ _).alloc (Nat.le_refl _) _
          have B7 : Hid (Below w.heap.size w (w5.drew.alloc (.cells #[.slice at' t.length ct, .slice an n.length cn] 40))) := B6.out.trans (bd2.mono B6.out.size)
          have OT7 := Lib.hid (own_later OT6.out bd2); have ON7 := Lib.hid (own_later ON6.out bd2)
          have F7 := Lib.hid (F6.out.later bd2)
          have hk := blk_kept F7.out.blk F7.out.rul.2.1 (by decide) g6
          have k3 := hk.cell (i := 3) rfl
          have k5 := hk.free 3
          have R6 := Lib.hid r6; have O6 := Lib.hid o6; have G6 := Lib.hid g6
          have W8 : Hid (Below B w (w6.setCell ⟨k, 3, none⟩ (.slice a6 (st.2.2.length + 1) c6))) := ((B7.out.mono HB.out).grown G6.out (Nat.le_trans HB.out B7.out.size) (fun j hj => (F7.out.rul.2.1.lt j hj).1)).setCell HH.out.lo _
          clear bd ba bd2 r6 o6 g6 hk
          by_cases h9 : 100 < st.2.2.length + 1
          · have AD4 : Hid (addL z st s = (2, st)) := by show _ = _; rw [AD3.out, if_pos h9]
            clear AD3
            generalize st.2.2.length = lr at *
            go_region_law (refine step_append_run rfl (.tmp 55) (.tmp 57) 25 rfl vr (.slice (some ⟨w5.heap.size, 0, none⟩) 1 1) (by simp [Act.eval]) (by simp [Act.eval]) (.slice a6 (lr + 1) c6) w6 R6.out ?_)
            all_goals go_wp2
            all_goals go_ret
            all_goals exact ⟨by rw [AD4.out]; rfl, W8.out, fun e => by rw [AD4.out] at e; cases e⟩
          · have AD4 : Hid (addL z st s = (0, (st.1, st.2.1, st.2.2 ++ [(t, n)]))) := by show _ = _; rw [AD3.out, if_neg h9]
            have N6 := Lib.hid (HH.out.rules B7.out OT7.out ON7.out AP.out G6.out O6.out (by omega))
            clear AD3
            generalize st.2.2.length = lr at *
            go_region_law (refine step_append_run rfl (.tmp 55) (.tmp 57) 25 rfl vr (.slice (some ⟨w5.heap.size, 0, none⟩) 1 1) (by simp [Act.eval]) (by simp [Act.eval]) (.slice a6 (lr + 1) c6) w6 R6.out ?_)
            all_goals go_wp2
            all_goals go_ret
            all_goals exact ⟨by rw [AD4.out]; rfl, W8.out, fun e => by rw [AD4.out]; exact ⟨_, _, _, _, N6.out⟩⟩
        · obtain ⟨p, hp⟩ := Option.isSome_iff_exists.1 hz
          have := IFT.out p hp
          subst this
          rw [hp] at AD3
          clear hz hp IFT d0 d1 S5 OT5 ON5 fc3
          go_wp2_with fail
          obtain ⟨w5, hw5⟩ : ∃ w5, w5 = w4.alloc (.cells #[.string (bs xf), .string (bs xt)] 96) := ⟨_, rfl⟩
          rw [← hw5] at B5 T5 F5 t0 t1 fc2 ⊢
          clear hw5
          have bd : Below w5.heap.size w5 w5.drew := Below.drew (Below.refl _ _)
          have F6 := Lib.hid (F5.out.later bd)
          have T6 := Lib.hid (T5.out.later bd)
          have B6 : Hid (Below w.heap.size w w5.drew) := B5.out.trans (bd.mono B5.out.size)
          have AI := Lib.hid (appI_any xf xt st.2.1 vi w5.drew F6.out.inf F6.out.base (by have := HI.out; omega))
          have NV : Hid (some w4.heap.size ≠ vi.ownBlock) := fun e => by have h1 := (HH.out.inf.lt _ e.symm).2; have h2 := SZ.out; omega
          have NK : Hid (w4.heap.size ≠ k) := fun e => by have h1 := HH.out.blk.lt; have h2 := SZ.out; omega
          clear bd
          go_region_law (first
            | (go_simp
               go_at_call 95
               refine AI.out.mono ?_
               rintro e w6 ⟨v6, rfl, o6, g6, ow6⟩
               obtain ⟨a6, n6, c6, rfl⟩ := own_shape o6
               have hk := blk_kept F6.out.blk F6.out.inf (by decide) g6
               have ht := T6.out.at (g6.block _ T6.out.lt NV.out)
               have k2 := hk.cell (i := 2) rfl
               have k5 := hk.free 2
               have k3 := ht.cell (i := 0) rfl
               have k4 := ht.cell (i := 1) rfl
               have N6 := Lib.hid (F6.out.pairs o6 g6 (by have := addU_lenI st.2.1 (xf, xt); have := HI.out; omega))
               have G6 := Lib.hid g6
               clear o6 g6 ow6 hk ht))
          all_goals
            have W7 : Hid (Below B w (w6.setCell ⟨k, 2, none⟩ (.slice a6 n6 c6))) := ((B6.out.mono HB.out).grown G6.out (Nat.le_trans HB.out B6.out.size) (fun j hj => (F6.out.inf.lt j hj).1)).setCell HH.out.lo _
            go_wp2
            go_ret
            exact ⟨by rw [AD3.out]; rfl, W7.out, fun _ => by rw [AD3.out]; exact ⟨_, _, _, _, N6.out⟩⟩
      · have AD3 : Hid (addL z st s = phL st (t, n)) := by show _ = _; rw [AD2.out, putL, contains_dec, hq, if_pos rfl]; rfl
        have PH := Lib.hid (phony_any (w := w3) t n _ _ F3.out HP.out ST3.out ON3.out (LB.out _ _ _ ON3.out) K2.out K5.out)
        clear hq AD AD2 CK k1 k2 k3 k4 k5 ST3 SN3 PF
        go_wp2_with fail
        refine PH.out.mono ?_
        rintro e w4 ⟨rfl, hb4, f4⟩
        have W4 : Hid (Below B w w4) := W3.out.trans hb4
        have F4 := Lib.hid f4
        clear hb4 f4 PH d0 d1
        go_wp2
        go_ret
        refine ⟨by rw [AD3.out]; rfl, W4.out, fun e => ?_⟩
        rw [AD3.out] at e ⊢
        obtain ⟨v, hv⟩ := F4.out e
        exact ⟨v, _, _, _, hv⟩
    · have AE : Hid (addL z st s = (E2, st)) := by show _ = _; rw [AD.out, if_pos hE2]
      have z1 : (E2 != 0) = true := by rw [bne_iff_ne]; exact hE2
      have HE := Lib.hid hE2
      clear AD hE2 hw3 PF F3 OT3 ON3
      go_wp2
      go_ret
      exact ⟨by rw [AE.out]; rfl, W3.out, fun e => by rw [AE.out] at e; exact absurd e HE.out⟩
  · have AE : Hid (addL z st s = (E, st)) := by show _ = _; unfold addL; rw [XE.out, if_pos hE]
    have z1 : (E != 0) = true := by rw [bne_iff_ne]; exact hE
    have HE := Lib.hid hE
    clear hE
    go_wp2
    go_ret
    exact ⟨by rw [AE.out]; rfl, W1.out, fun e => by rw [AE.out] at e; exact absurd e HE.out⟩
end Go.Proofs.YtebjofffijnihaaGreatDoor
