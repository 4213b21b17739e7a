/-
  The law GraphOwn, walked. Condition: the table of math/bits lies in memory as its text lays it (the card ties this).
-/
import Derived.Test.YtpjcdfphllbonaaDoorGOw
import Derived.Deep.CutBlock
namespace Go.Proofs.YtpjcdfphllbonaaDoor
set_option maxRecDepth 100000
set_option linter.unusedVariables false
open Go.ChangeShapes Go.WideShapes Go.ChangeAt Go.RowKit

theorem size_st (w : World) (a : Addr) (u : Value) : (w.setCell a u).heap.size = w.heap.size := by simp [World.setCell]
theorem size_al (w : World) (o : Obj) : (w.alloc o).heap.size = w.heap.size + 1 := by simp
theorem size_drew (w : World) : w.drew.heap.size = w.heap.size := rfl
theorem blk_top {w : World} {k : Nat} {xs : Array Value} {t : TypeId} (h : k = w.heap.size) : Blk k xs t (w.alloc (.cells xs t)) := h ▸ blk_new w xs t
theorem blk_drew {w : World} {k : Nat} {xs : Array Value} {t : TypeId} (h : Blk k xs t w) : Blk k xs t w.drew := h
theorem blk_set1 {w : World} {k : Nat} {u : Value} {t : TypeId} (h : Blk k #[.slice none 0 0] t w) : Blk k #[u] t (w.setCell ⟨k, 0, none⟩ u) := Blk.set h 0 u
theorem blk_oth {w : World} {k p : Nat} {xs : Array Value} {u : Value} {t : TypeId} (hne : k ≠ p) (h : Blk k xs t w) : Blk k xs t (w.setCell ⟨p, 0, none⟩ u) := Blk.other h hne u
theorem bel_al {B : Nat} {a w : World} {o : Obj} (h : Below B a w) (hB : B ≤ a.heap.size) : Below B a (w.alloc o) := h.alloc (Nat.le_trans hB h.size) o
theorem bel_tr {a b c : World} (h : Below a.heap.size a b) (k : Below b.heap.size b c) : Below a.heap.size a c := h.trans (k.mono h.size)
theorem bel_st {B p : Nat} {a w : World} {u : Value} (hp : B ≤ p) (h : Below B a w) : Below B a (w.setCell ⟨p, 0, none⟩ u) := h.setCell hp u
theorem sin_al {w : World} {v : Value} {z : List Str} {o : Obj} (h : SIn w v z) : SIn (w.alloc o) v z := h.later (below_al w o)
theorem ein_al {w : World} {v : Value} {z : List Ed} {o : Obj} (h : EIn w v z) : EIn (w.alloc o) v z := h.later (below_al w o)
theorem sin_st {w : World} {p : Nat} {u0 u : Value} {t : TypeId} {v : Value} {z : List Str} (hb : Blk p #[u0] t w) (hu : ∀ s, u0 ≠ .string s) (h : SIn w v z) : SIn (w.setCell ⟨p, 0, none⟩ u) v z := by
  obtain ⟨a, cap, rfl, h1, h2, h3, h4⟩ := h
  refine ⟨a, cap, rfl, h1, h2, h3, ?_⟩
  rcases h4 with h4 | ⟨b, off, rfl, hlt, hc⟩
  · exact .inl h4
  refine .inr ⟨b, off, rfl, by rw [size_st]; exact hlt, fun k hk => ?_⟩
  have hck := hc k hk
  by_cases hne : b = p
  · subst hne
    exfalso
    rcases Nat.eq_zero_or_pos (off + k) with h0 | h0
    · rw [h0, hb.cell (i := 0) rfl] at hck
      exact hu _ (Option.some.inj hck)
    · unfold Blk at hb
      unfold World.cell? at hck
      rw [show off + k = (off + k - 1) + 1 from by omega] at hck
      simp [hb] at hck
  · have e : (w.setCell ⟨p, 0, none⟩ u).heap[b]? = w.heap[b]? := Below.heap_setCell _ _ _ _ hne
    unfold World.cell? at hck ⊢
    simp only [e]
    exact hck
theorem ein_st {w : World} {p : Nat} {u0 u : Value} {t : TypeId} {v : Value} {z : List Ed} (hb : Blk p #[u0] t w) (hu : ∀ n, u0 ≠ .int .i64 n) (h : EIn w v z) : EIn (w.setCell ⟨p, 0, none⟩ u) v z := by
  obtain ⟨a, cap, rfl, h1, h2, h3, h4⟩ := h
  refine ⟨a, cap, rfl, h1, h2, h3, ?_⟩
  rcases h4 with h4 | ⟨b, off, rfl, hlt, hc⟩
  · exact .inl h4
  refine .inr ⟨b, off, rfl, by rw [size_st]; exact hlt, fun k x hk => ?_⟩
  have hck := (hc k x hk).2
  have hne : b ≠ p := by
    rintro rfl
    unfold Blk at hb
    unfold World.cell? at hck
    simp [hb] at hck
  have e : (w.setCell ⟨p, 0, none⟩ u).heap[b]? = w.heap[b]? := Below.heap_setCell _ _ _ _ hne
  have := hc k x hk
  unfold World.cell? at this ⊢
  simp only [e]
  exact this

theorem sin_stN {w : World} {p : Nat} {u v : Value} {z : List Str} (hb : Blk p #[.slice none 0 0] 22 w) (h : SIn w v z) : SIn (w.setCell ⟨p, 0, none⟩ u) v z := sin_st hb (fun _ e => by cases e) h
theorem sin_stE {w : World} {p : Nat} {u v : Value} {z : List Str} (hb : Blk p #[.slice none 0 0] 23 w) (h : SIn w v z) : SIn (w.setCell ⟨p, 0, none⟩ u) v z := sin_st hb (fun _ e => by cases e) h
theorem ein_stN {w : World} {p : Nat} {u v : Value} {z : List Ed} (hb : Blk p #[.slice none 0 0] 22 w) (h : EIn w v z) : EIn (w.setCell ⟨p, 0, none⟩ u) v z := ein_st hb (fun _ e => by cases e) h
theorem ein_stE {w : World} {p : Nat} {u v : Value} {z : List Ed} (hb : Blk p #[.slice none 0 0] 23 w) (h : EIn w v z) : EIn (w.setCell ⟨p, 0, none⟩ u) v z := ein_st hb (fun _ e => by cases e) h
theorem own_sl {w : World} {B n sz : Nat} {e : TypeId} {v : Value} {xs : List Value} (h : w.ownsRow B e sz v n xs) : ∃ a m c, v = .slice a m c :=
  h.2.elim (fun k => ⟨none, 0, 0, k.1⟩) (fun ⟨_, cap, _, k, _⟩ => ⟨_, _, cap, k⟩)

/-- what holds at the head of the round k over the two graphs told (a, then b; a's blocks lie below Bb, b's from it on) -/
structure LI (B0 : World) (Lb : Nat) (na ea nb eb : Value) (P1 Q1 P2 Q2 : Int) (za zb : List Str) (ya yb : List Ed) (Ba Bb k : Nat) (W : World) : Prop where
  bel : Below B0.heap.size B0 W
  blk : Blk Lb #[na, ea, .int .u64 P1, .int .u64 Q1, nb, eb, .int .u64 P2, .int .u64 Q2] 26 W
  hA : B0.heap.size ≤ Ba
  hB : B0.heap.size ≤ Bb
  lo : ∀ q, na.ownBlock = some q ∨ ea.ownBlock = some q → q < Bb
  a : k = 0 → SO Ba na za W ∧ Tl na W ∧ EO Ba ea ya W ∧ TlE ea W
  b : k ≤ 1 → SO Bb nb zb W ∧ Tl nb W ∧ EO Bb eb yb W ∧ TlE eb W
theorem own_ne_blk {W : World} {B Lb sz n : Nat} {e t : TypeId} {v : Value} {xs : List Value} {cs : Array Value} (o : W.ownsRow B e sz v n xs) (hb : Blk Lb cs t W) (hne : e ≠ t) {q : Nat} (hq : v.ownBlock = some q) : q ≠ Lb := by
  rintro rfl
  rcases o.2 with ⟨rfl, _⟩ | ⟨g, cap, cur, rfl, _, hg, _⟩
  · cases hq
  · cases hq
    unfold Blk at hb
    rw [hg] at hb
    cases hb
    exact hne rfl
theorem LI.next {B0 : World} {Lb : Nat} {na ea nb eb : Value} {P1 Q1 P2 Q2 : Int} {za zb : List Str} {ya yb : List Ed} {Ba Bb k : Nat} {W : World} (h : LI B0 Lb na ea nb eb P1 Q1 P2 Q2 za zb ya yb Ba Bb k W) : LI B0 Lb na ea nb eb P1 Q1 P2 Q2 za zb ya yb Ba Bb (k + 1) W :=
  ⟨h.bel, h.blk, h.hA, h.hB, h.lo, fun h' => by omega, fun h' => h.b (by omega)⟩
theorem LI.alloc {B0 : World} {Lb : Nat} {na ea nb eb : Value} {P1 Q1 P2 Q2 : Int} {za zb : List Str} {ya yb : List Ed} {Ba Bb k : Nat} {W : World} (h : LI B0 Lb na ea nb eb P1 Q1 P2 Q2 za zb ya yb Ba Bb k W) (o : Obj) : LI B0 Lb na ea nb eb P1 Q1 P2 Q2 za zb ya yb Ba Bb k (W.alloc o) :=
  ⟨bel_al h.bel (Nat.le_refl _), h.blk.alloc o, h.hA, h.hB, h.lo, fun h' => by obtain ⟨h1, h2, h3, h4⟩ := h.a h'; exact ⟨World.ownsRow.alloc h1 o, h2.alloc o, World.ownsRow.alloc h3 o, h4.alloc o⟩,
    fun h' => by obtain ⟨h1, h2, h3, h4⟩ := h.b h'; exact ⟨World.ownsRow.alloc h1 o, h2.alloc o, World.ownsRow.alloc h3 o, h4.alloc o⟩⟩
theorem LI.grown {B0 : World} {Lb : Nat} {na ea nb eb : Value} {P1 Q1 P2 Q2 : Int} {za zb : List Str} {ya yb : List Ed} {Ba Bb k : Nat} {W W' : World} {r : Option Nat} (h : LI B0 Lb na ea nb eb P1 Q1 P2 Q2 za zb ya yb Ba Bb (k + 1) W) (hg : W.grownBy W' r)
    (hr : ∀ q, r = some q → B0.heap.size ≤ q ∧ q ≠ Lb ∧ (k = 0 → q < Bb)) : LI B0 Lb na ea nb eb P1 Q1 P2 Q2 za zb ya yb Ba Bb (k + 1) W' := by
  refine ⟨h.bel.grown hg h.bel.size (fun q hq => (hr q hq).1), h.blk.at (hg.block _ h.blk.lt (fun e => (hr _ e.symm).2.1 rfl)), h.hA, h.hB, h.lo, fun h' => by omega, fun h' => ?_⟩
  obtain ⟨h1, h2, h3, h4⟩ := h.b h'
  have n1 : nb.ownBlock = none ∨ nb.ownBlock ≠ r := by
    cases e : nb.ownBlock with
    | none => exact .inl rfl
    | some q => exact .inr (fun e' => by have := World.ownsRow.lt h1 q e; have := (hr q e'.symm).2.2 (by omega); omega)
  have n2 : eb.ownBlock = none ∨ eb.ownBlock ≠ r := by
    cases e : eb.ownBlock with
    | none => exact .inl rfl
    | some q => exact .inr (fun e' => by have := World.ownsRow.lt h3 q e; have := (hr q e'.symm).2.2 (by omega); omega)
  exact ⟨World.ownsRow.kept h1 hg n1, h2.kept hg n1, World.ownsRow.kept h3 hg n2, h4.kept hg n2⟩
theorem LI.cur {B0 : World} {Lb : Nat} {na ea nb eb : Value} {P1 Q1 P2 Q2 : Int} {za zb : List Str} {ya yb : List Ed} {Ba Bb k : Nat} {W : World} (h : LI B0 Lb na ea nb eb P1 Q1 P2 Q2 za zb ya yb Ba Bb k W) (hk : k < 2) :
    ∃ x m y x' m' y' P Q B z yl, (W.cell? ⟨Lb, k * 4, none⟩ = some (.slice x m y) ∧ W.cell? ⟨Lb, k * 4 + 1, none⟩ = some (.slice x' m' y') ∧ W.cell? ⟨Lb, k * 4 + 2, none⟩ = some (.int .u64 P) ∧ W.cell? ⟨Lb, k * 4 + 3, none⟩ = some (.int .u64 Q)) ∧
      SO B (.slice x m y) z W ∧ Tl (.slice x m y) W ∧ EO B (.slice x' m' y') yl W ∧ TlE (.slice x' m' y') W ∧
      (∀ q, (Value.slice x m y).ownBlock = some q ∨ (Value.slice x' m' y').ownBlock = some q → B0.heap.size ≤ q ∧ q ≠ Lb ∧ (k = 0 → q < Bb)) := by
  have hL := h.blk
  have hA := h.hA
  have hB := h.hB
  have hlo := h.lo
  obtain rfl | rfl : k = 0 ∨ k = 1 := by omega
  · obtain ⟨h1, h2, h3, h4⟩ := h.a rfl
    clear h
    obtain ⟨x, m, y, rfl⟩ := own_sl h1
    obtain ⟨x', m', y', rfl⟩ := own_sl h3
    refine ⟨x, m, y, x', m', y', P1, Q1, Ba, za, ya, ⟨hL.cell rfl, hL.cell rfl, hL.cell rfl, hL.cell rfl⟩, h1, h2, h3, h4, fun q hq => ⟨?_, ?_, fun _ => hlo q hq⟩⟩
    · rcases hq with hq | hq
      · have := World.ownsRow.lt h1 q hq; omega
      · have := World.ownsRow.lt h3 q hq; omega
    · rcases hq with hq | hq
      · exact own_ne_blk h1 hL (by decide) hq
      · exact own_ne_blk h3 hL (by decide) hq
  · obtain ⟨h1, h2, h3, h4⟩ := h.b (Nat.le_refl _)
    clear h
    obtain ⟨x, m, y, rfl⟩ := own_sl h1
    obtain ⟨x', m', y', rfl⟩ := own_sl h3
    refine ⟨x, m, y, x', m', y', P2, Q2, Bb, zb, yb, ⟨hL.cell rfl, hL.cell rfl, hL.cell rfl, hL.cell rfl⟩, h1, h2, h3, h4, fun q hq => ⟨?_, ?_, fun h' => by omega⟩⟩
    · rcases hq with hq | hq
      · have := World.ownsRow.lt h1 q hq; omega
      · have := World.ownsRow.lt h3 q hq; omega
    · rcases hq with hq | hq
      · exact own_ne_blk h1 hL (by decide) hq
      · exact own_ne_blk h3 hL (by decide) hq

set_option maxHeartbeats 16000000 in
set_option maxRecDepth 100000 in
theorem graphOwn_any {w : World} {v : Value} {g : Gr} (s : Bv) (h : GIn w v g) (ht : Tab w) :
    Calls Tryd.prog 6 #[v, .int .u64 (s.toNat : Int)] w fun e w' => e = .returned (.bool true) ∧ Below w.heap.size w w' := by
  have TG := Lib.hid (fun W (hW : Below w.heap.size w W) => turn_go (h.later hW) (ht.below hW ht.1))
  have PG := Lib.hid (fun W (hW : Below w.heap.size w W) => part_go s (h.later hW) (ht.below hW ht.1))
  obtain ⟨nv, ev, rfl, h1, h2⟩ := h
  have CN : Hid (∀ W, Below w.heap.size w W → Calls Tryd.prog 27 #[nv] W fun e w' => ∃ x c, e = .returned (.slice x g.ns.length c) ∧ SIn w' (.slice x g.ns.length c) g.ns ∧ Below W.heap.size W w') := fun W hW => (clone_of (h1.later hW)).mono fun e w' => by
    rintro ⟨v', rfl, o, b⟩
    obtain ⟨a, c, rfl⟩ : ∃ a c, v' = .slice a g.ns.length c := o.2.elim (fun k => ⟨none, 0, by rw [k.1, k.2]⟩) (fun ⟨_, cap, _, k, _⟩ => ⟨_, cap, k⟩)
    obtain ⟨_, _, _, _, q1, q2, _⟩ := h1
    exact ⟨a, c, rfl, SIn.own o q1 q2, b⟩
  have CE : Hid (∀ W, Below w.heap.size w W → Calls Tryd.prog 28 #[ev] W fun e w' => ∃ x c, e = .returned (.slice x g.es.length c) ∧ EIn w' (.slice x g.es.length c) g.es ∧ Below W.heap.size W w') := fun W hW => (cloneE_any g.es ev W (h2.later hW)).mono fun e w' => by
    rintro ⟨v', rfl, o, b⟩
    have k := EIn.own o h2.bound
    obtain ⟨a, c, rfl⟩ := k.shape2
    exact ⟨a, c, rfl, k, b⟩
  have N1 : Hid (∀ W, Below w.heap.size w W → SIn W nv g.ns) := fun W hW => h1.later hW
  have E1 : Hid (∀ W, Below w.heap.size w W → EIn W ev g.es) := fun W hW => h2.later hW
  have WA := Lib.hid (below_al w (.cells #[nv, ev, .int .u64 (g.ph.toNat : Int), .int .u64 (g.md.toNat : Int)] 26))
  have K0 : Hid (GBlk w.heap.size nv ev g (w.alloc (.cells #[nv, ev, .int .u64 (g.ph.toNat : Int), .int .u64 (g.md.toNat : Int)] 26))) := blk_new _ _ _
  obtain ⟨a1, c1, rfl⟩ := h1.shape2
  obtain ⟨a2, c2, rfl⟩ := h2.shape2
  clear h1 h2 ht
  generalize g.ns.length = L at *
  generalize g.es.length = M at *
  go_enter Tryd.func6, Tryd.ntmps6
  go_wp2_with fail
  refine (graphs_true _).mono ?_
  rintro e w1 ⟨rfl, b1⟩
  have B1 := Lib.hid (WA.out.trans (b1.mono WA.out.size))
  have K1 := Lib.hid (K0.out.later b1)
  have KF : Hid (∀ W, Below w1.heap.size w1 W → W.cell? ⟨w.heap.size, 0, none⟩ = some (.slice a1 L c1) ∧ W.cell? ⟨w.heap.size, 1, none⟩ = some (.slice a2 M c2)) := fun W hW => ⟨(K1.out.later hW).get.1, (K1.out.later hW).get.2.1⟩
  have BW : Hid (∀ W, Below w1.heap.size w1 W → Below w.heap.size w W) := fun W hW => B1.out.trans (hW.mono B1.out.size)
  have BD : Hid (Below w1.heap.size w1 w1) := Below.refl _ _
  clear b1
  go_upto_region 3 with (fail)
  go_cut [5, 6] from 19 to 25 (fun s5 s6 wx => ∃ (p q : Nat) (x5 x6 : Option Addr) (y5 y6 : Nat), s5 = .pointer (some ⟨p, 0, none⟩) ∧ s6 = .pointer (some ⟨q, 0, none⟩) ∧ Hid (Blk p #[.slice x5 L y5] 22 wx) ∧ Hid (Blk q #[.slice x6 M y6] 23 wx) ∧ Hid (SIn wx (.slice x5 L y5) g.ns) ∧ Hid (EIn wx (.slice x6 M y6) g.es) ∧ Hid (Below w1.heap.size w1 wx))
  case first =>
    go_region_held3 (fun w' => w'.cell? ⟨w.heap.size, 0, none⟩ = some (.slice a1 L c1) ∧ w'.cell? ⟨w.heap.size, 1, none⟩ = some (.slice a2 M c2)) (first | exact KF.out _ BD.out | exact KF.out _ (Below.refl _ _) | exact KF.out _ (by (repeat first | (with_reducible exact BD.out) | (with_reducible (refine bel_al ?_ (Nat.le_refl _))) | (with_reducible (refine bel_st ?_ ?_)) | (with_reducible (refine Below.drew ?_)) | omega); first | done | fail) | assumption | go_keep) (first
      | (go_at_call 27
         refine (CN.out _ (BW.out _ (by (repeat first | (with_reducible exact BD.out) | (with_reducible (refine bel_al ?_ (Nat.le_refl _))) | (with_reducible (refine bel_st ?_ ?_)) | (with_reducible (refine Below.drew ?_)) | omega); first | done | fail))).mono ?_
         rintro e w4 ⟨x4, y4, rfl, n4, b4⟩
         first
         | (have P4 : Blk w1.heap.size #[.slice none 0 0] 22 w4 := Blk.later (by (repeat first | with_reducible assumption | (with_reducible (refine blk_top ?_); (repeat first | rw [size_al] | rw [size_st] | rw [size_drew]); first | done | with_reducible rfl) | (with_reducible (refine Blk.alloc ?_ _)) | (with_reducible (refine blk_drew ?_)) | (with_reducible (refine blk_set1 ?_)) | (with_reducible (refine blk_oth ?_ ?_)) | omega); first | done | fail) b4; have lP4 := P4.lt; have zP4 := Blk.cell P4 (i := 0) rfl; have fP4 := Blk.free P4 0)
         | (have P4 : Blk (w1.heap.size + 1) #[.slice none 0 0] 22 w4 := Blk.later (by (repeat first | with_reducible assumption | (with_reducible (refine blk_top ?_); (repeat first | rw [size_al] | rw [size_st] | rw [size_drew]); first | done | with_reducible rfl) | (with_reducible (refine Blk.alloc ?_ _)) | (with_reducible (refine blk_drew ?_)) | (with_reducible (refine blk_set1 ?_)) | (with_reducible (refine blk_oth ?_ ?_)) | omega); first | done | fail) b4; have lP4 := P4.lt; have zP4 := Blk.cell P4 (i := 0) rfl; have fP4 := Blk.free P4 0)
         | skip
         first
         | (have Q4 : Blk w1.heap.size #[.slice none 0 0] 23 w4 := Blk.later (by (repeat first | with_reducible assumption | (with_reducible (refine blk_top ?_); (repeat first | rw [size_al] | rw [size_st] | rw [size_drew]); first | done | with_reducible rfl) | (with_reducible (refine Blk.alloc ?_ _)) | (with_reducible (refine blk_drew ?_)) | (with_reducible (refine blk_set1 ?_)) | (with_reducible (refine blk_oth ?_ ?_)) | omega); first | done | fail) b4; have lQ4 := Q4.lt; have zQ4 := Blk.cell Q4 (i := 0) rfl; have fQ4 := Blk.free Q4 0)
         | (have Q4 : Blk (w1.heap.size + 1) #[.slice none 0 0] 23 w4 := Blk.later (by (repeat first | with_reducible assumption | (with_reducible (refine blk_top ?_); (repeat first | rw [size_al] | rw [size_st] | rw [size_drew]); first | done | with_reducible rfl) | (with_reducible (refine Blk.alloc ?_ _)) | (with_reducible (refine blk_drew ?_)) | (with_reducible (refine blk_set1 ?_)) | (with_reducible (refine blk_oth ?_ ?_)) | omega); first | done | fail) b4; have lQ4 := Q4.lt; have zQ4 := Blk.cell Q4 (i := 0) rfl; have fQ4 := Blk.free Q4 0)
         | skip
         have BD : Hid (Below w1.heap.size w1 w4) := Lib.hid (bel_tr (by (repeat first | (with_reducible exact BD.out) | (with_reducible (refine bel_al ?_ (Nat.le_refl _))) | (with_reducible (refine bel_st ?_ ?_)) | (with_reducible (refine Below.drew ?_)) | omega); first | done | fail) b4)
         have s4 := BD.out.size
         clear b4)
      | (go_at_call 28
         refine (CE.out _ (BW.out _ (by (repeat first | (with_reducible exact BD.out) | (with_reducible (refine bel_al ?_ (Nat.le_refl _))) | (with_reducible (refine bel_st ?_ ?_)) | (with_reducible (refine Below.drew ?_)) | omega); first | done | fail))).mono ?_
         rintro e w5 ⟨x5, y5, rfl, n5, b5⟩
         have n6 : SIn w5 (.slice x4 L y4) g.ns := SIn.later (by (repeat first | with_reducible assumption | (with_reducible (refine sin_al ?_)) | (with_reducible (refine sin_stN ?_ ?_); focus ((repeat first | with_reducible assumption | (with_reducible (refine blk_top ?_); (repeat first | rw [size_al] | rw [size_st] | rw [size_drew]); first | done | with_reducible rfl) | (with_reducible (refine Blk.alloc ?_ _)) | (with_reducible (refine blk_drew ?_)) | (with_reducible (refine blk_set1 ?_)) | (with_reducible (refine blk_oth ?_ ?_)) | omega); first | done | fail)) | (with_reducible (refine sin_stE ?_ ?_); focus ((repeat first | with_reducible assumption | (with_reducible (refine blk_top ?_); (repeat first | rw [size_al] | rw [size_st] | rw [size_drew]); first | done | with_reducible rfl) | (with_reducible (refine Blk.alloc ?_ _)) | (with_reducible (refine blk_drew ?_)) | (with_reducible (refine blk_set1 ?_)) | (with_reducible (refine blk_oth ?_ ?_)) | omega); first | done | fail))); first | done | fail) b5
         first
         | (have P5 : Blk w1.heap.size #[.slice x4 L y4] 22 w5 := Blk.later (by (repeat first | with_reducible assumption | (with_reducible (refine blk_top ?_); (repeat first | rw [size_al] | rw [size_st] | rw [size_drew]); first | done | with_reducible rfl) | (with_reducible (refine Blk.alloc ?_ _)) | (with_reducible (refine blk_drew ?_)) | (with_reducible (refine blk_set1 ?_)) | (with_reducible (refine blk_oth ?_ ?_)) | omega); first | done | fail) b5; have lP5 := P5.lt; have zP5 := Blk.cell P5 (i := 0) rfl; have fP5 := Blk.free P5 0)
         | (have P5 : Blk w1.heap.size #[.slice none 0 0] 22 w5 := Blk.later (by (repeat first | with_reducible assumption | (with_reducible (refine blk_top ?_); (repeat first | rw [size_al] | rw [size_st] | rw [size_drew]); first | done | with_reducible rfl) | (with_reducible (refine Blk.alloc ?_ _)) | (with_reducible (refine blk_drew ?_)) | (with_reducible (refine blk_set1 ?_)) | (with_reducible (refine blk_oth ?_ ?_)) | omega); first | done | fail) b5; have lP5 := P5.lt; have zP5 := Blk.cell P5 (i := 0) rfl; have fP5 := Blk.free P5 0)
         | (have P5 : Blk (w1.heap.size + 1) #[.slice x4 L y4] 22 w5 := Blk.later (by (repeat first | with_reducible assumption | (with_reducible (refine blk_top ?_); (repeat first | rw [size_al] | rw [size_st] | rw [size_drew]); first | done | with_reducible rfl) | (with_reducible (refine Blk.alloc ?_ _)) | (with_reducible (refine blk_drew ?_)) | (with_reducible (refine blk_set1 ?_)) | (with_reducible (refine blk_oth ?_ ?_)) | omega); first | done | fail) b5; have lP5 := P5.lt; have zP5 := Blk.cell P5 (i := 0) rfl; have fP5 := Blk.free P5 0)
         | (have P5 : Blk (w1.heap.size + 1) #[.slice none 0 0] 22 w5 := Blk.later (by (repeat first | with_reducible assumption | (with_reducible (refine blk_top ?_); (repeat first | rw [size_al] | rw [size_st] | rw [size_drew]); first | done | with_reducible rfl) | (with_reducible (refine Blk.alloc ?_ _)) | (with_reducible (refine blk_drew ?_)) | (with_reducible (refine blk_set1 ?_)) | (with_reducible (refine blk_oth ?_ ?_)) | omega); first | done | fail) b5; have lP5 := P5.lt; have zP5 := Blk.cell P5 (i := 0) rfl; have fP5 := Blk.free P5 0)
         | (have P5 : Blk w4.heap.size #[.slice x4 L y4] 22 w5 := Blk.later (by (repeat first | with_reducible assumption | (with_reducible (refine blk_top ?_); (repeat first | rw [size_al] | rw [size_st] | rw [size_drew]); first | done | with_reducible rfl) | (with_reducible (refine Blk.alloc ?_ _)) | (with_reducible (refine blk_drew ?_)) | (with_reducible (refine blk_set1 ?_)) | (with_reducible (refine blk_oth ?_ ?_)) | omega); first | done | fail) b5; have lP5 := P5.lt; have zP5 := Blk.cell P5 (i := 0) rfl; have fP5 := Blk.free P5 0)
         | (have P5 : Blk w4.heap.size #[.slice none 0 0] 22 w5 := Blk.later (by (repeat first | with_reducible assumption | (with_reducible (refine blk_top ?_); (repeat first | rw [size_al] | rw [size_st] | rw [size_drew]); first | done | with_reducible rfl) | (with_reducible (refine Blk.alloc ?_ _)) | (with_reducible (refine blk_drew ?_)) | (with_reducible (refine blk_set1 ?_)) | (with_reducible (refine blk_oth ?_ ?_)) | omega); first | done | fail) b5; have lP5 := P5.lt; have zP5 := Blk.cell P5 (i := 0) rfl; have fP5 := Blk.free P5 0)
         | (have P5 : Blk (w4.heap.size + 1) #[.slice x4 L y4] 22 w5 := Blk.later (by (repeat first | with_reducible assumption | (with_reducible (refine blk_top ?_); (repeat first | rw [size_al] | rw [size_st] | rw [size_drew]); first | done | with_reducible rfl) | (with_reducible (refine Blk.alloc ?_ _)) | (with_reducible (refine blk_drew ?_)) | (with_reducible (refine blk_set1 ?_)) | (with_reducible (refine blk_oth ?_ ?_)) | omega); first | done | fail) b5; have lP5 := P5.lt; have zP5 := Blk.cell P5 (i := 0) rfl; have fP5 := Blk.free P5 0)
         | (have P5 : Blk (w4.heap.size + 1) #[.slice none 0 0] 22 w5 := Blk.later (by (repeat first | with_reducible assumption | (with_reducible (refine blk_top ?_); (repeat first | rw [size_al] | rw [size_st] | rw [size_drew]); first | done | with_reducible rfl) | (with_reducible (refine Blk.alloc ?_ _)) | (with_reducible (refine blk_drew ?_)) | (with_reducible (refine blk_set1 ?_)) | (with_reducible (refine blk_oth ?_ ?_)) | omega); first | done | fail) b5; have lP5 := P5.lt; have zP5 := Blk.cell P5 (i := 0) rfl; have fP5 := Blk.free P5 0)
         | skip
         first
         | (have Q5 : Blk w1.heap.size #[.slice none 0 0] 23 w5 := Blk.later (by (repeat first | with_reducible assumption | (with_reducible (refine blk_top ?_); (repeat first | rw [size_al] | rw [size_st] | rw [size_drew]); first | done | with_reducible rfl) | (with_reducible (refine Blk.alloc ?_ _)) | (with_reducible (refine blk_drew ?_)) | (with_reducible (refine blk_set1 ?_)) | (with_reducible (refine blk_oth ?_ ?_)) | omega); first | done | fail) b5; have lQ5 := Q5.lt; have zQ5 := Blk.cell Q5 (i := 0) rfl; have fQ5 := Blk.free Q5 0)
         | (have Q5 : Blk (w1.heap.size + 1) #[.slice none 0 0] 23 w5 := Blk.later (by (repeat first | with_reducible assumption | (with_reducible (refine blk_top ?_); (repeat first | rw [size_al] | rw [size_st] | rw [size_drew]); first | done | with_reducible rfl) | (with_reducible (refine Blk.alloc ?_ _)) | (with_reducible (refine blk_drew ?_)) | (with_reducible (refine blk_set1 ?_)) | (with_reducible (refine blk_oth ?_ ?_)) | omega); first | done | fail) b5; have lQ5 := Q5.lt; have zQ5 := Blk.cell Q5 (i := 0) rfl; have fQ5 := Blk.free Q5 0)
         | (have Q5 : Blk w4.heap.size #[.slice none 0 0] 23 w5 := Blk.later (by (repeat first | with_reducible assumption | (with_reducible (refine blk_top ?_); (repeat first | rw [size_al] | rw [size_st] | rw [size_drew]); first | done | with_reducible rfl) | (with_reducible (refine Blk.alloc ?_ _)) | (with_reducible (refine blk_drew ?_)) | (with_reducible (refine blk_set1 ?_)) | (with_reducible (refine blk_oth ?_ ?_)) | omega); first | done | fail) b5; have lQ5 := Q5.lt; have zQ5 := Blk.cell Q5 (i := 0) rfl; have fQ5 := Blk.free Q5 0)
         | (have Q5 : Blk (w4.heap.size + 1) #[.slice none 0 0] 23 w5 := Blk.later (by (repeat first | with_reducible assumption | (with_reducible (refine blk_top ?_); (repeat first | rw [size_al] | rw [size_st] | rw [size_drew]); first | done | with_reducible rfl) | (with_reducible (refine Blk.alloc ?_ _)) | (with_reducible (refine blk_drew ?_)) | (with_reducible (refine blk_set1 ?_)) | (with_reducible (refine blk_oth ?_ ?_)) | omega); first | done | fail) b5; have lQ5 := Q5.lt; have zQ5 := Blk.cell Q5 (i := 0) rfl; have fQ5 := Blk.free Q5 0)
         | skip
         have BD : Hid (Below w1.heap.size w1 w5) := Lib.hid (bel_tr (by (repeat first | (with_reducible exact BD.out) | (with_reducible (refine bel_al ?_ (Nat.le_refl _))) | (with_reducible (refine bel_st ?_ ?_)) | (with_reducible (refine Below.drew ?_)) | omega); first | done | fail) b5)
         have s5 := BD.out.size
         clear b5))
    all_goals
      go_wp2_with fail
      go_meet
      case rel =>
        refine ⟨_, _, x4, x5, y4, y5, rfl, rfl, Lib.hid ?_, Lib.hid ?_, Lib.hid ?_, Lib.hid ?_, Lib.hid ?_⟩
        all_goals (repeat first | with_reducible assumption | (with_reducible exact BD.out) | (with_reducible (refine blk_top ?_); (repeat first | rw [size_al] | rw [size_st] | rw [size_drew]); first | done | with_reducible rfl) | (with_reducible (refine Blk.alloc ?_ _)) | (with_reducible (refine blk_set1 ?_)) | (with_reducible (refine blk_oth ?_ ?_)) | (with_reducible (refine sin_al ?_)) | (with_reducible (refine ein_al ?_)) | (with_reducible (refine sin_stN ?_ ?_); focus ((repeat first | with_reducible assumption | (with_reducible (refine blk_top ?_); (repeat first | rw [size_al] | rw [size_st] | rw [size_drew]); first | done | with_reducible rfl) | (with_reducible (refine Blk.alloc ?_ _)) | (with_reducible (refine blk_drew ?_)) | (with_reducible (refine blk_set1 ?_)) | (with_reducible (refine blk_oth ?_ ?_)) | omega); first | done | fail)) | (with_reducible (refine sin_stE ?_ ?_); focus ((repeat first | with_reducible assumption | (with_reducible (refine blk_top ?_); (repeat first | rw [size_al] | rw [size_st] | rw [size_drew]); first | done | with_reducible rfl) | (with_reducible (refine Blk.alloc ?_ _)) | (with_reducible (refine blk_drew ?_)) | (with_reducible (refine blk_set1 ?_)) | (with_reducible (refine blk_oth ?_ ?_)) | omega); first | done | fail)) | (with_reducible (refine ein_stN ?_ ?_); focus ((repeat first | with_reducible assumption | (with_reducible (refine blk_top ?_); (repeat first | rw [size_al] | rw [size_st] | rw [size_drew]); first | done | with_reducible rfl) | (with_reducible (refine Blk.alloc ?_ _)) | (with_reducible (refine blk_drew ?_)) | (with_reducible (refine blk_set1 ?_)) | (with_reducible (refine blk_oth ?_ ?_)) | omega); first | done | fail)) | (with_reducible (refine ein_stE ?_ ?_); focus ((repeat first | with_reducible assumption | (with_reducible (refine blk_top ?_); (repeat first | rw [size_al] | rw [size_st] | rw [size_drew]); first | done | with_reducible rfl) | (with_reducible (refine Blk.alloc ?_ _)) | (with_reducible (refine blk_drew ?_)) | (with_reducible (refine blk_set1 ?_)) | (with_reducible (refine blk_oth ?_ ?_)) | omega); first | done | fail)) | (with_reducible (refine bel_al ?_ (Nat.le_refl _))) | (with_reducible (refine bel_st ?_ ?_)) | (with_reducible (refine Below.drew ?_)) | omega)
  case rest =>
    obtain ⟨p, q, x5, x6, y5, y6, rfl, rfl, PK, QK, N2, E2, BX⟩ := hcut
    rename World => wx
    have KX := K1.out.later BX.out
    have OW : Hid (Own w.heap.size p q (.slice a1 L c1) (.slice a2 M c2) (.slice x5 L y5) (.slice x6 M y6) g wx) := ⟨KX, PK.out, QK.out, N1.out _ (BW.out _ BX.out), N2.out, E1.out _ (BW.out _ BX.out), E2.out⟩
    have BX := Lib.hid (BW.out _ BX.out)
    have SAM := Lib.hid (fun W (hW : Below wx.heap.size wx W) => sameOwn_any (OW.out.later hW))
    have TX := Lib.hid (TG.out wx BX.out)
    have PX := Lib.hid (fun W (hW : Below wx.heap.size wx W) => PG.out W (BX.out.trans (hW.mono BX.out.size)))
    have KY := Lib.hid (fun W (hW : Below wx.heap.size wx W) => (KX.later hW).get)
    clear PK QK N1 E1 N2 E2 KF BD BW K1 K0 B1 WA CN CE TG PG OW KX
    obtain ⟨d0, d1, d2, d3⟩ := KY.out wx (Below.refl _ _)
    generalize (g.ph.toNat : Int) = P at *
    generalize (g.md.toNat : Int) = Q at *
    generalize (s.toNat : Int) = S at *
    go_wp2_with fail
    refine TX.out.mono ?_
    rintro e w2 ⟨u, ca, ga, rfl, go, b2⟩
    obtain ⟨na, ea, rfl, sa, ta, oa, la⟩ := go
    have SA := Lib.hid sa; have TA := Lib.hid ta; have OA := Lib.hid oa; have LA := Lib.hid la
    obtain ⟨i1, m1, j1, rfl⟩ := own_sl sa
    obtain ⟨i2, m2, j2, rfl⟩ := own_sl oa
    have B2 := Lib.hid b2
    clear b2 d0 d1 d2 d3 TX sa ta oa la
    generalize (ga.ph.toNat : Int) = P1 at *
    generalize (ga.md.toNat : Int) = Q1 at *
    have BA : Hid (Below wx.heap.size wx (w2.alloc (.cells #[.slice i1 m1 j1, .slice i2 m2 j2, .int .u64 P1, .int .u64 Q1] 26))) := B2.out.alloc B2.out.size _
    have B22 : Hid (Below w2.heap.size w2 (w2.alloc (.cells #[.slice i1 m1 j1, .slice i2 m2 j2, .int .u64 P1, .int .u64 Q1] 26))) := below_al _ _
    have J0 : Hid (Blk w2.heap.size #[.slice i1 m1 j1, .slice i2 m2 j2, .int .u64 P1, .int .u64 Q1] 26 (w2.alloc (.cells #[.slice i1 m1 j1, .slice i2 m2 j2, .int .u64 P1, .int .u64 Q1] 26))) := blk_new _ _ _
    obtain ⟨d0, d1, d2, d3⟩ := KY.out _ BA.out
    go_wp2_with fail
    refine (PX.out _ BA.out).mono ?_
    rintro e w3 ⟨u, cb, gb, rfl, go, b3⟩
    obtain ⟨nb, eb, rfl, sa, ta, oa, la⟩ := go
    have SB := Lib.hid sa; have TB := Lib.hid ta; have OB := Lib.hid oa; have LB := Lib.hid la
    obtain ⟨i3, m3, j3, rfl⟩ := own_sl sa
    obtain ⟨i4, m4, j4, rfl⟩ := own_sl oa
    have B3 := Lib.hid (BA.out.trans (b3.mono BA.out.size))
    have B32 := Lib.hid (B22.out.trans (b3.mono B22.out.size))
    have J3 := Lib.hid (J0.out.later b3)
    clear b3 d0 d1 d2 d3 sa ta oa la
    generalize (gb.ph.toNat : Int) = P2 at *
    generalize (gb.md.toNat : Int) = Q2 at *
    have BB : Hid (Below w3.heap.size w3 (w3.alloc (.cells #[.slice i3 m3 j3, .slice i4 m4 j4, .int .u64 P2, .int .u64 Q2] 26))) := below_al _ _
    have H3 : Hid (Blk w3.heap.size #[.slice i3 m3 j3, .slice i4 m4 j4, .int .u64 P2, .int .u64 Q2] 26 (w3.alloc (.cells #[.slice i3 m3 j3, .slice i4 m4 j4, .int .u64 P2, .int .u64 Q2] 26))) := blk_new _ _ _
    go_wp2_with fail
    refine (SAM.out _ (B3.out.trans (BB.out.mono B3.out.size))).mono ?_
    rintro e w4 ⟨rfl, b4⟩
    have B43 := Lib.hid (BB.out.trans (b4.mono BB.out.size))
    have J4 := Lib.hid (J3.out.later B43.out)
    have H4 := Lib.hid (H3.out.later b4)
    have B4 := Lib.hid (B3.out.trans (B43.out.mono B3.out.size))
    have e0 := J4.out.cell (i := 0) rfl; have e1 := J4.out.cell (i := 1) rfl; have e2 := J4.out.cell (i := 2) rfl; have e3 := J4.out.cell (i := 3) rfl
    have f0 := H4.out.cell (i := 0) rfl; have f1 := H4.out.cell (i := 1) rfl; have f2 := H4.out.cell (i := 2) rfl; have f3 := H4.out.cell (i := 3) rfl
    have AL : Hid (Below w4.heap.size w4 (w4.alloc (.cells #[.slice i1 m1 j1, .slice i2 m2 j2, .int .u64 P1, .int .u64 Q1, .slice i3 m3 j3, .slice i4 m4 j4, .int .u64 P2, .int .u64 Q2] 26))) := below_al _ _
    have LI0 : Hid (LI wx w4.heap.size (.slice i1 m1 j1) (.slice i2 m2 j2) (.slice i3 m3 j3) (.slice i4 m4 j4) P1 Q1 P2 Q2 ga.ns gb.ns ga.es gb.es wx.heap.size (w2.heap.size + 1) 0 (w4.alloc (.cells #[.slice i1 m1 j1, .slice i2 m2 j2, .int .u64 P1, .int .u64 Q1, .slice i3 m3 j3, .slice i4 m4 j4, .int .u64 P2, .int .u64 Q2] 26))) := by
      have k24 : Below w2.heap.size w2 w4 := B32.out.trans (B43.out.mono B32.out.size)
      have k24' := k24.trans (AL.out.mono k24.size)
      have k34' := B43.out.trans (AL.out.mono B43.out.size)
      refine ⟨B4.out.trans (AL.out.mono B4.out.size), blk_new _ _ _, Nat.le_refl _, by have := B2.out.size; omega, fun q hq => ?_, fun _ => ⟨own_later SA.out k24', TA.out.later k24', own_later OA.out k24', LA.out.later k24'⟩, fun _ => ⟨?_, TB.out.later k34', ?_, LB.out.later k34'⟩⟩
      · rcases hq with hq | hq
        · have := World.ownsRow.lt SA.out q hq; omega
        · have := World.ownsRow.lt OA.out q hq; omega
      · have := own_later SB.out k34'; rw [size_al] at this; exact this
      · have := own_later OB.out k34'; rw [size_al] at this; exact this
    obtain ⟨REL, R0, CUR, GRW, NXT, ALC, BEL⟩ : ∃ REL : Nat → World → Prop, Hid (REL 0 (w4.alloc (.cells #[.slice i1 m1 j1, .slice i2 m2 j2, .int .u64 P1, .int .u64 Q1, .slice i3 m3 j3, .slice i4 m4 j4, .int .u64 P2, .int .u64 Q2] 26))) ∧
        Hid (∀ k W, REL k W → k < 2 → ∃ x m y x' m' y' P Q B z yl, (W.cell? ⟨w4.heap.size, k * 4, none⟩ = some (.slice x m y) ∧ W.cell? ⟨w4.heap.size, k * 4 + 1, none⟩ = some (.slice x' m' y') ∧ W.cell? ⟨w4.heap.size, k * 4 + 2, none⟩ = some (.int .u64 P) ∧ W.cell? ⟨w4.heap.size, k * 4 + 3, none⟩ = some (.int .u64 Q)) ∧
          SO B (.slice x m y) z W ∧ Tl (.slice x m y) W ∧ EO B (.slice x' m' y') yl W ∧ TlE (.slice x' m' y') W ∧
          (∀ q, (Value.slice x m y).ownBlock = some q ∨ (Value.slice x' m' y').ownBlock = some q → wx.heap.size ≤ q ∧ q ≠ w4.heap.size ∧ (k = 0 → q < w2.heap.size + 1))) ∧
        Hid (∀ k W W' r, REL (k + 1) W → W.grownBy W' r → (∀ q, r = some q → wx.heap.size ≤ q ∧ q ≠ w4.heap.size ∧ (k = 0 → q < w2.heap.size + 1)) → REL (k + 1) W') ∧
        Hid (∀ k W, REL k W → REL (k + 1) W) ∧ Hid (∀ k W o, REL k W → REL k (W.alloc o)) ∧ Hid (∀ k W, REL k W → Below wx.heap.size wx W) :=
      ⟨fun k W => LI wx w4.heap.size (.slice i1 m1 j1) (.slice i2 m2 j2) (.slice i3 m3 j3) (.slice i4 m4 j4) P1 Q1 P2 Q2 ga.ns gb.ns ga.es gb.es wx.heap.size (w2.heap.size + 1) k W, LI0.out, fun k W h hk => LI.cur h hk, fun k W W' r h hg hr => LI.grown h hg hr, fun k W h => LI.next h, fun k W o h => LI.alloc h o, fun k W h => LI.bel h⟩
    clear SA TA OA LA SB TB OB LB J0 J3 J4 H3 H4 B22 B32 B43 BB BA B2 B3 AL KY PX LI0
    go_wp2_with fail
    generalize w4.heap.size = lb at *
    generalize w2.heap.size + 1 = b2 at *
    go_loopw [43] (fun i wr => ∃ k : Nat, k ≤ 2 ∧ i = .int .i64 (k : Int) ∧ REL k wr) (fun i _ => 2 - (intOf i).toNat)
    case atStart => exact ⟨0, Nat.zero_le _, rfl, R0.out⟩
    case round =>
      obtain ⟨k, hk, rfl, qk⟩ := hrel
      have QK := Lib.hid qk; clear qk
      by_cases hkl : k < 2
      · obtain ⟨x, m, y, x', m', y', P, Q, B, z, yl, ⟨c0, c1', c2', c3'⟩, so, tl, eo, te, lo⟩ := CUR.out k wr QK.out hkl
        have NX := Lib.hid (ALC.out _ _ (.cells #[.slice x m y, .slice x' m' y', .int .u64 P, .int .u64 Q] 26) (NXT.out _ _ QK.out))
        have EN := Lib.hid (World.ownsRow.alloc eo (.cells #[.slice x m y, .slice x' m' y', .int .u64 P, .int .u64 Q] 26))
        have ET := Lib.hid (te.alloc (.cells #[.slice x m y, .slice x' m' y', .int .u64 P, .int .u64 Q] 26))
        have SN := Lib.hid (World.ownsRow.alloc so (.cells #[.slice x m y, .slice x' m' y', .int .u64 P, .int .u64 Q] 26))
        have SP := Lib.hid (spoil_any SN.out (tl.alloc (.cells #[.slice x m y, .slice x' m' y', .int .u64 P, .int .u64 Q] 26)))
        have X0 : Hid (Blk wr.heap.size #[.slice x m y, .slice x' m' y', .int .u64 P, .int .u64 Q] 26 (wr.alloc (.cells #[.slice x m y, .slice x' m' y', .int .u64 P, .int .u64 Q] 26))) := blk_new _ _ _
        have LT : Hid (∀ q, (Value.slice x m y).ownBlock = some q → q < wr.heap.size) := fun q hq => (World.ownsRow.lt so q hq).2
        have LO := Lib.hid lo
        clear so tl eo te lo
        go_wp2_with fail
        refine SP.out.mono ?_
        rintro e w6 ⟨rfl, g6⟩
        have N6 := Lib.hid (GRW.out k _ w6 _ NX.out g6 (fun q hq => LO.out q (.inl hq)))
        have X6 : Hid (Blk wr.heap.size #[.slice x m y, .slice x' m' y', .int .u64 P, .int .u64 Q] 26 w6) := X0.out.at (g6.block _ X0.out.lt (fun e => by have := LT.out _ e.symm; omega))
        have eo6 := World.ownsRow.kept EN.out g6 (own_differ EN.out SN.out (by decide))
        have te6 := ET.out.kept g6 (own_differ EN.out SN.out (by decide))
        have x1 := X6.out.cell (i := 1) rfl
        clear EN ET SN SP X0 NX g6 c0 c1' c2' c3'
        rcases eo6.2 with ⟨e, _⟩ | ⟨g, cap, cur, e, hbg, hg, hnc, hcm, hcs, _⟩
        · cases e
          clear eo6 te6
          go_wp2_with fail
          go_rounds 1
          go_wp2
          go_roundw
          case rel => exact ⟨k + 1, by omega, by go_num, N6.out⟩
          case measure => simp [intOf]; omega
        · cases e
          obtain ⟨cur', h1, h2⟩ := te6 g rfl
          rw [hg] at h1
          cases h1
          have hl : cur.toList.length = y' * 2 := by rw [Array.length_toList, hcs]
          have O0 : Hid (w6.ownsRow B 49 2 (.slice (some ⟨g, 0, none⟩) y' y') y' cur.toList) := ⟨hl, .inr ⟨g, y', cur, rfl, hbg, hg, Nat.le_refl _, hcm, hcs, List.take_of_length_le (by rw [hl]; exact Nat.le_refl _)⟩⟩
          have S0 := Lib.hid h2
          have LG : Hid (∀ q, some g = some q → wx.heap.size ≤ q ∧ q ≠ lb ∧ (k = 0 → q < b2)) := fun q hq => LO.out q (.inr hq)
          have hcap : y' ≤ 9223372036854775807 := by unfold maxLen at hcm; omega
          clear eo6 te6 h2 hcs hcm hg hl hbg LO
          generalize yl.length = m' at *
          generalize cur.toList = ys at *
          go_wp2_with fail
          go_loopw [58] (fun i wr => ∃ (j : Nat) (xs : List Value), j ≤ y' ∧ i = .int .i64 (j : Int) ∧ wr.ownsRow B 49 2 (.slice (some ⟨g, 0, none⟩) y' y') y' xs ∧ (∀ u ∈ xs, In64 u) ∧ REL (k + 1) wr) (fun i _ => y' - (intOf i).toNat)
          case atStart => exact ⟨0, ys, Nat.zero_le _, rfl, O0.out, S0.out, N6.out⟩
          case round =>
            obtain ⟨j, xs, hj, rfl, qo, qs, qn⟩ := hrel
            have QO := Lib.hid qo; have QS := Lib.hid qs; have QN := Lib.hid qn; clear qo qs qn
            by_cases hjl : j < y'
            · have hlx : xs.length = y' * 2 := QO.out.1
              obtain ⟨n, hn⟩ := QS.out _ (List.getElem_mem (show j * 2 + 1 < xs.length by omega))
              have c0 : wr.cell? ⟨g, j * 2 + 1, none⟩ = some (.int .i64 n) := by rw [QO.out.cellAt (j * 2 + 1) (by omega), List.getElem?_eq_getElem (by omega), hn]
              have f0 := QO.out.frozenAt (j * 2 + 1)
              have ST := Lib.hid (QO.out.stored (j * 2 + 1) (.int .i64 (wrap64 (n + 1))))
              clear hn hlx
              go_wp2
              go_roundw
              case rel =>
                refine ⟨j + 1, xs.set (j * 2 + 1) (.int .i64 (wrap64 (n + 1))), by omega, by go_num, ST.out.1, fun u hu => ?_, GRW.out k _ _ (some g) QN.out ST.out.2 LG.out⟩
                rcases List.mem_or_eq_of_mem_set hu with h | h
                · exact QS.out u h
                · exact ⟨_, h⟩
              case measure => simp [intOf]; omega
            · obtain rfl : j = y' := by omega
              go_wp2
              go_roundw
              case rel => exact ⟨k + 1, by omega, by go_num, QN.out⟩
              case measure => simp [intOf]; omega
      · obtain rfl : k = 2 := by omega
        have BK := Lib.hid (BEL.out _ _ QK.out)
        go_wp2_with fail
        refine (SAM.out _ BK.out).mono ?_
        rintro e w9 ⟨rfl, b9⟩
        have BE := Lib.hid (BX.out.trans ((BK.out.trans (b9.mono BK.out.size)).mono BX.out.size))
        clear b9
        go_wp2
        go_ret
        exact ⟨rfl, BE.out⟩
end Go.Proofs.YtpjcdfphllbonaaDoor
