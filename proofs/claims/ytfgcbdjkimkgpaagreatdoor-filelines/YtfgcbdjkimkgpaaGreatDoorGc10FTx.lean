/-
  Blocks of cells; package file's textsByName. Condition: the form's own.
  What package file's reader keeps: its block, the texts' map, the map of those that are being included, its lines; what a call of it leaves as it was. No condition.
  A function that defers calls of builtins ('defer delete(m, k)'): behind its body they are made, the last one laid first. No condition.
-/
import Derived.Test.YtfgcbdjkimkgpaaGreatDoorGc6MRep
import Derived.Test.YtfgcbdjkimkgpaaGreatDoorGc9LRa
import Derived.Test.YtfgcbdjkimkgpaaGreatDoorGc7LFn
import Derived.Maps.AppendAt
import Derived.Defers
import Derived.Tactics
namespace Go.Proofs.YtfgcbdjkimkgpaaGreatDoor
set_option maxRecDepth 100000
set_option linter.unusedVariables false
open Go.ChangeShapes Go.WideShapes Go.ChangeAt Go.RowKit

/-- block k holds the cells xs -/
def Blk (k : Nat) (xs : Array Value) (t : TypeId) (w : World) : Prop := w.heap[k]? = some (.cells xs t (0, 0))
theorem Blk.lt {k : Nat} {xs : Array Value} {t : TypeId} {w : World} (h : Blk k xs t w) : k < w.heap.size := by
  rcases Nat.lt_or_ge k w.heap.size with h' | h'
  · exact h'
  · unfold Blk at h; simp [Array.getElem?_eq_none h'] at h
theorem Blk.cell {k : Nat} {xs : Array Value} {t : TypeId} {w : World} (h : Blk k xs t w) {i : Nat} {x : Value} (hi : xs[i]? = some x) : w.cell? ⟨k, i, none⟩ = some x := by
  unfold Blk at h
  unfold World.cell?
  simp [h, hi]
theorem Blk.free {k : Nat} {xs : Array Value} {t : TypeId} {w : World} (h : Blk k xs t w) (i : Nat) : w.frozen? ⟨k, i, none⟩ = false := by
  unfold Blk at h
  unfold World.frozen?
  simp [h]
theorem Blk.at {k : Nat} {xs : Array Value} {t : TypeId} {w w' : World} (h : Blk k xs t w) (hb : w'.heap[k]? = w.heap[k]?) : Blk k xs t w' := hb.trans h
theorem Blk.later {k : Nat} {xs : Array Value} {t : TypeId} {w w' : World} (h : Blk k xs t w) (hb : Below w.heap.size w w') : Blk k xs t w' := h.at (hb.block _ h.lt)
theorem blk_new (w : World) (xs : Array Value) (t : TypeId) : Blk w.heap.size xs t (w.alloc (.cells xs t)) := by unfold Blk; exact heap_alloc_new _ _
theorem Blk.alloc {k : Nat} {xs : Array Value} {t : TypeId} {w : World} (h : Blk k xs t w) (o : Obj) : Blk k xs t (w.alloc o) := h.at (Below.heap_alloc _ _ _ h.lt)
theorem Blk.other {k : Nat} {xs : Array Value} {t : TypeId} {w : World} (h : Blk k xs t w) {a : Addr} (ha : k ≠ a.block) (u : Value) : Blk k xs t (w.setCell a u) := h.at (Below.heap_setCell _ _ _ _ ha)
theorem Blk.set {k : Nat} {xs : Array Value} {t : TypeId} {w : World} (h : Blk k xs t w) (i : Nat) (u : Value) : Blk k (xs.setIfInBounds i u) t (w.setCell ⟨k, i, none⟩ u) := by
  unfold Blk at h ⊢
  have hk := Blk.lt h
  unfold World.setCell
  rw [Array.getElem?_modify]
  simp [h]

/-- the texts' own fault -/
def tFault (z : List Mc) : Int := if 20 < z.length then 2 else txF [] z
theorem look_snoc {z : List Mc} {x y : Str} (h : (z.map (·.1)).contains x = false) (s : Str) : fT (look (z ++ [(x, y)])) s = upd (fT (look z)) x (.string (bs y)) s := by
  unfold fT upd look
  rw [List.find?_append]
  by_cases hs : s = x
  · subst hs
    have e : z.find? (fun m => m.1 == s) = none := by
      rw [List.find?_eq_none]
      intro m hm e
      have e' : m.1 = s := by simpa using e
      have : (z.map (·.1)).contains s = true := by rw [List.contains_iff_mem, ← e']; exact List.mem_map_of_mem hm
      rw [h] at this; cases this
    rw [e]; simp
  · have e : (x == s) = false := by rw [beq_eq_false_iff_ne]; exact fun e => hs e.symm
    rw [if_neg hs]
    cases hf : z.find? (fun m => m.1 == s) with
    | none => simp [e, hf]
    | some m => simp [hf]
theorem look_has (z : List Mc) (x : Str) : (look z x).isSome = (z.map (·.1)).contains x := by
  rw [Bool.eq_iff_iff, List.contains_iff_mem]
  unfold look
  rw [Option.isSome_map, List.find?_isSome]
  constructor
  · rintro ⟨m, hm, e⟩
    have e' : m.1 = x := by simpa using e
    rw [← e']; exact List.mem_map_of_mem hm
  · intro h
    obtain ⟨m, hm, e⟩ := List.mem_map.1 h
    exact ⟨m, hm, by simpa using e⟩
def TPost (z : List Mc) (w : World) (e : Ending) (w' : World) : Prop :=
  Below w.heap.size w w' ∧ ((tFault z = 0 ∧ e = .returned (.tuple #[.map (some w.heap.size), .int .i64 0]) ∧ MI w.heap.size z.length (fT (look z)) w') ∨ (tFault z ≠ 0 ∧ e = .returned (.tuple #[.map none, .int .i64 (tFault z)])))
set_option maxHeartbeats 4000000 in
set_option maxRecDepth 100000 in
theorem texts_any (z : List Mc) (v : Value) (w : World) (h : McIn w v z) (hx : ∀ m ∈ z, m.1.length ≤ maxLen) :
    Calls Tryz.prog 36 #[v] w (TPost z w) := by
  have hmm := @run_makeMap Tryz.prog
  have M0 := Lib.hid (MI.made w)
  by_cases hl : 20 < z.length
  · have F2 : Hid (tFault z = 2) := by show _ = _; unfold tFault; rw [if_pos hl]
    obtain ⟨a, cap, rfl, _⟩ := h
    clear hx
    go_enter Tryz.func36, Tryz.ntmps36
    go_wp2
    go_ret2
    exact ⟨Below.refl _ _, .inr ⟨by rw [F2.out]; decide, by rw [F2.out]; rfl⟩⟩
  have TF : Hid (tFault z = txF [] z) := by show _ = _; unfold tFault; rw [if_neg hl]
  rcases h.open with ⟨rfl, a, cap, rfl⟩ | ⟨hp, b, off, cap, rfl, hcap, hlt, hc⟩
  · clear h hx hl
    go_enter Tryz.func36, Tryz.ntmps36
    go_wp2_with fail
    go_rounds 1
    go_ret2
    exact ⟨(Below.refl _ _).alloc (Nat.le_refl _) _, .inl ⟨by rw [TF.out]; rfl, rfl, M0.out.congr (fun _ => rfl)⟩⟩
  · have HC : Hid (∀ W, Below w.heap.size w W → ∀ k, k < z.length → W.cell? ⟨b, off + k * 2, none⟩ = some (.string (bs (nm z k))) ∧ W.cell? ⟨b, off + k * 2 + 1, none⟩ = some (.string (bs (vl z k)))) := fun W hW k hk => ⟨cell_later hW (hc k _ (at_some hk)).1, cell_later hW (hc k _ (at_some hk)).2⟩
    have HX : Hid (∀ k, k < z.length → (nm z k).length ≤ maxLen) := fun k hk => hx _ (mem_at hk)
    have HT : Hid (∀ k, k < z.length → z.take (k + 1) = z.take k ++ [(nm z k, vl z k)]) := fun k hk => take_at hk
    have HD : Hid (∀ k, k < z.length → z.drop k = (nm z k, vl z k) :: z.drop (k + 1)) := fun k hk => drop_at hk
    clear h hc hx hlt
    generalize nm z = f at *
    generalize vl z = g at *
    go_enter Tryz.func36, Tryz.ntmps36
    go_wp2_with fail
    go_loopw [16] (fun i wr => ∃ k : Nat, k ≤ z.length ∧ i = .int .i64 (k : Int) ∧ txF [] z = txF ((z.take k).map (·.1)).reverse (z.drop k) ∧ MI w.heap.size k (fT (look (z.take k))) wr ∧ Below w.heap.size w wr) (fun i _ => z.length - (intOf i).toNat)
    case atStart => exact ⟨0, Nat.zero_le _, rfl, rfl, M0.out.congr (fun _ => rfl), (Below.refl _ _).alloc (Nat.le_refl _) _⟩
    case round =>
      obtain ⟨k, hk, rfl, q1, q2, q3⟩ := hrel
      have Q1 := Lib.hid q1; have Q2 := Lib.hid q2; have Q3 := Lib.hid q3; clear q1 q2 q3
      by_cases hk2 : k < z.length
      · obtain ⟨c1, c2⟩ := HC.out wr Q3.out k hk2
        have T1 := Lib.hid (HT.out k hk2)
        have D1 := Lib.hid (HD.out k hk2)
        have X1 := Lib.hid (HX.out k hk2)
        have ST := Lib.hid (blk_new wr #[.string (bs (f k)), .string (bs (g k))] 25)
        have BA : Hid (Below w.heap.size w (wr.alloc (.cells #[.string (bs (f k)), .string (bs (g k))] 25))) := Q3.out.alloc Q3.out.size _
        have MA : Hid (MI w.heap.size k (fT (look (z.take k))) (wr.alloc (.cells #[.string (bs (f k)), .string (bs (g k))] 25))) := Q2.out.alloc _
        have NS : Hid ((bs (f k)).size ≤ 9223372036854775807) := by have := X1.out; unfold maxLen at this; show _ ≤ _; rw [bs_size]; omega
        generalize f k = x at *
        generalize g k = y at *
        have d1 := ST.out.cell (i := 0) rfl
        have d2 := ST.out.cell (i := 1) rfl
        go_wp2_with fail
        refine (check_any (bs x) _ NS.out).mono ?_
        rintro e w1 ⟨rfl, rfl⟩
        rw [bs_list]
        cases hg : good x
        · have F3 : Hid (tFault z = 3) := by show _ = _; rw [TF.out, Q1.out, D1.out, txF, if_pos hg]
          clear hg
          go_wp2
          go_ret2
          exact ⟨BA.out, .inr ⟨by rw [F3.out]; decide, by rw [F3.out]; rfl⟩⟩
        · have HG := Lib.hid hg; clear hg
          have l1 := MA.out.look_ok (t := 62) (e := 9) (z := .string (bs [])) (x := x) Tryz.underlying62 (Tryz.zeroValue9 _) X1.out
          have hh : ((fT (look (z.take k))) x).isSome = ((z.take k).map (·.1)).contains x := by unfold fT; rw [Option.isSome_map, look_has]
          rw [hh] at l1
          obtain ⟨y1, hy1⟩ : ∃ y1, y1 = ((fT (look (z.take k))) x).getD (.string (bs [])) := ⟨_, rfl⟩
          rw [← hy1] at l1
          clear hy1 hh
          cases hc : ((z.take k).map (·.1)).contains x
          · rw [hc] at l1
            obtain ⟨w3, r3, n3, g3, z3⟩ := MA.out.store (t := 62) (e := 9) (x := x) Tryz.underlying62 (by unfold maxLen; omega) X1.out (.string (bs y))
            have N3 := Lib.hid n3
            have B3 : Hid (Below w.heap.size w w3) := BA.out.grown g3 BA.out.size (fun j hj => by injection hj with hj; omega)
            have HC0 := Lib.hid hc
            clear n3 g3 z3 hc
            go_wp2
            go_roundw
            case rel =>
              refine ⟨k + 1, by omega, by go_num, ?_, ?_, B3.out⟩
              · rw [Q1.out, D1.out, T1.out, txF, if_neg (by rw [HG.out]; decide), if_neg (by rw [List.contains_reverse, HC0.out]; decide), List.map_append, List.reverse_append]
                rfl
              · rw [T1.out]
                exact N3.out.congr (fun s => (look_snoc HC0.out s).symm)
            case measure => simp [intOf]; omega
          · rw [hc] at l1
            have F6 : Hid (tFault z = 6) := by show _ = _; rw [TF.out, Q1.out, D1.out, txF, if_neg (by rw [HG.out]; decide), if_pos (by rw [List.contains_reverse]; exact hc)]
            clear hc
            go_wp2
            go_ret2
            exact ⟨BA.out, .inr ⟨by rw [F6.out]; decide, by rw [F6.out]; rfl⟩⟩
      · obtain rfl : k = z.length := by omega
        have F0 : Hid (tFault z = 0) := by show _ = _; rw [TF.out, Q1.out, List.drop_length]; rfl
        go_wp2
        go_ret2
        have u := Q2.out
        rw [List.take_length] at u
        exact ⟨Q3.out, .inl ⟨F0.out, rfl, u⟩⟩
end Go.Proofs.YtfgcbdjkimkgpaaGreatDoor
namespace Go.Proofs.YtfgcbdjkimkgpaaGreatDoor
set_option maxRecDepth 100000
set_option linter.unusedVariables false
open Go.ChangeShapes Go.WideShapes Go.ChangeAt Go.RowKit

/-- old blocks but rb, ob and v's row are as they were -/
structure KR (rb ob : Nat) (v : Value) (w w' : World) : Prop where
  os : w'.os = w.os
  tape : w'.tape = w.tape
  output : w'.output = w.output
  size : w.heap.size ≤ w'.heap.size
  block : ∀ k, k < w.heap.size → k ≠ rb → k ≠ ob → v.ownBlock ≠ some k → w'.heap[k]? = w.heap[k]?
/-- v' lies where v lay, or in a new block -/
def Ow (v v' : Value) (w : World) : Prop := ∀ k, v'.ownBlock = some k → v.ownBlock = some k ∨ w.heap.size ≤ k
theorem Ow.refl (v : Value) (w : World) : Ow v v w := fun k h => .inl h
theorem Ow.trans {v v1 v2 : Value} {w w1 : World} (h : Ow v v1 w) (g : Ow v1 v2 w1) (hs : w.heap.size ≤ w1.heap.size) : Ow v v2 w := fun k hk => by
  rcases g k hk with h1 | h1
  · exact h k h1
  · exact .inr (Nat.le_trans hs h1)
theorem KR.refl (rb ob : Nat) (v : Value) (w : World) : KR rb ob v w w := ⟨rfl, rfl, rfl, Nat.le_refl _, fun _ _ _ _ _ => rfl⟩
theorem KR.trans {rb ob : Nat} {v v1 : Value} {w w1 w2 : World} (h : KR rb ob v w w1) (o : Ow v v1 w) (g : KR rb ob v1 w1 w2) : KR rb ob v w w2 :=
  ⟨g.os.trans h.os, g.tape.trans h.tape, g.output.trans h.output, Nat.le_trans h.size g.size, fun k hk h1 h2 h3 => (g.block k (Nat.lt_of_lt_of_le hk h.size) h1 h2 (fun e => by
    rcases o k e with q | q
    · exact h3 q
    · omega)).trans (h.block k hk h1 h2 h3)⟩
theorem KR.below {rb ob : Nat} {v : Value} {w w' : World} (h : Below w.heap.size w w') : KR rb ob v w w' := ⟨h.os, h.tape, h.output, h.size, fun k hk _ _ _ => h.block k hk⟩
theorem KR.to {rb ob N : Nat} {v : Value} {w w' : World} (h : KR rb ob v w w') (h1 : N ≤ rb) (h2 : N ≤ ob) (h3 : ∀ k, v.ownBlock = some k → N ≤ k) (hN : N ≤ w.heap.size) : Below N w w' :=
  ⟨h.os, h.tape, h.output, h.size, fun k hk => h.block k (by omega) (by omega) (by omega) (fun e => by have := h3 k e; omega)⟩
theorem KR.cell {rb ob : Nat} (v : Value) (w : World) (i : Nat) (u : Value) : KR rb ob v w (w.setCell ⟨rb, i, none⟩ u) :=
  ⟨rfl, rfl, rfl, by rw [setCell_size]; exact Nat.le_refl _, fun k hk h1 _ _ => Below.heap_setCell _ _ _ _ (by exact h1)⟩
theorem KR.grown {rb ob : Nat} {v : Value} {w w' : World} (h : w.grownBy w' v.ownBlock) : KR rb ob v w w' := ⟨h.os, h.tape, h.output, h.size, fun k hk _ _ h3 => h.block k hk (fun e => h3 e.symm)⟩
theorem KR.map {rb ob : Nat} (v : Value) {w w' : World} (h : w.grownBy w' (some ob)) : KR rb ob v w w' := ⟨h.os, h.tape, h.output, h.size, fun k hk _ h2 _ => h.block k hk (fun e => h2 (by injection e))⟩

/-- what the reader keeps; s: room in its map's count -/
structure RDs (N B rb tb ob : Nat) (T : List Mc) (s : Nat) (op : List Str) (n : Nat) (L : List Str) (v : Value) (w : World) : Prop where
  blk : Blk rb #[.map (some tb), .map (some ob), .int .i64 (n : Int), v] 67 w
  texts : ∃ m, MI tb m (fT (look T)) w
  opens : ∃ m, m + s ≤ n ∧ MI ob m (fS op) w
  row : SO B v L w
  bnd : n ≤ 201 ∧ L.length ≤ n
  pos : 0 < N ∧ N ≤ tb ∧ N ≤ ob ∧ N ≤ rb ∧ tb < B ∧ ob < B ∧ rb < B ∧ tb ≠ ob ∧ tb ≠ rb ∧ ob ≠ rb ∧ B ≤ w.heap.size
  mx : MX w
  sml : ∀ x ∈ L, x.length ≤ 20001
variable {N B rb tb ob : Nat} {T : List Mc} {s : Nat} {op : List Str} {n : Nat} {L : List Str} {v : Value} {w : World}
theorem RDs.later {w' : World} (h : RDs N B rb tb ob T s op n L v w) (hb : Below w.heap.size w w') : RDs N B rb tb ob T s op n L v w' := by
  obtain ⟨m1, h1⟩ := h.texts
  obtain ⟨m2, h2, h3⟩ := h.opens
  exact ⟨h.blk.later hb, ⟨m1, h1.later hb⟩, ⟨m2, h2, h3.later hb⟩, own_later h.row hb, h.bnd, by have := h.pos; have := hb.size; omega, h.mx.later hb, h.sml⟩
theorem RDs.less (h : RDs N B rb tb ob T s op n L v w) : RDs N B rb tb ob T 0 op n L v w := by
  obtain ⟨m2, h2, h3⟩ := h.opens
  exact ⟨h.blk, h.texts, ⟨m2, by omega, h3⟩, h.row, h.bnd, h.pos, h.mx, h.sml⟩
theorem RDs.own (h : RDs N B rb tb ob T s op n L v w) : ∀ k, v.ownBlock = some k → B ≤ k ∧ k < w.heap.size := fun k hk => h.row.lt k hk
theorem RDs.to {w' : World} (h : RDs N B rb tb ob T s op n L v w) (g : KR rb ob v w w') : Below N w w' :=
  g.to h.pos.2.2.2.1 h.pos.2.2.1 (fun k hk => by have := (h.own k hk).1; have := h.pos; omega) (by have := h.pos; omega)
theorem MI.at {b m : Nat} {f : Str → Option Value} {w w' : World} (h : MI b m f w) (e : w'.heap[b]? = w.heap[b]?) : MI b m f w' := by
  obtain ⟨D, ⟨es, clock, hb', r⟩, k⟩ := h
  exact ⟨D, ⟨es, clock, e.trans hb', r⟩, k⟩
theorem MX.at {w w' : World} (h : MX w) (e : w'.heap[0]? = w.heap[0]?) : MX w' := by
  obtain ⟨m, hm⟩ := h
  exact ⟨m, (World.cell?_of_block (a := ⟨0, 0, none⟩) e).trans hm⟩
/-- the count goes up -/
theorem RDs.count (h : RDs N B rb tb ob T 0 op n L v w) (hn : n ≤ 200) : RDs N B rb tb ob T 1 op (n + 1) L v (w.setCell ⟨rb, 2, none⟩ (.int .i64 ((n : Int) + 1))) := by
  obtain ⟨m1, h1⟩ := h.texts
  obtain ⟨m2, h2, h3⟩ := h.opens
  obtain ⟨p1, p2, p3, p4, p5, p6, p7, p8, p9, p10, p11⟩ := h.pos
  refine ⟨?_, ⟨m1, h1.setCell (by exact p9) _⟩, ⟨m2, by omega, h3.setCell (by exact p10) _⟩, ?_, ⟨by omega, by have := h.bnd.2; omega⟩, ⟨p1, p2, p3, p4, p5, p6, p7, p8, p9, p10, by rw [setCell_size]; exact p11⟩, ?_, h.sml⟩
  · have := h.blk.set 2 (.int .i64 ((n : Int) + 1))
    exact this
  · exact ownsRow_setCell_other h.row (fun e => by have := (h.own _ e).1; simp at this; omega) _
  · exact h.mx.at (Below.heap_setCell _ _ _ _ (by show 0 ≠ rb; omega))
/-- one line more -/
theorem RDs.app {x : Str} {w1 w4 : World} {v4 : Value} (h : RDs N B rb tb ob T s op n L v w) (hb : Below w.heap.size w w1) (o : w4.ownsRow B 9 1 v4 (L.length + 1) (L.map encStr ++ [.string (bs x)])) (g : w1.grownBy w4 v.ownBlock) (hl : L.length < n) (hx : x.length ≤ 20001) :
    RDs N B rb tb ob T s op n (L ++ [x]) v4 (w4.setCell ⟨rb, 3, none⟩ v4) := by
  have h' := h.later hb
  obtain ⟨m1, h1⟩ := h'.texts
  obtain ⟨m2, h2, h3⟩ := h'.opens
  obtain ⟨p1, p2, p3, p4, p5, p6, p7, p8, p9, p10, p11⟩ := h'.pos
  have hv : ∀ k, v.ownBlock = some k → B ≤ k := fun k hk => (h'.own k hk).1
  have old : ∀ k, k < B → w4.heap[k]? = w1.heap[k]? := fun k hk => g.block k (by omega) (fun e => by have := hv k e.symm; omega)
  have ho : ∀ k, v4.ownBlock = some k → B ≤ k := fun k hk => (World.ownsRow.lt o k hk).1
  refine ⟨?_, ⟨m1, (h1.at (old _ p5)).setCell (by exact p9) _⟩, ⟨m2, h2, (h3.at (old _ p6)).setCell (by exact p10) _⟩, ?_, ⟨h.bnd.1, by rw [List.length_append]; simp; omega⟩, ⟨p1, p2, p3, p4, p5, p6, p7, p8, p9, p10, by rw [setCell_size]; have := g.size; omega⟩, ?_, fun y hy => by
    rcases List.mem_append.1 hy with hy | hy
    · exact h.sml y hy
    · rw [List.mem_singleton.1 hy]; exact hx⟩
  · have := (h'.blk.at (old rb p7)).set 3 v4
    exact this
  · exact ownsRow_setCell_other (SO.snoc o) (fun e => by have := ho _ e; simp at this; omega) _
  · refine (h'.mx.at (old 0 (by omega))).at (Below.heap_setCell _ _ _ _ (by show 0 ≠ rb; omega))

/-- how the lines go on -/
def Goes (a : Int × List Str × Nat) (o : List Str) (b : Int × List Str × Nat) : Prop := a.1 = b.1 ∧ (a.1 = 0 → a.2.1 = o ++ b.2.1 ∧ a.2.2 = b.2.2)
theorem Goes.start (a : Int × List Str × Nat) : Goes a [] a := ⟨rfl, fun _ => ⟨rfl, rfl⟩⟩
theorem Goes.step {a : Int × List Str × Nat} {o : List Str} {n' : Nat} {x : Str} {r : List Str} (h : Goes a o (rd T op n' (x :: r))) (h0 : (rd1 T op n' x).1 = 0) : Goes a (o ++ (rd1 T op n' x).2.1) (rd T op (rd1 T op n' x).2.2 r) := by
  rw [rd_cons] at h
  unfold catR at h
  rw [if_neg (fun e => e h0)] at h
  refine ⟨h.1, fun e => ?_⟩
  obtain ⟨h1, h2⟩ := h.2 e
  exact ⟨by rw [h1, List.append_assoc], h2⟩
theorem Goes.bad {a : Int × List Str × Nat} {o : List Str} {n' : Nat} {x : Str} {r : List Str} (h : Goes a o (rd T op n' (x :: r))) (h0 : (rd1 T op n' x).1 ≠ 0) : a.1 = (rd1 T op n' x).1 := by
  rw [rd_cons] at h
  unfold catR at h
  rw [if_pos h0] at h
  exact h.1
theorem Goes.done {a : Int × List Str × Nat} {o : List Str} {n' : Nat} (h : Goes a o (rd T op n' [])) : a.1 = 0 ∧ a.2.1 = o ∧ a.2.2 = n' := by
  rw [rd_nil] at h
  obtain ⟨h1, h2⟩ := h
  obtain ⟨h3, h4⟩ := h2 h1
  exact ⟨h1, by rw [h3, List.append_nil], h4⟩
theorem joinR_few (s : Str) : (joinR s).1.length ≤ 20000 := by
  unfold joinR
  split
  · simp
  · split
    · have h1 := linesAt_length 0 (phys s)
      have h2 := phys_count s
      show (linesAt 0 (phys s)).length ≤ 20000
      omega
    · simp
theorem linesF_len (M : Nat) : ∀ (f n : Nat) (P : List Str), bulk P ≤ M → ∀ x ∈ linesF f n P, x.2.length ≤ M
  | 0, _, _, _, x, hx => by simp [linesF] at hx
  | f + 1, n, P, hM, x, hx => by
    rw [linesF] at hx
    split at hx
    · simp at hx
    · rcases List.mem_append.1 hx with h | h
      · split at h
        · simp at h
        · simp at h
          subst h
          exact Nat.le_trans (unc_le _) (Nat.le_trans (joinH_len P) hM)
      · exact linesF_len M f _ _ (Nat.le_trans (bulk_drop P _) hM) x h
theorem joinR_short (s : Str) : ∀ x ∈ (joinR s).1, x.2.length ≤ 20001 := by
  intro x hx
  unfold joinR at hx
  split at hx
  · simp at hx
  · split at hx
    · exact linesF_len 20001 _ _ _ (bulk_text (by omega)) x hx
    · simp at hx
/-- what a call of the reader hands back -/
def RdPost (N B rb tb ob : Nat) (T : List Mc) (op : List Str) (L : List Str) (v : Value) (a : Int × List Str × Nat) (w : World) (e : Ending) (w' : World) : Prop :=
  ∃ n' L' v', e = .returned (.int .i64 a.1) ∧ RDs N B rb tb ob T 0 op n' L' v' w' ∧ KR rb ob v w w' ∧ Ow v v' w ∧ (a.1 = 0 → n' = a.2.2 ∧ L' = L ++ a.2.1 ∧ n' ≤ 200)
def ReadC (N B rb tb ob : Nat) (T : List Mc) (k : Nat) : Prop := ∀ (op : List Str) (n : Nat) (L : List Str) (v : Value) (s : Str) (w : World), RDs N B rb tb ob T 0 op n L v w → n ≤ 200 → s.length ≤ 9223372036854775807 → un T op < k →
  Calls Tryz.prog 37 #[.pointer (some ⟨rb, 0, none⟩), .string (bs s)] w (RdPost N B rb tb ob T op L v (rdS T op n s) w)
end Go.Proofs.YtfgcbdjkimkgpaaGreatDoor
namespace Go.Proofs.YtfgcbdjkimkgpaaGreatDoor
set_option maxRecDepth 100000
open Go
section
variable {P : Program}
def LeavesB (P : Program) (fn : Func) (tmps : Array Value) (R : Ending → World → Prop) : List Deferred → World → Prop
  | [], w => ∃ v, (results fn tmps).run P w = .ok v w ∧ R (.returned v) w
  | d :: ds, w => ∃ b ts ty cs v w1, d.target = .builtin b ts ty cs ∧ (invoke d.target d.args).run P w = .ok (.value v) w1 ∧ LeavesB P fn tmps R ds w1
def bodyPostB (P : Program) (fn : Func) (R : Ending → World → Prop) : Exit → Act → World → Prop
  | .normal, a, w | .ret, a, w => LeavesB P fn a.tmps R a.defers w
  | .outgrown, _, w => R .outgrown w
  | _, _, _ => False
theorem step_deferB {fr : Frame} {cs : List Frame} {w w1 : World} {d : Deferred} {ds : List Deferred} {b : Builtin} {ts : Array TypeId} {ty : TypeId} {ks : Array Bool} {v : Value}
    (hm : fr.mode = .returning) (hd : fr.defers = d :: ds) (ht : d.target = .builtin b ts ty ks) (hi : (invoke d.target d.args).run P w = .ok (.value v) w1) :
    step P (lone fr cs w) = .next (lone { fr with defers := ds } cs w1) := by
  obtain ⟨t, a⟩ := d
  simp only at ht hi
  subst ht
  refine step_lone_go ?_
  simp [stepG, unwind, callDeferred, hm, hd, hi]
theorem leavesB_steps {fn : Func} {tmps : Array Value} {R : Ending → World → Prop} : ∀ (ds : List Deferred) (w : World) (fr : Frame)
    (cs : List Frame), fr.mode = .returning → fr.defers = ds → fr.tmps = tmps → P.funcs[fr.fn]? = some fn → fr.kind = .normal → LeavesB P fn tmps R ds w →
    ∃ e w' fr', R e w' ∧ Comes P (lone fr cs w) (lone fr' cs w') e ∧ fr'.fn = fr.fn ∧ fr'.leaving P w' e := by
  intro ds
  induction ds with
  | nil =>
    intro w fr cs hu hd ht hf hk h
    obtain ⟨v, hr, hR⟩ := h
    exact ⟨.returned v, w, fr, hR, Steps.refl P _, rfl, hu, hd, hk, fn, hf, ht ▸ hr⟩
  | cons d ds ih =>
    intro w fr cs hu hd ht hf hk h
    obtain ⟨b, ts, ty, ks, v, w1, htar, hinv, hrest⟩ := h
    have h1 := step_deferB (cs := cs) hu hd htar hinv
    obtain ⟨e', w'', fr', hR', hs', hfn', hl'⟩ := ih w1 { fr with defers := ds } cs hu rfl ht hf hk hrest
    exact ⟨e', w'', fr', hR', Comes.of_steps (.one h1) hs', hfn', hl'⟩
theorem calls_of_wp_defersB {f : FuncId} {fn : Func} {c : Code} {args : Array Value} {w : World} {R : Ending → World → Prop}
    (hf : P.funcs[f]? = some fn) (hb : fn.body = some c)
    (h : c.wp P (bodyPostB P fn R) { tmps := args ++ Array.replicate (fn.ntmps - args.size) undef, defers := [] } w) : Calls P f args w R := by
  intro cs
  let b : Frame := { (default : Frame) with fn := f, kind := .normal }
  have henter : Frame.enter P f args .normal =
      b.at { tmps := args ++ Array.replicate (fn.ntmps - args.size) undef, defers := [] } [.code c] := by
    simp [Frame.enter, Frame.at, hf, hb, b]
  obtain ⟨e, a', w', hq, harr⟩ := h b [] cs
  rw [← henter] at harr
  cases e with
  | normal =>
    obtain ⟨e', w'', fr', hR, hs, hfn, hl⟩ := leavesB_steps a'.defers w' { b.at a' [] with mode := .returning } cs rfl rfl rfl hf rfl hq
    exact ⟨e', w'', fr', hR, Comes.of_steps (Steps.trans harr (.one step_end)) hs, hfn, hl⟩
  | ret =>
    obtain ⟨todo, hs₀⟩ := harr
    obtain ⟨e', w'', fr', hR, hs, hfn, hl⟩ := leavesB_steps a'.defers w' { b.at a' todo with mode := .returning } cs rfl rfl rfl hf rfl hq
    exact ⟨e', w'', fr', hR, Comes.of_steps hs₀ hs, hfn, hl⟩
  | panic chain => exact hq.elim
  | exit id => exact hq.elim
  | goto l => exact hq.elim
  | outgrown => exact ⟨.outgrown, w', b, hq, harr.resolve_left (by simp [b]), rfl, trivial⟩
end
end Go.Proofs.YtfgcbdjkimkgpaaGreatDoor
