/-
  Package file's reader: include, process, read. Condition: the strings' lengths are ints.
  What package file's Lines answers. Condition: the texts' strings have lengths that are ints.
  The shelf's contracts laid at this program, in plain words: that the library's functions stand in it as the shelf has them. No condition.
  Slices of strings: what they hold, how they are opened. Condition: a slice takes at most 2^47 bytes (the form says so).
-/
import Derived.Test.YtfgcbdjkimkgpaaGreatDoorGc10FTx
import Derived.Test.YtfgcbdjkimkgpaaGreatDoorGc8LWp
import Derived.Test.YtfgcbdjkimkgpaaGreatDoorRows
import Derived.Shelf.SortM.Plain
import Derived.Shelf.SortM.SortNone
import Derived.Shelf.SlicesG.CompactS
import Derived.Shelf.SlicesE.Index
import Derived.Shelf.SlicesE.Equal
import Derived.Shelf.SlicesE.Clone
import Derived.Test.YtfgcbdjkimkgpaaGreatDoorGc1Ls
import Derived.SizedLaws
import Derived.SliceStrings
import Derived.Deep.Slices
import Derived.OwnWalk
import Derived.Deep.AppendLies
import Derived.Laws.OwnMore
import Derived.Shelf.Abstract
import Derived.WalkSpells
import Derived.Lib.OwnBridge
import Derived.Lib.AppendIntMem
import Derived.Sort.Walk0
namespace Go.Proofs.YtfgcbdjkimkgpaaGreatDoor
set_option maxRecDepth 100000
set_option linter.unusedVariables false
open Go.ChangeShapes Go.WideShapes Go.ChangeAt Go.RowKit Go.Maps

/-- taken out of a map -/
def fdel (f : Str → Option Value) (x : Str) : Str → Option Value := fun s => if s = x then none else f s
theorem MI.del {b n : Nat} {f : Str → Option Value} {w : World} {t e : TypeId} (h : MI b n f w) (ht : Tryz.prog.underlying t = some (.map 9 e)) {x : Str} (hx : x.length ≤ maxLen) (ty : TypeId) :
    ∃ w', (Builtin.delete_ #[t, 9] ty #[.map (some b), .string (bs x)]).run Tryz.prog w = .ok (.tuple #[]) w' ∧ MI b n (fdel f x) w' ∧ w.grownBy w' (some b) ∧ w'.heap.size = w.heap.size := by
  obtain ⟨D, h, k⟩ := h
  obtain ⟨w', hr, ho, hg⟩ := h.drop keyLaw ht (key_bs hx) ty
  refine ⟨w', hr, ⟨_, ho, fun s => ?_⟩, hg.grown, ?_⟩
  · by_cases hs : s = x
    · subst hs
      refine ⟨?_, fun z => ?_⟩
      · rw [has_del_same]; simp [fdel]
      · rw [atKey_del_same]; simp [fdel]
    · have hne : Lit.string s ≠ Lit.string x := fun e => hs (by injection e)
      refine ⟨?_, fun z => ?_⟩
      · rw [has_del_other hne, (k s).1]; simp [fdel, hs]
      · rw [atKey_del_other hne, (k s).2]; simp [fdel, hs]
  · obtain ⟨es, clock, es', clock', hb, rfl⟩ := hg
    simp [Go.ChangeMaps.setBlock]
theorem fS_cons (l : List Str) (x s : Str) : upd (fS l) x (.bool true) s = fS (x :: l) s := by
  unfold upd fS
  by_cases h : s = x
  · subst h; simp
  · simp [h]
theorem fS_del {l : List Str} {x : Str} (h : l.contains x = false) (s : Str) : fdel (fS (x :: l)) x s = fS l s := by
  unfold fdel fS
  by_cases e : s = x
  · subst e; rw [if_pos rfl, h]; rfl
  · rw [if_neg e, List.contains_cons]
    have : (s == x) = false := by simpa using e
    rw [this, Bool.false_or]
section
variable {N B rb tb ob : Nat} {T : List Mc}
/-- a text is being included -/
theorem RDs.put {op : List Str} {n : Nat} {L : List Str} {v : Value} {w : World} (h : RDs N B rb tb ob T 1 op n L v w) {y : Str} (hy : y.length ≤ maxLen) :
    ∃ w', (Instr.mapUpdate 65 (.map (some ob)) (.string (bs y)) (.bool true)).run Tryz.prog w = .ok () w' ∧ RDs N B rb tb ob T 0 (y :: op) n L v w' ∧ w.grownBy w' (some ob) := by
  obtain ⟨m1, h1⟩ := h.texts
  obtain ⟨m2, h2, h3⟩ := h.opens
  obtain ⟨p1, p2, p3, p4, p5, p6, p7, p8, p9, p10, p11⟩ := h.pos
  obtain ⟨w', r, q, g, z⟩ := h3.store (t := 65) (e := 4) (x := y) Tryz.underlying65 (by have := h.bnd.1; unfold maxLen; omega) hy (.bool true)
  have hs : w.heap.size ≤ w'.heap.size := by omega
  have old : ∀ k, k < w.heap.size → k ≠ ob → w'.heap[k]? = w.heap[k]? := fun k hk hne => g.block k hk (fun e => hne (by injection e))
  refine ⟨w', r, ⟨h.blk.at (old rb (by omega) (Ne.symm p10)), ⟨m1, h1.at (old tb (by omega) p8)⟩, ⟨m2 + 1, by omega, q.congr (fS_cons op y)⟩, ?_, h.bnd, ⟨p1, p2, p3, p4, p5, p6, p7, p8, p9, p10, by omega⟩, h.mx.at (old 0 (by omega) (by omega)), h.sml⟩, g⟩
  refine World.ownsRow.kept h.row g ?_
  cases e : v.ownBlock with
  | none => exact .inl rfl
  | some k => right; intro he; have := (h.own k e).1; injection he with he; omega
/-- it no longer is -/
theorem RDs.take {op : List Str} {n : Nat} {L : List Str} {v : Value} {w : World} {y : Str} (h : RDs N B rb tb ob T 0 (y :: op) n L v w) (hy : y.length ≤ maxLen) (ho : op.contains y = false) (ty : TypeId) :
    ∃ w', (Builtin.delete_ #[65, 9] ty #[.map (some ob), .string (bs y)]).run Tryz.prog w = .ok (.tuple #[]) w' ∧ RDs N B rb tb ob T 0 op n L v w' ∧ w.grownBy w' (some ob) := by
  obtain ⟨m1, h1⟩ := h.texts
  obtain ⟨m2, h2, h3⟩ := h.opens
  obtain ⟨p1, p2, p3, p4, p5, p6, p7, p8, p9, p10, p11⟩ := h.pos
  obtain ⟨w', r, q, g, z⟩ := h3.del (t := 65) (e := 4) (x := y) Tryz.underlying65 hy ty
  have old : ∀ k, k < w.heap.size → k ≠ ob → w'.heap[k]? = w.heap[k]? := fun k hk hne => g.block k hk (fun e => hne (by injection e))
  refine ⟨w', r, ⟨h.blk.at (old rb (by omega) (Ne.symm p10)), ⟨m1, h1.at (old tb (by omega) p8)⟩, ⟨m2, h2, q.congr (fS_del ho)⟩, ?_, h.bnd, ⟨p1, p2, p3, p4, p5, p6, p7, p8, p9, p10, by omega⟩, h.mx.at (old 0 (by omega) (by omega)), h.sml⟩, g⟩
  refine World.ownsRow.kept h.row g ?_
  cases e : v.ownBlock with
  | none => exact .inl rfl
  | some k => right; intro he; have := (h.own k e).1; injection he with he; omega

set_option maxHeartbeats 4000000 in
theorem include_any (hT : ∀ m ∈ T, m.2.length ≤ 9223372036854775807) (k : Nat) (hR : ReadC N B rb tb ob T k) (op : List Str) (n : Nat) (L : List Str) (v : Value) (y : Str) (w : World)
    (h : RDs N B rb tb ob T 1 op n L v w) (hn : n ≤ 200) (hy : y.length ≤ 20002) (hu : un T op < k + 1) :
    Calls Tryz.prog 103 #[.pointer (some ⟨rb, 0, none⟩), .string (bs y)] w (RdPost N B rb tb ob T op L v (rdI T op n y) w) := by
  have HH := Lib.hid h
  have yl : y.length ≤ maxLen := by unfold maxLen; omega
  obtain ⟨m1, h1⟩ := h.texts
  have l1 := h1.look_ok (t := 62) (e := 9) (z := .string (bs [])) (x := y) Tryz.underlying62 (Tryz.zeroValue9 _) yl
  have c0 := h.blk.cell (i := 0) rfl
  have c1 := h.blk.cell (i := 1) rfl
  have LE : Hid (rdI T op n y = _) := rdI.eq_1 T op n y
  have YL := Lib.hid yl
  cases hl : look T y with
  | none =>
    have e1 : (fT (look T)) y = none := by unfold fT; rw [hl]; rfl
    have e2 : (rdI T op n y).1 = 5 := by rw [LE.out, hl]
    rw [e1] at l1
    have E2 := Lib.hid e2
    clear h h1 e1 e2 hl yl LE hu hy hR hT
    go_enter Tryz.func103, Tryz.ntmps103
    go_wp2
    go_ret
    exact ⟨n, L, v, by rw [E2.out]; rfl, HH.out.less, KR.refl _ _ _ _, Ow.refl _ _, fun e => by rw [E2.out] at e; cases e⟩
  | some t =>
    have e1 : (fT (look T)) y = some (.string (bs t)) := by unfold fT; rw [hl]; rfl
    have TL : Hid (t.length ≤ 9223372036854775807) := hT (y, t) (look_mem hl)
    have LK := Lib.hid hl
    rw [e1] at l1
    obtain ⟨m2, h2, h3⟩ := h.opens
    have l2 := h3.look (t := 65) (e := 4) (z := .bool false) (x := y) Tryz.underlying65 (Tryz.zeroValue4 _) yl
    by_cases hc : op.contains y = true
    · have e3 : (fS op y).getD (.bool false) = .bool true := by unfold fS; rw [if_pos hc]; rfl
      rw [e3] at l2
      have E2 : Hid ((rdI T op n y).1 = 8) := by show _ = _; rw [LE.out, LK.out]; simp only []; rw [if_pos hc]
      clear h h1 h3 e1 e3 hl yl LE hu hy hR hT hc
      go_enter Tryz.func103, Tryz.ntmps103
      go_wp2
      go_ret
      exact ⟨n, L, v, by rw [E2.out]; rfl, HH.out.less, KR.refl _ _ _ _, Ow.refl _ _, fun e => by rw [E2.out] at e; cases e⟩
    · rw [Bool.not_eq_true] at hc
      have e3 : (fS op y).getD (.bool false) = .bool false := by unfold fS; rw [hc]; rfl
      rw [e3] at l2
      have RR : Hid (rdI T op n y = rdS T (y :: op) n t) := by show _ = _; rw [LE.out, LK.out]; simp only []; rw [hc, if_neg (by decide)]
      obtain ⟨w1, r1, q1, g1⟩ := h.put yl
      have Q1 := Lib.hid q1
      have G1 := Lib.hid g1
      have HC := Lib.hid hc
      have d0 := q1.blk.cell (i := 1) rfl
      have HR : Hid (Calls Tryz.prog 37 #[.pointer (some ⟨rb, 0, none⟩), .string (bs t)] w1 (RdPost N B rb tb ob T (y :: op) L v (rdS T (y :: op) n t) w1)) := hR (y :: op) n L v t w1 q1 hn TL.out (by have := un_lt hl hc; omega)
      clear h h1 h3 e1 e3 hl yl LE hu hy hR hT hc q1 g1
      refine calls_of_wp_defersB Tryz.func103 rfl ?_
      simp only [Tryz.ntmps103, List.size_toArray, List.length_cons, List.length_nil, Nat.reduceAdd, Nat.reduceSub, Array.replicate_succ,
        Array.replicate_zero, List.push_toArray, List.append_toArray, List.nil_append, List.cons_append]
      go_wp2_with fail
      refine HR.out.mono ?_
      rintro e w2 ⟨n', L', v', rfl, R2, K2, O2, X2⟩
      obtain ⟨w3, r3, q3, g3⟩ := R2.take (y := y) YL.out HC.out 0
      have Q3 := Lib.hid q3; have G3 := Lib.hid g3; have KK2 := Lib.hid K2; have OO2 := Lib.hid O2; have XX2 := Lib.hid X2
      clear R2 K2 O2 X2 q3 g3
      go_wp2
      refine ⟨.delete, _, _, _, .tuple #[], w3, rfl, ?_, _, results_tmp rfl _ _ _, ?_⟩
      · simp [invoke, builtin, r3, Result.andThen]
      · refine ⟨n', L', v', by rw [RR.out]; rfl, Q3.out, ((KR.map v G1.out).trans (Ow.refl _ _) KK2.out).trans (Ow.trans (Ow.refl _ _) OO2.out G1.out.size) (KR.map v' G3.out), Ow.trans (Ow.refl _ _) OO2.out G1.out.size, fun e => ?_⟩
        rw [RR.out] at e ⊢
        exact XX2.out e

theorem inc_words {x y : Str} {r : List Str} (h : words x = y :: r) : inc x = decide (y = incW) := by
  unfold inc; rw [h, List.head?_cons, Bool.eq_iff_iff, beq_iff_eq, decide_eq_true_iff]
  exact ⟨fun e => by injection e, fun e => by rw [e]⟩
theorem app_post {op : List Str} {n : Nat} {L : List Str} {v : Value} {x : Str} {w w2 : World} (R : RDs N B rb tb ob T 1 op (n + 1) L v w2) (K : KR rb ob v w w2) (hn : n < 200) (hl : L.length ≤ n) (hx : x.length ≤ 20001) (hr : rd1 T op n x = (0, [x], n + 1))
    (o : Obj) (v4 : Value) (w4 : World) (q1 : w4.ownsRow B 9 1 v4 (L.length + 1) (L.map encStr ++ [.string (bs x)])) (q2 : (w2.alloc o).grownBy w4 v.ownBlock) (q3 : v4.ownBlock = v.ownBlock ∨ v4.ownBlock = some (w2.alloc o).heap.size) :
    w4.cell? ⟨rb, 3, none⟩ = some v ∧ w4.frozen? ⟨rb, 3, none⟩ = false ∧ RdPost N B rb tb ob T op L v (rd1 T op n x) w (.returned (.int .i64 0)) (w4.setCell ⟨rb, 3, none⟩ v4) := by
  have ba : Below w2.heap.size w2 (w2.alloc o) := (Below.refl _ _).alloc (Nat.le_refl _) o
  have RA := R.later ba
  obtain ⟨p1, p2, p3, p4, p5, p6, p7, p8, p9, p10, p11⟩ := RA.pos
  have hv : ∀ k, v.ownBlock = some k → B ≤ k := fun k hk => (RA.own k hk).1
  have B4 := RA.blk.at (q2.block rb (by omega) (fun e => by have := hv rb e.symm; omega))
  refine ⟨B4.cell (i := 3) rfl, B4.free 3, n + 1, L ++ [x], v4, by rw [hr], (RDs.app R ba q1 q2 (by omega) hx).less, ?_, fun k hk => ?_, fun _ => by rw [hr]; exact ⟨rfl, rfl, by omega⟩⟩
  · have k1 : KR rb ob v w2 w4 := (KR.below (rb := rb) (ob := ob) (v := v) ba).trans (Ow.refl _ _) (KR.grown q2)
    have k2 := K.trans (Ow.refl _ _) k1
    exact ⟨k2.os, k2.tape, k2.output, by rw [setCell_size]; exact k2.size, fun k hk h1 h2 h3 => (Below.heap_setCell _ _ _ _ (by exact h1)).trans (k2.block k hk h1 h2 h3)⟩
  · rcases q3 with e | e
    · rw [e] at hk; exact .inl hk
    · rw [e] at hk; injection hk with hk
      right
      have := K.size
      have := ba.size
      omega
set_option maxHeartbeats 8000000 in
theorem process_any (hT : ∀ m ∈ T, m.2.length ≤ 9223372036854775807) (k : Nat) (hR : ReadC N B rb tb ob T k) (op : List Str) (n : Nat) (L : List Str) (v : Value) (x : Str) (w : World)
    (h : RDs N B rb tb ob T 0 op n L v w) (hn : n ≤ 200) (hx : x.length ≤ 20001) (hu : un T op < k + 1) :
    Calls Tryz.prog 70 #[.pointer (some ⟨rb, 0, none⟩), .string (bs x)] w (RdPost N B rb tb ob T op L v (rd1 T op n x) w) := by
  have HC := Lib.hid (h.count hn)
  have c2 := h.blk.cell (i := 2) rfl
  have f2 := h.blk.free 2
  have d2 := HC.out.blk.cell (i := 2) rfl
  have K1 : Hid (KR rb ob v w (w.setCell ⟨rb, 2, none⟩ (.int .i64 ((n : Int) + 1)))) := KR.cell v w 2 _
  have L0 : Hid (L.length ≤ n) := h.bnd.2
  have IN := Lib.hid (include_any hT k hR)
  have HU := Lib.hid hu
  obtain ⟨w1, hw1⟩ : ∃ w1, w1 = w.setCell ⟨rb, 2, none⟩ (.int .i64 ((n : Int) + 1)) := ⟨_, rfl⟩
  rw [← hw1] at HC K1 d2
  have WD := Lib.hid (words_any (bs x) w1 (by rw [bs_size]; omega))
  rw [bs_list] at WD
  have XL := Lib.hid hx
  rw [hw1] at HC K1 d2 WD
  clear hw1 w1 h hR hT hu hx
  by_cases h200 : n = 200
  · have E2 : Hid ((rd1 T op n x).1 = 2) := by show _ = _; unfold rd1; rw [if_pos (by omega)]
    subst h200
    go_enter Tryz.func70, Tryz.ntmps70
    go_wp2
    go_ret
    exact ⟨_, L, v, by rw [E2.out]; rfl, HC.out.less, K1.out, Ow.refl _ _, fun e => by rw [E2.out] at e; cases e⟩
  · have h2 : n < 200 := by omega
    have RW : Hid (rd1 T op n x = if inc x = false then (0, [x], n + 1) else if (words x).length ≠ 2 then (3, [], 0) else rdI T op (n + 1) (wd1 x)) := by show _ = _; unfold rd1; rw [if_neg (by omega)]
    go_enter Tryz.func70, Tryz.ntmps70
    go_wp2_with fail
    refine WD.out.mono ?_
    rintro e w2 ⟨vw, rfl, iw, bw⟩
    have R2 := Lib.hid (HC.out.later bw)
    have K2 : Hid (KR rb ob v w w2) := K1.out.trans (Ow.refl _ _) (KR.below bw)
    have c3 := R2.out.blk.cell (i := 3) rfl
    have OA : Hid (∀ o, (w2.alloc o).ownsRow B 9 1 v L.length (L.map encStr)) := fun o => World.ownsRow.alloc R2.out.row o
    have SA : Hid (∀ o, B ≤ (w2.alloc o).heap.size) := fun o => by have := R2.out.pos; simp; omega
    obtain ⟨i0, hi, hz0, hz1, hz2⟩ := info_parts infoStr
    have IH := Lib.hid hi
    clear hi bw d2 c2 f2 WD HC K1
    rcases iw.open with ⟨hz, a, cap, rfl⟩ | ⟨hp, b, off, cap, rfl, hcap, hlt, hc⟩
    · have AP := Lib.hid (app_post R2.out K2.out h2 L0.out XL.out (by rw [RW.out, if_pos (by unfold inc; rw [hz]; rfl)]))
      clear iw hz
      go_wp2_with (at_builtin; go_must (refine wpList_append_own_at _ rfl (.tmp 33) (.tmp 35) 27 rfl B 9 i0 (.string ByteArray.empty) 1 16 Tryz.underlying27 IH.out hz0 hz1 hz2 rfl (by decide) _ _ _ rfl (OA.out _) ⟨w2.heap.size, 0, none⟩ 1 1 [.string (bs x)] rfl rfl (cell_one' _ _ _) (by intro u hu; simp at hu; rcases hu with rfl; rfl) (by unfold maxLen; have := L0.out; omega) (by have := L0.out; omega) (SA.out _) ?_; intro v4 w4 q1 q2 q3 q4; obtain ⟨a4, n4, cp4, rfl⟩ := own_shape q1; obtain ⟨x1, x2, x3⟩ := AP.out _ _ _ q1 q2 q4; have X3 := Lib.hid x3; clear q1 q2 q3 q4 x3))
      go_ret
      exact X3.out
    · have c0 := hc 0 hp
      rw [Nat.add_zero] at c0
      have WW : Hid (∀ j, j < (words x).length → w2.cell? ⟨b, off + j, none⟩ = some (.string (bs ((words x).getD j [])))) := hc
      have WX : Hid ((words x).getD 1 [] = wd1 x) := rfl
      have W1 : Hid (((words x).getD 1 []).length ≤ 20002) := by
        show _ ≤ _
        rcases Nat.lt_or_ge 1 (words x).length with h1 | h1
        · have h3 := bulk_in (L := words x) (x := (words x).getD 1 []) (by rw [List.getD, List.getElem?_eq_getElem h1]; exact List.getElem_mem h1)
          have h4 := words_bulk x
          have h5 := XL.out
          omega
        · rw [List.getD, List.getElem?_eq_none h1]; exact Nat.zero_le _
      have hI : inc x = decide ((words x).getD 0 [] = incW) := by
        obtain ⟨y, r, e⟩ := List.exists_cons_of_length_pos hp
        rw [inc_words e, e]; rfl
      generalize (words x).getD 0 [] = y at *
      generalize (words x).length = lw at *
      have LC := Lib.hid hcap
      clear iw hc hlt
      by_cases hy : y = incW
      · rw [decide_eq_true hy] at hI
        have e1 : ((bs y).toList == [105, 110, 99, 108, 117, 100, 101]) = true := by rw [bs_toList, hy]; rfl
        have z1 : ((lw : Int) == 0) = false := by rw [beq_eq_false_iff_ne]; omega
        clear hy
        by_cases h3 : lw = 2
        · have RI : Hid (rd1 T op n x = rdI T op (n + 1) (wd1 x)) := by show _ = _; rw [RW.out, hI, if_neg (by decide), if_neg (by omega)]
          subst h3
          have c1 := WW.out 1 (by omega)
          rw [WX.out] at c1 W1
          have IC := Lib.hid (IN.out op (n + 1) L v (wd1 x) w2 R2.out (by omega) W1.out HU.out)
          clear hI WW WX
          generalize wd1 x = y1 at *
          go_wp2_with fail
          refine IC.out.mono ?_
          rintro e w3 ⟨n', L', v', rfl, R3, K3, O3, X3⟩
          have R3 := Lib.hid R3; have K3 := Lib.hid K3; have O3 := Lib.hid O3; have X3 := Lib.hid X3
          go_wp2
          go_ret
          refine ⟨n', L', v', by rw [RI.out]; rfl, R3.out, K2.out.trans (Ow.refl _ _) K3.out, Ow.trans (Ow.refl _ _) O3.out K2.out.size, fun e => ?_⟩
          rw [RI.out] at e ⊢
          exact X3.out e
        · have E2 : Hid ((rd1 T op n x).1 = 3) := by show _ = _; rw [RW.out, hI, if_neg (by decide), if_pos h3]
          have z2 : ((lw : Int) != 2) = true := by rw [bne_iff_ne]; omega
          clear hI WW
          go_wp2
          go_ret
          exact ⟨_, L, v, by rw [E2.out]; rfl, R2.out.less, K2.out, Ow.refl _ _, fun e => by rw [E2.out] at e; cases e⟩
      · rw [decide_eq_false hy] at hI
        have e1 : ((bs y).toList == [105, 110, 99, 108, 117, 100, 101]) = false := by rw [bs_toList, beq_eq_false_iff_ne]; exact hy
        have z1 : ((lw : Int) == 0) = false := by rw [beq_eq_false_iff_ne]; omega
        have AP := Lib.hid (app_post R2.out K2.out h2 L0.out XL.out (by rw [RW.out, if_pos hI]))
        clear hI hy WW WX
        go_wp2_with (at_builtin; go_must (refine wpList_append_own_at _ rfl (.tmp 33) (.tmp 35) 27 rfl B 9 i0 (.string ByteArray.empty) 1 16 Tryz.underlying27 IH.out hz0 hz1 hz2 rfl (by decide) _ _ _ rfl (OA.out _) ⟨w2.heap.size, 0, none⟩ 1 1 [.string (bs x)] rfl rfl (cell_one' _ _ _) (by intro u hu; simp at hu; rcases hu with rfl; rfl) (by unfold maxLen; have := L0.out; omega) (by have := L0.out; omega) (SA.out _) ?_; intro v4 w4 q1 q2 q3 q4; obtain ⟨a4, n4, cp4, rfl⟩ := own_shape q1; obtain ⟨x1, x2, x3⟩ := AP.out _ _ _ q1 q2 q4; have X3 := Lib.hid x3; clear q1 q2 q3 q4 x3))
        go_ret
        exact X3.out
theorem lines_at {z : List Ln} {k : Nat} (h : k < z.length) : (z.map (·.2)).drop k = (z.getD k (0, [])).2 :: (z.map (·.2)).drop (k + 1) := by
  have h' : k < (z.map (·.2)).length := by rw [List.length_map]; exact h
  rw [List.drop_eq_getElem_cons h', List.getElem_map, List.getD, List.getElem?_eq_getElem h]; rfl
set_option maxHeartbeats 8000000 in
theorem read_of (hT : ∀ m ∈ T, m.2.length ≤ 9223372036854775807) (k : Nat) (hR : ReadC N B rb tb ob T k) : ReadC N B rb tb ob T (k + 1) := by
  intro op n L v s w h hn hs hu
  have PR := Lib.hid (process_any hT k hR)
  have HU := Lib.hid hu
  have JA := Lib.hid (join_any (bs s) w (by rw [bs_size]; exact hs) h.mx)
  rw [bs_list] at JA
  have HH := Lib.hid h
  have RS : Hid (rdS T op n s = if (joinR s).2 ≠ 0 then ((joinR s).2, [], 0) else rd T op n ((joinR s).1.map (·.2))) := rfl
  have FEW := Lib.hid (joinR_few s)
  have SH := Lib.hid (joinR_short s)
  clear h hR hT hu hs
  go_enter Tryz.func37, Tryz.ntmps37
  go_wp2_with fail
  refine JA.out.mono ?_
  rintro e w1 ⟨vl, rfl, o1, b1⟩
  have H1 := Lib.hid (HH.out.later b1)
  have K1 : Hid (KR rb ob v w w1) := KR.below b1
  have VO := Lib.hid HH.out.own
  have S1 := Lib.hid b1.size
  generalize hz : (joinR s).1 = z at *
  generalize he : (joinR s).2 = E at *
  by_cases h0 : E = 0
  · subst h0
    have RR : Hid (rdS T op n s = rd T op n (z.map (·.2))) := by show _ = _; rw [RS.out, if_neg (by decide)]
    clear RS hz he JA
    have OL := Lib.hid o1
    have LI := Lib.hid (LIn.own o1 (by have := FEW.out; omega))
    rcases LI.out.open with ⟨rfl, a, cap, rfl⟩ | ⟨hp, b, off, cap, rfl, hcap, hlt, hc⟩
    · clear o1 b1
      go_wp2_with fail
      go_rounds 1
      go_ret
      exact ⟨n, L, v, by rw [RR.out]; simp [rd_nil], H1.out, K1.out, Ow.refl _ _, fun _ => by rw [RR.out]; simp [rd_nil]; exact hn⟩
    · have BN : Hid (w.heap.size ≤ b) := by
        rcases o1.2 with ⟨e, _⟩ | ⟨g, cap', cur, e, hb, _⟩
        · cases e
        · injection e with e _ _; injection e with e; injection e with e1 _ _; show _ ≤ _; omega
      have HC : Hid (∀ (v' : Value) (W : World), KR rb ob v w1 W → ∀ j, j < z.length → W.cell? ⟨b, off + j * 2, none⟩ = some (.int .i64 (z.getD j (0, [])).1) ∧ W.cell? ⟨b, off + j * 2 + 1, none⟩ = some (.string (bs (z.getD j (0, [])).2))) := fun v' W hW j hj => by
        have hx : z[j]? = some ((z.getD j (0, [])).1, (z.getD j (0, [])).2) := by rw [List.getD, List.getElem?_eq_getElem hj]; rfl
        obtain ⟨e1, e2⟩ := hc j _ hx
        have hb : W.heap[b]? = w1.heap[b]? := hW.block b hlt (by have := HH.out.pos; have := BN.out; omega) (by have := HH.out.pos; have := BN.out; omega) (fun e => by have := (VO.out b e).2; have := BN.out; omega)
        exact ⟨(World.cell?_of_block (a := ⟨b, off + j * 2, none⟩) hb).trans e1, (World.cell?_of_block (a := ⟨b, off + j * 2 + 1, none⟩) hb).trans e2⟩
      have LA : Hid (∀ j, j < z.length → (z.map (·.2)).drop j = (z.getD j (0, [])).2 :: (z.map (·.2)).drop (j + 1)) := fun j hj => lines_at hj
      have XS : Hid (∀ j, j < z.length → ((z.getD j (0, [])).2).length ≤ 20001) := fun j hj => SH.out _ (by rw [List.getD, List.getElem?_eq_getElem hj]; exact List.getElem_mem hj)
      have NB : Hid (N ≤ w1.heap.size) := by have := H1.out.pos; show _ ≤ _; omega
      clear o1 b1 hc hlt LI OL SH
      generalize (fun j => (z.getD j (0, [])).1) = ga at *
      go_wp2_with fail
      go_loopw [20] (fun i wr => ∃ (j n' : Nat) (L' o : List Str) (v' : Value), j ≤ z.length ∧ i = .int .i64 (j : Int) ∧ RDs N B rb tb ob T 0 op n' L' v' wr ∧ n' ≤ 200 ∧ KR rb ob v w1 wr ∧ Ow v v' w1 ∧ L' = L ++ o ∧ Goes (rd T op n (z.map (·.2))) o (rd T op n' ((z.map (·.2)).drop j))) (fun i _ => z.length - (intOf i).toNat)
      case atStart => exact ⟨0, n, L, [], v, Nat.zero_le _, rfl, H1.out, hn, KR.refl _ _ _ _, Ow.refl _ _, by simp, Goes.start _⟩
      case round =>
        obtain ⟨j, n', L', o, v', hj, rfl, q1, hn', q2, q3, q4, q5⟩ := hrel
        have Q1 := Lib.hid q1; have Q2 := Lib.hid q2; have Q3 := Lib.hid q3; have Q4 := Lib.hid q4; have Q5 := Lib.hid q5
        clear q1 q2 q3 q4 q5
        by_cases hj2 : j < z.length
        · obtain ⟨c1, c2⟩ := HC.out v' wr Q2.out j hj2
          have LJ := Lib.hid (LA.out j hj2)
          have XJ := Lib.hid (XS.out j hj2)
          generalize (z.getD j (0, [])).1 = aj at *
          generalize (z.getD j (0, [])).2 = x at *
          have ST := Lib.hid (blk_new wr #[.int .i64 aj, .string (bs x)] 115)
          have d1 := ST.out.cell (i := 1) rfl
          have BA : Hid (Below wr.heap.size wr (wr.alloc (.cells #[.int .i64 aj, .string (bs x)] 115))) := (Below.refl _ _).alloc (Nat.le_refl _) _
          have KA : Hid (KR rb ob v w1 (wr.alloc (.cells #[.int .i64 aj, .string (bs x)] 115))) := Q2.out.trans Q3.out (KR.below BA.out)
          have PC := Lib.hid (PR.out op n' L' v' x _ (Q1.out.later BA.out) hn' XJ.out HU.out)
          have SA : Hid (wr.heap.size ≤ (wr.alloc (.cells #[.int .i64 aj, .string (bs x)] 115)).heap.size) := BA.out.size
          have SW : Hid (w1.heap.size ≤ wr.heap.size) := Q2.out.size
          go_wp2_with fail
          refine PC.out.mono ?_
          rintro e w3 ⟨n2, L2, v2, rfl, r3, k3, o3, x3⟩
          have R3 := Lib.hid r3
          have K3 : Hid (KR rb ob v w1 w3) := KA.out.trans Q3.out k3
          have O3 : Hid (Ow v v2 w1) := Ow.trans Q3.out o3 (Nat.le_trans SW.out SA.out)
          have X3 := Lib.hid x3
          have G := Q5.out
          rw [LJ.out] at G
          by_cases h1 : (rd1 T op n' x).1 = 0
          · have GS := Lib.hid (G.step h1)
            obtain ⟨e1, e2, e3⟩ := X3.out h1
            have E1 := Lib.hid e1; have E2 := Lib.hid e2; have E3 := Lib.hid e3
            rw [h1]
            clear G h1 e1 e2 e3 r3 k3 o3 x3 X3 PC BA KA ST
            have few := FEW.out
            go_wp2
            go_roundw
            case rel => exact ⟨j + 1, n2, L2, o ++ (rd1 T op n' x).2.1, v2, by omega, by go_num, R3.out, E3.out, K3.out, O3.out, by rw [E2.out, Q4.out, List.append_assoc], by rw [E1.out]; exact GS.out⟩
            case measure => simp [intOf]; omega
          · have GB := Lib.hid (G.bad h1)
            have z1 : ((rd1 T op n' x).1 != 0) = true := by rw [bne_iff_ne]; exact h1
            have H1' := Lib.hid h1
            clear G h1 r3 k3 o3 x3 X3 PC BA KA ST
            go_wp2
            go_ret
            exact ⟨n2, L2, v2, by rw [RR.out, GB.out]; rfl, R3.out, K1.out.trans (Ow.refl _ _) K3.out, Ow.trans (Ow.refl _ _) O3.out K1.out.size, fun e => by rw [RR.out, GB.out] at e; exact absurd e H1'.out⟩
        · obtain rfl : j = z.length := by omega
          have D := Q5.out
          rw [show (z.map (·.2)).drop z.length = [] by rw [← List.length_map (f := fun x : Ln => x.2), List.drop_length]] at D
          have DN := Lib.hid D.done
          clear D
          go_wp2
          go_ret
          obtain ⟨d1, d2, d3⟩ := DN.out
          exact ⟨n', L', v', by rw [RR.out, d1]; rfl, Q1.out, K1.out.trans (Ow.refl _ _) Q2.out, Ow.trans (Ow.refl _ _) Q3.out K1.out.size, fun _ => by rw [RR.out, d2, d3]; exact ⟨rfl, Q4.out, hn'⟩⟩
  · have RR : Hid ((rdS T op n s).1 = E) := by show _ = _; rw [RS.out, if_pos h0]
    have z1 : (E != 0) = true := by rw [bne_iff_ne]; exact h0
    obtain ⟨a1, n1, cp1, rfl⟩ := own_shape o1
    clear o1 b1 RS hz he JA
    go_wp2
    go_ret
    exact ⟨n, L, v, by rw [RR.out]; rfl, H1.out, K1.out, Ow.refl _ _, fun e => by rw [RR.out] at e; exact absurd e h0⟩
theorem read_all (hT : ∀ m ∈ T, m.2.length ≤ 9223372036854775807) : ∀ k, ReadC N B rb tb ob T k
  | 0 => fun op n L v s w _ _ _ hu => absurd hu (Nat.not_lt_zero _)
  | k + 1 => read_of hT k (read_all hT k)
end
end Go.Proofs.YtfgcbdjkimkgpaaGreatDoor
namespace Go.Proofs.YtfgcbdjkimkgpaaGreatDoor
set_option maxRecDepth 100000
set_option linter.unusedVariables false
open Go.ChangeShapes Go.WideShapes Go.ChangeAt Go.RowKit Go.Maps

/-- what Lines hands back -/
def LnPost (s : Str) (T : List Mc) (w : World) (e : Ending) (w' : World) : Prop :=
  Below w.heap.size w w' ∧ ∃ v, e = .returned (.tuple #[v, .int .i64 (linesR s T).2]) ∧ SIn w' v (linesR s T).1 ∧ (∀ x ∈ (linesR s T).1, x.length ≤ 20001) ∧ (linesR s T).1.length ≤ 201
theorem linesR_fault {s : Str} {T : List Mc} (h : tFault T ≠ 0) : linesR s T = ([], tFault T) := by
  unfold linesR tFault at *
  by_cases h1 : 20 < T.length
  · rw [if_pos h1, if_pos h1]
  · rw [if_neg h1] at h
    rw [if_neg h1, if_neg h1, if_pos h]
theorem linesR_go {s : Str} {T : List Mc} (h : tFault T = 0) : linesR s T = if (rdS T [] 0 s).1 ≠ 0 then ([], (rdS T [] 0 s).1) else ((rdS T [] 0 s).2.1, 0) := by
  unfold linesR
  unfold tFault at h
  by_cases h1 : 20 < T.length
  · rw [if_pos h1] at h; cases h
  · rw [if_neg h1] at h
    rw [if_neg h1, if_neg (fun e => e h)]
theorem sin_none (w : World) : SIn w (.slice none 0 0) [] := ⟨none, 0, rfl, Nat.le_refl _, by simp, fun x hx => absurd hx List.not_mem_nil, .inl rfl⟩
set_option maxHeartbeats 4000000 in
theorem flines_any (s : Str) (T : List Mc) (v : Value) (w : World) (hs : s.length ≤ 9223372036854775807) (h : McIn w v T) (hx : ∀ m ∈ T, m.1.length ≤ maxLen ∧ m.2.length ≤ 9223372036854775807) (hm : MX w) :
    Calls Tryz.prog 11 #[.string (bs s), v] w (LnPost s T w) := by
  have hmm := @run_makeMap Tryz.prog
  have TA := Lib.hid (texts_any T v w h (fun m hm => (hx m hm).1))
  have HX := Lib.hid hx
  have HS := Lib.hid hs
  have HM := Lib.hid hm
  clear h hx hs hm
  go_enter Tryz.func11, Tryz.ntmps11
  go_wp2_with fail
  refine TA.out.mono ?_
  rintro e w1 ⟨hb, (⟨h0, rfl, hM⟩ | ⟨h0, rfl⟩)⟩
  · have B1 := Lib.hid hb
    have E0 := Lib.hid h0
    have W0 : 0 < w.heap.size := by
      obtain ⟨m, hm⟩ := HM.out
      exact World.block_lt_of_cell? _ _ hm
    have R0 : Hid (RDs w.heap.size (w1.heap.size + 2) (w1.heap.size + 1) w.heap.size w1.heap.size T 0 [] 0 [] (.slice none 0 0) ((w1.alloc (.map #[] 0)).alloc (.cells #[.map (some w.heap.size), .map (some w1.heap.size), .int .i64 0, .slice none 0 0] 67))) := by
      have s1 : (w1.alloc (.map #[] 0)).heap.size = w1.heap.size + 1 := by simp
      have lt := hM.lt
      have ba : Below w1.heap.size w1 ((w1.alloc (.map #[] 0)).alloc (.cells #[.map (some w.heap.size), .map (some w1.heap.size), .int .i64 0, .slice none 0 0] 67)) := ((Below.refl _ _).alloc (Nat.le_refl _) _).alloc (by omega) _
      refine ⟨?_, ⟨_, hM.later ba⟩, ⟨0, Nat.le_refl _, ((MI.made w1).alloc _).congr (fun _ => rfl)⟩, World.ownsRow_nil _ _ _ _, ⟨by omega, Nat.le_refl _⟩, ⟨W0, Nat.le_refl _, by omega, by omega, by omega, by omega, by omega, by omega, by omega, by omega, by simp⟩, (HM.out.later hb).later ba, fun x hx => absurd hx List.not_mem_nil⟩
      have := blk_new (w1.alloc (.map #[] 0)) #[.map (some w.heap.size), .map (some w1.heap.size), .int .i64 0, .slice none 0 0] 67
      rw [s1] at this
      exact this
    have RC := Lib.hid (read_all (N := w.heap.size) (B := w1.heap.size + 2) (rb := w1.heap.size + 1) (tb := w.heap.size) (ob := w1.heap.size) (T := T) (fun m hm => (HX.out m hm).2) (un T [] + 1) [] 0 [] _ s _ R0.out (by omega) HS.out (Nat.lt_succ_self _))
    have BA : Hid (Below w.heap.size w ((w1.alloc (.map #[] 0)).alloc (.cells #[.map (some w.heap.size), .map (some w1.heap.size), .int .i64 0, .slice none 0 0] 67))) := (hb.alloc hb.size _).alloc (by have := hb.size; simp; omega) _
    have s2 : (w1.alloc (.map #[] 0)).heap.size = w1.heap.size + 1 := by simp
    clear hb h0 hM TA
    go_wp2_with fail
    refine RC.out.mono ?_
    rintro e w3 ⟨n', L', v', rfl, r3, k3, o3, x3⟩
    have R3 := Lib.hid r3
    have X3 := Lib.hid x3
    have B3 : Hid (Below w.heap.size w w3) := BA.out.trans (R0.out.to k3)
    have LR := Lib.hid (linesR_go (s := s) E0.out)
    have c3 := r3.blk.cell (i := 3) rfl
    clear r3 k3 o3 x3 RC R0 BA s2 hmm
    by_cases h0 : (rdS T [] 0 s).1 = 0
    · obtain ⟨e1, e2, e3⟩ := X3.out h0
      rw [if_neg (fun e => e h0)] at LR
      have E2 := Lib.hid e2; have E3 := Lib.hid e3
      rw [h0]
      clear h0 e1 e2 e3 X3
      go_wp2
      go_ret2
      have l1 := R3.out.bnd.2
      have l2 := E3.out
      have LE : L' = (rdS T [] 0 s).2.1 := by rw [E2.out, List.nil_append]
      refine ⟨B3.out, v', by rw [LR.out]; rfl, ?_, ?_, ?_⟩
      · rw [LR.out, ← LE]
        exact SIn.own R3.out.row (by omega) (fun x hx => by have := R3.out.sml x hx; omega)
      · rw [LR.out, ← LE]; exact R3.out.sml
      · rw [LR.out, ← LE]; show L'.length ≤ 201; omega
    · rw [if_pos h0] at LR
      have z1 : ((rdS T [] 0 s).1 != 0) = true := by rw [bne_iff_ne]; exact h0
      clear h0 X3
      go_wp2
      go_ret2
      exact ⟨B3.out, _, by rw [LR.out]; rfl, by rw [LR.out]; exact sin_none _, by rw [LR.out]; exact fun x hx => absurd hx List.not_mem_nil, by rw [LR.out]; simp⟩
  · have B1 := Lib.hid hb
    have LR := Lib.hid (linesR_fault (s := s) h0)
    have z1 : (tFault T != 0) = true := by rw [bne_iff_ne]; exact h0
    clear hb h0 TA hmm
    go_wp2
    go_ret2
    exact ⟨B1.out, _, by rw [LR.out]; rfl, by rw [LR.out]; exact sin_none _, by rw [LR.out]; exact fun x hx => absurd hx List.not_mem_nil, by rw [LR.out]; simp⟩
end Go.Proofs.YtfgcbdjkimkgpaaGreatDoor
namespace Go.Proofs.YtfgcbdjkimkgpaaGreatDoor
open Go.Shelf
def sortL_ren : Ren := ⟨fun | 6 => 170 | 8 => 183 | 9 => 182 | 19 => 196 | 20 => 197 | 21 => 187 | 22 => 188 | 23 => 189 | 24 => 190 | 25 => 191 | 26 => 192 | 27 => 193 | 28 => 194 | 29 => 195 | 36 => 198 | 31 => 199 | 32 => 200 | 37 => 201 | 38 => 202 | 39 => 203 | 41 => 204 | n => n, fun | 27 => 27 | 29 => 9 | 3 => 3 | 32 => 139 | 26 => 27 | 0 => 0 | 44 => 202 | 46 => 145 | 4 => 4 | 36 => 214 | 35 => 213 | 41 => 218 | 5 => 5 | 9 => 9 | 53 => 222 | 57 => 69 | 63 => 227 | 64 => 228 | n => n, fun | n => n⟩
theorem sortL : Go.Proofs.SlLaysM.n6 Tryz.prog sortL_ren :=
  {
    mixed := by kernel_rfl
    f6 := ⟨Tryz.f170.name, by decide, Tryz.func170.trans (congrArg some (by kernel_rfl))⟩
    f8 := Tryz.func183.trans (congrArg some (by kernel_rfl))
    f9 := ⟨Tryz.f182.name, by decide, Tryz.func182.trans (congrArg some (by kernel_rfl))⟩
    f19 := Tryz.func196.trans (congrArg some (by kernel_rfl))
    f20 := Tryz.func197.trans (congrArg some (by kernel_rfl))
    f21 := ⟨Tryz.f187.name, by decide, Tryz.func187.trans (congrArg some (by kernel_rfl))⟩
    f22 := ⟨Tryz.f188.name, by decide, Tryz.func188.trans (congrArg some (by kernel_rfl))⟩
    f23 := ⟨Tryz.f189.name, by decide, Tryz.func189.trans (congrArg some (by kernel_rfl))⟩
    f24 := ⟨Tryz.f190.name, by decide, Tryz.func190.trans (congrArg some (by kernel_rfl))⟩
    f25 := ⟨Tryz.f191.name, by decide, Tryz.func191.trans (congrArg some (by kernel_rfl))⟩
    f26 := ⟨Tryz.f192.name, by decide, Tryz.func192.trans (congrArg some (by kernel_rfl))⟩
    f27 := ⟨Tryz.f193.name, by decide, Tryz.func193.trans (congrArg some (by kernel_rfl))⟩
    f28 := ⟨Tryz.f194.name, by decide, Tryz.func194.trans (congrArg some (by kernel_rfl))⟩
    f29 := ⟨Tryz.f195.name, by decide, Tryz.func195.trans (congrArg some (by kernel_rfl))⟩
    f31 := Tryz.func199.trans (congrArg some (by kernel_rfl))
    f32 := Tryz.func200.trans (congrArg some (by kernel_rfl))
    f36 := ⟨Tryz.f198.name, by decide, Tryz.func198.trans (congrArg some (by kernel_rfl))⟩
    f37 := ⟨Tryz.f201.name, by decide, Tryz.func201.trans (congrArg some (by kernel_rfl))⟩
    f38 := ⟨Tryz.f202.name, by decide, Tryz.func202.trans (congrArg some (by kernel_rfl))⟩
    f39 := ⟨Tryz.f203.name, by decide, Tryz.func203.trans (congrArg some (by kernel_rfl))⟩
    f41 := ⟨Tryz.f204.name, by decide, Tryz.func204.trans (congrArg some (by kernel_rfl))⟩
    t0 := Tryz.underlying0
    a0 := Tryz.isAgg0
    z0 := Tryz.sizeOf0
    v0 := Tryz.zeroValue0
    t3 := Tryz.underlying3
    a3 := Tryz.isAgg3
    z3 := Tryz.sizeOf3
    v3 := Tryz.zeroValue3
    t4 := Tryz.underlying4
    a4 := Tryz.isAgg4
    z4 := Tryz.sizeOf4
    v4 := Tryz.zeroValue4
    t5 := Tryz.underlying5
    a5 := Tryz.isAgg5
    z5 := Tryz.sizeOf5
    v5 := Tryz.zeroValue5
    t9 := Tryz.underlying9
    a9 := Tryz.isAgg9
    z9 := Tryz.sizeOf9
    v9 := Tryz.zeroValue9
    t26 := Tryz.underlying27
    a26 := Tryz.isAgg27
    z26 := Tryz.sizeOf27
    v26 := Tryz.zeroValue27
    t27 := Tryz.underlying27
    a27 := Tryz.isAgg27
    z27 := Tryz.sizeOf27
    v27 := Tryz.zeroValue27
    t29 := Tryz.underlying9
    a29 := Tryz.isAgg9
    z29 := Tryz.sizeOf9
    v29 := Tryz.zeroValue9
    t32 := Tryz.underlying139
    a32 := Tryz.isAgg139
    z32 := Tryz.sizeOf139
    v32 := Tryz.zeroValue139
    t35 := Tryz.underlying213
    a35 := Tryz.isAgg213
    z35 := Tryz.sizeOf213
    v35 := Tryz.zeroValue213
    t36 := Tryz.underlying214
    a36 := Tryz.isAgg214
    z36 := Tryz.sizeOf214
    v36 := Tryz.zeroValue214
    t41 := Tryz.underlying218
    a41 := Tryz.isAgg218
    z41 := Tryz.sizeOf218
    v41 := Tryz.zeroValue218
    t44 := Tryz.underlying202
    a44 := Tryz.isAgg202
    z44 := Tryz.sizeOf202
    v44 := Tryz.zeroValue202
    t46 := Tryz.underlying145
    a46 := Tryz.isAgg145
    z46 := Tryz.sizeOf145
    v46 := Tryz.zeroValue145
    t53 := Tryz.underlying222
    a53 := Tryz.isAgg222
    z53 := Tryz.sizeOf222
    v53 := Tryz.zeroValue222
    t57 := Tryz.underlying69
    a57 := Tryz.isAgg69
    z57 := Tryz.sizeOf69
    v57 := Tryz.zeroValue69
    t63 := Tryz.underlying227
    a63 := Tryz.isAgg227
    z63 := Tryz.sizeOf227
    v63 := Tryz.zeroValue227
    t64 := Tryz.underlying228
    a64 := Tryz.isAgg228
    z64 := Tryz.sizeOf228
    v64 := Tryz.zeroValue228 }
def compactL_ren : Ren := ⟨fun | 44 => 171 | n => n, fun | 25 => 27 | 26 => 9 | 3 => 3 | 4 => 4 | 0 => 0 | n => n, fun | n => n⟩
theorem compactL : Go.Proofs.SlLaysN.n44 Tryz.prog compactL_ren :=
  {
    mixed := by kernel_rfl
    f44 := ⟨Tryz.f171.name, by decide, Tryz.func171.trans (congrArg some (by kernel_rfl))⟩
    t0 := Tryz.underlying0
    a0 := Tryz.isAgg0
    z0 := Tryz.sizeOf0
    v0 := Tryz.zeroValue0
    t3 := Tryz.underlying3
    a3 := Tryz.isAgg3
    z3 := Tryz.sizeOf3
    v3 := Tryz.zeroValue3
    t4 := Tryz.underlying4
    a4 := Tryz.isAgg4
    z4 := Tryz.sizeOf4
    v4 := Tryz.zeroValue4
    t25 := Tryz.underlying27
    a25 := Tryz.isAgg27
    z25 := Tryz.sizeOf27
    v25 := Tryz.zeroValue27
    t26 := Tryz.underlying9
    a26 := Tryz.isAgg9
    z26 := Tryz.sizeOf9
    v26 := Tryz.zeroValue9
    i26 := by kernel_rfl }
def containsL_ren : Ren := ⟨fun | 31 => 86 | 29 => 116 | n => n, fun | 22 => 27 | 23 => 9 | 4 => 4 | 3 => 3 | 0 => 0 | n => n, fun | n => n⟩
theorem containsL : Go.Proofs.SlLaysE.n31 Tryz.prog containsL_ren :=
  {
    mixed := by kernel_rfl
    f29 := ⟨Tryz.f116.name, by decide, Tryz.func116.trans (congrArg some (by kernel_rfl))⟩
    f31 := ⟨Tryz.f86.name, by decide, Tryz.func86.trans (congrArg some (by kernel_rfl))⟩
    t0 := Tryz.underlying0
    a0 := Tryz.isAgg0
    z0 := Tryz.sizeOf0
    v0 := Tryz.zeroValue0
    t3 := Tryz.underlying3
    a3 := Tryz.isAgg3
    z3 := Tryz.sizeOf3
    v3 := Tryz.zeroValue3
    t4 := Tryz.underlying4
    a4 := Tryz.isAgg4
    z4 := Tryz.sizeOf4
    v4 := Tryz.zeroValue4
    t22 := Tryz.underlying27
    a22 := Tryz.isAgg27
    z22 := Tryz.sizeOf27
    v22 := Tryz.zeroValue27
    a23 := Tryz.isAgg9
    z23 := Tryz.sizeOf9 }
def equalL_ren : Ren := ⟨fun | 33 => 13 | n => n, fun | 22 => 27 | 23 => 9 | 4 => 4 | 3 => 3 | 0 => 0 | n => n, fun | n => n⟩
theorem equalL : Go.Proofs.SlLaysE.n33 Tryz.prog equalL_ren :=
  {
    mixed := by kernel_rfl
    f33 := ⟨Tryz.f13.name, by decide, Tryz.func13.trans (congrArg some (by kernel_rfl))⟩
    t0 := Tryz.underlying0
    a0 := Tryz.isAgg0
    z0 := Tryz.sizeOf0
    v0 := Tryz.zeroValue0
    t3 := Tryz.underlying3
    a3 := Tryz.isAgg3
    z3 := Tryz.sizeOf3
    v3 := Tryz.zeroValue3
    t4 := Tryz.underlying4
    a4 := Tryz.isAgg4
    z4 := Tryz.sizeOf4
    v4 := Tryz.zeroValue4
    t22 := Tryz.underlying27
    a22 := Tryz.isAgg27
    z22 := Tryz.sizeOf27
    v22 := Tryz.zeroValue27
    a23 := Tryz.isAgg9
    z23 := Tryz.sizeOf9 }
def cloneL_ren : Ren := ⟨fun | 41 => 29 | n => n, fun | 22 => 27 | 23 => 9 | 4 => 4 | n => n, fun | n => n⟩
theorem cloneL : Go.Proofs.SlLaysE0.n41 Tryz.prog cloneL_ren :=
  {
    mixed := by kernel_rfl
    f41 := ⟨Tryz.f29.name, by decide, Tryz.func29.trans (congrArg some (by kernel_rfl))⟩
    t4 := Tryz.underlying4
    a4 := Tryz.isAgg4
    z4 := Tryz.sizeOf4
    v4 := Tryz.zeroValue4
    t22 := Tryz.underlying27
    a22 := Tryz.isAgg27
    z22 := Tryz.sizeOf27
    v22 := Tryz.zeroValue27 }
end Go.Proofs.YtfgcbdjkimkgpaaGreatDoor
namespace Go.Proofs.YtfgcbdjkimkgpaaGreatDoor
set_option maxRecDepth 100000
open Go.ChangeShapes Go.WideShapes Go.ChangeAt Go.RowKit

end Go.Proofs.YtfgcbdjkimkgpaaGreatDoor
