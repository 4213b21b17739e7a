/-
  The document's answer (package millwrightref) for graphs: GraphOf. No condition.
-/
import Derived.Test.YtpjcdfphllbonaaDoorGFt
import Derived.Test.YtpjcdfphllbonaaDoorGRh
namespace Go.Proofs.YtpjcdfphllbonaaDoor
set_option maxRecDepth 100000
set_option linter.unusedVariables false
open Go.ChangeShapes Go.WideShapes Go.ChangeAt Go.RowKit

/-- a list of numbers of one's own: its cells, and its shape -/
theorem nums_own {s : Bv} {w w' : World} {v : Value} (h : w'.ownsRow w.heap.size 3 1 v (cnt s) (ints (nums s))) :
    ∃ a c, v = .slice a (cnt s) c ∧ ((cnt s = 0) ∨ ∃ b cur, a = some ⟨b, 0, none⟩ ∧ w.heap.size ≤ b ∧ Blk b cur 3 w' ∧ ∀ (j n : Nat), (nums s)[j]? = some n → cur[j]? = some (.int .i64 (n : Int))) := by
  rcases h.2 with ⟨rfl, h0⟩ | ⟨g, cap, cur, rfl, hb, hg, _, _, _, ht⟩
  · exact ⟨none, 0, by rw [h0], .inl h0⟩
  · refine ⟨_, cap, rfl, .inr ⟨g, cur, rfl, hb, hg, fun j n hj => ?_⟩⟩
    have e1 := ints_get _ _ _ hj
    rw [← ht, List.getElem?_take] at e1
    split at e1
    · simpa using e1
    · cases e1
theorem below2 (w : World) (o1 o2 : Obj) : Below w.heap.size w ((w.alloc o1).alloc o2) := (below_al w o1).alloc (below_al w o1).size o2
theorem set_grown (w : World) (k i : Nat) (u : Value) : w.grownBy (w.setCell ⟨k, i, none⟩ u) (some k) :=
  ⟨rfl, rfl, rfl, by simp, fun j _ hj => Below.heap_setCell _ _ _ _ (fun e => hj (by rw [e]))⟩
theorem grown_trans {a b c : World} {row : Option Nat} (h : a.grownBy b row) (k : b.grownBy c row) : a.grownBy c row :=
  ⟨k.os.trans h.os, k.tape.trans h.tape, k.output.trans h.output, Nat.le_trans h.size k.size, fun i hi hne => (k.block i (Nat.lt_of_lt_of_le hi h.size) hne).trans (h.block i hi hne)⟩
theorem set4_grown (w : World) (k : Nat) (a b c d : Value) : w.grownBy ((((w.setCell ⟨k, 0, none⟩ a).setCell ⟨k, 1, none⟩ b).setCell ⟨k, 2, none⟩ c).setCell ⟨k, 3, none⟩ d) (some k) :=
  grown_trans (grown_trans (grown_trans (set_grown _ _ _ _) (set_grown _ _ _ _)) (set_grown _ _ _ _)) (set_grown _ _ _ _)
theorem own_ne {B k : Nat} {w : World} {e s n : Nat} {v : Value} {xs : List Value} (h : w.ownsRow B e s v n xs) (hk : k < B) : v.ownBlock = none ∨ v.ownBlock ≠ some k := by
  cases hv : v.ownBlock with
  | none => exact .inl rfl
  | some j => right; intro e; injection e with e; have := (h.lt j hv).1; omega
theorem own_base {B B' : Nat} {w : World} {e s n : Nat} {v : Value} {xs : List Value} (h : w.ownsRow B e s v n xs) (hb : B' ≤ B) : w.ownsRow B' e s v n xs :=
  ⟨h.1, h.2.imp id fun ⟨g, cap, cur, k1, k2, k3⟩ => ⟨g, cap, cur, k1, Nat.le_trans hb k2, k3⟩⟩
theorem blk_ne {b c : Nat} {xs ys : Array Value} {t t' : TypeId} {w : World} (h : Blk b xs t w) (k : Blk c ys t' w) (hne : t ≠ t') : b ≠ c := fun e => by
  subst e
  unfold Blk at h k
  rw [h] at k
  injection k with k
  injection k with _ k
  exact hne k
/-- the list of a set's numbers, in a block of its own if it has any -/
def LB (la : Option Addr) (C : Nat) (ns : List Nat) (W : World) : Prop := C = 0 ∨ ∃ (b : Nat) (cur : Array Value), la = some ⟨b, 0, none⟩ ∧ Blk b cur 3 W ∧ ∀ (j n : Nat), ns[j]? = some n → cur[j]? = some (.int .i64 (n : Int))
theorem LB.at {la : Option Addr} {C : Nat} {ns : List Nat} {W W' : World} (h : LB la C ns W) (f : ∀ b cur, Blk b cur 3 W → Blk b cur 3 W') : LB la C ns W' :=
  h.imp id fun ⟨b, cur, h1, h2, h3⟩ => ⟨b, cur, h1, f b cur h2, h3⟩
/-- the four cells of the graph that is made -/
def PBlk (p : Nat) (nv u : Value) (ph md : Bv) (w : World) : Prop := Blk p #[nv, u, .int .u64 (ph.toNat : Int), .int .u64 (md.toNat : Int)] 26 w
theorem PBlk.put {p : Nat} {nv u u' : Value} {ph md : Bv} {w : World} (h : PBlk p nv u ph md w) : PBlk p nv u' ph md (w.setCell ⟨p, 1, none⟩ u') := Blk.set h 1 u'
theorem PBlk.get {p : Nat} {nv u : Value} {ph md : Bv} {w : World} (h : PBlk p nv u ph md w) : w.cell? ⟨p, 0, none⟩ = some nv ∧ w.cell? ⟨p, 1, none⟩ = some u ∧ w.cell? ⟨p, 2, none⟩ = some (.int .u64 (ph.toNat : Int)) ∧ w.cell? ⟨p, 3, none⟩ = some (.int .u64 (md.toNat : Int)) ∧ w.frozen? ⟨p, 1, none⟩ = false :=
  ⟨Blk.cell h rfl, Blk.cell h rfl, Blk.cell h rfl, Blk.cell h rfl, Blk.free h 1⟩
set_option maxHeartbeats 8000000 in
theorem graphOf_any {w : World} {v nv : Value} {r : List Bv} {z : List Str} (ph md : Bv) (hz : SIn w nv z) (h : WIn w v r) (hl : r.length ≤ 64) :
    Calls Tryd.prog 16 #[nv, v, .int .u64 (ph.toNat : Int), .int .u64 (md.toNat : Int)] w fun e w' => ∃ ea en ec, e = .returned (.agg #[nv, .slice ea en ec, .int .u64 (ph.toNat : Int), .int .u64 (md.toNat : Int)]) ∧ EO w.heap.size (.slice ea en ec) (edgesL r) w' ∧ (edgesL r).length ≤ 8796093022208 ∧ Below w.heap.size w w' := by
  have LA := Lib.hid (fun s W => numbers_any s W)
  obtain ⟨a, cap, rfl, hc⟩ := h
  have HC : Hid (∀ W, Below w.heap.size w W → ∀ k, k < r.length → ∃ b off, a = some ⟨b, off, none⟩ ∧ W.cell? ⟨b, off + k, none⟩ = some (.int .u64 ((wAt r k).toNat : Int))) := fun W hW k hk => by
    obtain ⟨b, off, e, c⟩ := hc k hk
    exact ⟨b, off, e, cell_later hW c⟩
  have ES : Hid (∀ k, edgesTo r (k + 1) = edgesTo r k ++ edgesAt k (wAt r k)) := fun k => edgesTo_succ r k
  have E0 : Hid (edgesTo r 0 = []) := Lib.hid (edgesTo_zero r)
  have EL : Hid (edgesTo r r.length = edgesL r) := Lib.hid rfl
  have LE : Hid (∀ k j s, k ≤ 64 → (edgesTo r k ++ (edgesAt k s).take j).length ≤ 1048576) := fun k j s hk => eo_len hk s
  have LF : Hid ((edgesL r).length ≤ 8796093022208) := Lib.hid (by have := edgesTo_le r r.length; unfold edgesL; omega)
  obtain ⟨an, cn, rfl⟩ := hz.shape2
  generalize z.length = zl at *
  have W0 := Lib.hid (below2 w (.cells #[.slice none 0 0, .slice none 0 0, .int .u64 0, .int .u64 0] 26) (.cells #[.slice an zl cn, .slice none 0 0, .int .u64 (ph.toNat : Int), .int .u64 (md.toNat : Int)] 26))
  have P0 : Hid (PBlk (w.heap.size + 1) (.slice an zl cn) (.slice none 0 0) ph md ((w.alloc (.cells #[.slice none 0 0, .slice none 0 0, .int .u64 0, .int .u64 0] 26)).alloc (.cells #[.slice an zl cn, .slice none 0 0, .int .u64 (ph.toNat : Int), .int .u64 (md.toNat : Int)] 26))) := Lib.hid (by
    have := blk_new (w.alloc (.cells #[.slice none 0 0, .slice none 0 0, .int .u64 0, .int .u64 0] 26)) #[.slice an zl cn, .slice none 0 0, .int .u64 (ph.toNat : Int), .int .u64 (md.toNat : Int)] 26
    rwa [show (w.alloc (.cells #[.slice none 0 0, .slice none 0 0, .int .u64 0, .int .u64 0] 26)).heap.size = w.heap.size + 1 by simp] at this)
  have R0 : Hid (Blk w.heap.size #[.slice none 0 0, .slice none 0 0, .int .u64 0, .int .u64 0] 26 ((w.alloc (.cells #[.slice none 0 0, .slice none 0 0, .int .u64 0, .int .u64 0] 26)).alloc (.cells #[.slice an zl cn, .slice none 0 0, .int .u64 (ph.toNat : Int), .int .u64 (md.toNat : Int)] 26))) := Lib.hid ((blk_new w _ 26).alloc _)
  clear hc hz
  generalize edgesL r = ER at *
  generalize hw : wAt r = f at *
  generalize edgesTo r = F at *
  generalize r.length = L at *
  clear hw
  go_enter Tryd.func16, Tryd.ntmps16
  go_wp2_with fail
  go_loopw [19] (fun i wr => ∃ (k : Nat) (ua : Option Addr) (un uc : Nat), k ≤ L ∧ i = .int .i64 (k : Int) ∧ PBlk (w.heap.size + 1) (.slice an zl cn) (.slice ua un uc) ph md wr ∧ Blk w.heap.size #[.slice none 0 0, .slice none 0 0, .int .u64 0, .int .u64 0] 26 wr ∧ EO (w.heap.size + 2) (.slice ua un uc) (F k) wr ∧ TlE (.slice ua un uc) wr ∧ Below w.heap.size w wr) (fun i _ => L - (intOf i).toNat)
  case atStart => exact ⟨0, none, 0, 0, Nat.zero_le _, rfl, P0.out, R0.out, by rw [E0.out]; exact World.ownsRow_nil _ _ _ _, TlE.nil _ _ _, W0.out⟩
  case round =>
    obtain ⟨k, ua, un, uc, hk, rfl, qp, qr, qo, qt, qb⟩ := hrel
    have QP := Lib.hid qp; have QR := Lib.hid qr; have QO := Lib.hid qo; have QT := Lib.hid qt; have QB := Lib.hid qb; clear qp qr qo qt qb
    by_cases hkl : k < L
    · obtain ⟨b, off, rfl, c0⟩ := HC.out wr QB.out k hkl
      have S1 := Lib.hid (ES.out k)
      have LE1 := Lib.hid (fun j => LE.out k j (f k) (by omega))
      generalize f k = s at *
      go_wp2_with fail
      refine (LA.out s _).mono ?_
      rintro e w2 ⟨lv, rfl, lo, b2⟩
      have B2 := Lib.hid (QB.out.trans (b2.mono QB.out.size))
      have O2 := Lib.hid (own_later QO.out b2)
      have T2 := Lib.hid (QT.out.later b2)
      have P2 : Hid (PBlk (w.heap.size + 1) (.slice an zl cn) (.slice ua un uc) ph md w2) := Blk.later QP.out b2
      have R2 := Lib.hid (QR.out.later b2)
      obtain ⟨la, lc, rfl, hlist⟩ := nums_own lo
      have HQ : Hid (w.heap.size + 2 ≤ wr.heap.size) := by have := QP.out.lt; show _ ≤ _; omega
      have HLI := Lib.hid hlist
      have hcn := cnt_le s
      have NG := Lib.hid (fun j hj => nums_get s j hj)
      have AT := Lib.hid (fun (j n : Nat) (h : (nums s)[j]? = some n) => edgesAt_take (i := k) h)
      have AF : Hid ((edgesAt k s).take (cnt s) = edgesAt k s) := Lib.hid (List.take_of_length_le (by rw [edgesAt_length]; exact Nat.le_refl _))
      have SW2 : Hid (w.heap.size + 2 ≤ w2.heap.size) := Nat.le_trans HQ.out b2.size
      clear b2 lo hlist c0
      generalize edgesAt k s = A at *
      generalize nums s = ns at *
      generalize cnt s = C at *
      have L2 : Hid (LB la C ns w2) := Lib.hid (HLI.out.imp id fun ⟨b, cur, h1, _, h2, h3⟩ => ⟨b, cur, h1, h2, h3⟩)
      clear HLI
      go_wp2_with fail
      go_loopw [28] (fun i wq => ∃ (j : Nat) (ua : Option Addr) (un uc : Nat), j ≤ C ∧ i = .int .i64 (j : Int) ∧ PBlk (w.heap.size + 1) (.slice an zl cn) (.slice ua un uc) ph md wq ∧ Blk w.heap.size #[.slice none 0 0, .slice none 0 0, .int .u64 0, .int .u64 0] 26 wq ∧ EO (w.heap.size + 2) (.slice ua un uc) (F k ++ A.take j) wq ∧ TlE (.slice ua un uc) wq ∧ LB la C ns wq ∧ Below w.heap.size w wq) (fun i _ => C - (intOf i).toNat)
      case atStart => exact ⟨0, _, _, _, Nat.zero_le _, rfl, P2.out, R2.out, by rw [List.take_zero, List.append_nil]; exact O2.out, T2.out, L2.out, B2.out⟩
      case round =>
        obtain ⟨j, va, vn, vc, hj, rfl, pp, pr, po, pt, pl, pb⟩ := hrel
        have PP := Lib.hid pp; have PR := Lib.hid pr; have PO := Lib.hid po; have PT := Lib.hid pt; have PL := Lib.hid pl; have PB := Lib.hid pb; clear pp pr po pt pl pb
        rename World => W4
        by_cases hjl : j < C
        · obtain ⟨n, n1, _, _, n4⟩ := NG.out j hjl
          obtain ⟨lb, cur, rfl, lk, hcur⟩ := PL.out.resolve_left (by omega)
          have cj := lk.cell (hcur j n n4)
          have A1 := Lib.hid (AT.out j n n4)
          obtain ⟨p0, p1, p2, p3, pf⟩ := PP.out.get
          have WA : Hid (Below w.heap.size w (W4.alloc (.cells #[.int .i64 (k : Int), .int .i64 (n : Int)] 49))) := PB.out.alloc PB.out.size _
          have OA : EO (w.heap.size + 2) (.slice va vn vc) (F k ++ A.take j) (W4.alloc (.cells #[.int .i64 (k : Int), .int .i64 (n : Int)] 49)) := World.ownsRow.alloc PO.out _
          have b0 := blk_new W4 #[.int .i64 (k : Int), .int .i64 (n : Int)] 49
          have hsz : w.heap.size + 2 ≤ W4.heap.size := by have := PP.out.lt; omega
          obtain ⟨a5, n5, c5, w5, r5, o5, g5, t5⟩ := app_ed (x := ((k : Int), (n : Int))) OA (PT.out.alloc _) (b0.cell rfl) (b0.cell rfl) (LE1.out j) (by simp; omega)
          have PP5 : PBlk (w.heap.size + 1) (.slice an zl cn) (.slice va vn vc) ph md w5 := blk_app (Blk.alloc PP.out _) OA (by decide) g5
          have PR5 := blk_app (PR.out.alloc _) OA (by decide) g5
          have PL5 : LB (some ⟨lb, 0, none⟩) C ns w5 := PL.out.at fun b cur hb => blk_app (hb.alloc _) OA (by decide) g5
          have B5 := WA.out.grown g5 WA.out.size (fun q hq => by have := (OA.lt q hq).1; omega)
          obtain ⟨q0, q1, q2, q3, qf⟩ := PP5.get
          have SG := set_grown w5 (w.heap.size + 1) 1 (.slice a5 n5 c5)
          have PP6 : Hid (PBlk (w.heap.size + 1) (.slice an zl cn) (.slice a5 n5 c5) ph md (w5.setCell ⟨w.heap.size + 1, 1, none⟩ (.slice a5 n5 c5))) := PP5.put
          have PR6 := Lib.hid (PR5.other (a := ⟨w.heap.size + 1, 1, none⟩) (by simp) (.slice a5 n5 c5))
          have O6 : Hid (EO (w.heap.size + 2) (.slice a5 n5 c5) (F k ++ A.take j ++ [((k : Int), (n : Int))]) (w5.setCell ⟨w.heap.size + 1, 1, none⟩ (.slice a5 n5 c5))) := World.ownsRow.kept o5 SG (own_ne o5 (by omega))
          have T6 := Lib.hid (t5.kept SG (own_ne o5 (by omega)))
          have L6 : Hid (LB (some ⟨lb, 0, none⟩) C ns (w5.setCell ⟨w.heap.size + 1, 1, none⟩ (.slice a5 n5 c5))) := Lib.hid (PL5.at fun b cur hb => hb.other (a := ⟨w.heap.size + 1, 1, none⟩) (blk_ne hb PP5 (by decide)) _)
          have B6 := Lib.hid (below_grown' B5 SG B5.size (by omega))
          have R5 := Lib.hid r5
          clear OA b0 r5 o5 g5 t5 PP5 PR5 PL5 B5 SG lk hcur p0 p2 p3 pf q0 q2 q3
          go_wp2_with (at_builtin; go_must (refine Lib.wpList_append_run _ rfl (.tmp 33) (.tmp 37) 23 23 rfl _ _ rfl rfl _ _ R5.out ?_))
          go_roundw
          case rel => exact ⟨j + 1, _, _, _, by omega, by go_num, PP6.out, PR6.out, by rw [A1.out, ← List.append_assoc]; exact O6.out, T6.out, L6.out, B6.out⟩
          case measure => simp [intOf]; omega
        · obtain rfl : j = C := by omega
          go_wp2
          go_roundw
          case rel => exact ⟨k + 1, _, _, _, by omega, by go_num, PP.out, PR.out, by rw [S1.out, ← AF.out]; exact PO.out, PT.out, PB.out⟩
          case measure => simp [intOf]; omega
    · obtain rfl : k = L := by omega
      obtain ⟨p0, p1, p2, p3, pf⟩ := QP.out.get
      obtain ⟨f0, f1, f2, f3⟩ := show _ ∧ _ ∧ _ ∧ _ from ⟨QR.out.free 0, QR.out.free 1, QR.out.free 2, QR.out.free 3⟩
      obtain ⟨t0, t1, t2, t3⟩ := show _ ∧ _ ∧ _ ∧ _ from ⟨QR.out.cell (i := 0) rfl, QR.out.cell (i := 1) rfl, QR.out.cell (i := 2) rfl, QR.out.cell (i := 3) rfl⟩
      have hE := EL.out
      have QO' := QO.out
      rw [hE] at QO'
      have B7 : Hid (∀ a b c d, Below w.heap.size w ((((wr.setCell ⟨w.heap.size, 0, none⟩ a).setCell ⟨w.heap.size, 1, none⟩ b).setCell ⟨w.heap.size, 2, none⟩ c).setCell ⟨w.heap.size, 3, none⟩ d)) := fun a b c d => below_grown' QB.out (set4_grown wr w.heap.size a b c d) QB.out.size (Nat.le_refl _)
      have EO7 : Hid (∀ a b c d, EO w.heap.size (.slice ua un uc) ER ((((wr.setCell ⟨w.heap.size, 0, none⟩ a).setCell ⟨w.heap.size, 1, none⟩ b).setCell ⟨w.heap.size, 2, none⟩ c).setCell ⟨w.heap.size, 3, none⟩ d)) := fun a b c d =>
        own_base (World.ownsRow.kept QO' (set4_grown wr w.heap.size a b c d) (own_ne QO' (by omega))) (by omega)
      clear QO'
      go_wp2
      have R7 : Blk w.heap.size #[.slice an zl cn, .slice ua un uc, .int .u64 (ph.toNat : Int), .int .u64 (md.toNat : Int)] 26 ((((wr.setCell ⟨w.heap.size, 0, none⟩ (.slice an zl cn)).setCell ⟨w.heap.size, 1, none⟩ (.slice ua un uc)).setCell ⟨w.heap.size, 2, none⟩ (.int .u64 (ph.toNat : Int))).setCell ⟨w.heap.size, 3, none⟩ (.int .u64 (md.toNat : Int))) := (((QR.out.set 0 _).set 1 _).set 2 _).set 3 _
      exact bodyPost_ret (results_cell_row rfl _ _ w.heap.size 26 _ (0, 0) _ rfl R7 Tryd.underlying26 rfl (by kernel_rfl)) rfl ⟨_, _, _, rfl, EO7.out _ _ _ _, LF.out, B7.out _ _ _ _⟩
end Go.Proofs.YtpjcdfphllbonaaDoor
