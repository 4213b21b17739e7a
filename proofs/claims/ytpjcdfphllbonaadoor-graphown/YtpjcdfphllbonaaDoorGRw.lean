/-
  Package graph's Check, rowsOf, Rows and Number. No condition.
-/
import Derived.Test.YtpjcdfphllbonaaDoorGCh
import Derived.Laws.OwnMore
namespace Go.Proofs.YtpjcdfphllbonaaDoor
set_option maxRecDepth 100000
set_option linter.unusedVariables false
open Go.ChangeShapes Go.WideShapes Go.ChangeAt Go.RowKit

open Classical in
/-- the first fault of a graph -/
noncomputable def ckG (g : Gr) : Int := if ckN g.ns ≠ 0 then ckN g.ns else if ckE g.ns.length g.es ≠ 0 then ckE g.ns.length g.es else if SetIn g.ns.length (g.ph ||| g.md) then 0 else 4
theorem ckN_zero {z : List Str} (h : ckN z = 0) : z.length ≤ 64 ∧ (∀ x ∈ z, good x = true) ∧ Up z := by
  unfold ckN at h
  split at h
  · cases h
  · split at h
    · rename_i h1 h2; exact ⟨by omega, h2⟩
    · cases h
theorem ckE_zero {n : Nat} {z : List Ed} (h : ckE n z = 0) : EdIn n z ∧ EdUp z := by
  unfold ckE at h
  split at h
  · split at h
    · rename_i h1 h2; exact ⟨h1, h2⟩
    · cases h
  · cases h
theorem ckG_zero {g : Gr} (h : ckG g = 0) : Valid g := by
  unfold ckG at h
  split at h
  · rename_i h1; exact absurd h h1
  · rename_i h1
    split at h
    · rename_i h2; exact absurd h h2
    · rename_i h2
      split at h
      · rename_i h3
        obtain ⟨a, b, c⟩ := ckN_zero (Decidable.not_not.1 h1)
        obtain ⟨d, e⟩ := ckE_zero (Decidable.not_not.1 h2)
        exact ⟨a, b, c, d, e, h3⟩
      · cases h
theorem ckG_valid {g : Gr} (h : Valid g) : ckG g = 0 := by
  have h1 : ckN g.ns = 0 := by
    have := h.len
    unfold ckN; rw [if_neg (by omega), if_pos ⟨h.all, h.up⟩]
  have h2 : ckE g.ns.length g.es = 0 := by unfold ckE; rw [if_pos h.ein, if_pos h.eup]
  unfold ckG
  rw [if_neg (by rw [h1]; simp), if_neg (by rw [h2]; simp), if_pos h.sin]
theorem SIn.shape2 {w : World} {v : Value} {z : List Str} (h : SIn w v z) : ∃ a c, v = .slice a z.length c := by obtain ⟨a, c, h, _⟩ := h; exact ⟨a, c, h⟩
theorem EIn.shape2 {w : World} {v : Value} {z : List Ed} (h : EIn w v z) : ∃ a c, v = .slice a z.length c := by obtain ⟨a, c, h, _⟩ := h; exact ⟨a, c, h⟩
/-- the four cells of a graph in a block of its own -/
def GBlk (k : Nat) (nv ev : Value) (g : Gr) (w : World) : Prop := Blk k #[nv, ev, .int .u64 (g.ph.toNat : Int), .int .u64 (g.md.toNat : Int)] 26 w
theorem GBlk.get {k : Nat} {nv ev : Value} {g : Gr} {w : World} (h : GBlk k nv ev g w) : w.cell? ⟨k, 0, none⟩ = some nv ∧ w.cell? ⟨k, 1, none⟩ = some ev ∧ w.cell? ⟨k, 2, none⟩ = some (.int .u64 (g.ph.toNat : Int)) ∧ w.cell? ⟨k, 3, none⟩ = some (.int .u64 (g.md.toNat : Int)) :=
  ⟨Blk.cell h rfl, Blk.cell h rfl, Blk.cell h rfl, Blk.cell h rfl⟩
theorem GBlk.later {k : Nat} {nv ev : Value} {g : Gr} {w w' : World} (h : GBlk k nv ev g w) (hb : Below w.heap.size w w') : GBlk k nv ev g w' := Blk.later h hb
theorem below_al (w : World) (o : Obj) : Below w.heap.size w (w.alloc o) := (Below.refl _ w).alloc (Nat.le_refl _) o
theorem zero_ne {c : Int} (h : c ≠ 0) : (c != 0) = true := bne_iff_ne.2 h
set_option maxHeartbeats 4000000 in
theorem check_graph {w : World} {v : Value} {g : Gr} (h : GIn w v g) :
    Calls Tryd.prog 12 #[v] w fun e w' => e = .returned (.int .i64 (ckG g)) ∧ Below w.heap.size w w' := by
  obtain ⟨nv, ev, rfl, h1, h2⟩ := h
  have CN := Lib.hid (fun W (hW : Below w.heap.size w W) => checkNames_any (h1.later hW))
  have CE := Lib.hid (fun W (hW : Below w.heap.size w W) => checkEdges_any g.ns.length (h2.later hW))
  have EN : Hid (ckN g.ns ≠ 0 → ckG g = ckN g.ns) := Lib.hid fun h => by unfold ckG; rw [if_pos h]
  have EE : Hid (ckN g.ns = 0 → ckE g.ns.length g.es ≠ 0 → ckG g = ckE g.ns.length g.es) := Lib.hid fun h k => by unfold ckG; rw [if_neg (by rw [h]; simp), if_pos k]
  have ES : Hid (ckN g.ns = 0 → ckE g.ns.length g.es = 0 → ¬ SetIn g.ns.length (g.ph ||| g.md) → ckG g = 4) := Lib.hid fun h k s => by unfold ckG; rw [if_neg (by rw [h]; simp), if_neg (by rw [k]; simp), if_neg s]
  have E0 : Hid (ckN g.ns = 0 → ckE g.ns.length g.es = 0 → SetIn g.ns.length (g.ph ||| g.md) → ckG g = 0) := Lib.hid fun h k s => by unfold ckG; rw [if_neg (by rw [h]; simp), if_neg (by rw [k]; simp), if_pos s]
  have NL : Hid (ckN g.ns = 0 → g.ns.length ≤ 64) := Lib.hid fun h => (ckN_zero h).1
  have OB := bv_or g.ph g.md
  have WA := Lib.hid (below_al w (.cells #[nv, ev, .int .u64 (g.ph.toNat : Int), .int .u64 (g.md.toNat : Int)] 26))
  have K0 : Hid (GBlk w.heap.size nv ev g (w.alloc (.cells #[nv, ev, .int .u64 (g.ph.toNat : Int), .int .u64 (g.md.toNat : Int)] 26))) := blk_new _ _ _
  obtain ⟨a1, c1, rfl⟩ := h1.shape2
  obtain ⟨a2, c2, rfl⟩ := h2.shape2
  have KL := Lib.hid (fun W (hW : Below (w.heap.size + 1) (w.alloc (.cells #[.slice a1 g.ns.length c1, .slice a2 g.es.length c2, .int .u64 (g.ph.toNat : Int), .int .u64 (g.md.toNat : Int)] 26)) W) => (K0.out.later (by simpa using hW)).get)
  obtain ⟨d0, d1, d2, d3⟩ := K0.out.get
  clear h1 h2
  generalize hG : ckG g = G at *
  generalize hN : ckN g.ns = N at *
  generalize hE : ckE g.ns.length g.es = E at *
  generalize g.ns.length = L at *
  generalize g.es.length = M at *
  clear hG hN hE
  have AN := Lib.hid (fun W (hl : L ≤ 64) => areNumbers_any (g.ph ||| g.md) L W hl)
  go_enter Tryd.func12, Tryd.ntmps12
  go_wp2_with fail
  refine (CN.out _ WA.out).mono ?_
  rintro e w2 ⟨rfl, b2⟩
  have B2 := Lib.hid (WA.out.trans (b2.mono WA.out.size))
  have K2 := Lib.hid (K0.out.later b2)
  clear b2 d0 d1 d2 d3
  by_cases hn : N = 0
  · obtain ⟨d0, d1, d2, d3⟩ := K2.out.get
    subst hn
    have EE1 := Lib.hid (EE.out rfl); have ES1 := Lib.hid (ES.out rfl); have E01 := Lib.hid (E0.out rfl); have NL1 := Lib.hid (NL.out rfl)
    clear EN EE ES E0 NL
    go_wp2_with fail
    refine (CE.out _ B2.out).mono ?_
    rintro e w3 ⟨rfl, b3⟩
    have B3 := Lib.hid (B2.out.trans (b3.mono B2.out.size))
    have K3 := Lib.hid (K2.out.later b3)
    clear b3 d0 d1 d2 d3
    by_cases he : E = 0
    · obtain ⟨d0, d1, d2, d3⟩ := K3.out.get
      subst he
      have ES2 := Lib.hid (ES1.out rfl); have E02 := Lib.hid (E01.out rfl)
      clear EE1 ES1 E01
      go_wp2_with fail
      refine (AN.out _ NL1.out).mono ?_
      rintro e w4 ⟨⟨q, rfl, hq⟩, rfl⟩
      have HQ := Lib.hid hq
      clear hq
      cases q
      · have E4 : Hid (G = 4) := Lib.hid (ES2.out fun h => by cases HQ.out.2 h)
        clear HQ ES2 E02
        go_wp2
        go_ret
        exact ⟨by rw [E4.out]; rfl, B3.out⟩
      · have E4 : Hid (G = 0) := Lib.hid (E02.out (HQ.out.1 rfl))
        clear HQ ES2 E02
        go_wp2
        go_ret
        exact ⟨by rw [E4.out]; rfl, B3.out⟩
    · have t := zero_ne he
      have E4 : Hid (G = E) := Lib.hid (EE1.out he)
      clear he EE1 ES1 E01
      go_wp2
      go_ret
      exact ⟨by rw [E4.out]; rfl, B3.out⟩
  · have t := zero_ne hn
    have E4 : Hid (G = N) := Lib.hid (EN.out hn)
    clear hn EN EE ES E0 NL
    go_wp2
    go_ret
    exact ⟨by rw [E4.out]; rfl, B2.out⟩
/-! rowsOf -/
theorem zeros_w (n : Nat) : (madeCells (Value.cells (.int .u64 0)) (n * 1)).toList = (List.replicate n 0#64).map encW := by
  rw [Nat.mul_one, show Value.cells (.int .u64 0) = #[.int .u64 0] from rfl, toList_madeCells_one, List.map_replicate]; rfl
theorem ed_take {z : List Ed} {k : Nat} (h : k < z.length) : z.take (k + 1) = z.take k ++ [edAt z k] := by
  rw [List.take_add_one, edAt_get h]; rfl
theorem rows_bound {n : Nat} {z : List Ed} (h : EdIn n z) {k : Nat} (hk : k < z.length) : ∃ f t : Nat, edAt z k = ((f : Int), (t : Int)) ∧ f < n ∧ t < n := by
  obtain ⟨h1, h2, h3, h4⟩ := h _ (edAt_mem hk)
  exact ⟨(edAt z k).1.toNat, (edAt z k).2.toNat, Prod.ext (by simp; omega) (by simp; omega), by omega, by omega⟩
theorem one_walk (n : Nat) (h : n < 64) : IntKind.u64.wrap (2 ^ n) = ((one n).toNat : Int) := by
  rw [one_toNat n h, IntKind.wrap_u64]
  have hlt : 2 ^ n < 2 ^ 64 := Nat.pow_lt_pow_right (by omega) h
  have e : (2 : Int) ^ n = ((2 ^ n : Nat) : Int) := by simp
  rw [e]
  generalize 2 ^ n = x at *
  omega
theorem grown_below {B g : Nat} {w0 w w' : World} (h : Below B w0 w) (k : w.grownBy w' (some g)) (hB : B ≤ w.heap.size) (hg : B ≤ g) : Below B w0 w' :=
  h.grown k hB (fun q hq => by cases hq; exact hg)
set_option maxHeartbeats 4000000 in
theorem rowsOf_any {w : World} {v : Value} {g : Gr} (h : GIn w v g) (hl : g.ns.length ≤ 64) (he : EdIn g.ns.length g.es) :
    Calls Tryd.prog 33 #[v] w fun e w' => ∃ b, e = .returned (.slice (some ⟨b, 0, none⟩) g.ns.length g.ns.length) ∧ w.heap.size ≤ b ∧ WO w.heap.size (.slice (some ⟨b, 0, none⟩) g.ns.length g.ns.length) (rowsTo g.ns.length g.es) w' ∧ Below w.heap.size w w' := by
  obtain ⟨nv, ev, rfl, h1, h2⟩ := h
  have hb2 := h2.bound
  obtain ⟨i0, hi, hz0, hz1, hz2⟩ := info_parts infoW
  have WA := Lib.hid (below_al w (.cells #[nv, ev, .int .u64 (g.ph.toNat : Int), .int .u64 (g.md.toNat : Int)] 26))
  have K0 : Hid (GBlk w.heap.size nv ev g (w.alloc (.cells #[nv, ev, .int .u64 (g.ph.toNat : Int), .int .u64 (g.md.toNat : Int)] 26))) := blk_new _ _ _
  obtain ⟨a1, c1, rfl⟩ := h1.shape2
  obtain ⟨a2, c2, rfl, hc⟩ := ein_at h2
  have HC := Lib.hid hc; clear hc h1 h2
  obtain ⟨d0, d1, d2, d3⟩ := K0.out.get
  have RB := Lib.hid (fun k hk => rows_bound he (k := k) hk)
  have RS : Hid (∀ k, k < g.es.length → rowsTo g.ns.length (g.es.take (k + 1)) = orAt (rowsTo g.ns.length (g.es.take k)) (edAt g.es k).1.toNat (one (edAt g.es k).2.toNat)) := fun k hk => by rw [ed_take hk, rowsTo_snoc]
  have RT : Hid (rowsTo g.ns.length (g.es.take g.es.length) = rowsTo g.ns.length g.es) := Lib.hid (by rw [List.take_length])
  have RL : Hid (∀ k, (rowsTo g.ns.length (g.es.take k)).length = g.ns.length) := fun k => rowsTo_length _ _
  have R0 : Hid (rowsTo g.ns.length (g.es.take 0) = List.replicate g.ns.length 0#64) := Lib.hid rfl
  clear he
  generalize g.ns.length = L at *
  generalize hM : g.es.length = M at *
  obtain ⟨w2, r2, o2, g2⟩ := run_make_full (P := Tryd.prog) (w.alloc (.cells #[.slice a1 L c1, .slice a2 M c2, .int .u64 (g.ph.toNat : Int), .int .u64 (g.md.toNat : Int)] 26)) w.heap.size 27 24 i0 (.int .u64 0) 1 Tryd.underlying27 hi hz0 hz1 .i64 .i64 L (by rw [hz2]; omega) (by unfold maxLen; omega) WA.out.size
  rw [zeros_w] at o2
  have W2 := Lib.hid (WA.out.grown g2 WA.out.size (fun q hq => by cases hq))
  have BS : Hid (w.heap.size ≤ (w.alloc (.cells #[.slice a1 L c1, .slice a2 M c2, .int .u64 (g.ph.toNat : Int), .int .u64 (g.md.toNat : Int)] 26)).heap.size) := WA.out.size
  have K2 := Lib.hid (blk_grown K0.out g2 (fun q hq => by cases hq))
  generalize (w.alloc (.cells #[.slice a1 L c1, .slice a2 M c2, .int .u64 (g.ph.toNat : Int), .int .u64 (g.md.toNat : Int)] 26)).heap.size = b at *
  have O2 : Hid (WO w.heap.size (.slice (some ⟨b, 0, none⟩) L L) (rowsTo L (g.es.take 0)) w2) := by
    show World.ownsRow _ _ _ _ _ _ _
    rw [R0.out, List.length_replicate]; exact o2
  have d1' := (show GBlk w.heap.size _ _ g w2 from K2.out).get.2.1
  clear o2 g2 hi hz0 hz1 hz2 WA K0 K2 R0
  go_enter Tryd.func33, Tryd.ntmps33
  go_wp2_with fail
  go_loopw [13] (fun i wr => ∃ k : Nat, k ≤ M ∧ i = .int .i64 (k : Int) ∧ WO w.heap.size (.slice (some ⟨b, 0, none⟩) L L) (rowsTo L (g.es.take k)) wr ∧ Below w.heap.size w wr) (fun i _ => M - (intOf i).toNat)
  case atStart => exact ⟨0, Nat.zero_le _, rfl, O2.out, W2.out⟩
  case round =>
    obtain ⟨k, hk, rfl, qo, qb⟩ := hrel
    have QO := Lib.hid qo; have QB := Lib.hid qb; clear qo qb
    by_cases hkl : k < M
    · obtain ⟨eb, off, rfl, c0, c1'⟩ := HC.out wr QB.out k hkl
      have RSk := Lib.hid (RS.out k hkl)
      have RLk := RL.out k
      obtain ⟨f, t, he, hf, ht⟩ := RB.out k hkl
      rw [he] at c0 c1' RSk
      simp only [Int.toNat_natCast] at RSk c0 c1'
      generalize rowsTo L (g.es.take k) = r at *
      have WA : Hid (Below w.heap.size w (wr.alloc (.cells #[.int .i64 (f : Int), .int .i64 (t : Int)] 49))) := QB.out.alloc QB.out.size _
      have OA : WO w.heap.size (.slice (some ⟨b, 0, none⟩) r.length L) r (wr.alloc (.cells #[.int .i64 (f : Int), .int .i64 (t : Int)] 49)) := by rw [RLk]; exact World.ownsRow.alloc QO.out _
      have cr := OA.cell (i := f) (by omega)
      have fr := OA.frozen f
      obtain ⟨O3, G3⟩ := OA.store f (one t)
      have e1 : bits .or .u64 ((wAt r f).toNat : Int) (IntKind.u64.wrap (2 ^ t)) = ((wAt r f ||| one t).toNat : Int) := by rw [one_walk t (by omega), bv_or]
      have O3' := Lib.hid O3
      have B3 := Lib.hid (grown_below WA.out G3 WA.out.size BS.out)
      rw [RLk] at O3'
      have hf' : (f : Int) < (L : Int) := by omega
      have ht' : (t : Int) < 64 := by omega
      clear O3 G3 OA he
      generalize ((wAt r f).toNat : Int) = x at *
      generalize ((wAt r f ||| one t).toNat : Int) = y at *
      go_wp2_with fail
      go_region
      go_wp2
      go_roundw
      case rel => exact ⟨k + 1, by omega, by go_num, by rw [RSk.out]; exact O3'.out, B3.out.drew⟩
      case measure => simp [intOf]; omega
    · obtain rfl : k = M := by omega
      have QR := QO.out
      rw [RT.out] at QR
      have Q2 := Lib.hid QR
      clear QR
      go_wp2
      go_ret
      exact ⟨b, rfl, BS.out, Q2.out, QB.out⟩
/-! Rows, Number -/
/-- what Rows hands back -/
def RowsPost (g : Gr) (w : World) (e : Ending) (w' : World) : Prop := Below w.heap.size w w' ∧
  ((ckG g ≠ 0 ∧ e = .returned (.tuple #[.slice none 0 0, .int .i64 (ckG g)])) ∨
   (Valid g ∧ ∃ b, e = .returned (.tuple #[.slice (some ⟨b, 0, none⟩) g.ns.length g.ns.length, .int .i64 0]) ∧ w.heap.size ≤ b ∧ WO w.heap.size (.slice (some ⟨b, 0, none⟩) g.ns.length g.ns.length) (rowsTo g.ns.length g.es) w'))
theorem wo_base {B B' : Nat} {v : Value} {r : List Bv} {w : World} (h : WO B v r w) (hb : B' ≤ B) : WO B' v r w := by
  refine ⟨h.1, h.2.imp id ?_⟩
  rintro ⟨g, cap, cur, h1, h2, h3⟩
  exact ⟨g, cap, cur, h1, Nat.le_trans hb h2, h3⟩
set_option maxHeartbeats 4000000 in
theorem rows_any {w : World} {v : Value} {g : Gr} (h : GIn w v g) : Calls Tryd.prog 7 #[v] w (RowsPost g w) := by
  have CK := Lib.hid (fun W (hW : Below w.heap.size w W) => check_graph (h.later hW))
  have RO := Lib.hid (fun W (hW : Below w.heap.size w W) (hv : Valid g) => rowsOf_any (h.later hW) hv.len hv.ein)
  have CZ : Hid (ckG g = 0 → Valid g) := ckG_zero
  obtain ⟨nv, ev, rfl, h1, h2⟩ := h
  have WA := Lib.hid (below_al w (.cells #[nv, ev, .int .u64 (g.ph.toNat : Int), .int .u64 (g.md.toNat : Int)] 26))
  have K0 : Hid (GBlk w.heap.size nv ev g (w.alloc (.cells #[nv, ev, .int .u64 (g.ph.toNat : Int), .int .u64 (g.md.toNat : Int)] 26))) := blk_new _ _ _
  obtain ⟨d0, d1, d2, d3⟩ := K0.out.get
  have RP : Hid (∀ e w', RowsPost g w e w' ↔ (Below w.heap.size w w' ∧ ((ckG g ≠ 0 ∧ e = .returned (.tuple #[.slice none 0 0, .int .i64 (ckG g)])) ∨ (Valid g ∧ ∃ b, e = .returned (.tuple #[.slice (some ⟨b, 0, none⟩) g.ns.length g.ns.length, .int .i64 0]) ∧ w.heap.size ≤ b ∧ WO w.heap.size (.slice (some ⟨b, 0, none⟩) g.ns.length g.ns.length) (rowsTo g.ns.length g.es) w')))) := fun _ _ => Iff.rfl
  obtain ⟨a1, c1, rfl⟩ := h1.shape2
  obtain ⟨a2, c2, rfl⟩ := h2.shape2
  clear h1 h2
  generalize ckG g = C at *
  generalize g.ns.length = L at *
  generalize g.es.length = M at *
  go_enter Tryd.func7, Tryd.ntmps7
  go_wp2_with fail
  refine (CK.out _ WA.out).mono ?_
  rintro e w2 ⟨rfl, b2⟩
  have B2 := Lib.hid (WA.out.trans (b2.mono WA.out.size))
  have K2 := Lib.hid (K0.out.later b2)
  clear b2 d0 d1 d2 d3
  by_cases hc : C = 0
  · obtain ⟨d0, d1, d2, d3⟩ := K2.out.get
    subst hc
    have HV := Lib.hid (CZ.out rfl)
    clear CZ
    go_wp2_with fail
    refine (RO.out _ B2.out HV.out).mono ?_
    rintro e w3 ⟨b, rfl, hb, o3, b3⟩
    have B3 := Lib.hid (B2.out.trans (b3.mono B2.out.size))
    have O3 := Lib.hid (wo_base o3 B2.out.size)
    have HB := Lib.hid (Nat.le_trans B2.out.size hb)
    clear b3 o3 hb d0 d1 d2 d3
    go_wp2
    go_ret2
    exact (RP.out _ _).2 ⟨B3.out, .inr ⟨HV.out, b, rfl, HB.out, O3.out⟩⟩
  · have t := zero_ne hc
    have HC := Lib.hid hc
    clear hc CZ
    go_wp2
    go_ret2
    exact (RP.out _ _).2 ⟨B2.out, .inl ⟨HC.out, rfl⟩⟩
/-- what Number hands back -/
def NumPost (g : Gr) (x : Str) (w : World) (e : Ending) (w' : World) : Prop := Below w.heap.size w w' ∧
  ((ckG g ≠ 0 ∧ e = .returned (.tuple #[.int .i64 0, .int .i64 (ckG g)])) ∨
   (Valid g ∧ ((∃ i : Nat, i < g.ns.length ∧ g.ns.getD i [] = x ∧ e = .returned (.tuple #[.int .i64 i, .int .i64 0])) ∨ (x ∉ g.ns ∧ e = .returned (.tuple #[.int .i64 0, .int .i64 5])))))
set_option maxHeartbeats 4000000 in
theorem number_any {w : World} {v : Value} {g : Gr} (x : Str) (h : GIn w v g) : Calls Tryd.prog 10 #[v, .string (bs x)] w (NumPost g x w) := by
  have CK := Lib.hid (fun W (hW : Below w.heap.size w W) => check_graph (h.later hW))
  have CZ : Hid (ckG g = 0 → Valid g) := ckG_zero
  have RP : Hid (∀ e w', NumPost g x w e w' ↔ (Below w.heap.size w w' ∧ ((ckG g ≠ 0 ∧ e = .returned (.tuple #[.int .i64 0, .int .i64 (ckG g)])) ∨ (Valid g ∧ ((∃ i : Nat, i < g.ns.length ∧ g.ns.getD i [] = x ∧ e = .returned (.tuple #[.int .i64 i, .int .i64 0])) ∨ (x ∉ g.ns ∧ e = .returned (.tuple #[.int .i64 0, .int .i64 5]))))))) := fun _ _ => Iff.rfl
  obtain ⟨nv, ev, rfl, h1, h2⟩ := h
  have FI := Lib.hid (fun W (hW : Below w.heap.size w W) (hv : Valid g) => find_of (h1.later hW) hv.up x)
  have WA := Lib.hid (below_al w (.cells #[nv, ev, .int .u64 (g.ph.toNat : Int), .int .u64 (g.md.toNat : Int)] 26))
  have K0 : Hid (GBlk w.heap.size nv ev g (w.alloc (.cells #[nv, ev, .int .u64 (g.ph.toNat : Int), .int .u64 (g.md.toNat : Int)] 26))) := blk_new _ _ _
  obtain ⟨d0, d1, d2, d3⟩ := K0.out.get
  obtain ⟨a1, c1, rfl⟩ := h1.shape2
  obtain ⟨a2, c2, rfl⟩ := h2.shape2
  clear h1 h2
  generalize ckG g = C at *
  have FP : Hid (∀ e, FindPost g.ns x e → ((∃ i : Nat, i < g.ns.length ∧ g.ns.getD i [] = x ∧ e = .returned (.tuple #[.int .i64 i, .bool true])) ∨ x ∉ g.ns ∧ e = .returned (.tuple #[.int .i64 0, .bool false]))) := fun e h => h
  generalize hL : g.ns.length = L at *
  generalize g.es.length = M at *
  clear hL
  go_enter Tryd.func10, Tryd.ntmps10
  go_wp2_with fail
  refine (CK.out _ WA.out).mono ?_
  rintro e w2 ⟨rfl, b2⟩
  have B2 := Lib.hid (WA.out.trans (b2.mono WA.out.size))
  have K2 := Lib.hid (K0.out.later b2)
  clear b2 d0 d1 d2 d3
  by_cases hc : C = 0
  · obtain ⟨d0, d1, d2, d3⟩ := K2.out.get
    subst hc
    have HV := Lib.hid (CZ.out rfl)
    clear CZ
    go_wp2_with fail
    refine (FI.out _ B2.out HV.out).mono ?_
    rintro e w3 ⟨hf, q, rfl⟩
    clear d0 d1 d2 d3
    rcases FP.out _ hf with ⟨i, h1, h2, rfl⟩ | ⟨h1, rfl⟩
    · have H1 := Lib.hid h1; have H2 := Lib.hid h2
      clear h1 h2 hf
      go_wp2
      go_ret2
      exact (RP.out _ _).2 ⟨below_drewN B2.out q, .inr ⟨HV.out, .inl ⟨i, H1.out, H2.out, rfl⟩⟩⟩
    · have H1 := Lib.hid h1
      clear h1 hf
      go_wp2
      go_ret2
      exact (RP.out _ _).2 ⟨below_drewN B2.out q, .inr ⟨HV.out, .inr ⟨H1.out, rfl⟩⟩⟩
  · have t := zero_ne hc
    have HC := Lib.hid hc
    clear hc CZ
    go_wp2
    go_ret2
    exact (RP.out _ _).2 ⟨B2.out, .inl ⟨HC.out, rfl⟩⟩
end Go.Proofs.YtpjcdfphllbonaaDoor
