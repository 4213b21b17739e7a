/-
  Package graph's Turn: what it hands back. Condition: the table of math/bits lies in memory as its text lays it (the card ties this).
-/
import Derived.Test.YtpjcdfphllbonaaDoorGTn
namespace Go.Proofs.YtpjcdfphllbonaaDoor
set_option maxRecDepth 100000
set_option linter.unusedVariables false
open Go.ChangeShapes Go.WideShapes Go.ChangeAt Go.RowKit

def zeroG : Value := .agg #[.slice none 0 0, .slice none 0 0, .int .u64 0, .int .u64 0]
/-- what Turn hands back -/
def TurnPost (g : Gr) (w : World) (e : Ending) (w' : World) : Prop := Below w.heap.size w w' ∧
  ((ckG g ≠ 0 ∧ e = .returned (.tuple #[zeroG, .int .i64 (ckG g)])) ∨ (Valid g ∧ ∃ v, e = .returned (.tuple #[v, .int .i64 0]) ∧ GO w.heap.size v (turnG g) w'))
theorem GO.kept {B k : Nat} {v : Value} {g : Gr} {w w' : World} (h : GO B v g w) (hg : w.grownBy w' (some k)) (hk : k < B) : GO B v g w' := by
  obtain ⟨nv, ev, h1, h2, h3, h4, h5⟩ := h
  exact ⟨nv, ev, h1, World.ownsRow.kept h2 hg (own_ne h2 hk), h3.kept hg (own_ne h2 hk), World.ownsRow.kept h4 hg (own_ne h4 hk), h5.kept hg (own_ne h4 hk)⟩
theorem below_grown {B k : Nat} {w0 w w' : World} (h : Below B w0 w) (hg : w.grownBy w' (some k)) (hB : B ≤ w.heap.size) (hk : B ≤ k) : Below B w0 w' := h.grown hg hB (fun q hq => by cases hq; exact hk)
set_option maxHeartbeats 8000000 in
theorem turn_any {w : World} {v : Value} {g : Gr} (h : GIn w v g) (ht : Tab w) : Calls Tryd.prog 8 #[v] w (TurnPost g w) := by
  have CK := Lib.hid (fun W (hW : Below w.heap.size w W) => check_graph (h.later hW))
  have CZ : Hid (ckG g = 0 → Valid g) := ckG_zero
  obtain ⟨nv, ev, rfl, h1, h2⟩ := h
  have HT := Lib.hid ht
  have hb2 := h2.bound
  obtain ⟨i0, hi, hz0, hz1, hz2⟩ := info_parts infoW
  have KR0 := Lib.hid (kr_new w nv ev g)
  have W0 := Lib.hid (below2 w (.cells #[nv, ev, .int .u64 (g.ph.toNat : Int), .int .u64 (g.md.toNat : Int)] 26) (.cells #[.slice none 0 0, .slice none 0 0, .int .u64 0, .int .u64 0] 26))
  have Z0 : Hid (w.heap.size + 2 ≤ ((w.alloc (.cells #[nv, ev, .int .u64 (g.ph.toNat : Int), .int .u64 (g.md.toNat : Int)] 26)).alloc (.cells #[.slice none 0 0, .slice none 0 0, .int .u64 0, .int .u64 0] 26)).heap.size) := Lib.hid (by simp)
  obtain ⟨a1, c1, rfl⟩ := h1.shape2
  obtain ⟨a2, c2, rfl, hc⟩ := ein_at h2
  have H1 := Lib.hid h1
  have HC := Lib.hid hc
  obtain ⟨d0, d1, d2, d3⟩ := KR0.out.1.get
  obtain ⟨⟨r0, r1, r2, r3⟩, f0, f1, f2, f3⟩ := KR0.out.res
  clear h1 h2 hc ht
  go_enter Tryd.func8, Tryd.ntmps8
  go_wp2_with fail
  refine (CK.out _ W0.out).mono ?_
  rintro e w1 ⟨rfl, b1⟩
  have B1 := Lib.hid (W0.out.trans (b1.mono W0.out.size))
  have KR1 := Lib.hid (KR0.out.later b1)
  have Z1 := Lib.hid (Nat.le_trans Z0.out b1.size)
  clear d0 d1 d2 d3 r0 r1 r2 r3 f0 f1 f2 f3 b1 KR0 W0 Z0
  obtain ⟨d0, d1, d2, d3⟩ := KR1.out.1.get
  obtain ⟨⟨r0, r1, r2, r3⟩, f0, f1, f2, f3⟩ := KR1.out.res
  by_cases hcz : ckG g = 0
  · have HV := Lib.hid (CZ.out hcz)
    rw [hcz]
    clear CZ hcz CK
    have hl := HV.out.len
    have RB := Lib.hid (fun k hk => rows_bound HV.out.ein (k := k) hk)
    have TE : Hid (turnG g = ⟨g.ns, edgesL (rowsTo g.ns.length (g.es.map sw)), g.ph, g.md⟩) := rfl
    have RS : Hid (∀ k, k < g.es.length → rowsTo g.ns.length ((g.es.take (k + 1)).map sw) = orAt (rowsTo g.ns.length ((g.es.take k).map sw)) (edAt g.es k).2.toNat (one (edAt g.es k).1.toNat)) := fun k hk => by
      rw [ed_take hk, List.map_append, List.map_cons, List.map_nil, rowsTo_snoc]; rfl
    have RT : Hid (rowsTo g.ns.length ((g.es.take g.es.length).map sw) = rowsTo g.ns.length (g.es.map sw)) := Lib.hid (by rw [List.take_length])
    have RL : Hid (∀ k, (rowsTo g.ns.length ((g.es.take k).map sw)).length = g.ns.length) := fun k => rowsTo_length _ _
    have R0 : Hid (rowsTo g.ns.length ((g.es.take 0).map sw) = List.replicate g.ns.length 0#64) := Lib.hid rfl
    have CL := Lib.hid (fun W (hW : Below w.heap.size w W) => cloneT_any (H1.out.later hW) (by omega) (fun x hx => by have := (good_len (HV.out.all x hx)).2; omega))
    have EO := Lib.hid (fun W (hW : Below w.heap.size w W) V (hv : WIn W V (rowsTo g.ns.length (g.es.map sw))) => edgesOf_any hv (by rw [rowsTo_length]; exact hl) (HT.out.below hW HT.out.1))
    have GG : Hid (∀ W a1 n1 c1 a2 n2 c2, SO w1.heap.size (.slice a1 n1 c1) g.ns W → Tl (.slice a1 n1 c1) W → Go.Proofs.YtpjcdfphllbonaaDoor.EO w1.heap.size (.slice a2 n2 c2) (edgesL (rowsTo g.ns.length (g.es.map sw))) W → TlE (.slice a2 n2 c2) W → GO w1.heap.size (.agg #[.slice a1 n1 c1, .slice a2 n2 c2, .int .u64 (g.ph.toNat : Int), .int .u64 (g.md.toNat : Int)]) (turnG g) W) := fun W a1 n1 c1 a2 n2 c2 q1 q2 q3 q4 => ⟨_, _, rfl, q1, q2, q3, q4⟩
    have BH : Hid (w.heap.size ≤ w1.heap.size) := B1.out.size
    have BT : Hid (∀ W, Below w1.heap.size w1 W → Below w.heap.size w W) := fun W hW => B1.out.trans (hW.mono B1.out.size)
    have KF : Hid (∀ W, Below w1.heap.size w1 W → KR W w.heap.size (.slice a1 g.ns.length c1) (.slice a2 g.es.length c2) g) := fun W hW => KR1.out.later hW
    have HC1 : Hid (∀ W, Below w1.heap.size w1 W → ∀ k, k < g.es.length → ∃ b off, a2 = some ⟨b, off, none⟩ ∧ W.cell? ⟨b, off + k * 2, none⟩ = some (.int .i64 (edAt g.es k).1) ∧ W.cell? ⟨b, off + k * 2 + 1, none⟩ = some (.int .i64 (edAt g.es k).2)) := fun W hW => HC.out W (BT.out W hW)
    clear H1 HC
    obtain ⟨w2, rmk, o2, g2⟩ := run_make_full (P := Tryd.prog) w1 w1.heap.size 27 24 i0 (.int .u64 0) 1 Tryd.underlying27 hi hz0 hz1 .i64 .i64 g.ns.length (by rw [hz2]; omega) (by unfold maxLen; omega) (Nat.le_refl _)
    rw [zeros_w] at o2
    have B2 : Hid (Below w1.heap.size w1 w2) := (Below.refl _ _).grown g2 (Nat.le_refl _) (fun q hq => by cases hq)
    have O2 : Hid (WO w1.heap.size (.slice (some ⟨w1.heap.size, 0, none⟩) g.ns.length g.ns.length) (rowsTo g.ns.length ((g.es.take 0).map sw)) w2) := by
      show World.ownsRow _ _ _ _ _ _ _
      rw [R0.out, List.length_replicate]; exact o2
    obtain ⟨e0, e1, e2, e3⟩ := (KF.out w2 B2.out).1.get
    generalize hL : g.ns.length = L at *
    generalize hM : g.es.length = M at *
    clear o2 g2 hi hz0 hz1 hz2 R0 d1 d2 d3 r0 r1 r2 r3 f0 f1 f2 f3 KR1
    generalize hb : w1.heap.size = b at *
    have HB := Lib.hid hb; clear hb
    go_wp2_with fail
    go_loopw [21] (fun i wr => ∃ k : Nat, k ≤ M ∧ i = .int .i64 (k : Int) ∧ WO b (.slice (some ⟨b, 0, none⟩) L L) (rowsTo L ((g.es.take k).map sw)) wr ∧ Below b w1 wr) (fun i _ => M - (intOf i).toNat)
    case atStart => exact ⟨0, Nat.zero_le _, rfl, O2.out, B2.out⟩
    case round =>
      obtain ⟨k, hk, rfl, qo, qb⟩ := hrel
      have QO := Lib.hid qo; have QB := Lib.hid qb; clear qo qb
      by_cases hkl : k < M
      · obtain ⟨eb, off, rfl, c0, c1'⟩ := HC1.out wr QB.out k hkl
        have RSk := Lib.hid (RS.out k hkl)
        have RLk := RL.out k
        obtain ⟨f, t, he, hf, htt⟩ := RB.out k hkl
        rw [he] at c0 c1' RSk
        simp only [Int.toNat_natCast] at RSk c0 c1'
        generalize rowsTo L ((g.es.take k).map sw) = r at *
        have hsz : b ≤ wr.heap.size := by have := QB.out.size; rw [HB.out] at this; exact this
        have WA : Hid (Below b w1 (wr.alloc (.cells #[.int .i64 (f : Int), .int .i64 (t : Int)] 49))) := QB.out.alloc hsz _
        have OA : WO b (.slice (some ⟨b, 0, none⟩) r.length L) r (wr.alloc (.cells #[.int .i64 (f : Int), .int .i64 (t : Int)] 49)) := by rw [RLk]; exact World.ownsRow.alloc QO.out _
        have cr := OA.cell (i := t) (by omega)
        have fr := OA.frozen t
        obtain ⟨O3, G3⟩ := OA.store t (one f)
        have e1 : bits .or .u64 ((wAt r t).toNat : Int) (IntKind.u64.wrap (2 ^ f)) = ((wAt r t ||| one f).toNat : Int) := by rw [one_walk f (by omega), bv_or]
        have O3' := Lib.hid O3
        have B3 := Lib.hid (below_grown WA.out G3 (by simp; omega) (Nat.le_refl _))
        rw [RLk] at O3'
        have hf' : (t : Int) < (L : Int) := by omega
        have ht' : (f : Int) < 64 := by omega
        clear O3 G3 OA he
        generalize ((wAt r t).toNat : Int) = x at *
        generalize ((wAt r t ||| one f).toNat : Int) = y at *
        go_wp2_with fail
        go_region
        go_wp2
        go_roundw
        case rel => exact ⟨k + 1, by omega, by go_num, by rw [RSk.out]; exact O3'.out, B3.out.drew⟩
        case measure => simp [intOf]; omega
      · obtain rfl : k = M := by omega
        have QR := QO.out
        rw [RT.out] at QR
        have WI := Lib.hid (WO.win (r := rowsTo L (g.es.map sw)) (by have := rowsTo_length L (g.es.map sw); unfold WO; rw [this]; unfold WO at QR; rw [this] at QR; exact QR))
        have WJ : Hid (∀ W, Below wr.heap.size wr W → WIn W (.slice (some ⟨b, 0, none⟩) L L) (rowsTo L (g.es.map sw))) := fun W hW => WI.out.later hW
        have BD : Hid (Below wr.heap.size wr wr.drew) := (Below.refl _ _).drew
        have hbw : b ≤ wr.heap.size := by have := QB.out.size; rw [HB.out] at this; exact this
        have BW1 : Hid (∀ W, Below wr.heap.size wr W → Below b w1 W) := fun W hW => QB.out.trans (hW.mono hbw)
        have BWr : Hid (∀ W, Below wr.heap.size wr W → Below w.heap.size w W) := fun W hW => BT.out _ (BW1.out _ hW)
        have KQ : Hid (∀ W, Below wr.heap.size wr W → KR W w.heap.size (.slice a1 L c1) (.slice a2 k c2) g) := fun W hW => KF.out _ (BW1.out _ hW)
        have KG : Hid (∀ W, Below wr.heap.size wr W → W.cell? ⟨w.heap.size, 0, none⟩ = some (.slice a1 L c1) ∧ W.cell? ⟨w.heap.size, 2, none⟩ = some (.int .u64 (g.ph.toNat : Int)) ∧ W.cell? ⟨w.heap.size, 3, none⟩ = some (.int .u64 (g.md.toNat : Int))) := fun W hW => by
          obtain ⟨q0, _, q2, q3⟩ := (KQ.out W hW).1.get
          exact ⟨q0, q2, q3⟩
        have LB : Hid (∀ W, Below wr.heap.size wr W → b ≤ W.heap.size) := fun W hW => Nat.le_trans hbw hW.size
        obtain ⟨d0, d2, d3⟩ := KG.out wr (Below.refl _ _)
        clear QR WI RL RS RT hbw
        generalize rowsTo L (g.es.map sw) = rr at *
        go_wp2_with fail
        go_region_held3 (fun w' => w'.cell? ⟨w.heap.size, 0, none⟩ = some (.slice a1 L c1) ∧ w'.cell? ⟨w.heap.size, 2, none⟩ = some (.int .u64 (g.ph.toNat : Int)) ∧ w'.cell? ⟨w.heap.size, 3, none⟩ = some (.int .u64 (g.md.toNat : Int))) (first | exact ⟨d0, d2, d3⟩ | exact ⟨k0, k2, k3⟩ | assumption | go_keep) (first
          | (go_at_call 27; refine (CL.out _ (BWr.out _ BD.out)).mono ?_; rintro e w5 ⟨an, nn, cn, rfl, o5, t5, b5⟩
             (try have OE := Lib.hid (own_later OE.out b5)); (try have TE1 := Lib.hid (TE1.out.later b5))
             have ON := Lib.hid (own_base o5 (LB.out _ BD.out)); have TN := Lib.hid t5
             have BD := Lib.hid (BD.out.trans (b5.mono BD.out.size))
             obtain ⟨k0, k2, k3⟩ := KG.out _ BD.out
             obtain ⟨⟨r0, r1, r2, r3⟩, f0, f1, f2, f3⟩ := (KQ.out _ BD.out).res
             clear o5 t5 b5)
          | (go_at_call 34; refine (EO.out _ (BWr.out _ BD.out) _ (WJ.out _ BD.out)).mono ?_; rintro e w6 ⟨ae, ne, ce, rfl, o6, t6, b6⟩
             (try have ON := Lib.hid (own_later ON.out b6)); (try have TN := Lib.hid (TN.out.later b6))
             have OE := Lib.hid (own_base o6 (LB.out _ BD.out)); have TE1 := Lib.hid t6
             have BD := Lib.hid (BD.out.trans (b6.mono BD.out.size))
             obtain ⟨k0, k2, k3⟩ := KG.out _ BD.out
             obtain ⟨⟨r0, r1, r2, r3⟩, f0, f1, f2, f3⟩ := (KQ.out _ BD.out).res
             clear o6 t6 b6))
        all_goals
          have BF := Lib.hid (BWr.out _ BD.out)
          have GX := Lib.hid (GG.out _ _ _ _ _ _ _ ON.out TN.out OE.out TE1.out)
          clear d0 d2 d3 k0 k2 k3
          go_wp2
          (try simp only [Exit.inBlock, Exit.then])
          refine bodyPost_ret (v := .tuple #[.agg #[.slice an nn cn, .slice ae ne ce, .int .u64 (g.ph.toNat : Int), .int .u64 (g.md.toNat : Int)], .int .i64 0]) ?_ rfl ⟨below_grown BF.out (set4_grown _ (w.heap.size + 1) _ _ _ _) BF.out.size (by omega), .inr ⟨HV.out, _, rfl, ?_⟩⟩
          · rw [results_cell_tmp rfl]; go_simp; try rfl
          · exact (GO.kept GX.out (set4_grown _ _ _ _ _ _) (by have := Z1.out; omega)).base BH.out
  · have t := zero_ne hcz
    have HN := Lib.hid hcz
    clear hcz CZ CK
    generalize hC : ckG g = C at *
    have EC := Lib.hid hC; clear hC
    go_wp2
    (try simp only [Exit.inBlock, Exit.then])
    refine bodyPost_ret (v := .tuple #[zeroG, .int .i64 C]) ?_ rfl ⟨?_, .inl ⟨by rw [EC.out]; exact HN.out, by rw [EC.out]⟩⟩
    · rw [results_cell_tmp rfl]; go_simp; rfl
    · exact below_grown B1.out (set4_grown w1 (w.heap.size + 1) _ _ _ _) B1.out.size (by omega)
end Go.Proofs.YtpjcdfphllbonaaDoor
