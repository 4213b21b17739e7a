/-
  Plain facts for the law GraphRight: a rule of the file is among what Fill answers, so its targets are made and its edges there. No condition.
  The law GraphRight. Conditions: a file of bounded size (FB), names there of at most 2^44 - 8192, the table of math/bits lies in memory as its text lays it (the card ties this).
-/
import Derived.Test.YtebjofffijnihaaGreatDoorGc27GMe
import Derived.Test.YtebjofffijnihaaGreatDoorGc26GTl
import Derived.Test.YtebjofffijnihaaGreatDoorGc22IFi
namespace Go.Proofs.YtebjofffijnihaaGreatDoor
set_option maxRecDepth 100000
set_option linter.unusedVariables false

/-- a target of the file's rules has its rule in what Fill answers, with all the needs that were said -/
theorem fill_said {l z : List Rl} (hj : Joined l z) {I : List Mc} {T : List Str} {t : Str} (ht : t ∈ uniq (allT l)) : ∃ r ∈ fillL l z I T, r.1 = [t] ∧ ∀ n ∈ needsR l t, n ∈ r.2 := by
  have hU : t ∈ uniq (namesJ z) := by
    refine uniq_mem.2 ?_
    unfold namesJ
    rw [hj.eq]
    exact List.mem_flatMap.2 ⟨oneR l t, List.mem_map.2 ⟨t, ht, rfl⟩, List.mem_append_left _ (List.mem_singleton.2 rfl)⟩
  have hs : ∀ K, ∃ r, fillOne l I K t = some r ∧ ∀ n ∈ needsR l t, n ∈ r.2 := fun K => by
    by_cases h0 : needsR l t = []
    · have hn : ∀ r : Rl, ∀ n ∈ needsR l t, n ∈ r.2 := fun r n hn => by rw [h0] at hn; exact absurd hn List.not_mem_nil
      cases h1 : inf1 I K (stm t) (sfx t) with
      | some n => exact ⟨_, one_inf h0 h1, hn _⟩
      | none => exact ⟨_, one_made h0 h1 ht, hn _⟩
    · exact ⟨_, one_needs h0, fun n hn => hn⟩
  obtain ⟨r, hr, hn⟩ := hs (uniq (uniq (namesJ z) ++ T))
  exact ⟨r, by unfold fillL; exact List.mem_filterMap.2 ⟨t, hU, hr⟩, (one_rule hr).1, hn⟩
/-- the graph right of the file's rules l: each target is a made name, each need a name, with its edge -/
def RightOf (l : List Rl) (g : Gr) : Prop :=
  (∀ k, k < l.length → ∀ t ∈ tg l k, t ∈ g.ns ∧ ∀ i, i < g.ns.length → g.ns.getD i [] = t → g.md.getLsbD i = true) ∧
  (∀ k, k < l.length → ∀ t ∈ tg l k, ∀ n ∈ nd l k, n ∈ g.ns ∧ ∀ i j, i < g.ns.length → g.ns.getD i [] = t → j < g.ns.length → g.ns.getD j [] = n → ((i : Int), (j : Int)) ∈ g.es)
theorem make_right {l z : List Rl} (hj : Joined l z) {I : List Mc} {T P : List Str} (h64 : (namesR (fillL l z I T) P).length ≤ 64) : RightOf l (makeG (fillL l z I T) P) := by
  have hr : ∀ k, k < l.length → ∀ t ∈ tg l k, ∃ r ∈ fillL l z I T, r.1 = [t] ∧ ∀ n ∈ nd l k, n ∈ r.2 := fun k hk t ht => by
    have hm := rl_mem hk
    obtain ⟨r, h1, h2, h3⟩ := fill_said hj (I := I) (T := T) (uniq_mem.2 (List.mem_flatMap.2 ⟨_, hm, ht⟩) : t ∈ uniq (allT l))
    exact ⟨r, h1, h2, fun n hn => h3 n ((needs_spec l t n).2 ⟨_, hm, ht, hn⟩)⟩
  have hin := names_in (fillL l z I T) P
  constructor
  · intro k hk t ht
    obtain ⟨r, h1, h2, h3⟩ := hr k hk t ht
    have h4 : t ∈ r.1 := by rw [h2]; exact List.mem_singleton.2 rfl
    exact ⟨(hin r h1).1 t h4, fun i hi e => make_made h64 h1 hi (by have e' : (namesR (fillL l z I T) P).getD i [] = t := e; rw [e']; exact h4)⟩
  · intro k hk t ht n hn
    obtain ⟨r, h1, h2, h3⟩ := hr k hk t ht
    have h4 : t ∈ r.1 := by rw [h2]; exact List.mem_singleton.2 rfl
    exact ⟨(hin r h1).2 n (h3 n hn), fun i j hi ei hj' ej => make_edge h64 h1 hi (by have e' : (namesR (fillL l z I T) P).getD i [] = t := ei; rw [e']; exact h4) hj' (by have e' : (namesR (fillL l z I T) P).getD j [] = n := ej; rw [e']; exact h3 n hn)⟩
/-- an edge's head is made -/
def Heads (g : Gr) : Prop := ∀ x ∈ g.es, ∃ i j : Nat, x = ((i : Int), (j : Int)) ∧ i < 64 ∧ g.md.getLsbD i = true
theorem make_heads {R : List Rl} {P : List Str} (h64 : (namesR R P).length ≤ 64) (hg : ∀ x ∈ namesR R P, good x = true) : Heads (makeG R P) := fun x hx => by
  obtain ⟨h1, _, h3, _⟩ := (make_valid h64 hg).ein x hx
  have e : x = ((x.1.toNat : Int), (x.2.toNat : Int)) := by
    refine Prod.ext ?_ ?_
    · show x.1 = (x.1.toNat : Int); omega
    · show x.2 = (x.2.toNat : Int); omega
  refine ⟨x.1.toNat, x.2.toNat, e, ?_⟩
  rw [e] at hx
  exact make_from h64 hx
theorem bit_none {s : Bv} {k : Nat} (h : s.getLsbD k = true) : (bits .and .u64 ((s.toNat : Int) / 2 ^ k) 1 == 0) = false := by
  have h1 : bits .and .u64 ((s.toNat : Int) / 2 ^ k) 1 = (((s >>> k) &&& 1#64).toNat : Int) := by rw [bv_shr]; exact bv_and _ 1#64
  have hb : s.getLsbD k = decide (s.toNat / 2 ^ k % 2 = 1) := by
    show s.toNat.testBit k = _
    rw [Nat.testBit_eq_decide_div_mod_eq]
  rw [hb, decide_eq_true_iff] at h
  rw [h1, BitVec.toNat_and, BitVec.toNat_ushiftRight, Nat.shiftRight_eq_div_pow, show (1#64 : Bv).toNat = 1 from rfl, Nat.and_one_is_mod, h]
  rfl
end Go.Proofs.YtebjofffijnihaaGreatDoor
namespace Go.Proofs.YtebjofffijnihaaGreatDoor
set_option maxRecDepth 100000
set_option linter.unusedVariables false
open Go.ChangeShapes Go.WideShapes Go.ChangeAt Go.RowKit

theorem iin_of {w : World} {v : Value} {l : List Mc} (h : McIn w v l) (hb : ∀ m ∈ l, m.1.length ≤ 16777216 ∧ m.2.length ≤ 16777216) : IIn w v l := ⟨h, fun k hk => by
  obtain ⟨h1, h2⟩ := hb _ (mem_at hk)
  have h1' : (nm l k).length ≤ 16777216 := h1
  have h2' : (vl l k).length ≤ 16777216 := h2
  constructor
  · unfold maxLen; omega
  · unfold maxLen; omega⟩
theorem zgin (W : World) : GIn W zeroM ⟨[], [], 0#64, 0#64⟩ := ⟨_, _, rfl, sin_nil W, ⟨none, 0, rfl, Nat.le_refl _, Nat.zero_le _, Nat.zero_le _, .inl rfl⟩⟩
theorem find_in {w : World} {v : Value} {z : List Str} (h : SIn w v z) (hup : Up z) {x : Str} (hx : x ∈ z) :
    Calls Tryz.prog 7 #[v, .string (bs x)] w fun e w' => ∃ i : Nat, i < z.length ∧ z.getD i [] = x ∧ e = .returned (.tuple #[.int .i64 (i : Int), .bool true]) ∧ Below w.heap.size w w' :=
  (find_of h hup x).mono fun e w' => by
    rintro ⟨⟨i, h1, h2, rfl⟩ | ⟨h1, _⟩, q, rfl⟩
    · exact ⟨i, h1, h2, rfl, below_drewN (Below.refl _ _) q⟩
    · exact absurd hx h1
theorem conE_in {w : World} {v : Value} {z : List Ed} (h : EIn w v z) {i j : Nat} (hx : ((i : Int), (j : Int)) ∈ z) :
    Calls Tryz.prog 8 #[v, .agg #[.int .i64 (i : Int), .int .i64 (j : Int)]] w fun e w' => e = .returned (.bool true) ∧ Below w.heap.size w w' :=
  (conE_any z i j v w h).mono fun e w' => by
    rintro ⟨⟨b, rfl, hb⟩, k⟩
    rw [hb.2 hx]
    exact ⟨rfl, k⟩

theorem str_at {w : World} {a : Option Addr} {n c : Nat} {z : List Str} (h : SIn w (.slice a n c) z) {k : Nat} (hk : k < z.length) : ∃ b off, a = some ⟨b, off, none⟩ ∧ w.cell? ⟨b, off + k, none⟩ = some (.string (bs (z.getD k []))) := by
  obtain ⟨a', cap, e, h1⟩ := sin_at h
  injection e with e1 e2 e3
  subst e1
  exact h1 w (Below.refl _ _) k hk
set_option maxHeartbeats 16000000 in
theorem graphRight_any {w : World} {vm vp vi vr t : Value} {F : Fil} {T : List Str} (h : FIn w vm vp vi vr F) (hb : FB F) (hi : IIn w vi F.2.2.1) (hT : SIn w t T) (hl : T.length ≤ 17592186036224) (hp : F.2.1.length ≤ 16777216) (ht : Tab w) :
    Calls Tryz.prog 3 #[.agg #[vm, vp, vi, vr], t] w fun e w' => e = .returned (.bool true) ∧ Below w.heap.size w w' := by
  have MK := Lib.hid (fun W (hW : Below w.heap.size w W) => make_any (h.later hW) hb (hi.later hW) (hT.later hW) hl hp (ht.below hW ht.1))
  have WA := Lib.hid (below_al w (.cells #[vm, vp, vi, vr] 27))
  have K0 : Hid (Blk w.heap.size #[vm, vp, vi, vr] 27 (w.alloc (.cells #[vm, vp, vi, vr] 27))) := Lib.hid (blk_new _ _ _)
  have HR := Lib.hid h.rul
  obtain ⟨a1, c1, a2, c2, a3, c3, a4, c4, rfl, rfl, rfl, rfl⟩ := h.shapes
  obtain ⟨a5, c5, rfl⟩ := hT.shape
  clear h hT hi ht hb hl hp
  generalize F.1.length = n1 at *
  generalize F.2.1.length = n2 at *
  generalize F.2.2.1.length = n3 at *
  generalize hn4 : F.2.2.2.length = n4 at *
  generalize T.length = n5 at *
  have HN4 := Lib.hid hn4; clear hn4
  go_enter Tryz.func3, Tryz.ntmps3
  go_wp2_with fail
  refine (graphs_true _).mono ?_
  rintro e w1 ⟨rfl, b1⟩
  have B1 := Lib.hid (WA.out.trans (b1.mono WA.out.size))
  have K1 := Lib.hid (K0.out.later b1)
  clear b1
  have d0 := K1.out.cell (i := 0) rfl
  have d1 := K1.out.cell (i := 1) rfl
  have d2 := K1.out.cell (i := 2) rfl
  have d3 := K1.out.cell (i := 3) rfl
  go_wp2_with fail
  refine (MK.out _ B1.out).mono ?_
  rintro e w2 ⟨b2, ⟨c, hc, rfl⟩ | ⟨z, v, hj, h64, hg, rfl, gi⟩⟩
  · have B2 := Lib.hid (B1.out.trans (b2.mono B1.out.size))
    have t1 := zero_ne hc
    have ZG := Lib.hid (fun W => sameG_any (zgin W) (zgin W))
    have BA : Hid (Below w.heap.size w (w2.alloc (.cells #[.slice none 0 0, .slice none 0 0, .int .u64 0, .int .u64 0] 32))) := Lib.hid (B2.out.alloc B2.out.size _)
    clear b2 hc d0 d1 d2 d3
    unfold zeroM at ZG ⊢
    go_wp2_with fail
    refine (ZG.out _).mono ?_
    rintro e w3 ⟨rfl, b3⟩
    have B3 := Lib.hid (BA.out.trans (b3.mono BA.out.size))
    clear b3
    go_wp2
    go_ret
    exact ⟨rfl, B3.out⟩
  have B2 := Lib.hid (B1.out.trans (b2.mono B1.out.size))
  have K2 := Lib.hid (K1.out.later b2)
  have RO := Lib.hid (make_right hj.joined h64)
  have HD := Lib.hid (make_heads h64 hg)
  have VA : Hid (ckG (makeG (fillL F.2.2.2 z F.2.2.1 T) F.2.1) = 0) := Lib.hid (ckG_valid (make_valid h64 hg))
  have HUP : Hid (Up (makeG (fillL F.2.2.2 z F.2.2.1 T) F.2.1).ns) := Lib.hid (uniq_up _)
  have L64 : Hid ((makeG (fillL F.2.2.2 z F.2.2.1 T) F.2.1).ns.length ≤ 64) := Lib.hid h64
  clear h64 hg hj b2 d0 d1 d2 d3 MK K0 K1 WA B1
  generalize makeG (fillL F.2.2.2 z F.2.2.1 T) F.2.1 = g at *
  have GI := Lib.hid gi
  obtain ⟨nv, ev, rfl, gn, ge⟩ := gi
  have GN := Lib.hid gn; have GE := Lib.hid ge
  obtain ⟨xn, yn, rfl⟩ := gn.shape2
  obtain ⟨xe, ye, rfl⟩ := ge.shape2
  have hMb := ge.bound
  obtain ⟨_, _, eE, hEC⟩ := ein_at ge
  injection eE with eE1 eE2 eE3
  subst eE1
  clear eE2 eE3 gn ge
  have EC := Lib.hid hEC; clear hEC
  have FN : Hid (∀ W, Below w2.heap.size w2 W → ∀ x ∈ g.ns, Calls Tryz.prog 7 #[.slice xn g.ns.length yn, .string (bs x)] W fun e w' => ∃ i : Nat, i < g.ns.length ∧ g.ns.getD i [] = x ∧ e = .returned (.tuple #[.int .i64 (i : Int), .bool true]) ∧ Below W.heap.size W w') := Lib.hid fun W hW x hx => find_in (GN.out.later hW) HUP.out hx
  have CE : Hid (∀ W, Below w2.heap.size w2 W → ∀ i j : Nat, ((i : Int), (j : Int)) ∈ g.es → Calls Tryz.prog 8 #[.slice xe g.es.length ye, .agg #[.int .i64 (i : Int), .int .i64 (j : Int)]] W fun e w' => e = .returned (.bool true) ∧ Below W.heap.size W w') := Lib.hid fun W hW i j hx => conE_in (GE.out.later hW) hx
  have CK : Hid (∀ W, Below w2.heap.size w2 W → Calls Tryz.prog 9 #[.agg #[.slice xn g.ns.length yn, .slice xe g.es.length ye, .int .u64 (g.ph.toNat : Int), .int .u64 (g.md.toNat : Int)]] W fun e w' => e = .returned (.int .i64 0) ∧ Below W.heap.size W w') := Lib.hid fun W hW => by
    have := check_graph (GI.out.later hW)
    rw [VA.out] at this
    exact this
  have G0 : Hid (Blk w2.heap.size #[.slice xn g.ns.length yn, .slice xe g.es.length ye, .int .u64 (g.ph.toNat : Int), .int .u64 (g.md.toNat : Int)] 32 (w2.alloc (.cells #[.slice xn g.ns.length yn, .slice xe g.es.length ye, .int .u64 (g.ph.toNat : Int), .int .u64 (g.md.toNat : Int)] 32))) := Lib.hid (blk_new _ _ _)
  have W3 : Hid (Below w2.heap.size w2 (w2.alloc (.cells #[.slice xn g.ns.length yn, .slice xe g.es.length ye, .int .u64 (g.ph.toNat : Int), .int .u64 (g.md.toNat : Int)] 32))) := Lib.hid (below_al _ _)
  obtain ⟨_, _, eR, _, _, hbd, h5⟩ := id HR.out
  rw [HN4.out] at hbd
  injection eR with eR1 eR2 eR3
  subst eR1 eR3
  clear eR2
  obtain ⟨Tx, Ux, HC⟩ : ∃ Tx Ux : Nat → Value, Hid (∀ W, Below w2.heap.size w2 W → ∀ k, k < n4 → ∃ b off, a4 = some ⟨b, off, none⟩ ∧ W.cell? ⟨b, off + k * 2, none⟩ = some (Tx k) ∧ W.cell? ⟨b, off + k * 2 + 1, none⟩ = some (Ux k) ∧ SIn W (Tx k) (tg F.2.2.2 k) ∧ SIn W (Ux k) (nd F.2.2.2 k)) := by
    rcases h5 with h5 | ⟨b, off, ha, hlt, Tx, Ux, hc⟩
    · exact ⟨fun _ => .bool false, fun _ => .bool false, Lib.hid fun W hW k hk => by rw [← HN4.out, h5] at hk; exact absurd hk (Nat.not_lt_zero _)⟩
    · refine ⟨Tx, Ux, Lib.hid fun W hW k hk => ?_⟩
      rw [← HN4.out] at hk
      have hW4 := B2.out.trans (hW.mono B2.out.size)
      exact ⟨b, off, ha, cell_later hW4 (hc k hk).1, cell_later hW4 (hc k hk).2.1, (hc k hk).2.2.1.later hW4, (hc k hk).2.2.2.later hW4⟩
  have R1 : Hid (∀ k, k < n4 → ∀ t ∈ tg F.2.2.2 k, t ∈ g.ns ∧ ∀ i, i < g.ns.length → g.ns.getD i [] = t → i < 64 ∧ (bits .and .u64 ((g.md.toNat : Int) / 2 ^ i) 1 == 0) = false) := Lib.hid fun k hk t ht => by
    obtain ⟨h1, h2⟩ := RO.out.1 k (by rw [HN4.out]; exact hk) t ht
    exact ⟨h1, fun i hi e => ⟨Nat.lt_of_lt_of_le hi L64.out, bit_none (h2 i hi e)⟩⟩
  have R2 : Hid (∀ k, k < n4 → ∀ t ∈ tg F.2.2.2 k, ∀ n ∈ nd F.2.2.2 k, n ∈ g.ns ∧ ∀ i j, i < g.ns.length → g.ns.getD i [] = t → j < g.ns.length → g.ns.getD j [] = n → ((i : Int), (j : Int)) ∈ g.es) := Lib.hid fun k hk => RO.out.2 k (by rw [HN4.out]; exact hk)
  have R0 : Hid (∀ k, k < g.es.length → ∃ i j : Nat, edAt g.es k = ((i : Int), (j : Int)) ∧ i < 64 ∧ (bits .and .u64 ((g.md.toNat : Int) / 2 ^ i) 1 == 0) = false) := Lib.hid fun k hk => by
    obtain ⟨i, j, e, h1, h2⟩ := HD.out _ (edAt_mem hk)
    exact ⟨i, j, e, h1, bit_none h2⟩
  have KF : Hid (∀ W, Below w2.heap.size w2 W → W.cell? ⟨w.heap.size, 3, none⟩ = some (.slice a4 n4 c4)) := Lib.hid fun W hW => (K2.out.later hW).cell rfl
  clear h5 HR RO HD VA HUP L64 GI GN GE K2
  generalize g.ns.length = L at *
  generalize g.es.length = M at *
  generalize g.md.toNat = md at *
  generalize (g.ph.toNat : Int) = P at *
  go_wp2_with fail
  generalize hq : w2.heap.size = q at *
  have HQ := Lib.hid hq; clear hq
  go_loopw [35] (fun i wr => ∃ k : Nat, k ≤ M ∧ i = .int .i64 (k : Int) ∧ Blk q #[.slice xn L yn, .slice xe M ye, .int .u64 P, .int .u64 (md : Int)] 32 wr ∧ Below q w2 wr) (fun i _ => M - (intOf i).toNat)
  case atStart => exact ⟨0, Nat.zero_le _, rfl, G0.out, W3.out⟩
  case round =>
    obtain ⟨k, hk, rfl, qg, qb⟩ := hrel
    have QG := Lib.hid qg; have QB := Lib.hid qb; clear qg qb
    by_cases hkl : k < M
    · obtain ⟨xb, off, rfl, c0, c1'⟩ := EC.out wr QB.out k hkl
      obtain ⟨i, j, eij, hi, e1⟩ := R0.out k hkl
      rw [eij] at c0 c1'
      clear eij
      have hi64 : (i : Int) < 64 := by omega
      have GA := Lib.hid (QG.out.alloc (.cells #[.int .i64 (i : Int), .int .i64 (j : Int)] 38))
      have XA : Hid (Blk wr.heap.size #[.int .i64 (i : Int), .int .i64 (j : Int)] 38 (wr.alloc (.cells #[.int .i64 (i : Int), .int .i64 (j : Int)] 38))) := Lib.hid (blk_new _ _ _)
      have BA : Hid (Below q w2 (wr.alloc (.cells #[.int .i64 (i : Int), .int .i64 (j : Int)] 38))) := Lib.hid (QB.out.alloc (by have := QB.out.size; rw [HQ.out] at this; exact this) _)
      have g3 := GA.out.cell (i := 3) rfl
      have x0 := XA.out.cell (i := 0) rfl
      go_wp2_with fail
      go_roundw
      case rel => exact ⟨k + 1, by omega, by go_num, GA.out, BA.out⟩
      case measure => simp [intOf]; omega
    obtain rfl : k = M := by omega
    clear R0 EC G0 W3
    have d3 := KF.out wr QB.out
    go_wp2_with fail
    go_loopw [50] (fun i wr => ∃ k' : Nat, k' ≤ n4 ∧ i = .int .i64 (k' : Int) ∧ Blk q #[.slice xn L yn, .slice xe k ye, .int .u64 P, .int .u64 (md : Int)] 32 wr ∧ Below q w2 wr) (fun i _ => n4 - (intOf i).toNat)
    case atStart => exact ⟨0, Nat.zero_le _, rfl, QG.out, QB.out⟩
    case round =>
      clear QG QB d3
      obtain ⟨m, hm, rfl, qg, qb⟩ := hrel
      have QG := Lib.hid qg; have QB := Lib.hid qb; clear qg qb
      by_cases hml : m < n4
      · obtain ⟨xb, off, rfl, c0, c1', st, su⟩ := HC.out wr QB.out m hml
        have SU : Hid (∀ W, Below q w2 W → SIn W (Ux m) (nd F.2.2.2 m)) := Lib.hid fun W hW => by obtain ⟨_, _, _, _, _, _, h⟩ := HC.out W hW m hml; exact h
        have ST : Hid (∀ W, Below q w2 W → SIn W (Tx m) (tg F.2.2.2 m)) := Lib.hid fun W hW => by obtain ⟨_, _, _, _, _, h, _⟩ := HC.out W hW m hml; exact h
        have R1m := Lib.hid (R1.out m hml); have R2m := Lib.hid (R2.out m hml)
        have hltb := st.bound
        have hlnb := su.bound
        obtain ⟨at', ct, et⟩ := st.shape
        obtain ⟨an', cn, eu⟩ := su.shape
        rw [et] at c0 ST; rw [eu] at c1' SU
        have hsz : q ≤ wr.heap.size := by have := QB.out.size; rw [HQ.out] at this; exact this
        have WA : Hid (Below q w2 (wr.alloc (.cells #[.slice at' (tg F.2.2.2 m).length ct, .slice an' (nd F.2.2.2 m).length cn] 40))) := Lib.hid (QB.out.alloc hsz _)
        have X0 : Hid (Blk wr.heap.size #[.slice at' (tg F.2.2.2 m).length ct, .slice an' (nd F.2.2.2 m).length cn] 40 (wr.alloc (.cells #[.slice at' (tg F.2.2.2 m).length ct, .slice an' (nd F.2.2.2 m).length cn] 40))) := Lib.hid (blk_new _ _ _)
        have GA := Lib.hid (QG.out.alloc (.cells #[.slice at' (tg F.2.2.2 m).length ct, .slice an' (nd F.2.2.2 m).length cn] 40))
        have TC : Hid (∀ W, Below q w2 W → ∀ j, j < (tg F.2.2.2 m).length → ∃ b off, at' = some ⟨b, off, none⟩ ∧ W.cell? ⟨b, off + j, none⟩ = some (.string (bs ((tg F.2.2.2 m).getD j [])))) := Lib.hid fun W hW j hj => str_at (ST.out W hW) hj
        have NC : Hid (∀ W, Below q w2 W → ∀ j, j < (nd F.2.2.2 m).length → ∃ b off, an' = some ⟨b, off, none⟩ ∧ W.cell? ⟨b, off + j, none⟩ = some (.string (bs ((nd F.2.2.2 m).getD j [])))) := Lib.hid fun W hW j hj => str_at (SU.out W hW) hj
        have x0 := X0.out.cell (i := 0) rfl
        clear et eu st su QG QB ST SU
        generalize tg F.2.2.2 m = tl at *
        generalize nd F.2.2.2 m = nl at *
        generalize hlt : tl.length = lt at *
        generalize hln : nl.length = ln at *
        have HLT := Lib.hid hlt; have HLN := Lib.hid hln; clear hlt hln
        go_wp2_with fail
        generalize wr.heap.size = yb at *
        go_loopw [57] (fun i wr => ∃ j : Nat, j ≤ lt ∧ i = .int .i64 (j : Int) ∧ Blk q #[.slice xn L yn, .slice xe k ye, .int .u64 P, .int .u64 (md : Int)] 32 wr ∧ Blk yb #[.slice at' lt ct, .slice an' ln cn] 40 wr ∧ Below q w2 wr) (fun i _ => lt - (intOf i).toNat)
        case atStart => exact ⟨0, Nat.zero_le _, rfl, GA.out, X0.out, WA.out⟩
        case round =>
          clear GA X0 WA x0 c0 c1'
          obtain ⟨j, hj, rfl, jg, jx, jb⟩ := hrel
          have JG := Lib.hid jg; have JX := Lib.hid jx; have JB := Lib.hid jb; clear jg jx jb
          by_cases hjl : j < lt
          · obtain ⟨tb, tof, rfl, ct0⟩ := TC.out wr JB.out j hjl
            have hx : tl.getD j [] ∈ tl := getD_mem (by rw [HLT.out]; exact hjl)
            obtain ⟨x1, x2⟩ := R1m.out _ hx
            have R2x := Lib.hid (R2m.out _ hx)
            have X2 := Lib.hid x2
            have F1 := Lib.hid (FN.out wr JB.out _ x1)
            generalize tl.getD j [] = x at *
            have g0 := JG.out.cell (i := 0) rfl
            clear x1 x2 hx
            go_wp2_with fail
            refine F1.out.mono ?_
            rintro e w5 ⟨i, hil, hie, rfl, b5⟩
            have hq5 : q ≤ wr.heap.size := by have := JB.out.size; rw [HQ.out] at this; exact this
            have B5 : Hid (Below q w2 w5) := Lib.hid (JB.out.trans (b5.mono hq5))
            have G5 := Lib.hid (JG.out.later b5)
            have X5 := Lib.hid (JX.out.later b5)
            obtain ⟨hi, e1⟩ := X2.out i hil hie
            have HIE := Lib.hid hie
            have hi64 : (i : Int) < 64 := by omega
            clear b5 F1 g0 JG JX JB ct0 hie
            generalize bs x = sx at *
            have g3 := G5.out.cell (i := 3) rfl
            have y1 := X5.out.cell (i := 1) rfl
            go_wp2_with fail
            go_loopw [81] (fun i wr => ∃ n : Nat, n ≤ ln ∧ i = .int .i64 (n : Int) ∧ Blk q #[.slice xn L yn, .slice xe k ye, .int .u64 P, .int .u64 (md : Int)] 32 wr ∧ Blk yb #[.slice (some ⟨tb, tof, none⟩) lt ct, .slice an' ln cn] 40 wr ∧ Below q w2 wr) (fun i _ => ln - (intOf i).toNat)
            case atStart => exact ⟨0, Nat.zero_le _, rfl, G5.out, X5.out, B5.out⟩
            case round =>
              clear G5 X5 B5 y1 g3
              obtain ⟨n, hn, rfl, ng, nx, nb⟩ := hrel
              have NG := Lib.hid ng; have NX := Lib.hid nx; have NB := Lib.hid nb; clear ng nx nb
              by_cases hnl : n < ln
              · obtain ⟨sb, sof, rfl, cs0⟩ := NC.out wr NB.out n hnl
                have hy : nl.getD n [] ∈ nl := getD_mem (by rw [HLN.out]; exact hnl)
                obtain ⟨y1, y2⟩ := R2x.out _ hy
                have Y2 := Lib.hid y2
                have F2 := Lib.hid (FN.out wr NB.out _ y1)
                generalize nl.getD n [] = y at *
                have g0 := NG.out.cell (i := 0) rfl
                clear y1 y2 hy
                go_wp2_with fail
                refine F2.out.mono ?_
                rintro e w6 ⟨i', hil', hie', rfl, b6⟩
                have hq6 : q ≤ wr.heap.size := by have := NB.out.size; rw [HQ.out] at this; exact this
                have B6 : Hid (Below q w2 w6) := Lib.hid (NB.out.trans (b6.mono hq6))
                have G6 := Lib.hid (NG.out.later b6)
                have X6 := Lib.hid (NX.out.later b6)
                have C6 := Lib.hid (fun W (hW : Below q w2 W) => CE.out W hW i i' (Y2.out i i' hil HIE.out hil' hie'))
                have G6F : Hid (∀ W, Below w6.heap.size w6 W → W.cell? ⟨q, 1, none⟩ = some (.slice xe k ye)) := Lib.hid fun W hW => (G6.out.later hW).cell rfl
                clear b6 F2 g0 NG NX NB cs0 hie'
                generalize bs y = sy at *
                have g1 := G6F.out w6 (Below.refl _ _)
                go_wp2_with fail
                refine (C6.out w6 B6.out).mono ?_
                rintro e w7 ⟨rfl, b7⟩
                have hq7 : q ≤ w6.heap.size := by have := B6.out.size; rw [HQ.out] at this; exact this
                have B7 : Hid (Below q w2 w7) := Lib.hid (B6.out.trans (b7.mono hq7))
                have G7 := Lib.hid (G6.out.later b7)
                have X7 := Lib.hid (X6.out.later b7)
                clear b7 g1
                go_wp2
                go_roundw
                case rel => exact ⟨n + 1, by omega, by go_num, G7.out, X7.out, B7.out⟩
                case measure => simp [intOf]; omega
              · obtain rfl : n = ln := by omega
                go_wp2
                go_roundw
                case rel => exact ⟨j + 1, by omega, by go_num, NG.out, NX.out, NB.out⟩
                case measure => simp [intOf]; omega
          · obtain rfl : j = lt := by omega
            go_wp2
            go_roundw
            case rel => exact ⟨m + 1, by omega, by go_num, JG.out, JB.out⟩
            case measure => simp [intOf]; omega
      · obtain rfl : m = n4 := by omega
        have d0 := QG.out.cell (i := 0) rfl
        have d1 := QG.out.cell (i := 1) rfl
        have d2 := QG.out.cell (i := 2) rfl
        have d3 := QG.out.cell (i := 3) rfl
        have CKr := Lib.hid (CK.out wr QB.out)
        have BF := Lib.hid (B2.out.trans (QB.out.mono (by have := B2.out.size; rw [HQ.out] at this; exact this)))
        have hqr : q ≤ wr.heap.size := by have := QB.out.size; rw [HQ.out] at this; exact this
        have hqw : w.heap.size ≤ q := by have := B2.out.size; rw [HQ.out] at this; exact this
        go_wp2_with fail
        refine CKr.out.mono ?_
        rintro e w9 ⟨rfl, b9⟩
        have B9 := Lib.hid (BF.out.trans (b9.mono (by omega)))
        clear b9 d0 d1 d2 d3
        go_wp2
        go_ret
        exact ⟨rfl, B9.out⟩
end Go.Proofs.YtebjofffijnihaaGreatDoor
