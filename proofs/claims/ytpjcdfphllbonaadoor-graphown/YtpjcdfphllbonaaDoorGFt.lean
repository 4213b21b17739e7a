/-
  The document's answer (package millwrightref) for graphs: GraphFault. No condition.
-/
import Derived.Test.YtpjcdfphllbonaaDoorGRh
namespace Go.Proofs.YtpjcdfphllbonaaDoor
set_option maxRecDepth 100000
set_option linter.unusedVariables false
open Go.ChangeShapes Go.WideShapes Go.ChangeAt Go.RowKit

theorem ckG_n {g : Gr} {c : Int} (h : ckN g.ns = c) (hc : c ≠ 0) : ckG g = c := by unfold ckG; rw [if_pos (by rw [h]; exact hc), h]
theorem ckG_e {g : Gr} {c : Int} (h0 : ckN g.ns = 0) (h : ckE g.ns.length g.es = c) (hc : c ≠ 0) : ckG g = c := by
  unfold ckG; rw [if_neg (by rw [h0]; simp), if_pos (by rw [h]; exact hc), h]
theorem ckG_s {g : Gr} (h0 : ckN g.ns = 0) (h1 : ckE g.ns.length g.es = 0) (hs : ¬ SetIn g.ns.length (g.ph ||| g.md)) : ckG g = 4 := by
  unfold ckG; rw [if_neg (by rw [h0]; simp), if_neg (by rw [h1]; simp), if_neg hs]
theorem ckN_mk {z : List Str} (h1 : z.length ≤ 64) (h2 : z.all good = true) (h3 : Up z) : ckN z = 0 := by
  unfold ckN; rw [if_neg (by omega), if_pos ⟨fun x hx => List.all_eq_true.1 h2 x hx, h3⟩]
theorem ckN_bad {z : List Str} (h1 : z.length ≤ 64) (h2 : z.all good = false ∨ ¬ Up z) : ckN z = 3 := by
  unfold ckN
  rw [if_neg (by omega), if_neg]
  rintro ⟨h3, h4⟩
  rcases h2 with h2 | h2
  · have : z.all good = true := List.all_eq_true.2 h3
    rw [h2] at this; cases this
  · exact h2 h4
set_option maxHeartbeats 16000000 in
theorem refFault_any {w : World} {v : Value} {g : Gr} (h : GIn w v g) :
    Calls Tryd.prog 11 #[v] w fun e w' => e = .returned (.int .i64 (ckG g)) ∧ Below w.heap.size w w' := by
  obtain ⟨nv, ev, rfl, h1, h2⟩ := h
  have hbn := h1.bound
  have hbe := h2.bound
  have GN := Lib.hid (fun W (hW : Below w.heap.size w W) => goodNames_of (h1.later hW))
  have W0 := Lib.hid (below_al w (.cells #[nv, ev, .int .u64 (g.ph.toNat : Int), .int .u64 (g.md.toNat : Int)] 26))
  have K0 : Hid (GBlk w.heap.size nv ev g (w.alloc (.cells #[nv, ev, .int .u64 (g.ph.toNat : Int), .int .u64 (g.md.toNat : Int)] 26))) := blk_new _ _ _
  obtain ⟨a1, c1, rfl, hcn⟩ := sin_at h1
  obtain ⟨a2, c2, rfl, hce⟩ := ein_at h2
  have NC := Lib.hid hcn; have EC := Lib.hid hce
  obtain ⟨d0, d1, d2, d3⟩ := K0.out.get
  have E2 : Hid (64 < g.ns.length → ckG g = 2) := Lib.hid fun h => ckG_n (by unfold ckN; rw [if_pos h]) (by decide)
  have E3 : Hid (g.ns.length ≤ 64 → (g.ns.all good = false ∨ ¬ Up g.ns) → ckG g = 3) := Lib.hid fun h h' => ckG_n (ckN_bad h h') (by decide)
  have CN : Hid (g.ns.length ≤ 64 → g.ns.all good = true → Up g.ns → ckN g.ns = 0) := Lib.hid ckN_mk
  have E4 : Hid (ckN g.ns = 0 → ∀ k, k < g.es.length → ¬ edOk g.ns.length (edAt g.es k) → ckG g = 4) := Lib.hid fun h0 k hk hx => ckG_e h0 (by unfold ckE; rw [if_neg]; exact fun h => hx (h _ (edAt_mem hk))) (by decide)
  have E5 : Hid (ckN g.ns = 0 → (∀ j, j < g.es.length → edOk g.ns.length (edAt g.es j)) → ¬ EdUp g.es → ckG g = 3) := Lib.hid fun h0 h hu => ckG_e h0 (by unfold ckE; rw [if_pos (edIn_at h), if_neg hu]) (by decide)
  have CE : Hid ((∀ j, j < g.es.length → edOk g.ns.length (edAt g.es j)) → EdUp g.es → ckE g.ns.length g.es = 0) := Lib.hid fun h hu => by unfold ckE; rw [if_pos (edIn_at h), if_pos hu]
  have E6 : Hid (ckN g.ns = 0 → ckE g.ns.length g.es = 0 → ¬ SetIn g.ns.length (g.ph ||| g.md) → ckG g = 4) := Lib.hid ckG_s
  have E0 : Hid (ckN g.ns = 0 → ckE g.ns.length g.es = 0 → SetIn g.ns.length (g.ph ||| g.md) → ckG g = 0) := Lib.hid fun h k s => by unfold ckG; rw [if_neg (by rw [h]; simp), if_neg (by rw [k]; simp), if_pos s]
  have UN : Hid ((∀ m, m + 1 < g.ns.length → g.ns.getD m [] < g.ns.getD (m + 1) []) → Up g.ns) := up_next
  have UA : Hid (∀ m, m + 1 < g.ns.length → Up g.ns → g.ns.getD m [] < g.ns.getD (m + 1) []) := fun m hm h => up_get h (by omega) hm
  have EN : Hid ((∀ m, m + 1 < g.es.length → edLt (edAt g.es m) (edAt g.es (m + 1))) → EdUp g.es) := edUp_next
  have EA : Hid (∀ m, m + 1 < g.es.length → EdUp g.es → edLt (edAt g.es m) (edAt g.es (m + 1))) := fun m hm h => edUp_at h hm
  have PB : Hid (∀ i, (g.ph ||| g.md).getLsbD i = (g.ph.getLsbD i || g.md.getLsbD i)) := fun i => BitVec.getLsbD_or
  have KS : Hid (∀ W, GBlk w.heap.size (.slice a1 g.ns.length c1) (.slice a2 g.es.length c2) g W → W.cell? ⟨w.heap.size, 0, none⟩ = some (.slice a1 g.ns.length c1) ∧ W.cell? ⟨w.heap.size, 1, none⟩ = some (.slice a2 g.es.length c2) ∧ W.cell? ⟨w.heap.size, 2, none⟩ = some (.int .u64 (g.ph.toNat : Int)) ∧ W.cell? ⟨w.heap.size, 3, none⟩ = some (.int .u64 (g.md.toNat : Int))) := fun W h => h.get
  clear h1 h2 hcn hce
  generalize ckG g = G at *
  generalize ckN g.ns = N at *
  generalize ckE g.ns.length g.es = CEV at *
  generalize hAG : g.ns.all good = AG at *
  clear hAG
  generalize g.ns.length = L at *
  generalize g.es.length = M at *
  go_enter Tryd.func11, Tryd.ntmps11
  by_cases hL : 64 < L
  · have EE := Lib.hid (E2.out hL)
    go_wp2
    go_ret
    exact ⟨by rw [EE.out]; rfl, W0.out⟩
  have hl : L ≤ 64 := by omega
  clear hL E2
  go_wp2_with fail
  refine (GN.out _ W0.out).mono ?_
  rintro e w' ⟨rfl, rfl⟩
  cases AG
  · have EE := Lib.hid (E3.out hl (.inl rfl))
    clear E3 CN
    go_wp2
    go_ret
    exact ⟨by rw [EE.out]; rfl, W0.out⟩
  have CN1 := Lib.hid (CN.out hl rfl)
  have E31 := Lib.hid (fun h => E3.out hl (.inr h))
  clear CN E3 GN
  go_wp2_with fail
  generalize w.alloc (.cells #[.slice a1 L c1, .slice a2 M c2, .int .u64 (g.ph.toNat : Int), .int .u64 (g.md.toNat : Int)] 26) = W1 at *
  go_loopw [4] (fun i wr => ∃ m : Nat, i = .int .i64 ((m + 1 : Nat) : Int) ∧ (m + 1 ≤ L ∨ m = 0) ∧ (∀ j, j < m → g.ns.getD j [] < g.ns.getD (j + 1) []) ∧ ∃ q, wr = W1.drewN q) (fun i _ => L + 1 - (intOf i).toNat)
  case atStart => exact ⟨0, rfl, .inr rfl, fun j hj => absurd hj (Nat.not_lt_zero _), 0, rfl⟩
  case round =>
    obtain ⟨m, rfl, hm, ha, q, rfl⟩ := hrel
    have HA := Lib.hid ha; clear ha
    by_cases hlt : m + 1 < L
    · obtain ⟨b, off, rfl, c0⟩ := NC.out _ W0.out m (by omega)
      obtain ⟨b', off', e, c1'⟩ := NC.out _ W0.out (m + 1) hlt
      injection e with e; injection e with e1 e2; subst e1 e2
      have UA1 := Lib.hid (UA.out m hlt)
      have HX : Hid (g.ns.getD m [] < g.ns.getD (m + 1) [] → ∀ j, j < m + 1 → g.ns.getD j [] < g.ns.getD (j + 1) []) := fun h j hj => by
        rcases Nat.lt_succ_iff_lt_or_eq.1 hj with h' | rfl
        · exact HA.out j h'
        · exact h
      have bl : Op.bytesLess (bs (g.ns.getD m [])).toList (bs (g.ns.getD (m + 1) [])).toList = decide (g.ns.getD m [] < g.ns.getD (m + 1) []) := by rw [bs_toList, bs_toList]; exact bytesLess_eq _ _
      generalize g.ns.getD m [] = x at *
      generalize g.ns.getD (m + 1) [] = y at *
      by_cases hxy : x < y
      · have LT := Lib.hid (HX.out hxy)
        rw [decide_eq_true hxy] at bl
        clear hxy HX UA1
        go_wp2_with fail
        go_quiet (fail)
        go_wp2
        go_roundw
        case rel => exact ⟨m + 1, by go_num, .inl (by omega), LT.out, _, rfl⟩
        case measure => simp [intOf]; omega
      · have EE := Lib.hid (E31.out fun h => hxy (UA1.out h))
        rw [decide_eq_false hxy] at bl
        clear hxy HX UA1
        go_wp2_with fail
        go_quiet (fail)
        go_wp2
        go_ret
        exact ⟨by rw [EE.out]; rfl, below_drewN (below_drewN W0.out _) _⟩
    · have N0 := Lib.hid (CN1.out (UN.out fun j hj => HA.out j (by omega)))
      have W2 := Lib.hid (below_drewN W0.out q)
      have K2 : Hid (GBlk w.heap.size (.slice a1 L c1) (.slice a2 M c2) g (W1.drewN q)) := K0.out
      have e0 := (KS.out _ K2.out).1
      have e1 := (KS.out _ K2.out).2.1
      clear d0 d1 d2 d3 HA CN1 UN UA NC E31
      generalize W1.drewN q = W3 at *
      go_wp2_with fail
      go_loopw [40] (fun i wr => ∃ k : Nat, k ≤ M ∧ i = .int .i64 (k : Int) ∧ (∀ j, j < k → edOk L (edAt g.es j)) ∧ GBlk w.heap.size (.slice a1 L c1) (.slice a2 M c2) g wr ∧ Below w.heap.size w wr) (fun i _ => M - (intOf i).toNat)
      case atStart => exact ⟨0, Nat.zero_le _, rfl, fun j hj => absurd hj (Nat.not_lt_zero _), K2.out, W2.out⟩
      case round =>
        obtain ⟨k, hk, rfl, ha, qk, qb⟩ := hrel
        have HA := Lib.hid ha; have QK := Lib.hid qk; have QB := Lib.hid qb; clear ha qk qb
        rename World => W4
        by_cases hkl : k < M
        · obtain ⟨b, off, rfl, c0, c1'⟩ := EC.out W4 QB.out k hkl
          have HX : Hid (edOk L (edAt g.es k) → ∀ j, j < k + 1 → edOk L (edAt g.es j)) := fun h j hj => by
            rcases Nat.lt_succ_iff_lt_or_eq.1 hj with h' | rfl
            · exact HA.out j h'
            · exact h
          have EX := Lib.hid (E4.out N0.out k hkl)
          have OK : Hid (edOk L (edAt g.es k) ↔ 0 ≤ (edAt g.es k).1 ∧ (edAt g.es k).1 < (L : Int) ∧ 0 ≤ (edAt g.es k).2 ∧ (edAt g.es k).2 < (L : Int)) := Iff.rfl
          generalize edOk L (edAt g.es k) = P at *
          generalize (edAt g.es k).1 = x at *
          generalize (edAt g.es k).2 = y at *
          have WA : Hid (Below w.heap.size w (W4.alloc (.cells #[.int .i64 x, .int .i64 y] 49))) := QB.out.alloc QB.out.size _
          have KA : Hid (GBlk w.heap.size (.slice a1 L c1) (.slice (some ⟨b, off, none⟩) M c2) g (W4.alloc (.cells #[.int .i64 x, .int .i64 y] 49))) := Blk.alloc QK.out _
          by_cases h0 : x < 0
          · have EE : Hid (G = 4) := Lib.hid (EX.out fun h => by have := OK.out.1 h; omega)
            clear OK EX HX e0 e1
            go_wp2
            go_ret
            exact ⟨by rw [EE.out]; rfl, WA.out⟩
          by_cases h1 : (L : Int) ≤ x
          · have EE : Hid (G = 4) := Lib.hid (EX.out fun h => by have := OK.out.1 h; omega)
            clear OK EX HX e0 e1
            go_wp2
            go_ret
            exact ⟨by rw [EE.out]; rfl, WA.out⟩
          by_cases h2 : y < 0
          · have EE : Hid (G = 4) := Lib.hid (EX.out fun h => by have := OK.out.1 h; omega)
            clear OK EX HX e0 e1
            go_wp2
            go_ret
            exact ⟨by rw [EE.out]; rfl, WA.out⟩
          by_cases h3 : (L : Int) ≤ y
          · have EE : Hid (G = 4) := Lib.hid (EX.out fun h => by have := OK.out.1 h; omega)
            clear OK EX HX e0 e1
            go_wp2
            go_ret
            exact ⟨by rw [EE.out]; rfl, WA.out⟩
          have YP : Hid P := Lib.hid (OK.out.2 (by omega))
          have HY := Lib.hid (HX.out YP.out)
          clear OK EX HX e0 e1
          go_wp2
          go_roundw
          case rel => exact ⟨k + 1, by omega, by go_num, HY.out, KA.out, WA.out⟩
          case measure => simp [intOf]; omega
        · obtain rfl : k = M := by omega
          clear e0 e1 K2 W2
          have f1 := (KS.out _ QK.out).2.1
          have E51 := Lib.hid (E5.out N0.out HA.out)
          have CE1 := Lib.hid (CE.out HA.out)
          go_wp2_with fail
          go_loopw [7] (fun i wr => ∃ m : Nat, i = .int .i64 ((m + 1 : Nat) : Int) ∧ (m + 1 ≤ k ∨ m = 0) ∧ (∀ j, j < m → edLt (edAt g.es j) (edAt g.es (j + 1))) ∧ GBlk w.heap.size (.slice a1 L c1) (.slice a2 k c2) g wr ∧ Below w.heap.size w wr) (fun i _ => k + 1 - (intOf i).toNat)
          case atStart => exact ⟨0, rfl, .inr rfl, fun j hj => absurd hj (Nat.not_lt_zero _), QK.out, QB.out⟩
          case round =>
            obtain ⟨m, rfl, hm, ha, qk, qb⟩ := hrel
            have HB := Lib.hid ha; have PK := Lib.hid qk; have PB2 := Lib.hid qb; clear ha qk qb f1
            rename World => W5
            have f1 := (KS.out _ PK.out).2.1
            by_cases hlt : m + 1 < k
            · obtain ⟨b, off, rfl, c0, c1'⟩ := EC.out W5 PB2.out m (by omega)
              obtain ⟨b', off', e, c2', c3'⟩ := EC.out W5 PB2.out (m + 1) hlt
              injection e with e; injection e with e1 e2; subst e1 e2
              have EA1 := Lib.hid (EA.out m hlt)
              have HX : Hid (edLt (edAt g.es m) (edAt g.es (m + 1)) → ∀ j, j < m + 1 → edLt (edAt g.es j) (edAt g.es (j + 1))) := fun h j hj => by
                rcases Nat.lt_succ_iff_lt_or_eq.1 hj with h' | rfl
                · exact HB.out j h'
                · exact h
              have LT : Hid (edLt (edAt g.es m) (edAt g.es (m + 1)) ↔ (edAt g.es m).1 < (edAt g.es (m + 1)).1 ∨ (edAt g.es m).1 = (edAt g.es (m + 1)).1 ∧ (edAt g.es m).2 < (edAt g.es (m + 1)).2) := Iff.rfl
              generalize edLt (edAt g.es m) (edAt g.es (m + 1)) = P at *
              generalize (edAt g.es m).1 = x1 at *
              generalize (edAt g.es m).2 = x2 at *
              generalize (edAt g.es (m + 1)).1 = y1 at *
              generalize (edAt g.es (m + 1)).2 = y2 at *
              have i1 : (0 : Int) ≤ (m : Int) := by omega
              have i2 : (m : Int) < (k : Int) := by omega
              have i3 : (0 : Int) ≤ (m : Int) + 1 := by omega
              have i4 : (m : Int) + 1 < (k : Int) := by omega
              have i5 : IntKind.i64.wrap (m : Int) = (m : Int) := by rw [IntKind.wrap_i64]; omega
              have w1' := World.new_ne W5 _ f1
              have w2' := World.new_ne W5 _ c0
              have w3' := World.new_ne W5 _ c1'
              have w4' := World.new_ne W5 _ c2'
              have w5' := World.new_ne W5 _ c3'
              have BA : Hid (∀ o1 o2, Below w.heap.size w ((W5.alloc o1).alloc o2).drew) := fun o1 o2 => ((PB2.out.alloc PB2.out.size o1).alloc (PB2.out.alloc PB2.out.size o1).size o2).drew
              have GA : Hid (∀ o1 o2, GBlk w.heap.size (.slice a1 L c1) (.slice (some ⟨b, off, none⟩) k c2) g ((W5.alloc o1).alloc o2).drew) := fun o1 o2 => (Blk.alloc (Blk.alloc PK.out o1) o2 : Blk _ _ _ _)
              rcases Int.lt_trichotomy x1 y1 with hx | hx | hx
              · have HY := Lib.hid (HX.out (LT.out.2 (.inl hx)))
                have t1 : decide (y1 < x1) = false := decide_eq_false (by omega)
                have t2 : (x1 == y1) = false := by rw [beq_eq_false_iff_ne]; omega
                clear HX EA1 LT
                go_wp2_with fail
                go_region_held3 (fun w' => w'.cell? ⟨w.heap.size, 1, none⟩ = some (.slice (some ⟨b, off, none⟩) k c2) ∧ w'.cell? ⟨b, off + m * 2, none⟩ = some (.int .i64 x1) ∧ w'.cell? ⟨b, off + m * 2 + 1, none⟩ = some (.int .i64 x2) ∧ w'.cell? ⟨b, off + (m + 1) * 2, none⟩ = some (.int .i64 y1) ∧ w'.cell? ⟨b, off + (m + 1) * 2 + 1, none⟩ = some (.int .i64 y2)) (first | exact ⟨f1, c0, c1', c2', c3'⟩ | assumption | go_keep) (fail)
                all_goals
                  go_wp2
                  go_roundw
                  case rel => exact ⟨_, _, _, _, _, _, _, _, _, _, _, _, _, _, _, _, _, _, _, _, _, _, _, _, _, _, _, _, _, _, _, _, _, _, _, _, _, _, _, _, _, ⟨m + 1, by go_num, .inl (by omega), HY.out, GA.out _ _, BA.out _ _⟩, rfl⟩
                  case measure => simp [intOf]; omega
              · subst hx
                have t1 : decide (x1 < x1) = false := decide_eq_false (by omega)
                have t2 : (x1 == x1) = true := by simp
                by_cases hy : x2 < y2
                · have HY := Lib.hid (HX.out (LT.out.2 (.inr ⟨rfl, hy⟩)))
                  have t3 : decide (y2 ≤ x2) = false := decide_eq_false (by omega)
                  clear HX EA1 LT
                  go_wp2_with fail
                  go_region_held3 (fun w' => w'.cell? ⟨w.heap.size, 1, none⟩ = some (.slice (some ⟨b, off, none⟩) k c2) ∧ w'.cell? ⟨b, off + m * 2, none⟩ = some (.int .i64 x1) ∧ w'.cell? ⟨b, off + m * 2 + 1, none⟩ = some (.int .i64 x2) ∧ w'.cell? ⟨b, off + (m + 1) * 2, none⟩ = some (.int .i64 x1) ∧ w'.cell? ⟨b, off + (m + 1) * 2 + 1, none⟩ = some (.int .i64 y2)) (first | exact ⟨f1, c0, c1', c2', c3'⟩ | assumption | go_keep) (fail)
                  all_goals
                    go_wp2
                    go_roundw
                    case rel => exact ⟨_, _, _, _, _, _, _, _, _, _, _, _, _, _, _, _, _, _, _, _, _, _, _, _, _, _, _, _, _, _, _, _, _, _, _, _, _, _, _, _, _, ⟨m + 1, by go_num, .inl (by omega), HY.out, GA.out _ _, BA.out _ _⟩, rfl⟩
                    case measure => simp [intOf]; omega
                · have EE : Hid (G = 3) := Lib.hid (E51.out fun h => by rcases LT.out.1 (EA1.out h) with h' | ⟨_, h'⟩ <;> omega)
                  have t3 : decide (y2 ≤ x2) = true := decide_eq_true (by omega)
                  clear HX EA1 LT
                  go_wp2_with fail
                  go_region_held3 (fun w' => w'.cell? ⟨w.heap.size, 1, none⟩ = some (.slice (some ⟨b, off, none⟩) k c2) ∧ w'.cell? ⟨b, off + m * 2, none⟩ = some (.int .i64 x1) ∧ w'.cell? ⟨b, off + m * 2 + 1, none⟩ = some (.int .i64 x2) ∧ w'.cell? ⟨b, off + (m + 1) * 2, none⟩ = some (.int .i64 x1) ∧ w'.cell? ⟨b, off + (m + 1) * 2 + 1, none⟩ = some (.int .i64 y2)) (first | exact ⟨f1, c0, c1', c2', c3'⟩ | assumption | go_keep) (fail)
                  all_goals
                    go_wp2
                    go_ret
                    exact ⟨by rw [EE.out]; rfl, BA.out _ _⟩
              · have EE : Hid (G = 3) := Lib.hid (E51.out fun h => by rcases LT.out.1 (EA1.out h) with h' | ⟨h', _⟩ <;> omega)
                have t1 : decide (y1 < x1) = true := decide_eq_true (by omega)
                clear HX EA1 LT
                go_wp2_with fail
                go_region_held3 (fun w' => w'.cell? ⟨w.heap.size, 1, none⟩ = some (.slice (some ⟨b, off, none⟩) k c2) ∧ w'.cell? ⟨b, off + m * 2, none⟩ = some (.int .i64 x1) ∧ w'.cell? ⟨b, off + m * 2 + 1, none⟩ = some (.int .i64 x2) ∧ w'.cell? ⟨b, off + (m + 1) * 2, none⟩ = some (.int .i64 y1) ∧ w'.cell? ⟨b, off + (m + 1) * 2 + 1, none⟩ = some (.int .i64 y2)) (first | exact ⟨f1, c0, c1', c2', c3'⟩ | assumption | go_keep) (fail)
                all_goals
                  go_wp2
                  go_ret
                  exact ⟨by rw [EE.out]; rfl, BA.out _ _⟩
            · have C0 := Lib.hid (CE1.out (EN.out fun j hj => HB.out j (by omega)))
              have P0 := PK.out
              obtain ⟨q0, q1, q2, q3⟩ := KS.out _ P0
              have E61 := Lib.hid (E6.out N0.out C0.out)
              have E01 := Lib.hid (E0.out N0.out C0.out)
              clear q0 q1 CE1 E51 EN EA EC E4 E5 CE E6 E0 HB
              go_wp2_with fail
              go_loopw [10] (fun i wr => ∃ m : Nat, L ≤ m ∧ m ≤ 64 ∧ i = .int .i64 (m : Int) ∧ (∀ j, L ≤ j → j < m → (g.ph ||| g.md).getLsbD j = false) ∧ wr = W5) (fun i _ => 64 - (intOf i).toNat)
              case atStart => exact ⟨L, Nat.le_refl _, hl, rfl, fun j h1 h2 => by omega, rfl⟩
              case round =>
                obtain ⟨m, hLm, hm, rfl, qz, rfl⟩ := hrel
                have QZ := Lib.hid qz; clear qz
                by_cases hml : m < 64
                · cases hp : g.ph.getLsbD m
                  · cases hq : g.md.getLsbD m
                    · have NX : Hid (∀ j, L ≤ j → j < m + 1 → (g.ph ||| g.md).getLsbD j = false) := fun j h1 h2 => by
                        rcases Nat.lt_succ_iff_lt_or_eq.1 h2 with h' | rfl
                        · exact QZ.out j h1 h'
                        · rw [PB.out, hp, hq]; rfl
                      have I1 := Lib.hid (fun W => in_q g.ph m W hml false hp)
                      have I2 := Lib.hid (fun W => in_q g.md m W hml false hq)
                      clear hp hq
                      go_wp2_with fail
                      refine (I1.out _).mono ?_
                      rintro e w' ⟨rfl, rfl⟩
                      go_wp2_with fail
                      refine (I2.out _).mono ?_
                      rintro e w' ⟨rfl, rfl⟩
                      go_wp2
                      go_roundw
                      case rel => exact ⟨_, _, _, _, _, _, _, _, _, _, _, _, _, _, _, _, ⟨m + 1, by omega, by omega, by go_num, NX.out, trivial⟩, rfl⟩
                      case measure => simp [intOf]; omega
                    · have EE : Hid (G = 4) := Lib.hid (E61.out fun h => by have := h m hLm; rw [PB.out, hp, hq] at this; cases this)
                      have I1 := Lib.hid (fun W => in_q g.ph m W hml false hp)
                      have I2 := Lib.hid (fun W => in_q g.md m W hml true hq)
                      clear hp hq
                      go_wp2_with fail
                      refine (I1.out _).mono ?_
                      rintro e w' ⟨rfl, rfl⟩
                      go_wp2_with fail
                      refine (I2.out _).mono ?_
                      rintro e w' ⟨rfl, rfl⟩
                      go_wp2
                      go_ret
                      exact ⟨by rw [EE.out]; rfl, PB2.out⟩
                  · have EE : Hid (G = 4) := Lib.hid (E61.out fun h => by have := h m hLm; rw [PB.out, hp] at this; cases this)
                    have I1 := Lib.hid (fun W => in_q g.ph m W hml true hp)
                    clear hp
                    go_wp2_with fail
                    refine (I1.out _).mono ?_
                    rintro e w' ⟨rfl, rfl⟩
                    go_wp2
                    go_ret
                    exact ⟨by rw [EE.out]; rfl, PB2.out⟩
                · obtain rfl : m = 64 := by omega
                  have EE : Hid (G = 0) := Lib.hid (E01.out (setIn_lt QZ.out))
                  go_wp2
                  go_ret
                  exact ⟨by rw [EE.out]; rfl, PB2.out⟩
end Go.Proofs.YtpjcdfphllbonaaDoor
