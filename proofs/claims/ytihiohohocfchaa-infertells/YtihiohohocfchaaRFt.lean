/-
  What the reference's doubled, RuleFault, SameTexts and SameRules answer. No condition but those of the slices.
-/
import Derived.Test.YtihiohohocfchaaRJoinW
import Derived.Test.YtihiohohocfchaaNGood
import Derived.Test.YtihiohohocfchaaRHas
import Derived.BigQuiet
namespace Go.Proofs.Ytihiohohocfchaa
set_option maxRecDepth 100000
set_option linter.unusedVariables false
open Go.ChangeShapes Go.WideShapes Go.ChangeAt Go.RowKit

theorem uniq_nodup {z : List Str} (h : z.Nodup) : (uniq z).length = z.length := by
  have hp := sortS_perm z
  have hn : (sortS z).Nodup := hp.nodup_iff.2 h
  have hu : Up (sortS z) := ((sortS_asc z).and hn).imp fun ⟨a, b⟩ => lt_of_le_ne a b
  have e : uniq z = sortS z := (uniq_congr fun x => hp.mem_iff.symm).trans (uniq_self hu)
  rw [e, hp.length_eq]
theorem nodup_of {z : List Str} (h : ∀ k, k < z.length → z.getD k [] ∉ z.take k) : z.Nodup := by
  refine List.pairwise_iff_getElem.2 fun i j hi hj hij e => ?_
  have h1 := h j hj
  rw [List.getD, List.getElem?_eq_getElem hj] at h1
  refine h1 ?_
  show z[j] ∈ z.take j
  rw [← e]
  have hi' : i < (z.take j).length := by rw [List.length_take]; omega
  have := List.getElem_mem hi'
  rw [List.getElem_take] at this
  exact this
theorem str_split {z : List Str} {k : Nat} (h : k < z.length) : z = z.take k ++ z.getD k [] :: z.drop (k + 1) := by
  rw [List.getD, List.getElem?_eq_getElem h]
  show z = z.take k ++ z[k] :: z.drop (k + 1)
  rw [← List.drop_eq_getElem_cons h, List.take_append_drop]
theorem dup_of {z : List Str} {k : Nat} (hk : k < z.length) (h : z.getD k [] ∈ z.take k) : (uniq z).length < z.length := by
  have u : uniq z = uniq (z.take k ++ z.drop (k + 1)) := uniq_congr fun x => by
    constructor
    · intro hx
      rw [str_split hk] at hx
      rcases List.mem_append.1 hx with h' | h'
      · exact List.mem_append_left _ h'
      · rcases List.mem_cons.1 h' with rfl | h'
        · exact List.mem_append_left _ h
        · exact List.mem_append_right _ h'
    · intro hx
      rcases List.mem_append.1 hx with h' | h'
      · exact List.mem_of_mem_take h'
      · exact List.mem_of_mem_drop h'
  rw [u]
  have := uniq_le (z.take k ++ z.drop (k + 1))
  rw [List.length_append, List.length_take, List.length_drop] at this
  omega
theorem SIn.take {w : World} {a : Option Addr} {n cap k : Nat} {z : List Str} (h : SIn w (.slice a n cap) z) (hk : k ≤ z.length) : SIn w (.slice a k cap) (z.take k) := by
  obtain ⟨a', cap', h1, h2, h3, h4, h5⟩ := h
  cases h1
  have hl : (z.take k).length = k := by rw [List.length_take]; omega
  refine ⟨a, cap, by rw [hl], by rw [hl]; omega, by rw [hl]; omega, fun x hx => h4 x (List.mem_of_mem_take hx), ?_⟩
  rcases h5 with rfl | ⟨b, off, h5, h6, h7⟩
  · exact .inl (by simp)
  · refine .inr ⟨b, off, h5, h6, fun j hj => ?_⟩
    rw [hl] at hj
    rw [h7 j (by omega), List.getD, List.getD, List.getElem?_take_of_lt hj]

def dupR (z : List Str) : Bool := decide ((uniq z).length < z.length)
set_option maxHeartbeats 1000000 in
theorem doubled_of {w : World} {v : Value} {z : List Str} (h : SIn w v z) :
    Calls Try.prog 66 #[v] w fun e w' => e = .returned (.bool (dupR z)) ∧ w' = w := by
  have hn := h.bound
  have HH := Lib.hid h
  rcases h.open with ⟨rfl, a, cap, rfl⟩ | ⟨hp, b, off, cap, rfl, hcap, hlt, hc⟩
  · clear h hn HH
    have e : dupR [] = false := by unfold dupR; rw [uniq_self List.Pairwise.nil]; rfl
    rw [e]
    go_enter Try.func66, Try.ntmps66
    go_wp2_with fail
    go_rounds 1
    go_ret
    exact ⟨rfl, rfl⟩
  · clear h
    have HC := Lib.hid hc; clear hc
    have YES : Hid (∀ k, k < z.length → z.getD k [] ∈ z.take k → dupR z = true) := fun k hk hm => decide_eq_true (dup_of hk hm)
    have NO : Hid ((∀ k, k < z.length → z.getD k [] ∉ z.take k) → dupR z = false) := fun hm => decide_eq_false (by rw [uniq_nodup (nodup_of hm)]; exact Nat.lt_irrefl _)
    have PL : Hid (∀ k, k ≤ z.length → ∀ x, Calls Try.prog 40 #[.slice (some ⟨b, off, none⟩) k cap, .string (bs x)] w fun e w' => PlacePost (z.take k) x e ∧ w' = w) := fun k hk x => place_of (HH.out.take hk) x
    clear HH
    generalize hL : z.length = L at *
    clear hL
    generalize dupR z = D at *
    go_enter Try.func66, Try.ntmps66
    go_wp2_with fail
    go_loopw [7] (fun i wr => ∃ k : Nat, k ≤ L ∧ i = .int .i64 (k : Int) ∧ (∀ j, j < k → z.getD j [] ∉ z.take j) ∧ wr = w) (fun i _ => L - (intOf i).toNat)
    case atStart => exact ⟨0, by omega, rfl, fun _ h => absurd h (Nat.not_lt_zero _), rfl⟩
    case round =>
      obtain ⟨k, hk, rfl, hall, rfl⟩ := hrel
      have HA := Lib.hid hall; clear hall
      by_cases hk2 : k < L
      · have c1 := HC.out k hk2
        have P1 := Lib.hid (PL.out k hk (z.getD k []))
        have Y1 := Lib.hid (YES.out k hk2)
        have k0 : (0 : Int) ≤ (k : Int) := by omega
        have k1 : (k : Int) ≤ (cap : Int) := by omega
        have k2 : k ≤ cap := by omega
        obtain ⟨x, ex⟩ : ∃ x, x = z.getD k [] := ⟨_, rfl⟩
        rw [← ex] at c1 P1 Y1
        have EX := Lib.hid ex; clear ex
        go_wp2_with fail
        refine P1.out.mono ?_
        rintro e w' ⟨⟨i, hi, hx, rfl⟩ | ⟨hx, rfl⟩, rfl⟩
        · have E := Lib.hid (Y1.out (hx ▸ getD_mem hi))
          have t5 : decide (0 ≤ (i : Int)) = true := decide_eq_true (by omega)
          clear hi hx
          go_wp2
          go_ret
          rw [E.out]; exact ⟨rfl, rfl⟩
        · have HX := Lib.hid hx; clear hx
          go_wp2
          go_roundw
          case rel =>
            refine ⟨k + 1, by omega, by go_num, fun j hj => ?_, trivial⟩
            rcases Nat.lt_succ_iff_lt_or_eq.1 hj with h | h
            · exact HA.out j h
            · rw [h, ← EX.out]; exact HX.out
          case measure => simp [intOf]; omega
      · obtain rfl : k = L := by omega
        have HD := Lib.hid (NO.out HA.out)
        go_wp2
        go_ret
        rw [HD.out]; exact ⟨rfl, rfl⟩

set_option maxHeartbeats 2000000 in
set_option maxRecDepth 100000 in
theorem fault_any {w : World} {vt vn : Value} {t n : List Str} (ht : SIn w vt t) (hn : SIn w vn n) :
    Calls Try.prog 54 #[.agg #[vt, vn]] w fun e w' => e = .returned (.int .i64 (chkR (t, n))) ∧ Below w.heap.size w w' := by
  have BA : Hid (Below w.heap.size w (w.alloc (.cells #[vt, vn] 40))) := (Below.refl _ w).alloc (Nat.le_refl _) _
  have HT : Hid (SIn (w.alloc (.cells #[vt, vn] 40)) vt t) := ht.later BA.out
  have HU : Hid (SIn (w.alloc (.cells #[vt, vn] 40)) vn n) := hn.later BA.out
  have bt := ht.bound
  have bn := hn.bound
  have HP : Hid (∀ e : Int, chkR (t, n) = e → Ending.returned (.int .i64 e) = Ending.returned (.int .i64 (chkR (t, n)))) := fun e h => by rw [h]
  have hchk : chkR (t, n) = (if 20 < t.length ∨ 20 < n.length then 2 else if t.length = 0 then 3 else if t.all good = false then 3 else if n.all good = false then 3
      else if dupR t = true ∨ dupR n = true then 6 else 0) := by
    unfold chkR dupR
    simp only [decide_eq_true_eq]
  have GT := Lib.hid (goodNames_of HT.out); have GU := Lib.hid (goodNames_of HU.out)
  have DT := Lib.hid (doubled_of HT.out); have DU := Lib.hid (doubled_of HU.out)
  obtain ⟨at', ct, rfl⟩ := ht.shape
  obtain ⟨an, cn, rfl⟩ := hn.shape
  generalize chkR (t, n) = C at *
  clear ht hn
  generalize t.length = lt at *
  generalize n.length = ln at *
  have HK := Lib.hid hchk; clear hchk HT HU
  generalize t.all good = gt at *
  generalize n.all good = gn at *
  generalize dupR t = dt at *
  generalize dupR n = dn at *
  by_cases h1 : 20 < lt
  · have E := Lib.hid (HP.out 2 (by rw [HK.out, if_pos (.inl h1)]))
    go_enter Try.func54, Try.ntmps54
    go_wp2
    go_ret
    exact ⟨E.out, BA.out⟩
  by_cases h2 : 20 < ln
  · have E := Lib.hid (HP.out 2 (by rw [HK.out, if_pos (.inr h2)]))
    go_enter Try.func54, Try.ntmps54
    go_wp2
    go_ret
    exact ⟨E.out, BA.out⟩
  rw [if_neg (by omega)] at HK
  by_cases h3 : lt = 0
  · have E := Lib.hid (HP.out 3 (by rw [HK.out, if_pos h3]))
    subst h3
    go_enter Try.func54, Try.ntmps54
    go_wp2
    go_ret
    exact ⟨E.out, BA.out⟩
  rw [if_neg h3] at HK
  have z1 : ((lt : Int) == 0) = false := by rw [beq_eq_false_iff_ne]; omega
  go_enter Try.func54, Try.ntmps54
  go_wp2_with fail
  refine GT.out.mono ?_
  rintro e w1 ⟨rfl, rfl⟩
  cases gt
  · have E := Lib.hid (HP.out 3 (by rw [HK.out, if_pos rfl]))
    go_wp2
    go_ret
    exact ⟨E.out, BA.out⟩
  rw [if_neg (by decide)] at HK
  go_wp2_with fail
  refine GU.out.mono ?_
  rintro e w1 ⟨rfl, rfl⟩
  cases gn
  · have E := Lib.hid (HP.out 3 (by rw [HK.out, if_pos rfl]))
    go_wp2
    go_ret
    exact ⟨E.out, BA.out⟩
  rw [if_neg (by decide)] at HK
  go_wp2_with fail
  refine DT.out.mono ?_
  rintro e w1 ⟨rfl, rfl⟩
  cases dt
  · go_wp2_with fail
    refine DU.out.mono ?_
    rintro e w1 ⟨rfl, rfl⟩
    cases dn
    · have E := Lib.hid (HP.out 0 (by rw [HK.out, if_neg (by decide)]))
      go_wp2
      go_ret
      exact ⟨E.out, BA.out⟩
    · have E := Lib.hid (HP.out 6 (by rw [HK.out, if_pos (.inr rfl)]))
      go_wp2
      go_ret
      exact ⟨E.out, BA.out⟩
  · have E := Lib.hid (HP.out 6 (by rw [HK.out, if_pos (.inl rfl)]))
    go_wp2
    go_ret
    exact ⟨E.out, BA.out⟩

set_option maxHeartbeats 1000000 in
theorem sameTexts_of {w : World} {v1 v2 : Value} {z : List Str} (h1 : SIn w v1 z) (h2 : SIn w v2 z) :
    Calls Try.prog 38 #[v1, v2] w fun e w' => e = .returned (.bool true) ∧ ∃ q, w' = w.drewN q := by
  have hn := h1.bound
  rcases h1.open with ⟨rfl, a1, k1, rfl⟩ | ⟨hp, b1, o1, k1, rfl, hk1, hlt1, hc1⟩
  · obtain ⟨a2, k2, rfl⟩ := h2.shape
    clear h1 h2 hn
    simp only [List.length_nil]
    go_enter Try.func38, Try.ntmps38
    go_wp2_with fail
    go_rounds 1
    go_ret
    exact ⟨rfl, 0, rfl⟩
  · rcases h2.open with ⟨rfl, _⟩ | ⟨_, b2, o2, k2, rfl, hk2, hlt2, hc2⟩
    · exact absurd hp (Nat.not_lt_zero _)
    have H1 := Lib.hid hc1; have H2 := Lib.hid hc2
    clear h1 h2 hc1 hc2 hlt1 hlt2
    generalize z.length = L at *
    go_enter Try.func38, Try.ntmps38
    go_wp2_with fail
    go_loopw [13] (fun i wr => ∃ k : Nat, k ≤ L ∧ i = .int .i64 (k : Int) ∧ ∃ m, wr = w.drewN m) (fun i _ => L - (intOf i).toNat)
    case atStart => exact ⟨0, by omega, rfl, 0, rfl⟩
    case round =>
      obtain ⟨k, hk, rfl, m, rfl⟩ := hrel
      by_cases hkl : k < L
      · have c1 := H1.out k hkl
        have c2 := H2.out k hkl
        generalize bs (z.getD k []) = x at *
        have e2 : (x.toList == x.toList) = true := by simp
        go_wp2_with fail
        go_quiet (fail)
        go_wp2
        go_roundw
        case rel => exact ⟨k + 1, by omega, by go_num, _, rfl⟩
        case measure => simp [intOf]; omega
      · obtain rfl : k = L := by omega
        go_wp2
        go_ret
        exact ⟨rfl, _, rfl⟩

set_option maxHeartbeats 2000000 in
set_option maxRecDepth 100000 in
theorem sameRules_of {w : World} {v1 v2 : Value} {z : List Rl} (h1 : RIn w v1 z) (h2 : RIn w v2 z) :
    Calls Try.prog 11 #[v1, v2] w fun e w' => e = .returned (.bool true) ∧ Below w.heap.size w w' := by
  have hn := h1.bound
  rcases h1.open with ⟨rfl, a1, k1, rfl⟩ | ⟨hp, b1, o1, k1, rfl, hk1, hlt1, T1, U1, hc1⟩
  · obtain ⟨a2, k2, rfl, _⟩ := h2
    clear h1 hn
    simp only [List.length_nil]
    go_enter Try.func11, Try.ntmps11
    go_wp2_with fail
    go_rounds 1
    go_ret
    exact ⟨rfl, Below.refl _ _⟩
  · rcases h2.open with ⟨rfl, _⟩ | ⟨_, b2, o2, k2, rfl, hk2, hlt2, T2, U2, hc2⟩
    · exact absurd hp (Nat.not_lt_zero _)
    have H1 : Hid (∀ W, Below w.heap.size w W → ∀ k, k < z.length → W.cell? ⟨b1, o1 + k * 2, none⟩ = some (T1 k) ∧ W.cell? ⟨b1, o1 + k * 2 + 1, none⟩ = some (U1 k) ∧ SIn W (T1 k) (tg z k) ∧ SIn W (U1 k) (nd z k)) := fun W hW k hk => ⟨cell_later hW (hc1 k hk).1, cell_later hW (hc1 k hk).2.1, (hc1 k hk).2.2.1.later hW, (hc1 k hk).2.2.2.later hW⟩
    have H2 : Hid (∀ W, Below w.heap.size w W → ∀ k, k < z.length → W.cell? ⟨b2, o2 + k * 2, none⟩ = some (T2 k) ∧ W.cell? ⟨b2, o2 + k * 2 + 1, none⟩ = some (U2 k) ∧ SIn W (T2 k) (tg z k) ∧ SIn W (U2 k) (nd z k)) := fun W hW k hk => ⟨cell_later hW (hc2 k hk).1, cell_later hW (hc2 k hk).2.1, (hc2 k hk).2.2.1.later hW, (hc2 k hk).2.2.2.later hW⟩
    clear h1 h2 hc1 hc2 hlt1 hlt2
    generalize hL : z.length = L at *
    clear hL
    go_enter Try.func11, Try.ntmps11
    go_wp2_with fail
    go_loopw [13] (fun i wr => ∃ k : Nat, k ≤ L ∧ i = .int .i64 (k : Int) ∧ Below w.heap.size w wr) (fun i _ => L - (intOf i).toNat)
    case atStart => exact ⟨0, by omega, rfl, Below.refl _ _⟩
    case round =>
      obtain ⟨k, hk, rfl, qb⟩ := hrel
      have QB := Lib.hid qb; clear qb
      by_cases hkl : k < L
      · obtain ⟨c1, d1, s1, r1⟩ := H1.out wr QB.out k hkl
        obtain ⟨c2, d2, s2, r2⟩ := H2.out wr QB.out k hkl
        have SS : Hid (∀ q, Calls Try.prog 38 #[T1 k, T2 k] (wr.drewN q) fun e w' => e = .returned (.bool true) ∧ ∃ p, w' = (wr.drewN q).drewN p) := fun q => sameTexts_of (s1.later (below_drewN (Below.refl _ _) q)) (s2.later (below_drewN (Below.refl _ _) q))
        have SR : Hid (∀ q, Calls Try.prog 38 #[U1 k, U2 k] (wr.drewN q) fun e w' => e = .returned (.bool true) ∧ ∃ p, w' = (wr.drewN q).drewN p) := fun q => sameTexts_of (r1.later (below_drewN (Below.refl _ _) q)) (r2.later (below_drewN (Below.refl _ _) q))
        generalize T1 k = x1 at *
        generalize T2 k = x2 at *
        generalize U1 k = y1 at *
        generalize U2 k = y2 at *
        obtain ⟨ax1, cx1, rfl⟩ := s1.shape
        obtain ⟨ax2, cx2, rfl⟩ := s2.shape
        obtain ⟨ay1, cy1, rfl⟩ := r1.shape
        obtain ⟨ay2, cy2, rfl⟩ := r2.shape
        clear s1 s2 r1 r2
        generalize (tg z k).length = lt at *
        generalize (nd z k).length = ln at *
        go_wp2_with fail
        go_quiet (first
          | (go_at_call_of 38 (Value.slice ax1 lt cx1); exact Calls.quiet_of (SS.out _))
          | (go_at_call_of 38 (Value.slice ay1 ln cy1); exact Calls.quiet_of (SR.out _)))
        go_wp2
        go_roundw
        case rel => exact ⟨k + 1, by omega, by go_num, below_drewN QB.out _⟩
        case measure => simp [intOf]; omega
      · obtain rfl : k = L := by omega
        go_wp2
        go_ret
        exact ⟨rfl, QB.out⟩
end Go.Proofs.Ytihiohohocfchaa
