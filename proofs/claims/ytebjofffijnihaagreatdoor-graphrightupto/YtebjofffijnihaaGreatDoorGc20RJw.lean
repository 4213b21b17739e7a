/-
  What package rule's Join answers, walked. No condition beyond the form's own.
  slices.ContainsFunc at rules, whatever the test; the law RuleJoin's own two tests. No condition.
  The law RuleJoin, walked. No condition beyond the form's own.
  What the reference's doubled, RuleFault, SameTexts and SameRules answer. No condition but those of the slices.
  What the reference's needsOf answers. Condition: at most 100 rules with at most 20 needs each.
  What the reference's RulesJoined answers: what Join answers. No condition beyond the form's own.
  Package infer: inferred and Of. Condition: the strings have at most 2^62 bytes.
-/
import Derived.Test.YtebjofffijnihaaGreatDoorGc19FPn
import Derived.Test.YtebjofffijnihaaGreatDoorGc14RNd
import Derived.Test.YtebjofffijnihaaGreatDoorGc11MPerm
import Derived.BigQuiet
import Derived.Test.YtebjofffijnihaaGreatDoorGc10NFind
namespace Go.Proofs.YtebjofffijnihaaGreatDoor
set_option maxRecDepth 100000
set_option linter.unusedVariables false
open Go.ChangeShapes Go.WideShapes Go.ChangeAt Go.RowKit

theorem allT_take {z : List Rl} {k : Nat} (h : k < z.length) : allT (z.take (k + 1)) = allT (z.take k) ++ tg z k := by
  unfold allT; rw [rl_take h, List.flatMap_append]; simp
theorem first_take {z : List Rl} {k : Nat} (h : k < z.length) (h0 : firstR (z.take k) = 0) : firstR (z.take (k + 1)) = chkR (tg z k, nd z k) := by
  rw [rl_take h, first_snoc h0]
theorem first_bad {z : List Rl} {k : Nat} (h : k < z.length) (h0 : firstR (z.take k) = 0) (h1 : chkR (tg z k, nd z k) ≠ 0) : firstR z = chkR (tg z k, nd z k) := by
  have e := first_take h h0
  have := first_append (l := z.take (k + 1)) (r := z.drop (k + 1)) (by rw [e]; exact h1)
  rw [List.take_append_drop] at this
  rw [this, e]
theorem own_shape' {w : World} {B : Nat} {e : TypeId} {s n : Nat} {v : Value} {xs : List Value} (h : w.ownsRow B e s v n xs) : ∃ a c, v = .slice a n c := by
  rcases h.2 with ⟨rfl, rfl⟩ | ⟨g, cap, cur, rfl, _⟩
  · exact ⟨none, 0, rfl⟩
  · exact ⟨_, cap, rfl⟩
theorem smallAll {z : List Str} (h : z.all good = true) : ∀ x ∈ z, x.length ≤ 9223372036854775807 := small_all h
theorem allgood {z : List Rl} (h : firstR z = 0) : (allT z).all good = true := by
  rw [List.all_eq_true]
  intro x hx
  obtain ⟨r, hr, hxr⟩ := List.mem_flatMap.1 hx
  exact List.all_eq_true.1 (chk_ok (first_ok h r hr)).2.2.2.1 x hxr
theorem one_take {z : List Rl} {ts : List Str} {k : Nat} (h : k < ts.length) : (ts.take (k + 1)).map (oneR z) = (ts.take k).map (oneR z) ++ [([ts.getD k []], needsR z (ts.getD k []))] := by
  rw [List.take_add_one, List.getElem?_eq_getElem h, List.map_append, List.getD, List.getElem?_eq_getElem h]; rfl

theorem one_new (w : World) (B : Nat) (x : Str) (hB : B ≤ w.heap.size) : SO B (.slice (some ⟨w.heap.size, 0, none⟩) 1 1) [x] (w.alloc (.cells #[.string (bs x)] 9)) :=
  ⟨rfl, .inr ⟨w.heap.size, 1, #[.string (bs x)], rfl, hB, heap_alloc_new _ _, Nat.le_refl _, by decide, rfl, rfl⟩⟩

set_option maxHeartbeats 4000000 in
set_option maxRecDepth 100000 in
theorem join_own {w : World} {v : Value} {z : List Rl} (h : RIn w v z) : Calls Tryz.prog 28 #[v] w (JoinPostT z w) := by
  obtain ⟨i0, hi, hz0, hz1, hz2⟩ := info_parts infoStr
  obtain ⟨j0, ji, jz0, jz1, jz2⟩ := info_parts infoRl
  have HI := Lib.hid hi; clear hi
  have JI := Lib.hid ji; clear ji
  have HB := h.bound
  have HR := Lib.hid h
  by_cases hL : 100 < z.length
  · have F : Hid (JoinR z [] 2) := .large hL
    obtain ⟨a, cap, rfl, _⟩ := h
    clear HR
    generalize z.length = L at *
    go_enter Tryz.func28, Tryz.ntmps28
    go_wp2
    go_ret2
    exact ⟨_, [], 2, rfl, F.out, ROT.nil _ _, Below.refl _ _⟩
  have HL : z.length ≤ 100 := by omega
  clear hL
  have Z0 : Hid (firstR (z.take 0) = 0) := rfl
  have ZE : Hid (firstR (z.take z.length) = firstR z ∧ allT (z.take z.length) = allT z) := Lib.hid (by rw [List.take_length]; exact ⟨rfl, rfl⟩)
  have NS : Hid (firstR z = 0 → ∀ k, k < z.length → ∀ y ∈ nd z k, y.length ≤ 4294967296) := fun h0 k hk y hy => by
    have := good_len (List.all_eq_true.1 (chk_ok (first_ok h0 _ (rl_mem hk))).2.2.2.2 y hy)
    omega
  have NN : Hid (firstR z = 0 → ∀ k, k < z.length → (nd z k).length ≤ 20) := fun h0 k hk => (chk_ok (first_ok h0 _ (rl_mem hk))).2.1
  have FT : Hid (∀ k, k < z.length → firstR (z.take k) = 0 → firstR (z.take (k + 1)) = chkR (tg z k, nd z k)) := fun k hk => first_take hk
  have FB : Hid (∀ k, k < z.length → firstR (z.take k) = 0 → chkR (tg z k, nd z k) ≠ 0 → firstR z = chkR (tg z k, nd z k)) := fun k hk => first_bad hk
  have AT : Hid (∀ k, k < z.length → allT (z.take (k + 1)) = allT (z.take k) ++ tg z k) := fun k hk => allT_take hk
  have JF : Hid (firstR z ≠ 0 → JoinR z [] (firstR z)) := fun hf => .fault HL hf
  have JM : Hid (firstR z = 0 → 64 < (uniq (allT z)).length → JoinR z [] 2) := fun h1 h2 => .many HL h1 h2
  have JN : Hid (∀ t, firstR z = 0 → (uniq (allT z)).length ≤ 64 → t ∈ uniq (allT z) → 64 < (needsR z t).length → JoinR z [] 2) := fun t h1 h2 h3 h4 => .needs t HL h1 h2 h3 h4
  have JO : Hid (firstR z = 0 → (uniq (allT z)).length ≤ 64 → (∀ t ∈ uniq (allT z), (needsR z t).length ≤ 64) → JoinR z ((uniq (allT z)).map (oneR z)) 0) := fun h1 h2 h3 => .ok HL h1 h2 h3
  obtain ⟨a, cap, rfl, hcap, _, _, h5⟩ := h
  have HC : Hid (∀ W, Below w.heap.size w W → ∀ k, k < z.length → ∃ b off tv uv, a = some ⟨b, off, none⟩ ∧ W.cell? ⟨b, off + k * 2, none⟩ = some tv ∧ W.cell? ⟨b, off + k * 2 + 1, none⟩ = some uv ∧ SIn W tv (tg z k) ∧ SIn W uv (nd z k) ∧ SIn w tv (tg z k)) := fun W hW k hk => by
    rcases h5 with rfl | ⟨b, off, ha, hlt, T, U, hc⟩
    · exact absurd hk (Nat.not_lt_zero _)
    · exact ⟨b, off, T k, U k, ha, cell_later hW (hc k hk).1, cell_later hW (hc k hk).2.1, (hc k hk).2.2.1.later hW, (hc k hk).2.2.2.later hW, (hc k hk).2.2.1⟩
  clear h5
  · have HLL := Lib.hid HL
    generalize eL : z.length = L at *
    have EL := Lib.hid eL; clear eL
    go_enter Tryz.func28, Tryz.ntmps28
    go_wp2_with fail
    go_loopw [4, 19] (fun o i wr => ∃ (k : Nat) (all : List Str), k ≤ L ∧ i = .int .i64 (k : Int) ∧ all = allT (z.take k) ∧ firstR (z.take k) = 0 ∧ SO w.heap.size o all wr ∧ all.length ≤ 20 * k ∧ Below w.heap.size w wr) (fun _ i _ => L - (intOf i).toNat)
    case atStart => exact ⟨0, [], Nat.zero_le _, rfl, rfl, rfl, World.ownsRow_nil _ _ _ _, Nat.zero_le _, Below.refl _ _⟩
    case round =>
      obtain ⟨k, all, hk, rfl, ha, hf, qo, ql, qb⟩ := hrel
      have QO := Lib.hid qo; have QB := Lib.hid qb; have HA := Lib.hid ha; have HF := Lib.hid hf; clear qo qb ha hf
      by_cases hkl : k < L
      · obtain ⟨b, off, tv, uv, rfl, c0, c1, s0, s1, sw⟩ := HC.out wr QB.out k hkl
        have NK := Lib.hid (FT.out k hkl HF.out)
        have NB := Lib.hid (FB.out k hkl HF.out)
        have NA := Lib.hid (AT.out k hkl)
        have SW := Lib.hid sw; clear sw
        generalize tg z k = tk at *
        generalize nd z k = nk at *
        obtain ⟨at', ct, rfl⟩ := s0.shape
        obtain ⟨an', cn, rfl⟩ := s1.shape
        have BA : Hid (Below wr.heap.size wr (wr.alloc (.cells #[.slice at' tk.length ct, .slice an' nk.length cn] 40))) := (Below.refl _ _).alloc (Nat.le_refl _) _
        have S0 := Lib.hid (s0.later BA.out)
        have S1 := Lib.hid (s1.later BA.out)
        have ST := Lib.hid (stayR_new wr (.slice at' tk.length ct) (.slice an' nk.length cn))
        have bt := s0.bound
        have bn := s1.bound
        have OA : Hid ((wr.alloc (.cells #[.slice at' tk.length ct, .slice an' nk.length cn] 40)).ownsRow w.heap.size 9 1 u4 all.length (all.map encStr)) := QO.out.alloc _
        have WA : Hid (Below w.heap.size w (wr.alloc (.cells #[.slice at' tk.length ct, .slice an' nk.length cn] 40))) := QB.out.alloc QB.out.size _
        have WS := Lib.hid QB.out.size
        clear s0 s1
        by_cases hck : chkR (tk, nk) = 0
        · obtain ⟨h20, h21, hpos, hgood, _⟩ := chk_ok hck
          have NK0 : Hid (firstR (z.take (k + 1)) = 0) := Lib.hid (by rw [NK.out, hck])
          rcases SW.out.open with ⟨e0, _⟩ | ⟨_, b3, off3, c3, e3, _, _, h3⟩
          · rw [e0] at hpos; exact absurd hpos (Nat.not_lt_zero _)
          cases e3
          have HN3 : Hid (∀ W, Below w.heap.size w W → ∀ j u, (tk.map encStr)[j]? = some u → W.cell? ((⟨b3, off3, none⟩ : Addr).add j) = some u) := fun W hW j u hj => by
            have hlt : j < tk.length := by
              rcases Nat.lt_or_ge j tk.length with h' | h'
              · exact h'
              · rw [List.getElem?_eq_none (by rw [List.length_map]; exact h')] at hj; cases hj
            have hx := cell_later hW (h3 j hlt)
            rw [List.getElem?_map, List.getElem?_eq_getElem hlt] at hj
            simp at hj
            rw [List.getD, List.getElem?_eq_getElem hlt] at hx
            subst hj
            have ea : (⟨b3, off3, none⟩ : Addr).add j = ⟨b3, off3 + j, none⟩ := by
              unfold Addr.add
              by_cases e : j = 0 <;> simp [e]
            rw [ea]
            exact hx
          have TL : Hid ((tk.map encStr).length = tk.length * 1) := Lib.hid (by simp)
          generalize hlt' : tk.length = lt at *
          generalize nk.length = ln at *
          have LT := Lib.hid hlt'; clear hlt' h3 hgood
          go_wp2_with fail
          refine (rcheck_any S0.out S1.out).mono ?_
          rintro e w2 ⟨rfl, b2⟩
          rw [hck]
          have ST2 := Lib.hid (ST.out.later b2)
          have O2 := Lib.hid (own_later OA.out b2)
          have B2 := Lib.hid (WA.out.trans (b2.mono WA.out.size))
          obtain ⟨d0, d1⟩ := ST2.out.cells
          clear b2
          have SZ := Lib.hid B2.out.size
          have LT4 : Hid (∀ k, u4.ownBlock = some k → w.heap.size ≤ k) := fun k hk => (QO.out.lt k hk).1
          go_wp2_with (at_builtin; go_must (refine wpList_append_own _ rfl (.tmp 28) (.tmp 30) 23 rfl w.heap.size 9 i0 (.string ByteArray.empty) 1 16 Tryz.underlying23 HI.out hz0 hz1 hz2 rfl (by decide) _ _ _ rfl O2.out ⟨b3, off3, none⟩ lt _ (tk.map encStr) rfl TL.out (HN3.out _ B2.out) (by intro u hu; simp at hu; obtain ⟨_, _, rfl⟩ := hu; rfl) (by unfold maxLen; omega) (by omega) SZ.out ?_; intro v4 w4 q1 q2 q3; have O4 := Lib.hid q1; have G4 := Lib.hid q2; clear q1 q2 q3))
          go_roundw
          case rel =>
            refine ⟨k + 1, all ++ tk, by omega, by go_num, ?_, NK0.out, ?_, ?_, B2.out.grown G4.out SZ.out LT4.out⟩
            · rw [NA.out, HA.out]
            · unfold SO; rw [List.length_append, List.map_append, LT.out]; exact O4.out
            · rw [List.length_append, LT.out]; omega
          case measure => simp [intOf]; omega
        · have hne : (chkR (tk, nk) != 0) = true := by rw [bne_iff_ne]; exact hck
          have FF := Lib.hid (NB.out hck)
          have FJ := Lib.hid (JF.out (by rw [FF.out]; exact hck))
          generalize tk.length = lt at *
          generalize nk.length = ln at *
          clear hck
          go_wp2_with fail
          refine (rcheck_any S0.out S1.out).mono ?_
          rintro e w2 ⟨rfl, b2⟩
          have B2 := Lib.hid (WA.out.trans (b2.mono WA.out.size))
          clear b2
          go_wp2
          go_ret2
          refine ⟨_, [], _, rfl, ?_, ROT.nil _ _, B2.out⟩
          rw [← FF.out]; exact FJ.out
      · obtain rfl : k = L := by omega
        have A := HA.out
        rw [ZE.out.2] at A
        subst A
        have F0 : Hid (firstR z = 0) := Lib.hid (by rw [← ZE.out.1]; exact HF.out)
        have G0 := Lib.hid (allgood F0.out)
        have IN : Hid (SIn wr u4 (allT z)) := SIn.own QO.out (by omega) (small_all G0.out)
        clear HC HA HF
        go_wp2_with fail
        refine (merge_any IN.out (sin_nil wr) (by simp only [List.length_nil]; omega)).mono ?_
        rw [List.append_nil]
        rintro e w2 ⟨b2, ⟨g2, h64, v8, rfl, o8⟩ | ⟨g2, h64, rfl⟩ | ⟨g2, rfl⟩⟩
        · have H64 := Lib.hid h64
          have B2 := Lib.hid (QB.out.trans (b2.mono QB.out.size))
          have J1 := Lib.hid (JN.out)
          have J2 := Lib.hid (JO.out F0.out h64)
          have N1 := Lib.hid (NN.out F0.out)
          have N2 := Lib.hid (NS.out F0.out)
          have TG : Hid (∀ k, k < (uniq (allT z)).length → (bs ((uniq (allT z)).getD k [])).size ≤ 4294967296) := fun k hk => by
            have := good_len (List.all_eq_true.1 (good_uniq g2) _ (getD_mem hk))
            rw [bs_size]; omega
          have I8 : SIn w2 v8 (uniq (allT z)) := SIn.own o8 (by omega) (small_all (good_uniq g2))
          have OT : Hid (∀ k, k < (uniq (allT z)).length → ((uniq (allT z)).take (k + 1)).map (oneR z) = ((uniq (allT z)).take k).map (oneR z) ++ [([(uniq (allT z)).getD k []], needsR z ((uniq (allT z)).getD k []))]) := fun k hk => one_take hk
          have TT : Hid (∀ k, k < (uniq (allT z)).length → ∀ t, t ∈ (uniq (allT z)).take (k + 1) → t ∈ (uniq (allT z)).take k ∨ t = (uniq (allT z)).getD k []) := fun k hk t ht => by
            rw [List.take_add_one, List.getElem?_eq_getElem hk] at ht
            rw [List.getD, List.getElem?_eq_getElem hk]
            rcases List.mem_append.1 ht with h | h
            · exact .inl h
            · exact .inr (by simpa using h)
          have TE : Hid ((uniq (allT z)).take (uniq (allT z)).length = uniq (allT z)) := List.take_length
          have TM : Hid (∀ k, k < (uniq (allT z)).length → (uniq (allT z)).getD k [] ∈ uniq (allT z)) := fun k hk => getD_mem hk
          clear b2 g2 o8 IN G0 QO QB ZE NN NS FT FB AT JF JM JN JO Z0
          generalize uniq (allT z) = ts at *
          obtain ⟨a8, c8, rfl, _, _, _, h8⟩ := I8
          have HC8 : Hid (∀ W, Below w2.heap.size w2 W → ∀ k, k < ts.length → ∃ b8 off8, a8 = some ⟨b8, off8, none⟩ ∧ W.cell? ⟨b8, off8 + k, none⟩ = some (.string (bs (ts.getD k [])))) := fun W hW k hk => by
            rcases h8 with rfl | ⟨b8, off8, ha, _, hc⟩
            · exact absurd hk (Nat.not_lt_zero _)
            · exact ⟨b8, off8, ha, cell_later hW (hc k hk)⟩
          clear h8
          generalize eN : ts.length = n8 at *
          have EN := Lib.hid eN; clear eN
          have h64' : n8 ≤ 64 := h64
          go_wp2_with fail
          go_loopw [10, 43] (fun o i wj => ∃ (k : Nat) (out : List Rl), k ≤ n8 ∧ i = .int .i64 (k : Int) ∧ out = (ts.take k).map (oneR z) ∧ (∀ t ∈ ts.take k, (needsR z t).length ≤ 64) ∧ ROT w2.heap.size o out wj ∧ out.length = k ∧ Below w2.heap.size w2 wj) (fun _ i _ => n8 - (intOf i).toNat)
          case atStart => exact ⟨0, [], Nat.zero_le _, rfl, rfl, fun t ht => by simp at ht, ROT.nil _ _, rfl, Below.refl _ _⟩
          case round =>
            obtain ⟨k, out, hk, rfl, ha, hs, qr, hl, qb⟩ := hrel
            have QR := Lib.hid qr; have QB := Lib.hid qb; have HA := Lib.hid ha; have HS := Lib.hid hs; clear qr qb ha hs
            rename World => wj
            have BW := Lib.hid (B2.out.trans (QB.out.mono B2.out.size))
            by_cases hkl : k < n8
            · obtain ⟨b8, off8, rfl, d0⟩ := HC8.out wj QB.out k hkl
              have OK := Lib.hid (OT.out k hkl)
              have TK := Lib.hid (TT.out k hkl)
              have MK := Lib.hid (TM.out k hkl)
              have XS := Lib.hid (TG.out k hkl)
              generalize ts.getD k [] = x at *
              have RI := Lib.hid (HR.out.later BW.out)
              go_wp2_with fail
              refine (needs_any RI.out x (by rw [EL.out]; exact HLL.out) (by rw [EL.out]; exact N1.out) (by rw [EL.out]; exact N2.out)).mono ?_
              rintro e w3 ⟨u, rfl, o3, s3, l3, b3, t3⟩
              obtain ⟨au, cu, rfl⟩ := own_shape' o3
              by_cases h65 : 64 < (needsR z x).length
              · have F3 := Lib.hid (J1.out x F0.out H64.out MK.out h65)
                have B3 := Lib.hid (BW.out.trans (b3.mono BW.out.size))
                clear o3 s3 b3 t3
                generalize (needsR z x).length = nn at *
                go_wp2
                go_ret2
                exact ⟨_, [], 2, rfl, F3.out, ROT.nil _ _, B3.out⟩
              · have H65 := Lib.hid h65
                have O3 := Lib.hid o3
                have B3 := Lib.hid b3
                have T3 := Lib.hid t3
                clear o3 s3 b3 t3
                obtain ⟨c, ⟨hcl, ho, he, hap⟩, htl⟩ := QR.out
                have CT := Lib.hid htl; clear htl
                have CL := Lib.hid hcl; have CO := Lib.hid ho; have CE := Lib.hid he; have CP := Lib.hid hap
                clear hcl ho he hap
                have UB : Hid (∀ q, (Value.slice au (needsR z x).length cu).ownBlock = some q → q < w3.heap.size) := fun q hq => (O3.out.lt q hq).2
                have OA : Hid (∀ o1 o2, ((w3.alloc o1).alloc o2).ownsRow w2.heap.size 40 2 u10 out.length (rcells c)) := fun o1 o2 => ((own_later CO.out B3.out).alloc o1).alloc o2
                have SA : Hid (∀ o1 o2, w2.heap.size ≤ ((w3.alloc o1).alloc o2).heap.size) := fun o1 o2 => by have := QB.out.size; have := B3.out.size; simp; omega
                have BA : Hid (∀ o1 o2, Below wj.heap.size wj ((w3.alloc o1).alloc o2)) := fun o1 o2 => (B3.out.alloc B3.out.size o1).alloc (by have := B3.out.size; simp; omega) o2
                have BB : Hid (∀ o1 o2, Below w2.heap.size w2 ((w3.alloc o1).alloc o2)) := fun o1 o2 => QB.out.trans ((BA.out o1 o2).mono QB.out.size)
                have LT4 : Hid (∀ k, u10.ownBlock = some k → w2.heap.size ≤ k) := fun k hk => (CO.out.lt k hk).1
                have OU : Hid (∀ o1 o2, SO wj.heap.size (.slice au (needsR z x).length cu) (needsR z x) ((w3.alloc o1).alloc o2)) := fun o1 o2 => (O3.out.alloc o1).alloc o2
                have OX : Hid (∀ o2, SO wj.heap.size (.slice (some ⟨w3.heap.size, 0, none⟩) 1 1) [x] ((w3.alloc (.cells #[.string (bs x)] 9)).alloc o2)) := fun o2 => (one_new w3 _ x B3.out.size).alloc o2
                have AP : Hid (Apart (.slice (some ⟨w3.heap.size, 0, none⟩) 1 1) (.slice au (needsR z x).length cu)) := fun q hq hq' => by
                  have := UB.out q hq'
                  have e : w3.heap.size = q := Option.some.inj hq
                  omega
                have QS := Lib.hid QB.out.size
                have TU : Hid (∀ o1 o2, Tl (.slice au (needsR z x).length cu) ((w3.alloc o1).alloc o2)) := fun o1 o2 => (T3.out.alloc o1).alloc o2
                have TX : Hid (∀ o2, Tl (.slice (some ⟨w3.heap.size, 0, none⟩) 1 1) ((w3.alloc (.cells #[.string (bs x)] 9)).alloc o2)) := fun o2 => (tl_one w3 (bs x) XS.out).alloc o2
                generalize eNN : (needsR z x).length = nn at *
                have ENN := Lib.hid eNN; clear eNN
                go_wp2_with (at_builtin; go_must (refine wpList_append_own _ rfl (.tmp 53) (.tmp 58) 25 rfl w2.heap.size 40 j0 (.agg #[.slice none 0 0, .slice none 0 0]) 2 48 Tryz.underlying25 JI.out jz0 jz1 jz2 rfl (by decide) _ _ _ rfl (OA.out _ _) ⟨w3.heap.size + 1, 0, none⟩ 1 1 [.slice (some ⟨w3.heap.size, 0, none⟩) 1 1, .slice au nn cu] rfl rfl (cell_two' _ _ _ _ _ (by simp)) (by intro u hu; simp at hu; rcases hu with rfl | rfl <;> rfl) (by unfold maxLen; omega) (by omega) (SA.out _ _) ?_; intro v4 w4 q1 q2 q3; have O4 := Lib.hid q1; have G4 := Lib.hid q2; clear q1 q2 q3))
                go_roundw
                case rel =>
                  refine ⟨k + 1, out ++ [([x], needsR z x)], by omega, by go_num, ?_, ?_, rot_snoc CL.out CO.out CE.out CP.out (BA.out _ _) (OX.out _) (OU.out _ _) AP.out QS.out G4.out O4.out CT.out (TX.out _) (TU.out _ _), by simp [hl], (BB.out _ _).grown G4.out (SA.out _ _) LT4.out⟩
                  · rw [OK.out, HA.out]
                  · intro t ht
                    rcases TK.out t ht with h | h
                    · exact HS.out t h
                    · rw [h, ENN.out]; have := H65.out; omega
                case measure => simp [intOf]; omega
            · obtain rfl : k = n8 := by omega
              have A := HA.out
              have S := HS.out
              rw [TE.out] at A S
              subst A
              have F3 := Lib.hid (J2.out S)
              have RF := Lib.hid (QR.out.less B2.out.size)
              clear S
              go_wp2
              go_ret2
              exact ⟨_, _, 0, rfl, F3.out, RF.out, BW.out⟩
        · have F2 := Lib.hid (JM.out F0.out h64)
          have B2 := Lib.hid (QB.out.trans (b2.mono QB.out.size))
          clear b2 g2 h64
          go_wp2
          go_ret2
          exact ⟨_, [], 2, rfl, F2.out, ROT.nil _ _, B2.out⟩
        · exact absurd (G0.out.symm.trans g2) (by decide)
theorem join_any {w : World} {v : Value} {z : List Rl} (h : RIn w v z) : Calls Tryz.prog 28 #[v] w (JoinPost z w) :=
  (join_own h).mono fun e w' ⟨u, y, x, h1, h2, h3, h4⟩ => ⟨u, y, x, h1, h2, h3.ro, h4⟩
end Go.Proofs.YtebjofffijnihaaGreatDoor
namespace Go.Proofs.YtebjofffijnihaaGreatDoor
set_option maxRecDepth 100000
set_option linter.unusedVariables false
open Go.ChangeShapes Go.WideShapes Go.ChangeAt Go.RowKit

/-- a function value that tests a rule -/
def RTests (F : Nat) (caps : Array Value) (f : Rl → Bool) (w : World) : Prop :=
  ∀ W, Below w.heap.size w W → ∀ (t n : List Str) tv uv, SIn W tv t → SIn W uv n → Calls Tryz.prog F (#[.agg #[tv, uv]] ++ caps) W fun e w' => e = .returned (.bool (f (t, n))) ∧ Below W.heap.size W w'
theorem any_take {z : List Rl} {f : Rl → Bool} {k : Nat} (h : k < z.length) : (z.take (k + 1)).any f = ((z.take k).any f || f (tg z k, nd z k)) := by
  rw [rl_take h, List.any_append]; simp
/-- the rule has the target and the need -/
def hasR (t n : Str) (r : Rl) : Bool := decide (t ∈ r.1) && decide (n ∈ r.2)
def isR (t : Str) (r : Rl) : Bool := decide (t ∈ r.1)
/-- a row of one's own holds its rules -/
theorem RO.rin {B : Nat} {v : Value} {z : List Rl} {w : World} (h : RO B v z w) (hn : z.length ≤ 2932031007317) (hx : ∀ r ∈ z, (r.1.length ≤ 17592186044416 ∧ r.2.length ≤ 17592186044416) ∧ (∀ x ∈ r.1, x.length ≤ 9223372036854775807) ∧ ∀ x ∈ r.2, x.length ≤ 9223372036854775807) : RIn w v z := by
  obtain ⟨c, hcl, ho, he, _⟩ := h
  have hr := ho.2
  rcases hr with ⟨hv, h0⟩ | ⟨g, cap, cur, hv, hb, hg, hc, hm, hs, ht⟩
  · have : z = [] := List.length_eq_zero_iff.1 h0
    subst this
    exact ⟨none, 0, hv, Nat.le_refl _, Nat.zero_le _, Nat.zero_le _, .inl rfl⟩
  · refine ⟨_, cap, hv, hc, hm, hn, .inr ⟨g, 0, rfl, ?_, fun k => (c.getD k (.slice none 0 0, .slice none 0 0)).1, fun k => (c.getD k (.slice none 0 0, .slice none 0 0)).2, fun k hk => ?_⟩⟩
    · rcases Nat.lt_or_ge g w.heap.size with h' | h'
      · exact h'
      · simp [Array.getElem?_eq_none h'] at hg
    · have hkc : k < c.length := by omega
      have hp := List.getElem?_eq_getElem hkc
      have hcs := ho.cells (g := g) (by rw [hv]; rfl)
      obtain ⟨h1, h2⟩ := rcells_at c k _ hp
      have e1 := hcs _ _ h1
      have e2 := hcs _ _ h2
      rw [add_off] at e1 e2
      obtain ⟨q1, q2⟩ := he k _ hp
      obtain ⟨⟨b1, b2⟩, b3, b4⟩ := hx _ (rl_mem hk)
      have hgd : c.getD k (.slice none 0 0, .slice none 0 0) = c[k] := by rw [List.getD, hp]; rfl
      simp only [hgd, Nat.zero_add]
      exact ⟨e1, e2, SIn.own q1 b1 b3, SIn.own q2 b2 b4⟩
end Go.Proofs.YtebjofffijnihaaGreatDoor
namespace Go.Proofs.YtebjofffijnihaaGreatDoor
set_option maxRecDepth 100000
set_option linter.unusedVariables false
open Go.ChangeShapes Go.WideShapes Go.ChangeAt Go.RowKit

theorem JoinR.bad {l z : List Rl} {x : Int} (h : JoinR l z x) (hx : x ≠ 0) : z = [] := by
  cases h <;> first | rfl | exact absurd rfl hx
theorem JoinR.fine {l z : List Rl} {x : Int} (h : JoinR l z x) (hx : x = 0) : z = (uniq (allT l)).map (oneR l) ∧ firstR l = 0 ∧ l.length ≤ 100 ∧ (uniq (allT l)).length ≤ 64 ∧ ∀ t ∈ uniq (allT l), (needsR l t).length ≤ 64 := by
  cases h with
  | large _ => cases hx
  | fault _ h => exact absurd hx h
  | many => cases hx
  | needs => cases hx
  | ok h1 h2 h3 h4 => exact ⟨rfl, h2, h1, h3, h4⟩
theorem allT_mem {l : List Rl} {t : Str} : t ∈ allT l ↔ ∃ r ∈ l, t ∈ r.1 := by unfold allT; rw [List.mem_flatMap]
theorem needs_good {l : List Rl} (h : firstR l = 0) (t : Str) : (needsR l t).all good = true := by
  rw [List.all_eq_true]
  intro y hy
  obtain ⟨r, hr, _, hyr⟩ := (needs_spec l t y).1 hy
  exact List.all_eq_true.1 (chk_ok (first_ok h r hr)).2.2.2.2 y hyr
theorem join_small {l z : List Rl} (hz : z = (uniq (allT l)).map (oneR l)) (hf : firstR l = 0) (hn : ∀ t ∈ uniq (allT l), (needsR l t).length ≤ 64) :
    ∀ r ∈ z, (r.1.length ≤ 17592186044416 ∧ r.2.length ≤ 17592186044416) ∧ (∀ x ∈ r.1, x.length ≤ 9223372036854775807) ∧ ∀ x ∈ r.2, x.length ≤ 9223372036854775807 := by
  subst hz
  intro r hr
  obtain ⟨t, ht, rfl⟩ := List.mem_map.1 hr
  refine ⟨⟨by simp [oneR], by have := hn t ht; show (needsR l t).length ≤ _; omega⟩, fun x hx => ?_, small_all (needs_good hf t)⟩
  have : x = t := by simpa [oneR] using hx
  subst this
  exact small_all (allgood hf) x (uniq_mem.1 ht)
theorem hasR_iff {t n : Str} {r : Rl} : hasR t n r = true ↔ t ∈ r.1 ∧ n ∈ r.2 := by
  unfold hasR; rw [Bool.and_eq_true, decide_eq_true_iff, decide_eq_true_iff]
theorem isR_iff {t : Str} {r : Rl} : isR t r = true ↔ t ∈ r.1 := by
  unfold isR; rw [decide_eq_true_iff]
theorem join_has {l z : List Rl} (hz : z = (uniq (allT l)).map (oneR l)) (t n : Str) : l.any (hasR t n) = z.any (hasR t n) := by
  subst hz
  rw [Bool.eq_iff_iff, List.any_eq_true, List.any_eq_true]
  constructor
  · rintro ⟨r, hr, h⟩
    obtain ⟨h1, h2⟩ := hasR_iff.1 h
    exact ⟨oneR l t, List.mem_map.2 ⟨t, uniq_mem.2 (allT_mem.2 ⟨r, hr, h1⟩), rfl⟩, hasR_iff.2 ⟨List.mem_singleton.2 rfl, (needs_spec l t n).2 ⟨r, hr, h1, h2⟩⟩⟩
  · rintro ⟨r, hr, h⟩
    obtain ⟨t', ht', rfl⟩ := List.mem_map.1 hr
    obtain ⟨h1, h2⟩ := hasR_iff.1 h
    obtain rfl : t = t' := List.mem_singleton.1 h1
    obtain ⟨r, hr', h3, h4⟩ := (needs_spec l t n).1 h2
    exact ⟨r, hr', hasR_iff.2 ⟨h3, h4⟩⟩
theorem join_is {l z : List Rl} (hz : z = (uniq (allT l)).map (oneR l)) (t : Str) : l.any (isR t) = z.any (isR t) := by
  subst hz
  rw [Bool.eq_iff_iff, List.any_eq_true, List.any_eq_true]
  constructor
  · rintro ⟨r, hr, h⟩
    exact ⟨oneR l t, List.mem_map.2 ⟨t, uniq_mem.2 (allT_mem.2 ⟨r, hr, isR_iff.1 h⟩), rfl⟩, isR_iff.2 (List.mem_singleton.2 rfl)⟩
  · rintro ⟨r, hr, h⟩
    obtain ⟨t', ht', rfl⟩ := List.mem_map.1 hr
    obtain rfl : t = t' := List.mem_singleton.1 (isR_iff.1 h)
    obtain ⟨r, hr', h⟩ := allT_mem.1 (uniq_mem.1 ht')
    exact ⟨r, hr', isR_iff.2 h⟩
theorem join_tg {l z : List Rl} (hz : z = (uniq (allT l)).map (oneR l)) {k : Nat} (hk : k < z.length) : tg z k = [(uniq (allT l)).getD k []] := by
  subst hz
  rw [List.length_map] at hk
  unfold tg
  rw [List.getD, List.getElem?_map, List.getD, List.getElem?_eq_getElem hk]
  rfl
end Go.Proofs.YtebjofffijnihaaGreatDoor
namespace Go.Proofs.YtebjofffijnihaaGreatDoor
set_option maxRecDepth 100000
set_option linter.unusedVariables false
open Go.ChangeShapes Go.WideShapes Go.ChangeAt Go.RowKit

theorem uniq_nodup {z : List Str} (h : z.Nodup) : (uniq z).length = z.length := by
  have hp := sortS_perm z
  have hn : (sortS z).Nodup := hp.nodup_iff.2 h
  have hu : Up (sortS z) := ((sortS_asc z).and hn).imp fun ⟨a, b⟩ => lt_of_le_ne a b
  have e : uniq z = sortS z := (uniq_congr fun x => hp.mem_iff.symm).trans (uniq_self hu)
  rw [e, hp.length_eq]
theorem nodup_of {z : List Str} (h : ∀ k, k < z.length → z.getD k [] ∉ z.take k) : z.Nodup := by
  refine List.pairwise_iff_getElem.2 fun i j hi hj hij e => ?_
  have h1 := h j hj
  rw [List.getD, List.getElem?_eq_getElem hj] at h1
  refine h1 ?_
  show z[j] ∈ z.take j
  rw [← e]
  have hi' : i < (z.take j).length := by rw [List.length_take]; omega
  have := List.getElem_mem hi'
  rw [List.getElem_take] at this
  exact this
theorem str_split {z : List Str} {k : Nat} (h : k < z.length) : z = z.take k ++ z.getD k [] :: z.drop (k + 1) := by
  rw [List.getD, List.getElem?_eq_getElem h]
  show z = z.take k ++ z[k] :: z.drop (k + 1)
  rw [← List.drop_eq_getElem_cons h, List.take_append_drop]
theorem dup_of {z : List Str} {k : Nat} (hk : k < z.length) (h : z.getD k [] ∈ z.take k) : (uniq z).length < z.length := by
  have u : uniq z = uniq (z.take k ++ z.drop (k + 1)) := uniq_congr fun x => by
    constructor
    · intro hx
      rw [str_split hk] at hx
      rcases List.mem_append.1 hx with h' | h'
      · exact List.mem_append_left _ h'
      · rcases List.mem_cons.1 h' with rfl | h'
        · exact List.mem_append_left _ h
        · exact List.mem_append_right _ h'
    · intro hx
      rcases List.mem_append.1 hx with h' | h'
      · exact List.mem_of_mem_take h'
      · exact List.mem_of_mem_drop h'
  rw [u]
  have := uniq_le (z.take k ++ z.drop (k + 1))
  rw [List.length_append, List.length_take, List.length_drop] at this
  omega
theorem SIn.take {w : World} {a : Option Addr} {n cap k : Nat} {z : List Str} (h : SIn w (.slice a n cap) z) (hk : k ≤ z.length) : SIn w (.slice a k cap) (z.take k) := by
  obtain ⟨a', cap', h1, h2, h3, h4, h5⟩ := h
  cases h1
  have hl : (z.take k).length = k := by rw [List.length_take]; omega
  refine ⟨a, cap, by rw [hl], by rw [hl]; omega, by rw [hl]; omega, fun x hx => h4 x (List.mem_of_mem_take hx), ?_⟩
  rcases h5 with rfl | ⟨b, off, h5, h6, h7⟩
  · exact .inl (by simp)
  · refine .inr ⟨b, off, h5, h6, fun j hj => ?_⟩
    rw [hl] at hj
    rw [h7 j (by omega), List.getD, List.getD, List.getElem?_take_of_lt hj]

def dupR (z : List Str) : Bool := decide ((uniq z).length < z.length)
end Go.Proofs.YtebjofffijnihaaGreatDoor
namespace Go.Proofs.YtebjofffijnihaaGreatDoor
set_option maxRecDepth 100000
set_option linter.unusedVariables false
open Go.ChangeShapes Go.WideShapes Go.ChangeAt Go.RowKit

end Go.Proofs.YtebjofffijnihaaGreatDoor
namespace Go.Proofs.YtebjofffijnihaaGreatDoor
set_option maxRecDepth 100000
set_option linter.unusedVariables false
open Go.ChangeShapes Go.WideShapes Go.ChangeAt Go.RowKit

end Go.Proofs.YtebjofffijnihaaGreatDoor
namespace Go.Proofs.YtebjofffijnihaaGreatDoor
set_option maxRecDepth 100000
set_option linter.unusedVariables false
open Go.ChangeShapes Go.WideShapes Go.ChangeAt Go.RowKit

/-! the two parts of a name -/
theorem stem_fn (s : Str) : ∃ p : Str × Str, p.1.length ≤ s.length ∧ s = p.1 ++ p.2 ∧ ∀ e, StemPost (bs s) e → e = .returned (.tuple #[.string (bs p.1), .string (bs p.2)]) := by
  rcases Classical.em (∃ i, Cut (bs s) i) with ⟨i, h⟩ | h
  · refine ⟨(s.take i, s.drop i), by simp; omega, (List.take_append_drop _ _).symm, fun e he => ?_⟩
    rcases he with ⟨j, hj, rfl⟩ | ⟨hn, _⟩
    · rw [← h.same hj, bs_take, bs_drop, bs_list]
    · exact absurd h (hn i)
  · refine ⟨(s, []), Nat.le_refl _, (List.append_nil s).symm, fun e he => ?_⟩
    rcases he with ⟨j, hj, _⟩ | ⟨_, rfl⟩
    · exact absurd ⟨j, hj⟩ h
    · rfl
noncomputable def stm (s : Str) : Str := (Classical.choose (stem_fn s)).1
noncomputable def sfx (s : Str) : Str := (Classical.choose (stem_fn s)).2
theorem stm_len (s : Str) : (stm s).length ≤ s.length := (Classical.choose_spec (stem_fn s)).1
theorem stm_app (s : Str) : s = stm s ++ sfx s := (Classical.choose_spec (stem_fn s)).2.1
theorem stm_ret (s : Str) {e : Ending} (h : StemPost (bs s) e) : e = .returned (.tuple #[.string (bs (stm s)), .string (bs (sfx s))]) := (Classical.choose_spec (stem_fn s)).2.2 e h
theorem stem_of (s : Str) (hs : s.length < 4611686018427387904) (w : World) :
    Calls Tryz.prog 55 #[.string (bs s)] w fun e w' => e = .returned (.tuple #[.string (bs (stm s)), .string (bs (sfx s))]) ∧ ∃ q, w' = w.drewN q :=
  (stem_any (bs s) (by rw [bs_size]; exact hs) w).mono fun e w' h => ⟨stm_ret s h.1, h.2⟩

/-- what is inferred, of the names that are known -/
def inf1 : List Mc → List Str → Str → Str → Option Str
  | [], _, _, _ => none
  | x :: r, K, st, sf => if x.2 = sf ∧ st ++ x.1 ∈ K then some (st ++ x.1) else inf1 r K st sf
theorem inf1_app : ∀ (a b : List Mc) (K : List Str) (st sf : Str), inf1 (a ++ b) K st sf = (inf1 a K st sf).or (inf1 b K st sf)
  | [], b, K, st, sf => by simp [inf1]
  | x :: a, b, K, st, sf => by
    rw [List.cons_append, inf1, inf1, inf1_app a b]
    by_cases h : x.2 = sf ∧ st ++ x.1 ∈ K
    · rw [if_pos h, if_pos h]; rfl
    · rw [if_neg h, if_neg h]
theorem inf1_congr {K L : List Str} (h : ∀ x, x ∈ K ↔ x ∈ L) : ∀ (l : List Mc) (st sf : Str), inf1 l K st sf = inf1 l L st sf
  | [], _, _ => rfl
  | x :: r, st, sf => by rw [inf1, inf1, inf1_congr h r]; simp only [h]
theorem inf_drop {z : List Mc} {k : Nat} (h : k < z.length) : z.drop k = (nm z k, vl z k) :: z.drop (k + 1) := by
  rw [List.drop_eq_getElem_cons h]
  have := at_some h
  rw [List.getElem?_eq_getElem h] at this
  rw [Option.some.inj this]
theorem inf1_hit {l : List Mc} {K : List Str} {st sf : Str} {k : Nat} (hk : k < l.length) (h0 : inf1 (l.take k) K st sf = none) (h1 : vl l k = sf) (h2 : st ++ nm l k ∈ K) : inf1 l K st sf = some (st ++ nm l k) := by
  have e := inf1_app (l.take k) (l.drop k) K st sf
  rw [List.take_append_drop, h0, inf_drop hk, inf1, if_pos ⟨h1, h2⟩] at e
  exact e
theorem inf1_miss {l : List Mc} {K : List Str} {st sf : Str} {k : Nat} (hk : k < l.length) (h0 : inf1 (l.take k) K st sf = none) (h1 : ¬ (vl l k = sf ∧ st ++ nm l k ∈ K)) : inf1 (l.take (k + 1)) K st sf = none := by
  rw [take_at hk, inf1_app, h0, inf1, if_neg h1]; rfl
/-- an answer: the text and whether -/
def ofS (o : Option Str) : Str := o.getD []
set_option maxHeartbeats 4000000 in
theorem inferred_any {w : World} {v u : Value} {l : List Mc} {K : List Str} (h : IIn w v l) (hk : SIn w u K) (hup : Up K) (s : Str) (hs : s.length ≤ 4294967296) (h10 : ∀ k, k < l.length → (nm l k).length ≤ 10) :
    Calls Tryz.prog 32 #[v, u, .string (bs s)] w fun e w' => e = .returned (.tuple #[.string (bs (ofS (inf1 l K (stm s) (sfx s)))), .bool (inf1 l K (stm s) (sfx s)).isSome]) ∧ Below w.heap.size w w' := by
  have ST := Lib.hid (stem_of s (by omega) w)
  have SL : (stm s).length ≤ 4294967296 := Nat.le_trans (stm_len s) hs
  have FD : Hid (∀ W, Below w.heap.size w W → ∀ x, Calls Tryz.prog 7 #[u, .string (bs x)] W fun e w' => FindPost K x e ∧ ∃ q, w' = W.drewN q) := fun W hW x => find_of (hk.later hW) hup x
  obtain ⟨ak, ck, rfl⟩ := hk.shape
  generalize K.length = n at *
  generalize stm s = st at *
  generalize sfx s = sf at *
  have IH : Hid (∀ k, k < l.length → inf1 (l.take k) K st sf = none → vl l k = sf → st ++ nm l k ∈ K → inf1 l K st sf = some (st ++ nm l k)) := fun k a b c d => inf1_hit a b c d
  have IM : Hid (∀ k, k < l.length → inf1 (l.take k) K st sf = none → ¬ (vl l k = sf ∧ st ++ nm l k ∈ K) → inf1 (l.take (k + 1)) K st sf = none) := fun k a b c => inf1_miss a b c
  have IZ : Hid (inf1 (l.take 0) K st sf = none) := rfl
  have IE : Hid (inf1 (l.take l.length) K st sf = inf1 l K st sf) := Lib.hid (by rw [List.take_length])
  have hb := show l.length ≤ 8796093022208 by obtain ⟨⟨_, _, _, _, _, h4, _⟩, _⟩ := h; exact h4
  obtain ⟨⟨a, cap, rfl, hcap, _, _, h5⟩, _⟩ := h
  have HC : Hid (∀ W, Below w.heap.size w W → ∀ k, k < l.length → ∃ b off, a = some ⟨b, off, none⟩ ∧ W.cell? ⟨b, off + k * 2, none⟩ = some (.string (bs (nm l k))) ∧ W.cell? ⟨b, off + k * 2 + 1, none⟩ = some (.string (bs (vl l k)))) := fun W hW k hk => by
    rcases h5 with rfl | ⟨b, off, ha, hlt, hc⟩
    · exact absurd hk (Nat.not_lt_zero _)
    · have := hc k _ (at_some hk)
      exact ⟨b, off, ha, cell_later hW this.1, cell_later hW this.2⟩
  have HT := Lib.hid h10
  clear h5 h10 hs hk hup
  generalize eL : l.length = L at *
  clear eL
  go_enter Tryz.func32, Tryz.ntmps32
  go_wp2_with fail
  refine ST.out.mono ?_
  rintro e w1 ⟨rfl, q, rfl⟩
  have B1 : Hid (Below w.heap.size w (w.drewN q)) := below_drewN (Below.refl _ _) q
  generalize w.drewN q = w1 at *
  go_wp2_with fail
  go_loopw [22] (fun i wr => ∃ k : Nat, k ≤ L ∧ i = .int .i64 (k : Int) ∧ inf1 (l.take k) K st sf = none ∧ Below w.heap.size w wr) (fun i _ => L - (intOf i).toNat)
  case atStart => exact ⟨0, Nat.zero_le _, rfl, IZ.out, B1.out⟩
  case round =>
    obtain ⟨k, hk, rfl, h0, qb⟩ := hrel
    have H0 := Lib.hid h0; have QB := Lib.hid qb; clear h0 qb
    by_cases hkl : k < L
    · obtain ⟨b, off, rfl, c0, c1⟩ := HC.out wr QB.out k hkl
      have I1 := Lib.hid (IH.out k hkl H0.out)
      have I2 := Lib.hid (IM.out k hkl H0.out)
      have hx := HT.out k hkl
      generalize nm l k = x at *
      generalize vl l k = y at *
      have z1 : (bs st).size ≤ 4294967296 := by rw [bs_size]; exact SL
      have z2 : (bs x).size ≤ 10 := by rw [bs_size]; exact hx
      have zz := bs_append st x
      have K0 := Lib.hid (blk_new wr #[.string (bs x), .string (bs y)] 96)
      have WA : Hid (Below w.heap.size w (wr.alloc (.cells #[.string (bs x), .string (bs y)] 96))) := QB.out.alloc QB.out.size _
      by_cases hy : y = sf
      · have e1 : ((bs y).toList == (bs sf).toList) = true := by rw [bs_toList, bs_toList, beq_dec, decide_eq_true hy]
        have HY := Lib.hid hy; clear hy
        go_wp2_with fail
        refine (FD.out _ WA.out (st ++ x)).mono ?_
        rintro e w2 ⟨⟨i, hi, hg, rfl⟩ | ⟨hno, rfl⟩, q2, rfl⟩
        · have E := Lib.hid (I1.out HY.out (hg ▸ getD_mem hi))
          clear hg hi
          go_wp2
          go_ret2
          exact ⟨by rw [E.out]; rfl, below_drewN WA.out _⟩
        · have N1 := Lib.hid (I2.out (fun h => hno h.2))
          clear hno
          go_wp2
          go_roundw
          case rel => exact ⟨k + 1, by omega, by go_num, N1.out, below_drewN WA.out _⟩
          case measure => simp [intOf]; omega
      · have e1 : ((bs y).toList == (bs sf).toList) = false := by rw [bs_toList, bs_toList, beq_dec, decide_eq_false hy]
        have N1 := Lib.hid (I2.out (fun h => hy h.1))
        clear hy
        go_wp2
        go_roundw
        case rel => exact ⟨k + 1, by omega, by go_num, N1.out, WA.out⟩
        case measure => simp [intOf]; omega
    · obtain rfl : k = L := by omega
      have E : Hid (inf1 l K st sf = none) := Lib.hid (by rw [← IE.out]; exact H0.out)
      go_wp2
      go_ret2
      exact ⟨by rw [E.out]; rfl, QB.out⟩

/-- what Of answers -/
noncomputable def ofR (l : List Mc) (T : List Str) (s : Str) : Option Str × Int :=
  if infE l ≠ 0 then (none, infE l) else if T.all good = false then (none, 3) else if good s = false then (none, 3) else (inf1 l T (stm s) (sfx s), 0)
theorem ofR_fault {l : List Mc} {T : List Str} {s : Str} (h : infE l ≠ 0) : ofR l T s = (none, infE l) := by unfold ofR; rw [if_pos h]
theorem ofR_names {l : List Mc} {T : List Str} {s : Str} (h : infE l = 0) (h2 : T.all good = false) : ofR l T s = (none, 3) := by unfold ofR; rw [if_neg (by simp [h]), if_pos h2]
theorem ofR_name {l : List Mc} {T : List Str} {s : Str} (h : infE l = 0) (h2 : T.all good = true) (h3 : good s = false) : ofR l T s = (none, 3) := by unfold ofR; rw [if_neg (by simp [h]), if_neg (by simp [h2]), if_pos h3]
theorem ofR_ok {l : List Mc} {T : List Str} {s : Str} (h : infE l = 0) (h2 : T.all good = true) (h3 : good s = true) : ofR l T s = (inf1 l T (stm s) (sfx s), 0) := by unfold ofR; rw [if_neg (by simp [h]), if_neg (by simp [h2]), if_neg (by simp [h3])]
def OfPost (o : Option Str × Int) (w : World) (e : Ending) (w' : World) : Prop :=
  e = .returned (.tuple #[.string (bs (ofS o.1)), .bool o.1.isSome, .int .i64 o.2]) ∧ Below w.heap.size w w'
/-! the laws' own look -/
theorem stm_ao : stm [97, 46, 111] = [97] ∧ sfx [97, 46, 111] = [46, 111] := by
  have h : StemPost (bs [97, 46, 111]) (.returned (.tuple #[.string ((bs [97, 46, 111]).extract 0 1), .string ((bs [97, 46, 111]).extract 1 (bs [97, 46, 111]).size)])) := by
    refine .inl ⟨1, ⟨by decide, by decide, by decide, by decide, fun j h1 h2 => ?_⟩, rfl⟩
    have h3 : j < 3 := h2
    obtain rfl : j = 2 := by omega
    decide
  have e := stm_ret _ h
  rw [bs_take, bs_drop, bs_list] at e
  have e1 := e
  simp only [Ending.returned.injEq, Value.tuple.injEq] at e1
  simp [bs] at e1
  exact ⟨e1.1.symm, e1.2.symm⟩
theorem in_ao (w : World) : IIn (w.alloc (.cells #[.string (bs [46, 99]), .string (bs [46, 111])] 96)) (.slice (some ⟨w.heap.size, 0, none⟩) 1 1) [([46, 99], [46, 111])] := by
  refine ⟨⟨some ⟨w.heap.size, 0, none⟩, 1, rfl, Nat.le_refl _, by decide, by decide, .inr ⟨w.heap.size, 0, rfl, by simp, fun k x hk => ?_⟩⟩, fun k hk => ?_⟩
  · have hs := blk_new w #[.string (bs [46, 99]), .string (bs [46, 111])] 96
    match k, hk with
    | 0, hk =>
      simp at hk
      subst hk
      exact ⟨hs.cell (i := 0) rfl, hs.cell (i := 1) rfl⟩
  · obtain rfl : k = 0 := by simp at hk; exact hk
    decide
end Go.Proofs.YtebjofffijnihaaGreatDoor
