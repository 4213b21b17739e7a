/-
  What the reference's RulesJoined answers: what Join answers. No condition beyond the form's own.
-/
import Derived.Test.YtihiohohocfchaaRJw
import Derived.Test.YtihiohohocfchaaRNr
import Derived.Test.YtihiohohocfchaaNRise
namespace Go.Proofs.Ytihiohohocfchaa
set_option maxRecDepth 100000
set_option linter.unusedVariables false
open Go.ChangeShapes Go.WideShapes Go.ChangeAt Go.RowKit

set_option maxHeartbeats 4000000 in
set_option maxRecDepth 100000 in
theorem rjoin_any {w : World} {v : Value} {z : List Rl} (h : RIn w v z) : Calls Try.prog 32 #[v] w (JoinPost z w) := by
  obtain ⟨i0, hi, hz0, hz1, hz2⟩ := info_parts infoStr
  obtain ⟨j0, ji, jz0, jz1, jz2⟩ := info_parts infoRl
  have HI := Lib.hid hi; clear hi
  have JI := Lib.hid ji; clear ji
  have HB := h.bound
  have HR := Lib.hid h
  by_cases hL : 100 < z.length
  · have F : Hid (JoinR z [] 2) := .large hL
    obtain ⟨a, cap, rfl, _⟩ := h
    clear HR
    generalize z.length = L at *
    go_enter Try.func32, Try.ntmps32
    go_wp2
    go_ret2
    exact ⟨_, [], 2, rfl, F.out, RO.nil _ _, Below.refl _ _⟩
  have HL : z.length ≤ 100 := by omega
  clear hL
  have Z0 : Hid (firstR (z.take 0) = 0) := rfl
  have ZE : Hid (firstR (z.take z.length) = firstR z ∧ allT (z.take z.length) = allT z) := Lib.hid (by rw [List.take_length]; exact ⟨rfl, rfl⟩)
  have NN : Hid (firstR z = 0 → ∀ k, k < z.length → (nd z k).length ≤ 20) := fun h0 k hk => (chk_ok (first_ok h0 _ (rl_mem hk))).2.1
  have FT : Hid (∀ k, k < z.length → firstR (z.take k) = 0 → firstR (z.take (k + 1)) = chkR (tg z k, nd z k)) := fun k hk => first_take hk
  have FB : Hid (∀ k, k < z.length → firstR (z.take k) = 0 → chkR (tg z k, nd z k) ≠ 0 → firstR z = chkR (tg z k, nd z k)) := fun k hk => first_bad hk
  have AT : Hid (∀ k, k < z.length → allT (z.take (k + 1)) = allT (z.take k) ++ tg z k) := fun k hk => allT_take hk
  have JF : Hid (firstR z ≠ 0 → JoinR z [] (firstR z)) := fun hf => .fault HL hf
  have JM : Hid (firstR z = 0 → 64 < (uniq (allT z)).length → JoinR z [] 2) := fun h1 h2 => .many HL h1 h2
  have JN : Hid (∀ t, firstR z = 0 → (uniq (allT z)).length ≤ 64 → t ∈ uniq (allT z) → 64 < (needsR z t).length → JoinR z [] 2) := fun t h1 h2 h3 h4 => .needs t HL h1 h2 h3 h4
  have JO : Hid (firstR z = 0 → (uniq (allT z)).length ≤ 64 → (∀ t ∈ uniq (allT z), (needsR z t).length ≤ 64) → JoinR z ((uniq (allT z)).map (oneR z)) 0) := fun h1 h2 h3 => .ok HL h1 h2 h3
  obtain ⟨a, cap, rfl, hcap, _, _, h5⟩ := h
  have HC : Hid (∀ W, Below w.heap.size w W → ∀ k, k < z.length → ∃ b off tv uv, a = some ⟨b, off, none⟩ ∧ W.cell? ⟨b, off + k * 2, none⟩ = some tv ∧ W.cell? ⟨b, off + k * 2 + 1, none⟩ = some uv ∧ SIn W tv (tg z k) ∧ SIn W uv (nd z k) ∧ SIn w tv (tg z k)) := fun W hW k hk => by
    rcases h5 with rfl | ⟨b, off, ha, hlt, T, U, hc⟩
    · exact absurd hk (Nat.not_lt_zero _)
    · exact ⟨b, off, T k, U k, ha, cell_later hW (hc k hk).1, cell_later hW (hc k hk).2.1, (hc k hk).2.2.1.later hW, (hc k hk).2.2.2.later hW, (hc k hk).2.2.1⟩
  clear h5
  · have HLL := Lib.hid HL
    generalize eL : z.length = L at *
    have EL := Lib.hid eL; clear eL
    go_enter Try.func32, Try.ntmps32
    go_wp2_with fail
    go_loopw [4, 17] (fun o i wr => ∃ (k : Nat) (all : List Str), k ≤ L ∧ i = .int .i64 (k : Int) ∧ all = allT (z.take k) ∧ firstR (z.take k) = 0 ∧ SO w.heap.size o all wr ∧ all.length ≤ 20 * k ∧ Below w.heap.size w wr) (fun _ i _ => L - (intOf i).toNat)
    case atStart => exact ⟨0, [], Nat.zero_le _, rfl, rfl, rfl, World.ownsRow_nil _ _ _ _, Nat.zero_le _, Below.refl _ _⟩
    case round =>
      obtain ⟨k, all, hk, rfl, ha, hf, qo, ql, qb⟩ := hrel
      have QO := Lib.hid qo; have QB := Lib.hid qb; have HA := Lib.hid ha; have HF := Lib.hid hf; clear qo qb ha hf
      by_cases hkl : k < L
      · obtain ⟨b, off, tv, uv, rfl, c0, c1, s0, s1, sw⟩ := HC.out wr QB.out k hkl
        have NK := Lib.hid (FT.out k hkl HF.out)
        have NB := Lib.hid (FB.out k hkl HF.out)
        have NA := Lib.hid (AT.out k hkl)
        have SW := Lib.hid sw; clear sw
        generalize tg z k = tk at *
        generalize nd z k = nk at *
        obtain ⟨at', ct, rfl⟩ := s0.shape
        obtain ⟨an', cn, rfl⟩ := s1.shape
        have BA : Hid (Below wr.heap.size wr (wr.alloc (.cells #[.slice at' tk.length ct, .slice an' nk.length cn] 40))) := (Below.refl _ _).alloc (Nat.le_refl _) _
        have S0 := Lib.hid (s0.later BA.out)
        have S1 := Lib.hid (s1.later BA.out)
        have ST := Lib.hid (stayR_new wr (.slice at' tk.length ct) (.slice an' nk.length cn))
        have bt := s0.bound
        have bn := s1.bound
        have OA : Hid ((wr.alloc (.cells #[.slice at' tk.length ct, .slice an' nk.length cn] 40)).ownsRow w.heap.size 9 1 u4 all.length (all.map encStr)) := QO.out.alloc _
        have WA : Hid (Below w.heap.size w (wr.alloc (.cells #[.slice at' tk.length ct, .slice an' nk.length cn] 40))) := QB.out.alloc QB.out.size _
        have WS := Lib.hid QB.out.size
        clear s0 s1
        by_cases hck : chkR (tk, nk) = 0
        · obtain ⟨h20, h21, hpos, hgood, _⟩ := chk_ok hck
          have NK0 : Hid (firstR (z.take (k + 1)) = 0) := Lib.hid (by rw [NK.out, hck])
          rcases SW.out.open with ⟨e0, _⟩ | ⟨_, b3, off3, c3, e3, _, _, h3⟩
          · rw [e0] at hpos; exact absurd hpos (Nat.not_lt_zero _)
          cases e3
          have HN3 : Hid (∀ W, Below w.heap.size w W → ∀ j u, (tk.map encStr)[j]? = some u → W.cell? ((⟨b3, off3, none⟩ : Addr).add j) = some u) := fun W hW j u hj => by
            have hlt : j < tk.length := by
              rcases Nat.lt_or_ge j tk.length with h' | h'
              · exact h'
              · rw [List.getElem?_eq_none (by rw [List.length_map]; exact h')] at hj; cases hj
            have hx := cell_later hW (h3 j hlt)
            rw [List.getElem?_map, List.getElem?_eq_getElem hlt] at hj
            simp at hj
            rw [List.getD, List.getElem?_eq_getElem hlt] at hx
            subst hj
            have ea : (⟨b3, off3, none⟩ : Addr).add j = ⟨b3, off3 + j, none⟩ := by
              unfold Addr.add
              by_cases e : j = 0 <;> simp [e]
            rw [ea]
            exact hx
          have TL : Hid ((tk.map encStr).length = tk.length * 1) := Lib.hid (by simp)
          generalize hlt' : tk.length = lt at *
          generalize nk.length = ln at *
          have LT := Lib.hid hlt'; clear hlt' h3 hgood
          go_wp2_with fail
          refine (fault_any S0.out S1.out).mono ?_
          rintro e w2 ⟨rfl, b2⟩
          rw [hck]
          have ST2 := Lib.hid (ST.out.later b2)
          have O2 := Lib.hid (own_later OA.out b2)
          have B2 := Lib.hid (WA.out.trans (b2.mono WA.out.size))
          obtain ⟨d0, d1⟩ := ST2.out.cells
          clear b2
          have SZ := Lib.hid B2.out.size
          have LT4 : Hid (∀ k, u4.ownBlock = some k → w.heap.size ≤ k) := fun k hk => (QO.out.lt k hk).1
          go_wp2_with (at_builtin; go_must (refine wpList_append_own _ rfl (.tmp 26) (.tmp 28) 24 rfl w.heap.size 9 i0 (.string ByteArray.empty) 1 16 Try.underlying24 HI.out hz0 hz1 hz2 rfl (by decide) _ _ _ rfl O2.out ⟨b3, off3, none⟩ lt _ (tk.map encStr) rfl TL.out (HN3.out _ B2.out) (by intro u hu; simp at hu; obtain ⟨_, _, rfl⟩ := hu; rfl) (by unfold maxLen; omega) (by omega) SZ.out ?_; intro v4 w4 q1 q2 q3; have O4 := Lib.hid q1; have G4 := Lib.hid q2; clear q1 q2 q3))
          go_roundw
          case rel =>
            refine ⟨k + 1, all ++ tk, by omega, by go_num, ?_, NK0.out, ?_, ?_, B2.out.grown G4.out SZ.out LT4.out⟩
            · rw [NA.out, HA.out]
            · unfold SO; rw [List.length_append, List.map_append, LT.out]; exact O4.out
            · rw [List.length_append, LT.out]; omega
          case measure => simp [intOf]; omega
        · have hne : (chkR (tk, nk) != 0) = true := by rw [bne_iff_ne]; exact hck
          have FF := Lib.hid (NB.out hck)
          have FJ := Lib.hid (JF.out (by rw [FF.out]; exact hck))
          generalize tk.length = lt at *
          generalize nk.length = ln at *
          clear hck
          go_wp2_with fail
          refine (fault_any S0.out S1.out).mono ?_
          rintro e w2 ⟨rfl, b2⟩
          have B2 := Lib.hid (WA.out.trans (b2.mono WA.out.size))
          clear b2
          go_wp2
          go_ret2
          refine ⟨_, [], _, rfl, ?_, RO.nil _ _, B2.out⟩
          rw [← FF.out]; exact FJ.out
      · obtain rfl : k = L := by omega
        have A := HA.out
        rw [ZE.out.2] at A
        subst A
        have F0 : Hid (firstR z = 0) := Lib.hid (by rw [← ZE.out.1]; exact HF.out)
        have G0 := Lib.hid (allgood F0.out)
        have IN : Hid (SIn wr u4 (allT z)) := SIn.own QO.out (by omega) (small_all G0.out)
        clear HC HA HF
        go_wp2_with fail
        refine (rising_of IN.out (by omega)).mono ?_
        rintro e w2 ⟨v8, rfl, o8, b2⟩
        have g2 : (uniq (allT z)).all good = true := good_uniq G0.out
        obtain ⟨a9, c9, e9⟩ := own_shape' o8
        by_cases h64 : (uniq (allT z)).length ≤ 64
        · have H64 := Lib.hid h64
          have B2 := Lib.hid (QB.out.trans (b2.mono QB.out.size))
          have J1 := Lib.hid (JN.out)
          have J2 := Lib.hid (JO.out F0.out h64)
          have N1 := Lib.hid (NN.out F0.out)
          have I8 : SIn w2 v8 (uniq (allT z)) := SIn.own o8 (by omega) (small_all g2)
          have OT : Hid (∀ k, k < (uniq (allT z)).length → ((uniq (allT z)).take (k + 1)).map (oneR z) = ((uniq (allT z)).take k).map (oneR z) ++ [([(uniq (allT z)).getD k []], needsR z ((uniq (allT z)).getD k []))]) := fun k hk => one_take hk
          have TT : Hid (∀ k, k < (uniq (allT z)).length → ∀ t, t ∈ (uniq (allT z)).take (k + 1) → t ∈ (uniq (allT z)).take k ∨ t = (uniq (allT z)).getD k []) := fun k hk t ht => by
            rw [List.take_add_one, List.getElem?_eq_getElem hk] at ht
            rw [List.getD, List.getElem?_eq_getElem hk]
            rcases List.mem_append.1 ht with h | h
            · exact .inl h
            · exact .inr (by simpa using h)
          have TE : Hid ((uniq (allT z)).take (uniq (allT z)).length = uniq (allT z)) := List.take_length
          have TM : Hid (∀ k, k < (uniq (allT z)).length → (uniq (allT z)).getD k [] ∈ uniq (allT z)) := fun k hk => getD_mem hk
          clear b2 g2 o8 e9 IN G0 QO QB ZE NN FT FB AT JF JM JN JO Z0
          generalize uniq (allT z) = ts at *
          obtain ⟨a8, c8, rfl, _, _, _, h8⟩ := I8
          have HC8 : Hid (∀ W, Below w2.heap.size w2 W → ∀ k, k < ts.length → ∃ b8 off8, a8 = some ⟨b8, off8, none⟩ ∧ W.cell? ⟨b8, off8 + k, none⟩ = some (.string (bs (ts.getD k [])))) := fun W hW k hk => by
            rcases h8 with rfl | ⟨b8, off8, ha, _, hc⟩
            · exact absurd hk (Nat.not_lt_zero _)
            · exact ⟨b8, off8, ha, cell_later hW (hc k hk)⟩
          clear h8
          generalize eN : ts.length = n8 at *
          have EN := Lib.hid eN; clear eN
          have h64' : n8 ≤ 64 := h64
          go_wp2_with fail
          go_loopw [8, 38] (fun o i wj => ∃ (k : Nat) (out : List Rl), k ≤ n8 ∧ i = .int .i64 (k : Int) ∧ out = (ts.take k).map (oneR z) ∧ (∀ t ∈ ts.take k, (needsR z t).length ≤ 64) ∧ RO w2.heap.size o out wj ∧ out.length = k ∧ Below w2.heap.size w2 wj) (fun _ i _ => n8 - (intOf i).toNat)
          case atStart => exact ⟨0, [], Nat.zero_le _, rfl, rfl, fun t ht => by simp at ht, RO.nil _ _, rfl, Below.refl _ _⟩
          case round =>
            obtain ⟨k, out, hk, rfl, ha, hs, qr, hl, qb⟩ := hrel
            have QR := Lib.hid qr; have QB := Lib.hid qb; have HA := Lib.hid ha; have HS := Lib.hid hs; clear qr qb ha hs
            rename World => wj
            have BW := Lib.hid (B2.out.trans (QB.out.mono B2.out.size))
            by_cases hkl : k < n8
            · obtain ⟨b8, off8, rfl, d0⟩ := HC8.out wj QB.out k hkl
              have OK := Lib.hid (OT.out k hkl)
              have TK := Lib.hid (TT.out k hkl)
              have MK := Lib.hid (TM.out k hkl)
              generalize ts.getD k [] = x at *
              have RI := Lib.hid (HR.out.later BW.out)
              go_wp2_with fail
              refine (rneeds_any RI.out x (by rw [EL.out]; exact HLL.out) (by rw [EL.out]; exact N1.out)).mono ?_
              rintro e w3 ⟨u, rfl, o3, s3, l3, b3⟩
              obtain ⟨au, cu, rfl⟩ := own_shape' o3
              by_cases h65 : 64 < (needsR z x).length
              · have F3 := Lib.hid (J1.out x F0.out H64.out MK.out h65)
                have B3 := Lib.hid (BW.out.trans (b3.mono BW.out.size))
                clear o3 s3 b3
                generalize (needsR z x).length = nn at *
                go_wp2
                go_ret2
                exact ⟨_, [], 2, rfl, F3.out, RO.nil _ _, B3.out⟩
              · have H65 := Lib.hid h65
                have O3 := Lib.hid o3
                have B3 := Lib.hid b3
                clear o3 s3 b3
                obtain ⟨c, hcl, ho, he, hap⟩ := QR.out
                have CL := Lib.hid hcl; have CO := Lib.hid ho; have CE := Lib.hid he; have CP := Lib.hid hap
                clear hcl ho he hap
                have UB : Hid (∀ q, (Value.slice au (needsR z x).length cu).ownBlock = some q → q < w3.heap.size) := fun q hq => (O3.out.lt q hq).2
                have OA : Hid (∀ o1 o2, ((w3.alloc o1).alloc o2).ownsRow w2.heap.size 40 2 u8 out.length (rcells c)) := fun o1 o2 => ((own_later CO.out B3.out).alloc o1).alloc o2
                have SA : Hid (∀ o1 o2, w2.heap.size ≤ ((w3.alloc o1).alloc o2).heap.size) := fun o1 o2 => by have := QB.out.size; have := B3.out.size; simp; omega
                have BA : Hid (∀ o1 o2, Below wj.heap.size wj ((w3.alloc o1).alloc o2)) := fun o1 o2 => (B3.out.alloc B3.out.size o1).alloc (by have := B3.out.size; simp; omega) o2
                have BB : Hid (∀ o1 o2, Below w2.heap.size w2 ((w3.alloc o1).alloc o2)) := fun o1 o2 => QB.out.trans ((BA.out o1 o2).mono QB.out.size)
                have LT4 : Hid (∀ k, u8.ownBlock = some k → w2.heap.size ≤ k) := fun k hk => (CO.out.lt k hk).1
                have OU : Hid (∀ o1 o2, SO wj.heap.size (.slice au (needsR z x).length cu) (needsR z x) ((w3.alloc o1).alloc o2)) := fun o1 o2 => (O3.out.alloc o1).alloc o2
                have OX : Hid (∀ o2, SO wj.heap.size (.slice (some ⟨w3.heap.size, 0, none⟩) 1 1) [x] ((w3.alloc (.cells #[.string (bs x)] 9)).alloc o2)) := fun o2 => (one_new w3 _ x B3.out.size).alloc o2
                have AP : Hid (Apart (.slice (some ⟨w3.heap.size, 0, none⟩) 1 1) (.slice au (needsR z x).length cu)) := fun q hq hq' => by
                  have := UB.out q hq'
                  have e : w3.heap.size = q := Option.some.inj hq
                  omega
                have QS := Lib.hid QB.out.size
                generalize eNN : (needsR z x).length = nn at *
                have ENN := Lib.hid eNN; clear eNN
                go_wp2_with (at_builtin; go_must (refine wpList_append_own _ rfl (.tmp 48) (.tmp 53) 22 rfl w2.heap.size 40 j0 (.agg #[.slice none 0 0, .slice none 0 0]) 2 48 Try.underlying22 JI.out jz0 jz1 jz2 rfl (by decide) _ _ _ rfl (OA.out _ _) ⟨w3.heap.size + 1, 0, none⟩ 1 1 [.slice (some ⟨w3.heap.size, 0, none⟩) 1 1, .slice au nn cu] rfl rfl (cell_two' _ _ _ _ _ (by simp)) (by intro u hu; simp at hu; rcases hu with rfl | rfl <;> rfl) (by unfold maxLen; omega) (by omega) (SA.out _ _) ?_; intro v4 w4 q1 q2 q3; have O4 := Lib.hid q1; have G4 := Lib.hid q2; clear q1 q2 q3))
                go_roundw
                case rel =>
                  refine ⟨k + 1, out ++ [([x], needsR z x)], by omega, by go_num, ?_, ?_, ⟨_, ro_snoc CL.out CO.out CE.out CP.out (BA.out _ _) (OX.out _) (OU.out _ _) AP.out QS.out G4.out O4.out⟩, by simp [hl], (BB.out _ _).grown G4.out (SA.out _ _) LT4.out⟩
                  · rw [OK.out, HA.out]
                  · intro t ht
                    rcases TK.out t ht with h | h
                    · exact HS.out t h
                    · rw [h, ENN.out]; have := H65.out; omega
                case measure => simp [intOf]; omega
            · obtain rfl : k = n8 := by omega
              have A := HA.out
              have S := HS.out
              rw [TE.out] at A S
              subst A
              have F3 := Lib.hid (J2.out S)
              have RF := Lib.hid (QR.out.less B2.out.size)
              clear S
              go_wp2
              go_ret2
              exact ⟨_, _, 0, rfl, F3.out, RF.out, BW.out⟩
        · have F2 := Lib.hid (JM.out F0.out (by omega))
          have B2 := Lib.hid (QB.out.trans (b2.mono QB.out.size))
          subst e9
          have h65 : 64 < (uniq (allT z)).length := by omega
          clear b2 g2 h64 o8 IN G0
          generalize (uniq (allT z)).length = n9 at *
          go_wp2
          go_ret2
          exact ⟨_, [], 2, rfl, F2.out, RO.nil _ _, B2.out⟩
end Go.Proofs.Ytihiohohocfchaa
