/-
  The reference's Expanded; slices.ContainsFunc of macros with the law's own test. Condition: strings of at most 2^32 bytes.
-/
import Derived.Test.YtoinflfibofofaaMTw
namespace Go.Proofs.Ytoinflfibofofaa
set_option linter.unusedVariables false
open Go.ChangeShapes Go.WideShapes Go.ChangeAt Go.RowKit

theorem FE.to {z o : List Mc} {f : Str → Option Str} (h : FE z o f) (ho : ∀ m, m ∈ o ↔ m ∈ z) : FE z z f := ⟨fun x => h.mem ho x, h.val⟩
set_option maxHeartbeats 4000000 in
set_option maxRecDepth 100000 in
theorem exd_any (z : List Mc) (s : Str) (v : Value) (w : World) (h : McIn w v z) (hx : ∀ m ∈ z, m.1.length ≤ maxLen ∧ m.2.length ≤ 4294967296) (hs : s.length ≤ 4294967296) :
    Calls Try.prog 13 #[v, .string (bs s)] w (EPost z s w) := by
  have RF := Lib.hid (rflat_any z v w h hx)
  have HM := Lib.hid h
  have HX := Lib.hid hx
  have HS := Lib.hid hs
  clear h hx hs
  go_enter Try.func13, Try.ntmps13
  go_wp2_with fail
  refine RF.out.mono ?_
  rintro e w1 ⟨hb, (⟨hF, o, f, u, ho, hE, hI, rfl⟩ | ⟨E, hE, rfl⟩)⟩
  · have B1 := Lib.hid hb; have FF := Lib.hid hF; have HO := Lib.hid ho; have HE := Lib.hid hE; have I1 := Lib.hid hI
    have MZ := Lib.hid (HM.out.later hb)
    have ND : Hid (names z).Nodup := hF.2.1
    have ZL : Hid (z.length ≤ 40) := hF.1
    clear hb hF ho hE hI RF HM
    have CA := Lib.hid (calls_any (bs s) w1 (by rw [bs_size]; exact HS.out))
    rw [bs_list] at CA
    go_wp2_with fail
    refine CA.out.mono ?_
    rintro e w2 ⟨hb2, (⟨T, c, hT, hTl, rfl, hC⟩ | ⟨hT, rfl⟩)⟩
    · have B2 : Hid (Below w.heap.size w w2) := B1.out.trans (hb2.mono B1.out.size)
      have I2 := Lib.hid (I1.out.later hb2)
      have M2 := Lib.hid (MZ.out.later hb2)
      have CD := Lib.hid (called_any T c w2 hC (by have := HS.out; omega) (tk_good s none T hT))
      have UL : Hid ((dd T).length ≤ 4294967296) := by have h1 := dd_le T; have h2 := HS.out; show _ ≤ _; omega
      have TL : Hid (T.length ≤ 4294967296) := by have h2 := HS.out; show _ ≤ _; omega
      have TT := Lib.hid hT
      have C2 := Lib.hid hC
      clear hb2 hT hTl hC CA
      go_wp2_with fail
      refine CD.out.mono ?_
      rintro e w3 ⟨u3, rfl, o3, hb3⟩
      have B3 : Hid (Below w.heap.size w w3) := B2.out.trans (hb3.mono B2.out.size)
      have I3 := Lib.hid (I2.out.later hb3)
      have M3 := Lib.hid (M2.out.later hb3)
      have C3 := Lib.hid (C2.out.later hb3)
      have MT : Hid (∀ n, Sum.inr n ∈ T ↔ n ∈ dd T) := fun n => (mem_dd n T).symm
      obtain ⟨U, hU⟩ : ∃ U, U = dd T := ⟨_, rfl⟩
      rw [← hU] at o3 UL MT
      have UE := Lib.hid hU; clear hU
      obtain ⟨au, cu, rfl⟩ : ∃ au cu, u3 = .slice au U.length cu := by
        rcases o3.2 with ⟨h, h0⟩ | ⟨g', c', cur, h, _⟩
        · exact ⟨_, _, by rw [h, h0]⟩
        · exact ⟨_, _, h⟩
      have UC : Hid (∀ s, s < U.length → ∃ gu, au = some ⟨gu, 0, none⟩ ∧ ∀ W, Below w3.heap.size w3 W → W.cell? ⟨gu, s, none⟩ = some (.string (bs (U.getD s [])))) := fun s hs => by
        obtain ⟨gu, rfl⟩ : ∃ gu, au = some ⟨gu, 0, none⟩ := by
          rcases o3.2 with ⟨_, e0⟩ | ⟨g', c', cur, hv, _⟩
          · omega
          · simp at hv; exact ⟨g', hv.1⟩
        have cu1 := World.ownsRow.cells o3 (g := gu) rfl s (encStr (U.getD s [])) (by rw [List.getElem?_map, List.getD, List.getElem?_eq_getElem hs]; rfl)
        rw [add_off, encStr_bs] at cu1
        exact ⟨gu, rfl, fun W hW => cell_later hW cu1⟩
      have US : Hid (∀ s, s < U.length → U.take (s + 1) = U.take s ++ [U.getD s []] ∧ U.getD s [] ∈ U) := fun s hs => ⟨by rw [List.take_add_one, List.getElem?_eq_getElem hs, List.getD, List.getElem?_eq_getElem hs]; rfl, by rw [List.getD, List.getElem?_eq_getElem hs]; exact List.getElem_mem hs⟩
      have MN : Hid (∀ W, Below w3.heap.size w3 W → Calls Try.prog 32 #[v] W fun e w' => ∃ v', e = .returned v' ∧ SO W.heap.size v' (names z) w' ∧ Below W.heap.size W w') := fun W hW => mnames_any z v W (M3.out.later hW) (by have := ZL.out; omega)
      have SP : Hid (∀ W B v', SO B v' (names z) W → SIn W v' (names z)) := fun W B v' hS => SIn.own hS (by have := ZL.out; unfold names; rw [List.length_map]; omega) (fun n hn => by
        obtain ⟨m, hm, rfl⟩ := List.mem_map.1 hn
        have := (HX.out m hm).1; unfold maxLen at this; omega)
      have BW : Hid (∀ W, Below w3.heap.size w3 W → Below w.heap.size w W) := fun W hW => B3.out.trans (hW.mono B3.out.size)
      clear hb3 o3 CD
      have ul := UL.out
      go_wp2_with fail
      go_loopw [31] (fun i wp => ∃ (t : Nat), t ≤ U.length ∧ i = .int .i64 (t : Int) ∧ (∀ n ∈ U.take t, n ∈ names z) ∧ Below w3.heap.size w3 wp) (fun i _ => U.length - (intOf i).toNat)
      case atStart => exact ⟨0, Nat.zero_le _, rfl, fun n hn => absurd hn (by simp), Below.refl _ _⟩
      case round =>
        obtain ⟨t, ht, rfl, p1, p6⟩ := hrel
        have P1 := Lib.hid p1; have P6 := Lib.hid p6; clear p1 p6
        rename World => W8
        by_cases ht2 : t < U.length
        · obtain ⟨gu, rfl, hcu⟩ := UC.out t ht2
          have cu1 := hcu W8 P6.out
          obtain ⟨us1, us2⟩ := US.out t ht2
          have US1 := Lib.hid us1
          have US2 := Lib.hid us2
          clear us1 us2 hcu
          generalize U.getD t [] = q at *
          go_wp2_with fail
          refine (MN.out _ P6.out).mono ?_
          rintro e w9 ⟨v9, rfl, o9, hb9⟩
          have I9 := Lib.hid (SP.out _ _ _ o9)
          have P9 : Hid (Below w3.heap.size w3 w9) := P6.out.trans (hb9.mono P6.out.size)
          have PQ := Lib.hid (place_ix I9.out q)
          clear o9 hb9
          by_cases hq : q ∈ names z
          · obtain ⟨i, hi, _, _⟩ := placeIx_some hq
            rw [hi] at PQ
            have t5 : decide ((i : Int) < 0) = false := decide_eq_false (by omega)
            have HQ := Lib.hid hq
            clear hq hi
            go_wp2_with fail
            refine PQ.out.mono ?_
            rintro e wA ⟨rfl, hA⟩
            rw [hA]
            clear hA wA
            go_wp2
            go_roundw
            case rel =>
              refine ⟨t + 1, by omega, by go_num, fun n hn => ?_, P9.out⟩
              rw [US1.out] at hn
              rcases List.mem_append.1 hn with hn | hn
              · exact P1.out n hn
              · rw [List.mem_singleton.1 hn]; exact HQ.out
            case measure => simp [intOf]; omega
          · rw [placeIx_none hq] at PQ
            have NO : Hid (∃ x ∈ dd T, x ∉ names z) := ⟨q, by rw [← UE.out]; exact US2.out, hq⟩
            clear hq
            go_wp2_with fail
            refine PQ.out.mono ?_
            rintro e wA ⟨rfl, hA⟩
            rw [hA]
            clear hA wA
            go_wp2
            go_ret2
            exact ⟨BW.out _ P9.out, .inr ⟨5, .inr ⟨FF.out, .inr ⟨T, TT.out, .inl ⟨NO.out, rfl⟩⟩⟩, rfl⟩⟩
        · obtain rfl : t = U.length := by omega
          have YES : Hid (∀ x ∈ dd T, x ∈ names z) := by rw [← UE.out]; have := P1.out; rw [List.take_length] at this; exact this
          have SE : Hid (subD (look (flatL f z)) T = subD f T) := subD_congr T (fun n hn => look_flat (HE.out.to HO.out) ND.out (YES.out n (by rw [← UE.out]; exact (MT.out n).1 hn)))
          have TE := Lib.hid (ten_any (flatL f z) T u c W8 (I3.out.later P6.out) (C3.out.later P6.out) (by have := ZL.out; unfold flatL; rw [List.length_map]; omega) TL.out (by rw [flat_names]; exact ND.out) (fun m hm => ⟨by
            obtain ⟨y, hy, rfl⟩ := List.mem_map.1 hm
            exact (HX.out y hy).1, flat_val (HE.out.to HO.out) m hm⟩) (fun n hn => by rw [flat_names]; exact YES.out n (by rw [← UE.out]; exact (MT.out n).1 hn)))
          unfold TenPost at TE
          rw [SE.out] at TE
          go_wp2_with fail
          refine TE.out.mono ?_
          rintro e w9 ⟨hb9, (⟨hl, rfl⟩ | ⟨hl, rfl⟩)⟩
          · have B9 : Hid (Below w3.heap.size w3 w9) := P6.out.trans (hb9.mono P6.out.size)
            have EX := Lib.hid (HE.out.exp FF.out HO.out TT.out YES.out hl)
            clear hb9 hl TE SE
            go_wp2
            go_ret2
            exact ⟨BW.out _ B9.out, .inl ⟨_, EX.out, rfl⟩⟩
          · have B9 : Hid (Below w3.heap.size w3 w9) := P6.out.trans (hb9.mono P6.out.size)
            have NE := Lib.hid (HE.out.noexp HO.out TT.out YES.out hl)
            clear hb9 hl TE SE
            go_wp2
            go_ret2
            exact ⟨BW.out _ B9.out, .inr ⟨2, .inr ⟨FF.out, .inr ⟨T, TT.out, .inr ⟨YES.out, NE.out, rfl⟩⟩⟩, rfl⟩⟩
    · have B2 : Hid (Below w.heap.size w w2) := B1.out.trans (hb2.mono B1.out.size)
      have TT := Lib.hid hT
      clear hb2 hT CA
      go_wp2
      go_ret2
      exact ⟨B2.out, .inr ⟨3, .inr ⟨FF.out, .inl ⟨TT.out, rfl⟩⟩, rfl⟩⟩
  · have B1 := Lib.hid hb; have HE := Lib.hid hE
    have t1 : (E != 0) = true := by simpa using hE.bad.2
    clear hb hE RF
    go_wp2
    go_ret2
    exact ⟨B1.out, .inr ⟨E, .inl HE.out, rfl⟩⟩
end Go.Proofs.Ytoinflfibofofaa
