/-
  The reference's MacroFlat. Condition: the macros' values have at most 2^32 bytes.
  The law MacroTells: the reference's Expanded, macro.Check, slices.Equal of the same strings, slices.ContainsFunc of macros. Condition: strings of at most 2^32 bytes.
-/
import Derived.Test.YtfgcbdjkimkgpaaGreatDoorGc17MFw
import Derived.Test.YtfgcbdjkimkgpaaGreatDoorGc13RPar
import Derived.Deep.RegionHeld3
namespace Go.Proofs.YtfgcbdjkimkgpaaGreatDoor
set_option maxRecDepth 100000
set_option linter.unusedVariables false
open Go.ChangeShapes Go.WideShapes Go.ChangeAt Go.RowKit

def allIn (U V : List Str) : Bool := U.all fun n => V.contains n
theorem allIn_true {U V : List Str} (h : ∀ n ∈ U, n ∈ V) : allIn U V = true := List.all_eq_true.2 fun n hn => List.contains_iff_mem.2 (h n hn)
theorem allIn_false {U V : List Str} (h : ¬ ∀ n ∈ U, n ∈ V) : allIn U V = false := by
  cases e : allIn U V
  · rfl
  · exact absurd (fun n hn => List.contains_iff_mem.1 (List.all_eq_true.1 e n hn)) h
theorem ft_x {z : List Mc} {E : Int} (h : FtRes z E) (he : E ≠ 0) : XErr z E := by
  rcases h with h | ⟨a, (h | ⟨b, (h | ⟨c, (h | ⟨_, h⟩)⟩)⟩)⟩
  · exact .inl h
  · exact .inr ⟨a, .inl h⟩
  · exact .inr ⟨a, .inr ⟨b, .inl h⟩⟩
  · exact .inr ⟨a, .inr ⟨b, .inr ⟨c, .inl h⟩⟩⟩
  · exact absurd h he
theorem ft_zero {z : List Mc} (h : FtRes z 0) : z.length ≤ 40 ∧ formR [] z = 0 ∧ Refs z ∧ ∃ o, Ord o ∧ ∀ m, m ∈ o ↔ m ∈ z := by
  rcases h with ⟨_, h⟩ | ⟨a, (⟨h, h'⟩ | ⟨b, (⟨_, h⟩ | ⟨c, (⟨_, h⟩ | ⟨h, _⟩)⟩)⟩)⟩
  · cases h
  · exact absurd h'.symm h
  · cases h
  · cases h
  · exact ⟨a, b, c, h⟩
theorem subD_congr {g h : Str → Option Str} : ∀ (T : List Tok), (∀ n, Sum.inr n ∈ T → g n = h n) → subD g T = subD h T
  | [], _ => rfl
  | .inl c :: r, H => by simp only [subD]; rw [subD_congr r (fun n hn => H n (List.mem_cons_of_mem _ hn))]
  | .inr n :: r, H => by simp only [subD]; rw [subD_congr r (fun n hn => H n (List.mem_cons_of_mem _ hn)), H n List.mem_cons_self]
theorem flat_names (f : Str → Option Str) (o : List Mc) : names (flatL f o) = names o := by
  unfold names flatL; rw [List.map_map]; rfl
theorem flat_upd {f : Str → Option Str} {o : List Mc} {x y t : Str} (h : x ∉ names o) : flatL (updS f x t) (o ++ [(x, y)]) = flatL f o ++ [(x, t)] := by
  unfold flatL
  rw [List.map_append]
  congr 1
  · refine List.map_congr_left fun m hm => ?_
    have : m.1 ≠ x := fun e => h (by rw [← e]; exact List.mem_map_of_mem hm)
    simp [updS, this]
  · simp [updS]
/-- the names of an order have no repeats -/
theorem look_flat {z o : List Mc} {f : Str → Option Str} (F : FE z o f) (hd : (names o).Nodup) {n : Str} (hn : n ∈ names o) : look (flatL f o) n = f n := by
  obtain ⟨m, hm, rfl⟩ := List.mem_map.1 hn
  have h1 : (m.1, (f m.1).getD []) ∈ flatL f o := List.mem_map_of_mem (f := fun m : Mc => (m.1, (f m.1).getD [])) hm
  have h2 := look_of (by rw [flat_names]; exact hd) h1
  have h3 : (f m.1).isSome = true := by rw [F.some, List.contains_iff_mem]; exact hn
  obtain ⟨t, ht⟩ := Option.isSome_iff_exists.1 h3
  rw [show look (flatL f o) m.1 = .some ((f m.1).getD []) from h2, ht]; rfl
theorem flat_val {z o : List Mc} {f : Str → Option Str} (F : FE z o f) : ∀ m ∈ flatL f o, m.2.length ≤ 2000 := by
  intro m hm
  obtain ⟨y, hy, rfl⟩ := List.mem_map.1 hm
  show ((f y.1).getD []).length ≤ 2000
  cases e : f y.1 with
  | none => exact Nat.zero_le _
  | some t => obtain ⟨j, hj⟩ := F.val; exact (hj _ _ e).2
set_option maxHeartbeats 8000000 in
set_option maxRecDepth 100000 in
theorem rflat_any (z : List Mc) (v : Value) (w : World) (h : McIn w v z) (hx : ∀ m ∈ z, m.1.length ≤ maxLen ∧ m.2.length ≤ 4294967296) :
    Calls Tryz.prog 43 #[v] w (FPost z w) := by
  have FT := Lib.hid (mfault_any z v w h hx)
  have HM := Lib.hid h
  have HX := Lib.hid hx
  obtain ⟨a, cap, rfl, _⟩ := h
  obtain ⟨i0, hi, hz0, hz1, hz2⟩ := info_parts infoMc
  have IH := Lib.hid hi; clear hi hx
  go_enter Tryz.func43, Tryz.ntmps43
  go_wp2_with fail
  refine FT.out.mono ?_
  rintro e w1 ⟨E, rfl, hE, hb1⟩
  by_cases h0 : E = 0
  · subst h0
    obtain ⟨z1, z2, z3, z4⟩ := ft_zero hE
    have B1 := Lib.hid hb1; have ZN := Lib.hid z1; have F0 := Lib.hid z2; have RF := Lib.hid z3; have OX := Lib.hid z4
    have ND := Lib.hid (formR_zero z [] z2).1
    have NSK : Hid (¬ Stuck z) := by obtain ⟨o, h1, h2⟩ := z4; exact ord_free h1 h2
    have MZ := Lib.hid (HM.out.later hb1)
    have zl := z1
    clear hE hb1 z1 z2 z3 z4 FT HM
    have BW : Hid (∀ W, Below w1.heap.size w1 W → Below w.heap.size w W) := fun W hW => B1.out.trans (hW.mono B1.out.size)
    rcases MZ.out.open with ⟨rfl, _, _, _⟩ | ⟨hp, b, off, cap', e1, hcap, hlt, hc⟩
    · go_wp2_with fail
      go_rounds 1
      go_rounds 1
      go_ret2
      exact ⟨B1.out, .inl ⟨(FE.start []).fine ZN.out F0.out (fun m => Iff.rfl), [], _, _, fun m => Iff.rfl, FE.start [], ⟨none, 0, rfl, Nat.le_refl _, Nat.zero_le _, Nat.zero_le _, .inl rfl⟩, rfl⟩⟩
    · obtain ⟨rfl, rfl⟩ : a = some ⟨b, off, none⟩ ∧ cap = cap' := by simpa using e1
      have HC : Hid (∀ W, Below w1.heap.size w1 W → ∀ k, k < z.length → W.cell? ⟨b, off + k * 2, none⟩ = some (.string (bs (nm z k))) ∧ W.cell? ⟨b, off + k * 2 + 1, none⟩ = some (.string (bs (vl z k)))) := fun W hW k hk => ⟨cell_later hW (hc k _ (at_some hk)).1, cell_later hW (hc k _ (at_some hk)).2⟩
      have HL : Hid (∀ k, k < z.length → (nm z k).length ≤ maxLen ∧ (vl z k).length ≤ 4294967296) := fun k hk => HX.out _ (mem_at hk)
      have HT : Hid (∀ k, k < z.length → z.take (k + 1) = z.take k ++ [(nm z k, vl z k)]) := fun k hk => take_at hk
      have HI : Hid (∀ k, k < z.length → (nm z k, vl z k) ∈ z) := fun k hk => mem_at hk
      have GT : Hid (∀ k, k < z.length → tk none (vl z k) ≠ none) := fun k hk => ((formR_zero z [] F0.out).2.1 _ (mem_at hk)).2
      have NG : Hid (∀ x ∈ names z, x.length ≤ 9223372036854775807) := fun x hx => by
        obtain ⟨m, hm, rfl⟩ := List.mem_map.1 hx
        have := (HX.out m hm).1; unfold maxLen at this; omega
      have FT : Hid (∀ f k, k < z.length → (flatL f z).take (k + 1) = (flatL f z).take k ++ [(nm z k, (f (nm z k)).getD [])]) := fun f k hk => flatL_at f hk
      clear e1 hc hlt
      generalize nm z = p1 at *
      generalize vl z = p2 at *
      go_wp2_with fail
      go_loopw [5] (fun o5 wq => ∃ (o : List Mc) (f : Str → Option Str), OI z o ∧ FE z o f ∧ (names o).Nodup ∧ MO w1.heap.size o5 (flatL f o) wq ∧ Below w1.heap.size w1 wq) (fun o5 _ => z.length - lenOf o5)
      case atStart => exact ⟨[], _, OI.start z, FE.start z, List.nodup_nil, World.ownsRow_nil _ _ _ _, Below.refl _ _⟩
      case round =>
        obtain ⟨o, f, q1, q2, q3, q4, q5⟩ := hrel
        obtain ⟨a5, c5, rfl⟩ := q4.len
        have OL : Hid ((flatL f o).length = o.length) := by show _ = _; unfold flatL; rw [List.length_map]
        have Q1 := Lib.hid q1; have Q2 := Lib.hid q2; have Q3 := Lib.hid q3; have Q4 := Lib.hid q4; have Q5 := Lib.hid q5; clear q1 q2 q3 q4 q5
        rw [OL.out] at Q4 ⊢
        by_cases hlo : o.length < z.length
        · go_wp2_with fail
          go_loopw [30, 5] (fun i o5 wq => ∃ (k : Nat) (p : List Mc) (g : Str → Option Str), k ≤ z.length ∧ i = .int .i64 (k : Int) ∧ OI z p ∧ FE z p g ∧ (names p).Nodup ∧ MO w1.heap.size o5 (flatL g p) wq ∧ Below w1.heap.size w1 wq ∧ ((p = o ∧ ∀ m ∈ z.take k, Block o m) ∨ o.length < p.length)) (fun i _ _ => z.length - (intOf i).toNat)
          case atStart => exact ⟨0, o, f, Nat.zero_le _, rfl, Q1.out, Q2.out, Q3.out, Q4.out, Q5.out, .inl ⟨rfl, fun m hm => absurd hm (by simp)⟩⟩
          case round =>
            clear Q1 Q2 Q3 Q4 Q5 OL
            obtain ⟨k, p, g, hk, rfl, q1, q2, q3, q4, q5, q6⟩ := hrel
            obtain ⟨a8, c8, rfl⟩ := q4.len
            have PL : Hid ((flatL g p).length = p.length) := by show _ = _; unfold flatL; rw [List.length_map]
            have Q1 := Lib.hid q1; have Q2 := Lib.hid q2; have Q3 := Lib.hid q3; have Q4 := Lib.hid q4; have Q5 := Lib.hid q5; have Q6 := Lib.hid q6; clear q1 q2 q3 q4 q5 q6
            have PN : Hid (p.length ≤ 40) := by have h1 := Q1.out.cnt; have h2 := ZN.out; show _ ≤ _; omega
            rename World => W3
            by_cases hk2 : k < z.length
            · obtain ⟨c1, c2⟩ := HC.out W3 Q5.out k hk2
              obtain ⟨l1, l2⟩ := HL.out k hk2
              have T1 := Lib.hid (HT.out k hk2)
              have I1 := Lib.hid (HI.out k hk2)
              have GK := Lib.hid (GT.out k hk2)
              generalize p1 k = x at *
              generalize p2 k = y at *
              have L2 := Lib.hid l2
              have FN : Hid (names (flatL g p) = names p) := flat_names g p
              have FV : Hid (∀ m ∈ flatL g p, m.1.length ≤ maxLen ∧ m.2.length ≤ 2000) := fun m hm => by
                refine ⟨?_, flat_val Q2.out m hm⟩
                obtain ⟨y', hy', rfl⟩ := List.mem_map.1 hm
                exact (HX.out _ (Q1.out.sub _ hy')).1
              have PX : Hid (∀ W v' n, SIn W v' (names p) → Calls Tryz.prog 46 #[v', .string (bs n)] W fun e w' => e = .returned (.int .i64 (placeIx (names p) n)) ∧ w' = W) := fun W v' n hS => place_ix hS n
              have SP : Hid (∀ W B v', SO B v' (names (flatL g p)) W → SIn W v' (names p)) := fun W B v' hS => by
                rw [FN.out] at hS
                exact SIn.own hS (by have := PN.out; unfold names; rw [List.length_map]; omega) (fun n hn => by
                  obtain ⟨m, hm, rfl⟩ := List.mem_map.1 hn
                  exact NG.out _ (List.mem_map_of_mem (Q1.out.sub m hm)))
              obtain ⟨D, hD⟩ : ∃ D, D = flatL g p := ⟨_, rfl⟩
              rw [← hD] at Q4 PL FN FV SP ⊢
              have HDE := Lib.hid hD; clear hD
              have MD : Hid (∀ W, Below W3.heap.size W3 W → McIn W (.slice a8 D.length c8) D) := fun W hW => McIn.own (MO.later Q4.out hW) (by have := PL.out; have := PN.out; omega)
              have MN : Hid (∀ W, Below W3.heap.size W3 W → Calls Tryz.prog 75 #[.slice a8 D.length c8] W fun e w' => ∃ v', e = .returned v' ∧ SO W.heap.size v' (names D) w' ∧ Below W.heap.size W w') := fun W hW => mnames_any D _ W (MD.out W hW) (by have := PL.out; have := PN.out; omega)
              have ST := Lib.hid (stay_new W3 (.string (bs x)) (.string (bs y)))
              obtain ⟨d1, d2⟩ := ST.out.cells
              have SL : Hid (∀ W, Below (W3.alloc (.cells #[.string (bs x), .string (bs y)] 72)).heap.size (W3.alloc (.cells #[.string (bs x), .string (bs y)] 72)) W → W.cell? ⟨W3.heap.size, 0, none⟩ = some (.string (bs x)) ∧ W.cell? ⟨W3.heap.size, 1, none⟩ = some (.string (bs y))) := fun W hW => (ST.out.later hW).cells
              have BA : Hid (Below W3.heap.size W3 (W3.alloc (.cells #[.string (bs x), .string (bs y)] 72)).drew) := ((Below.refl _ _).alloc (Nat.le_refl _) _).drew
              have BD : Hid (Below (W3.alloc (.cells #[.string (bs x), .string (bs y)] 72)).heap.size (W3.alloc (.cells #[.string (bs x), .string (bs y)] 72)) (W3.alloc (.cells #[.string (bs x), .string (bs y)] 72)).drew) := (Below.refl _ _).drew
              have MB : Hid (∀ W, Below W3.heap.size W3 W → Below w1.heap.size w1 W) := fun W hW => Q5.out.trans (hW.mono Q5.out.size)
              clear l1 l2
              by_cases hin : x ∈ names p
              · obtain ⟨i, hi, _, _⟩ := placeIx_some hin
                have PI : Hid (placeIx (names p) x = i) := hi
                have BK : Hid (Block p (x, y)) := .inl hin
                have t5 : decide (0 ≤ (i : Int)) = true := decide_eq_true (by omega)
                clear hin hi
                go_wp2_with fail
                go_region_held3 (fun w' => w'.cell? ⟨W3.heap.size, 0, none⟩ = some (.string (bs x))) (first | assumption | go_keep) (first
                  | (go_at_call 75
                     refine (MN.out _ BA.out).mono ?_
                     rintro e w5 ⟨v5, rfl, o5, hb5⟩
                     have B5 : Hid (Below W3.heap.size W3 w5) := BA.out.trans (hb5.mono BA.out.size)
                     have I5 := Lib.hid (SP.out _ _ _ o5)
                     obtain ⟨k1, k2⟩ := SL.out _ (BD.out.trans hb5)
                     clear o5 hb5)
                  | (go_at_call 46
                     refine (PX.out _ _ x I5.out).mono ?_
                     rintro e w6 ⟨rfl, h6⟩
                     rw [h6, PI.out]
                     clear h6 w6))
                go_wp2
                go_roundw
                case rel =>
                  refine ⟨k + 1, p, g, by omega, by go_num, Q1.out, Q2.out, Q3.out, by rw [← HDE.out]; exact MO.later Q4.out B5.out, MB.out _ B5.out, ?_⟩
                  rcases Q6.out with ⟨rfl, h6⟩ | h6
                  · refine .inl ⟨rfl, fun m hm => ?_⟩
                    rw [T1.out] at hm
                    rcases List.mem_append.1 hm with hm | hm
                    · exact h6 m hm
                    · rw [List.mem_singleton.1 hm]; exact BK.out
                  · exact .inr h6
                case measure => simp [intOf]; omega
              · have PI : Hid (placeIx (names p) x = -1) := placeIx_none hin
                have XN := Lib.hid hin
                clear hin
                go_wp2_with fail
                go_region_held3 (fun w' => w'.cell? ⟨W3.heap.size, 0, none⟩ = some (.string (bs x))) (first | assumption | go_keep) (first
                  | (go_at_call 75
                     refine (MN.out _ BA.out).mono ?_
                     rintro e w5 ⟨v5, rfl, o5, hb5⟩
                     have B5 : Hid (Below W3.heap.size W3 w5) := BA.out.trans (hb5.mono BA.out.size)
                     have I5 := Lib.hid (SP.out _ _ _ o5)
                     obtain ⟨k1, k2⟩ := SL.out _ (BD.out.trans hb5)
                     have E5 := Lib.hid (BD.out.trans hb5)
                     clear o5 hb5)
                  | (go_at_call 46
                     refine (PX.out _ _ x I5.out).mono ?_
                     rintro e w6 ⟨rfl, h6⟩
                     rw [h6, PI.out]
                     clear h6 w6))
                have CA := Lib.hid (calls_any (bs y) w5 (by rw [bs_size]; exact L2.out))
                rw [bs_list] at CA
                go_wp2_with fail
                refine CA.out.mono ?_
                rintro e w6 ⟨hb6, (⟨T, u, hT, hTl, rfl, hC⟩ | ⟨hT, rfl⟩)⟩
                · have B6 : Hid (Below W3.heap.size W3 w6) := B5.out.trans (hb6.mono B5.out.size)
                  have E6 : Hid (Below (W3.alloc (.cells #[.string (bs x), .string (bs y)] 72)).heap.size (W3.alloc (.cells #[.string (bs x), .string (bs y)] 72)) w6) := E5.out.trans (hb6.mono E5.out.size)
                  have CD := Lib.hid (called_any T u w6 hC (by have := L2.out; omega) (tk_good y none T hT))
                  have UE : Hid (usesR y = dd T) := usesR_of hT
                  have UL : Hid ((dd T).length ≤ 4294967296) := by have h1 := dd_le T; have h2 := L2.out; show _ ≤ _; omega
                  have TT := Lib.hid hT
                  have TL : Hid (T.length ≤ 4294967296) := by have h2 := L2.out; show _ ≤ _; omega
                  have C6 := Lib.hid hC
                  have MT : Hid (∀ n, Sum.inr n ∈ T ↔ n ∈ dd T) := fun n => (mem_dd n T).symm
                  clear hb6 hT hTl hC CA
                  generalize dd T = U at *
                  go_wp2_with fail
                  refine CD.out.mono ?_
                  rintro e w7 ⟨u7, rfl, o7, hb7⟩
                  have B7 : Hid (Below W3.heap.size W3 w7) := B6.out.trans (hb7.mono B6.out.size)
                  have E7 : Hid (Below (W3.alloc (.cells #[.string (bs x), .string (bs y)] 72)).heap.size (W3.alloc (.cells #[.string (bs x), .string (bs y)] 72)) w7) := E6.out.trans (hb7.mono E6.out.size)
                  have C7 := Lib.hid (C6.out.later hb7)
                  obtain ⟨au, cu, rfl⟩ : ∃ au cu, u7 = .slice au U.length cu := by
                    rcases o7.2 with ⟨h, h0⟩ | ⟨g', c', cur, h, _⟩
                    · exact ⟨_, _, by rw [h, h0]⟩
                    · exact ⟨_, _, h⟩
                  have UC : Hid (∀ s, s < U.length → ∃ gu, au = some ⟨gu, 0, none⟩ ∧ ∀ W, Below w7.heap.size w7 W → W.cell? ⟨gu, s, none⟩ = some (.string (bs (U.getD s [])))) := fun s hs => by
                    obtain ⟨gu, rfl⟩ : ∃ gu, au = some ⟨gu, 0, none⟩ := by
                      rcases o7.2 with ⟨_, e0⟩ | ⟨g', c', cur, hv, _⟩
                      · omega
                      · simp at hv; exact ⟨g', hv.1⟩
                    have cu1 := World.ownsRow.cells o7 (g := gu) rfl s (encStr (U.getD s [])) (by rw [List.getElem?_map, List.getD, List.getElem?_eq_getElem hs]; rfl)
                    rw [add_off, encStr_bs] at cu1
                    exact ⟨gu, rfl, fun W hW => cell_later hW cu1⟩
                  have US : Hid (∀ s, s < U.length → U.take (s + 1) = U.take s ++ [U.getD s []]) := fun s hs => by rw [List.take_add_one, List.getElem?_eq_getElem hs, List.getD, List.getElem?_eq_getElem hs]; rfl
                  clear hb7 o7 CD
                  have ul := UL.out
                  go_wp2_with fail
                  go_loopw [10, 49] (fun r i wp => ∃ (s : Nat), s ≤ U.length ∧ i = .int .i64 (s : Int) ∧ r = .bool (allIn (U.take s) (names p)) ∧ Below w7.heap.size w7 wp) (fun _ i _ => U.length - (intOf i).toNat)
                  case atStart => exact ⟨0, Nat.zero_le _, rfl, rfl, Below.refl _ _⟩
                  case round =>
                    obtain ⟨s, hs, rfl, rfl, p6⟩ := hrel
                    have P6 := Lib.hid p6; clear p6
                    rename World => W8
                    by_cases hs2 : s < U.length
                    · obtain ⟨gu, rfl, hcu⟩ := UC.out s hs2
                      have cu1 := hcu W8 P6.out
                      have US1 := Lib.hid (US.out s hs2)
                      generalize U.getD s [] = q at *
                      clear hcu
                      by_cases hr : ∀ n ∈ U.take s, n ∈ names p
                      · rw [allIn_true hr]
                        have B8 : Hid (Below W3.heap.size W3 W8) := B7.out.trans (P6.out.mono B7.out.size)
                        have RH := Lib.hid hr
                        clear hr
                        go_wp2_with fail
                        refine (MN.out _ B8.out).mono ?_
                        rintro e w9 ⟨v9, rfl, o9, hb9⟩
                        have I9 := Lib.hid (SP.out _ _ _ o9)
                        have P9 : Hid (Below w7.heap.size w7 w9) := P6.out.trans (hb9.mono P6.out.size)
                        clear o9 hb9
                        by_cases hq : q ∈ names p
                        · obtain ⟨i, hi, _, _⟩ := placeIx_some hq
                          have PQ := Lib.hid (PX.out _ _ q I9.out)
                          rw [hi] at PQ
                          have t5 : decide (0 ≤ (i : Int)) = true := decide_eq_true (by omega)
                          have NR : Hid (allIn (U.take (s + 1)) (names p) = true) := allIn_true (fun n hn => by
                            rw [US1.out] at hn
                            rcases List.mem_append.1 hn with hn | hn
                            · exact RH.out n hn
                            · rw [List.mem_singleton.1 hn]; exact hq)
                          clear hq hi
                          go_wp2_with fail
                          refine PQ.out.mono ?_
                          rintro e wA ⟨rfl, hA⟩
                          rw [hA]
                          clear hA wA
                          go_wp2
                          go_roundw
                          case rel => exact ⟨s + 1, by omega, by go_num, by rw [NR.out], P9.out⟩
                          case measure => simp [intOf]; omega
                        · have PQ := Lib.hid (PX.out _ _ q I9.out)
                          rw [placeIx_none hq] at PQ
                          have NR : Hid (allIn (U.take (s + 1)) (names p) = false) := allIn_false (fun hh => hq (hh q (by rw [US1.out]; exact List.mem_append_right _ (List.mem_singleton.2 rfl))))
                          clear hq
                          go_wp2_with fail
                          refine PQ.out.mono ?_
                          rintro e wA ⟨rfl, hA⟩
                          rw [hA]
                          clear hA wA
                          go_wp2
                          go_roundw
                          case rel => exact ⟨s + 1, by omega, by go_num, by rw [NR.out], P9.out⟩
                          case measure => simp [intOf]; omega
                      · rw [allIn_false hr]
                        have NR : Hid (allIn (U.take (s + 1)) (names p) = false) := allIn_false (fun hh => hr (fun n hn => hh n (by rw [US1.out]; exact List.mem_append_left _ hn)))
                        clear hr
                        go_wp2
                        go_roundw
                        case rel => exact ⟨s + 1, by omega, by go_num, by rw [NR.out], P6.out⟩
                        case measure => simp [intOf]; omega
                    · obtain rfl : s = U.length := by omega
                      have B8 : Hid (Below W3.heap.size W3 W8) := B7.out.trans (P6.out.mono B7.out.size)
                      rw [List.take_length]
                      by_cases hr : ∀ n ∈ U, n ∈ names p
                      · rw [allIn_true hr]
                        have RU : Hid (∀ n ∈ usesR y, n ∈ names p) := by rw [UE.out]; exact hr
                        have SE : Hid (subD (look D) T = subD g T) := subD_congr T (fun n hn => by rw [HDE.out]; exact look_flat Q2.out Q3.out (hr n ((MT.out n).1 hn)))
                        have TE := Lib.hid (ten_any D T (.slice a8 D.length c8) u W8 (MD.out _ B8.out) (C7.out.later P6.out) (by have := PL.out; have := PN.out; omega) TL.out (by rw [FN.out]; exact Q3.out) FV.out (fun n hn => by rw [FN.out]; exact hr n ((MT.out n).1 hn)))
                        unfold TenPost at TE
                        rw [SE.out] at TE
                        clear hr
                        go_wp2_with fail
                        refine TE.out.mono ?_
                        rintro e w9 ⟨hb9, (⟨hl, rfl⟩ | ⟨hl, rfl⟩)⟩
                        · have B9 : Hid (Below W3.heap.size W3 w9) := B8.out.trans (hb9.mono B8.out.size)
                          obtain ⟨f1, f2⟩ := SL.out w9 ((E7.out.trans (P6.out.mono E7.out.size)).trans (hb9.mono (Nat.le_trans E7.out.size P6.out.size)))
                          have N1 := Lib.hid (Q1.out.snoc (m := (x, y)) ND.out I1.out (by cases e : (names p).contains x with | false => rfl | true => exact absurd (List.contains_iff_mem.1 e) XN.out) RU.out)
                          have N2 := Lib.hid (Q2.out.step ND.out I1.out TT.out RU.out hl)
                          have N3 : Hid ((names (p ++ [(x, y)])).Nodup) := by
                            show List.Nodup _
                            rw [names_snoc]
                            exact List.nodup_append.2 ⟨Q3.out, by simp, fun a ha b hb => by rw [List.mem_singleton.1 hb]; rintro rfl; exact XN.out ha⟩
                          have NF : Hid (flatL (updS g x (subD g T)) (p ++ [(x, y)]) = D ++ [(x, subD g T)]) := by show _ = _; rw [flat_upd XN.out, HDE.out]
                          generalize subD g T = tt at *
                          have O9 := Lib.hid (MO.later Q4.out B9.out)
                          have OA : Hid (∀ o', (w9.alloc o').ownsRow w1.heap.size 72 2 (.slice a8 D.length c8) D.length (mcCells D)) := fun o' => World.ownsRow.alloc O9.out o'
                          have SA : Hid (∀ o', w1.heap.size ≤ (w9.alloc o').heap.size) := fun o' => by have := (MB.out _ B9.out).size; simp; omega
                          have LV : Hid (∀ j, (Value.slice a8 D.length c8).ownBlock = some j → w1.heap.size ≤ j) := fun j hj => (O9.out.lt j hj).1
                          have WA : Hid (∀ o', Below w1.heap.size w1 (w9.alloc o')) := fun o' => (MB.out _ B9.out).alloc (MB.out _ B9.out).size o'
                          have dl : D.length ≤ 40 := by have := PL.out; have := PN.out; omega
                          clear hb9 hl TE SE
                          go_wp2_with (at_builtin; go_must (refine wpList_append_own _ rfl (.tmp 72) (.tmp 77) 32 rfl w1.heap.size 72 i0 (.agg #[.string ByteArray.empty, .string ByteArray.empty]) 2 32 Tryz.underlying32 IH.out hz0 hz1 hz2 rfl (by decide) _ _ _ rfl (OA.out _) ⟨w9.heap.size, 0, none⟩ 1 1 [.string (bs x), .string (bs tt)] rfl rfl (two_new _ _ _ _) (by intro u hu; simp at hu; rcases hu with rfl | rfl <;> rfl) (by unfold maxLen; omega) (by omega) (SA.out _) ?_; intro v4 w4 q1 q2 q3; have O4 := Lib.hid q1; have G4 := Lib.hid q2; clear q1 q2 q3))
                          go_roundw
                          case rel =>
                            refine ⟨k + 1, p ++ [(x, y)], _, by omega, by go_num, N1.out, N2.out, N3.out, by rw [NF.out]; exact MO.snoc O4.out, (WA.out _).grown G4.out (SA.out _) LV.out, .inr ?_⟩
                            rw [List.length_append, List.length_singleton]
                            rcases Q6.out with ⟨rfl, _⟩ | h6 <;> omega
                          case measure => simp [intOf]; omega
                        · have B9 : Hid (Below W3.heap.size W3 w9) := B8.out.trans (hb9.mono B8.out.size)
                          have NF := Lib.hid (Q2.out.large ND.out I1.out TT.out RU.out hl)
                          clear hb9 hl TE
                          go_wp2
                          go_ret2
                          exact ⟨BW.out _ (MB.out _ B9.out), .inr ⟨2, .inr ⟨ZN.out, .inr ⟨F0.out, .inr ⟨RF.out, .inr ⟨OX.out, rfl, NF.out⟩⟩⟩⟩, rfl⟩⟩
                      · rw [allIn_false hr]
                        have BK : Hid (Block p (x, y)) := by
                          simp only [Classical.not_forall] at hr
                          obtain ⟨n, hn, h⟩ := hr
                          exact .inr ⟨n, by show n ∈ usesR y; rw [UE.out]; exact hn, h⟩
                        clear hr
                        go_wp2
                        go_roundw
                        case rel =>
                          refine ⟨k + 1, p, g, by omega, by go_num, Q1.out, Q2.out, Q3.out, by rw [← HDE.out]; exact MO.later Q4.out B8.out, MB.out _ B8.out, ?_⟩
                          rcases Q6.out with ⟨rfl, h6⟩ | h6
                          · refine .inl ⟨rfl, fun m hm => ?_⟩
                            rw [T1.out] at hm
                            rcases List.mem_append.1 hm with hm | hm
                            · exact h6 m hm
                            · rw [List.mem_singleton.1 hm]; exact BK.out
                          · exact .inr h6
                        case measure => simp [intOf]; omega
                · exact absurd hT GK.out
            · obtain rfl : k = z.length := by omega
              have LT : Hid (o.length < p.length) := by
                rcases Q6.out with ⟨rfl, h6⟩ | h6
                · rw [List.take_length] at h6
                  exact absurd ⟨names p, Q1.out.more hlo, fun m hm hne => (h6 m hm).resolve_left hne⟩ NSK.out
                · exact h6
              go_wp2
              go_roundw
              case rel => exact ⟨p, g, Q1.out, Q2.out, Q3.out, Q4.out, Q5.out⟩
              case measure => have := LT.out; have := PL.out; simp [lenOf]; omega
        · have DN := Lib.hid (Q1.out.done ND.out (by omega))
          have t3 : decide (o.length < z.length) = false := decide_eq_false hlo
          have FF := Lib.hid (Q2.out.fine ZN.out F0.out DN.out)
          have PN : Hid (o.length ≤ 40) := by have h1 := Q1.out.cnt; have h2 := ZN.out; show _ ≤ _; omega
          have ol : o.length ≤ 40 := PN.out
          rename World => W2
          obtain ⟨gD, rfl⟩ : ∃ gD, a5 = some ⟨gD, 0, none⟩ := by
            rcases Q4.out.2 with ⟨_, e0⟩ | ⟨g', c', cur, hv, _⟩
            · rw [OL.out] at e0; omega
            · rw [OL.out] at hv; simp at hv; exact ⟨g', hv.1⟩
          have FN : Hid (names (flatL f o) = names o) := flat_names f o
          have GX : Hid (∀ k, k < z.length → ∃ i : Nat, placeIx (names o) (p1 k) = i ∧ i < o.length ∧ ∀ W, Below W2.heap.size W2 W → W.cell? ⟨gD, i * 2, none⟩ = some (.string (bs (p1 k))) ∧ W.cell? ⟨gD, i * 2 + 1, none⟩ = some (.string (bs ((f (p1 k)).getD [])))) := fun k hk => by
            have hm : p1 k ∈ names o := List.mem_map_of_mem ((DN.out _).2 (HI.out k hk))
            obtain ⟨i, h1, h2, h3⟩ := placeIx_some hm
            have hi : i < o.length := by unfold names at h2; rw [List.length_map] at h2; exact h2
            have hi2 : i < (flatL f o).length := by rw [OL.out]; exact hi
            refine ⟨i, h1, hi, fun W hW => ?_⟩
            have hc := MO.cell Q4.out hi2
            have e1 : nm (flatL f o) i = p1 k := by rw [← nm_names hi2, FN.out]; exact h3
            have e2 : vl (flatL f o) i = (f (p1 k)).getD [] := by
              have h4 := (look_at (y := flatL f o) (by rw [FN.out]; exact Q3.out) (i := i) (n := p1 k) (by rw [FN.out]; exact h2) (by rw [FN.out]; exact h3)).2
              rw [look_flat Q2.out Q3.out hm] at h4
              rw [h4]; rfl
            rw [e1, e2] at hc
            exact ⟨cell_later hW hc.1, cell_later hW hc.2⟩
          have MD : Hid (∀ W, Below W2.heap.size W2 W → McIn W (.slice (some ⟨gD, 0, none⟩) o.length c5) (flatL f o)) := fun W hW => McIn.own (MO.later Q4.out hW) (by rw [OL.out]; omega)
          have MN : Hid (∀ W, Below W2.heap.size W2 W → Calls Tryz.prog 75 #[.slice (some ⟨gD, 0, none⟩) o.length c5] W fun e w' => ∃ v', e = .returned v' ∧ SO W.heap.size v' (names (flatL f o)) w' ∧ Below W.heap.size W w') := fun W hW => mnames_any (flatL f o) _ W (MD.out W hW) (by rw [OL.out]; omega)
          have PX : Hid (∀ W v' n, SIn W v' (names o) → Calls Tryz.prog 46 #[v', .string (bs n)] W fun e w' => e = .returned (.int .i64 (placeIx (names o) n)) ∧ w' = W) := fun W v' n hS => place_ix hS n
          have SP : Hid (∀ W B v', SO B v' (names (flatL f o)) W → SIn W v' (names o)) := fun W B v' hS => by
            rw [FN.out] at hS
            exact SIn.own hS (by unfold names; rw [List.length_map]; omega) (fun n hn => by
              obtain ⟨m, hm, rfl⟩ := List.mem_map.1 hn
              exact NG.out _ (List.mem_map_of_mem (Q1.out.sub m hm)))
          have MB : Hid (∀ W, Below W2.heap.size W2 W → Below w1.heap.size w1 W) := fun W hW => Q5.out.trans (hW.mono Q5.out.size)
          have FL : Hid ((flatL f z).length = z.length) := by show _ = _; unfold flatL; rw [List.length_map]
          clear hlo
          go_wp2_with fail
          go_loopw [15, 82] (fun u i wq => ∃ k : Nat, k ≤ z.length ∧ i = .int .i64 (k : Int) ∧ MO W2.heap.size u ((flatL f z).take k) wq ∧ Below W2.heap.size W2 wq) (fun _ i _ => z.length - (intOf i).toNat)
          case atStart => exact ⟨0, Nat.zero_le _, rfl, World.ownsRow_nil _ _ _ _, Below.refl _ _⟩
          case round =>
            obtain ⟨k, hk, rfl, q7, q8⟩ := hrel
            obtain ⟨aU, cU, rfl⟩ := q7.len
            have Q7 := Lib.hid q7; have Q8 := Lib.hid q8; clear q7 q8
            rename World => W3
            by_cases hk2 : k < z.length
            · obtain ⟨c1, c2⟩ := HC.out W3 (MB.out _ Q8.out) k hk2
              obtain ⟨i, pi, il, gx⟩ := GX.out k hk2
              have T1 := Lib.hid (FT.out f k hk2)
              have TL : Hid (((flatL f z).take k).length ≤ 40) := by show _ ≤ _; rw [List.length_take]; have := ZN.out; omega
              generalize p1 k = x at *
              generalize p2 k = y at *
              generalize (f x).getD [] = tt at *
              obtain ⟨O, hO⟩ : ∃ O, O = (flatL f z).take k := ⟨_, rfl⟩
              rw [← hO] at Q7 T1 TL ⊢
              clear hO
              have PI := Lib.hid pi
              have GXX := Lib.hid gx
              obtain ⟨e1, e2⟩ := gx W3 Q8.out
              clear pi gx
              have ST := Lib.hid (stay_new W3 (.string (bs x)) (.string (bs y)))
              obtain ⟨d1, d2⟩ := ST.out.cells
              obtain ⟨W4, hW4⟩ : ∃ W4, W4 = W3.alloc (.cells #[.string (bs x), .string (bs y)] 72) := ⟨_, rfl⟩
              have B4 : Hid (Below W2.heap.size W2 W4.drew) := by rw [hW4]; exact (Q8.out.alloc Q8.out.size _).drew
              have SL : Hid (∀ W, Below W4.drew.heap.size W4.drew W → W.cell? ⟨W3.heap.size, 0, none⟩ = some (.string (bs x))) := fun W hW => by rw [hW4] at hW; exact ((Stay.later ST.out (Below.drew (Below.refl _ _))).later hW).cells.1
              have O4 : Hid (MO W2.heap.size (.slice aU O.length cU) O W4.drew) := by rw [hW4]; exact World.ownsRow.drew (World.ownsRow.alloc Q7.out _)
              have B3 : Hid (W2.heap.size ≤ W3.heap.size) := Q8.out.size
              obtain ⟨f1, f2⟩ := GXX.out _ B4.out
              have d3 := SL.out _ (Below.refl _ _)
              have il2 : (i : Int) < (o.length : Int) := by omega
              have i0' : (0 : Int) ≤ (i : Int) := by omega
              go_wp2_with fail
              rw [← hW4]
              clear hW4 d1 d2 ST
              go_region_held3 (fun w' => w'.cell? ⟨W3.heap.size, 0, none⟩ = some (.string (bs x)) ∧ w'.cell? ⟨gD, i * 2, none⟩ = some (.string (bs x)) ∧ w'.cell? ⟨gD, i * 2 + 1, none⟩ = some (.string (bs tt))) (first | exact ⟨d3, f1, f2⟩ | exact ⟨k1, k2, k3⟩ | exact ⟨k4, k5, k6⟩ | exact ⟨k7, k8, k9⟩ | assumption | go_keep) (first
                | (go_at_call 75
                   refine (MN.out _ B4.out).mono ?_
                   rintro e w5 ⟨v5, rfl, o5, hb5⟩
                   have B5 : Hid (Below W2.heap.size W2 w5) := B4.out.trans (hb5.mono B4.out.size)
                   have I5 := Lib.hid (SP.out _ _ _ o5)
                   have k1 := SL.out _ hb5
                   obtain ⟨k2, k3⟩ := GXX.out _ B5.out
                   have O5 := Lib.hid (MO.later O4.out hb5)
                   have C5 : Hid (Below W4.drew.heap.size W4.drew w5) := hb5
                   obtain ⟨a6, c6, w6, r6, o6, g6⟩ := app_mc (MO.alloc O5.out (.cells #[.string (bs x), .string (bs tt)] 72)) (two_new w5 (.string (bs x)) (.string (bs tt)) 72) (by have := TL.out; omega) (by have := B5.out.size; simp; omega)
                   have R6 := Lib.hid r6
                   have O6 := Lib.hid o6
                   have B6 : Hid (Below W2.heap.size W2 w6) := (B5.out.alloc B5.out.size _).grown g6 (by have := B5.out.size; simp; omega) (fun j hj => (O5.out.lt j hj).1)
                   have C6 : Hid (w6.cell? ⟨W3.heap.size, 0, none⟩ = some (.string (bs x))) := g6.cell (SL.out _ (hb5.alloc hb5.size _)) (fun hh => absurd (Q7.out.lt W3.heap.size hh.symm).2 (Nat.lt_irrefl _))
                   have k4 := SL.out _ (hb5.alloc hb5.size (.cells #[.string (bs x), .string (bs tt)] 72))
                   obtain ⟨k5, k6⟩ := GXX.out _ (B5.out.alloc B5.out.size (.cells #[.string (bs x), .string (bs tt)] 72))
                   have k7 := C6.out
                   obtain ⟨k8, k9⟩ := GXX.out _ B6.out
                   clear o5 hb5 o6 g6 r6)
                | (go_at_call 46
                   refine (PX.out _ _ x I5.out).mono ?_
                   rintro e wA ⟨rfl, hA⟩
                   rw [hA, PI.out]
                   clear hA wA)
                | (refine step_append_run rfl (.tmp 86) (.tmp 95) 32 rfl (.slice aU O.length cU) (.slice (some ⟨w5.heap.size, 0, none⟩) 1 1) (by simp [Act.eval]) (by simp [Act.eval]) (.slice a6 (O.length + 1) c6) w6 R6.out ?_))
              go_wp2
              go_roundw
              case rel => exact ⟨k + 1, by omega, by go_num, by rw [T1.out]; exact O6.out, B6.out⟩
              case measure => simp [intOf]; omega
            · obtain rfl : k = z.length := by omega
              have Q9 : Hid (McIn W3 (.slice aU ((flatL f z).take z.length).length cU) (flatL f z)) := by
                have h1 := Q7.out
                have e0 : (flatL f z).take z.length = flatL f z := by rw [← FL.out, List.take_length]
                rw [e0] at h1 ⊢
                exact McIn.own h1 (by rw [FL.out]; omega)
              go_wp2
              go_ret2
              exact ⟨BW.out _ (MB.out _ Q8.out), .inl ⟨FF.out, o, f, _, DN.out, Q2.out, Q9.out, rfl⟩⟩
  · have HE := Lib.hid (ft_x hE h0)
    have B1 := Lib.hid hb1
    have t1 : (E != 0) = true := by simpa using h0
    clear hE h0 hb1
    go_wp2
    go_ret2
    exact ⟨B1.out, .inr ⟨E, HE.out, rfl⟩⟩
end Go.Proofs.YtfgcbdjkimkgpaaGreatDoor
namespace Go.Proofs.YtfgcbdjkimkgpaaGreatDoor
set_option maxRecDepth 100000
set_option linter.unusedVariables false
open Go.ChangeShapes Go.WideShapes Go.ChangeAt Go.RowKit

theorem FtRes.of {z : List Mc} {w w' : World} {e : Ending} (h : OPost z w e w') : ∃ E v, FtRes z E ∧ e = .returned (.tuple #[v, .int .i64 E]) := by
  obtain ⟨_, h⟩ := h
  rcases h with ⟨h, rfl⟩ | ⟨hn, (⟨h, rfl⟩ | ⟨h0, (⟨h, rfl⟩ | ⟨hr, (⟨h, rfl⟩ | ⟨o, v, _, h1, h2, rfl⟩)⟩)⟩)⟩
  · exact ⟨_, _, .inl ⟨h, rfl⟩, rfl⟩
  · exact ⟨_, _, .inr ⟨hn, .inl ⟨h, rfl⟩⟩, rfl⟩
  · exact ⟨_, _, .inr ⟨hn, .inr ⟨h0, .inl ⟨h, rfl⟩⟩⟩, rfl⟩
  · exact ⟨_, _, .inr ⟨hn, .inr ⟨h0, .inr ⟨hr, .inl ⟨h, rfl⟩⟩⟩⟩, rfl⟩
  · exact ⟨_, _, .inr ⟨hn, .inr ⟨h0, .inr ⟨hr, .inr ⟨⟨o, h1, h2⟩, rfl⟩⟩⟩⟩, rfl⟩
theorem XErr.one {z : List Mc} {E F : Int} (h1 : XErr z E) (h2 : XErr z F) : E = F := by
  rcases h1 with ⟨a, rfl⟩ | ⟨a, h1⟩ <;> rcases h2 with ⟨b, rfl⟩ | ⟨b, h2⟩
  · rfl
  · omega
  · omega
  · rcases h1 with ⟨c, rfl⟩ | ⟨c, h1⟩ <;> rcases h2 with ⟨d, rfl⟩ | ⟨d, h2⟩
    · rfl
    · exact absurd d c
    · exact absurd c d
    · rcases h1 with ⟨⟨m, hm, x, hx, hn⟩, rfl⟩ | ⟨e, h1⟩ <;> rcases h2 with ⟨⟨m', hm', x', hx', hn'⟩, rfl⟩ | ⟨f, h2⟩
      · rfl
      · exact absurd (f m hm x hx) hn
      · exact absurd (e m' hm' x' hx') hn'
      · rcases h1 with ⟨g, rfl⟩ | ⟨⟨o, ho, hm⟩, rfl, _⟩ <;> rcases h2 with ⟨k, rfl⟩ | ⟨⟨o', ho', hm'⟩, rfl, _⟩
        · rfl
        · exact absurd g (ord_free ho' hm')
        · exact absurd k (ord_free ho hm)
        · rfl
theorem EErr.one {z : List Mc} {s : Str} {E G : Int} (h1 : EErr z s E) (h2 : EErr z s G) : E = G := by
  rcases h1 with h1 | ⟨F, h1⟩
  · rcases h2 with h2 | ⟨F, _⟩
    · exact h1.one h2
    · exact absurd F h1.bad.1
  · rcases h2 with h2 | ⟨_, h2⟩
    · exact absurd F h2.bad.1
    · rcases h1 with ⟨a, rfl⟩ | ⟨T, a, h1⟩ <;> rcases h2 with ⟨b, rfl⟩ | ⟨U, b, h2⟩
      · rfl
      · rw [a] at b; cases b
      · rw [a] at b; cases b
      · rw [a] at b
        cases b
        rcases h1 with ⟨⟨x, hx, hxn⟩, rfl⟩ | ⟨h1, _, rfl⟩ <;> rcases h2 with ⟨⟨x', hx', hxn'⟩, rfl⟩ | ⟨h2, _, rfl⟩
        · rfl
        · exact absurd (h2 x hx) hxn
        · exact absurd (h1 x' hx') hxn'
        · rfl
theorem FE.same {z o o' : List Mc} {f f' : Str → Option Str} (h : FE z o f) (ho : ∀ m, m ∈ o ↔ m ∈ z) (h' : FE z o' f') (ho' : ∀ m, m ∈ o' ↔ m ∈ z) : flatL f z = flatL f' z := by
  unfold flatL
  refine List.map_congr_left fun m hm => ?_
  have e1 : (f m.1).isSome = true := by rw [h.mem ho, List.contains_iff_mem]; exact List.mem_map_of_mem hm
  have e2 : (f' m.1).isSome = true := by rw [h'.mem ho', List.contains_iff_mem]; exact List.mem_map_of_mem hm
  obtain ⟨t, ht⟩ := Option.isSome_iff_exists.1 e1
  obtain ⟨u, hu⟩ := Option.isSome_iff_exists.1 e2
  obtain ⟨j, hj⟩ := h.val
  obtain ⟨k, hk⟩ := h'.val
  rw [ht, hu, ev_one z (hj _ _ ht).1 (hk _ _ hu).1]
set_option maxHeartbeats 1000000 in
theorem eqs_same (z : List Str) (v u : Value) (w : World) (hv : SIn w v z) (hu : SIn w u z) :
    Calls Tryz.prog 13 #[v, u] w fun e w' => e = .returned (.bool true) ∧ Below w.heap.size w w' := by
  have hn := hv.bound
  rcases hv.open with ⟨rfl, a, cap, rfl⟩ | ⟨hp, b, off, cap, rfl, hcap, hlt, hc⟩
  · rcases hu.open with ⟨_, a2, cap2, rfl⟩ | ⟨hp, _⟩
    · clear hv hu
      go_enter Tryz.func13, Tryz.ntmps13
      go_wp2_with fail
      go_rounds 1
      go_ret
      exact ⟨rfl, Below.refl _ _⟩
    · exact absurd hp (by simp)
  · rcases hu.open with ⟨rfl, _⟩ | ⟨_, b2, off2, cap2, rfl, hcap2, hlt2, hc2⟩
    · exact absurd hp (by simp)
    · have H1 := Lib.hid hc
      have H2 := Lib.hid hc2
      have BB : Hid (∀ a : Str, ((bs a).toList == (bs a).toList) = true) := fun a => by simp
      clear hv hu hc hc2 hlt hlt2
      go_enter Tryz.func13, Tryz.ntmps13
      go_wp2_with fail
      go_loopw [13] (fun i wr => ∃ k : Nat, k ≤ z.length ∧ i = .int .i64 k ∧ ∃ m, wr = w.drewN m) (fun i _ => z.length - (intOf i).toNat)
      case atStart => exact ⟨0, Nat.zero_le _, rfl, 0, rfl⟩
      case round =>
        obtain ⟨k, hk, rfl, m, rfl⟩ := hrel
        by_cases hkl : k < z.length
        · have c1 := H1.out k hkl
          have c3 := H2.out k hkl
          have e1 := BB.out (z.getD k [])
          generalize bs (z.getD k []) = q at *
          go_wp2_with fail
          go_quiet (fail)
          go_wp2
          go_roundw
          case rel => exact ⟨k + 1, by omega, by go_num, _, rfl⟩
          case measure => simp [intOf]; omega
        · go_wp2
          go_ret
          exact ⟨rfl, below_drewN (Below.refl _ _) _⟩
end Go.Proofs.YtfgcbdjkimkgpaaGreatDoor
