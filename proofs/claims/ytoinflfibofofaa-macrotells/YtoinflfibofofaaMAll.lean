/-
  Package macro's expandAll and Expand. Condition: the strings have at most 2^32 bytes.
-/
import Derived.Test.YtoinflfibofofaaMRep
import Derived.Test.YtoinflfibofofaaMSem
namespace Go.Proofs.Ytoinflfibofofaa
set_option linter.unusedVariables false
open Go.ChangeShapes Go.WideShapes Go.ChangeAt Go.RowKit

theorem fT_upd (f : Str → Option Str) (x t s : Str) : upd (fT f) x (.string (bs t)) s = fT (updS f x t) s := by
  unfold upd fT updS
  by_cases h : s = x
  · simp [h]
  · simp [h]
/-- what expandAll hands back -/
def XPost (z : List Mc) (w : World) (e : Ending) (w' : World) : Prop :=
  Below w.heap.size w w' ∧ ((Fine z ∧ ∃ o f mb n, (∀ m, m ∈ o ↔ m ∈ z) ∧ FE z o f ∧ MI mb n (fT f) w' ∧ w.heap.size ≤ mb ∧ e = .returned (.tuple #[.map (some mb), .int .i64 0])) ∨ ∃ E, XErr z E ∧ e = .returned (.tuple #[.map none, .int .i64 E]))
theorem xp_err {z : List Mc} {w w' : World} {e : Ending} (h : OPost z w e w') : (∃ E, XErr z E ∧ e = .returned (.tuple #[.slice none 0 0, .int .i64 E])) ∨
    (z.length ≤ 40 ∧ formR [] z = 0 ∧ Refs z ∧ ∃ o v, McIn w' v o ∧ Ord o ∧ (∀ m, m ∈ o ↔ m ∈ z) ∧ e = .returned (.tuple #[v, .int .i64 0])) := by
  obtain ⟨_, h⟩ := h
  rcases h with ⟨h, rfl⟩ | ⟨hn, (⟨h, rfl⟩ | ⟨h0, (⟨h, rfl⟩ | ⟨hr, (⟨h, rfl⟩ | h)⟩)⟩)⟩
  · exact .inl ⟨_, .inl ⟨h, rfl⟩, rfl⟩
  · exact .inl ⟨_, .inr ⟨hn, .inl ⟨h, rfl⟩⟩, rfl⟩
  · exact .inl ⟨_, .inr ⟨hn, .inr ⟨h0, .inl ⟨h, rfl⟩⟩⟩, rfl⟩
  · exact .inl ⟨_, .inr ⟨hn, .inr ⟨h0, .inr ⟨hr, .inl ⟨h, rfl⟩⟩⟩⟩, rfl⟩
  · exact .inr ⟨hn, h0, hr, h⟩
set_option maxHeartbeats 4000000 in
set_option maxRecDepth 100000 in
theorem all_any (z : List Mc) (v : Value) (w : World) (h : McIn w v z) (hx : ∀ m ∈ z, m.1.length ≤ maxLen ∧ m.2.length ≤ 4294967296) :
    Calls Try.prog 25 #[v] w (XPost z w) := by
  have hmm := @run_makeMap Try.prog
  have FA := Lib.hid (first_any z v w h hx)
  have HX := Lib.hid hx
  clear h hx
  go_enter Try.func25, Try.ntmps25
  go_wp2_with fail
  refine FA.out.mono ?_
  intro e w1 hp
  have B1 := Lib.hid hp.1
  rcases xp_err hp with ⟨E, hE, rfl⟩ | ⟨hn, h0, hr, o, v', ho, hord, hiff, rfl⟩
  · have t1 : (E != 0) = true := by simpa using hE.bad.2
    have HE := Lib.hid hE
    clear hE hp FA
    go_wp2
    go_ret2
    exact ⟨B1.out, .inr ⟨E, HE.out, rfl⟩⟩
  · have HN := Lib.hid hn; have H0 := Lib.hid h0; have HR := Lib.hid hr; have HO := Lib.hid hord; have HI := Lib.hid hiff
    have GN : Hid (∀ m ∈ o, m ∈ z ∧ m.1.length ≤ maxLen ∧ m.2.length ≤ 4294967296 ∧ tk none m.2 ≠ none) := fun m hm => ⟨(hiff m).1 hm, (HX.out m ((hiff m).1 hm)).1, (HX.out m ((hiff m).1 hm)).2, ((formR_zero z [] h0).2.1 m ((hiff m).1 hm)).2⟩
    have ND := Lib.hid (formR_zero z [] h0).1
    have OL : Hid (o.length ≤ 8796093022208) := by obtain ⟨_, _, _, _, _, h4, _⟩ := ho; exact h4
    have M0 := Lib.hid (MI.made w1)
    have BA : Hid (∀ q, Below w1.heap.size w1 (w1.alloc q)) := fun q => (Below.refl _ _).alloc (Nat.le_refl _) q
    have BW : Hid (∀ W, Below w1.heap.size w1 W → Below w.heap.size w W) := fun W hW => B1.out.trans (hW.mono B1.out.size)
    clear hn h0 hr hord hiff hp FA
    rcases ho.open with ⟨rfl, a, cap, rfl⟩ | ⟨hpos, b, off, cap, rfl, hcap, hlt, hc⟩
    · clear ho
      go_wp2_with fail
      go_rounds 1
      go_ret2
      exact ⟨BW.out _ (BA.out _), .inl ⟨(FE.start z).fine HN.out H0.out HI.out, [], _, _, _, HI.out, FE.start z, M0.out.congr (fun _ => rfl), B1.out.size, rfl⟩⟩
    · have HC : Hid (∀ W, Below w1.heap.size w1 W → ∀ k, k < o.length → W.cell? ⟨b, off + k * 2, none⟩ = some (.string (bs (nm o k))) ∧ W.cell? ⟨b, off + k * 2 + 1, none⟩ = some (.string (bs (vl o k)))) := fun W hW k hk => ⟨cell_later hW (hc k _ (at_some hk)).1, cell_later hW (hc k _ (at_some hk)).2⟩
      have HT : Hid (∀ k, k < o.length → o.take (k + 1) = o.take k ++ [(nm o k, vl o k)]) := fun k hk => take_at hk
      have GM : Hid (∀ k, k < o.length → (nm o k, vl o k) ∈ z ∧ (nm o k).length ≤ maxLen ∧ (vl o k).length ≤ 4294967296 ∧ tk none (vl o k) ≠ none) := fun k hk => GN.out _ (mem_at hk)
      have HU : Hid (∀ k, k < o.length → ∀ n ∈ usesR (vl o k), n ∈ names (o.take k)) := fun k hk => HO.out k _ (at_some hk)
      clear ho hc hlt
      generalize nm o = f at *
      generalize vl o = g at *
      go_wp2_with fail
      go_loopw [22] (fun i wr => ∃ (k : Nat) (F : Str → Option Str), k ≤ o.length ∧ i = .int .i64 (k : Int) ∧ FE z (o.take k) F ∧ MI w1.heap.size k (fT F) wr ∧ Below w1.heap.size w1 wr) (fun i _ => o.length - (intOf i).toNat)
      case atStart => exact ⟨0, _, Nat.zero_le _, rfl, FE.start z, M0.out.congr (fun _ => rfl), BA.out _⟩
      case round =>
        obtain ⟨k, F, hk, rfl, q1, q2, q3⟩ := hrel
        have Q1 := Lib.hid q1; have Q2 := Lib.hid q2; have Q3 := Lib.hid q3; clear q1 q2 q3
        by_cases hk2 : k < o.length
        · obtain ⟨c1, c2⟩ := HC.out wr Q3.out k hk2
          have T1 := Lib.hid (HT.out k hk2)
          obtain ⟨g1, g2, g3, g4⟩ := GM.out k hk2
          have U1 := Lib.hid (HU.out k hk2)
          generalize f k = x at *
          generalize g k = y at *
          have G1 := Lib.hid g1; have G2 := Lib.hid g2; have G4 := Lib.hid g4
          have ST := Lib.hid (stay_new wr (.string (bs x)) (.string (bs y)))
          have BR : Hid (Below w1.heap.size w1 (wr.alloc (.cells #[.string (bs x), .string (bs y)] 25))) := Q3.out.alloc Q3.out.size _
          have MR : Hid (MI w1.heap.size k (fT F) (wr.alloc (.cells #[.string (bs x), .string (bs y)] 25))) := Q2.out.alloc _
          have RE := Lib.hid (rep_any y w1.heap.size k F _ g3 MR.out (fun s t e => by obtain ⟨j, hj⟩ := Q1.out.val; have := (hj s t e).2; omega))
          clear g1 g2 g3 g4
          go_wp2_with fail
          refine RE.out.mono ?_
          rintro e w3 ⟨hb, (⟨h1, rfl⟩ | ⟨T, hT, (⟨hl, rfl⟩ | ⟨hl, rfl⟩)⟩)⟩
          · exact absurd h1 G4.out
          · have B3 : Hid (Below w1.heap.size w1 w3) := BR.out.trans (hb.mono BR.out.size)
            have NF := Lib.hid (Q1.out.large ND.out G1.out hT U1.out hl)
            clear hb hT hl
            go_wp2
            go_ret2
            exact ⟨BW.out _ B3.out, .inr ⟨2, .inr ⟨HN.out, .inr ⟨H0.out, .inr ⟨HR.out, .inr ⟨⟨o, HO.out, HI.out⟩, rfl, NF.out⟩⟩⟩⟩, rfl⟩⟩
          · have B3 : Hid (Below w1.heap.size w1 w3) := BR.out.trans (hb.mono BR.out.size)
            have S3 := Lib.hid (ST.out.later hb)
            have M3 := Lib.hid (MR.out.later hb)
            have F3 := Lib.hid (Q1.out.step ND.out G1.out hT U1.out hl)
            obtain ⟨d1, d2⟩ := S3.out.cells
            generalize subD F T = t at *
            obtain ⟨w4, r4, n4, g4, z4⟩ := M3.out.store (t := 50) (e := 9) (x := x) Try.underlying50 (by have := OL.out; unfold maxLen; omega) G2.out (.string (bs t))
            have N4 := Lib.hid n4
            have B4 : Hid (Below w1.heap.size w1 w4) := B3.out.grown g4 B3.out.size (fun j hj => by injection hj with hj; omega)
            clear hb hT hl n4 g4 z4
            have ol := OL.out
            go_wp2
            go_roundw
            case rel => exact ⟨k + 1, updS F x t, by omega, by go_num, by rw [T1.out]; exact F3.out, N4.out.congr (fT_upd F x t), B4.out⟩
            case measure => simp [intOf]; omega
        · obtain rfl : k = o.length := by omega
          have FO : Hid (FE z o F) := by have := Q1.out; rw [List.take_length] at this; exact this
          go_wp2
          go_ret2
          exact ⟨BW.out _ Q3.out, .inl ⟨FO.out.fine HN.out H0.out HI.out, o, F, _, _, HI.out, FO.out, Q2.out, B1.out.size, rfl⟩⟩
/-- what Expand hands back -/
def EPost (z : List Mc) (s : Str) (w : World) (e : Ending) (w' : World) : Prop :=
  Below w.heap.size w w' ∧ ((∃ t, Exp z s t ∧ e = .returned (.tuple #[.string (bs t), .int .i64 0])) ∨ ∃ E, EErr z s E ∧ e = .returned (.tuple #[.string (bs []), .int .i64 E]))
theorem isNone_T (f : Str → Option Str) (x : Str) : (fT f x).isSome = (f x).isSome := by unfold fT; cases f x <;> rfl
set_option maxHeartbeats 4000000 in
set_option maxRecDepth 100000 in
theorem exp_any (z : List Mc) (s : Str) (v : Value) (w : World) (h : McIn w v z) (hx : ∀ m ∈ z, m.1.length ≤ maxLen ∧ m.2.length ≤ 4294967296) (hs : s.length ≤ 4294967296) :
    Calls Try.prog 10 #[v, .string (bs s)] w (EPost z s w) := by
  have AL := Lib.hid (all_any z v w h hx)
  have HS := Lib.hid hs
  clear h hx hs
  go_enter Try.func10, Try.ntmps10
  go_wp2_with fail
  refine AL.out.mono ?_
  rintro e w1 ⟨hb, (⟨hF, o, f, mb, n, ho, hE, hM, hmb, rfl⟩ | ⟨E, hE, rfl⟩)⟩
  · have B1 := Lib.hid hb; have FF := Lib.hid hF; have HO := Lib.hid ho; have HE := Lib.hid hE; have HM := Lib.hid hM
    clear hb hF ho hE hM AL hmb
    go_wp2_with fail
    refine (uses_any s _ HS.out).mono ?_
    rintro e w2 ⟨hb, (⟨T, u, hT, rfl, hin, hg⟩ | ⟨hT, rfl⟩)⟩
    · have B2 : Hid (Below w.heap.size w w2) := B1.out.trans (hb.mono B1.out.size)
      have M2 := Lib.hid (HM.out.later hb)
      have HA := Lib.hid (has_s (dd T) u mb n (fT f) w2 M2.out hin (fun x hx => by have := (good_len (hg x hx)).2; unfold maxLen; omega))
      have TT := Lib.hid hT
      clear hb hT hin hg
      go_wp2_with fail
      refine HA.out.mono ?_
      rintro e w3 ⟨rfl, hb⟩
      have B3 : Hid (Below w.heap.size w w3) := B2.out.trans (hb.mono B2.out.size)
      have M3 := Lib.hid (M2.out.later hb)
      clear hb HA
      cases ha : (dd T).all fun x => (fT f x).isSome
      · have NO : Hid (∃ x ∈ dd T, x ∉ names z) := by
          have : ¬ ((dd T).all fun x => (fT f x).isSome) = true := by rw [ha]; decide
          rw [List.all_eq_true] at this
          simp only [Classical.not_forall] at this
          obtain ⟨x, hx, h2⟩ := this
          rw [isNone_T, HE.out.mem HO.out] at h2
          exact ⟨x, hx, by simpa using h2⟩
        clear ha
        go_wp2
        go_ret2
        exact ⟨B3.out, .inr ⟨5, .inr ⟨FF.out, .inr ⟨T, TT.out, .inl ⟨NO.out, rfl⟩⟩⟩, rfl⟩⟩
      · have YES : Hid (∀ x ∈ dd T, x ∈ names z) := by
          intro x hx
          have := List.all_eq_true.1 ha x hx
          rw [isNone_T, HE.out.mem HO.out] at this
          simpa using this
        clear ha
        go_wp2_with fail
        refine (rep_any s mb n f _ HS.out M3.out (fun s t e => by obtain ⟨j, hj⟩ := HE.out.val; have := (hj s t e).2; omega)).mono ?_
        rintro e w4 ⟨hb, (⟨h1, rfl⟩ | ⟨T', hT', (⟨hl, rfl⟩ | ⟨hl, rfl⟩)⟩)⟩
        · rw [TT.out] at h1; cases h1
        · rw [TT.out] at hT'; cases hT'
          have B4 : Hid (Below w.heap.size w w4) := B3.out.trans (hb.mono B3.out.size)
          have NE := Lib.hid (HE.out.noexp HO.out TT.out YES.out hl)
          clear hb hl
          go_wp2
          go_ret2
          exact ⟨B4.out, .inr ⟨2, .inr ⟨FF.out, .inr ⟨T, TT.out, .inr ⟨YES.out, NE.out, rfl⟩⟩⟩, rfl⟩⟩
        · rw [TT.out] at hT'; cases hT'
          have B4 : Hid (Below w.heap.size w w4) := B3.out.trans (hb.mono B3.out.size)
          have EX := Lib.hid (HE.out.exp FF.out HO.out TT.out YES.out hl)
          clear hb hl
          go_wp2
          go_ret2
          exact ⟨B4.out, .inl ⟨_, EX.out, rfl⟩⟩
    · have B2 : Hid (Below w.heap.size w w2) := B1.out.trans (hb.mono B1.out.size)
      have TT := Lib.hid hT
      clear hb hT
      go_wp2
      go_ret2
      exact ⟨B2.out, .inr ⟨3, .inr ⟨FF.out, .inl ⟨TT.out, rfl⟩⟩, rfl⟩⟩
  · have B1 := Lib.hid hb; have HE := Lib.hid hE
    have t1 : (E != 0) = true := by simpa using hE.bad.2
    clear hb hE AL
    go_wp2
    go_ret2
    exact ⟨B1.out, .inr ⟨E, .inl HE.out, rfl⟩⟩
end Go.Proofs.Ytoinflfibofofaa
