/-
  Package infer: inferred and Of. Condition: the strings have at most 2^62 bytes.
-/
import Derived.Test.YtihiohohocfchaaRJr
import Derived.Test.YtihiohohocfchaaICh
import Derived.Test.YtihiohohocfchaaNStem
import Derived.Test.YtihiohohocfchaaNFind
namespace Go.Proofs.Ytihiohohocfchaa
set_option maxRecDepth 100000
set_option linter.unusedVariables false
open Go.ChangeShapes Go.WideShapes Go.ChangeAt Go.RowKit

/-! the two parts of a name -/
theorem stem_fn (s : Str) : ∃ p : Str × Str, p.1.length ≤ s.length ∧ s = p.1 ++ p.2 ∧ ∀ e, StemPost (bs s) e → e = .returned (.tuple #[.string (bs p.1), .string (bs p.2)]) := by
  rcases Classical.em (∃ i, Cut (bs s) i) with ⟨i, h⟩ | h
  · refine ⟨(s.take i, s.drop i), by simp; omega, (List.take_append_drop _ _).symm, fun e he => ?_⟩
    rcases he with ⟨j, hj, rfl⟩ | ⟨hn, _⟩
    · rw [← h.same hj, bs_take, bs_drop, bs_list]
    · exact absurd h (hn i)
  · refine ⟨(s, []), Nat.le_refl _, (List.append_nil s).symm, fun e he => ?_⟩
    rcases he with ⟨j, hj, _⟩ | ⟨_, rfl⟩
    · exact absurd ⟨j, hj⟩ h
    · rfl
noncomputable def stm (s : Str) : Str := (Classical.choose (stem_fn s)).1
noncomputable def sfx (s : Str) : Str := (Classical.choose (stem_fn s)).2
theorem stm_len (s : Str) : (stm s).length ≤ s.length := (Classical.choose_spec (stem_fn s)).1
theorem stm_app (s : Str) : s = stm s ++ sfx s := (Classical.choose_spec (stem_fn s)).2.1
theorem stm_ret (s : Str) {e : Ending} (h : StemPost (bs s) e) : e = .returned (.tuple #[.string (bs (stm s)), .string (bs (sfx s))]) := (Classical.choose_spec (stem_fn s)).2.2 e h
theorem stem_of (s : Str) (hs : s.length < 4611686018427387904) (w : World) :
    Calls Try.prog 19 #[.string (bs s)] w fun e w' => e = .returned (.tuple #[.string (bs (stm s)), .string (bs (sfx s))]) ∧ ∃ q, w' = w.drewN q :=
  (stem_any (bs s) (by rw [bs_size]; exact hs) w).mono fun e w' h => ⟨stm_ret s h.1, h.2⟩

/-- what is inferred, of the names that are known -/
def inf1 : List Mc → List Str → Str → Str → Option Str
  | [], _, _, _ => none
  | x :: r, K, st, sf => if x.2 = sf ∧ st ++ x.1 ∈ K then some (st ++ x.1) else inf1 r K st sf
theorem inf1_app : ∀ (a b : List Mc) (K : List Str) (st sf : Str), inf1 (a ++ b) K st sf = (inf1 a K st sf).or (inf1 b K st sf)
  | [], b, K, st, sf => by simp [inf1]
  | x :: a, b, K, st, sf => by
    rw [List.cons_append, inf1, inf1, inf1_app a b]
    by_cases h : x.2 = sf ∧ st ++ x.1 ∈ K
    · rw [if_pos h, if_pos h]; rfl
    · rw [if_neg h, if_neg h]
theorem inf1_congr {K L : List Str} (h : ∀ x, x ∈ K ↔ x ∈ L) : ∀ (l : List Mc) (st sf : Str), inf1 l K st sf = inf1 l L st sf
  | [], _, _ => rfl
  | x :: r, st, sf => by rw [inf1, inf1, inf1_congr h r]; simp only [h]
theorem inf_drop {z : List Mc} {k : Nat} (h : k < z.length) : z.drop k = (nm z k, vl z k) :: z.drop (k + 1) := by
  rw [List.drop_eq_getElem_cons h]
  have := at_some h
  rw [List.getElem?_eq_getElem h] at this
  rw [Option.some.inj this]
theorem inf1_hit {l : List Mc} {K : List Str} {st sf : Str} {k : Nat} (hk : k < l.length) (h0 : inf1 (l.take k) K st sf = none) (h1 : vl l k = sf) (h2 : st ++ nm l k ∈ K) : inf1 l K st sf = some (st ++ nm l k) := by
  have e := inf1_app (l.take k) (l.drop k) K st sf
  rw [List.take_append_drop, h0, inf_drop hk, inf1, if_pos ⟨h1, h2⟩] at e
  exact e
theorem inf1_miss {l : List Mc} {K : List Str} {st sf : Str} {k : Nat} (hk : k < l.length) (h0 : inf1 (l.take k) K st sf = none) (h1 : ¬ (vl l k = sf ∧ st ++ nm l k ∈ K)) : inf1 (l.take (k + 1)) K st sf = none := by
  rw [take_at hk, inf1_app, h0, inf1, if_neg h1]; rfl
/-- an answer: the text and whether -/
def ofS (o : Option Str) : Str := o.getD []
theorem bs_append (a b : Str) : bs a ++ bs b = bs (a ++ b) := by
  rw [← bs_of (bs a ++ bs b)]; simp [bs]
set_option maxHeartbeats 4000000 in
theorem inferred_any {w : World} {v u : Value} {l : List Mc} {K : List Str} (h : IIn w v l) (hk : SIn w u K) (hup : Up K) (s : Str) (hs : s.length ≤ 4294967296) (h10 : ∀ k, k < l.length → (nm l k).length ≤ 10) :
    Calls Try.prog 28 #[v, u, .string (bs s)] w fun e w' => e = .returned (.tuple #[.string (bs (ofS (inf1 l K (stm s) (sfx s)))), .bool (inf1 l K (stm s) (sfx s)).isSome]) ∧ Below w.heap.size w w' := by
  have ST := Lib.hid (stem_of s (by omega) w)
  have SL : (stm s).length ≤ 4294967296 := Nat.le_trans (stm_len s) hs
  have FD : Hid (∀ W, Below w.heap.size w W → ∀ x, Calls Try.prog 52 #[u, .string (bs x)] W fun e w' => FindPost K x e ∧ ∃ q, w' = W.drewN q) := fun W hW x => find_of (hk.later hW) hup x
  obtain ⟨ak, ck, rfl⟩ := hk.shape
  generalize K.length = n at *
  generalize stm s = st at *
  generalize sfx s = sf at *
  have IH : Hid (∀ k, k < l.length → inf1 (l.take k) K st sf = none → vl l k = sf → st ++ nm l k ∈ K → inf1 l K st sf = some (st ++ nm l k)) := fun k a b c d => inf1_hit a b c d
  have IM : Hid (∀ k, k < l.length → inf1 (l.take k) K st sf = none → ¬ (vl l k = sf ∧ st ++ nm l k ∈ K) → inf1 (l.take (k + 1)) K st sf = none) := fun k a b c => inf1_miss a b c
  have IZ : Hid (inf1 (l.take 0) K st sf = none) := rfl
  have IE : Hid (inf1 (l.take l.length) K st sf = inf1 l K st sf) := Lib.hid (by rw [List.take_length])
  have hb := show l.length ≤ 8796093022208 by obtain ⟨⟨_, _, _, _, _, h4, _⟩, _⟩ := h; exact h4
  obtain ⟨⟨a, cap, rfl, hcap, _, _, h5⟩, _⟩ := h
  have HC : Hid (∀ W, Below w.heap.size w W → ∀ k, k < l.length → ∃ b off, a = some ⟨b, off, none⟩ ∧ W.cell? ⟨b, off + k * 2, none⟩ = some (.string (bs (nm l k))) ∧ W.cell? ⟨b, off + k * 2 + 1, none⟩ = some (.string (bs (vl l k)))) := fun W hW k hk => by
    rcases h5 with rfl | ⟨b, off, ha, hlt, hc⟩
    · exact absurd hk (Nat.not_lt_zero _)
    · have := hc k _ (at_some hk)
      exact ⟨b, off, ha, cell_later hW this.1, cell_later hW this.2⟩
  have HT := Lib.hid h10
  clear h5 h10 hs hk hup
  generalize eL : l.length = L at *
  clear eL
  go_enter Try.func28, Try.ntmps28
  go_wp2_with fail
  refine ST.out.mono ?_
  rintro e w1 ⟨rfl, q, rfl⟩
  have B1 : Hid (Below w.heap.size w (w.drewN q)) := below_drewN (Below.refl _ _) q
  generalize w.drewN q = w1 at *
  go_wp2_with fail
  go_loopw [22] (fun i wr => ∃ k : Nat, k ≤ L ∧ i = .int .i64 (k : Int) ∧ inf1 (l.take k) K st sf = none ∧ Below w.heap.size w wr) (fun i _ => L - (intOf i).toNat)
  case atStart => exact ⟨0, Nat.zero_le _, rfl, IZ.out, B1.out⟩
  case round =>
    obtain ⟨k, hk, rfl, h0, qb⟩ := hrel
    have H0 := Lib.hid h0; have QB := Lib.hid qb; clear h0 qb
    by_cases hkl : k < L
    · obtain ⟨b, off, rfl, c0, c1⟩ := HC.out wr QB.out k hkl
      have I1 := Lib.hid (IH.out k hkl H0.out)
      have I2 := Lib.hid (IM.out k hkl H0.out)
      have hx := HT.out k hkl
      generalize nm l k = x at *
      generalize vl l k = y at *
      have z1 : (bs st).size ≤ 4294967296 := by rw [bs_size]; exact SL
      have z2 : (bs x).size ≤ 10 := by rw [bs_size]; exact hx
      have zz := bs_append st x
      have K0 := Lib.hid (blk_new wr #[.string (bs x), .string (bs y)] 47)
      have WA : Hid (Below w.heap.size w (wr.alloc (.cells #[.string (bs x), .string (bs y)] 47))) := QB.out.alloc QB.out.size _
      by_cases hy : y = sf
      · have e1 : ((bs y).toList == (bs sf).toList) = true := by rw [bs_toList, bs_toList, beq_dec, decide_eq_true hy]
        have HY := Lib.hid hy; clear hy
        go_wp2_with fail
        refine (FD.out _ WA.out (st ++ x)).mono ?_
        rintro e w2 ⟨⟨i, hi, hg, rfl⟩ | ⟨hno, rfl⟩, q2, rfl⟩
        · have E := Lib.hid (I1.out HY.out (hg ▸ getD_mem hi))
          clear hg hi
          go_wp2
          go_ret2
          exact ⟨by rw [E.out]; rfl, below_drewN WA.out _⟩
        · have N1 := Lib.hid (I2.out (fun h => hno h.2))
          clear hno
          go_wp2
          go_roundw
          case rel => exact ⟨k + 1, by omega, by go_num, N1.out, below_drewN WA.out _⟩
          case measure => simp [intOf]; omega
      · have e1 : ((bs y).toList == (bs sf).toList) = false := by rw [bs_toList, bs_toList, beq_dec, decide_eq_false hy]
        have N1 := Lib.hid (I2.out (fun h => hy h.1))
        clear hy
        go_wp2
        go_roundw
        case rel => exact ⟨k + 1, by omega, by go_num, N1.out, WA.out⟩
        case measure => simp [intOf]; omega
    · obtain rfl : k = L := by omega
      have E : Hid (inf1 l K st sf = none) := Lib.hid (by rw [← IE.out]; exact H0.out)
      go_wp2
      go_ret2
      exact ⟨by rw [E.out]; rfl, QB.out⟩

/-- what Of answers -/
noncomputable def ofR (l : List Mc) (T : List Str) (s : Str) : Option Str × Int :=
  if infE l ≠ 0 then (none, infE l) else if T.all good = false then (none, 3) else if good s = false then (none, 3) else (inf1 l T (stm s) (sfx s), 0)
theorem ofR_fault {l : List Mc} {T : List Str} {s : Str} (h : infE l ≠ 0) : ofR l T s = (none, infE l) := by unfold ofR; rw [if_pos h]
theorem ofR_names {l : List Mc} {T : List Str} {s : Str} (h : infE l = 0) (h2 : T.all good = false) : ofR l T s = (none, 3) := by unfold ofR; rw [if_neg (by simp [h]), if_pos h2]
theorem ofR_name {l : List Mc} {T : List Str} {s : Str} (h : infE l = 0) (h2 : T.all good = true) (h3 : good s = false) : ofR l T s = (none, 3) := by unfold ofR; rw [if_neg (by simp [h]), if_neg (by simp [h2]), if_pos h3]
theorem ofR_ok {l : List Mc} {T : List Str} {s : Str} (h : infE l = 0) (h2 : T.all good = true) (h3 : good s = true) : ofR l T s = (inf1 l T (stm s) (sfx s), 0) := by unfold ofR; rw [if_neg (by simp [h]), if_neg (by simp [h2]), if_neg (by simp [h3])]
def OfPost (o : Option Str × Int) (w : World) (e : Ending) (w' : World) : Prop :=
  e = .returned (.tuple #[.string (bs (ofS o.1)), .bool o.1.isSome, .int .i64 o.2]) ∧ Below w.heap.size w w'
set_option maxHeartbeats 4000000 in
theorem of_any {w : World} {v u : Value} {l : List Mc} {T : List Str} (h : IIn w v l) (hk : SIn w u T) (s : Str) (hs : s.length ≤ 9223372036854775807) :
    Calls Try.prog 6 #[v, u, .string (bs s)] w (OfPost (ofR l T s) w) := by
  have CK := Lib.hid (icheck_any h)
  have HL := Lib.hid h
  have HK := Lib.hid hk
  obtain ⟨⟨a, cap, rfl, _⟩, _⟩ := h
  obtain ⟨au, cu, rfl⟩ := hk.shape
  have CN := Lib.hid (fun W => check_any (bs s) W (by rw [bs_size]; exact hs))
  rw [bs_list] at CN
  clear hs hk
  generalize l.length = L at *
  generalize T.length = n at *
  by_cases h0 : infE l = 0
  · have H0 := Lib.hid h0
    rw [h0] at CK
    have H10 : Hid (∀ k, k < l.length → (nm l k).length ≤ 10) := fun k hk => sufB_len (infE_sufs h0 k hk).1
    clear h0
    go_enter Try.func6, Try.ntmps6
    go_wp2_with fail
    refine CK.out.mono ?_
    rintro e w1 ⟨rfl, b1⟩
    have B1 := Lib.hid b1; clear b1
    go_wp2_with fail
    refine (sort_any (HK.out.later B1.out)).mono ?_
    rintro e w2 (⟨hg, v2, rfl, hown, hb⟩ | ⟨hg, rfl, rfl⟩)
    · have HG := Lib.hid hg
      have B2 := Lib.hid (B1.out.trans (hb.mono B1.out.size))
      have UL : (uniq T).length ≤ 17592186044416 := Nat.le_trans (uniq_le _) HK.out.bound
      have I2 := Lib.hid (SIn.own hown UL (small_all (good_uniq hg)))
      clear hg hown hb UL
      obtain ⟨a2, c2, rfl⟩ := I2.out.shape
      cases hs : good s
      · have R := Lib.hid (ofR_name H0.out HG.out hs)
        rw [hs] at CN
        generalize (uniq T).length = m at *
        clear hs
        go_wp2_with fail
        refine (CN.out _).mono ?_
        rintro e w3 ⟨rfl, rfl⟩
        have e3 : errOf false = 3 := rfl
        rw [e3]
        go_wp2
        go_ret3
        exact ⟨by rw [R.out]; rfl, B2.out⟩
      · have R := Lib.hid (ofR_ok H0.out HG.out hs)
        have S40 := (good_len hs).2
        rw [hs] at CN
        have IC := Lib.hid (inf1_congr (K := uniq T) (L := T) (fun x => uniq_mem) l (stm s) (sfx s))
        have IF := Lib.hid (inferred_any (HL.out.later B2.out) I2.out (uniq_up T) s (by omega) H10.out)
        rw [IC.out] at IF
        generalize (uniq T).length = m at *
        clear hs
        go_wp2_with fail
        refine (CN.out _).mono ?_
        rintro e w3 ⟨rfl, rfl⟩
        have e3 : errOf true = 0 := rfl
        rw [e3]
        go_wp2_with fail
        refine IF.out.mono ?_
        rintro e w4 ⟨rfl, b4⟩
        have B4 := Lib.hid (B2.out.trans (b4.mono B2.out.size))
        clear b4
        go_wp2
        go_ret3
        exact ⟨by rw [R.out]; rfl, B4.out⟩
    · have R := Lib.hid (ofR_names (s := s) H0.out hg)
      clear hg
      go_wp2
      go_ret3
      exact ⟨by rw [R.out]; rfl, B1.out⟩
  · have R := Lib.hid (ofR_fault (T := T) (s := s) h0)
    have hne : (infE l != 0) = true := by rw [bne_iff_ne]; exact h0
    generalize infE l = E at *
    clear h0
    go_enter Try.func6, Try.ntmps6
    go_wp2_with fail
    refine CK.out.mono ?_
    rintro e w1 ⟨rfl, b1⟩
    have B1 := Lib.hid b1; clear b1
    go_wp2
    go_ret3
    exact ⟨by rw [R.out]; rfl, B1.out⟩

/-! the laws' own look -/
theorem stm_ao : stm [97, 46, 111] = [97] ∧ sfx [97, 46, 111] = [46, 111] := by
  have h : StemPost (bs [97, 46, 111]) (.returned (.tuple #[.string ((bs [97, 46, 111]).extract 0 1), .string ((bs [97, 46, 111]).extract 1 (bs [97, 46, 111]).size)])) := by
    refine .inl ⟨1, ⟨by decide, by decide, by decide, by decide, fun j h1 h2 => ?_⟩, rfl⟩
    have h3 : j < 3 := h2
    obtain rfl : j = 2 := by omega
    decide
  have e := stm_ret _ h
  rw [bs_take, bs_drop, bs_list] at e
  have e1 := e
  simp only [Ending.returned.injEq, Value.tuple.injEq] at e1
  simp [bs] at e1
  exact ⟨e1.1.symm, e1.2.symm⟩
theorem in_ao (w : World) : IIn (w.alloc (.cells #[.string (bs [46, 99]), .string (bs [46, 111])] 47)) (.slice (some ⟨w.heap.size, 0, none⟩) 1 1) [([46, 99], [46, 111])] := by
  refine ⟨⟨some ⟨w.heap.size, 0, none⟩, 1, rfl, Nat.le_refl _, by decide, by decide, .inr ⟨w.heap.size, 0, rfl, by simp, fun k x hk => ?_⟩⟩, fun k hk => ?_⟩
  · have hs := blk_new w #[.string (bs [46, 99]), .string (bs [46, 111])] 47
    match k, hk with
    | 0, hk =>
      simp at hk
      subst hk
      exact ⟨hs.cell (i := 0) rfl, hs.cell (i := 1) rfl⟩
  · obtain rfl : k = 0 := by simp at hk; exact hk
    decide
end Go.Proofs.Ytihiohohocfchaa
