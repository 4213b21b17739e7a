/-
  Slices of strings: what they hold; what package name's Sort answers: the names sorted, each once. Condition: a slice takes at most 2^47 bytes (the form says so).
-/
import Derived.Test.YtpfpcjgbjfpbbaaNm
import Derived.Test.YtpfpcjgbjfpbbaaLs
import Derived.Test.YtpfpcjgbjfpbbaaLaysN
import Derived.SizedLaws
import Derived.SliceStrings
import Derived.Deep.Slices
import Derived.OwnWalk
import Derived.Deep.AppendLies
import Derived.Laws.OwnMore
import Derived.Shelf.Abstract
import Derived.WalkSpells
import Derived.Lib.OwnBridge
import Derived.Lib.AppendIntMem
import Derived.Sort.Walk0
namespace Go.Proofs.Ytpfpcjgbjfpbbaa
open Go.ChangeShapes Go.WideShapes Go.ChangeAt Go.RowKit

/-- a string as the model lays it -/
def bs (x : Str) : ByteArray := ⟨x.toArray⟩
theorem bs_list (x : Str) : (bs x).data.toList = x := rfl
theorem bs_toList (x : Str) : (bs x).toList = x := by rw [Lib.toList_data]; rfl
theorem bs_of (s : ByteArray) : bs s.data.toList = s := by unfold bs; simp
theorem bs_size (x : Str) : (bs x).size = x.length := by rw [← size_list]; rfl
theorem encStr_bs (x : Str) : encStr x = .string (bs x) := rfl

/-- a slice that holds the strings z -/
def SIn (w : World) (v : Value) (z : List Str) : Prop :=
  ∃ a cap, v = .slice a z.length cap ∧ z.length ≤ cap ∧ z.length ≤ 8796093022208 ∧ (∀ x ∈ z, x.length ≤ 9223372036854775807) ∧
    (z = [] ∨ ∃ b off, a = some ⟨b, off, none⟩ ∧ b < w.heap.size ∧ ∀ k, k < z.length → w.cell? ⟨b, off + k, none⟩ = some (.string (bs (z.getD k []))))

theorem SIn.later {w w' : World} {v : Value} {z : List Str} (h : SIn w v z) (hb : Below w.heap.size w w') : SIn w' v z := by
  obtain ⟨a, cap, h1, h2, h3, h4, h5⟩ := h
  refine ⟨a, cap, h1, h2, h3, h4, ?_⟩
  rcases h5 with h5 | ⟨b, off, h5, h6, h7⟩
  · exact .inl h5
  · exact .inr ⟨b, off, h5, Nat.lt_of_lt_of_le h6 hb.size, fun k hk => cell_later hb (h7 k hk)⟩
theorem SIn.own {w : World} {base : Nat} {v : Value} {z : List Str} (h : w.ownsRow base 9 1 v z.length (z.map encStr)) (hn : z.length ≤ 8796093022208) (hx : ∀ x ∈ z, x.length ≤ 9223372036854775807) : SIn w v z := by
  by_cases h0 : z = []
  · subst h0
    rcases h.2 with ⟨hv, _⟩ | ⟨g, cap, _, hv, _⟩
    · exact ⟨none, 0, hv, Nat.le_refl _, by simp, hx, .inl rfl⟩
    · exact ⟨_, cap, hv, Nat.zero_le _, by simp, hx, .inl rfl⟩
  · have hl : z.length ≠ 0 := fun e => h0 (List.length_eq_zero_iff.1 e)
    have hv : v ≠ .slice none 0 0 := by
      rintro rfl
      rcases h.2 with ⟨_, k⟩ | ⟨g, cap, _, k, _⟩
      · exact hl k
      · cases k
    obtain ⟨g, cap, rfl, hb, hlt, hc, _, _, hH⟩ := Lib.holds_of_ownsRow h hv
    refine ⟨_, cap, rfl, hc, hn, hx, .inr ⟨g, 0, rfl, hlt, fun k hk => ?_⟩⟩
    have := (hH k (by simpa using hk)).1
    rw [this, getElem!_pos _ k (by simpa using hk)]
    simp [encStr_bs, List.getD, List.getElem?_eq_getElem hk]
theorem SIn.bound {w : World} {v : Value} {z : List Str} (h : SIn w v z) : z.length ≤ 8796093022208 := by obtain ⟨_, _, _, _, h3, _⟩ := h; exact h3
theorem SIn.small {w : World} {v : Value} {z : List Str} (h : SIn w v z) : ∀ x ∈ z, x.length ≤ 9223372036854775807 := by obtain ⟨_, _, _, _, _, h4, _⟩ := h; exact h4
/-- opened: no element, or a row -/
theorem SIn.open {w : World} {v : Value} {z : List Str} (h : SIn w v z) : (z = [] ∧ ∃ a cap, v = .slice a 0 cap) ∨
    (0 < z.length ∧ ∃ b off cap, v = .slice (some ⟨b, off, none⟩) z.length cap ∧ z.length ≤ cap ∧ b < w.heap.size ∧ ∀ k, k < z.length → w.cell? ⟨b, off + k, none⟩ = some (.string (bs (z.getD k [])))) := by
  obtain ⟨a, cap, rfl, h2, _, _, h5⟩ := h
  by_cases h0 : z = []
  · subst h0; exact .inl ⟨rfl, a, cap, rfl⟩
  · rcases h5 with h5 | ⟨b, off, rfl, h6, h7⟩
    · exact absurd h5 h0
    · exact .inr ⟨List.length_pos_iff.2 h0, b, off, cap, rfl, h2, h6, h7⟩

theorem open_strs {H : Type} {enc : TypeId × Value → H} {P : Program} {W : World} {t e : TypeId} {v : Value} {d : DataW H} {ps : List MemPlace} {base : Nat} {ts : List TypeId} {ds : List (DataW H)} {j : Nat}
    (ht : P.underlying t = some (.slice e)) (he : P.underlying e = some .string) (hc : P.cellsOf e = 1) (hb : P.bytesOf e = 16)
    (hsz : (DataW.weightsEach P ts ds).all (· ≤ reachBytes) = true) (htj : ts[j]? = some t) (hdj : ds[j]? = some d)
    (hval : Value.okWide P W .any base t v) (h : DataW.Trod enc P W 0 (fun _ => true) true t v d ps) :
    ∃ z, SIn W v z := by
  obtain ⟨a0, len0, cap0, rfl⟩ := okWide_slice ht hval
  obtain ⟨fuel, hf⟩ := h
  rcases open_strings ht he hc hf with ⟨hcs, _⟩ | ⟨a, len, cap, ss, hcs, _, hl, hm, hss, hx, hcell, hmax⟩
  · simp [Value.cells] at hcs
    obtain ⟨rfl, rfl, rfl⟩ := hcs
    exact ⟨[], none, 0, rfl, Nat.le_refl _, by simp, fun x hx => absurd hx List.not_mem_nil, .inl rfl⟩
  · simp [Value.cells] at hcs
    obtain ⟨rfl, rfl, rfl⟩ := hcs
    simp only [if_true] at hss
    simp only [Prod.mk.injEq] at hx
    have hs := sized_slice hsz htj (hx.1 ▸ hdj) ht
    rw [hb] at hs
    simp only [strs, List.length_map, List.length_take, List.length_drop, reachBytes] at hs
    have hlen : ((ss.take len0).map fun s => s.data.toList).length = len0 := by rw [List.length_map, List.length_take]; omega
    refine ⟨(ss.take len0).map fun s => s.data.toList, some a, cap0, by rw [hlen], by omega, by omega, ?_, ?_⟩
    · intro x hx'
      obtain ⟨s, hs', rfl⟩ := List.mem_map.1 hx'
      rw [size_list]
      exact hmax s (List.mem_of_mem_take hs')
    · by_cases h0 : len0 = 0
      · left; subst h0; simp
      · right
        obtain ⟨b, off, spot⟩ := a
        have hspot : spot = none := by simpa [Addr.add] using World.cell?_spot (hcell 0 (by omega))
        subst hspot
        have hc' : ∀ k, k < len0 → W.cell? ⟨b, off + k, none⟩ = some (.string (ss.getD k ByteArray.empty)) := fun k hk => by
          rw [← hcell k (by omega)]
          congr 1
          unfold Addr.add
          by_cases e : k = 0 <;> simp [e]
        refine ⟨b, off, rfl, World.block_lt_of_cell? _ _ (hc' 0 (by omega)), fun k hk => ?_⟩
        rw [hlen] at hk
        rw [hc' k hk]
        have e1 : k < (ss.take len0).length := by rw [List.length_take]; omega
        have e2 : k < ss.length := by omega
        rw [List.getD, List.getD, List.getElem?_map, List.getElem?_eq_getElem e1, List.getElem?_eq_getElem e2]
        simp [bs_of]

/-! slices.Clone -/
theorem infoStr : (Try.prog.info? 9).map (fun i => (i.zero, i.size, i.bytes)) = some (some (.string ByteArray.empty), 1, 16) := by kernel_rfl

set_option maxHeartbeats 1000000 in
theorem clone_some (x : Addr) (n c : Nat) (z : List Str) (w : World) (hz : z.length = n) (hn : n ≤ 8796093022208) (hc : ∀ k, k < n → w.cell? (x.add k) = some (.string (bs (z.getD k [])))) :
    Calls Try.prog 19 #[.slice (some x) n c] w fun e w' => ∃ v, e = .returned v ∧ w'.ownsRow w.heap.size 9 1 v n (z.map encStr) ∧ Below w.heap.size w w' := by
  have HC := Lib.hid hc; clear hc
  have HZ := Lib.hid hz; clear hz
  obtain ⟨i0, hi, hz0, hz1, hz2⟩ := info_parts infoStr
  have HI := Lib.hid hi; clear hi
  have HZ0 := Lib.hid hz0; clear hz0
  have HZ1 := Lib.hid hz1; clear hz1
  have HZ2 := Lib.hid hz2; clear hz2
  have q := fun (w : World) (a : Option Addr) (n c n' c' : Nat) => Lib.run_eql_slice_nil (P := Try.prog) w 22 9 a n c n' c' Try.underlying22
  go_enter Try.func19, Try.ntmps19
  go_wp2_with (at_builtin; refine wpList_append_own _ rfl _ _ 22 rfl w.heap.size 9 i0 (.string ByteArray.empty) 1 16 Try.underlying22 HI.out HZ0.out HZ1.out HZ2.out rfl (by omega) _ _ _ rfl (World.ownsRow_made w #[] 0 (Nat.le_refl _) (Nat.zero_le _) (by simp)) x n c (z.map encStr) rfl ?c1 ?c2 ?c3 ?c4 ?c5 ?c6 ?_)
  case c1 => rw [List.length_map, HZ.out]; omega
  case c2 =>
    intro j u hj
    have hlt : j < z.length := by
      rcases Nat.lt_or_ge j z.length with h | h
      · exact h
      · rw [List.getElem?_eq_none (by rw [List.length_map]; exact h)] at hj; cases hj
    rw [List.getElem?_map, List.getElem?_eq_getElem hlt] at hj
    cases hj
    have := HC.out j (HZ.out ▸ hlt)
    rw [List.getD, List.getElem?_eq_getElem hlt] at this
    exact cell_later (Below.alloc (Below.refl _ w) (Nat.le_refl _) _) this
  case c3 => intro u hu; simp at hu; obtain ⟨_, _, rfl⟩ := hu; rfl
  case c4 => unfold maxLen; omega
  case c5 => omega
  case c6 => simp
  intro v w1 hown hgrow hnil
  have HO := Lib.hid hown; clear hown
  have HG := Lib.hid hgrow; clear hgrow hnil
  go_wp2
  go_ret
  refine ⟨v, rfl, by simpa using HO.out, ?_⟩
  exact (Below.alloc (Below.refl _ w) (Nat.le_refl _) _).grown HG.out (by simp) (by intro k hk; simp [Value.ownBlock] at hk; omega)
theorem clone_nil (n c : Nat) (w : World) : Calls Try.prog 19 #[.slice none n c] w fun e w' => e = .returned (.slice none 0 0) ∧ w = w' := by
  have q := fun (w : World) (a : Option Addr) (n c n' c' : Nat) => Lib.run_eql_slice_nil (P := Try.prog) w 22 9 a n c n' c' Try.underlying22
  go_enter Try.func19, Try.ntmps19
  go_wp2
  go_ret
  exact ⟨rfl, rfl⟩
theorem clone_of {w : World} {v : Value} {z : List Str} (h : SIn w v z) :
    Calls Try.prog 19 #[v] w fun e w' => ∃ v', e = .returned v' ∧ w'.ownsRow w.heap.size 9 1 v' z.length (z.map encStr) ∧ Below w.heap.size w w' := by
  rcases h.open with ⟨rfl, a, cap, rfl⟩ | ⟨_, b, off, cap, rfl, _, _, hc⟩
  · cases a with
    | none => exact (clone_nil 0 cap w).mono fun e w' k => ⟨_, k.1, k.2 ▸ World.ownsRow_nil _ _ _ _, k.2 ▸ Below.refl _ _⟩
    | some x => exact clone_some x 0 cap [] w rfl (by omega) (fun k hk => absurd hk (Nat.not_lt_zero _))
  · refine clone_some _ _ cap z w rfl h.bound (fun k hk => ?_)
    rw [← hc k hk]
    congr 1
    unfold Addr.add
    by_cases k0 : k = 0 <;> simp [k0]

/-! slices.Sort, slices.Compact at a row of the call's own -/
theorem sortRow_own {v : Value} {n : Nat} {z : List Str} {base : Nat} {w : World} (hown : w.ownsRow base 9 1 v n (z.map encStr)) (hn : n < 4611686018427387904) :
    Calls Try.prog 25 #[v] w fun e w' =>
      e = .returned (.tuple #[]) ∧ w'.ownsRow base 9 1 v n ((sortS z).map encStr) ∧ (∀ B w0, B ≤ base → Below B w0 w → Below B w0 w') := by
  by_cases h0 : n = 0
  · subst h0
    have hz : z = [] := by have := hown.1; simpa using this
    subst hz
    obtain ⟨a, c, rfl⟩ : ∃ a c, v = .slice a 0 c := by
      rcases hown.2 with ⟨h, _⟩ | ⟨g, cap, _, h, _⟩
      · exact ⟨_, _, h⟩
      · exact ⟨_, _, h⟩
    have hS := AnyM.slices_Sort_string_none (P := Try.prog) (ρ := sortL_ren) sortL a c w
    refine Calls.mono (show Calls Try.prog 25 _ _ _ from hS) ?_
    rintro e w' ⟨he, rfl⟩
    rw [List.Perm.eq_nil (sortS_perm [])]
    exact ⟨he, hown, fun _ _ _ h => h⟩
  · have hv : v ≠ .slice none 0 0 := by
      rintro rfl
      rcases hown.2 with ⟨_, h⟩ | ⟨g, cap, _, h, _⟩
      · exact h0 h
      · cases h
    obtain ⟨g, cap, rfl, hb, hlt, _, _, hl, hH⟩ := Lib.holds_of_ownsRow hown hv
    have hS := AnyM.slices_Sort_string sortL g 0 cap z w hH hlt (by omega)
    rw [hl] at hS
    refine Calls.mono (show Calls Try.prog 25 _ _ _ from hS) ?_
    rintro e w' ⟨he, q, os, rfl⟩
    have hsl : (sortS z).length = n := by rw [(sortS_perm z).length_eq]; exact hl
    have h1 := Lib.ownsRow_putRow (q := q) hown hsl (Nat.le_refl n)
    rw [List.take_of_length_le (by omega)] at h1
    refine ⟨he, ?_, fun B w0 hB hbel => ?_⟩
    · exact Lib.ownsRow_grow h1 0 os
    · have hz : (Go.Sort.putRow encStr (Go.Sort.ahead w q) g 0 (sortS z).toArray).heap.size = w.heap.size := by simp
      exact (Lib.below_putRow (enc := encStr) (q := q) (d := (sortS z).toArray) hbel (Nat.le_trans hB hb)).trans (Lib.below_grow B _ (by omega) 0 os)

theorem compactRow_own {v : Value} {n : Nat} {z : List Str} {base : Nat} {w : World} (hown : w.ownsRow base 9 1 v n (z.map encStr)) (hn : n < 4611686018427387904) :
    Calls Try.prog 26 #[v] w fun e w' =>
      ∃ v', e = .returned v' ∧ w'.ownsRow base 9 1 v' (Lib.compact z).length ((Lib.compact z).map encStr) ∧ (∀ B w0, B ≤ base → Below B w0 w → Below B w0 w') := by
  by_cases h0 : n = 0
  · subst h0
    have hz : z = [] := by have := hown.1; simpa using this
    subst hz
    obtain ⟨a, c, rfl⟩ : ∃ a c, v = .slice a 0 c := by
      rcases hown.2 with ⟨h, _⟩ | ⟨g, cap, _, h, _⟩
      · exact ⟨_, _, h⟩
      · exact ⟨_, _, h⟩
    have hS := AnyG.slices_Compact_string_empty (P := Try.prog) (ρ := compactL_ren) compactL a c w
    refine Calls.mono (show Calls Try.prog 26 _ _ _ from hS) ?_
    rintro e w' ⟨he, rfl⟩
    exact ⟨_, he, hown, fun _ _ _ h => h⟩
  · have hv : v ≠ .slice none 0 0 := by
      rintro rfl
      rcases hown.2 with ⟨_, h⟩ | ⟨g, cap, _, h, _⟩
      · exact h0 h
      · cases h
    obtain ⟨g, cap, rfl, hb, hlt, hcap, _, hl, hH⟩ := Lib.holds_of_ownsRow hown hv
    have hS := AnyG.slices_Compact_string compactL g 0 cap z w hH (by omega) (by omega)
    rw [hl] at hS
    refine Calls.mono (show Calls Try.prog 26 _ _ _ from hS) ?_
    rintro e w' ⟨he, q, rfl⟩
    have hk : (Lib.compact z).length ≤ n := by have := compact_le z; omega
    have h1 := Lib.ownsRow_putRow (q := q) (ys := Lib.compact z ++ List.replicate (n - (Lib.compact z).length) []) hown (by rw [List.length_append, List.length_replicate]; omega) hk
    rw [List.take_left] at h1
    exact ⟨_, he, h1, fun B w0 hB hbel => Lib.below_putRow (enc := encStr) (q := q) hbel (Nat.le_trans hB hb)⟩

/-- what Sort hands back -/
def SortPost (z : List Str) (w : World) (e : Ending) (w' : World) : Prop :=
  (z.all good = true ∧ ∃ v, e = .returned (.tuple #[v, .int .i64 0]) ∧ w'.ownsRow w.heap.size 9 1 v (uniq z).length ((uniq z).map encStr) ∧ Below w.heap.size w w') ∨
  (z.all good = false ∧ e = .returned (.tuple #[.slice none 0 0, .int .i64 3]) ∧ w' = w)

theorem all_good {z : List Str} (h : ∀ j, j < z.length → good (z.getD j []) = true) : z.all good = true := by
  rw [List.all_eq_true]
  intro x hx
  obtain ⟨i, hi, rfl⟩ := mem_getD hx
  exact h i hi
theorem all_bad {z : List Str} {k : Nat} (hk : k < z.length) (h : good (z.getD k []) = false) : z.all good = false := by
  rw [List.all_eq_false]
  exact ⟨_, getD_mem hk, by simpa using h⟩

set_option maxHeartbeats 1000000 in
theorem sort_any {w : World} {v : Value} {z : List Str} (h : SIn w v z) :
    Calls Try.prog 8 #[v] w (SortPost z w) := by
  have F := Lib.hid h
  have hn := h.bound
  have HX : Hid (∀ k, k < z.length → (bs (z.getD k [])).size ≤ 9223372036854775807) := fun k hk => by rw [bs_size]; exact F.out.small _ (getD_mem hk)
  have tail : ∀ (k : Nat), Hid (z.all good = true) → Calls Try.prog 19 #[v] w fun e w' => ∃ v', e = .returned v' ∧ w'.ownsRow w.heap.size 9 1 v' z.length (z.map encStr) ∧ Below w.heap.size w w' := fun _ _ => clone_of F.out
  rcases h.open with ⟨hz, a, cap, rfl⟩ | ⟨hpos, b, off, cap, rfl, hcap, hlt, hc⟩
  · clear h hn HX
    subst hz
    go_enter Try.func8, Try.ntmps8
    go_wp2_with fail
    go_loopw [10] (fun i wr => i = .int .i64 0 ∧ wr = w) (fun _ _ => 0)
    case atStart => exact ⟨rfl, rfl⟩
    case round =>
      obtain ⟨rfl, rfl⟩ := hrel
      go_wp2_with fail
      refine (clone_of F.out).mono ?_
      rintro e wc ⟨v', rfl, hown, hbel⟩
      have HO := Lib.hid hown; clear hown
      have HB := Lib.hid hbel; clear hbel
      go_wp2_with fail
      refine (sortRow_own HO.out (by simp)).mono ?_
      rintro e wd ⟨rfl, hown, hbel⟩
      have HO2 := Lib.hid hown; clear hown
      have HB2 := Lib.hid (hbel _ _ (Nat.le_refl _) HB.out); clear hbel
      go_wp2_with fail
      refine (compactRow_own HO2.out (by simp)).mono ?_
      rintro e we ⟨v2, rfl, hown, hbel⟩
      have HO3 := Lib.hid hown; clear hown
      have HB3 := Lib.hid (hbel _ _ (Nat.le_refl _) HB2.out); clear hbel
      go_wp2
      go_ret2
      exact .inl ⟨rfl, v2, rfl, HO3.out, HB3.out⟩
  · clear h
    have HC := Lib.hid hc; clear hc
    have HG : Hid ((∀ j, j < z.length → good (z.getD j []) = true) → z.all good = true) := all_good
    have HN : Hid (∀ k, k < z.length → good (z.getD k []) = false → z.all good = false) := fun k => all_bad
    have HB0 : Hid (∀ k, good (bs (z.getD k [])).data.toList = good (z.getD k [])) := fun k => by rw [bs_list]
    generalize hL : z.length = L at *
    have HL := Lib.hid hL; clear hL
    go_enter Try.func8, Try.ntmps8
    go_wp2_with fail
    go_loopw [10] (fun i wr => ∃ k : Nat, k ≤ L ∧ i = .int .i64 (k : Int) ∧ (∀ j, j < k → good (z.getD j []) = true) ∧ wr = w) (fun i _ => L - (intOf i).toNat)
    case atStart => exact ⟨0, by omega, rfl, fun _ h => absurd h (Nat.not_lt_zero _), rfl⟩
    case round =>
      obtain ⟨k, hk, rfl, hall, rfl⟩ := hrel
      have HA := Lib.hid hall; clear hall
      by_cases hk2 : k < L
      · have c1 := HC.out k hk2
        go_wp2_with fail
        refine (check_any _ _ (HX.out k hk2)).mono ?_
        rw [HB0.out k]
        rintro e w' ⟨rfl, rfl⟩
        clear c1
        cases hd : good (z.getD k []) with
        | false =>
          have HD := Lib.hid (HN.out k hk2 hd); clear hd
          go_wp2
          go_ret2
          exact .inr ⟨HD.out, rfl, rfl⟩
        | true =>
          have HD := Lib.hid hd; clear hd
          go_wp2
          go_roundw
          case rel =>
            refine ⟨k + 1, by omega, by go_num, fun j hj => ?_, trivial⟩
            rcases Nat.lt_succ_iff_lt_or_eq.1 hj with h | h
            · exact HA.out j h
            · rw [h]; exact HD.out
          case measure => simp [intOf]; omega
      · obtain rfl : k = L := by omega
        have HD := Lib.hid (HG.out HA.out)
        go_wp2_with fail
        refine (clone_of F.out).mono ?_
        rintro e wc ⟨v', rfl, hown, hbel⟩
        have HO := Lib.hid hown; clear hown
        have HB := Lib.hid hbel; clear hbel
        have hn2 : Hid (z.length < 4611686018427387904) := by show _ < _; rw [HL.out]; omega
        go_wp2_with fail
        refine (sortRow_own HO.out hn2.out).mono ?_
        rintro e wd ⟨rfl, hown, hbel⟩
        have HO2 := Lib.hid hown; clear hown
        have HB2 := Lib.hid (hbel _ _ (Nat.le_refl _) HB.out); clear hbel
        go_wp2_with fail
        refine (compactRow_own HO2.out hn2.out).mono ?_
        rintro e we ⟨v2, rfl, hown, hbel⟩
        have HO3 := Lib.hid hown; clear hown
        have HB3 := Lib.hid (hbel _ _ (Nat.le_refl _) HB2.out); clear hbel
        go_wp2
        go_ret2
        exact .inl ⟨HD.out, v2, rfl, HO3.out, HB3.out⟩
end Go.Proofs.Ytpfpcjgbjfpbbaa
