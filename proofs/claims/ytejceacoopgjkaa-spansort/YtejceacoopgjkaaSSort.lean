/-
  What package span's Sort answers: a new row of the same numbers, sorted by rank. Condition: a slice takes fewer than 2^47 bytes (the form says so).
-/
import Derived.Test.YtejceacoopgjkaaFls
import Derived.Test.YtejceacoopgjkaaSelP
import Derived.Test.YtejceacoopgjkaaLaysA
import Derived.Lib.OwnBridge
import Derived.Lib.AppendIntMem
namespace Go.Proofs.Ytejceacoopgjkaa
open Go.ChangeShapes Go.WideShapes Go.ChangeAt Go.RowKit

/-- the numbers of a slice -/
def lst (f : Nat → Nat) (n : Nat) : List Nat := (List.range n).map f
theorem lst_length (f : Nat → Nat) (n : Nat) : (lst f n).length = n := by simp [lst]
theorem lst_get {f : Nat → Nat} {n i : Nat} (h : i < (lst f n).length) : (lst f n)[i] = f i := by simp [lst]
theorem lst_bound {f : Nat → Nat} {n : Nat} (h : ∀ i, i < n → f i < 18446744073709551616) : ∀ a ∈ lst f n, a < 18446744073709551616 := by
  intro a ha
  simp [lst] at ha
  obtain ⟨i, hi, rfl⟩ := ha
  exact h i hi

def encF (s : Bv) : Value := .float .f64 s.toNat
def cfF (x y : Bv) : Int := ord x.toNat y.toNat
theorem ltF (x y : Bv) : ltOf cfF x y = decide (rank x.toNat < rank y.toNat) := by
  unfold ltOf cfF ord
  by_cases h : rank x.toNat < rank y.toNat
  · rw [if_pos h, decide_eq_true h]; rfl
  · rw [if_neg h, decide_eq_false h]; split <;> rfl
theorem swoF : Go.Sort.SWO (ltOf cfF) where
  irrefl x := by rw [ltF]; exact decide_eq_false (by omega)
  trans x y z h1 h2 := by
    rw [ltF] at *
    have := of_decide_eq_true h1
    have := of_decide_eq_true h2
    exact decide_eq_true (by omega)
  ntrans x y z h1 h2 := by
    rw [ltF] at *
    have := of_decide_eq_false h1
    have := of_decide_eq_false h2
    exact decide_eq_false (by omega)
theorem totF (x y : Bv) (h1 : ltOf cfF x y = false) (h2 : ltOf cfF y x = false) : x = y := by
  rw [ltF] at *
  have := of_decide_eq_false h1
  have := of_decide_eq_false h2
  exact BitVec.eq_of_toNat_eq (rank_inj x.isLt y.isLt (by omega))
theorem cmpF (blk off size : Nat) (w : World) : CmpLays1 Try.prog 14 #[] encF cfF blk off size w :=
  CmpReads.lays fun m os dk _ x y => (order_any x.toNat y.toNat x.isLt y.isLt _).mono fun _ _ k => ⟨k.1, 0, by rw [← k.2]; rfl⟩

/-- bits as words and back -/
def toBv (l : List Nat) : List Bv := l.map fun n => BitVec.ofNat 64 n
theorem toBv_back {l : List Nat} (h : ∀ a ∈ l, a < 18446744073709551616) : (toBv l).map BitVec.toNat = l := by
  unfold toBv
  rw [List.map_map]
  conv => rhs; rw [← List.map_id l]
  apply List.map_congr_left
  intro a ha
  show (BitVec.ofNat 64 a).toNat = a
  rw [BitVec.toNat_ofNat, Nat.mod_eq_of_lt (h a ha)]
theorem enc_toNat (z : List Bv) : z.map encF = (z.map BitVec.toNat).map (fun x => Value.float .f64 x) := by rw [List.map_map]; rfl

def sorted (z : List Bv) : List Bv := z.mergeSort fun x y => !ltOf cfF y x
theorem sorted_perm (z : List Bv) : (sorted z).Perm z := List.mergeSort_perm _ _
theorem sorted_asc (z : List Bv) : Asc ((sorted z).map BitVec.toNat) := by
  unfold Asc
  rw [List.pairwise_map]
  have := List.pairwise_mergeSort (le := fun x y : Bv => !ltOf cfF y x) (fun a b c h1 h2 => by
    rw [ltF, Bool.not_eq_true', decide_eq_false_iff_not] at *; omega) (fun a b => by
    rw [ltF, ltF]
    by_cases h : rank b.toNat < rank a.toNat
    · rw [decide_eq_true h, decide_eq_false (by omega)]; rfl
    · rw [decide_eq_false h]; rfl) z
  refine this.imp fun {a b} h => ?_
  rw [ltF, Bool.not_eq_true', decide_eq_false_iff_not] at h
  omega

/-- what Sort hands back -/
def SortPost (l0 : List Nat) (w : World) (e : Ending) (w' : World) : Prop :=
  ∃ v O, e = .returned v ∧ O.Perm l0 ∧ Asc O ∧ w'.ownsRow w.heap.size 22 1 v O.length (O.map fun x => Value.float .f64 x) ∧ Below w.heap.size w w'

/-- SortFunc at a row of the call's own -/
theorem sortFunc_own {v : Value} {n : Nat} {z : List Bv} {base : Nat} {w : World} (hown : w.ownsRow base 22 1 v n (z.map encF)) (hn : n < 4611686018427387904) :
    Calls Try.prog 47 #[v, .func (.func 14) #[] #[]] w fun e w' =>
      e = .returned (.tuple #[]) ∧ w'.ownsRow base 22 1 v n ((sorted z).map encF) ∧ (∀ B w0, B ≤ base → Below B w0 w → Below B w0 w') := by
  by_cases h0 : n = 0
  · subst h0
    have hz : z = [] := by have := hown.1; simpa using this
    subst hz
    obtain ⟨a, c, rfl⟩ : ∃ a c, v = .slice a 0 c := by
      rcases hown.2 with ⟨h, _⟩ | ⟨g, cap, _, h, _⟩
      · exact ⟨_, _, h⟩
      · exact ⟨_, _, h⟩
    have hS := AnyF.slices_SortFunc_none (P := Try.prog) (ρ := sortL_ren) { sortL with } a c (.func (.func 14) #[] #[]) w
    refine Calls.mono (show Calls Try.prog 47 _ _ _ from hS) ?_
    rintro e w' ⟨he, rfl⟩
    rw [List.Perm.eq_nil (sorted_perm [])]
    exact ⟨he, hown, fun _ _ _ h => h⟩
  · have hv : v ≠ .slice none 0 0 := by
      rintro rfl
      rcases hown.2 with ⟨_, h⟩ | ⟨g, cap, _, h, _⟩
      · exact h0 h
      · cases h
    obtain ⟨g, cap, rfl, hb, hlt, _, _, hl, hH⟩ := Lib.holds_of_ownsRow hown hv
    have eg : ∀ args w, (callFunc 14 args).run Try.prog w = .ok (.enter 14 args) w := enters_of Try.func14 (by kernel_rfl) rfl
    have hs : z.toArray.size = n := by simpa using hl
    have hS := Any.slices_SortFunc_total sortL encF (fun _ => rfl) cfF swoF 14 #[] g 0 cap z.toArray w eg (cmpF g 0 _ w) hH hlt (by omega) totF
    rw [hs] at hS
    refine Calls.mono (show Calls Try.prog 47 _ _ _ from hS) ?_
    rintro e w' ⟨he, q, os, rfl⟩
    have hsl : (sorted z).length = n := by rw [(sorted_perm z).length_eq]; exact hl
    have h1 := Lib.ownsRow_putRow (q := q) hown hsl (Nat.le_refl n)
    rw [List.take_of_length_le (by omega)] at h1
    refine ⟨he, ?_, fun B w0 hB hbel => ?_⟩
    · exact Lib.ownsRow_grow h1 0 os
    · exact (Lib.below_putRow (enc := encF) (q := q) (d := (sorted z).toArray) hbel (Nat.le_trans hB hb)).trans (Lib.below_grow B _ (by rw [size_putRow]; show B ≤ w.heap.size; omega) 0 os)

theorem fls_lst (f : Nat → Nat) (n : Nat) : fls f n = (lst f n).map fun x => Value.float .f64 x := by simp [fls, lst]

/-- what Clone hands back, whatever slice came in -/
theorem clone_of {a : Option Addr} {len cap : Nat} {f : Nat → Nat} {w0 w : World} (h : Fls w0 a len cap f) (hb : Below w0.heap.size w0 w) :
    Calls Try.prog 37 #[.slice a len cap] w fun e w' => ∃ v, e = .returned v ∧ w'.ownsRow w.heap.size 22 1 v len (fls f len) ∧ Below w.heap.size w w' := by
  obtain ⟨h1, h2, h3, h4⟩ := h
  rcases h4 with rfl | ⟨b, off, rfl, hlt, hc⟩
  · cases a with
    | none => exact (clone_nil 0 cap w).mono fun e w' k => ⟨_, k.1, k.2 ▸ World.ownsRow_nil _ _ _ _, k.2 ▸ Below.refl _ _⟩
    | some x => exact clone_some x 0 cap f w (by omega) (fun k hk => absurd hk (Nat.not_lt_zero _))
  · refine clone_some _ len cap f w (by omega) (fun k hk => cell_later hb ?_)
    rw [← hc k hk]
    congr 1
    unfold Addr.add
    by_cases k0 : k = 0 <;> simp [k0]

set_option maxHeartbeats 1000000 in
theorem sort_any {a : Option Addr} {len cap : Nat} {f : Nat → Nat} {w0 : World} (w : World) (h : Fls w0 a len cap f) (hb : Below w0.heap.size w0 w) :
    Calls Try.prog 20 #[.slice a len cap] w (SortPost (lst f len) w) := by
  have F := Lib.hid h; clear h
  have HB := Lib.hid hb; clear hb
  go_enter Try.func20, Try.ntmps20
  go_wp2_with fail
  refine (clone_of F.out HB.out).mono ?_
  rintro e wc ⟨v, rfl, hown, hbel⟩
  have hbd : Hid (∀ a ∈ lst f len, a < 18446744073709551616) := lst_bound F.out.2.2.1
  rw [fls_lst, ← toBv_back hbd.out, ← enc_toNat] at hown
  have HO := Lib.hid hown; clear hown
  have HBel := Lib.hid hbel; clear hbel
  have hn : Hid (len < 4611686018427387904) := by have := F.out.1; have := F.out.2.1; show _ < _; omega
  go_wp2_with fail
  refine (sortFunc_own HO.out hn.out).mono ?_
  rintro e wd ⟨rfl, hown, hbel⟩
  have HO2 := Lib.hid hown; clear hown
  have HB2 := Lib.hid (hbel _ _ (Nat.le_refl _) HBel.out); clear hbel
  go_wp2
  go_ret
  have hp : ((sorted (toBv (lst f len))).map BitVec.toNat).Perm (lst f len) := by
    have := (sorted_perm (toBv (lst f len))).map BitVec.toNat
    rwa [toBv_back hbd.out] at this
  refine ⟨v, (sorted (toBv (lst f len))).map BitVec.toNat, rfl, hp, sorted_asc _, ?_, HB2.out⟩
  have hl : ((sorted (toBv (lst f len))).map BitVec.toNat).length = len := by rw [hp.length_eq, lst_length]
  rw [hl, ← enc_toNat]
  exact HO2.out
end Go.Proofs.Ytejceacoopgjkaa
