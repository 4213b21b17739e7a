/-
  The law's own key of a row of numbers (their bits, sorted by slices.Sort): a sorted row of the same bits. Condition: a slice takes fewer than 2^47 bytes.
-/
import Derived.Test.YtejceacoopgjkaaUPdq
import Derived.Test.YtejceacoopgjkaaSSort
namespace Go.Proofs.Ytejceacoopgjkaa
set_option linter.unusedVariables false
open Go.ChangeShapes Go.WideShapes Go.ChangeAt Go.RowKit
open Go.Sort (swp PermIn SortedIn SWO)

theorem infoU : (Try.prog.info? 38).map (fun i => (i.zero, i.size, i.bytes)) = some (some (.int .u64 0), 1, 8) := by kernel_rfl

theorem insertion_none (a : Option Addr) (c : Nat) (w : World) :
    Calls Try.prog 54 #[.slice a 0 c, .int .i64 0, .int .i64 0] w fun e w' => e = .returned (.tuple #[]) ∧ w = w' := by
  go_enter Try.func54, Try.ntmps54
  go_wp2_with fail
  go_loopw [6] (fun vi wr => vi = .int .i64 1 ∧ wr = w) (fun _ _ => 0)
  case atStart => exact ⟨by go_num, rfl⟩
  case round =>
    obtain ⟨rfl, rfl⟩ := hrel
    go_wp2
    go_end0
    exact ⟨rfl, rfl⟩
set_option maxRecDepth 100000 in
theorem pdq_none (a : Option Addr) (c l : Nat) (w : World) :
    Calls Try.prog 51 #[.slice a 0 c, .int .i64 0, .int .i64 0, .int .i64 l] w fun e w' => e = .returned (.tuple #[]) ∧ w = w' := by
  go_enter Try.func51, Try.ntmps51
  go_wp2_with fail
  go_loopg [1, 2] 1 (fun _ v1 v2 wr => v1 = .int .i64 0 ∧ v2 = .int .i64 0 ∧ wr = w)
  case atStart => exact ⟨rfl, rfl, rfl⟩
  case round =>
    obtain ⟨rfl, rfl, rfl⟩ := hrel
    go_wp2_with fail
    refine (insertion_none a c _).mono ?_
    rintro e w' ⟨rfl, rfl⟩
    go_wp2
    first | go_end0 | refine bodyPost_ret (results_none rfl _ _ _) rfl ?_
    exact ⟨rfl, rfl⟩
theorem sort_none (a : Option Addr) (c : Nat) (w : World) :
    Calls Try.prog 40 #[.slice a 0 c] w fun e w' => e = .returned (.tuple #[]) ∧ w = w' := by
  go_enter Try.func40, Try.ntmps40
  go_wp2_with fail
  refine (lenU_any _ w (by omega) (by omega)).mono ?_
  rintro e w' ⟨len, rfl, -, hl, rfl⟩
  go_wp2_with fail
  refine (pdq_none a c len w).mono ?_
  rintro e w' ⟨rfl, rfl⟩
  go_wp2
  go_end0
  exact ⟨rfl, rfl⟩

/-- words in order -/
def AscU (l : List Bv) : Prop := l.Pairwise fun x y => x.toNat ≤ y.toNat
theorem ascU_unique {l m : List Bv} (h1 : AscU l) (h2 : AscU m) (h : l.Perm m) : l = m :=
  List.Perm.eq_of_pairwise (le := fun x y : Bv => x.toNat ≤ y.toNat) (fun _ _ _ _ a b => BitVec.eq_of_toNat_eq (Nat.le_antisymm a b)) h1 h2 h

/-- slices.Sort at a row of the call's own -/
theorem sortU_own {v : Value} {n : Nat} {z : List Bv} {base : Nat} {w : World} (hown : w.ownsRow base 38 1 v n (z.map encU)) (hn : n ≤ 1000000000000000) :
    Calls Try.prog 40 #[v] w fun e w' =>
      e = .returned (.tuple #[]) ∧ ∃ z' : List Bv, z'.Perm z ∧ AscU z' ∧ w'.ownsRow base 38 1 v n (z'.map encU) ∧ (∀ B w0, B ≤ base → B ≤ w.heap.size → Below B w0 w → Below B w0 w') := by
  have hl : z.length = n := by have := hown.1; simpa using this
  by_cases h0 : n = 0
  · subst h0
    obtain rfl : z = [] := List.length_eq_zero_iff.1 hl
    obtain ⟨a, c, rfl⟩ : ∃ a c, v = .slice a 0 c := by
      rcases hown.2 with ⟨h, _⟩ | ⟨g, cap, _, h, _⟩
      · exact ⟨_, _, h⟩
      · exact ⟨_, _, h⟩
    refine (sort_none a c w).mono ?_
    rintro e w' ⟨rfl, rfl⟩
    exact ⟨rfl, [], List.Perm.refl _, List.Pairwise.nil, hown, fun _ _ _ _ h => h⟩
  · rcases hown.2 with ⟨_, h⟩ | ⟨g, cap, cur, rfl, hb, hg, _⟩
    · exact absurd h h0
    · have hlt : g < w.heap.size := by
        rcases Nat.lt_or_ge g w.heap.size with h | h
        · exact h
        · rw [Array.getElem?_eq_none h] at hg; cases hg
      have hsz : z.toArray.size = n := by simpa using hl
      have hu : UR base g cap w z.toArray w := ⟨by rw [hsz]; exact hown, World.grownBy.refl _ _, hlt⟩
      have hS := sortU_any base g cap w z.toArray w hu (by omega)
      rw [hsz] at hS
      refine hS.mono ?_
      rintro e w' ⟨rfl, d', hp, hs, hu'⟩
      have hsz' : d'.size = n := hp.1.trans hsz
      refine ⟨rfl, d'.toList, ?_, ?_, ?_, ?_⟩
      · have := hp.2.2
        rw [← hsz] at this
        simp only [Array.extract_size] at this
        rw [hsz, ← hsz', Array.extract_size] at this
        simpa using this
      · refine List.pairwise_iff_getElem.2 fun i j hi hj hij => ?_
        have hi' : i < d'.size := by simpa using hi
        have hj' : j < d'.size := by simpa using hj
        have := of_decide_eq_false (hs i j (Nat.zero_le _) hij (by omega))
        rw [getElem!_pos d' i hi', getElem!_pos d' j hj'] at this
        simp only [Array.getElem_toList]
        omega
      · have := hu'.1
        rwa [hsz'] at this
      · intro B w0 hB hB2 hbel
        exact hbel.grown hu'.2.1 hB2 (fun k hk => by cases hk; omega)

/-- a slice of numbers as it lies in memory -/
def FIn (w : World) (a : Option Addr) (len : Nat) (f : Nat → Nat) : Prop :=
  len ≤ 17592186043904 ∧ (∀ i, i < len → f i < 18446744073709551616) ∧ (len = 0 ∨ ∃ b off, a = some ⟨b, off, none⟩ ∧ b < w.heap.size ∧ ∀ i, i < len → w.cell? ⟨b, off + i, none⟩ = some (.float .f64 (f i)))

def KeyPost (l : List Nat) (w : World) (e : Ending) (w' : World) : Prop :=
  ∃ v z, e = .returned v ∧ List.Perm z (toBv l) ∧ AscU z ∧ w'.ownsRow w.heap.size 38 1 v l.length (z.map encU) ∧ Below w.heap.size w w'

theorem toBv_snoc (f : Nat → Nat) (k : Nat) : toBv (lst f (k + 1)) = toBv (lst f k) ++ [BitVec.ofNat 64 (f k)] := by
  simp [toBv, lst, List.range_succ]
theorem enc_word {n : Nat} (h : n < 18446744073709551616) : encU (BitVec.ofNat 64 n) = .int .u64 (n : Int) := by
  unfold encU; rw [BitVec.toNat_ofNat, Nat.mod_eq_of_lt h]

set_option maxHeartbeats 4000000 in
theorem key_any (a : Option Addr) (len cap : Nat) (f : Nat → Nat) (w : World) (h : FIn w a len f) :
    Calls Try.prog 39 #[.slice a len cap] w (KeyPost (lst f len) w) := by
  obtain ⟨i0, hi, hz0, hz1, hz2⟩ := info_parts infoU
  have HI := Lib.hid hi; clear hi
  have HZ0 := Lib.hid hz0; clear hz0
  have HZ1 := Lib.hid hz1; clear hz1
  have HZ2 := Lib.hid hz2; clear hz2
  obtain ⟨hn, hbd, hf⟩ := h
  have HBd := Lib.hid hbd; clear hbd
  have HF := Lib.hid hf; clear hf
  have fb := fun (b : Nat) (w : World) => fbits b w
  go_enter Try.func39, Try.ntmps39
  go_wp2_with fail
  go_loopw [3, 8] (fun v i wr => ∃ k : Nat, k ≤ len ∧ i = .int .i64 k ∧ Hid (wr.ownsRow w.heap.size 38 1 v k ((toBv (lst f k)).map encU)) ∧ Hid (Below w.heap.size w wr)) (fun _ i _ => len - (intOf i).toNat)
  case atStart => exact ⟨0, Nat.zero_le _, rfl, World.ownsRow_nil _ _ _ _, Below.refl _ _⟩
  case round =>
    obtain ⟨k, hk, rfl, HO, HB⟩ := hrel
    by_cases hlt : k < len
    · rcases HF.out with h0 | ⟨b, off, rfl, hb, hc⟩
      · omega
      · have c1 := cell_later HB.out (hc k hlt)
        have bk := HBd.out k hlt
        clear hc
        generalize hfk : f k = x at c1 bk
        have HX := Lib.hid hfk
        clear hfk
        go_wp2_with (at_builtin; refine wpList_append_own _ rfl _ _ 54 rfl w.heap.size 38 i0 (.int .u64 0) 1 8 Try.underlying54 HI.out HZ0.out HZ1.out HZ2.out rfl (by omega) _ k _ rfl (HO.out.alloc _) ⟨wr.heap.size, 0, none⟩ 1 1 [.int .u64 (x : Int)] rfl ?c1 ?c2 ?c3 ?c4 ?c5 ?c6 ?_)
        case c1 => rfl
        case c2 =>
          intro i u hu
          match i, hu with
          | 0, hu => simp at hu; subst hu; simp [Addr.add]
        case c3 => intro u hu; simp at hu; subst hu; rfl
        case c4 => unfold maxLen; omega
        case c5 => omega
        case c6 => have := HB.out.size; simp; omega
        intro v1 w1 hown hgrow hnil
        have HO1 : Hid (w1.ownsRow w.heap.size 38 1 v1 (k + 1) ((toBv (lst f (k + 1))).map encU)) := by
          rw [toBv_snoc, List.map_append, HX.out]; show World.ownsRow _ _ _ _ _ _ _; simp only [List.map_cons, List.map_nil, enc_word bk]; exact hown
        have HB1 : Hid (Below w.heap.size w w1) := (HB.out.alloc HB.out.size _).grown hgrow (by have := HB.out.size; simp; omega) (fun j hj => by
          rcases HO.out.2 with ⟨hv, _⟩ | ⟨g, cp, _, hv, hgb, _⟩
          · rw [hv] at hj; cases hj
          · rw [hv] at hj; cases hj; exact hgb)
        clear hown hgrow hnil HO HB c1
        go_wp2
        go_roundw
        case rel => exact ⟨k + 1, by omega, by go_num, HO1.out, HB1.out⟩
        case measure => simp [intOf]; omega
    · obtain rfl : k = len := by omega
      go_wp2_with fail
      refine (sortU_own HO.out (by omega)).mono ?_
      rintro e w1 ⟨rfl, z, hz1, hz2, hz3, hz4⟩
      have HP1 := Lib.hid hz1
      have HP2 := Lib.hid hz2
      have HP3 := Lib.hid hz3
      have HP4 := Lib.hid (hz4 w.heap.size w (Nat.le_refl _) HB.out.size HB.out)
      clear hz1 hz2 hz3 hz4
      go_wp2
      go_ret
      exact ⟨_, z, rfl, HP1.out, HP2.out, by rw [lst_length]; exact HP3.out, HP4.out⟩
end Go.Proofs.Ytejceacoopgjkaa
