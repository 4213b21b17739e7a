/-
  Slices of float64 that came in, opened; slices.IndexFunc, ContainsFunc with the law's own test; slices.Clone; slices.MaxFunc and package span's Most. Condition: a slice takes fewer than 2^47 bytes (the form says so).
-/
import Derived.Test.YtejceacoopgjkaaSum
import Derived.SizedLaws
import Derived.Deep.Slices
import Derived.OwnWalk
import Derived.Deep.AppendLies
import Derived.Laws.OwnMore
import Derived.Shelf.Abstract
import Derived.WalkSpells
namespace Go.Proofs.Ytejceacoopgjkaa
open Go.ChangeShapes Go.WideShapes Go.ChangeAt Go.RowKit

/-- a slice of floats: its elements' bits -/
def Fls (w : World) (a : Option Addr) (len cap : Nat) (f : Nat → Nat) : Prop :=
  len ≤ cap ∧ cap ≤ 17592186043904 ∧ (∀ i, i < len → f i < 18446744073709551616) ∧
    (len = 0 ∨ ∃ b off, a = some ⟨b, off, none⟩ ∧ b < w.heap.size ∧ ∀ i, i < len → w.cell? ⟨b, off + i, none⟩ = some (.float .f64 (f i)))

theorem trod_float {H : Type} {enc : TypeId × Value → H} {P : Program} {w : World} {base : Nat} {spare : Nat → Bool} {held : Bool} {t : TypeId} {fuel : Nat} {cs : List Value} {x : DataW H × List MemPlace} {k : FloatKind}
    (ht : P.underlying t = some (.float k)) (h : DataW.trod enc P w base spare held fuel t cs = some x) : ∃ n, cs = [.float k n] ∧ (Lit.float k n).wf = true := by
  cases fuel with
  | zero => simp [DataW.trod] at h
  | succ n =>
    unfold DataW.trod at h
    rw [ht] at h
    split at h <;> simp_all

theorem open_floats {H : Type} {enc : TypeId × Value → H} {P : Program} {W : World} {t e : TypeId} {v : Value} {d : DataW H} {ps : List MemPlace} {base : Nat} {ts : List TypeId} {ds : List (DataW H)} {j : Nat}
    (ht : P.underlying t = some (.slice e)) (he : P.underlying e = some (.float .f64)) (hc : P.cellsOf e = 1) (hb : P.bytesOf e = 8)
    (hsz : (DataW.weightsEach P ts ds).all (· ≤ reachBytes) = true) (htj : ts[j]? = some t) (hdj : ds[j]? = some d)
    (hval : Value.okWide P W .any base t v) (h : DataW.Trod enc P W 0 (fun _ => true) true t v d ps) :
    ∃ a len cap f, v = .slice a len cap ∧ Fls W a len cap f := by
  obtain ⟨a0, len0, cap0, rfl⟩ := okWide_slice ht hval
  obtain ⟨fuel, hf⟩ := h
  rcases Go.Deep.open_slice1 ht hc hf with ⟨hcs, _⟩ | ⟨a, len, cap, m, n, V, D, Pl, hcs, _, hl, hm, hmm, hx, hcell⟩
  · simp [Value.cells] at hcs
    obtain ⟨rfl, rfl, rfl⟩ := hcs
    exact ⟨none, 0, 0, fun _ => 0, rfl, Nat.le_refl _, by omega, fun i hi => absurd hi (Nat.not_lt_zero _), .inl rfl⟩
  · simp [Value.cells] at hcs
    obtain ⟨rfl, rfl, rfl⟩ := hcs
    simp only [if_true] at hmm
    subst hmm
    simp only [Prod.mk.injEq] at hx
    have hs := sized_slice hsz htj (hx.1 ▸ hdj) ht
    rw [hb] at hs
    simp only [List.length_map, List.length_range, reachBytes] at hs
    obtain ⟨f, hf'⟩ := Go.Deep.choose_lt (α := Nat) (n := m) (p := fun i b => V i = .float .f64 b ∧ b < 18446744073709551616) (fun i hi => by
      obtain ⟨b, e1, e2⟩ := trod_float he (hcell i hi).2
      refine ⟨b, ?_, by simpa [Lit.wf] using e2⟩
      simpa using e1)
    refine ⟨some a, len0, m, f, rfl, hl, by omega, fun i hi => (hf' i (by omega)).2, ?_⟩
    by_cases h0 : len0 = 0
    · exact .inl h0
    · right
      obtain ⟨b, off, spot⟩ := a
      have hspot : spot = none := by simpa [Addr.add] using World.cell?_spot (hcell 0 (by omega)).1
      subst hspot
      have hc' : ∀ i, i < len0 → W.cell? ⟨b, off + i, none⟩ = some (.float .f64 (f i)) := fun i hi => by
        rw [← (hf' i (by omega)).1, ← (hcell i (by omega)).1]
        congr 1
        unfold Addr.add
        by_cases k : i = 0 <;> simp [k]
      exact ⟨b, off, rfl, World.block_lt_of_cell? _ _ (hc' 0 (by omega)), hc'⟩

/-! slices.MaxFunc, Most -/
/-- m is the greatest of the first n -/
def Top (f : Nat → Nat) (n m : Nat) : Prop := (∃ i, i < n ∧ f i = m) ∧ ∀ i, i < n → rank (f i) ≤ rank m
theorem ord_pos {a b : Nat} : 0 < ord a b ↔ rank b < rank a := by
  unfold ord; split
  · constructor <;> intro h <;> omega
  · split <;> constructor <;> intro h <;> omega

set_option maxHeartbeats 1000000 in
theorem maxFunc_any (n c bk off : Nat) (f : Nat → Nat) (w : World) (h0 : 0 < n) (hn : n ≤ 4611686018427387904) (hb : ∀ i, i < n → f i < 18446744073709551616)
    (hc : ∀ k, k < n → w.cell? ⟨bk, off + k, none⟩ = some (.float .f64 (f k))) :
    Calls Try.prog 48 #[.slice (some ⟨bk, off, none⟩) n c, .func (.func 14) #[] #[]] w fun e w' => (∃ m, Top f n m ∧ e = .returned (.float .f64 m)) ∧ w = w' := by
  have HB := Lib.hid hb; clear hb
  have HC := Lib.hid hc; clear hc
  have c0 := HC.out 0 h0
  rw [Nat.add_zero] at c0
  have eg : ∀ args w, (callFunc 14 args).run Try.prog w = .ok (.enter 14 args) w := enters_of Try.func14 (by kernel_rfl) rfl
  go_enter Try.func48, Try.ntmps48
  go_wp2_with fail
  go_loopw [5, 6] (fun s i wr => ∃ k : Nat, 1 ≤ k ∧ k ≤ n ∧ i = .int .i64 k ∧ (∃ m, Top f k m ∧ s = .float .f64 m) ∧ wr = w) (fun _ i _ => n - (intOf i).toNat)
  case atStart => exact ⟨1, by omega, by omega, rfl, ⟨f 0, ⟨⟨0, by omega, rfl⟩, fun i hi => by rw [show i = 0 by omega]; exact Nat.le_refl _⟩, rfl⟩, rfl⟩
  case round =>
    obtain ⟨k, hk1, hk, rfl, ⟨m, hm, rfl⟩, rfl⟩ := hrel
    have HM := Lib.hid hm; clear hm
    clear c0
    by_cases hlt : k < n
    · have c1 := HC.out k hlt
      have bm : Hid (m < 18446744073709551616) := by obtain ⟨⟨i, hi, rfl⟩, _⟩ := HM.out; exact HB.out i (by omega)
      go_wp2_with fail
      refine (order_any _ _ (HB.out k hlt) bm.out _).mono ?_
      rintro e w' ⟨rfl, rfl⟩
      by_cases hp : 0 < ord (f k) m
      · have HP := Lib.hid (ord_pos.1 hp)
        go_wp2
        go_roundw
        case rel =>
          refine ⟨k + 1, by omega, by omega, by go_num, ⟨f k, ⟨⟨k, by omega, rfl⟩, fun i hi => ?_⟩, rfl⟩, trivial⟩
          rcases Nat.lt_succ_iff_lt_or_eq.1 hi with h | h
          · have := HM.out.2 i h; have := HP.out; omega
          · rw [h]; exact Nat.le_refl _
        case measure => simp [intOf]; omega
      · have HP : Hid (¬ rank m < rank (f k)) := fun h => hp (ord_pos.2 h)
        go_wp2
        go_roundw
        case rel =>
          refine ⟨k + 1, by omega, by omega, by go_num, ⟨m, ⟨?_, fun i hi => ?_⟩, rfl⟩, trivial⟩
          · obtain ⟨⟨i, hi, e⟩, _⟩ := HM.out; exact ⟨i, by omega, e⟩
          rcases Nat.lt_succ_iff_lt_or_eq.1 hi with h | h
          · exact HM.out.2 i h
          · rw [h]; have := HP.out; omega
        case measure => simp [intOf]; omega
    · obtain rfl : k = n := by omega
      go_wp2
      go_ret
      exact ⟨⟨m, HM.out, rfl⟩, rfl⟩

theorem most_any (n c bk off : Nat) (f : Nat → Nat) (w : World) (h0 : 0 < n) (hn : n ≤ 4611686018427387904) (hb : ∀ i, i < n → f i < 18446744073709551616)
    (hc : ∀ k, k < n → w.cell? ⟨bk, off + k, none⟩ = some (.float .f64 (f k))) :
    Calls Try.prog 21 #[.slice (some ⟨bk, off, none⟩) n c] w fun e w' => (∃ m, Top f n m ∧ e = .returned (.float .f64 m)) ∧ w = w' := by
  have HB := Lib.hid hb; clear hb
  have HC := Lib.hid hc; clear hc
  have t : ((n : Int) == 0) = false := by rw [beq_eq_false_iff_ne]; omega
  go_enter Try.func21, Try.ntmps21
  go_wp2_with fail
  refine (maxFunc_any n c bk off f _ h0 hn HB.out HC.out).mono ?_
  rintro e w' ⟨⟨m, hm, rfl⟩, rfl⟩
  have HM := Lib.hid hm; clear hm
  go_wp2
  go_ret
  exact ⟨⟨m, HM.out, rfl⟩, rfl⟩
theorem most_none (a : Option Addr) (c : Nat) (w : World) : Calls Try.prog 21 #[.slice a 0 c] w fun e w' => e = .returned (.float .f64 0) ∧ w = w' := by
  go_enter Try.func21, Try.ntmps21
  go_wp2
  go_ret
  exact ⟨rfl, rfl⟩

/-! slices.Clone -/
theorem infoFl : (Try.prog.info? 22).map (fun i => (i.zero, i.size, i.bytes)) = some (some (.float .f64 0), 1, 8) := by kernel_rfl

def fls (f : Nat → Nat) (n : Nat) : List Value := (List.range n).map fun i => Value.float .f64 (f i)
theorem fls_length (f : Nat → Nat) (n : Nat) : (fls f n).length = n := by simp [fls]
theorem fls_get {f : Nat → Nat} {n i : Nat} (h : i < n) : (fls f n)[i]? = some (.float .f64 (f i)) := by simp [fls, h]

set_option maxHeartbeats 1000000 in
/-- of a slice that is not nil: a new row of the same numbers -/
theorem clone_some (x : Addr) (n c : Nat) (f : Nat → Nat) (w : World) (hn : n ≤ 17592186043904) (hc : ∀ k, k < n → w.cell? (x.add k) = some (.float .f64 (f k))) :
    Calls Try.prog 37 #[.slice (some x) n c] w fun e w' => ∃ v, e = .returned v ∧ w'.ownsRow w.heap.size 22 1 v n (fls f n) ∧ Below w.heap.size w w' := by
  have HC := Lib.hid hc; clear hc
  obtain ⟨i0, hi, hz0, hz1, hz2⟩ := info_parts infoFl
  have HI := Lib.hid hi; clear hi
  have HZ0 := Lib.hid hz0; clear hz0
  have HZ1 := Lib.hid hz1; clear hz1
  have HZ2 := Lib.hid hz2; clear hz2
  have q := fun (w : World) (a : Option Addr) (n c n' c' : Nat) => Lib.run_eql_slice_nil (P := Try.prog) w 23 22 a n c n' c' Try.underlying23
  go_enter Try.func37, Try.ntmps37
  go_wp2_with (at_builtin; refine wpList_append_own _ rfl _ _ 23 rfl w.heap.size 22 i0 (.float .f64 0) 1 8 Try.underlying23 HI.out HZ0.out HZ1.out HZ2.out rfl (by omega) _ _ _ rfl (World.ownsRow_made w #[] 0 (Nat.le_refl _) (Nat.zero_le _) (by simp)) x n c (fls f n) rfl ?c1 ?c2 ?c3 ?c4 ?c5 ?c6 ?_)
  case c1 => rw [fls_length]; omega
  case c2 =>
    intro j u hj
    have hlt : j < n := by
      rcases Nat.lt_or_ge j n with h | h
      · exact h
      · rw [List.getElem?_eq_none (by rw [fls_length]; exact h)] at hj; cases hj
    rw [fls_get hlt] at hj
    cases hj
    exact cell_later (Below.alloc (Below.refl _ w) (Nat.le_refl _) _) (HC.out j hlt)
  case c3 => intro u hu; simp [fls] at hu; obtain ⟨_, _, rfl⟩ := hu; rfl
  case c4 => unfold maxLen; omega
  case c5 => omega
  case c6 => simp
  intro v w1 hown hgrow hnil
  have HO := Lib.hid hown; clear hown
  have HG := Lib.hid hgrow; clear hgrow hnil
  go_wp2
  go_ret
  refine ⟨v, rfl, by simpa using HO.out, ?_⟩
  exact (Below.alloc (Below.refl _ w) (Nat.le_refl _) _).grown HG.out (by simp) (by intro k hk; simp [Value.ownBlock] at hk; omega)
theorem clone_nil (n c : Nat) (w : World) : Calls Try.prog 37 #[.slice none n c] w fun e w' => e = .returned (.slice none 0 0) ∧ w = w' := by
  have q := fun (w : World) (a : Option Addr) (n c n' c' : Nat) => Lib.run_eql_slice_nil (P := Try.prog) w 23 22 a n c n' c' Try.underlying23
  go_enter Try.func37, Try.ntmps37
  go_wp2
  go_ret
  exact ⟨rfl, rfl⟩
end Go.Proofs.Ytejceacoopgjkaa
