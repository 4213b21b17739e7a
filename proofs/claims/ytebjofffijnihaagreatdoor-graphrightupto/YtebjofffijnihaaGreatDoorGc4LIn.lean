/-
  Slices of strings and of lines: what they hold. Condition: a slice takes at most 2^47 bytes (the form says so).
  strings.Cut and strings.CutPrefix at a separator of one byte; package macro's cutReference. Condition: strings of at most 2^63 - 1 bytes.
  The library's strings.Builder, Cut, CutPrefix as the shelf has them. Condition: lengths below 2^47.
  Package macro's eachPart with two functions that keep some relation J on what has been read. Condition: the string has at most 2^32 bytes.
  Package macro's Uses. Condition: the string has at most 2^32 bytes.
  slices.ContainsFunc at strings, whatever the test; package macro's hasAll. No condition.
-/
import Derived.Test.YtebjofffijnihaaGreatDoorGc2MPl
import Derived.Test.YtebjofffijnihaaGreatDoorGc1Ls
import Derived.Test.YtebjofffijnihaaGreatDoorShelf
import Derived.Test.YtebjofffijnihaaGreatDoorRows
import Derived.WalkKit
import Derived.ProofKit
import Derived.OpenShut
import Derived.Handy
import Derived.BigQuiet
import Derived.Deep.QuietTactic
import Derived.Lib.Hide
import Derived.WalkLawsBesides
import Derived.Laws.Externs
import Derived.SizedLaws
import Derived.SliceStrings
import Derived.Deep.Slices
import Derived.OwnWalk
import Derived.Deep.AppendLies
import Derived.Laws.OwnMore
import Derived.Shelf.Abstract
import Derived.WalkSpells
import Derived.Lib.OwnBridge
import Derived.Lib.AppendIntMem
import Derived.Sort.Walk0
import Derived.Sort.EncStr
import Derived.OneCell
namespace Go.Proofs.YtebjofffijnihaaGreatDoor
set_option maxRecDepth 100000
open Go.ChangeShapes Go.WideShapes Go.ChangeAt Go.RowKit

/-- the cells of a line -/
def encLn (x : Ln) : List Value := [.int .i64 x.1, .string (bs x.2)]
def lnCells (z : List Ln) : List Value := z.flatMap encLn
theorem lnCells_length (z : List Ln) : (lnCells z).length = z.length * 2 := by
  induction z with
  | nil => rfl
  | cons x r ih => simp [lnCells, encLn] at ih ⊢; omega
theorem lnCells_snoc (z : List Ln) (x : Ln) : lnCells (z ++ [x]) = lnCells z ++ [.int .i64 x.1, .string (bs x.2)] := by simp [lnCells, encLn]
theorem lnCells_append (y z : List Ln) : lnCells (y ++ z) = lnCells y ++ lnCells z := by simp [lnCells]
theorem lnCells_at : ∀ (z : List Ln) (k : Nat) (x : Ln), z[k]? = some x → (lnCells z)[k * 2]? = some (.int .i64 x.1) ∧ (lnCells z)[k * 2 + 1]? = some (.string (bs x.2))
  | [], k, x, h => by simp at h
  | y :: t, 0, x, h => by
    simp at h
    subst h
    simp [lnCells, encLn]
  | y :: t, k + 1, x, h => by
    have ih := lnCells_at t k x (by simpa using h)
    have e : lnCells (y :: t) = .int .i64 y.1 :: .string (bs y.2) :: lnCells t := by simp [lnCells, encLn]
    rw [e, show (k + 1) * 2 = k * 2 + 1 + 1 by omega, show k * 2 + 1 + 1 + 1 = (k * 2 + 1) + 1 + 1 by omega]
    simpa using ih

/-- a slice that holds the lines z -/
def LIn (w : World) (v : Value) (z : List Ln) : Prop :=
  ∃ a cap, v = .slice a z.length cap ∧ z.length ≤ cap ∧ cap ≤ maxLen ∧ z.length ≤ 8796093022208 ∧
    (z = [] ∨ ∃ b off, a = some ⟨b, off, none⟩ ∧ b < w.heap.size ∧ ∀ k x, z[k]? = some x → w.cell? ⟨b, off + k * 2, none⟩ = some (.int .i64 x.1) ∧ w.cell? ⟨b, off + k * 2 + 1, none⟩ = some (.string (bs x.2)))
theorem LIn.later {w w' : World} {v : Value} {z : List Ln} (h : LIn w v z) (hb : Below w.heap.size w w') : LIn w' v z := by
  obtain ⟨a, cap, h1, h2, h3, h4, h5⟩ := h
  refine ⟨a, cap, h1, h2, h3, h4, ?_⟩
  rcases h5 with h5 | ⟨b, off, h5, h6, h7⟩
  · exact .inl h5
  · exact .inr ⟨b, off, h5, Nat.lt_of_lt_of_le h6 hb.size, fun k x hk => ⟨cell_later hb (h7 k x hk).1, cell_later hb (h7 k x hk).2⟩⟩
theorem LIn.open {w : World} {v : Value} {z : List Ln} (h : LIn w v z) : (z = [] ∧ ∃ a cap, v = .slice a 0 cap) ∨
    (0 < z.length ∧ ∃ b off cap, v = .slice (some ⟨b, off, none⟩) z.length cap ∧ z.length ≤ cap ∧ b < w.heap.size ∧ ∀ k x, z[k]? = some x → w.cell? ⟨b, off + k * 2, none⟩ = some (.int .i64 x.1) ∧ w.cell? ⟨b, off + k * 2 + 1, none⟩ = some (.string (bs x.2))) := by
  obtain ⟨a, cap, rfl, h2, _, _, h5⟩ := h
  by_cases h0 : z = []
  · subst h0; exact .inl ⟨rfl, a, cap, rfl⟩
  · rcases h5 with h5 | ⟨b, off, rfl, h6, h7⟩
    · exact absurd h5 h0
    · exact .inr ⟨List.length_pos_iff.2 h0, b, off, cap, rfl, h2, h6, h7⟩
/-- the library's own variable holds some number -/
def MX (w : World) : Prop := ∃ m, w.cell? ⟨0, 0, none⟩ = some (.int .i64 m)
theorem MX.later {w w' : World} (h : MX w) (hb : Below w.heap.size w w') : MX w' := by obtain ⟨m, hm⟩ := h; exact ⟨m, cell_later hb hm⟩
end Go.Proofs.YtebjofffijnihaaGreatDoor
namespace Go.Proofs.YtebjofffijnihaaGreatDoor
set_option maxRecDepth 100000
set_option linter.unusedVariables false
open Go.ChangeShapes Go.WideShapes Go.ChangeAt Go.RowKit Go.Shelf

theorem bs_take (S : ByteArray) (k : Nat) : S.extract 0 k = bs (S.data.toList.take k) := by
  rw [← bs_of (S.extract 0 k)]
  congr 1
  have := Lib.extract_toList S 0 k
  rw [Lib.toList_data] at this
  rw [List.drop_zero, Nat.sub_zero] at this
  exact this
theorem bs_drop (S : ByteArray) (k : Nat) : S.extract k S.size = bs (S.data.toList.drop k) := by
  rw [← bs_of (S.extract k S.size)]
  congr 1
  have := Lib.extract_toList S k S.size
  rw [Lib.toList_data] at this
  rw [this, List.take_of_length_le]
  rw [List.length_drop, size_list]
  exact Nat.le_refl _
theorem midx_none : ∀ (x : Str) (c : UInt8), c ∉ x → Lib.indexByte x c = -1
  | [], c, _ => rfl
  | b :: l, c, h => by
    have h1 : b ≠ c := fun e => h (by rw [e]; exact List.mem_cons_self)
    rw [Lib.indexByte, midx_none l c (fun e => h (List.mem_cons_of_mem _ e))]
    simp [h1]
theorem midx_some (c : UInt8) (b : Str) : ∀ (a : Str), c ∉ a → Lib.indexByte (a ++ c :: b) c = a.length
  | [], _ => by simp [Lib.indexByte]
  | d :: a, h => by
    have h1 : d ≠ c := fun e => h (by rw [e]; exact List.mem_cons_self)
    rw [List.cons_append, Lib.indexByte, midx_some c b a (fun e => h (List.mem_cons_of_mem _ e))]
    simp [h1]
theorem msplit_at (c : UInt8) : ∀ x : Str, c ∉ x ∨ ∃ a b, x = a ++ c :: b ∧ c ∉ a
  | [] => .inl List.not_mem_nil
  | d :: r => by
    by_cases h : d = c
    · exact .inr ⟨[], r, by rw [h]; rfl, List.not_mem_nil⟩
    · rcases msplit_at c r with h' | ⟨a, b, rfl, h'⟩
      · refine .inl fun e => ?_
        rcases List.mem_cons.1 e with e | e
        · exact h e.symm
        · exact h' e
      · refine .inr ⟨d :: a, b, rfl, fun e => ?_⟩
        rcases List.mem_cons.1 e with e | e
        · exact h e.symm
        · exact h' e

theorem cutS_none (X : ByteArray) (c : UInt8) (w : World) (hi : Lib.indexByte X.data.toList c = -1) :
    Calls Tryz.prog 169 #[.string X, .string ⟨#[c]⟩] w fun e w' => e = .returned (.tuple #[.string X, .string ⟨#[]⟩, .bool false]) ∧ w' = w := by
  go_enter Tryz.func169, Tryz.ntmps169
  go_wp2_with fail
  refine (Tryz.stringslite_Index_one X c _).mono ?_
  rintro e w' ⟨rfl, rfl⟩
  rw [hi]
  clear hi
  go_wp2
  go_ret3
  exact ⟨rfl, rfl⟩
theorem cutS_some (X A B : ByteArray) (c : UInt8) (n : Nat) (w : World) (hn : n + 1 ≤ X.size) (hs : X.size ≤ 9223372036854775807) (hi : Lib.indexByte X.data.toList c = n) (ha : X.extract 0 n = A) (hb : X.extract (n + 1) X.size = B) :
    Calls Tryz.prog 169 #[.string X, .string ⟨#[c]⟩] w fun e w' => e = .returned (.tuple #[.string A, .string B, .bool true]) ∧ Below w.heap.size w w' := by
  go_enter Tryz.func169, Tryz.ntmps169
  go_wp2_with fail
  refine (Tryz.stringslite_Index_one X c _).mono ?_
  rintro e w' ⟨rfl, rfl⟩
  rw [hi]
  clear hi
  have n1 : (decide (0 ≤ (n : Int))) = true := decide_eq_true (by omega)
  have n2 : ((n : Int) + 1).toNat = n + 1 := by omega
  go_wp2
  go_quiet (fail)
  go_wp2
  go_ret3
  exact ⟨rfl, below_drewN (Below.refl _ _) _⟩

/-- what Cut hands back -/
def CutPost (x : Str) (c : UInt8) (w : World) (e : Ending) (w' : World) : Prop :=
  Below w.heap.size w w' ∧ ((c ∉ x ∧ e = .returned (.tuple #[.string (bs x), .string (bs []), .bool false])) ∨ ∃ a b, x = a ++ c :: b ∧ c ∉ a ∧ e = .returned (.tuple #[.string (bs a), .string (bs b), .bool true]))
theorem mcut_any (x : Str) (c : UInt8) (w : World) (hx : x.length ≤ 9223372036854775807) : Calls Tryz.prog 155 #[.string (bs x), .string ⟨#[c]⟩] w (CutPost x c w) := by
  rcases msplit_at c x with h | ⟨a, b, rfl, h⟩
  · have H := Lib.hid h
    have C := Lib.hid (cutS_none (bs x) c w (by rw [bs_list]; exact midx_none x c h))
    clear h hx
    go_enter Tryz.func155, Tryz.ntmps155
    go_wp2_with fail
    refine C.out.mono ?_
    rintro e w' ⟨rfl, rfl⟩
    go_wp2
    go_ret3
    exact ⟨Below.refl _ _, .inl ⟨H.out, rfl⟩⟩
  · have H := Lib.hid h
    have C := Lib.hid (cutS_some (bs (a ++ c :: b)) (bs a) (bs b) c a.length w (by rw [bs_size]; simp) (by rw [bs_size]; exact hx) (by rw [bs_list]; exact midx_some c b a h) (by rw [bs_take, bs_list]; simp) (by rw [bs_drop, bs_list]; congr 1; rw [List.drop_append]; simp))
    clear h hx
    go_enter Tryz.func155, Tryz.ntmps155
    go_wp2_with fail
    refine C.out.mono ?_
    rintro e w' ⟨rfl, hb⟩
    go_wp2
    go_ret3
    exact ⟨hb, .inr ⟨a, b, rfl, H.out, rfl⟩⟩
/-- CutPrefix at one byte -/
theorem pre_any (x : Str) (c : UInt8) (w : World) : Calls Tryz.prog 76 #[.string (bs x), .string ⟨#[c]⟩] w fun e w' => w' = w ∧ (([c].isPrefixOf x = false ∧ e = .returned (.tuple #[.string (bs x), .bool false])) ∨ ∃ r, x = c :: r ∧ e = .returned (.tuple #[.string (bs r), .bool true])) := by
  refine (Tryz.strings_CutPrefix (bs x) ⟨#[c]⟩ w).mono ?_
  rintro e w' ⟨rfl, rfl⟩
  refine ⟨rfl, ?_⟩
  rw [bs_list]
  show _ ∨ _
  cases x with
  | nil => exact .inl ⟨rfl, rfl⟩
  | cons d r =>
    by_cases h : c = d
    · subst h
      refine .inr ⟨r, rfl, ?_⟩
      simp [Lib.trimPrefix, Lib.hasPrefix, List.isPrefixOf, bs]
    · refine .inl ⟨?_, ?_⟩
      · simp [List.isPrefixOf, h]
      · simp [Lib.trimPrefix, Lib.hasPrefix, List.isPrefixOf, bs, h]

/-- what cutReference hands back -/
def RefPost (x : Str) (w : World) (e : Ending) (w' : World) : Prop :=
  Below w.heap.size w w' ∧ ((∃ n r, x = 40 :: (n ++ 41 :: r) ∧ 41 ∉ n ∧ good n = true ∧ e = .returned (.tuple #[.string (bs n), .string (bs r), .bool true])) ∨
    (([36].isPrefixOf x = false → tk (some none) x = none) ∧ ∃ a b, e = .returned (.tuple #[a, b, .bool false])))
set_option maxHeartbeats 1000000 in
theorem ref_any (x : Str) (w : World) (hx : x.length ≤ 9223372036854775807) : Calls Tryz.prog 163 #[.string (bs x)] w (RefPost x w) := by
  have L := Lib.hid hx; clear hx
  go_enter Tryz.func163, Tryz.ntmps163
  go_wp2_with fail
  refine (pre_any x 40 _).mono ?_
  rintro e w1 ⟨rfl, (⟨h1, rfl⟩ | ⟨r, rfl, rfl⟩)⟩
  · have H1 := Lib.hid h1; clear h1
    go_wp2_with fail
    refine (mcut_any x 41 _ L.out).mono ?_
    rintro e w2 ⟨hb, (⟨h2, rfl⟩ | ⟨a, b, rfl, h2, rfl⟩)⟩
    · have HB := Lib.hid hb; clear hb h2
      go_wp2
      go_ret3
      exact ⟨HB.out, .inr ⟨fun g => tk_bad _ g H1.out, _, _, rfl⟩⟩
    · have HB := Lib.hid hb; clear hb h2
      go_wp2
      go_ret3
      exact ⟨HB.out, .inr ⟨fun g => tk_bad _ g H1.out, _, _, rfl⟩⟩
  · have LR : Hid (r.length ≤ 9223372036854775807) := by have := L.out; rw [List.length_cons] at this; show _ ≤ _; omega
    clear L
    go_wp2_with fail
    refine (mcut_any r 41 _ LR.out).mono ?_
    rintro e w2 ⟨hb, (⟨h2, rfl⟩ | ⟨a, b, rfl, h2, rfl⟩)⟩
    · have HB := Lib.hid hb; clear hb
      have H2 := Lib.hid h2; clear h2
      go_wp2
      go_ret3
      exact ⟨HB.out, .inr ⟨fun _ => by rw [tk_par]; exact tk_open _ _ H2.out, _, _, rfl⟩⟩
    · have HB := Lib.hid hb; clear hb
      have H2 := Lib.hid h2; clear h2
      go_wp2_with fail
      refine (check_any (bs a) _ (by rw [bs_size]; have := LR.out; rw [List.length_append] at this; omega)).mono ?_
      rintro e w3 ⟨rfl, rfl⟩
      rw [bs_list]
      cases hg : good a
      · have HG := Lib.hid hg; clear hg
        go_wp2
        go_ret3
        exact ⟨HB.out, .inr ⟨fun _ => by rw [tk_par, tk_in _ _ _ H2.out, List.nil_append, HG.out]; rfl, _, _, rfl⟩⟩
      · have HG := Lib.hid hg; clear hg
        go_wp2
        go_ret3
        exact ⟨HB.out, .inl ⟨a, b, rfl, H2.out, HG.out, rfl⟩⟩
end Go.Proofs.YtebjofffijnihaaGreatDoor
namespace Go.Proofs.YtebjofffijnihaaGreatDoor
set_option maxRecDepth 100000
set_option linter.unusedVariables false
open Go.ChangeShapes Go.WideShapes Go.ChangeAt Go.RowKit Go.Shelf

def ws_ren : Ren := ⟨fun | 166 => 84 | 240 => 111 | 276 => 133 | n => n, fun | 0 => 0 | 3 => 3 | 4 => 4 | 5 => 5 | 9 => 9 | 20 => 20 | 37 => 132 | 70 => 131 | 72 => 134 | 75 => 136 | 80 => 140 | 164 => 184 | 76 => 137 | n => n, fun | n => n⟩
theorem wsL : Go.Proofs.Lays.n166 Tryz.prog ws_ren := {
  mixed := by kernel_rfl
  f166 := Tryz.func84.trans (congrArg some (by kernel_rfl))
  f240 := Tryz.func111.trans (congrArg some (by kernel_rfl))
  f276 := Tryz.func133.trans (congrArg some (by kernel_rfl))
  t0 := Tryz.underlying0
  a0 := Tryz.isAgg0
  z0 := Tryz.sizeOf0
  v0 := Tryz.zeroValue0
  t4 := Tryz.underlying4
  a4 := Tryz.isAgg4
  z4 := Tryz.sizeOf4
  v4 := Tryz.zeroValue4
  t3 := Tryz.underlying3
  a3 := Tryz.isAgg3
  z3 := Tryz.sizeOf3
  v3 := Tryz.zeroValue3
  t9 := Tryz.underlying9
  a9 := Tryz.isAgg9
  z9 := Tryz.sizeOf9
  v9 := Tryz.zeroValue9
  t20 := Tryz.underlying20
  a20 := Tryz.isAgg20
  z20 := Tryz.sizeOf20
  v20 := Tryz.zeroValue20
  t37 := Tryz.underlying132
  a37 := Tryz.isAgg132
  z37 := Tryz.sizeOf132
  v37 := Tryz.zeroValue132
  t70 := Tryz.underlying131
  a70 := Tryz.isAgg131
  z70 := Tryz.sizeOf131
  v70 := Tryz.zeroValue131
  t72 := Tryz.underlying134
  a72 := Tryz.isAgg134
  z72 := Tryz.sizeOf134
  v72 := Tryz.zeroValue134
  t75 := Tryz.underlying136
  a75 := Tryz.isAgg136
  z75 := Tryz.sizeOf136
  v75 := Tryz.zeroValue136
  t164 := Tryz.underlying184
  a164 := Tryz.isAgg184
  z164 := Tryz.sizeOf184
  v164 := Tryz.zeroValue184 }
theorem wsX : Builder.Extra Tryz.prog ws_ren := {
  sizeBuilder := by kernel_rfl
  liesBuilder := by kernel_rfl
  t5 := Tryz.underlying5
  a5 := Tryz.isAgg5
  z5 := Tryz.sizeOf5
  v5 := Tryz.zeroValue5
  infoByte := by kernel_rfl
  cellsByte := by kernel_rfl
  sizeByte := by kernel_rfl
  neB5 := by decide }
/-- a builder of the call's own that holds the bytes l -/
def Bd (B b : Nat) (l : Str) (w : World) : Prop := Lib.IsBuilderF 134 5 B b (Lib.byteCells l) w
theorem bd_new (w : World) : Bd w.heap.size w.heap.size [] (w.alloc (.cells #[.pointer none, .slice none 0 0] 134)) := Lib.IsBuilderF.of (Lib.fresh_isBuilder _ _ w)
theorem Bd.later {B b : Nat} {l : Str} {w w' : World} (h : Bd B b l w) (hb : Below w.heap.size w w') : Bd B b l w' := by
  have key : ∀ {p}, Lib.BuilderAtF 134 5 B b p (Lib.byteCells l) w → Lib.BuilderAtF 134 5 B b p (Lib.byteCells l) w' := by
    rintro p ⟨h1, v, h2, h3, h4⟩
    have lt : ∀ {k o}, w.heap[k]? = some o → k < w.heap.size := fun {k o} h => by
      rcases Nat.lt_or_ge k w.heap.size with h' | h'
      · exact h'
      · simp [Array.getElem?_eq_none h'] at h
    refine ⟨h1, v, (hb.block _ (lt h2)).trans h2, ⟨h3.1, ?_⟩, h4⟩
    rcases h3.2 with h | ⟨g, cap, cur, fz, hv, hbg, hg, rest⟩
    · exact .inl h
    · exact .inr ⟨g, cap, cur, fz, hv, hbg, (hb.block _ (lt hg)).trans hg, rest⟩
  exact h.elim (fun x => .inl (key x)) (fun x => .inr (key x))

theorem wStr (B b : Nat) (l x : Str) (w : World) (h : Bd B b l w) (hlen : l.length + x.length ≤ 140737488355328) (hBw : B ≤ w.heap.size) :
    Calls Tryz.prog 84 #[.pointer (some ⟨b, 0, none⟩), .string (bs x)] w fun e w' => (∃ r, e = .returned r) ∧ Bd B b (l ++ x) w' ∧ Below B w w' := by
  refine (Any.Builder_WriteString_k wsL wsX B b (Lib.byteCells l) (bs x) w h (by rw [Lib.byteCells_length, bs_size]; exact hlen) hBw).mono ?_
  rintro e w' ⟨rfl, h1, h2, _⟩
  refine ⟨⟨_, rfl⟩, .inr ?_, h2⟩
  rw [Lib.byteCells_append, ← bs_list x, ← Lib.strCells_eq]
  exact h1
theorem bStr (B b : Nat) (l : Str) (w : World) (h : Bd B b l w) (hBw : B ≤ w.heap.size) :
    Calls Tryz.prog 86 #[.pointer (some ⟨b, 0, none⟩)] w fun e w' => e = .returned (.string (bs l)) ∧ Below B w w' := by
  refine (Tryz.Builder_String_any_k B b l w h hBw).mono ?_
  rintro e w' ⟨rfl, _, h2, _⟩
  exact ⟨rfl, h2⟩
theorem bLen (B b : Nat) (l : Str) (w : World) (h : Bd B b l w) :
    Calls Tryz.prog 139 #[.pointer (some ⟨b, 0, none⟩)] w fun e w' => e = .returned (.int .i64 (l.length : Int)) ∧ w' = w := by
  refine (Tryz.Builder_Len_f B b (Lib.byteCells l) w h).mono ?_
  rintro e w' ⟨rfl, h2⟩
  rw [Lib.byteCells_length]
  exact ⟨rfl, h2⟩

end Go.Proofs.YtebjofffijnihaaGreatDoor
namespace Go.Proofs.YtebjofffijnihaaGreatDoor
set_option maxRecDepth 100000
set_option linter.unusedVariables false
open Go.ChangeShapes Go.WideShapes Go.ChangeAt Go.RowKit

/-- what a function value of one string does: it reads the tokens f x -/
def Does (F : Nat) (caps : Array Value) (m : Nat) (ok : Str → Prop) (f : Str → List Tok) (J : List Tok → World → Prop) : Prop :=
  ∀ (x : Str) (T : List Tok) (w : World), ok x → T.length + x.length ≤ m → J T w → Calls Tryz.prog F (#[.string (bs x)] ++ caps) w fun e w' => e = .returned (.tuple #[]) ∧ J (T ++ f x) w'
/-- the function has a body -/
def Ent (F : Nat) : Prop := ∀ (args : Array Value) (w : World), Sem.run Tryz.prog (callFunc F args) w = .ok (.enter F args) w
def EachPost (S : Str) (J : List Tok → World → Prop) (e : Ending) (w' : World) : Prop :=
  (∃ T, tk none S = some T ∧ e = .returned (.int .i64 0) ∧ J T w') ∨ (tk none S = none ∧ e = .returned (.int .i64 3) ∧ ∃ T, J T w')
set_option maxHeartbeats 4000000 in
theorem each_any (S : Str) (F1 F2 : Nat) (c1 c2 : Array Value) (J : List Tok → World → Prop) (w : World) (hS : S.length ≤ 4294967296) (e1 : Ent F1) (e2 : Ent F2)
    (hL : ∀ T w w', J T w → Below w.heap.size w w' → J T w') (hp : Does F1 c1 S.length (fun _ => True) (fun x => x.map Sum.inl) J) (hr : Does F2 c2 S.length (fun n => good n = true) (fun n => [Sum.inr n]) J) (h0 : J [] w) :
    Calls Tryz.prog 140 #[.string (bs S), .func (.func F1) #[] c1, .func (.func F2) #[] c2] w (EachPost S J) := by
  have HL := Lib.hid hL; clear hL
  have HP := Lib.hid hp; clear hp
  have HR := Lib.hid hr; clear hr
  have HS := Lib.hid hS; clear hS
  have H0 := Lib.hid h0; clear h0
  have E1 := Lib.hid e1; clear e1
  have E2 := Lib.hid e2; clear e2
  go_enter Tryz.func140, Tryz.ntmps140
  go_wp2_with fail
  go_loopw [0, 15] (fun v _ wr => ∃ (s : Str) (T : List Tok), v = .string (bs s) ∧ T.length + s.length ≤ S.length ∧ J T wr ∧ tk none S = (tk none s).map (T ++ ·)) (fun v _ _ => match v with | .string b => b.size | _ => 0)
  case atStart => exact ⟨S, [], rfl, by simp, H0.out, by cases tk none S <;> simp⟩
  case round =>
    obtain ⟨s, T, rfl, hl, hj, ht⟩ := hrel
    have A1 := Lib.hid hl; clear hl
    have A2 := Lib.hid hj; clear hj
    have A3 := Lib.hid ht; clear ht
    go_wp2_with fail
    refine (mcut_any s 36 _ (by have := A1.out; have := HS.out; omega)).mono ?_
    rintro e w1 ⟨hb, (⟨h2, rfl⟩ | ⟨a, b, rfl, h2, rfl⟩)⟩
    · have J1 := Lib.hid (HL.out _ _ _ A2.out hb); clear hb A2
      have H2 := Lib.hid h2; clear h2
      go_wp2_with fail
      rw [E1.out, Oper.upon_enter]
      refine (HP.out s T _ trivial A1.out J1.out).mono ?_
      rintro e w2 ⟨rfl, j2⟩
      have J2 := Lib.hid j2; clear j2
      go_wp2
      go_ret
      exact .inl ⟨_, by rw [A3.out, tk_flat s H2.out]; rfl, rfl, J2.out⟩
    · have J1 := Lib.hid (HL.out _ _ _ A2.out hb); clear hb A2
      have H2 := Lib.hid h2; clear h2
      have LE : Hid (T.length + a.length + 1 + b.length ≤ S.length) := by have := A1.out; rw [List.length_append, List.length_cons] at this; show _ ≤ _; omega
      have TK : Hid (tk none S = (tk (some none) b).map ((T ++ a.map Sum.inl) ++ ·)) := by
        show _ = _
        rw [A3.out, tk_plain _ a H2.out, tk_dollar]
        cases tk (some none) b <;> simp
      clear A1 A3
      go_wp2_with fail
      rw [E1.out, Oper.upon_enter]
      refine (HP.out a T _ trivial (by have := LE.out; omega) J1.out).mono ?_
      rintro e w2 ⟨rfl, j2⟩
      have J2 := Lib.hid j2; clear j2 J1
      go_wp2_with fail
      refine (pre_any b 36 _).mono ?_
      rintro e w3 ⟨rfl, (⟨h3, rfl⟩ | ⟨r, rfl, rfl⟩)⟩
      · have H3 := Lib.hid h3; clear h3
        go_wp2_with fail
        refine (ref_any b _ (by have := LE.out; have := HS.out; omega)).mono ?_
        rintro e w4 ⟨hb, (⟨n, r, rfl, h4, h5, rfl⟩ | ⟨h4, x, y, rfl⟩)⟩
        · have J3 := Lib.hid (HL.out _ _ _ J2.out hb); clear hb J2
          have H4 := Lib.hid h4; clear h4
          have H5 := Lib.hid h5; clear h5
          have LN : Hid (T.length + a.length + n.length + r.length + 3 ≤ S.length) := by have := LE.out; rw [List.length_cons, List.length_append, List.length_cons] at this; show _ ≤ _; omega
          clear LE
          go_wp2_with fail
          rw [E2.out, Oper.upon_enter]
          refine (HR.out n _ _ H5.out (by rw [List.length_append, List.length_map]; have := LN.out; omega) J3.out).mono ?_
          rintro e w5 ⟨rfl, j4⟩
          have J4 := Lib.hid j4; clear j4 J3
          go_wp2
          go_roundw
          case rel =>
            refine ⟨r, _, rfl, ?_, J4.out, ?_⟩
            · rw [List.length_append, List.length_append, List.length_map, List.length_singleton]; have := LN.out; omega
            · rw [TK.out, tk_par, tk_in _ _ _ H4.out, List.nil_append, if_pos H5.out]
              cases tk none r <;> simp
          case measure => simp only [bs_size]; rw [List.length_append, List.length_cons, List.length_cons, List.length_append, List.length_cons]; omega
        · have J3 := Lib.hid (HL.out _ _ _ J2.out hb); clear hb J2
          have H4 := Lib.hid (h4 H3.out); clear h4
          go_wp2
          go_ret
          exact .inr ⟨by rw [TK.out, H4.out]; rfl, rfl, _, J3.out⟩
      · have LN : Hid (T.length + a.length + r.length + 2 ≤ S.length) := by have := LE.out; rw [List.length_cons] at this; show _ ≤ _; omega
        clear LE
        go_wp2_with fail
        rw [E1.out, Oper.upon_enter]
        refine (HP.out [36] _ _ trivial (by rw [List.length_append, List.length_map, List.length_singleton]; have := LN.out; omega) J2.out).mono ?_
        rintro e w5 ⟨rfl, j4⟩
        have J4 := Lib.hid j4; clear j4 J2
        go_wp2
        go_roundw
        case rel =>
          refine ⟨r, _, rfl, ?_, J4.out, ?_⟩
          · rw [List.length_append, List.length_append, List.length_map, List.map_singleton, List.length_singleton]; have := LN.out; omega
          · rw [TK.out, tk_two]
            cases tk none r <;> simp
        case measure => simp only [bs_size]; rw [List.length_append, List.length_cons, List.length_cons]; omega
end Go.Proofs.YtebjofffijnihaaGreatDoor
namespace Go.Proofs.YtebjofffijnihaaGreatDoor
set_option maxRecDepth 100000
set_option linter.unusedVariables false
open Go.ChangeShapes Go.WideShapes Go.ChangeAt Go.RowKit

def fS (l : List Str) : Str → Option Value := fun s => if l.contains s then some (.bool true) else none
theorem fS_upd (l : List Str) (x : Str) (s : Str) : upd (fS l) x (.bool true) s = fS (l ++ [x]) s := by
  unfold upd fS
  by_cases h : s = x
  · subst h; simp
  · simp [h]
/-- what Uses keeps: the slice, the map, the map's variable -/
structure UJ (n : Nat) (w0 : World) (T : List Tok) (w : World) : Prop where
  hu : ∃ v, w.heap[n]? = some (.cells #[v] 23 (0, 0)) ∧ SO (n + 3) v (dd T) w
  hm : MI (n + 1) T.length (fS (dd T)) w
  hc : w.heap[n + 2]? = some (.cells #[.map (some (n + 1))] 190 (0, 0))
  hb : Below n w0 w
  hz : n + 3 ≤ w.heap.size
  hg : ∀ x ∈ dd T, good x = true
theorem UJ.later {n : Nat} {w0 w w' : World} {T : List Tok} (h : UJ n w0 T w) (hb : Below w.heap.size w w') : UJ n w0 T w' := by
  obtain ⟨v, h1, h2⟩ := h.hu
  have hz := h.hz
  refine ⟨⟨v, (hb.block _ (by omega)).trans h1, ?_⟩, h.hm.later hb, (hb.block _ (by omega)).trans h.hc, h.hb.trans (hb.mono (by omega)), Nat.le_trans h.hz hb.size, h.hg⟩
  refine World.ownsRow.kept (row := none) h2 ⟨hb.os, hb.tape, hb.output, hb.size, fun k hk _ => hb.block k hk⟩ ?_
  cases e : v.ownBlock <;> simp
theorem setCell_size (w : World) (a : Addr) (u : Value) : (w.setCell a u).heap.size = w.heap.size := Array.size_modify
theorem own_shape {w : World} {base size m : Nat} {e : TypeId} {v : Value} {xs : List Value} (h : w.ownsRow base e size v m xs) : ∃ a l c, v = .slice a l c := by
  rcases h.2 with ⟨h, _⟩ | ⟨g, cap, cur, h, _⟩
  · exact ⟨_, _, _, h⟩
  · exact ⟨_, _, _, h⟩
theorem grown_block {w1 w4 : World} {n k : Nat} {o o' : Obj} {v : Value} (h : w1.heap[n]? = some o) (g : (w1.alloc o').grownBy w4 v.ownBlock) (hv : ∀ j, v.ownBlock = some j → k ≤ j) (hn : n < k) : w4.heap[n]? = some o := by
  have hlt := lt_of_block h
  refine (g.block n (by simp; omega) (fun e => ?_)).trans ((Below.heap_alloc w1 o' n hlt).trans h)
  have := hv n e.symm
  omega
theorem ent_u1 : Ent 149 := Tryz.call149
theorem ent_u2 : Ent 150 := Tryz.call150
theorem uses1_does (n m : Nat) (w0 : World) : Does 149 #[] m (fun _ => True) (fun x => x.map Sum.inl) (UJ n w0) := by
  intro x T w _ _ h
  have HJ := Lib.hid h; clear h
  go_enter Tryz.func149, Tryz.ntmps149
  go_wp2
  go_end0
  have h := HJ.out
  exact ⟨rfl, ⟨by rw [dd_bytes]; exact h.hu, by rw [dd_bytes]; exact h.hm.mono (by simp), h.hc, h.hb, h.hz, by rw [dd_bytes]; exact h.hg⟩⟩
set_option maxHeartbeats 2000000 in
set_option maxRecDepth 100000 in
theorem uses2_does (n m : Nat) (w0 : World) (hm : m ≤ 4294967296) : Does 150 #[.pointer (some ⟨n + 2, 0, none⟩), .pointer (some ⟨n, 0, none⟩)] m (fun x => good x = true) (fun x => [Sum.inr x]) (UJ n w0) := by
  intro x T w hx hlen h
  have HJ := Lib.hid h
  have HX := Lib.hid hx
  have xl : x.length ≤ maxLen := by have := (good_len hx).2; unfold maxLen; omega
  obtain ⟨v, c0, own⟩ := h.hu
  have ML := Lib.hid hm
  have TL := Lib.hid hlen
  have cc := cell_of_one h.hc
  by_cases hin : (dd T).contains x = true
  · have l0 := h.hm.look (t := 190) (e := 4) (z := .bool false) (x := x) Tryz.underlying190 (Tryz.zeroValue4 w) xl
    rw [show (fS (dd T) x).getD (.bool false) = .bool true by unfold fS; rw [if_pos hin]; rfl] at l0
    have HI := Lib.hid hin
    clear hin h hx xl c0 own hm hlen
    go_enter Tryz.func150, Tryz.ntmps150
    go_wp2
    go_end0
    have h := HJ.out
    have e : dd (T ++ [Sum.inr x]) = dd T := by rw [dd_snoc, if_pos HI.out]
    exact ⟨rfl, ⟨by rw [e]; exact h.hu, by rw [e]; exact h.hm.mono (by simp), h.hc, h.hb, h.hz, by rw [e]; exact h.hg⟩⟩
  · have l0 := h.hm.look (t := 190) (e := 4) (z := .bool false) (x := x) Tryz.underlying190 (Tryz.zeroValue4 w) xl
    rw [show (fS (dd T) x).getD (.bool false) = .bool false by unfold fS; rw [if_neg hin]; rfl] at l0
    have HI := Lib.hid hin
    obtain ⟨w1, l1, m1, g1, z1⟩ := h.hm.store (t := 190) (e := 4) (x := x) Tryz.underlying190 (by unfold maxLen; omega) xl (.bool true)
    have hz := h.hz
    have b1 : w1.heap[n]? = some (.cells #[v] 23 (0, 0)) := (g1.block n (by omega) (by simp)).trans c0
    have c1 := cell_of_one b1
    have k1 : w1.heap[n + 2]? = some (.cells #[.map (some (n + 1))] 190 (0, 0)) := (g1.block (n + 2) (by omega) (by simp)).trans h.hc
    have LV : Hid (∀ k, v.ownBlock = some k → n + 3 ≤ k) := fun k hk => (own.lt k hk).1
    have O1 : Hid (SO (n + 3) v (dd T) w1) := own.kept g1 (by cases e : v.ownBlock with | none => exact .inl rfl | some k => right; intro h; injection h with h; have := (own.lt k e).1; omega)
    have OA : Hid (∀ o, (w1.alloc o).ownsRow (n + 3) 9 1 v (dd T).length ((dd T).map encStr)) := fun o => O1.out.alloc o
    have SA : Hid (∀ o, n + 3 ≤ (w1.alloc o).heap.size) := fun o => by
      have : (w1.alloc o).heap.size = w1.heap.size + 1 := by simp
      omega
    have DL : Hid ((dd T).length + 1 ≤ 4294967296) := by have h1 := dd_le T; have h2 := (good_len hx).1; show _ ≤ _; omega
    have M1 := Lib.hid m1
    have Z1 := Lib.hid z1
    have B1 := Lib.hid b1
    have K1 := Lib.hid k1
    have BW : Hid (Below n w0 w1) := h.hb.grown g1 (by omega) (fun k hk => by injection hk with hk; omega)
    obtain ⟨i0, hi, hz0, hz1, hz2⟩ := info_parts infoStr
    have IH := Lib.hid hi
    have cc1 := cell_of_one k1
    clear hin h hx xl c0 own hm hlen m1 z1 b1 k1 g1 hz hi
    go_enter Tryz.func150, Tryz.ntmps150
    go_wp2_with (at_builtin; go_must (refine wpList_append_own _ rfl (.tmp 10) (.tmp 12) 23 rfl (n + 3) 9 i0 (.string ByteArray.empty) 1 16 Tryz.underlying23 IH.out hz0 hz1 hz2 rfl (by decide) _ _ _ rfl (OA.out _) ⟨w1.heap.size, 0, none⟩ 1 1 [.string (bs x)] rfl rfl (cell_one' _ _ _) (by intro u hu; simp at hu; rcases hu with rfl; rfl) (by unfold maxLen; have := DL.out; omega) (by have := DL.out; omega) (SA.out _) ?_; intro v4 w4 q1 q2 q3; obtain ⟨a4, n4, cp4, rfl⟩ := own_shape q1; have O4 := Lib.hid q1; have G4 := Lib.hid q2; have b4 : w4.heap[n]? = some (.cells #[v] 23 (0, 0)) := grown_block B1.out q2 LV.out (by omega); have c4 := cell_of_one b4; have f4 := free_of_one b4; have B4 := Lib.hid b4; clear q1 q2 q3 b4))
    go_end0
    have h := HJ.out
    have e : dd (T ++ [Sum.inr x]) = dd T ++ [x] := by rw [dd_snoc, if_neg HI.out]
    have hb : ∀ j, (Value.slice a4 n4 cp4).ownBlock = some j → n + 3 ≤ j := fun j hj => (O4.out.lt j hj).1
    refine ⟨rfl, ⟨⟨_, one_setCell B4.out, ?_⟩, ?_, ?_, ?_, ?_, ?_⟩⟩
    · rw [e]
      exact ownsRow_setCell_other (SO.snoc O4.out) (fun hh => by have := hb _ hh; simp at this; omega) _
    · rw [e, List.length_append]
      refine MI.setCell (MI.congr ?_ (fS_upd (dd T) x)) (by simp) _
      exact (M1.out.alloc _).grown G4.out (fun hh => by have := LV.out _ hh.symm; omega)
    · exact (Below.heap_setCell _ _ _ _ (by simp)).trans (grown_block K1.out G4.out LV.out (by omega))
    · exact ((BW.out.alloc (by have := Z1.out; have := h.hz; omega) _).grown G4.out (by have := SA.out (.cells #[.string (bs x)] 9); omega) (fun k hk => by have := LV.out k hk; omega)).setCell (by simp) _
    · have h1 := G4.out.size
      have h2 := SA.out (.cells #[.string (bs x)] 9)
      show n + 3 ≤ _
      rw [setCell_size]
      omega
    · rw [e]
      intro y hy
      rcases List.mem_append.1 hy with hy | hy
      · exact h.hg y hy
      · rw [List.mem_singleton.1 hy]; exact HX.out

theorem uj_start (w : World) : UJ w.heap.size w [] (((w.alloc (.cells #[.slice none 0 0] 23)).alloc (.map #[] 0)).alloc (.cells #[.map (some (w.heap.size + 1))] 190)) := by
  obtain ⟨w1, e1⟩ : ∃ w1, w1 = w.alloc (.cells #[.slice none 0 0] 23) := ⟨_, rfl⟩
  have s1 : w1.heap.size = w.heap.size + 1 := by rw [e1]; simp
  have a1 : w1.heap[w.heap.size]? = some (.cells #[.slice none 0 0] 23 (0, 0)) := by rw [e1]; exact heap_alloc_new _ _
  have b1 : Below w.heap.size w w1 := by rw [e1]; exact (Below.refl _ _).alloc (Nat.le_refl _) _
  rw [← e1]
  obtain ⟨w2, e2⟩ : ∃ w2, w2 = w1.alloc (.map #[] 0) := ⟨_, rfl⟩
  have s2 : w2.heap.size = w.heap.size + 2 := by rw [e2]; simp; omega
  have a2 : w2.heap[w.heap.size]? = some (.cells #[.slice none 0 0] 23 (0, 0)) := by rw [e2]; exact (Below.heap_alloc _ _ _ (by omega)).trans a1
  have b2 : Below w.heap.size w w2 := by rw [e2]; exact b1.alloc (by omega) _
  have m2 : MI (w.heap.size + 1) 0 (fun _ => none) w2 := by rw [e2, ← s1]; exact MI.made _
  rw [← e2]
  refine ⟨⟨_, (Below.heap_alloc _ _ _ (by omega)).trans a2, World.ownsRow_nil _ _ _ _⟩, (m2.alloc _).congr (fun s => rfl), ?_, b2.alloc (by omega) _, by simp; omega, fun x hx => absurd hx List.not_mem_nil⟩
  rw [← s2]
  exact heap_alloc_new _ _
theorem tk_len : ∀ (s : Str) (m : Option (Option Str)) (T : List Tok), tk m s = some T → T.length ≤ s.length
  | [], none, T, h => by simp only [tk, Option.some.injEq] at h; subst h; simp
  | [], some _, T, h => by simp [tk] at h
  | c :: r, none, T, h => by
    simp only [tk] at h
    split at h
    · have := tk_len r _ _ h; simp; omega
    · cases hr : tk none r with
      | none => rw [hr] at h; cases h
      | some x => rw [hr] at h; cases h; have := tk_len r _ _ hr; simp; omega
  | c :: r, some none, T, h => by
    simp only [tk] at h
    split at h
    · cases hr : tk none r with
      | none => rw [hr] at h; cases h
      | some x => rw [hr] at h; cases h; have := tk_len r _ _ hr; simp; omega
    · split at h
      · have := tk_len r _ _ h; simp; omega
      · cases h
  | c :: r, some (some a), T, h => by
    simp only [tk] at h
    split at h
    · split at h
      · cases hr : tk none r with
        | none => rw [hr] at h; cases h
        | some x => rw [hr] at h; cases h; have := tk_len r _ _ hr; simp; omega
      · cases h
    · have := tk_len r _ _ h; simp; omega
/-- what Uses hands back -/
def UPost (s : Str) (w : World) (e : Ending) (w' : World) : Prop :=
  Below w.heap.size w w' ∧ ((∃ T v, tk none s = some T ∧ e = .returned (.tuple #[v, .int .i64 0]) ∧ SIn w' v (dd T) ∧ ∀ x ∈ dd T, good x = true) ∨ (tk none s = none ∧ e = .returned (.tuple #[.slice none 0 0, .int .i64 3])))
set_option maxHeartbeats 2000000 in
set_option maxRecDepth 100000 in
theorem uses_any (s : Str) (w : World) (hs : s.length ≤ 4294967296) : Calls Tryz.prog 117 #[.string (bs s)] w (UPost s w) := by
  have HS := Lib.hid hs; clear hs
  have hmm := @run_makeMap Tryz.prog
  have J0 := Lib.hid (uj_start w)
  go_enter Tryz.func117, Tryz.ntmps117
  go_wp2_with fail
  refine (each_any s _ _ _ _ (UJ w.heap.size w) _ HS.out ent_u1 ent_u2 (fun _ _ _ => UJ.later) (uses1_does _ _ _) (uses2_does _ _ _ HS.out) J0.out).mono ?_
  rintro e w1 (⟨T, h1, rfl, h2⟩ | ⟨h1, rfl, T, h2⟩)
  · obtain ⟨v, b1, o1⟩ := h2.hu
    have c1 := cell_of_one b1
    have H1 := Lib.hid h1
    have H2 := Lib.hid h2
    have TL := Lib.hid (tk_len _ _ _ h1)
    have O1 := Lib.hid o1
    clear h1 h2 b1 o1 hmm
    go_wp2
    go_ret2
    have g := H2.out.hg
    have l1 := dd_le T
    have l2 := TL.out
    have l3 := HS.out
    exact ⟨H2.out.hb, .inl ⟨T, v, H1.out, rfl, SIn.own O1.out (by omega) (fun x hx => by have := (good_len (g x hx)).2; omega), g⟩⟩
  · have H1 := Lib.hid h1
    have H2 := Lib.hid h2.hb
    clear h1 h2 hmm
    go_wp2
    go_ret2
    exact ⟨H2.out, .inr ⟨H1.out, rfl⟩⟩
end Go.Proofs.YtebjofffijnihaaGreatDoor
namespace Go.Proofs.YtebjofffijnihaaGreatDoor
set_option maxRecDepth 100000
set_option linter.unusedVariables false
open Go.ChangeShapes Go.WideShapes Go.ChangeAt Go.RowKit

/-- a function value that tests a string -/
def Tests (F : Nat) (caps : Array Value) (t : Str → Bool) (z : List Str) (w : World) : Prop :=
  ∀ x ∈ z, Calls Tryz.prog F (#[.string (bs x)] ++ caps) w fun e w' => e = .returned (.bool (t x)) ∧ w' = w
set_option maxHeartbeats 1000000 in
theorem index_any (F : Nat) (caps : Array Value) (t : Str → Bool) (z : List Str) (v : Value) (w : World) (h : SIn w v z) (eF : Ent F) (ht : Tests F caps t z w) :
    Calls Tryz.prog 168 #[v, .func (.func F) #[] caps] w fun e w' =>
      ((e = .returned (.int .i64 (-1)) ∧ z.any t = false) ∨ ((∃ k : Nat, e = .returned (.int .i64 (k : Int))) ∧ z.any t = true)) ∧ w' = w := by
  have HL := Lib.hid h.bound
  have HT := Lib.hid ht; clear ht
  have EF := Lib.hid eF; clear eF
  rcases h.open with ⟨rfl, a, cap, rfl⟩ | ⟨hp, b, off, cap, rfl, hcap, hlt, hc⟩
  · clear h
    go_enter Tryz.func168, Tryz.ntmps168
    go_wp2_with fail
    go_rounds 1
    go_ret
    exact ⟨.inl ⟨rfl, rfl⟩, rfl⟩
  · have HC := Lib.hid hc; clear hc h hlt
    go_enter Tryz.func168, Tryz.ntmps168
    go_wp2_with fail
    go_loopw [8] (fun i wr => ∃ k : Nat, k ≤ z.length ∧ i = .int .i64 k ∧ (z.take k).any t = false ∧ wr = w) (fun i _ => z.length - (intOf i).toNat)
    case atStart => exact ⟨0, by omega, rfl, by simp, rfl⟩
    case round =>
      obtain ⟨k, hk, rfl, ha, rfl⟩ := hrel
      have HA := Lib.hid ha; clear ha
      by_cases hkl : k < z.length
      · have c1 := HC.out k hkl
        have hz := HL.out
        have hm : z.getD k [] ∈ z := by rw [List.getD, List.getElem?_eq_getElem hkl]; exact List.getElem_mem hkl
        have T1 := Lib.hid (HT.out _ hm)
        have e1 : Hid ((z.take (k + 1)).any t = ((z.take k).any t || t (z.getD k []))) := by
          show _ = _
          rw [List.take_add_one, List.getElem?_eq_getElem hkl, List.any_append, List.getD, List.getElem?_eq_getElem hkl]; simp
        have M1 := Lib.hid hm; clear hm
        generalize z.getD k [] = x at *
        go_wp2_with fail
        rw [EF.out, Oper.upon_enter]
        refine T1.out.mono ?_
        rintro e w' ⟨rfl, rfl⟩
        cases ho : t x
        · have HO := Lib.hid ho; clear ho
          go_wp2
          go_roundw
          case rel => exact ⟨k + 1, by omega, by go_num, by rw [e1.out, HA.out, HO.out]; rfl, trivial⟩
          case measure => simp [intOf]; omega
        · have HO := Lib.hid ho; clear ho
          go_wp2
          go_ret
          exact ⟨.inr ⟨⟨k, rfl⟩, List.any_eq_true.2 ⟨x, M1.out, HO.out⟩⟩, rfl⟩
      · obtain rfl : k = z.length := by omega
        go_wp2
        go_ret
        have := HA.out
        rw [List.take_length] at this
        exact ⟨.inl ⟨rfl, this⟩, rfl⟩
theorem contains_any (F : Nat) (caps : Array Value) (t : Str → Bool) (z : List Str) (v : Value) (w : World) (h : SIn w v z) (eF : Ent F) (ht : Tests F caps t z w) :
    Calls Tryz.prog 151 #[v, .func (.func F) #[] caps] w fun e w' => e = .returned (.bool (z.any t)) ∧ w' = w := by
  have H := Lib.hid (index_any F caps t z v w h eF ht)
  clear h eF ht
  go_enter Tryz.func151, Tryz.ntmps151
  go_wp2_with fail
  refine H.out.mono ?_
  rintro e w' ⟨(⟨rfl, hz⟩ | ⟨⟨k, rfl⟩, hz⟩), rfl⟩
  · have HZ := Lib.hid hz; clear hz
    go_wp2
    go_ret
    exact ⟨by rw [HZ.out]; rfl, rfl⟩
  · have HZ := Lib.hid hz; clear hz
    have t : decide (0 ≤ (k : Int)) = true := decide_eq_true (by omega)
    go_wp2
    go_ret
    exact ⟨by rw [HZ.out]; rfl, rfl⟩
theorem any_not (f : Str → Option Value) : ∀ z : List Str, (!(z.any fun x => !(f x).isSome)) = z.all fun x => (f x).isSome
  | [] => rfl
  | x :: r => by rw [List.any_cons, List.all_cons, ← any_not f r]; cases (f x).isSome <;> simp
theorem has1_s (x : Str) (b n k : Nat) (f : Str → Option Value) (w : World) (hm : MI b n f w) (hx : x.length ≤ maxLen) (hk : w.heap[k]? = some (.cells #[.map (some b)] 142 (0, 0))) :
    Calls Tryz.prog 152 (#[.string (bs x)] ++ #[.pointer (some ⟨k, 0, none⟩)]) w fun e w' => e = .returned (.bool (!(f x).isSome)) ∧ w' = w := by
  have c := cell_of_one hk
  have l := hm.look_ok (t := 142) (e := 9) (z := (.string ByteArray.empty)) (x := x) Tryz.underlying142 (Tryz.zeroValue9 w) hx
  clear hm hx hk
  generalize (f x).isSome = b at *
  generalize (f x).getD (.string ByteArray.empty) = y at *
  go_enter Tryz.func152, Tryz.ntmps152
  go_wp2
  go_ret
  exact ⟨rfl, rfl⟩
theorem has_s (z : List Str) (v : Value) (b n : Nat) (f : Str → Option Value) (w : World) (hm : MI b n f w) (hv : SIn w v z) (hx : ∀ x ∈ z, x.length ≤ maxLen) :
    Calls Tryz.prog 118 #[.map (some b), v] w fun e w' => e = .returned (.bool (z.all fun x => (f x).isSome)) ∧ Below w.heap.size w w' := by
  have C := Lib.hid (contains_any 152 #[.pointer (some ⟨w.heap.size, 0, none⟩)] (fun x => !(f x).isSome) z v (w.alloc (.cells #[.map (some b)] 142)) (hv.later ((Below.refl _ _).alloc (Nat.le_refl _) _)) Tryz.call152
    (fun x hz => has1_s x b n _ f _ (hm.alloc _) (hx x hz) (heap_alloc_new _ _)))
  clear hm hv hx
  go_enter Tryz.func118, Tryz.ntmps118
  go_wp2_with fail
  refine C.out.mono ?_
  rintro e w' ⟨rfl, rfl⟩
  have AN := Lib.hid (any_not f z)
  generalize (z.any fun x => !(f x).isSome) = q at *
  go_wp2
  go_ret
  exact ⟨by rw [← AN.out]; rfl, (Below.refl _ _).alloc (Nat.le_refl _) _⟩
theorem has1_l (x : Str) (b n k : Nat) (f : Str → Option Value) (w : World) (hm : MI b n f w) (hx : x.length ≤ maxLen) (hk : w.heap[k]? = some (.cells #[.map (some b)] 70 (0, 0))) :
    Calls Tryz.prog 161 (#[.string (bs x)] ++ #[.pointer (some ⟨k, 0, none⟩)]) w fun e w' => e = .returned (.bool (!(f x).isSome)) ∧ w' = w := by
  have c := cell_of_one hk
  have l := hm.look_ok (t := 70) (e := 23) (z := (.slice none 0 0)) (x := x) Tryz.underlying70 (Tryz.zeroValue23 w) hx
  clear hm hx hk
  generalize (f x).isSome = b at *
  generalize (f x).getD (.slice none 0 0) = y at *
  go_enter Tryz.func161, Tryz.ntmps161
  go_wp2
  go_ret
  exact ⟨rfl, rfl⟩
theorem has_l (z : List Str) (v : Value) (b n : Nat) (f : Str → Option Value) (w : World) (hm : MI b n f w) (hv : SIn w v z) (hx : ∀ x ∈ z, x.length ≤ maxLen) :
    Calls Tryz.prog 136 #[.map (some b), v] w fun e w' => e = .returned (.bool (z.all fun x => (f x).isSome)) ∧ Below w.heap.size w w' := by
  have C := Lib.hid (contains_any 161 #[.pointer (some ⟨w.heap.size, 0, none⟩)] (fun x => !(f x).isSome) z v (w.alloc (.cells #[.map (some b)] 70)) (hv.later ((Below.refl _ _).alloc (Nat.le_refl _) _)) Tryz.call161
    (fun x hz => has1_l x b n _ f _ (hm.alloc _) (hx x hz) (heap_alloc_new _ _)))
  clear hm hv hx
  go_enter Tryz.func136, Tryz.ntmps136
  go_wp2_with fail
  refine C.out.mono ?_
  rintro e w' ⟨rfl, rfl⟩
  have AN := Lib.hid (any_not f z)
  generalize (z.any fun x => !(f x).isSome) = q at *
  go_wp2
  go_ret
  exact ⟨by rw [← AN.out]; rfl, (Below.refl _ _).alloc (Nat.le_refl _) _⟩
theorem has1_b (x : Str) (b n k : Nat) (f : Str → Option Value) (w : World) (hm : MI b n f w) (hx : x.length ≤ maxLen) (hk : w.heap[k]? = some (.cells #[.map (some b)] 190 (0, 0))) :
    Calls Tryz.prog 162 (#[.string (bs x)] ++ #[.pointer (some ⟨k, 0, none⟩)]) w fun e w' => e = .returned (.bool (!(f x).isSome)) ∧ w' = w := by
  have c := cell_of_one hk
  have l := hm.look_ok (t := 190) (e := 4) (z := (.bool false)) (x := x) Tryz.underlying190 (Tryz.zeroValue4 w) hx
  clear hm hx hk
  generalize (f x).isSome = b at *
  generalize (f x).getD (.bool false) = y at *
  go_enter Tryz.func162, Tryz.ntmps162
  go_wp2
  go_ret
  exact ⟨rfl, rfl⟩
theorem has_b (z : List Str) (v : Value) (b n : Nat) (f : Str → Option Value) (w : World) (hm : MI b n f w) (hv : SIn w v z) (hx : ∀ x ∈ z, x.length ≤ maxLen) :
    Calls Tryz.prog 137 #[.map (some b), v] w fun e w' => e = .returned (.bool (z.all fun x => (f x).isSome)) ∧ Below w.heap.size w w' := by
  have C := Lib.hid (contains_any 162 #[.pointer (some ⟨w.heap.size, 0, none⟩)] (fun x => !(f x).isSome) z v (w.alloc (.cells #[.map (some b)] 190)) (hv.later ((Below.refl _ _).alloc (Nat.le_refl _) _)) Tryz.call162
    (fun x hz => has1_b x b n _ f _ (hm.alloc _) (hx x hz) (heap_alloc_new _ _)))
  clear hm hv hx
  go_enter Tryz.func137, Tryz.ntmps137
  go_wp2_with fail
  refine C.out.mono ?_
  rintro e w' ⟨rfl, rfl⟩
  have AN := Lib.hid (any_not f z)
  generalize (z.any fun x => !(f x).isSome) = q at *
  go_wp2
  go_ret
  exact ⟨by rw [← AN.out]; rfl, (Below.refl _ _).alloc (Nat.le_refl _) _⟩
end Go.Proofs.YtebjofffijnihaaGreatDoor
