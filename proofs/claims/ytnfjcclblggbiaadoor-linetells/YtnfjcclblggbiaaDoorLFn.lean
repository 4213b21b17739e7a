/-
  The library's functions that package line calls, as their contracts say: Builder, Trim, TrimLeft, TrimRight, CutSuffix, TrimSuffix, Split, ReplaceAll. Condition: the strings are shorter than 2^32 bytes.
-/
import Derived.Test.YtnfjcclblggbiaaDoorLIn
import Derived.Shelf.Strings.SlTrimAscii
namespace Go.Proofs.YtnfjcclblggbiaaDoor
open Go.ChangeShapes Go.WideShapes Go.ChangeAt Go.RowKit Go.Shelf

def wb_ren : Ren := ⟨fun | 167 => 38 | 166 => 35 | 240 => 63 | 276 => 80 | n => n, fun | 0 => 0 | 3 => 3 | 4 => 4 | 5 => 5 | 9 => 9 | 20 => 20 | 37 => 54 | 70 => 53 | 72 => 56 | 75 => 58 | 80 => 64 | 164 => 96 | 76 => 59 | n => n, fun | n => n⟩
theorem wbL : Go.Proofs.Lays.n167 Tryd.prog wb_ren := {
  mixed := by kernel_rfl
  f167 := Tryd.func38.trans (congrArg some (by kernel_rfl))
  f240 := Tryd.func63.trans (congrArg some (by kernel_rfl))
  f276 := Tryd.func80.trans (congrArg some (by kernel_rfl))
  t0 := Tryd.underlying0
  a0 := Tryd.isAgg0
  z0 := Tryd.sizeOf0
  v0 := Tryd.zeroValue0
  t4 := Tryd.underlying4
  a4 := Tryd.isAgg4
  z4 := Tryd.sizeOf4
  v4 := Tryd.zeroValue4
  t5 := Tryd.underlying5
  a5 := Tryd.isAgg5
  z5 := Tryd.sizeOf5
  v5 := Tryd.zeroValue5
  t9 := Tryd.underlying9
  a9 := Tryd.isAgg9
  z9 := Tryd.sizeOf9
  v9 := Tryd.zeroValue9
  t20 := Tryd.underlying20
  a20 := Tryd.isAgg20
  z20 := Tryd.sizeOf20
  v20 := Tryd.zeroValue20
  t37 := Tryd.underlying54
  a37 := Tryd.isAgg54
  z37 := Tryd.sizeOf54
  v37 := Tryd.zeroValue54
  t70 := Tryd.underlying53
  a70 := Tryd.isAgg53
  z70 := Tryd.sizeOf53
  v70 := Tryd.zeroValue53
  t72 := Tryd.underlying56
  a72 := Tryd.isAgg56
  z72 := Tryd.sizeOf56
  v72 := Tryd.zeroValue56
  t75 := Tryd.underlying58
  a75 := Tryd.isAgg58
  z75 := Tryd.sizeOf58
  v75 := Tryd.zeroValue58
  t164 := Tryd.underlying96
  a164 := Tryd.isAgg96
  z164 := Tryd.sizeOf96
  v164 := Tryd.zeroValue96 }
theorem wbX : Builder.Extra Tryd.prog wb_ren := {
  sizeBuilder := by kernel_rfl
  liesBuilder := by kernel_rfl
  t5 := Tryd.underlying5
  a5 := Tryd.isAgg5
  z5 := Tryd.sizeOf5
  v5 := Tryd.zeroValue5
  infoByte := by kernel_rfl
  cellsByte := by kernel_rfl
  sizeByte := by kernel_rfl
  neB5 := by decide }
theorem wsL : Go.Proofs.Lays.n166 Tryd.prog Tryd.lays155_ren := { Tryd.lays155 with }

/-- a builder of the call's own that holds the bytes l -/
def Bd (B b : Nat) (l : Str) (w : World) : Prop := Lib.IsBuilderF 56 5 B b (Lib.byteCells l) w
theorem bd_new (w : World) : Bd w.heap.size w.heap.size [] (w.alloc (.cells #[.pointer none, .slice none 0 0] 56)) := Lib.IsBuilderF.of (Lib.fresh_isBuilder _ _ w)
theorem Bd.later {B b : Nat} {l : Str} {w w' : World} (h : Bd B b l w) (hb : Below w.heap.size w w') : Bd B b l w' := by
  have key : ∀ {p}, Lib.BuilderAtF 56 5 B b p (Lib.byteCells l) w → Lib.BuilderAtF 56 5 B b p (Lib.byteCells l) w' := by
    rintro p ⟨h1, v, h2, h3, h4⟩
    have lt : ∀ {k o}, w.heap[k]? = some o → k < w.heap.size := fun {k o} h => by
      rcases Nat.lt_or_ge k w.heap.size with h' | h'
      · exact h'
      · simp [Array.getElem?_eq_none h'] at h
    refine ⟨h1, v, (hb.block _ (lt h2)).trans h2, ⟨h3.1, ?_⟩, h4⟩
    rcases h3.2 with h | ⟨g, cap, cur, fz, hv, hbg, hg, rest⟩
    · exact .inl h
    · exact .inr ⟨g, cap, cur, fz, hv, hbg, (hb.block _ (lt hg)).trans hg, rest⟩
  exact h.elim (fun x => .inl (key x)) (fun x => .inr (key x))

theorem wByte (B b : Nat) (l : Str) (c : UInt8) (C : Int) (hC : C = c.toNat) (w : World) (h : Bd B b l w) (hlen : l.length + 1 ≤ 140737488355328) (hBw : B ≤ w.heap.size) :
    Calls Tryd.prog 38 #[.pointer (some ⟨b, 0, none⟩), .int .u8 C] w fun e w' => e = .returned .nilIface ∧ Bd B b (l ++ [c]) w' ∧ Below B w w' := by
  subst hC
  refine (Any.Builder_WriteByte_k wbL wbX B b (Lib.byteCells l) c.toNat w h (by rw [Lib.byteCells_length]; exact hlen) hBw).mono ?_
  rintro e w' ⟨rfl, h1, h2, _⟩
  refine ⟨rfl, .inr ?_, h2⟩
  rw [Lib.byteCells_append]
  exact h1
theorem wStr (B b : Nat) (l x : Str) (w : World) (h : Bd B b l w) (hlen : l.length + x.length ≤ 140737488355328) (hBw : B ≤ w.heap.size) :
    Calls Tryd.prog 35 #[.pointer (some ⟨b, 0, none⟩), .string (bs x)] w fun e w' => (∃ r, e = .returned r) ∧ Bd B b (l ++ x) w' ∧ Below B w w' := by
  refine (Any.Builder_WriteString_k wsL Tryd.Builder_Extra_155 B b (Lib.byteCells l) (bs x) w h (by rw [Lib.byteCells_length, bs_size]; exact hlen) hBw).mono ?_
  rintro e w' ⟨rfl, h1, h2, _⟩
  refine ⟨⟨_, rfl⟩, .inr ?_, h2⟩
  rw [Lib.byteCells_append, ← bs_list x, ← Lib.strCells_eq]
  exact h1
theorem bStr (B b : Nat) (l : Str) (w : World) (h : Bd B b l w) (hBw : B ≤ w.heap.size) :
    Calls Tryd.prog 40 #[.pointer (some ⟨b, 0, none⟩)] w fun e w' => e = .returned (.string (bs l)) ∧ Below B w w' := by
  refine (Tryd.Builder_String_any_k B b l w h hBw).mono ?_
  rintro e w' ⟨rfl, _, h2, _⟩
  exact ⟨rfl, h2⟩
theorem bLen (B b : Nat) (l : Str) (w : World) (h : Bd B b l w) :
    Calls Tryd.prog 39 #[.pointer (some ⟨b, 0, none⟩)] w fun e w' => e = .returned (.int .i64 (l.length : Int)) ∧ w' = w := by
  refine (Tryd.Builder_Len_f B b (Lib.byteCells l) w h).mono ?_
  rintro e w' ⟨rfl, h2⟩
  rw [Lib.byteCells_length]
  exact ⟨rfl, h2⟩

theorem ascii2 : ∀ (j : Nat) (b : UInt8), ([32, 9] : List UInt8)[j]? = some b → b.toNat < 128 := ascii_of_all (by decide)
theorem trimL_any (x : Str) (w : World) : Calls Tryd.prog 58 #[.string (bs x), .string (ByteArray.mk #[32, 9])] w fun e w' => e = .returned (.string (bs (triml x))) ∧ Below w.heap.size w w' := by
  refine (Any.strings_TrimLeft_laid Tryd.lays161 (by kernel_rfl) (bs x) ⟨#[32, 9]⟩ w (by decide) ascii2).mono ?_
  rintro e w' ⟨rfl, h⟩
  exact ⟨ret_s (triml_lib x), h⟩
theorem trimR_any (x : Str) (w : World) (hx : x.length ≤ 9223372036854775807) : Calls Tryd.prog 60 #[.string (bs x), .string (ByteArray.mk #[32, 9])] w fun e w' => e = .returned (.string (bs (trimr x))) ∧ Below w.heap.size w w' := by
  refine (Any.strings_TrimRight_laid Tryd.lays162 (by kernel_rfl) (bs x) ⟨#[32, 9]⟩ w (by rw [bs_size]; exact hx) (by decide) ascii2).mono ?_
  rintro e w' ⟨rfl, h⟩
  exact ⟨ret_s (trimr_lib x), h⟩
theorem trim_any (x : Str) (w : World) (hx : x.length ≤ 9223372036854775807) : Calls Tryd.prog 23 #[.string (bs x), .string (ByteArray.mk #[32, 9])] w fun e w' => e = .returned (.string (bs (triml (trimr x)))) ∧ Below w.heap.size w w' := by
  refine (Any.strings_Trim_laid Tryd.lays160 (by kernel_rfl) (bs x) ⟨#[32, 9]⟩ w (by rw [bs_size]; exact hx) (by decide) ascii2).mono ?_
  rintro e w' ⟨rfl, h⟩
  exact ⟨ret_s (trim_lib x), h⟩
theorem cut_any (x : Str) (w : World) (hx : x.length ≤ 9223372036854775807) : Calls Tryd.prog 59 #[.string (bs x), .string (ByteArray.mk #[92])] w fun e w' => e = .returned (.tuple #[.string (bs (if ends92 x then x.dropLast else x)), .bool (ends92 x)]) ∧ w' = w := by
  refine (Tryd.strings_CutSuffix (bs x) ⟨#[92]⟩ w (by rw [bs_size]; exact hx)).mono ?_
  rintro e w' ⟨rfl, h⟩
  refine ⟨?_, h⟩
  show Ending.returned (.tuple #[.string ⟨(Lib.trimSuffix x [92]).toArray⟩, .bool (Lib.hasSuffix x [92])]) = _
  rw [trimSuffix_lib, ends_lib]
  rfl
theorem replEsc (x : Str) (w : World) (hx : x.length < 4294967281) (hm : MX w) : Calls Tryd.prog 61 #[.string (bs x), .string (ByteArray.mk #[92, 35]), .string (ByteArray.mk #[35])] w fun e w' => e = .returned (.string (bs (repl x))) ∧ Below w.heap.size w w' := by
  obtain ⟨m, hm⟩ := hm
  have hc := Lib.countB_mul_le ⟨#[92, 35]⟩ (by decide) _ (bs x) (Nat.le_refl _)
  have e2 : (ByteArray.mk #[92, 35]).size = 2 := rfl
  have e1 : (ByteArray.mk #[35]).size = 1 := rfl
  have hs := bs_size x
  refine (Tryd.strings_ReplaceAll (bs x) ⟨#[92, 35]⟩ ⟨#[35]⟩ m w (by omega) hm (by decide) (by rw [e1]; rw [e2] at hc; omega)).mono ?_
  rintro e w' ⟨rfl, h⟩
  exact ⟨ret_s (repl_lib x), h⟩
theorem esc_call (x : Str) (w : World) (hx : x.length < 4294967281) (hm : MX w) : Calls Tryd.prog 61 #[.string (bs x), .string (ByteArray.mk #[35]), .string (ByteArray.mk #[92, 35])] w fun e w' => e = .returned (.string (bs (esc x))) ∧ Below w.heap.size w w' := by
  obtain ⟨m, hm⟩ := hm
  have hc := Lib.countB_mul_le ⟨#[35]⟩ (by decide) _ (bs x) (Nat.le_refl _)
  have e2 : (ByteArray.mk #[92, 35]).size = 2 := rfl
  have e1 : (ByteArray.mk #[35]).size = 1 := rfl
  have hs := bs_size x
  refine (Tryd.strings_ReplaceAll (bs x) ⟨#[35]⟩ ⟨#[92, 35]⟩ m w (by omega) hm (by decide) (by rw [e2]; rw [e1] at hc; omega)).mono ?_
  rintro e w' ⟨rfl, h⟩
  exact ⟨ret_s (esc_lib x), h⟩
theorem sufNL (x : Str) (w : World) (hx : x.length ≤ 9223372036854775807) : Calls Tryd.prog 57 #[.string (bs x), .string (ByteArray.mk #[10])] w fun e w' => e = .returned (.string (bs (Lib.trimSuffix x [10]))) ∧ w' = w :=
  Tryd.strings_TrimSuffix (bs x) ⟨#[10]⟩ w (by rw [bs_size]; exact hx)
theorem split_any (x : Str) (w : World) (hx : x.length < 4294967281) (hm : MX w) : Calls Tryd.prog 56 #[.string (bs x), .string (ByteArray.mk #[10])] w fun e w' => ∃ v, e = .returned v ∧ SIn w' v (cutNL x) ∧ Below w.heap.size w w' := by
  obtain ⟨m, hm⟩ := hm
  have hs := bs_size x
  have hd := Lib.splitB_data ⟨#[10]⟩ 0 (Lib.countB (bs x) ⟨#[10]⟩) (bs x)
  have hcount : Lib.countB (bs x) ⟨#[10]⟩ = x.count 10 := Lib.count_one 10 x
  have hl := Lib.splitB_all ⟨#[10]⟩ (by decide) 0 _ (bs x) rfl
  refine (Tryd.strings_Split (bs x) ⟨#[10]⟩ m w (by omega) hm (by decide)).mono ?_
  rintro e w' ⟨rfl, rfl⟩
  rw [hcount] at hd hl ⊢
  have hd' : (Lib.splitB ⟨#[10]⟩ 0 (x.count 10) (bs x)).map (·.data.toList) = cutNL x := hd.trans (splitK_cut x)
  generalize Lib.splitB ⟨#[10]⟩ 0 (x.count 10) (bs x) = L at *
  have hlen : (cutNL x).length = x.count 10 + 1 := by rw [← hd', List.length_map, hl]
  have hcnt : x.count 10 ≤ x.length := List.count_le_length
  refine ⟨_, rfl, ⟨_, _, by rw [hlen], by rw [hlen]; exact Nat.le_refl _, by omega, ?_, .inr ⟨w.heap.size, 0, rfl, by simp, fun k hk => ?_⟩⟩, (Below.refl _ w).alloc (Nat.le_refl _) _⟩
  · intro y hy
    have : ∀ (s : Str), ∀ y ∈ cutNL s, y.length ≤ s.length := by
      intro s
      induction s with
      | nil => simp [cutNL]
      | cons c r ih =>
        intro y hy
        rw [cutNL] at hy
        split at hy
        · rcases List.mem_cons.1 hy with rfl | hy
          · simp
          · have := ih y hy; simp; omega
        · split at hy
          · simp at hy; subst hy; simp
          · rename_i q t e
            rcases List.mem_cons.1 hy with rfl | hy
            · have := ih q (by rw [e]; simp); simp; omega
            · have := ih y (by rw [e]; simp [hy]); simp; omega
    have := this x y hy
    omega
  · have hk' : k < L.length := by omega
    have e1 : (cutNL x).getD k [] = (L[k]).data.toList := by
      rw [← hd', List.getD, List.getElem?_map, List.getElem?_eq_getElem hk']; rfl
    rw [e1, bs_of]
    unfold World.cell?
    simp only [heap_alloc_new, Nat.zero_add]
    simp [hk']
end Go.Proofs.YtnfjcclblggbiaaDoor
