/-
  The library's functions that package line calls, as their contracts say: Builder, Trim, TrimLeft, TrimRight, CutSuffix, TrimSuffix, Split, ReplaceAll. Condition: the strings are shorter than 2^32 bytes.
  What package line's mayOccur, physicalLines, quoted, uncommented answer. Condition: the strings are shorter than 2^32 bytes.
  What package line's uncommented answers. Condition: the string is shorter than 2^32 bytes.
  What package line's joinContinued answers. Condition: the lines have together at most 2^40 bytes.
  What package line's Join answers, at every string. No condition.
-/
import Derived.Test.YtfgcbdjkimkgpaaGreatDoorGc6MRep
import Derived.Test.YtfgcbdjkimkgpaaGreatDoorGc4LIn
import Derived.Shelf.Strings.SlTrimAscii
import Derived.WalkMore
import Derived.Deep.Onto
namespace Go.Proofs.YtfgcbdjkimkgpaaGreatDoor
set_option maxRecDepth 100000
open Go.ChangeShapes Go.WideShapes Go.ChangeAt Go.RowKit Go.Shelf

def wb_ren : Ren := ⟨fun | 167 => 121 | 166 => 120 | 240 => 156 | 276 => 175 | n => n, fun | 0 => 0 | 3 => 3 | 4 => 4 | 5 => 5 | 9 => 9 | 20 => 20 | 37 => 157 | 70 => 156 | 72 => 159 | 75 => 161 | 80 => 165 | 164 => 198 | 76 => 162 | n => n, fun | n => n⟩
theorem wbL : Go.Proofs.Lays.n167 Tryz.prog wb_ren := {
  mixed := by kernel_rfl
  f167 := Tryz.func121.trans (congrArg some (by kernel_rfl))
  f240 := Tryz.func156.trans (congrArg some (by kernel_rfl))
  f276 := Tryz.func175.trans (congrArg some (by kernel_rfl))
  t0 := Tryz.underlying0
  a0 := Tryz.isAgg0
  z0 := Tryz.sizeOf0
  v0 := Tryz.zeroValue0
  t4 := Tryz.underlying4
  a4 := Tryz.isAgg4
  z4 := Tryz.sizeOf4
  v4 := Tryz.zeroValue4
  t5 := Tryz.underlying5
  a5 := Tryz.isAgg5
  z5 := Tryz.sizeOf5
  v5 := Tryz.zeroValue5
  t9 := Tryz.underlying9
  a9 := Tryz.isAgg9
  z9 := Tryz.sizeOf9
  v9 := Tryz.zeroValue9
  t20 := Tryz.underlying20
  a20 := Tryz.isAgg20
  z20 := Tryz.sizeOf20
  v20 := Tryz.zeroValue20
  t37 := Tryz.underlying157
  a37 := Tryz.isAgg157
  z37 := Tryz.sizeOf157
  v37 := Tryz.zeroValue157
  t70 := Tryz.underlying156
  a70 := Tryz.isAgg156
  z70 := Tryz.sizeOf156
  v70 := Tryz.zeroValue156
  t72 := Tryz.underlying159
  a72 := Tryz.isAgg159
  z72 := Tryz.sizeOf159
  v72 := Tryz.zeroValue159
  t75 := Tryz.underlying161
  a75 := Tryz.isAgg161
  z75 := Tryz.sizeOf161
  v75 := Tryz.zeroValue161
  t164 := Tryz.underlying198
  a164 := Tryz.isAgg198
  z164 := Tryz.sizeOf198
  v164 := Tryz.zeroValue198 }
theorem wbX : Builder.Extra Tryz.prog wb_ren := {
  sizeBuilder := by kernel_rfl
  liesBuilder := by kernel_rfl
  t5 := Tryz.underlying5
  a5 := Tryz.isAgg5
  z5 := Tryz.sizeOf5
  v5 := Tryz.zeroValue5
  infoByte := by kernel_rfl
  cellsByte := by kernel_rfl
  sizeByte := by kernel_rfl
  neB5 := by decide }
theorem wByte (B b : Nat) (l : Str) (c : UInt8) (C : Int) (hC : C = c.toNat) (w : World) (h : Bd B b l w) (hlen : l.length + 1 ≤ 140737488355328) (hBw : B ≤ w.heap.size) :
    Calls Tryz.prog 121 #[.pointer (some ⟨b, 0, none⟩), .int .u8 C] w fun e w' => e = .returned .nilIface ∧ Bd B b (l ++ [c]) w' ∧ Below B w w' := by
  subst hC
  refine (Any.Builder_WriteByte_k wbL wbX B b (Lib.byteCells l) c.toNat w h (by rw [Lib.byteCells_length]; exact hlen) hBw).mono ?_
  rintro e w' ⟨rfl, h1, h2, _⟩
  refine ⟨rfl, .inr ?_, h2⟩
  rw [Lib.byteCells_append]
  exact h1
theorem ascii2 : ∀ (j : Nat) (b : UInt8), ([32, 9] : List UInt8)[j]? = some b → b.toNat < 128 := ascii_of_all (by decide)
theorem trimL_any (x : Str) (w : World) : Calls Tryz.prog 127 #[.string (bs x), .string (ByteArray.mk #[32, 9])] w fun e w' => e = .returned (.string (bs (triml x))) ∧ Below w.heap.size w w' := by
  refine (Any.strings_TrimLeft_laid Tryz.lays161 (by kernel_rfl) (bs x) ⟨#[32, 9]⟩ w (by decide) ascii2).mono ?_
  rintro e w' ⟨rfl, h⟩
  exact ⟨ret_s (triml_lib x), h⟩
theorem trimR_any (x : Str) (w : World) (hx : x.length ≤ 9223372036854775807) : Calls Tryz.prog 129 #[.string (bs x), .string (ByteArray.mk #[32, 9])] w fun e w' => e = .returned (.string (bs (trimr x))) ∧ Below w.heap.size w w' := by
  refine (Any.strings_TrimRight_laid Tryz.lays162 (by kernel_rfl) (bs x) ⟨#[32, 9]⟩ w (by rw [bs_size]; exact hx) (by decide) ascii2).mono ?_
  rintro e w' ⟨rfl, h⟩
  exact ⟨ret_s (trimr_lib x), h⟩
theorem trim_any (x : Str) (w : World) (hx : x.length ≤ 9223372036854775807) : Calls Tryz.prog 111 #[.string (bs x), .string (ByteArray.mk #[32, 9])] w fun e w' => e = .returned (.string (bs (triml (trimr x)))) ∧ Below w.heap.size w w' := by
  refine (Any.strings_Trim_laid Tryz.lays160 (by kernel_rfl) (bs x) ⟨#[32, 9]⟩ w (by rw [bs_size]; exact hx) (by decide) ascii2).mono ?_
  rintro e w' ⟨rfl, h⟩
  exact ⟨ret_s (trim_lib x), h⟩
theorem cut_any (x : Str) (w : World) (hx : x.length ≤ 9223372036854775807) : Calls Tryz.prog 128 #[.string (bs x), .string (ByteArray.mk #[92])] w fun e w' => e = .returned (.tuple #[.string (bs (if ends92 x then x.dropLast else x)), .bool (ends92 x)]) ∧ w' = w := by
  refine (Tryz.strings_CutSuffix (bs x) ⟨#[92]⟩ w (by rw [bs_size]; exact hx)).mono ?_
  rintro e w' ⟨rfl, h⟩
  refine ⟨?_, h⟩
  show Ending.returned (.tuple #[.string ⟨(Lib.trimSuffix x [92]).toArray⟩, .bool (Lib.hasSuffix x [92])]) = _
  rw [trimSuffix_lib, ends_lib]
  rfl
theorem replEsc (x : Str) (w : World) (hx : x.length < 4294967281) (hm : MX w) : Calls Tryz.prog 130 #[.string (bs x), .string (ByteArray.mk #[92, 35]), .string (ByteArray.mk #[35])] w fun e w' => e = .returned (.string (bs (repl x))) ∧ Below w.heap.size w w' := by
  obtain ⟨m, hm⟩ := hm
  have hc := Lib.countB_mul_le ⟨#[92, 35]⟩ (by decide) _ (bs x) (Nat.le_refl _)
  have e2 : (ByteArray.mk #[92, 35]).size = 2 := rfl
  have e1 : (ByteArray.mk #[35]).size = 1 := rfl
  have hs := bs_size x
  refine (Tryz.strings_ReplaceAll (bs x) ⟨#[92, 35]⟩ ⟨#[35]⟩ m w (by omega) hm (by decide) (by rw [e1]; rw [e2] at hc; omega)).mono ?_
  rintro e w' ⟨rfl, h⟩
  exact ⟨ret_s (repl_lib x), h⟩
theorem esc_call (x : Str) (w : World) (hx : x.length < 4294967281) (hm : MX w) : Calls Tryz.prog 130 #[.string (bs x), .string (ByteArray.mk #[35]), .string (ByteArray.mk #[92, 35])] w fun e w' => e = .returned (.string (bs (esc x))) ∧ Below w.heap.size w w' := by
  obtain ⟨m, hm⟩ := hm
  have hc := Lib.countB_mul_le ⟨#[35]⟩ (by decide) _ (bs x) (Nat.le_refl _)
  have e2 : (ByteArray.mk #[92, 35]).size = 2 := rfl
  have e1 : (ByteArray.mk #[35]).size = 1 := rfl
  have hs := bs_size x
  refine (Tryz.strings_ReplaceAll (bs x) ⟨#[35]⟩ ⟨#[92, 35]⟩ m w (by omega) hm (by decide) (by rw [e2]; rw [e1] at hc; omega)).mono ?_
  rintro e w' ⟨rfl, h⟩
  exact ⟨ret_s (esc_lib x), h⟩
theorem sufNL (x : Str) (w : World) (hx : x.length ≤ 9223372036854775807) : Calls Tryz.prog 126 #[.string (bs x), .string (ByteArray.mk #[10])] w fun e w' => e = .returned (.string (bs (Lib.trimSuffix x [10]))) ∧ w' = w :=
  Tryz.strings_TrimSuffix (bs x) ⟨#[10]⟩ w (by rw [bs_size]; exact hx)
theorem split_any (x : Str) (w : World) (hx : x.length < 4294967281) (hm : MX w) : Calls Tryz.prog 125 #[.string (bs x), .string (ByteArray.mk #[10])] w fun e w' => ∃ v, e = .returned v ∧ SIn w' v (cutNL x) ∧ Below w.heap.size w w' := by
  obtain ⟨m, hm⟩ := hm
  have hs := bs_size x
  have hd := Lib.splitB_data ⟨#[10]⟩ 0 (Lib.countB (bs x) ⟨#[10]⟩) (bs x)
  have hcount : Lib.countB (bs x) ⟨#[10]⟩ = x.count 10 := Lib.count_one 10 x
  have hl := Lib.splitB_all ⟨#[10]⟩ (by decide) 0 _ (bs x) rfl
  refine (Tryz.strings_Split (bs x) ⟨#[10]⟩ m w (by omega) hm (by decide)).mono ?_
  rintro e w' ⟨rfl, rfl⟩
  rw [hcount] at hd hl ⊢
  have hd' : (Lib.splitB ⟨#[10]⟩ 0 (x.count 10) (bs x)).map (·.data.toList) = cutNL x := hd.trans (splitK_cut x)
  generalize Lib.splitB ⟨#[10]⟩ 0 (x.count 10) (bs x) = L at *
  have hlen : (cutNL x).length = x.count 10 + 1 := by rw [← hd', List.length_map, hl]
  have hcnt : x.count 10 ≤ x.length := List.count_le_length
  refine ⟨_, rfl, ⟨_, _, by rw [hlen], by rw [hlen]; exact Nat.le_refl _, by omega, ?_, .inr ⟨w.heap.size, 0, rfl, by simp, fun k hk => ?_⟩⟩, (Below.refl _ w).alloc (Nat.le_refl _) _⟩
  · intro y hy
    have : ∀ (s : Str), ∀ y ∈ cutNL s, y.length ≤ s.length := by
      intro s
      induction s with
      | nil => simp [cutNL]
      | cons c r ih =>
        intro y hy
        rw [cutNL] at hy
        split at hy
        · rcases List.mem_cons.1 hy with rfl | hy
          · simp
          · have := ih y hy; simp; omega
        · split at hy
          · simp at hy; subst hy; simp
          · rename_i q t e
            rcases List.mem_cons.1 hy with rfl | hy
            · have := ih q (by rw [e]; simp); simp; omega
            · have := ih y (by rw [e]; simp [hy]); simp; omega
    have := this x y hy
    omega
  · have hk' : k < L.length := by omega
    have e1 : (cutNL x).getD k [] = (L[k]).data.toList := by
      rw [← hd', List.getD, List.getElem?_map, List.getElem?_eq_getElem hk']; rfl
    rw [e1, bs_of]
    unfold World.cell?
    simp only [heap_alloc_new, Nat.zero_add]
    simp [hk']
end Go.Proofs.YtfgcbdjkimkgpaaGreatDoor
namespace Go.Proofs.YtfgcbdjkimkgpaaGreatDoor
set_option maxRecDepth 100000
open Go.ChangeShapes Go.WideShapes Go.ChangeAt Go.RowKit

theorem mayL_any (c : UInt8) (w : World) :
    Calls Tryz.prog 98 #[.int .u8 (c.toNat : Int)] w fun e w' => e = .returned (.bool (may c)) ∧ w' = w := by
  unfold may
  generalize c.toNat = n
  by_cases h1 : 32 ≤ n <;> by_cases h2 : n ≤ 126 <;> by_cases h3 : n = 9 <;> by_cases h4 : n = 10 <;>
  · go_enter Tryz.func98, Tryz.ntmps98
    go_wp2
    all_goals go_ret
    all_goals exact ⟨ret_b (by simp [h1, h2, h3, h4] <;> omega), rfl⟩

theorem phys_any (x : Str) (w : World) (hx : x.length ≤ 20000) (hm : MX w) :
    Calls Tryz.prog 99 #[.string (bs x)] w fun e w' => ∃ v, e = .returned v ∧ SIn w' v (phys x) ∧ Below w.heap.size w w' := by
  by_cases h0 : x = []
  · subst h0
    have hz : bs [] = ByteArray.mk #[] := rfl
    rw [hz]
    go_enter Tryz.func99, Tryz.ntmps99
    go_wp2
    go_ret
    exact ⟨_, rfl, ⟨none, 0, rfl, Nat.le_refl _, by simp [phys], fun x hx => by simp [phys] at hx, .inl rfl⟩, Below.refl _ _⟩
  · have hz : (bs x).toList.isEmpty = false := bs_some h0
    have ht : (Lib.trimSuffix x [10]).length ≤ x.length := by unfold Lib.trimSuffix; split <;> simp
    have HC := Lib.hid (sufNL x w (by omega))
    have HS := Lib.hid (split_any (Lib.trimSuffix x [10]) w (by omega) hm)
    rw [← phys_cut x h0] at HS
    clear hx ht hm
    go_enter Tryz.func99, Tryz.ntmps99
    go_wp2_with fail
    refine HC.out.mono ?_
    rintro e w' ⟨rfl, rfl⟩
    go_wp2_with fail
    refine HS.out.mono ?_
    rintro e w' ⟨v, rfl, h1, h2⟩
    have H1 := Lib.hid h1; have H2 := Lib.hid h2; clear h1 h2
    go_wp2
    go_ret
    exact ⟨_, rfl, H1.out, H2.out⟩
end Go.Proofs.YtfgcbdjkimkgpaaGreatDoor
namespace Go.Proofs.YtfgcbdjkimkgpaaGreatDoor
set_option maxRecDepth 100000
open Go.ChangeShapes Go.WideShapes Go.ChangeAt Go.RowKit

/-- a comment begins at k -/
def Com (p : Bool) (s : Str) (k : Nat) : Prop := s.getD k 0 = 35 ∧ (if k = 0 then p = false else s.getD (k - 1) 0 ≠ 92)
theorem com_succ (c : UInt8) (r : Str) (p : Bool) (k : Nat) : Com p (c :: r) (k + 1) ↔ Com (c == 92) r k := by
  unfold Com
  cases k with
  | zero => simp
  | succ k => simp
theorem cut1_take : ∀ (s : Str) (p : Bool) (k : Nat), k < s.length → (∀ j, j < k → ¬ Com p s j) → Com p s k → cut1 p s = s.take k
  | [], _, _, h, _, _ => by simp at h
  | c :: r, p, 0, _, _, hc => by
    unfold Com at hc
    simp at hc
    simp [cut1, hc]
  | c :: r, p, k + 1, hk, h, hc => by
    have h0 := h 0 (by omega)
    have e : ¬ (c = 35 ∧ p = false) := fun q => h0 (by unfold Com; simp [q])
    rw [cut1, if_neg e, List.take_succ_cons, cut1_take r (c == 92) k (by simpa using hk) (fun j hj q => h (j + 1) (by omega) ((com_succ c r p j).2 q)) ((com_succ c r p k).1 hc)]
theorem cut1_all : ∀ (s : Str) (p : Bool), (∀ j, j < s.length → ¬ Com p s j) → cut1 p s = s
  | [], _, _ => by simp [cut1]
  | c :: r, p, h => by
    have h0 := h 0 (by simp)
    have e : ¬ (c = 35 ∧ p = false) := fun q => h0 (by unfold Com; simp [q])
    rw [cut1, if_neg e, cut1_all r (c == 92) (fun j hj q => h (j + 1) (by simpa using hj) ((com_succ c r p j).2 q))]
theorem com_nat (S : ByteArray) (k : Nat) : Com false S.data.toList k ↔ byteAt S k = 35 ∧ (k = 0 ∨ byteAt S (k - 1) ≠ 92) := by
  unfold Com byteAt
  have e : ∀ c d : UInt8, c = d ↔ c.toNat = d.toNat := fun c d => ⟨fun h => by rw [h], UInt8.toNat_inj.1⟩
  by_cases h : k = 0
  · subst h; simp [e]
  · simp [h, e]

set_option maxHeartbeats 1000000 in
theorem unc_tail (x : Str) (w : World) (hx : x.length < 4294967281) (hm : MX w) : Hid (Calls Tryz.prog 130 #[.string (bs x), .string (ByteArray.mk #[92, 35]), .string (ByteArray.mk #[35])] w fun e w' => e = .returned (.string (bs (repl x))) ∧ Below w.heap.size w w') := Lib.hid (replEsc x w hx hm)

set_option maxHeartbeats 1000000 in
theorem unc_any (S : ByteArray) (w : World) (hs : S.size < 4294967281) (hm : MX w) :
    Calls Tryz.prog 101 #[.string S] w fun e w' => e = .returned (.string (bs (unc S.data.toList))) ∧ Below w.heap.size w w' := by
  have HF : Hid (∀ k (h : k < S.size), S[k].toNat = byteAt S k) := byteAt_get S
  have HL : Hid (∀ k, byteAt S k < 256) := byteAt_lt S
  have HR : Hid (∀ x : Str, x.length ≤ S.size → Calls Tryz.prog 130 #[.string (bs x), .string (ByteArray.mk #[92, 35]), .string (ByteArray.mk #[35])] w fun e w' => e = .returned (.string (bs (repl x))) ∧ Below w.heap.size w w') := fun x hx => replEsc x w (by omega) hm
  have HT : Hid (∀ (x : Str) (w : World), x.length ≤ S.size → Calls Tryz.prog 129 #[.string (bs x), .string (ByteArray.mk #[32, 9])] w fun e w' => e = .returned (.string (bs (trimr x))) ∧ Below w.heap.size w w') := fun x w hx => trimR_any x w (by omega)
  have HU : Hid (∀ k, k < S.size → (∀ j, j < k → ¬ (byteAt S j = 35 ∧ (j = 0 ∨ byteAt S (j - 1) ≠ 92))) → (byteAt S k = 35 ∧ (k = 0 ∨ byteAt S (k - 1) ≠ 92)) → cut1 false S.data.toList = S.data.toList.take k) := fun k hk h hc => cut1_take _ _ k (by rw [size_list]; exact hk) (fun j hj q => h j hj ((com_nat S j).1 q)) ((com_nat S k).2 hc)
  have HV : Hid ((∀ j, j < S.size → ¬ (byteAt S j = 35 ∧ (j = 0 ∨ byteAt S (j - 1) ≠ 92))) → cut1 false S.data.toList = S.data.toList) := fun h => cut1_all _ _ (fun j hj q => h j (by rw [size_list] at hj; exact hj) ((com_nat S j).1 q))
  have HB : Hid (∀ k, S.extract 0 k = bs (S.data.toList.take k)) := bs_take S
  have HO : Hid (bs S.data.toList = S) := bs_of S
  have HN : Hid (S.data.toList.length = S.size) := size_list S
  clear hm
  generalize byteAt S = f at *
  go_enter Tryz.func101, Tryz.ntmps101
  go_wp2_with fail
  go_loopw [0, 6] (fun j0 i wr => ∃ k : Nat, k ≤ S.size ∧ j0 = .string S ∧ i = .int .i64 (k : Int) ∧ (∀ j, j < k → ¬ (f j = 35 ∧ (j = 0 ∨ f (j - 1) ≠ 92))) ∧ wr = w) (fun _ i _ => S.size - (intOf i).toNat)
  case atStart => exact ⟨0, by omega, rfl, rfl, fun _ h => absurd h (Nat.not_lt_zero _), rfl⟩
  case round =>
    obtain ⟨k, hk, rfl, rfl, hall, rfl⟩ := hrel
    have HA := Lib.hid hall; clear hall
    by_cases hlt : k < S.size
    · have hb := HF.out k hlt
      by_cases hc : f k = 35
      · have hc' : ((f k : Int) == 35) = true := by rw [beq_iff_eq]; omega
        by_cases h0 : k = 0
        · have d0 : ((k : Int) == 0) = true := by rw [beq_iff_eq]; omega
          have D := Lib.hid (HU.out k hlt HA.out ⟨hc, .inl h0⟩)
          clear h0
          go_wp2_with fail
          rw [HB.out k]
          refine (HR.out (S.data.toList.take k) (by have := HN.out; simp; omega)).mono ?_
          rintro e w' ⟨rfl, q1⟩
          have B1 := Lib.hid q1; clear q1
          go_wp2_with fail
          refine (HT.out _ _ (Nat.le_trans (repl_le _) (by have := HN.out; simp; omega))).mono ?_
          rintro e w' ⟨rfl, q2⟩
          have B2 := Lib.hid q2; clear q2
          go_wp2
          go_ret
          exact ⟨by unfold unc; rw [D.out]; rfl, B1.out.trans (B2.out.mono B1.out.size)⟩
        · have hb2 := HF.out (k - 1) (by omega)
          have i1 : ((k : Int) - 1).toNat = k - 1 := by omega
          have i2 : (0 : Int) ≤ (k : Int) - 1 := by omega
          have i3 : (k : Int) - 1 < (S.size : Int) := by omega
          have d0 : ((k : Int) == 0) = false := by rw [beq_eq_false_iff_ne]; omega
          by_cases h9 : f (k - 1) = 92
          · have d9 : ((f (k - 1) : Int) != 92) = false := by rw [bne_eq_false_iff_eq]; omega
            go_wp2
            go_roundw
            case rel =>
              refine ⟨k + 1, by omega, rfl, by go_num, fun j hj => ?_, trivial⟩
              rcases Nat.lt_succ_iff_lt_or_eq.1 hj with h | h
              · exact HA.out j h
              · rw [h]; exact fun q => q.2.elim h0 (fun n => n h9)
            case measure => simp [intOf]; omega
          · have d9 : ((f (k - 1) : Int) != 92) = true := by rw [bne_iff_ne]; omega
            have D := Lib.hid (HU.out k hlt HA.out ⟨hc, .inr h9⟩)
            go_wp2_with fail
            rw [HB.out k]
            refine (HR.out (S.data.toList.take k) (by have := HN.out; simp; omega)).mono ?_
            rintro e w' ⟨rfl, q1⟩
            have B1 := Lib.hid q1; clear q1
            go_wp2_with fail
            refine (HT.out _ _ (Nat.le_trans (repl_le _) (by have := HN.out; simp; omega))).mono ?_
            rintro e w' ⟨rfl, q2⟩
            have B2 := Lib.hid q2; clear q2
            go_wp2
            go_ret
            exact ⟨by unfold unc; rw [D.out]; rfl, B1.out.trans (B2.out.mono B1.out.size)⟩
      · have hc' : ((f k : Int) == 35) = false := by rw [beq_eq_false_iff_ne]; omega
        go_wp2
        go_roundw
        case rel =>
          refine ⟨k + 1, by omega, rfl, by go_num, fun j hj => ?_, trivial⟩
          rcases Nat.lt_succ_iff_lt_or_eq.1 hj with h | h
          · exact HA.out j h
          · rw [h]; exact fun q => hc q.1
        case measure => simp [intOf]; omega
    · obtain rfl : k = S.size := by omega
      have HD := Lib.hid (HV.out HA.out)
      go_wp2_with fail
      rw [← HO.out]
      refine (HR.out S.data.toList (by have := HN.out; omega)).mono ?_
      rintro e w' ⟨rfl, q1⟩
      have B1 := Lib.hid q1; clear q1
      go_wp2_with fail
      refine (HT.out _ _ (Nat.le_trans (repl_le _) (by have := HN.out; omega))).mono ?_
      rintro e w' ⟨rfl, q2⟩
      have B2 := Lib.hid q2; clear q2
      go_wp2
      go_ret
      exact ⟨by unfold unc; rw [HD.out]; rfl, B1.out.trans (B2.out.mono B1.out.size)⟩
end Go.Proofs.YtfgcbdjkimkgpaaGreatDoor
namespace Go.Proofs.YtfgcbdjkimkgpaaGreatDoor
set_option maxRecDepth 100000
open Go.ChangeShapes Go.WideShapes Go.ChangeAt Go.RowKit

/-- what is left to be joined behind k lines -/
def restOf (L : List Str) (k : Nat) : Str × Nat := if k = 0 then joinH L else joinT (L.drop k)
def cutS (x : Str) : Str := if ends92 x then x.dropLast else x
theorem cutS_le (x : Str) : (cutS x).length ≤ x.length := by unfold cutS; split <;> simp
theorem rest_first {L : List Str} (h : 0 < L.length) : restOf L 0 = if ends92 (L.getD 0 []) then (cutS (L.getD 0 []) ++ (restOf L 1).1, 1 + (restOf L 1).2) else (cutS (L.getD 0 []), 1) := by
  cases L with
  | nil => simp at h
  | cons x r =>
    simp only [restOf, if_true, joinH, List.getD_cons_zero, cutS, Nat.one_ne_zero, if_false, List.drop_succ_cons, List.drop_zero]
    split <;> simp [Nat.add_comm]
theorem rest_next {L : List Str} {k : Nat} (h : k < L.length) (h0 : k ≠ 0) : restOf L k = if ends92 (triml (L.getD k [])) then ([32] ++ cutS (triml (L.getD k [])) ++ (restOf L (k + 1)).1, 1 + (restOf L (k + 1)).2) else ([32] ++ cutS (triml (L.getD k [])), 1) := by
  have e : L.getD k [] = L[k] := by rw [List.getD, List.getElem?_eq_getElem h]; rfl
  unfold restOf
  rw [if_neg h0, if_neg (Nat.succ_ne_zero k), List.drop_eq_getElem_cons h, joinT, e]
  unfold cutS
  split <;> simp [Nat.add_comm]
theorem rest_end (L : List Str) (h : 0 < L.length) : restOf L L.length = ([], 0) := by
  unfold restOf
  rw [if_neg (by omega), List.drop_length]; rfl
theorem bulk_mem {L : List Str} {x : Str} (h : x ∈ L) : x.length ≤ bulk L := by
  induction L with
  | nil => simp at h
  | cons y r ih =>
    have e : bulk (y :: r) = y.length + 1 + bulk r := by simp [bulk]
    rcases List.mem_cons.1 h with rfl | h
    · omega
    · have := ih h; omega

theorem cutS_any (x : Str) (w : World) (hx : x.length ≤ 9223372036854775807) : Calls Tryz.prog 128 #[.string (bs x), .string (ByteArray.mk #[92])] w fun e w' => e = .returned (.tuple #[.string (bs (cutS x)), .bool (ends92 x)]) ∧ w' = w := cut_any x w hx

set_option maxHeartbeats 2000000 in
theorem joinC_any {w : World} {v : Value} {L : List Str} (h : SIn w v L) (hb : bulk L ≤ 1099511627776) :
    Calls Tryz.prog 100 #[v] w fun e w' => e = .returned (.tuple #[.string (bs (joinH L).1), .int .i64 ((joinH L).2 : Int)]) ∧ Below w.heap.size w w' := by
  have hn := h.bound
  have NB := Lib.hid (bd_new w)
  have BA : Hid (∀ o, Below w.heap.size w (w.alloc o)) := fun o => (Below.refl _ w).alloc (Nat.le_refl _) o
  have AS : Hid (∀ o, w.heap.size ≤ (w.alloc o).heap.size) := fun o => by simp
  rcases h.open with ⟨hz, a, cap, rfl⟩ | ⟨hpos, b, off, cap, rfl, hcap, hlt, hc⟩
  · clear h hn
    subst hz
    go_enter Tryz.func100, Tryz.ntmps100
    go_wp2_with fail
    refine wp_loop_rounds 1 ?_
    repeat any_goals (rw [rounds_succ]; go_wp2_with fail)
    refine (bStr _ _ [] _ NB.out (AS.out _)).mono ?_
    rintro e w' ⟨rfl, q⟩
    have B := Lib.hid ((BA.out _).trans q); clear q
    go_wp2
    go_ret2
    exact ⟨rfl, B.out⟩
  · have HC : Hid (∀ W, Below w.heap.size w W → ∀ k, k < L.length → W.cell? ⟨b, off + k, none⟩ = some (.string (bs (L.getD k [])))) := fun W hW k hk => cell_later hW (hc k hk)
    have HX : Hid (∀ k, k < L.length → (L.getD k []).length ≤ bulk L) := fun k hk => bulk_mem (getD_mem hk)
    have HJ : Hid ((joinH L).1.length ≤ bulk L) := joinH_len L
    have R0 := Lib.hid (rest_first hpos)
    have RN : Hid (∀ k, k < L.length → k ≠ 0 → _) := fun k hk h0 => rest_next (L := L) (k := k) hk h0
    have RE := Lib.hid (rest_end L hpos)
    have RS : Hid (restOf L 0 = joinH L) := rfl
    clear h hc hlt
    generalize hLn : L.length = n at *
    clear hLn
    go_enter Tryz.func100, Tryz.ntmps100
    go_wp2_with fail
    go_loopw [11] (fun i wr => ∃ (k : Nat) (out : Str), k ≤ n ∧ i = .int .i64 (k : Int) ∧ Bd w.heap.size w.heap.size out wr ∧ Below w.heap.size w wr ∧ (k = 0 → out = []) ∧ joinH L = (out ++ (restOf L k).1, k + (restOf L k).2)) (fun i _ => n - (intOf i).toNat)
    case atStart => exact ⟨0, [], Nat.zero_le _, rfl, NB.out, BA.out _, fun _ => rfl, by rw [RS.out]; simp⟩
    case round =>
      obtain ⟨k, out, hk, rfl, qB, qW, q0, qj⟩ := hrel
      have QB := Lib.hid qB; have QW := Lib.hid qW; have Q0 := Lib.hid q0; have QJ := Lib.hid qj; clear qB qW q0 qj
      by_cases hk2 : k < n
      · obtain ⟨x, hx⟩ : ∃ x, L.getD k [] = x := ⟨_, rfl⟩
        have c1 := HC.out wr QW.out k hk2
        have hxl := HX.out k hk2
        have RNk := Lib.hid (RN.out k hk2)
        rw [hx] at c1 hxl RNk
        by_cases h0 : k = 0
        · subst h0
          have R1 := R0
          rw [hx] at R1
          have HX0 := Lib.hid hx; clear hx
          rw [Nat.add_zero] at c1
          have e0 := Q0.out rfl
          subst e0
          have QS : Hid (∀ y, y = cutS x → _) := fun y hy => wStr w.heap.size w.heap.size [] y wr QB.out (by have := cutS_le x; rw [hy]; simp; omega) QW.out.size
          go_wp2_with fail
          refine (cutS_any x _ (by omega)).mono ?_
          rintro e w' ⟨rfl, rfl⟩
          go_wp2_with fail
          refine (QS.out _ rfl).mono ?_
          rintro e w1 ⟨⟨r, rfl⟩, q1, q2⟩
          have Q1 := Lib.hid q1; have Q2 := Lib.hid (QW.out.trans q2); clear q1 q2
          cases hd : ends92 x with
          | true =>
            have HD := Lib.hid hd; clear hd
            go_wp2
            go_roundw
            case rel =>
              refine ⟨1, [] ++ cutS x, by omega, rfl, Q1.out, Q2.out, fun h => absurd h (Nat.succ_ne_zero _), ?_⟩
              rw [← RS.out, R1.out, HD.out]
              simp
            case measure => simp [intOf]; omega
          | false =>
            have HD := Lib.hid hd; clear hd
            go_wp2_with fail
            refine (bStr _ _ _ _ Q1.out Q2.out.size).mono ?_
            rintro e w2 ⟨rfl, q⟩
            have B := Lib.hid (Q2.out.trans q); clear q
            go_wp2
            go_ret2
            refine ⟨?_, B.out⟩
            rw [← RS.out, R1.out, HD.out]
            rfl
        · have d0 : (0 : Int) < (k : Int) := by omega
          have R1 := Lib.hid (RNk.out h0)
          have HX0 := Lib.hid hx; clear hx RNk
          have hol : out.length ≤ bulk L := by have h1 := HJ.out; rw [QJ.out] at h1; simp at h1; omega
          have hxt := triml_le x
          have hct := cutS_le (triml x)
          go_wp2_with fail
          refine (wByte _ _ out 32 32 rfl _ QB.out (by omega) QW.out.size).mono ?_
          rintro e w1 ⟨rfl, q1, q2⟩
          have Q1 := Lib.hid q1; have Q2 := Lib.hid (QW.out.trans q2); clear q1 q2
          go_wp2_with fail
          refine (trimL_any x w1).mono ?_
          rintro e w2 ⟨rfl, q⟩
          have Q3 := Lib.hid (Q1.out.later q); have Q4 := Lib.hid (Q2.out.trans (q.mono Q2.out.size)); clear q
          go_wp2_with fail
          refine (cutS_any (triml x) w2 (by omega)).mono ?_
          rintro e w3 ⟨rfl, rfl⟩
          go_wp2_with fail
          refine (wStr _ _ (out ++ [32]) (cutS (triml x)) _ Q3.out (by simp; omega) Q4.out.size).mono ?_
          rintro e w4 ⟨⟨r, rfl⟩, q1, q2⟩
          have Q5 := Lib.hid q1; have Q6 := Lib.hid (Q4.out.trans q2); clear q1 q2
          cases hd : ends92 (triml x) with
          | true =>
            have HD := Lib.hid hd; clear hd
            go_wp2
            go_roundw
            case rel =>
              refine ⟨k + 1, out ++ [32] ++ cutS (triml x), by omega, by go_num, Q5.out, Q6.out, fun h => absurd h (Nat.succ_ne_zero _), ?_⟩
              rw [QJ.out, R1.out, HD.out]
              simp [Nat.add_assoc]
            case measure => simp [intOf]; omega
          | false =>
            have HD := Lib.hid hd; clear hd
            go_wp2_with fail
            refine (bStr _ _ _ _ Q5.out Q6.out.size).mono ?_
            rintro e w5 ⟨rfl, q⟩
            have B := Lib.hid (Q6.out.trans q); clear q
            go_wp2
            go_ret2
            refine ⟨?_, B.out⟩
            rw [QJ.out, R1.out, HD.out]
            simp
      · obtain rfl : k = n := by omega
        go_wp2_with fail
        refine (bStr _ _ out _ QB.out QW.out.size).mono ?_
        rintro e w' ⟨rfl, q⟩
        have B := Lib.hid (QW.out.trans q); clear q
        go_wp2
        go_ret2
        refine ⟨?_, B.out⟩
        rw [QJ.out, RE.out]
        simp
end Go.Proofs.YtfgcbdjkimkgpaaGreatDoor
namespace Go.Proofs.YtfgcbdjkimkgpaaGreatDoor
set_option maxRecDepth 100000
open Go.ChangeShapes Go.WideShapes Go.ChangeAt Go.RowKit

theorem lines_length : ∀ (f n : Nat) (L : List Str), (linesF f n L).length ≤ L.length
  | 0, _, _ => by simp [linesF]
  | f + 1, n, [] => by simp [linesF]
  | f + 1, n, x :: r => by
    have hp := joinH_pos x r
    have ih := lines_length f (n + (joinH (x :: r)).2) ((x :: r).drop (joinH (x :: r)).2)
    have hl := joinH_le (x :: r)
    rw [linesF, if_neg (by simp), List.length_append]
    rw [List.length_drop] at ih
    simp only [List.length_cons] at ih hl ⊢
    split <;> simp <;> omega
theorem linesAt_length (n : Nat) (L : List Str) : (linesAt n L).length ≤ L.length := lines_length _ _ _
/-- one step of Join's loop -/
theorem lines_step {L : List Str} {p : Nat} (h : p < L.length) : ∃ (t : Str) (c : Nat), joinH (L.drop p) = (t, c) ∧ 0 < c ∧ p + c ≤ L.length ∧ t.length ≤ bulk L ∧
    linesAt p (L.drop p) = (if unc t = [] then [] else [(((p + 1 : Nat) : Int), unc t)]) ++ linesAt (p + c) (L.drop (p + c)) := by
  have hne : L.drop p ≠ [] := by intro e; have := congrArg List.length e; simp at this; omega
  obtain ⟨x, r, e⟩ := List.exists_cons_of_ne_nil hne
  have hp := joinH_pos x r
  have hl := joinH_le (L.drop p)
  rw [List.length_drop] at hl
  have hc := linesAt_cons p (L.drop p) hne
  have hb := Nat.le_trans (joinH_len (L.drop p)) (bulk_drop L p)
  rw [← e] at hp
  refine ⟨(joinH (L.drop p)).1, (joinH (L.drop p)).2, rfl, hp, by omega, hb, ?_⟩
  rw [hc, List.drop_drop]
theorem SIn.drop {w : World} {b off n cap : Nat} {z : List Str} (h : SIn w (.slice (some ⟨b, off, none⟩) n cap) z) {p : Nat} (hp : p < z.length) : SIn w (.slice (some ⟨b, off + p, none⟩) (n - p) (cap - p)) (z.drop p) := by
  obtain ⟨a, c, hv, h2, h3, h4, h5⟩ := h
  cases hv
  refine ⟨_, _, by rw [List.length_drop], by rw [List.length_drop]; omega, by rw [List.length_drop]; omega, fun x hx => h4 x (List.mem_of_mem_drop hx), ?_⟩
  rcases h5 with rfl | ⟨b', off', e, h6, h7⟩
  · simp at hp
  · cases e
    refine .inr ⟨b, off + p, rfl, h6, fun k hk => ?_⟩
    rw [List.length_drop] at hk
    have := h7 (p + k) (by omega)
    rw [Nat.add_assoc, this]
    simp [List.getD, List.getElem?_drop]
/-- byte k -/
def gB (S : ByteArray) (k : Nat) : UInt8 := S.data.toList.getD k 0
theorem may_nat (S : ByteArray) (k : Nat) (h : k < S.size) : S[k].toNat = (gB S k).toNat := by
  rw [byteAt_get S k h]; rfl
theorem may_all {S : ByteArray} (h : ∀ k, k < S.size → may (gB S k) = true) : S.data.toList.all may = true := by
  rw [List.all_eq_true]
  intro c hc
  obtain ⟨k, hk, rfl⟩ := List.mem_iff_getElem.1 hc
  have := h k (by rw [← size_list]; exact hk)
  unfold gB at this
  rw [List.getD, List.getElem?_eq_getElem hk] at this
  exact this
theorem may_bad {S : ByteArray} {k : Nat} (hk : k < S.size) (h : may (gB S k) = false) : S.data.toList.all may = false := by
  have hk' : k < S.data.toList.length := by rw [size_list]; exact hk
  unfold gB at h
  rw [List.getD, List.getElem?_eq_getElem hk'] at h
  rw [List.all_eq_false]
  exact ⟨_, List.getElem_mem hk', by rw [show S.data.toList[k] = (some S.data.toList[k]).getD 0 from rfl, h]; simp⟩
theorem bulk_text {s : Str} (h : s.length ≤ 20000) : bulk (phys s) ≤ 20001 := Nat.le_trans (bulk_phys s) (by omega)

theorem own_later {w w' : World} {base : Nat} {ty : TypeId} {size : Nat} {v : Value} {n : Nat} {xs : List Value} (h : w.ownsRow base ty size v n xs) (hb : Below w.heap.size w w') : w'.ownsRow base ty size v n xs :=
  h.kept (row := none) ⟨hb.os, hb.tape, hb.output, hb.size, fun k hk _ => hb.block k hk⟩ (by cases v.ownBlock <;> simp)
/-- what Join hands back -/
def JPost (s : Str) (w : World) (e : Ending) (w' : World) : Prop :=
  ∃ v, e = .returned (.tuple #[v, .int .i64 (joinR s).2]) ∧ w'.ownsRow w.heap.size 115 2 v (joinR s).1.length (lnCells (joinR s).1) ∧ Below w.heap.size w w'

set_option maxHeartbeats 4000000 in
set_option maxRecDepth 100000 in
/-- the loop over physical lines, from its first world on -/
theorem join_any (S : ByteArray) (w : World) (hs : S.size ≤ 9223372036854775807) (hm : MX w) :
    Calls Tryz.prog 69 #[.string S] w (JPost S.data.toList w) := by
  have hsz := size_list S
  by_cases hbig : 20000 < S.size
  · have e : Hid (joinR S.data.toList = ([], 2)) := Lib.hid (by unfold joinR; rw [if_pos (by omega)])
    clear hsz
    go_enter Tryz.func69, Tryz.ntmps69
    go_wp2
    go_ret2
    unfold JPost; rw [e.out]
    exact ⟨_, rfl, World.ownsRow_nil _ _ _ _, Below.refl _ _⟩
  have HF : Hid (∀ k (h : k < S.size), S[k].toNat = (gB S k).toNat) := may_nat S
  have E3 : Hid (∀ k, k < S.size → may (gB S k) = false → joinR S.data.toList = ([], 3)) := fun k hk h => by
    unfold joinR; rw [if_neg (by omega), may_bad hk h]; rfl
  have E0 : Hid ((∀ k, k < S.size → may (gB S k) = true) → joinR S.data.toList = (linesAt 0 (phys S.data.toList), 0)) := fun h => by
    unfold joinR; rw [if_neg (by omega), may_all h, if_pos rfl]
  have PH := Lib.hid (phys_any S.data.toList w (by omega) hm)
  rw [bs_of] at PH
  have PC := Lib.hid (phys_count S.data.toList)
  have PB := Lib.hid (bulk_text (s := S.data.toList) (by omega))
  have LL := Lib.hid (linesAt_length 0 (phys S.data.toList))
  have ST : Hid (∀ p, p < (phys S.data.toList).length → _) := fun p hp => lines_step (L := phys S.data.toList) (p := p) hp
  have SZ := Lib.hid hsz; clear hsz
  have MM := Lib.hid hm; clear hm
  generalize gB S = g at *
  generalize hS : S.data.toList = s at *
  have HS := Lib.hid hS; clear hS
  obtain ⟨i0, hi, hz0, hz1, hz2⟩ := info_parts infoLn
  have HI := Lib.hid hi; clear hi
  go_enter Tryz.func69, Tryz.ntmps69
  go_wp2_with fail
  go_loopw [16] (fun i wr => ∃ k : Nat, k ≤ S.size ∧ i = .int .i64 (k : Int) ∧ (∀ j, j < k → may (g j) = true) ∧ wr = w) (fun i _ => S.size - (intOf i).toNat)
  case atStart => exact ⟨0, by omega, rfl, fun _ h => absurd h (Nat.not_lt_zero _), rfl⟩
  case round =>
    obtain ⟨k, hk, rfl, hall, rfl⟩ := hrel
    have HA := Lib.hid hall; clear hall
    by_cases hlt : k < S.size
    · have hb := HF.out k hlt
      go_wp2_with fail
      clear hb
      refine (mayL_any (g k) _).mono ?_
      rintro e w' ⟨rfl, rfl⟩
      cases hd : may (g k) with
      | false =>
        have HD := Lib.hid (E3.out k hlt hd); clear hd
        go_wp2
        go_ret2
        unfold JPost; rw [HD.out]
        exact ⟨_, rfl, World.ownsRow_nil _ _ _ _, Below.refl _ _⟩
      | true =>
        have HD := Lib.hid hd; clear hd
        go_wp2
        go_roundw
        case rel =>
          refine ⟨k + 1, by omega, by go_num, fun j hj => ?_, trivial⟩
          rcases Nat.lt_succ_iff_lt_or_eq.1 hj with h | h
          · exact HA.out j h
          · rw [h]; exact HD.out
        case measure => simp [intOf]; omega
    · obtain rfl : k = S.size := by omega
      have HE := Lib.hid (E0.out HA.out)
      clear E3 E0 HA HF
      go_wp2_with fail
      refine PH.out.mono ?_
      rintro e w1 ⟨v1, rfl, q1, q2⟩
      have Q1 := Lib.hid q1; have Q2 := Lib.hid q2
      have M1 := Lib.hid (MM.out.later q2)
      clear q2
      rcases q1.open with ⟨hz, a, cap, rfl⟩ | ⟨hpos, b, off, cap, rfl, hcap, hlt', hc⟩
      · clear q1
        have HZ := Lib.hid hz; clear hz
        go_wp2_with fail
        refine wp_loop_rounds 1 ?_
        repeat any_goals (rw [rounds_succ]; go_wp2_with fail)
        go_ret2
        unfold JPost; rw [HE.out, HZ.out]
        exact ⟨_, rfl, World.ownsRow_nil _ _ _ _, Q2.out⟩
      · clear q1 hc hlt'
        generalize hL : phys s = L at *
        have hn : L.length ≤ 20000 := by have := PC.out; have := SZ.out; omega
        clear hL
        go_wp2_with fail
        go_loopw [6, 7] (fun s6 s7 wr => ∃ (p : Nat) (out : List Ln), p ≤ L.length ∧ s7 = .int .i64 (p : Int) ∧ wr.ownsRow w1.heap.size 115 2 s6 out.length (lnCells out) ∧ Below w1.heap.size w1 wr ∧ linesAt 0 L = out ++ linesAt p (L.drop p)) (fun _ s7 _ => L.length - (intOf s7).toNat)
        case atStart => exact ⟨0, [], Nat.zero_le _, rfl, World.ownsRow_nil _ _ _ _, Below.refl _ _, by simp⟩
        case round =>
          obtain ⟨p, out, hp, rfl, qo, qw, ql⟩ := hrel
          have QO := Lib.hid qo; have QW := Lib.hid qw; have QL := Lib.hid ql; clear qo qw ql
          by_cases hp2 : p < L.length
          · obtain ⟨t, c, st1, st2, st3, st4, st5⟩ := ST.out p hp2
            have C1 := Lib.hid (joinC_any ((Q1.out.later QW.out).drop hp2) (Nat.le_trans (bulk_drop L p) (by have := PB.out; omega)))
            rw [st1] at C1
            dsimp only at C1
            have T4 : t.length ≤ 20001 := by have := PB.out; omega
            have hol : out.length ≤ L.length := by have h1 := LL.out; rw [QL.out, List.length_append] at h1; omega
            have hux := unc_le t
            have S5 := Lib.hid st5; clear st1 st5 st4
            go_wp2_with fail
            refine C1.out.mono ?_
            rintro e w2 ⟨rfl, q⟩
            have W2 := Lib.hid (QW.out.trans (q.mono QW.out.size))
            have O2 := Lib.hid (own_later QO.out q)
            have U := Lib.hid (unc_any (bs t) w2 (by rw [bs_size]; omega) ((M1.out.later QW.out).later q))
            rw [bs_list] at U
            clear q
            go_wp2_with fail
            refine U.out.mono ?_
            rintro e w3 ⟨rfl, q⟩
            have W3 := Lib.hid (W2.out.trans (q.mono W2.out.size))
            have O3 := Lib.hid (own_later O2.out q)
            clear q U C1
            by_cases hu : unc t = []
            · have z : (bs (unc t)).toList.isEmpty = true := by rw [hu]; exact bs_none
              rw [if_pos hu] at S5
              clear hu hux
              go_wp2
              go_roundw
              case rel =>
                refine ⟨p + c, out, st3, by go_num, O3.out, W3.out, ?_⟩
                rw [QL.out, S5.out, List.nil_append]
              case measure => simp [intOf]; omega
            · have z : (bs (unc t)).toList.isEmpty = false := bs_some hu
              rw [if_neg hu] at S5
              clear hu
              have OA : Hid (∀ o, (w3.alloc o).ownsRow w1.heap.size 115 2 u6 out.length (lnCells out)) := fun o => O3.out.alloc o
              have SA : Hid (∀ o, w1.heap.size ≤ (w3.alloc o).heap.size) := fun o => by have := W3.out.size; simp; omega
              have LT : Hid (∀ k, u6.ownBlock = some k → w1.heap.size ≤ k) := fun k hk => (O3.out.lt k hk).1
              have WA : Hid (∀ o, Below w1.heap.size w1 (w3.alloc o)) := fun o => W3.out.alloc W3.out.size o
              generalize unc t = ut at *
              go_wp2_with (at_builtin; go_must (refine wpList_append_own _ rfl (.tmp 42) (.tmp 47) 111 rfl w1.heap.size 115 i0 (.agg #[.int .i64 0, .string ByteArray.empty]) 2 24 Tryz.underlying111 HI.out hz0 hz1 hz2 rfl (by decide) _ _ _ rfl (OA.out _) ⟨w3.heap.size, 0, none⟩ 1 1 [.int .i64 ((p : Int) + 1), .string (bs ut)] rfl rfl (cell_two_new' _ _ _ _) (by intro u hu; simp at hu; rcases hu with rfl | rfl <;> rfl) (by unfold maxLen; omega) (by omega) (SA.out _) ?_; intro v4 w4 q1 q2 q3; have O4 := Lib.hid q1; have G4 := Lib.hid q2; clear q1 q2 q3))
              go_roundw
              case rel =>
                refine ⟨p + c, out ++ [((p : Int) + 1, ut)], st3, by go_num, ?_, (WA.out _).grown G4.out (SA.out _) LT.out, ?_⟩
                · rw [List.length_append, lnCells_snoc]; exact O4.out
                · rw [QL.out, S5.out, List.append_assoc]; rfl
              case measure => simp [intOf]; omega
          · obtain rfl : p = L.length := by omega
            go_wp2
            go_ret2
            unfold JPost; rw [HE.out, QL.out, List.drop_length, linesAt_nil, List.append_nil]
            exact ⟨_, rfl, QO.out.mono Q2.out.size, Q2.out.trans (QW.out.mono Q2.out.size)⟩
end Go.Proofs.YtfgcbdjkimkgpaaGreatDoor
