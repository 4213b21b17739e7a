/-
  Package graph's Make: what it hands back. Conditions: a file of bounded size (FB), the table of math/bits lies in memory as its text lays it (the card ties this).
  The laws' own sameGraph at the same graphs, slices.Equal at the same edges, good of no error. No condition.
-/
import Derived.Test.YtebjofffijnihaaGreatDoorGc26GTl
import Derived.Test.YtebjofffijnihaaGreatDoorGc19FPn
import Derived.Test.YtebjofffijnihaaGreatDoorGc22IFi
import Derived.Test.YtebjofffijnihaaGreatDoorGc25GCh
import Derived.Laws.StructEq
import Derived.Deep.QuietTactic
namespace Go.Proofs.YtebjofffijnihaaGreatDoor
set_option maxRecDepth 100000
set_option linter.unusedVariables false
open Go.ChangeShapes Go.WideShapes Go.ChangeAt Go.RowKit

def zeroM : Value := .agg #[.slice none 0 0, .slice none 0 0, .int .u64 0, .int .u64 0]
/-- what Make hands back -/
def MakePost (F : Fil) (T : List Str) (w : World) (e : Ending) (w' : World) : Prop := Below w.heap.size w w' ∧
  ((∃ c : Int, c ≠ 0 ∧ e = .returned (.tuple #[zeroM, .int .i64 c])) ∨
   (∃ (z : List Rl) (v : Value), JoinR F.2.2.2 z 0 ∧ (namesR (fillL F.2.2.2 z F.2.2.1 T) F.2.1).length ≤ 64 ∧ (∀ x ∈ namesR (fillL F.2.2.2 z F.2.2.1 T) F.2.1, good x = true) ∧ e = .returned (.tuple #[v, .int .i64 0]) ∧ GIn w' v (makeG (fillL F.2.2.2 z F.2.2.1 T) F.2.1)))
theorem mset_grown (w : World) (k i : Nat) (u : Value) : w.grownBy (w.setCell ⟨k, i, none⟩ u) (some k) :=
  ⟨rfl, rfl, rfl, by simp, fun j _ hj => Below.heap_setCell _ _ _ _ (fun e => hj (by rw [e]))⟩
theorem mgrown_trans {a b c : World} {row : Option Nat} (h : a.grownBy b row) (k : b.grownBy c row) : a.grownBy c row :=
  ⟨k.os.trans h.os, k.tape.trans h.tape, k.output.trans h.output, Nat.le_trans h.size k.size, fun i hi hne => (k.block i (Nat.lt_of_lt_of_le hi h.size) hne).trans (h.block i hi hne)⟩
theorem mset4_grown (w : World) (k : Nat) (a b c d : Value) : w.grownBy ((((w.setCell ⟨k, 0, none⟩ a).setCell ⟨k, 1, none⟩ b).setCell ⟨k, 2, none⟩ c).setCell ⟨k, 3, none⟩ d) (some k) :=
  mgrown_trans (mgrown_trans (mgrown_trans (mset_grown _ _ _ _) (mset_grown _ _ _ _)) (mset_grown _ _ _ _)) (mset_grown _ _ _ _)
/-- the argument's box and the result's cells -/
def MR (w : World) (k : Nat) (xs : Array Value) : Prop := Blk k xs 27 w ∧ Blk (k + 1) #[.slice none 0 0, .slice none 0 0, .int .u64 0, .int .u64 0] 32 w
theorem MR.later {w w' : World} {k : Nat} {xs : Array Value} (h : MR w k xs) (hb : Below w.heap.size w w') : MR w' k xs := ⟨h.1.later hb, h.2.later hb⟩
theorem MR.res {w : World} {k : Nat} {xs : Array Value} (h : MR w k xs) : (w.cell? ⟨k + 1, 0, none⟩ = some (.slice none 0 0) ∧ w.cell? ⟨k + 1, 1, none⟩ = some (.slice none 0 0) ∧ w.cell? ⟨k + 1, 2, none⟩ = some (.int .u64 0) ∧ w.cell? ⟨k + 1, 3, none⟩ = some (.int .u64 0)) ∧
    w.frozen? ⟨k + 1, 0, none⟩ = false ∧ w.frozen? ⟨k + 1, 1, none⟩ = false ∧ w.frozen? ⟨k + 1, 2, none⟩ = false ∧ w.frozen? ⟨k + 1, 3, none⟩ = false :=
  ⟨⟨h.2.cell rfl, h.2.cell rfl, h.2.cell rfl, h.2.cell rfl⟩, h.2.free 0, h.2.free 1, h.2.free 2, h.2.free 3⟩
theorem MR.arg {w : World} {k : Nat} {a b c d : Value} (h : MR w k #[a, b, c, d]) : w.cell? ⟨k, 0, none⟩ = some a ∧ w.cell? ⟨k, 1, none⟩ = some b ∧ w.cell? ⟨k, 2, none⟩ = some c ∧ w.cell? ⟨k, 3, none⟩ = some d := ⟨h.1.cell rfl, h.1.cell rfl, h.1.cell rfl, h.1.cell rfl⟩
theorem mr_new (w : World) (xs : Array Value) : MR ((w.alloc (.cells xs 27)).alloc (.cells #[.slice none 0 0, .slice none 0 0, .int .u64 0, .int .u64 0] 32)) w.heap.size xs := by
  refine ⟨(blk_new w _ 27).alloc _, ?_⟩
  have := blk_new (w.alloc (.cells xs 27)) #[.slice none 0 0, .slice none 0 0, .int .u64 0, .int .u64 0] 32
  rwa [show (w.alloc (.cells xs 27)).heap.size = w.heap.size + 1 by simp] at this
theorem mbelow2 (w : World) (o1 o2 : Obj) : Below w.heap.size w ((w.alloc o1).alloc o2) := (below_al w o1).alloc (below_al w o1).size o2
/-- what Merge answers, in one form -/
theorem merge_one {w : World} {va vb : Value} {za zb : List Str} (ha : SIn w va za) (hb : SIn w vb zb) (hsum : za.length + zb.length ≤ 17592186044416) :
    Calls Tryz.prog 14 #[va, vb] w fun e w' => ∃ (a : Option Addr) (n c : Nat) (x : Int), e = .returned (.tuple #[.slice a n c, .int .i64 x]) ∧ Below w.heap.size w w' ∧
      (x ≠ 0 ∨ (x = 0 ∧ (za ++ zb).all good = true ∧ (uniq (za ++ zb)).length ≤ 64 ∧ n = (uniq (za ++ zb)).length ∧ SIn w' (.slice a n c) (uniq (za ++ zb)))) :=
  (merge_any ha hb hsum).mono fun e w' ⟨b, k⟩ => by
    rcases k with ⟨k1, k2, v, rfl, o⟩ | ⟨_, _, rfl⟩ | ⟨_, rfl⟩
    · have sv := SIn.own o (by omega) (fun x hx => by
        have := good_len (List.all_eq_true.1 k1 x (uniq_mem.1 hx)); omega)
      obtain ⟨a, c, rfl⟩ := sv.shape
      exact ⟨a, _, c, 0, rfl, b, .inr ⟨rfl, k1, k2, rfl, sv⟩⟩
    · exact ⟨none, 0, 0, 2, rfl, b, .inl (by decide)⟩
    · exact ⟨none, 0, 0, 3, rfl, b, .inl (by decide)⟩
theorem fillL_rb {l z : List Rl} (hj : JoinR l z 0) {I : List Mc} {T : List Str} (h64 : (uniq (uniq (namesJ z) ++ T)).length ≤ 64) : RB (fillL l z I T) := by
  have hJ := hj.joined
  constructor
  · unfold fillL
    have h1 := List.length_filterMap_le (fillOne l I (uniq (uniq (namesJ z) ++ T))) (uniq (namesJ z))
    have h2 : (uniq (namesJ z)).length ≤ (uniq (uniq (namesJ z) ++ T)).length := up_sub (uniq_up _) (uniq_up _) fun x hx => uniq_mem.2 (List.mem_append_left _ hx)
    omega
  · intro k hk
    obtain ⟨s, _, h1, h2⟩ := fill_rule hk
    rw [h1]
    refine ⟨by simp, ?_⟩
    rcases h2 with ⟨h3, h4⟩ | ⟨_, h4⟩ | ⟨_, a, _, h4⟩
    · rw [h4]
      by_cases hm : s ∈ uniq (allT l)
      · exact hJ.needs s hm
      · rw [needs_target hm]; simp
    · rw [h4]; simp
    · rw [h4]; simp
theorem fillR_few {l z : List Rl} {I : List Mc} {T : List Str} (h : (fillR l z 0 I T).2 = 0) : (uniq (uniq (namesJ z) ++ T)).length ≤ 64 := by
  obtain ⟨_, hE, hT, _⟩ := fillR_zero h
  by_cases h64 : (uniq (uniq (namesJ z) ++ T)).length ≤ 64
  · exact h64
  · rw [fillR_many hE hT (by omega)] at h; cases h

/-! what lies elsewhere than in a block that holds no strings, no numbers stays when that block is written -/
theorem sin_keep {w w' : World} {p : Nat} {cs : Array Value} {t : TypeId} {v : Value} {z : List Str} (hb : Blk p cs t w) (hs : ∀ (i : Nat) (s : ByteArray), cs[i]? ≠ some (Value.string s)) (hg : w.grownBy w' (some p)) (h : SIn w v z) : SIn w' v z := by
  obtain ⟨a, cap, rfl, h1, h2, h3, h4⟩ := h
  refine ⟨a, cap, rfl, h1, h2, h3, ?_⟩
  rcases h4 with h4 | ⟨b, off, rfl, hlt, hc⟩
  · exact .inl h4
  by_cases h0 : z = []
  · exact .inl h0
  have hpos : 0 < z.length := List.length_pos_iff.2 h0
  have hne : b ≠ p := by
    rintro rfl
    have := hc 0 hpos
    unfold World.cell? at this
    unfold Blk at hb
    simp only [hb] at this
    exact hs _ _ this
  refine .inr ⟨b, off, rfl, Nat.lt_of_lt_of_le hlt hg.size, fun k hk => ?_⟩
  have hck := hc k hk
  unfold World.cell? at hck ⊢
  rw [hg.block b hlt (fun e => hne (Option.some.inj e))]
  exact hck
theorem ein_keep {w w' : World} {p : Nat} {cs : Array Value} {t : TypeId} {v : Value} {z : List Ed} (hb : Blk p cs t w) (hs : ∀ (i : Nat) (n : Int), cs[i]? ≠ some (Value.int .i64 n)) (hg : w.grownBy w' (some p)) (h : EIn w v z) : EIn w' v z := by
  obtain ⟨a, cap, rfl, h1, h2, h3, h4⟩ := h
  refine ⟨a, cap, rfl, h1, h2, h3, ?_⟩
  rcases h4 with h4 | ⟨b, off, rfl, hlt, hc⟩
  · exact .inl h4
  refine .inr ⟨b, off, rfl, Nat.lt_of_lt_of_le hlt hg.size, fun k x hk => ?_⟩
  have hck := hc k x hk
  have hne : b ≠ p := by
    rintro rfl
    have := hck.1
    unfold World.cell? at this
    unfold Blk at hb
    simp only [hb] at this
    exact hs _ _ this
  unfold World.cell? at hck ⊢
  rw [hg.block b hlt (fun e => hne (Option.some.inj e))]
  exact hck
theorem no_str4 {a b c d : Value} (ha : ∀ s, a ≠ Value.string s) (hb : ∀ s, b ≠ Value.string s) (hc : ∀ s, c ≠ Value.string s) (hd : ∀ s, d ≠ Value.string s) : ∀ (i : Nat) (s : ByteArray), (#[a, b, c, d] : Array Value)[i]? ≠ some (Value.string s)
  | 0, s, e => ha s (Option.some.inj (show some a = some (Value.string s) from e))
  | 1, s, e => hb s (Option.some.inj (show some b = some (Value.string s) from e))
  | 2, s, e => hc s (Option.some.inj (show some c = some (Value.string s) from e))
  | 3, s, e => hd s (Option.some.inj (show some d = some (Value.string s) from e))
  | n + 4, s, e => by simp at e
theorem no_int4 {a b c d : Value} (ha : ∀ s, a ≠ Value.int .i64 s) (hb : ∀ s, b ≠ Value.int .i64 s) (hc : ∀ s, c ≠ Value.int .i64 s) (hd : ∀ s, d ≠ Value.int .i64 s) : ∀ (i : Nat) (s : Int), (#[a, b, c, d] : Array Value)[i]? ≠ some (Value.int .i64 s)
  | 0, s, e => ha s (Option.some.inj (show some a = some (Value.int .i64 s) from e))
  | 1, s, e => hb s (Option.some.inj (show some b = some (Value.int .i64 s) from e))
  | 2, s, e => hc s (Option.some.inj (show some c = some (Value.int .i64 s) from e))
  | 3, s, e => hd s (Option.some.inj (show some d = some (Value.int .i64 s) from e))
  | n + 4, s, e => by simp at e
theorem rowsR_take {Z : List Str} {R : List Rl} {k : Nat} (h : k < R.length) : rowsR Z (R.take (k + 1)) = rowIn (rowsR Z (R.take k)) (setB Z (nd R k)) (nums (setB Z (tg R k))) := by
  unfold rowsR; rw [rl_take h, List.foldl_append]; rfl
theorem madeG_take {Z : List Str} {R : List Rl} {k : Nat} (h : k < R.length) : madeG Z (R.take (k + 1)) = madeG Z (R.take k) ||| setB Z (tg R k) := by
  unfold madeG; rw [rl_take h, List.foldl_append]; rfl
theorem rowIn_next {rw : List Bv} {u : Bv} {l : List Nat} {j n : Nat} (h : l[j]? = some n) : rowIn rw u (l.take (j + 1)) = orAt (rowIn rw u (l.take j)) n u := by
  rw [List.take_add_one, h]; exact rowIn_snoc _ _ _ _

set_option maxHeartbeats 16000000 in
theorem make_any {w : World} {vm vp vi vr t : Value} {F : Fil} {T : List Str} (h : FIn w vm vp vi vr F) (hb : FB F) (hi : IIn w vi F.2.2.1) (hT : SIn w t T) (hl : T.length ≤ 17592186036224) (hp : F.2.1.length ≤ 16777216) (ht : Tab w) :
    Calls Tryz.prog 5 #[.agg #[vm, vp, vi, vr], t] w (MakePost F T w) := by
  have CF := Lib.hid (fun W (hW : Below w.heap.size w W) => check_file (h.later hW) hb)
  have FA := Lib.hid (fun W (hW : Below w.heap.size w W) => fill_any (h.rul.later hW) (hi.later hW) (hT.later hW) hl)
  have HP := Lib.hid h.pho
  have MGJ : Hid (∀ (u : Value) (N : List Str) W, SIn W u N → N.length ≤ 8192 → Below w.heap.size w W → Calls Tryz.prog 14 #[u, vp] W fun e w' => ∃ (a : Option Addr) (n c : Nat) (x : Int), e = .returned (.tuple #[.slice a n c, .int .i64 x]) ∧ Below W.heap.size W w' ∧
      (x ≠ 0 ∨ (x = 0 ∧ (N ++ F.2.1).all good = true ∧ (uniq (N ++ F.2.1)).length ≤ 64 ∧ n = (uniq (N ++ F.2.1)).length ∧ SIn w' (.slice a n c) (uniq (N ++ F.2.1))))) := fun u N W hu hN hW => merge_one hu (h.pho.later hW) (by omega)
  have HT := Lib.hid ht
  have M0 := Lib.hid (mr_new w #[vm, vp, vi, vr])
  have W0 := Lib.hid (mbelow2 w (.cells #[vm, vp, vi, vr] 27) (.cells #[.slice none 0 0, .slice none 0 0, .int .u64 0, .int .u64 0] 32))
  obtain ⟨a1, c1, a2, c2, a3, c3, a4, c4, rfl, rfl, rfl, rfl⟩ := h.shapes
  obtain ⟨a5, c5, rfl⟩ := hT.shape
  obtain ⟨d0, d1, d2, d3⟩ := M0.out.arg
  obtain ⟨⟨r0, r1, r2, r3⟩, f0, f1, f2, f3⟩ := M0.out.res
  clear h hT hi ht
  generalize F.1.length = n1 at *
  generalize F.2.1.length = n2 at *
  generalize F.2.2.1.length = n3 at *
  generalize F.2.2.2.length = n4 at *
  generalize T.length = n5 at *
  go_enter Tryz.func5, Tryz.ntmps5
  go_wp2_with fail
  refine (CF.out _ W0.out).mono ?_
  rintro e w1 ⟨rfl, b1⟩
  have B1 := Lib.hid (W0.out.trans (b1.mono W0.out.size))
  have M1 := Lib.hid (M0.out.later b1)
  clear d0 d1 d2 d3 r0 r1 r2 r3 f0 f1 f2 f3 b1 M0 W0
  by_cases hcz : (printF F).2 ≠ 0
  · have t1 := zero_ne hcz
    have HNZ := Lib.hid hcz
    obtain ⟨⟨r0, r1, r2, r3⟩, f0, f1, f2, f3⟩ := M1.out.res
    clear hcz CF FA
    generalize hC : (printF F).2 = C at *
    clear hC
    go_wp2
    (try simp only [Exit.inBlock, Exit.then])
    refine bodyPost_ret (v := .tuple #[zeroM, .int .i64 C]) ?_ rfl ⟨?_, .inl ⟨C, HNZ.out, rfl⟩⟩
    · rw [results_cell_tmp rfl]; go_simp; rfl
    · exact B1.out.grown (mset4_grown w1 (w.heap.size + 1) _ _ _ _) B1.out.size (fun q hq => by cases hq; omega)
  have hcz0 := Decidable.not_not.1 hcz
  rw [hcz0]
  clear hcz hcz0 CF
  obtain ⟨d0, d1, d2, d3⟩ := M1.out.arg
  go_wp2_with fail
  refine (FA.out _ B1.out).mono ?_
  rintro e w2 ⟨z, x, v2, hj, rfl, hr, b2⟩
  have B2 := Lib.hid (B1.out.trans (b2.mono B1.out.size))
  have M2 := Lib.hid (M1.out.later b2)
  clear d0 d1 d2 d3 b2 M1 FA
  by_cases hcz : (fillR F.2.2.2 z x F.2.2.1 T).2 ≠ 0
  · have t1 := zero_ne hcz
    have HNZ := Lib.hid hcz
    obtain ⟨⟨r0, r1, r2, r3⟩, f0, f1, f2, f3⟩ := M2.out.res
    clear hcz hr hj
    generalize hC : (fillR F.2.2.2 z x F.2.2.1 T).2 = C at *
    clear hC
    go_wp2
    (try simp only [Exit.inBlock, Exit.then])
    refine bodyPost_ret (v := .tuple #[zeroM, .int .i64 C]) ?_ rfl ⟨?_, .inl ⟨C, HNZ.out, rfl⟩⟩
    · rw [results_cell_tmp rfl]; go_simp; rfl
    · exact B2.out.grown (mset4_grown w2 (w.heap.size + 1) _ _ _ _) B2.out.size (fun q hq => by cases hq; omega)
  have hcz0 := Decidable.not_not.1 hcz
  obtain ⟨rfl, hE, hTg, hF⟩ := fillR_zero hcz0
  have rb := fillL_rb hj (I := F.2.2.1) (fillR_few hcz0)
  have NS : Hid (∀ x ∈ namesJ (fillL F.2.2.2 z F.2.2.1 T), x.length ≤ 9223372036854775807) := fun x hx => by
    unfold namesJ at hx
    obtain ⟨r, hr', hx'⟩ := List.mem_flatMap.1 hx
    obtain ⟨_, h1, h2⟩ := (fill_small hj.joined (fillR_few hcz0) hTg).2 r hr'
    rcases List.mem_append.1 hx' with k | k
    · exact h1 x k
    · exact h2 x k
  rw [hF] at hr ⊢
  have HJ := Lib.hid hj
  clear hcz hcz0 hE hTg hF hj
  generalize hR0 : fillL F.2.2.2 z F.2.2.1 T = R at *
  have HR0 := Lib.hid hR0; clear hR0
  have HR := Lib.hid hr
  have NG := Lib.hid (fun W (hW : Below w2.heap.size w2 W) => namesG_any (HR.out.later hW) rb)
  have RB64 := Lib.hid rb
  have BT : Hid (∀ W, Below w2.heap.size w2 W → Below w.heap.size w W) := fun W hW => B2.out.trans (hW.mono B2.out.size)
  have MF : Hid (∀ W, Below w2.heap.size w2 W → MR W w.heap.size #[.slice a1 n1 c1, .slice a2 n2 c2, .slice a3 n3 c3, .slice a4 n4 c4]) := fun W hW => M2.out.later hW
  have PF : Hid (∀ W, Below w2.heap.size w2 W → SIn W (.slice a2 n2 c2) F.2.1) := fun W hW => HP.out.later (BT.out _ hW)
  have KB : Hid (∀ W, Below w2.heap.size w2 W → W.cell? ⟨w.heap.size, 1, none⟩ = some (.slice a2 n2 c2)) := fun W hW => (MF.out W hW).arg.2.1
  have BD : Hid (Below w2.heap.size w2 w2) := Below.refl _ _
  obtain ⟨aR, cR, rfl, _⟩ := id HR.out
  generalize hRn : R.length = nR at *
  have HRN := Lib.hid hRn
  clear hRn hr rb M2 HP
  have d1 := KB.out w2 (Below.refl _ _)
  go_wp2_with fail
  go_region_held3 (fun w' => w'.cell? ⟨w.heap.size, 1, none⟩ = some (.slice a2 n2 c2)) (first | exact d1 | exact k1 | exact KB.out _ BD.out.drew | exact KB.out _ BD.out | assumption | go_keep) (first
    | (go_at_call 15
       refine (NG.out _ BD.out.drew).mono ?_
       rintro e w3 ⟨a6, c6, rfl, o3, h3, b3⟩
       have BD : Hid (Below w2.heap.size w2 w3) := BD.out.drew.trans b3
       have k1 := KB.out _ BD.out
       have S3 := Lib.hid (SIn.own o3 (by omega) NS.out)
       clear o3 b3)
    | (go_at_call 14
       refine (MGJ.out _ _ _ S3.out h3 (BT.out _ BD.out)).mono ?_
       rintro e w4 ⟨a7, n7, c7, x7, rfl, b4, hm⟩
       have BD : Hid (Below w2.heap.size w2 w4) := BD.out.trans (b4.mono BD.out.size)
       have k1 := KB.out _ BD.out
       have HM := Lib.hid hm
       clear b4 hm))
  have PH4 := Lib.hid (PF.out _ BD.out)
  have M4 := Lib.hid (MF.out _ BD.out)
  have B4 := Lib.hid (BT.out _ BD.out)
  have R4 := Lib.hid (HR.out.later BD.out)
  clear NG MGJ KB PF MF k1 d1 S3 h3 NS
  rcases HM.out with hx | ⟨rfl, hg, h64, rfl, sz⟩
  · have t1 := zero_ne hx
    have HNZ := Lib.hid hx
    obtain ⟨⟨r0, r1, r2, r3⟩, f0, f1, f2, f3⟩ := M4.out.res
    clear hx HM
    go_wp2
    (try simp only [Exit.inBlock, Exit.then])
    refine bodyPost_ret (v := .tuple #[zeroM, .int .i64 x7]) ?_ rfl ⟨?_, .inl ⟨x7, HNZ.out, rfl⟩⟩
    · rw [results_cell_tmp rfl]; go_simp; rfl
    · exact B4.out.grown (mset4_grown w4 (w.heap.size + 1) _ _ _ _) B4.out.size (fun q hq => by cases hq; omega)
  clear HM
  have GD : Hid (∀ x ∈ namesR R F.2.1, good x = true) := fun x hx => List.all_eq_true.1 hg x (uniq_mem.1 hx)
  have hup : Hid (Up (namesR R F.2.1)) := Lib.hid (uniq_up _)
  have NI := Lib.hid (names_in R F.2.1)
  have PI := Lib.hid (phony_in R F.2.1)
  have MV : Hid (∀ W v, GIn W v (makeG R F.2.1) → GIn W v ⟨namesR R F.2.1, edgesL (rowsR (namesR R F.2.1) R), setB (namesR R F.2.1) F.2.1, madeG (namesR R F.2.1) R⟩) := fun _ _ h => h
  change (namesR R F.2.1).length ≤ 64 at h64
  change SIn w4 (.slice a7 (namesR R F.2.1).length c7) (namesR R F.2.1) at sz
  have eN : (uniq (namesJ R ++ F.2.1)) = namesR R F.2.1 := rfl
  rw [eN]
  generalize hZ : namesR R F.2.1 = Z at *
  have NB := Lib.hid (fun W u l (hW : Below w4.heap.size w4 W) (hu : SIn W u l) (hl : ∀ x ∈ l, x ∈ Z) => numbersOf_any (sz.later hW) hup.out h64 hu hl)
  have SZ := Lib.hid sz
  have H64 := Lib.hid h64
  have HZ := Lib.hid hZ
  have hzl : Z.length ≤ 64 := h64
  clear hZ sz hg eN h64
  generalize hLZ : Z.length = L at *
  obtain ⟨d0, d1, d2, d3⟩ := M4.out.arg
  go_wp2_with fail
  refine (NB.out _ _ _ (Below.refl _ _) PH4.out PI.out).mono ?_
  rintro e w5 ⟨rfl, b5⟩
  obtain ⟨i0, hi, hz0, hz1, hz2⟩ := info_parts infoW
  have B5 := Lib.hid b5
  clear b5 d0 d1 d2 d3 PI PH4
  generalize hph : setB Z F.2.1 = PH at *
  have EPH := Lib.hid hph; clear hph
  have GB0 := blk_new w5 #[.slice a7 L c7, .slice none 0 0, .int .u64 (PH.toNat : Int), .int .u64 0] 32
  obtain ⟨w6, rmk, o6, g6⟩ := run_make_full (P := Tryz.prog) (w5.alloc (.cells #[.slice a7 L c7, .slice none 0 0, .int .u64 (PH.toNat : Int), .int .u64 0] 32)) w5.heap.size 46 30 i0 (.int .u64 0) 1 Tryz.underlying46 hi hz0 hz1 .i64 .i64 L (by rw [hz2]; omega) (by unfold maxLen; omega) (by simp)
  rw [zeros_w] at o6
  have GB6 := Lib.hid (blk_grown GB0 g6 (fun q hq => by cases hq))
  have B6 : Hid (Below w5.heap.size w5 w6) := ((Below.refl _ w5).alloc (Nat.le_refl _) _).grown g6 (by simp) (fun q hq => by cases hq)
  have e1 : (w5.alloc (.cells #[.slice a7 L c7, .slice none 0 0, .int .u64 (PH.toNat : Int), .int .u64 0] 32)).heap.size = w5.heap.size + 1 := by simp
  rw [e1] at o6 rmk
  have RL : Hid (∀ k, (rowsR Z (R.take k)).length = L) := fun k => by rw [rowsR_length]; exact hLZ
  have O6 : Hid (WO w5.heap.size (.slice (some ⟨w5.heap.size + 1, 0, none⟩) L L) (rowsR Z (R.take 0)) w6) := by
    have e2 : rowsR Z (R.take 0) = List.replicate L 0#64 := by rw [← hLZ]; rfl
    unfold WO
    rw [e2, List.length_replicate]; exact o6
  have M0' : Hid (madeG Z (R.take 0) = 0#64) := Lib.hid rfl
  clear GB0 o6 g6 hi hz0 hz1 hz2 e1
  go_wp2_with fail
  obtain ⟨_, capR, eR, hcapR, _, _, h5⟩ := id R4.out
  injection eR with eR1 eR2 eR3
  subst eR1 eR3
  clear eR2
  have B4' : Hid (∀ W, Below w5.heap.size w5 W → Below w4.heap.size w4 W) := fun W hW => B5.out.trans (hW.mono B5.out.size)
  obtain ⟨Tx, Ux, HC⟩ : ∃ Tx Ux : Nat → Value, Hid (∀ W, Below w5.heap.size w5 W → ∀ k, k < nR → ∃ b off, aR = some ⟨b, off, none⟩ ∧ W.cell? ⟨b, off + k * 2, none⟩ = some (Tx k) ∧ W.cell? ⟨b, off + k * 2 + 1, none⟩ = some (Ux k) ∧ SIn W (Tx k) (tg R k) ∧ SIn W (Ux k) (nd R k)) := by
    rcases h5 with rfl | ⟨b, off, ha, hlt, Tx, Ux, hc⟩
    · exact ⟨fun _ => .bool false, fun _ => .bool false, fun W hW k hk => by rw [← HRN.out] at hk; exact absurd hk (Nat.not_lt_zero _)⟩
    · refine ⟨Tx, Ux, fun W hW k hk => ?_⟩
      rw [← HRN.out] at hk
      have hW4 := B4'.out W hW
      exact ⟨b, off, ha, cell_later hW4 (hc k hk).1, cell_later hW4 (hc k hk).2.1, (hc k hk).2.2.1.later hW4, (hc k hk).2.2.2.later hW4⟩
  have NIk : Hid (∀ k, k < nR → (∀ x ∈ tg R k, x ∈ Z) ∧ ∀ x ∈ nd R k, x ∈ Z) := fun k hk => by
    rw [← HRN.out] at hk
    exact NI.out _ (rl_mem hk)
  have RT : Hid (∀ k, k < nR → rowsR Z (R.take (k + 1)) = rowIn (rowsR Z (R.take k)) (setB Z (nd R k)) (nums (setB Z (tg R k)))) := fun k hk => rowsR_take (by rw [HRN.out]; exact hk)
  have MT : Hid (∀ k, k < nR → madeG Z (R.take (k + 1)) = madeG Z (R.take k) ||| setB Z (tg R k)) := fun k hk => madeG_take (by rw [HRN.out]; exact hk)
  have RE : Hid (rowsR Z (R.take nR) = rowsR Z R ∧ madeG Z (R.take nR) = madeG Z R) := Lib.hid (by rw [← HRN.out, List.take_length]; exact ⟨rfl, rfl⟩)
  have SL : Hid (∀ l n, (∀ x ∈ l, x ∈ Z) → n ∈ nums (setB Z l) → n < L) := fun l n hl hn => by rw [← hLZ]; exact setB_nums hup.out hl hn
  have LS : Hid (∀ (s : Bv) W, Below w5.heap.size w5 W → Calls Tryz.prog 17 #[.int .u64 (s.toNat : Int)] W (ListPost s W)) := fun s W hW => by
    have b := BT.out _ (BD.out.trans ((B4'.out W hW).mono BD.out.size))
    exact list_any s W (HT.out.below b HT.out.1)
  clear h5 NI hLZ
  generalize hq : w5.heap.size = q at *
  have HQ := Lib.hid hq; clear hq
  go_loopw [59] (fun i wr => ∃ k : Nat, k ≤ nR ∧ i = .int .i64 (k : Int) ∧ Blk q #[.slice a7 L c7, .slice none 0 0, .int .u64 (PH.toNat : Int), .int .u64 ((madeG Z (R.take k)).toNat : Int)] 32 wr ∧ WO q (.slice (some ⟨q + 1, 0, none⟩) L L) (rowsR Z (R.take k)) wr ∧ Below q w5 wr) (fun i _ => nR - (intOf i).toNat)
  case atStart => exact ⟨0, Nat.zero_le _, rfl, GB6.out, O6.out, B6.out⟩
  case round =>
    obtain ⟨k, hk, rfl, qg, qo, qb⟩ := hrel
    have QG := Lib.hid qg; have QO := Lib.hid qo; have QB := Lib.hid qb; clear qg qo qb
    have hsz : q ≤ wr.heap.size := by have := QB.out.size; rw [HQ.out] at this; exact this
    by_cases hkl : k < nR
    · obtain ⟨xb, off, rfl, c0, c1', st, su⟩ := HC.out wr QB.out k hkl
      have SU : Hid (∀ W, Below q w5 W → SIn W (Ux k) (nd R k)) := fun W hW => by obtain ⟨_, _, _, _, _, _, h⟩ := HC.out W hW k hkl; exact h
      have ST : Hid (∀ W, Below q w5 W → SIn W (Tx k) (tg R k)) := fun W hW => by obtain ⟨_, _, _, _, _, h, _⟩ := HC.out W hW k hkl; exact h
      obtain ⟨nt, nn⟩ := NIk.out k hkl
      have RTk := Lib.hid (RT.out k hkl); have MTk := Lib.hid (MT.out k hkl)
      have SLk := Lib.hid (fun n => SL.out (tg R k) n nt)
      have NN := Lib.hid nn
      have RLk := RL.out k
      obtain ⟨at', ct, et⟩ := st.shape
      obtain ⟨an', cn, eu⟩ := su.shape
      rw [et] at c0 ST; rw [eu] at c1' SU
      have WA : Hid (Below q w5 (wr.alloc (.cells #[.slice at' (tg R k).length ct, .slice an' (nd R k).length cn] 40))) := QB.out.alloc hsz _
      have X0 : Hid (Blk wr.heap.size #[.slice at' (tg R k).length ct, .slice an' (nd R k).length cn] 40 (wr.alloc (.cells #[.slice at' (tg R k).length ct, .slice an' (nd R k).length cn] 40))) := blk_new _ _ _
      have N1 := Lib.hid (NB.out _ _ (tg R k) (B4'.out _ WA.out) (ST.out _ WA.out) nt)
      have G1 := Lib.hid (QG.out.alloc (.cells #[.slice at' (tg R k).length ct, .slice an' (nd R k).length cn] 40))
      have O1 := Lib.hid (World.ownsRow.alloc QO.out (.cells #[.slice at' (tg R k).length ct, .slice an' (nd R k).length cn] 40))
      have hqw : q < wr.heap.size := QG.out.lt
      have hqy : q + 1 < wr.heap.size := (World.ownsRow.lt QO.out (q + 1) rfl).2
      clear et eu st su nt nn QG QO ST
      generalize (tg R k).length = lt at *
      generalize hln : (nd R k).length = ln at *
      clear hln
      go_wp2_with fail
      refine N1.out.mono ?_
      rintro e w7 ⟨rfl, b7⟩
      have B7 : Hid (Below q w5 w7) := WA.out.trans (b7.mono (by simp; omega))
      have X7 := Lib.hid (X0.out.later b7)
      have G7 := Lib.hid (G1.out.later b7)
      have O7 := Lib.hid (own_later O1.out b7)
      generalize hs1 : setB Z (tg R k) = s1 at *
      generalize hmd : madeG Z (R.take k) = md at *
      have g3 := G7.out.cell (i := 3) rfl
      have f3 := G7.out.free 3
      have e1 : bits .or .u64 (md.toNat : Int) (s1.toNat : Int) = ((md ||| s1).toNat : Int) := bv_or _ _
      generalize (md ||| s1) = m2 at *
      obtain ⟨w8, h8⟩ : ∃ w8, w8 = w7.setCell ⟨q, 3, none⟩ (.int .u64 (m2.toNat : Int)) := ⟨_, rfl⟩
      have G8 : Hid (Blk q #[.slice a7 L c7, .slice none 0 0, .int .u64 (PH.toNat : Int), .int .u64 (m2.toNat : Int)] 32 w8) := by rw [h8]; exact Blk.set G7.out 3 _
      have B8 : Hid (Below q w5 w8) := by rw [h8]; exact B7.out.setCell (Nat.le_refl _) _
      have X8 : Hid (Blk wr.heap.size #[.slice at' lt ct, .slice an' ln cn] 40 w8) := by rw [h8]; exact Blk.other X7.out (by show wr.heap.size ≠ q; omega) _
      have O8 : Hid (WO q (.slice (some ⟨q + 1, 0, none⟩) L L) (rowsR Z (R.take k)) w8) := by
        rw [h8]; exact World.ownsRow.kept O7.out (mset_grown _ _ _ _) (.inr (by show some (q + 1) ≠ some q; intro e; injection e with e; omega))
      have H8 := Lib.hid h8
      have LA := Lib.hid ((LS.out s1 w8 B8.out).mono (fun _ _ => list_blk))
      clear b7 h8 N1 X0 G1 O1 WA X7 O7 G7
      generalize wr.heap.size = yb at *
      have hmd' := Lib.hid hmd; have hs1' := Lib.hid hs1; clear hmd hs1
      go_wp2_with fail
      rw [← H8.out]
      refine LA.out.mono ?_
      rintro e w9 ⟨rfl, b9, cur, kb, hcur⟩
      have CUR := Lib.hid hcur
      have B9 : Hid (Below q w5 w9) := B8.out.trans (b9.mono (by have := B8.out.size; rw [HQ.out] at this; exact this))
      have G9 := Lib.hid (G8.out.later b9); have X9 := Lib.hid (X8.out.later b9); have O9 := Lib.hid (own_later O8.out b9); have K9 := Lib.hid kb
      clear hcur b9 kb LA
      have hlb : yb < w8.heap.size := X8.out.lt
      generalize w8.heap.size = lb at *
      have RN : Hid (∀ j n, (nums s1)[j]? = some n → rowIn (rowsR Z (R.take k)) (setB Z (nd R k)) ((nums s1).take (j + 1)) = orAt (rowIn (rowsR Z (R.take k)) (setB Z (nd R k)) ((nums s1).take j)) n (setB Z (nd R k))) := fun j n h => rowIn_next h
      have RLn : Hid (∀ j, (rowIn (rowsR Z (R.take k)) (setB Z (nd R k)) ((nums s1).take j)).length = L) := fun j => by rw [rowIn_length]; exact RLk
      have RZ : Hid (rowIn (rowsR Z (R.take k)) (setB Z (nd R k)) ((nums s1).take 0) = rowsR Z (R.take k)) := Lib.hid rfl
      have REn : Hid (rowIn (rowsR Z (R.take k)) (setB Z (nd R k)) ((nums s1).take (cnt s1)) = rowsR Z (R.take (k + 1))) := Lib.hid (by rw [RTk.out, List.take_of_length_le (l := nums s1) (by rw [nums_length]; exact Nat.le_refl _)])
      have NG := Lib.hid (fun j hj => nums_get s1 j hj)
      have NM : Hid (∀ n, n < 64 → s1.getLsbD n = true → n < L) := fun n h1 h2 => SLk.out n (nums_mem.2 ⟨h1, h2⟩)
      have NB2 : Hid (∀ W, Below q w5 W → Calls Tryz.prog 16 #[.slice a7 L c7, .slice an' ln cn] W fun e w' => e = .returned (.int .u64 ((setB Z (nd R k)).toNat : Int)) ∧ Below W.heap.size W w') := fun W hW => NB.out W _ (nd R k) (B4'.out _ hW) (SU.out _ hW) NN.out
      have hcn := cnt_le s1
      generalize rowsR Z (R.take k) = rk at *
      generalize setB Z (nd R k) = u at *
      generalize nums s1 = ns at *
      generalize cnt s1 = C at *
      have O9' : Hid (WO q (.slice (some ⟨q + 1, 0, none⟩) L L) (rowIn rk u (ns.take 0)) w9) := by rw [RZ.out]; exact O9.out
      clear c0 c1' g3 f3 e1 O9 RLk
      go_wp2_with fail
      go_loopw [75] (fun i wr => ∃ j : Nat, j ≤ C ∧ i = .int .i64 (j : Int) ∧ WO q (.slice (some ⟨q + 1, 0, none⟩) L L) (rowIn rk u (ns.take j)) wr ∧ Blk q #[.slice a7 L c7, .slice none 0 0, .int .u64 (PH.toNat : Int), .int .u64 (m2.toNat : Int)] 32 wr ∧ Blk yb #[.slice at' lt ct, .slice an' ln cn] 40 wr ∧ Blk lb cur 3 wr ∧ Below q w5 wr) (fun i _ => C - (intOf i).toNat)
      case atStart => exact ⟨0, Nat.zero_le _, rfl, O9'.out, G9.out, X9.out, K9.out, B9.out⟩
      case round =>
        obtain ⟨j, hj, rfl, jo, jg, jx, jk, jb⟩ := hrel
        have JO := Lib.hid jo; have JG := Lib.hid jg; have JX := Lib.hid jx; have JK := Lib.hid jk; have JB := Lib.hid jb
        clear jo jg jx jk jb
        have hsz2 : q ≤ wr.heap.size := by have := JB.out.size; rw [HQ.out] at this; exact this
        by_cases hjl : j < C
        · obtain ⟨n, n1, n2, _, n4⟩ := NG.out j hjl
          have hnL := NM.out n n1 n2
          have cj := JK.out.cell (CUR.out j n n4)
          have RNj := Lib.hid (RN.out j n n4)
          have RLj := RLn.out j
          have RLj' := RLn.out (j + 1)
          generalize rowIn rk u (ns.take j) = r at *
          have OA : ∀ W, Below wr.heap.size wr W → WO q (.slice (some ⟨q + 1, 0, none⟩) r.length L) r W := fun W hW => by rw [RLj]; exact own_later JO.out hW
          have CR : Hid (∀ W, Below wr.heap.size wr W → W.cell? ⟨q + 1, n, none⟩ = some (.int .u64 ((wAt r n).toNat : Int)) ∧ W.cell? ⟨yb, 1, none⟩ = some (.slice an' ln cn)) := fun W hW => ⟨(OA W hW).cell (by omega), (JX.out.later hW).cell rfl⟩
          have OF : Hid (∀ W, Below wr.heap.size wr W → W.frozen? ⟨q + 1, n, none⟩ = false) := fun W hW => (OA W hW).frozen n
          have OS : Hid (∀ W, Below wr.heap.size wr W → WO q (.slice (some ⟨q + 1, 0, none⟩) L L) (orAt r n u) (W.setCell ⟨q + 1, n, none⟩ (.int .u64 ((wAt r n ||| u).toNat : Int))) ∧ W.grownBy (W.setCell ⟨q + 1, n, none⟩ (.int .u64 ((wAt r n ||| u).toNat : Int))) (some (q + 1))) := fun W hW => by
            have := (OA W hW).store n u
            rw [RLj] at this; exact this
          have SY : Hid (∀ W v, Below wr.heap.size wr W → (W.setCell ⟨q + 1, n, none⟩ v).cell? ⟨yb, 1, none⟩ = some (.slice an' ln cn)) := fun W v hW => (Blk.other (JX.out.later hW) (by show yb ≠ q + 1; omega) v).cell rfl
          have BQ : Hid (∀ W, Below wr.heap.size wr W → Below q w5 W) := fun W hW => JB.out.trans (hW.mono hsz2)
          have e1 : bits .or .u64 ((wAt r n).toNat : Int) (u.toNat : Int) = ((wAt r n ||| u).toNat : Int) := bv_or _ _
          have BE : Hid (Below wr.heap.size wr wr) := Below.refl _ _
          obtain ⟨k0, k1⟩ := CR.out wr (Below.refl _ _)
          have hn' : (n : Int) < (L : Int) := by omega
          clear OA RLj n4
          generalize (wAt r n ||| u) = y at *
          generalize wAt r n = x at *
          go_wp2_with fail
          go_region_with (first
            | (go_at_call 16
               refine (NB2.out _ (BQ.out _ BE.out.drew)).mono ?_
               rintro e w10 ⟨rfl, b10⟩
               have BE : Hid (Below wr.heap.size wr w10) := BE.out.drew.trans b10
               obtain ⟨k0, k1⟩ := CR.out _ BE.out
               have f0 := OF.out _ BE.out
               clear b10))
          all_goals
            obtain ⟨o11, g11⟩ := OS.out _ BE.out
            have B11 : Hid (Below q w5 (w10.setCell ⟨q + 1, n, none⟩ (.int .u64 (y.toNat : Int)))) := (BQ.out _ BE.out).setCell (by show q ≤ q + 1; omega) _
            have O11 := Lib.hid o11
            have G11 : Hid (Blk q #[.slice a7 L c7, .slice none 0 0, .int .u64 (PH.toNat : Int), .int .u64 (m2.toNat : Int)] 32 (w10.setCell ⟨q + 1, n, none⟩ (.int .u64 (y.toNat : Int)))) := Blk.other (JG.out.later BE.out) (by show q ≠ q + 1; omega) _
            have X11 : Hid (Blk yb #[.slice at' lt ct, .slice an' ln cn] 40 (w10.setCell ⟨q + 1, n, none⟩ (.int .u64 (y.toNat : Int)))) := Blk.other (JX.out.later BE.out) (by show yb ≠ q + 1; omega) _
            have K11 : Hid (Blk lb cur 3 (w10.setCell ⟨q + 1, n, none⟩ (.int .u64 (y.toNat : Int)))) := Blk.other (JK.out.later BE.out) (by show lb ≠ q + 1; omega) _
            clear o11 g11
            go_wp2
            go_roundw
            case rel => exact ⟨j + 1, by omega, by go_num, by rw [RNj.out]; exact O11.out, G11.out, X11.out, K11.out, B11.out⟩
            case measure => simp [intOf]; omega
        · obtain rfl : j = C := by omega
          go_wp2
          go_roundw
          case rel => exact ⟨k + 1, by omega, by go_num, by rw [MTk.out]; exact JG.out, by rw [← REn.out]; exact JO.out, JB.out⟩
          case measure => simp [intOf]; omega
    · obtain rfl : k = nR := by omega
      obtain ⟨x1, x2⟩ := RE.out
      have QO' := QO.out
      rw [x1] at QO'
      have QG' := QG.out
      rw [x2] at QG'
      have hzl2 : (rowsR Z R).length = L := by have := RL.out k; rw [x1] at this; exact this
      have WI := Lib.hid (WO.win (r := rowsR Z R) (by unfold WO at QO' ⊢; rw [hzl2] at QO' ⊢; exact QO'))
      have B40 := Lib.hid (BT.out _ (BD.out.trans ((B4'.out wr QB.out).mono BD.out.size)))
      have EO1 := Lib.hid (edgesOf_any WI.out (by rw [hzl2]; exact hzl) (HT.out.below B40.out HT.out.1))
      have QG2 := Lib.hid QG'
      have HEL : Hid ((edgesL (rowsR Z R)).length ≤ 1048576) := Lib.hid (by
        have := eo_len (r := rowsR Z R) (k := (rowsR Z R).length) (j := 0) (by rw [hzl2]; exact hzl) 0#64
        rw [List.take_zero, List.append_nil] at this; exact this)
      have ZL : Hid (Z.length ≤ 64) := Lib.hid (by rw [← rowsR_length Z R, hzl2]; exact hzl)
      have HLQ : Hid (w.heap.size + 1 < q) := Lib.hid (by have := M4.out.2.lt; have := B5.out.size; rw [HQ.out] at this; omega)
      have M9 := Lib.hid (M4.out.later (B4'.out wr QB.out))
      have SZ9 := Lib.hid (SZ.out.later (B4'.out wr QB.out))
      clear QG' QO' x1 x2
      generalize hes : edgesL (rowsR Z R) = es at *
      generalize hmd : madeG Z R = md at *
      have HES := Lib.hid hes; have HMD := Lib.hid hmd
      clear hes hmd
      go_wp2_with fail
      refine EO1.out.mono ?_
      rintro e w20 ⟨ae, ne, ce, rfl, oe, _, b20⟩
      have hlq := HLQ.out
      have EI := Lib.hid (EIn.own oe (by have := HEL.out; omega))
      have Q3 := Lib.hid (QG2.out.later b20)
      have M20 := Lib.hid (M9.out.later b20)
      have SZ20 := Lib.hid (SZ9.out.later b20)
      have B60 := Lib.hid (B40.out.trans (b20.mono B40.out.size))
      have fq := Q3.out.free 1
      have cq := Q3.out.cell (i := 1) rfl
      have Q4 : Hid (Blk q #[.slice a7 L c7, .slice ae ne ce, .int .u64 (PH.toNat : Int), .int .u64 (md.toNat : Int)] 32 (w20.setCell ⟨q, 1, none⟩ (.slice ae ne ce))) := Lib.hid (Blk.set Q3.out 1 _)
      have M21 : Hid (MR (w20.setCell ⟨q, 1, none⟩ (.slice ae ne ce)) w.heap.size #[.slice a1 n1 c1, .slice a2 n2 c2, .slice a3 n3 c3, .slice a4 n4 c4]) := Lib.hid ⟨Blk.other M20.out.1 (by show w.heap.size ≠ q; omega) _, Blk.other M20.out.2 (by show w.heap.size + 1 ≠ q; omega) _⟩
      have B61 : Hid (Below w.heap.size w (w20.setCell ⟨q, 1, none⟩ (.slice ae ne ce))) := Lib.hid (B60.out.setCell (by show w.heap.size ≤ q; omega) _)
      have S21 : Hid (SIn (w20.setCell ⟨q, 1, none⟩ (.slice ae ne ce)) (.slice a7 L c7) Z) := Lib.hid (sin_keep Q3.out (no_str4 (fun _ e => by cases e) (fun _ e => by cases e) (fun _ e => by cases e) (fun _ e => by cases e)) (mset_grown _ _ _ _) SZ20.out)
      have E21 : Hid (EIn (w20.setCell ⟨q, 1, none⟩ (.slice ae ne ce)) (.slice ae ne ce) es) := Lib.hid (ein_keep Q3.out (no_int4 (fun _ e => by cases e) (fun _ e => by cases e) (fun _ e => by cases e) (fun _ e => by cases e)) (mset_grown _ _ _ _) EI.out)
      obtain ⟨⟨r0, r1, r2, r3⟩, f0, f1, f2, f3⟩ := M21.out.res
      have q0 := Q4.out.cell (i := 0) rfl
      have q1 := Q4.out.cell (i := 1) rfl
      have q2 := Q4.out.cell (i := 2) rfl
      have q3 := Q4.out.cell (i := 3) rfl
      clear oe b20 EO1 QG QO QB QG2 WI
      go_wp2
      (try simp only [Exit.inBlock, Exit.then])
      refine bodyPost_ret (v := .tuple #[.agg #[.slice a7 L c7, .slice ae ne ce, .int .u64 (PH.toNat : Int), .int .u64 (md.toNat : Int)], .int .i64 0]) ?_ rfl ⟨?_, .inr ⟨z, _, HJ.out, ?_, ?_, rfl, ?_⟩⟩
      · rw [results_cell_tmp rfl]; go_simp; try rfl
      · exact B61.out.grown (mset4_grown _ (w.heap.size + 1) _ _ _ _) B61.out.size (fun q hq => by cases hq; omega)
      · rw [HR0.out, HZ.out]; exact ZL.out
      · rw [HR0.out, HZ.out]; exact GD.out
      · rw [HR0.out]
        show GIn _ _ ⟨namesR R F.2.1, edgesL (rowsR (namesR R F.2.1) R), setB (namesR R F.2.1) F.2.1, madeG (namesR R F.2.1) R⟩
        rw [HZ.out, EPH.out, HMD.out, HES.out]
        exact ⟨_, _, rfl, sin_keep M21.out.2 (no_str4 (fun _ e => by cases e) (fun _ e => by cases e) (fun _ e => by cases e) (fun _ e => by cases e)) (mset4_grown _ (w.heap.size + 1) _ _ _ _) S21.out, ein_keep M21.out.2 (no_int4 (fun _ e => by cases e) (fun _ e => by cases e) (fun _ e => by cases e) (fun _ e => by cases e)) (mset4_grown _ (w.heap.size + 1) _ _ _ _) E21.out⟩
end Go.Proofs.YtebjofffijnihaaGreatDoor
namespace Go.Proofs.YtebjofffijnihaaGreatDoor
set_option maxRecDepth 100000
set_option linter.unusedVariables false
open Go.ChangeShapes Go.WideShapes Go.ChangeAt Go.RowKit

set_option maxHeartbeats 4000000 in
theorem equalE_same {w : World} {v1 v2 : Value} {z : List Ed} (h1 : EIn w v1 z) (h2 : EIn w v2 z) :
    Calls Tryz.prog 20 #[v1, v2] w fun e w' => e = .returned (.bool true) ∧ ∃ q, w' = w.drewN q := by
  have hb := h1.bound
  obtain ⟨a, c, rfl, hc⟩ := ein_at h1
  obtain ⟨a', c', rfl, hc'⟩ := ein_at h2
  have HC := Lib.hid (hc w (Below.refl _ _)); have HC' := Lib.hid (hc' w (Below.refl _ _))
  clear hc hc' h1 h2
  generalize z.length = L at *
  go_enter Tryz.func20, Tryz.ntmps20
  go_wp2_with fail
  go_loopw [13] (fun i wr => ∃ k : Nat, k ≤ L ∧ i = .int .i64 k ∧ ∃ m, wr = w.drewN m) (fun i _ => L - (intOf i).toNat)
  case atStart => exact ⟨0, Nat.zero_le _, rfl, 0, rfl⟩
  case round =>
    obtain ⟨k, hk, rfl, m, rfl⟩ := hrel
    by_cases hkl : k < L
    · obtain ⟨b, off, rfl, c1, c2⟩ := HC.out k hkl
      obtain ⟨b', off', rfl, c3, c4⟩ := HC'.out k hkl
      generalize (edAt z k).1 = p at *
      generalize (edAt z k).2 = q at *
      have e1 : (p == p) = true := by simp
      have e2 : (q == q) = true := by simp
      go_wp2_with fail
      go_quiet (fail)
      go_wp2
      go_roundw
      case rel => exact ⟨k + 1, by omega, by go_num, _, rfl⟩
      case measure => simp [intOf]; omega
    · obtain rfl : k = L := by omega
      go_wp2
      go_ret
      exact ⟨rfl, _, rfl⟩
theorem GBlk.get4 {k : Nat} {nv ev : Value} {g : Gr} {w : World} (h : GBlk k nv ev g w) : w.cell? ⟨k, 0, none⟩ = some nv ∧ w.cell? ⟨k, 1, none⟩ = some ev ∧ w.cell? ⟨k, 2, none⟩ = some (.int .u64 (g.ph.toNat : Int)) ∧ w.cell? ⟨k, 3, none⟩ = some (.int .u64 (g.md.toNat : Int)) := h.get
set_option maxHeartbeats 4000000 in
theorem sameG_any {w : World} {v1 v2 : Value} {g : Gr} (h1 : GIn w v1 g) (h2 : GIn w v2 g) :
    Calls Tryz.prog 6 #[v1, v2] w fun e w' => e = .returned (.bool true) ∧ Below w.heap.size w w' := by
  obtain ⟨nv, ev, rfl, n1, e1⟩ := h1
  obtain ⟨nu, eu, rfl, n2, e2⟩ := h2
  have SN := Lib.hid (fun W (hW : Below w.heap.size w W) => equal_of (n1.later hW) (n2.later hW))
  have SE := Lib.hid (fun W (hW : Below w.heap.size w W) => equalE_same (e1.later hW) (e2.later hW))
  have HD : decide (g.ns = g.ns) = true := by simp
  rw [HD] at SN
  have W0 : Hid (Below w.heap.size w ((w.alloc (.cells #[nv, ev, .int .u64 (g.ph.toNat : Int), .int .u64 (g.md.toNat : Int)] 32)).alloc (.cells #[nu, eu, .int .u64 (g.ph.toNat : Int), .int .u64 (g.md.toNat : Int)] 32))) := (below_al w _).alloc (below_al w _).size _
  have k1 : GBlk w.heap.size nv ev g ((w.alloc (.cells #[nv, ev, .int .u64 (g.ph.toNat : Int), .int .u64 (g.md.toNat : Int)] 32)).alloc (.cells #[nu, eu, .int .u64 (g.ph.toNat : Int), .int .u64 (g.md.toNat : Int)] 32)) := (blk_new w _ 32).alloc _
  have k2 : GBlk (w.heap.size + 1) nu eu g ((w.alloc (.cells #[nv, ev, .int .u64 (g.ph.toNat : Int), .int .u64 (g.md.toNat : Int)] 32)).alloc (.cells #[nu, eu, .int .u64 (g.ph.toNat : Int), .int .u64 (g.md.toNat : Int)] 32)) := by
    have := blk_new (w.alloc (.cells #[nv, ev, .int .u64 (g.ph.toNat : Int), .int .u64 (g.md.toNat : Int)] 32)) #[nu, eu, .int .u64 (g.ph.toNat : Int), .int .u64 (g.md.toNat : Int)] 32
    rwa [show (w.alloc (.cells #[nv, ev, .int .u64 (g.ph.toNat : Int), .int .u64 (g.md.toNat : Int)] 32)).heap.size = w.heap.size + 1 by simp] at this
  obtain ⟨a0, a1, a2, a3⟩ := k1.get
  obtain ⟨b0, b1, b2, b3⟩ := k2.get
  obtain ⟨x1, y1, rfl⟩ := n1.shape2
  obtain ⟨x2, y2, rfl⟩ := e1.shape2
  obtain ⟨x3, y3, rfl⟩ := n2.shape2
  obtain ⟨x4, y4, rfl⟩ := e2.shape2
  clear n1 n2 e1 e2 k1 k2 HD
  generalize (g.ph.toNat : Int) = P at *
  generalize (g.md.toNat : Int) = Q at *
  generalize g.ns.length = L at *
  generalize g.es.length = M at *
  go_enter Tryz.func6, Tryz.ntmps6
  go_wp2_with fail
  refine (SN.out _ W0.out).mono ?_
  rintro e w' ⟨rfl, q, rfl⟩
  go_wp2_with fail
  refine (SE.out _ (below_drewN W0.out q)).mono ?_
  rintro e w' ⟨rfl, q2, rfl⟩
  go_wp2
  go_ret
  exact ⟨rfl, below_drewN W0.out _⟩
end Go.Proofs.YtebjofffijnihaaGreatDoor
