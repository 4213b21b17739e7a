/-
  slices.IndexFunc and slices.DeleteFunc at a row of strings of one's own with the law FileOrder's two tests. Condition: lines of at most 2^24 bytes.
-/
import Derived.Test.YtfgcbdjkimkgpaaGreatDoorFOd
import Derived.Lib.SliceRun
namespace Go.Proofs.YtfgcbdjkimkgpaaGreatDoor
set_option maxRecDepth 100000
set_option linter.unusedVariables false
open Go.ChangeShapes Go.WideShapes Go.ChangeAt Go.RowKit

def kept (p : Str → Bool) (z : List Str) (k : Nat) : List Str := (z.take k).filter fun x => !p x
theorem kept_step {p : Str → Bool} {z : List Str} {k : Nat} (h : k < z.length) : kept p z (k + 1) = if p (z.getD k []) then kept p z k else kept p z k ++ [z.getD k []] := by
  unfold kept
  have e : z[k]? = some (z.getD k []) := by rw [List.getD, List.getElem?_eq_getElem h]; rfl
  rw [List.take_add_one, e, List.filter_append]
  generalize z.getD k [] = x at *
  cases hp : p x <;> simp [hp]
theorem kept_len {p : Str → Bool} {z : List Str} {k : Nat} : (kept p z k).length ≤ k := Nat.le_trans (List.length_filter_le _ _) (List.length_take_le _ _)
theorem kept_all {p : Str → Bool} {z : List Str} : ∀ {k : Nat}, k ≤ z.length → (∀ j, j < k → p (z.getD j []) = false) → kept p z k = z.take k
  | 0, _, _ => by simp [kept]
  | k + 1, hk, h => by
    have e : z[k]? = some (z.getD k []) := by rw [List.getD, List.getElem?_eq_getElem (by omega)]; rfl
    rw [kept_step (by omega), h k (by omega), kept_all (by omega) fun j hj => h j (by omega), List.take_add_one, e]
    rfl
/-- where the first one stands that the test lets pass -/
def IdxP (p : Str → Bool) (z : List Str) (X : Int) : Prop := (X = -1 ∧ ∀ j, j < z.length → p (z.getD j []) = false) ∨ ∃ k, k < z.length ∧ X = (k : Int) ∧ p (z.getD k []) = true ∧ ∀ j, j < k → p (z.getD j []) = false
theorem below_setCells {B b : Nat} {a : World} (hb : B ≤ b) : ∀ (l : List Value) (o : Nat) (w : World), Below B a w → Below B a (w.setCells b o l)
  | [], _, _, h => h
  | v :: r, o, w, h => below_setCells hb r (o + 1) _ (h.setCell (by exact hb) v)
theorem blk_get {k i : Nat} {xs : Array Value} {t : TypeId} {w : World} {x : Value} (h : Blk k xs t w) (hc : w.cell? ⟨k, i, none⟩ = some x) : xs[i]? = some x := by
  unfold Blk at h
  unfold World.cell? at hc
  simpa [h] using hc
theorem setCells_size (b : Nat) : ∀ (l : List Value) (o : Nat) (w : World), (w.setCells b o l).heap.size = w.heap.size
  | [], _, _ => rfl
  | v :: r, o, w => by rw [World.setCells, setCells_size b r (o + 1)]; simp [World.setCell]
set_option maxHeartbeats 4000000 in
theorem idxFA {w : World} {q : Nat} {v : Value} {z : List Str} (p : Str → Bool) (h : SIn w v z) (hx : ∀ x ∈ z, x.length ≤ 16777216)
    (hp : ∀ (W : World) (x : Str), Below w.heap.size w W → x.length ≤ 16777216 → Calls Tryz.prog 26 #[.string (bs x)] W fun e w' => e = .returned (.bool (p x)) ∧ Below W.heap.size W w') :
    Calls Tryz.prog 48 #[v, .func (.func 26) #[] #[]] w fun e w' => (∃ X : Int, e = .returned (.int .i64 X) ∧ IdxP p z X) ∧ Below w.heap.size w w' := by
  have HX : Hid (∀ k, k < z.length → (z.getD k []).length ≤ 16777216) := fun k hk => hx _ (getD_mem hk)
  have HP := Lib.hid hp
  have HN := h.bound
  rcases h.open with ⟨rfl, a, cap, rfl⟩ | ⟨hp0, b, off, cap, rfl, hcap, hlt, hc⟩
  · clear h hx hp
    go_enter Tryz.func48, Tryz.ntmps48
    go_wp2_with fail
    go_rounds 1
    go_ret
    exact ⟨⟨-1, rfl, .inl ⟨rfl, fun j hj => absurd hj (Nat.not_lt_zero _)⟩⟩, Below.refl _ _⟩
  · have HC : Hid (∀ W, Below w.heap.size w W → ∀ k, k < z.length → W.cell? ⟨b, off + k, none⟩ = some (.string (bs (z.getD k [])))) := fun W hW k hk => cell_later hW (hc k hk)
    unfold IdxP
    clear h hx hc hlt hp
    generalize (fun k => z.getD k []) = f at *
    generalize z.length = n at *
    go_enter Tryz.func48, Tryz.ntmps48
    go_wp2_with fail
    go_loopw [8] (fun i wr => ∃ k : Nat, k ≤ n ∧ i = .int .i64 (k : Int) ∧ (∀ j, j < k → p (z.getD j []) = false) ∧ Below w.heap.size w wr) (fun i _ => n - (intOf i).toNat)
    case atStart => exact ⟨0, Nat.zero_le _, rfl, fun j hj => absurd hj (Nat.not_lt_zero _), Below.refl _ _⟩
    case round =>
      obtain ⟨k, hk, rfl, q1, q2⟩ := hrel
      have Q1 := Lib.hid q1; have Q2 := Lib.hid q2; clear q1 q2
      by_cases hkl : k < n
      · have c1 := HC.out wr Q2.out k hkl
        have PX := Lib.hid (HP.out wr (z.getD k []) Q2.out (HX.out k hkl))
        go_wp2_with fail
        refine PX.out.mono ?_
        rintro e w1 ⟨rfl, b1⟩
        have B1 : Hid (Below w.heap.size w w1) := Q2.out.trans (b1.mono Q2.out.size)
        clear b1 PX
        cases hq : p (z.getD k [])
        · have QN : Hid (∀ j, j < k + 1 → p (z.getD j []) = false) := fun j hj => by
            rcases Nat.lt_succ_iff_lt_or_eq.1 hj with h | h
            · exact Q1.out j h
            · rw [h]; exact hq
          clear hq
          go_wp2
          go_roundw
          case rel => exact ⟨k + 1, by omega, by go_num, QN.out, B1.out⟩
          case measure => simp [intOf]; omega
        · have HQ := Lib.hid hq; clear hq
          go_wp2
          go_ret
          exact ⟨⟨k, rfl, .inr ⟨k, hkl, rfl, HQ.out, Q1.out⟩⟩, B1.out⟩
      · obtain rfl : k = n := by omega
        go_wp2
        go_ret
        exact ⟨⟨-1, rfl, .inl ⟨rfl, Q1.out⟩⟩, Q2.out⟩
set_option maxHeartbeats 4000000 in
theorem delFA {w : World} {B q : Nat} {v : Value} {z : List Str} (p : Str → Bool) (h : SO B v z w) (hB : B ≤ w.heap.size) (hn : z.length ≤ 16777216) (hx : ∀ x ∈ z, x.length ≤ 16777216)
    (hp : ∀ (W : World) (x : Str), Below B w W → x.length ≤ 16777216 → Calls Tryz.prog 26 #[.string (bs x)] W fun e w' => e = .returned (.bool (p x)) ∧ Below W.heap.size W w') :
    Calls Tryz.prog 28 #[v, .func (.func 26) #[] #[]] w fun e w' => ∃ u, e = .returned u ∧ SIn w' u (z.filter fun x => !p x) ∧ Below B w w' := by
  have SI := SIn.own h (by omega) (fun x hq => by have := hx x hq; omega)
  have IX := Lib.hid (idxFA (q := q) p SI hx fun W x hW => hp W x (hW.mono hB))
  have HS := Lib.hid SI
  have HP := Lib.hid hp
  have HX : Hid (∀ k, k < z.length → (z.getD k []).length ≤ 16777216) := fun k hk => hx _ (getD_mem hk)
  have HXX := Lib.hid hx
  have KF : Hid (kept p z z.length = z.filter fun x => !p x) := by show _ = _; unfold kept; rw [List.take_length]
  have KA : Hid (∀ k, k ≤ z.length → (∀ j, j < k → p (z.getD j []) = false) → kept p z k = z.take k) := fun k hk hj => kept_all hk hj
  have KS : Hid (∀ k, k < z.length → kept p z (k + 1) = if p (z.getD k []) then kept p z k else kept p z k ++ [z.getD k []]) := fun k hk => kept_step hk
  have HB := Lib.hid hB
  rcases h.2 with ⟨hv, h0⟩ | ⟨g, cap, cur, hv, hb, hg, hc, hm, hs, ht⟩
  · subst hv
    have NK : Hid (∀ X, IdxP p z X → X = -1) := fun X hX => by
      rcases hX with ⟨e, _⟩ | ⟨k, hk, _⟩
      · exact e
      · omega
    have FE : Hid (z.filter (fun x => !p x) = []) := by show _ = _; rw [List.length_eq_zero_iff.1 h0]; rfl
    clear h hx hp SI hn h0
    go_enter Tryz.func28, Tryz.ntmps28
    go_wp2_with fail
    refine IX.out.mono ?_
    rintro e w1 ⟨⟨X, rfl, hX⟩, b1⟩
    have hX := NK.out X hX
    subst hX
    have B1 : Hid (Below B w w1) := b1.mono HB.out
    clear b1
    go_wp2
    go_ret
    exact ⟨_, rfl, by rw [FE.out]; exact sin_none _, B1.out⟩
  · subst hv
    have CC : Hid (∀ k, k < z.length → w.cell? ⟨g, k, none⟩ = some (.string (bs (z.getD k [])))) := fun k hk => by
      have := h.cells (g := g) rfl k (encStr (z.getD k [])) (by rw [List.getElem?_map, List.getElem?_eq_getElem hk, List.getD, List.getElem?_eq_getElem hk]; rfl)
      rw [add_off] at this
      exact this
    have BG : Hid (Blk g cur 9 w) := hg
    have GB := Lib.hid hb
    have ZV := zero_of_info (show (Tryz.prog.info? 9).map (fun i => (i.zero, i.size)) = some (some (.string ByteArray.empty), 1) by kernel_rfl)
    have SMZ : Hid (∀ x ∈ z, x.length ≤ 9223372036854775807) := fun x hq => by have := hx x hq; omega
    clear h hx hp SI hg hs ht hb
    generalize hL : z.length = n at *
    have HL := Lib.hid hL; clear hL
    go_enter Tryz.func28, Tryz.ntmps28
    go_wp2_with fail
    refine IX.out.mono ?_
    rintro e w1 ⟨⟨X, rfl, hX⟩, b1⟩
    have B1 : Hid (Below B w w1) := b1.mono HB.out
    have G1 := Lib.hid (BG.out.later b1)
    have S1 := Lib.hid (HS.out.later b1)
    have C1 : Hid (∀ k, k < n → cur[k]? = some (.string (bs (z.getD k [])))) := fun k hk => blk_get BG.out (CC.out k hk)
    clear b1 IX CC
    rcases hX with ⟨rfl, hno⟩ | ⟨k0, hk0, rfl, hp0, hno⟩
    · have FE : Hid (z.filter (fun x => !p x) = z) := by
        show _ = _
        rw [← KF.out, KA.out n (Nat.le_refl _) (fun j hj => hno j (by rw [HL.out]; exact hj)), ← HL.out, List.take_length]
      clear hno ZV
      go_wp2
      go_ret
      exact ⟨_, rfl, by rw [FE.out]; exact S1.out, B1.out⟩
    · rw [HL.out] at hk0
      have K0 : Hid (kept p z (k0 + 1) = z.take k0) := by
        show _ = _
        rw [KS.out k0 hk0, if_pos hp0, KA.out k0 (by omega) hno]
      have K1 : Hid ((z.take k0).length = k0) := by show _ = _; rw [List.length_take, HL.out]; omega
      have SZ : Hid (n ≤ cur.size) := by
        have := C1.out (n - 1) (by omega)
        have := (Array.getElem?_eq_some_iff.1 this).1
        show _ ≤ _
        omega
      clear hp0 hno
      go_wp2_with fail
      go_loopw [5, 6] (fun ti tj wr => ∃ (i j : Nat) (ys : Array Value), i < j ∧ j ≤ n ∧ ti = .int .i64 (i : Int) ∧ tj = .int .i64 (j : Int) ∧ (kept p z j).length = i ∧ n ≤ ys.size ∧ Blk g ys 9 wr ∧ (∀ k, k < i → ys[k]? = some (.string (bs ((kept p z j).getD k [])))) ∧ (∀ k, j ≤ k → k < n → ys[k]? = some (.string (bs (z.getD k [])))) ∧ Below B w wr) (fun _ tj _ => n - (intOf tj).toNat)
      case atStart =>
        refine ⟨k0, k0 + 1, cur, by omega, by omega, by go_num, by go_num, by rw [K0.out, K1.out], SZ.out, G1.out, fun k hk => ?_, fun k _ hk => C1.out k hk, B1.out⟩
        rw [K0.out, C1.out k (by omega), List.getD, List.getD, List.getElem?_take_of_lt hk]
      case round =>
        obtain ⟨i, j, ys, hij, hj, rfl, rfl, hi, hsz, q1, q2, q3, q4⟩ := hrel
        have QI := Lib.hid hi; have Q1 := Lib.hid q1; have Q2 := Lib.hid q2; have Q3 := Lib.hid q3; have Q4 := Lib.hid q4
        clear hi q1 q2 q3 q4
        by_cases hjn : j < n
        · have cj := Q1.out.cell (Q3.out j (Nat.le_refl _) hjn)
          have PX := Lib.hid (HP.out wr (z.getD j []) Q4.out (HX.out j hjn))
          have ST := Lib.hid (KS.out j hjn)
          obtain ⟨y, hy⟩ : ∃ y, ys[i]? = some y := ⟨ys[i]'(by omega), Array.getElem?_eq_getElem (by omega)⟩
          have HY := Lib.hid hy; clear hy
          generalize z.getD j [] = x at *
          go_wp2_with fail
          refine PX.out.mono ?_
          rintro e w2 ⟨rfl, b2⟩
          have B2 : Hid (Below B w w2) := Q4.out.trans (b2.mono (Nat.le_trans HB.out Q4.out.size))
          have G2 := Lib.hid (Q1.out.later b2)
          clear b2 PX cj
          cases hq : p x
          · rw [hq] at ST
            clear hq
            have ci := G2.out.cell HY.out
            have k5 := G2.out.free i
            go_wp2
            go_roundw
            case rel =>
              refine ⟨_, _, _, _, _, _, _, _, _, _, _, _, _, _, _, _, _, _, _, _, _, _, _, ⟨i + 1, j + 1, ys.setIfInBounds i (.string (bs x)), by omega, by omega, by go_num, by go_num, ?_, by rw [Array.size_setIfInBounds]; exact hsz, G2.out.set i _, fun k hk => ?_, fun k hk hkn => ?_, Below.setCell (p := ⟨g, i, none⟩) B2.out GB.out _⟩, rfl⟩
              · rw [ST.out, if_neg (by decide), List.length_append, QI.out]; rfl
              · rw [ST.out, if_neg (by decide), Array.getElem?_setIfInBounds]
                by_cases e : i = k
                · subst e
                  rw [if_pos rfl, if_pos (by omega), List.getD, List.getElem?_append_right (by rw [QI.out]; exact Nat.le_refl _), QI.out, Nat.sub_self]; rfl
                · rw [if_neg e, Q2.out k (by omega), List.getD, List.getD, List.getElem?_append_left (by rw [QI.out]; omega)]
              · rw [Array.getElem?_setIfInBounds, if_neg (by omega)]
                exact Q3.out k (by omega) hkn
            case measure => simp [intOf]; omega
          · rw [hq] at ST
            clear hq
            go_wp2
            go_roundw
            case rel => exact ⟨_, _, _, _, _, _, _, _, _, _, _, _, _, _, _, _, _, _, _, _, _, _, _, ⟨i, j + 1, ys, by omega, by omega, rfl, by go_num, by rw [ST.out, if_pos trivial]; exact QI.out, hsz, G2.out, fun k hk => by rw [ST.out, if_pos trivial]; exact Q2.out k hk, fun k hk hkn => Q3.out k (by omega) hkn, B2.out⟩, rfl⟩
            case measure => simp [intOf]; omega
        · obtain rfl : j = n := by omega
          have hcl : ∀ ty, (Builtin.clear_ #[27] ty #[.slice (some ⟨g, i, none⟩) (j - i) (cap - i)]).run Tryz.prog wr = .ok (.tuple #[]) (wr.setCells g i (List.replicate (j - i) (.string ByteArray.empty))) := fun ty =>
            Lib.run_clear_slice wr _ _ ty _ Tryz.underlying27 ZV.1 rfl rfl g i _ _ (by omega) (fun t ht => by rw [Q1.out.cell (Array.getElem?_eq_getElem (show i + t < ys.size by omega))]; rfl) (fun t _ => Q1.out.free _)
          have SR : Hid (SIn (wr.setCells g i (List.replicate (j - i) (.string ByteArray.empty))) (.slice (some ⟨g, 0, none⟩) i cap) (z.filter fun x => !p x)) := by
            rw [← KF.out]
            refine ⟨some ⟨g, 0, none⟩, cap, by rw [QI.out], by rw [QI.out]; omega, by rw [QI.out]; omega, fun x hq => SMZ.out x (List.mem_of_mem_take (List.mem_filter.1 hq).1), .inr ⟨g, 0, rfl, by rw [setCells_size]; exact Q1.out.lt, fun k hk => ?_⟩⟩
            rw [QI.out] at hk
            rw [World.cell?_setCells_out g _ i wr _ (fun _ _ => .inl (by show 0 + k < i; omega)), Nat.zero_add]
            exact Q1.out.cell (Q2.out k hk)
          have BR : Hid (Below B w (wr.setCells g i (List.replicate (j - i) (.string ByteArray.empty)))) := below_setCells GB.out _ _ _ Q4.out
          clear ZV
          go_wp2
          go_ret
          exact ⟨_, rfl, SR.out, BR.out⟩
set_option maxHeartbeats 4000000 in
theorem idxFB {w : World} {q : Nat} {v : Value} {z : List Str} (p : Str → Bool) (h : SIn w v z) (hx : ∀ x ∈ z, x.length ≤ 16777216)
    (hp : ∀ (W : World) (x : Str), Below w.heap.size w W → x.length ≤ 16777216 → Calls Tryz.prog 30 #[.string (bs x), .pointer (some ⟨q, 0, none⟩)] W fun e w' => e = .returned (.bool (p x)) ∧ Below W.heap.size W w') :
    Calls Tryz.prog 48 #[v, .func (.func 30) #[] #[.pointer (some ⟨q, 0, none⟩)]] w fun e w' => (∃ X : Int, e = .returned (.int .i64 X) ∧ IdxP p z X) ∧ Below w.heap.size w w' := by
  have HX : Hid (∀ k, k < z.length → (z.getD k []).length ≤ 16777216) := fun k hk => hx _ (getD_mem hk)
  have HP := Lib.hid hp
  have HN := h.bound
  rcases h.open with ⟨rfl, a, cap, rfl⟩ | ⟨hp0, b, off, cap, rfl, hcap, hlt, hc⟩
  · clear h hx hp
    go_enter Tryz.func48, Tryz.ntmps48
    go_wp2_with fail
    go_rounds 1
    go_ret
    exact ⟨⟨-1, rfl, .inl ⟨rfl, fun j hj => absurd hj (Nat.not_lt_zero _)⟩⟩, Below.refl _ _⟩
  · have HC : Hid (∀ W, Below w.heap.size w W → ∀ k, k < z.length → W.cell? ⟨b, off + k, none⟩ = some (.string (bs (z.getD k [])))) := fun W hW k hk => cell_later hW (hc k hk)
    unfold IdxP
    clear h hx hc hlt hp
    generalize (fun k => z.getD k []) = f at *
    generalize z.length = n at *
    go_enter Tryz.func48, Tryz.ntmps48
    go_wp2_with fail
    go_loopw [8] (fun i wr => ∃ k : Nat, k ≤ n ∧ i = .int .i64 (k : Int) ∧ (∀ j, j < k → p (z.getD j []) = false) ∧ Below w.heap.size w wr) (fun i _ => n - (intOf i).toNat)
    case atStart => exact ⟨0, Nat.zero_le _, rfl, fun j hj => absurd hj (Nat.not_lt_zero _), Below.refl _ _⟩
    case round =>
      obtain ⟨k, hk, rfl, q1, q2⟩ := hrel
      have Q1 := Lib.hid q1; have Q2 := Lib.hid q2; clear q1 q2
      by_cases hkl : k < n
      · have c1 := HC.out wr Q2.out k hkl
        have PX := Lib.hid (HP.out wr (z.getD k []) Q2.out (HX.out k hkl))
        go_wp2_with fail
        refine PX.out.mono ?_
        rintro e w1 ⟨rfl, b1⟩
        have B1 : Hid (Below w.heap.size w w1) := Q2.out.trans (b1.mono Q2.out.size)
        clear b1 PX
        cases hq : p (z.getD k [])
        · have QN : Hid (∀ j, j < k + 1 → p (z.getD j []) = false) := fun j hj => by
            rcases Nat.lt_succ_iff_lt_or_eq.1 hj with h | h
            · exact Q1.out j h
            · rw [h]; exact hq
          clear hq
          go_wp2
          go_roundw
          case rel => exact ⟨k + 1, by omega, by go_num, QN.out, B1.out⟩
          case measure => simp [intOf]; omega
        · have HQ := Lib.hid hq; clear hq
          go_wp2
          go_ret
          exact ⟨⟨k, rfl, .inr ⟨k, hkl, rfl, HQ.out, Q1.out⟩⟩, B1.out⟩
      · obtain rfl : k = n := by omega
        go_wp2
        go_ret
        exact ⟨⟨-1, rfl, .inl ⟨rfl, Q1.out⟩⟩, Q2.out⟩
set_option maxHeartbeats 4000000 in
theorem delFB {w : World} {B q : Nat} {v : Value} {z : List Str} (p : Str → Bool) (h : SO B v z w) (hB : B ≤ w.heap.size) (hn : z.length ≤ 16777216) (hx : ∀ x ∈ z, x.length ≤ 16777216)
    (hp : ∀ (W : World) (x : Str), Below B w W → x.length ≤ 16777216 → Calls Tryz.prog 30 #[.string (bs x), .pointer (some ⟨q, 0, none⟩)] W fun e w' => e = .returned (.bool (p x)) ∧ Below W.heap.size W w') :
    Calls Tryz.prog 28 #[v, .func (.func 30) #[] #[.pointer (some ⟨q, 0, none⟩)]] w fun e w' => ∃ u, e = .returned u ∧ SIn w' u (z.filter fun x => !p x) ∧ Below B w w' := by
  have SI := SIn.own h (by omega) (fun x hq => by have := hx x hq; omega)
  have IX := Lib.hid (idxFB (q := q) p SI hx fun W x hW => hp W x (hW.mono hB))
  have HS := Lib.hid SI
  have HP := Lib.hid hp
  have HX : Hid (∀ k, k < z.length → (z.getD k []).length ≤ 16777216) := fun k hk => hx _ (getD_mem hk)
  have HXX := Lib.hid hx
  have KF : Hid (kept p z z.length = z.filter fun x => !p x) := by show _ = _; unfold kept; rw [List.take_length]
  have KA : Hid (∀ k, k ≤ z.length → (∀ j, j < k → p (z.getD j []) = false) → kept p z k = z.take k) := fun k hk hj => kept_all hk hj
  have KS : Hid (∀ k, k < z.length → kept p z (k + 1) = if p (z.getD k []) then kept p z k else kept p z k ++ [z.getD k []]) := fun k hk => kept_step hk
  have HB := Lib.hid hB
  rcases h.2 with ⟨hv, h0⟩ | ⟨g, cap, cur, hv, hb, hg, hc, hm, hs, ht⟩
  · subst hv
    have NK : Hid (∀ X, IdxP p z X → X = -1) := fun X hX => by
      rcases hX with ⟨e, _⟩ | ⟨k, hk, _⟩
      · exact e
      · omega
    have FE : Hid (z.filter (fun x => !p x) = []) := by show _ = _; rw [List.length_eq_zero_iff.1 h0]; rfl
    clear h hx hp SI hn h0
    go_enter Tryz.func28, Tryz.ntmps28
    go_wp2_with fail
    refine IX.out.mono ?_
    rintro e w1 ⟨⟨X, rfl, hX⟩, b1⟩
    have hX := NK.out X hX
    subst hX
    have B1 : Hid (Below B w w1) := b1.mono HB.out
    clear b1
    go_wp2
    go_ret
    exact ⟨_, rfl, by rw [FE.out]; exact sin_none _, B1.out⟩
  · subst hv
    have CC : Hid (∀ k, k < z.length → w.cell? ⟨g, k, none⟩ = some (.string (bs (z.getD k [])))) := fun k hk => by
      have := h.cells (g := g) rfl k (encStr (z.getD k [])) (by rw [List.getElem?_map, List.getElem?_eq_getElem hk, List.getD, List.getElem?_eq_getElem hk]; rfl)
      rw [add_off] at this
      exact this
    have BG : Hid (Blk g cur 9 w) := hg
    have GB := Lib.hid hb
    have ZV := zero_of_info (show (Tryz.prog.info? 9).map (fun i => (i.zero, i.size)) = some (some (.string ByteArray.empty), 1) by kernel_rfl)
    have SMZ : Hid (∀ x ∈ z, x.length ≤ 9223372036854775807) := fun x hq => by have := hx x hq; omega
    clear h hx hp SI hg hs ht hb
    generalize hL : z.length = n at *
    have HL := Lib.hid hL; clear hL
    go_enter Tryz.func28, Tryz.ntmps28
    go_wp2_with fail
    refine IX.out.mono ?_
    rintro e w1 ⟨⟨X, rfl, hX⟩, b1⟩
    have B1 : Hid (Below B w w1) := b1.mono HB.out
    have G1 := Lib.hid (BG.out.later b1)
    have S1 := Lib.hid (HS.out.later b1)
    have C1 : Hid (∀ k, k < n → cur[k]? = some (.string (bs (z.getD k [])))) := fun k hk => blk_get BG.out (CC.out k hk)
    clear b1 IX CC
    rcases hX with ⟨rfl, hno⟩ | ⟨k0, hk0, rfl, hp0, hno⟩
    · have FE : Hid (z.filter (fun x => !p x) = z) := by
        show _ = _
        rw [← KF.out, KA.out n (Nat.le_refl _) (fun j hj => hno j (by rw [HL.out]; exact hj)), ← HL.out, List.take_length]
      clear hno ZV
      go_wp2
      go_ret
      exact ⟨_, rfl, by rw [FE.out]; exact S1.out, B1.out⟩
    · rw [HL.out] at hk0
      have K0 : Hid (kept p z (k0 + 1) = z.take k0) := by
        show _ = _
        rw [KS.out k0 hk0, if_pos hp0, KA.out k0 (by omega) hno]
      have K1 : Hid ((z.take k0).length = k0) := by show _ = _; rw [List.length_take, HL.out]; omega
      have SZ : Hid (n ≤ cur.size) := by
        have := C1.out (n - 1) (by omega)
        have := (Array.getElem?_eq_some_iff.1 this).1
        show _ ≤ _
        omega
      clear hp0 hno
      go_wp2_with fail
      go_loopw [5, 6] (fun ti tj wr => ∃ (i j : Nat) (ys : Array Value), i < j ∧ j ≤ n ∧ ti = .int .i64 (i : Int) ∧ tj = .int .i64 (j : Int) ∧ (kept p z j).length = i ∧ n ≤ ys.size ∧ Blk g ys 9 wr ∧ (∀ k, k < i → ys[k]? = some (.string (bs ((kept p z j).getD k [])))) ∧ (∀ k, j ≤ k → k < n → ys[k]? = some (.string (bs (z.getD k [])))) ∧ Below B w wr) (fun _ tj _ => n - (intOf tj).toNat)
      case atStart =>
        refine ⟨k0, k0 + 1, cur, by omega, by omega, by go_num, by go_num, by rw [K0.out, K1.out], SZ.out, G1.out, fun k hk => ?_, fun k _ hk => C1.out k hk, B1.out⟩
        rw [K0.out, C1.out k (by omega), List.getD, List.getD, List.getElem?_take_of_lt hk]
      case round =>
        obtain ⟨i, j, ys, hij, hj, rfl, rfl, hi, hsz, q1, q2, q3, q4⟩ := hrel
        have QI := Lib.hid hi; have Q1 := Lib.hid q1; have Q2 := Lib.hid q2; have Q3 := Lib.hid q3; have Q4 := Lib.hid q4
        clear hi q1 q2 q3 q4
        by_cases hjn : j < n
        · have cj := Q1.out.cell (Q3.out j (Nat.le_refl _) hjn)
          have PX := Lib.hid (HP.out wr (z.getD j []) Q4.out (HX.out j hjn))
          have ST := Lib.hid (KS.out j hjn)
          obtain ⟨y, hy⟩ : ∃ y, ys[i]? = some y := ⟨ys[i]'(by omega), Array.getElem?_eq_getElem (by omega)⟩
          have HY := Lib.hid hy; clear hy
          generalize z.getD j [] = x at *
          go_wp2_with fail
          refine PX.out.mono ?_
          rintro e w2 ⟨rfl, b2⟩
          have B2 : Hid (Below B w w2) := Q4.out.trans (b2.mono (Nat.le_trans HB.out Q4.out.size))
          have G2 := Lib.hid (Q1.out.later b2)
          clear b2 PX cj
          cases hq : p x
          · rw [hq] at ST
            clear hq
            have ci := G2.out.cell HY.out
            have k5 := G2.out.free i
            go_wp2
            go_roundw
            case rel =>
              refine ⟨_, _, _, _, _, _, _, _, _, _, _, _, _, _, _, _, _, _, _, _, _, _, _, ⟨i + 1, j + 1, ys.setIfInBounds i (.string (bs x)), by omega, by omega, by go_num, by go_num, ?_, by rw [Array.size_setIfInBounds]; exact hsz, G2.out.set i _, fun k hk => ?_, fun k hk hkn => ?_, Below.setCell (p := ⟨g, i, none⟩) B2.out GB.out _⟩, rfl⟩
              · rw [ST.out, if_neg (by decide), List.length_append, QI.out]; rfl
              · rw [ST.out, if_neg (by decide), Array.getElem?_setIfInBounds]
                by_cases e : i = k
                · subst e
                  rw [if_pos rfl, if_pos (by omega), List.getD, List.getElem?_append_right (by rw [QI.out]; exact Nat.le_refl _), QI.out, Nat.sub_self]; rfl
                · rw [if_neg e, Q2.out k (by omega), List.getD, List.getD, List.getElem?_append_left (by rw [QI.out]; omega)]
              · rw [Array.getElem?_setIfInBounds, if_neg (by omega)]
                exact Q3.out k (by omega) hkn
            case measure => simp [intOf]; omega
          · rw [hq] at ST
            clear hq
            go_wp2
            go_roundw
            case rel => exact ⟨_, _, _, _, _, _, _, _, _, _, _, _, _, _, _, _, _, _, _, _, _, _, _, ⟨i, j + 1, ys, by omega, by omega, rfl, by go_num, by rw [ST.out, if_pos trivial]; exact QI.out, hsz, G2.out, fun k hk => by rw [ST.out, if_pos trivial]; exact Q2.out k hk, fun k hk hkn => Q3.out k (by omega) hkn, B2.out⟩, rfl⟩
            case measure => simp [intOf]; omega
        · obtain rfl : j = n := by omega
          have hcl : ∀ ty, (Builtin.clear_ #[27] ty #[.slice (some ⟨g, i, none⟩) (j - i) (cap - i)]).run Tryz.prog wr = .ok (.tuple #[]) (wr.setCells g i (List.replicate (j - i) (.string ByteArray.empty))) := fun ty =>
            Lib.run_clear_slice wr _ _ ty _ Tryz.underlying27 ZV.1 rfl rfl g i _ _ (by omega) (fun t ht => by rw [Q1.out.cell (Array.getElem?_eq_getElem (show i + t < ys.size by omega))]; rfl) (fun t _ => Q1.out.free _)
          have SR : Hid (SIn (wr.setCells g i (List.replicate (j - i) (.string ByteArray.empty))) (.slice (some ⟨g, 0, none⟩) i cap) (z.filter fun x => !p x)) := by
            rw [← KF.out]
            refine ⟨some ⟨g, 0, none⟩, cap, by rw [QI.out], by rw [QI.out]; omega, by rw [QI.out]; omega, fun x hq => SMZ.out x (List.mem_of_mem_take (List.mem_filter.1 hq).1), .inr ⟨g, 0, rfl, by rw [setCells_size]; exact Q1.out.lt, fun k hk => ?_⟩⟩
            rw [QI.out] at hk
            rw [World.cell?_setCells_out g _ i wr _ (fun _ _ => .inl (by show 0 + k < i; omega)), Nat.zero_add]
            exact Q1.out.cell (Q2.out k hk)
          have BR : Hid (Below B w (wr.setCells g i (List.replicate (j - i) (.string ByteArray.empty)))) := below_setCells GB.out _ _ _ Q4.out
          clear ZV
          go_wp2
          go_ret
          exact ⟨_, rfl, SR.out, BR.out⟩
end Go.Proofs.YtfgcbdjkimkgpaaGreatDoor
