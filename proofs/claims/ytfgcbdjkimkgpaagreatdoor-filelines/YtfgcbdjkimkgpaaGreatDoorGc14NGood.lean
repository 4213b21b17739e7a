/-
  What the reference's GoodName, GoodNames and Place answer. No condition but those of the slices.
  What the reference's Rising answers: the strings sorted, each once. Condition: at most 4194304 of them.
  Plain facts on sets of 64 numbers as words of 64 bits; nothing of the program. No condition.
  What the reference's GoodName, GoodNames and Place answer. No condition but those of the slices.
-/
import Derived.Test.YtfgcbdjkimkgpaaGreatDoorGc13RPar
import Derived.Test.YtfgcbdjkimkgpaaGreatDoorGc12NApp
import Derived.Deep.RegionLaw
import Derived.Deep.AppendSrc
import Derived.Laws.Bits64b
import Derived.Laws.BitsAllLaws
import Derived.Test.YtfgcbdjkimkgpaaGreatDoorGc4LIn
namespace Go.Proofs.YtfgcbdjkimkgpaaGreatDoor
set_option maxRecDepth 100000
open Go.ChangeShapes Go.WideShapes Go.ChangeAt Go.RowKit

/-- a byte that no name holds -/
def NoB (c : Nat) : Prop := ((c : Int) == 95) = false ∧ ((c : Int) == 46) = false ∧ ((c : Int) == 47) = false ∧ ((c : Int) == 45) = false ∧ ((c : Int) == 43) = false
theorem byte_cases (c : Nat) : (97 ≤ c ∧ c ≤ 122) ∨ (¬ 97 ≤ c ∧ 65 ≤ c ∧ c ≤ 90) ∨ (¬ 97 ≤ c ∧ ¬ 65 ≤ c ∧ 48 ≤ c ∧ c ≤ 57) ∨ c = 95 ∨ c = 46 ∨ c = 47 ∨ c = 45 ∨ c = 43 ∨
    (okB c = false ∧ NoB c ∧ ¬ 97 ≤ c ∧ ¬ 65 ≤ c ∧ ¬ 48 ≤ c) ∨ (okB c = false ∧ NoB c ∧ ¬ 97 ≤ c ∧ ¬ 65 ≤ c ∧ 48 ≤ c ∧ ¬ c ≤ 57) ∨ (okB c = false ∧ NoB c ∧ ¬ 97 ≤ c ∧ 65 ≤ c ∧ ¬ c ≤ 90 ∧ 48 ≤ c ∧ ¬ c ≤ 57) ∨ (okB c = false ∧ NoB c ∧ 97 ≤ c ∧ ¬ c ≤ 122 ∧ 65 ≤ c ∧ ¬ c ≤ 90 ∧ 48 ≤ c ∧ ¬ c ≤ 57) := by
  unfold okB NoB
  simp only [beq_eq_false_iff_ne, ne_eq, decide_eq_false_iff_not]
  omega

set_option maxHeartbeats 8000000 in
set_option maxRecDepth 100000 in
theorem goodName_any (s : ByteArray) (w : World) (hs : s.size ≤ 9223372036854775807) :
    Calls Tryz.prog 38 #[.string s] w fun e w' => e = .returned (.bool (good s.data.toList)) ∧ w' = w := by
  have HF : Hid (∀ k (h : k < s.size), s[k].toNat = byteAt s k) := byteAt_get s
  have HG : Hid ((∀ j, j < s.size → okB (byteAt s j) = true) → good s.data.toList = decide (0 < s.size ∧ s.size ≤ 40)) := fun h => by
    by_cases k : 0 < s.size ∧ s.size ≤ 40
    · rw [decide_eq_true k]; exact good_all k.1 k.2 h
    · rw [decide_eq_false k]; exact good_size k
  have HN : Hid (∀ k, k < s.size → okB (byteAt s k) = false → good s.data.toList = false) := fun k hk h => good_bad hk h
  generalize byteAt s = f at *
  generalize good s.data.toList = G at *
  go_enter Tryz.func38, Tryz.ntmps38
  go_wp2_with fail
  go_loopw [7] (fun i wr => ∃ k : Nat, k ≤ s.size ∧ i = .int .i64 (k : Int) ∧ (∀ j, j < k → okB (f j) = true) ∧ wr = w) (fun i _ => s.size - (intOf i).toNat)
  case atStart => exact ⟨0, by omega, rfl, fun _ h => absurd h (Nat.not_lt_zero _), rfl⟩
  case round =>
    obtain ⟨k, hk, rfl, hall, rfl⟩ := hrel
    have HA := Lib.hid hall; clear hall
    by_cases hlt : k < s.size
    · have hb := HF.out k hlt
      have YES : Hid (okB (f k) = true → ∀ j, j < k + 1 → okB (f j) = true) := fun h j hj => by
        rcases Nat.lt_succ_iff_lt_or_eq.1 hj with h' | h'
        · exact HA.out j h'
        · rw [h']; exact h
      have NO := Lib.hid (HN.out k hlt)
      generalize f k = c at hb YES NO
      rcases byte_cases c with ⟨h1, h2⟩ | ⟨h1, h2, h3⟩ | ⟨h1, h2, h3, h4⟩ | rfl | rfl | rfl | rfl | rfl | h | h | h | h
      · have Y := Lib.hid (YES.out (decide_eq_true (by omega))); clear YES NO
        go_wp2
        go_roundw
        case rel => exact ⟨k + 1, by omega, by go_num, Y.out, trivial⟩
        case measure => simp [intOf]; omega
      · have Y := Lib.hid (YES.out (decide_eq_true (by omega))); clear YES NO
        go_wp2
        go_roundw
        case rel => exact ⟨k + 1, by omega, by go_num, Y.out, trivial⟩
        case measure => simp [intOf]; omega
      · have Y := Lib.hid (YES.out (decide_eq_true (by omega))); clear YES NO
        go_wp2
        go_roundw
        case rel => exact ⟨k + 1, by omega, by go_num, Y.out, trivial⟩
        case measure => simp [intOf]; omega
      · have Y := Lib.hid (YES.out (by decide)); clear YES NO
        go_wp2
        go_roundw
        case rel => exact ⟨k + 1, by omega, by go_num, Y.out, trivial⟩
        case measure => simp [intOf]; omega
      · have Y := Lib.hid (YES.out (by decide)); clear YES NO
        go_wp2
        go_roundw
        case rel => exact ⟨k + 1, by omega, by go_num, Y.out, trivial⟩
        case measure => simp [intOf]; omega
      · have Y := Lib.hid (YES.out (by decide)); clear YES NO
        go_wp2
        go_roundw
        case rel => exact ⟨k + 1, by omega, by go_num, Y.out, trivial⟩
        case measure => simp [intOf]; omega
      · have Y := Lib.hid (YES.out (by decide)); clear YES NO
        go_wp2
        go_roundw
        case rel => exact ⟨k + 1, by omega, by go_num, Y.out, trivial⟩
        case measure => simp [intOf]; omega
      · have Y := Lib.hid (YES.out (by decide)); clear YES NO
        go_wp2
        go_roundw
        case rel => exact ⟨k + 1, by omega, by go_num, Y.out, trivial⟩
        case measure => simp [intOf]; omega
      · obtain ⟨h0, ⟨n1, n2, n3, n4, n5⟩, h1, h2, h3⟩ := h
        have N := Lib.hid (NO.out h0); clear YES NO h0
        go_wp2
        go_ret
        rw [N.out]; exact ⟨rfl, rfl⟩
      · obtain ⟨h0, ⟨n1, n2, n3, n4, n5⟩, h1, h2, h3, h4⟩ := h
        have d57 : decide ((c : Int) ≤ 57) = false := decide_eq_false (by omega)
        have N := Lib.hid (NO.out h0); clear YES NO h0
        go_wp2
        go_ret
        rw [N.out]; exact ⟨rfl, rfl⟩
      · obtain ⟨h0, ⟨n1, n2, n3, n4, n5⟩, h1, h2, h3, h4, h5⟩ := h
        have d57 : decide ((c : Int) ≤ 57) = false := decide_eq_false (by omega)
        have d90 : decide ((c : Int) ≤ 90) = false := decide_eq_false (by omega)
        have N := Lib.hid (NO.out h0); clear YES NO h0
        go_wp2
        go_ret
        rw [N.out]; exact ⟨rfl, rfl⟩
      · obtain ⟨h0, ⟨n1, n2, n3, n4, n5⟩, h1, h2, h3, h4, h5, h6⟩ := h
        have d57 : decide ((c : Int) ≤ 57) = false := decide_eq_false (by omega)
        have d90 : decide ((c : Int) ≤ 90) = false := decide_eq_false (by omega)
        have d122 : decide ((c : Int) ≤ 122) = false := decide_eq_false (by omega)
        have N := Lib.hid (NO.out h0); clear YES NO h0
        go_wp2
        go_ret
        rw [N.out]; exact ⟨rfl, rfl⟩
    · obtain rfl : k = s.size := by omega
      have HD := Lib.hid (HG.out HA.out)
      by_cases h0 : s.size = 0
      · have h0' : ¬ (0 : Int) < (s.size : Int) := by omega
        have T : Hid (decide (0 < s.size ∧ s.size ≤ 40) = false) := decide_eq_false (by omega)
        clear h0
        go_wp2
        go_ret
        rw [HD.out, T.out]; exact ⟨rfl, rfl⟩
      · have h0' : (0 : Int) < (s.size : Int) := by omega
        have T : Hid (decide (0 < s.size ∧ s.size ≤ 40) = decide ((s.size : Int) < 41)) := decide_eq_decide.2 ⟨fun h => by omega, fun h => by omega⟩
        clear h0
        go_wp2
        go_ret
        rw [HD.out, T.out]; exact ⟨rfl, rfl⟩

set_option maxHeartbeats 1000000 in
theorem goodNames_of {w : World} {v : Value} {z : List Str} (h : SIn w v z) :
    Calls Tryz.prog 107 #[v] w fun e w' => e = .returned (.bool (z.all good)) ∧ w' = w := by
  have F := Lib.hid h
  have hn := h.bound
  have HX : Hid (∀ k, k < z.length → (bs (z.getD k [])).size ≤ 9223372036854775807) := fun k hk => by rw [bs_size]; exact F.out.small _ (getD_mem hk)
  rcases h.open with ⟨hz, a, cap, rfl⟩ | ⟨hpos, b, off, cap, rfl, hcap, hlt, hc⟩
  · clear h hn HX F
    subst hz
    go_enter Tryz.func107, Tryz.ntmps107
    go_wp2_with fail
    go_rounds 1
    go_ret
    exact ⟨rfl, rfl⟩
  · clear h
    have HC := Lib.hid hc; clear hc
    have HG : Hid ((∀ j, j < z.length → good (z.getD j []) = true) → z.all good = true) := all_good
    have HN : Hid (∀ k, k < z.length → good (z.getD k []) = false → z.all good = false) := fun k => all_bad
    have HB0 : Hid (∀ k, good (bs (z.getD k [])).data.toList = good (z.getD k [])) := fun k => by rw [bs_list]
    generalize hL : z.length = L at *
    clear hL
    go_enter Tryz.func107, Tryz.ntmps107
    go_wp2_with fail
    go_loopw [7] (fun i wr => ∃ k : Nat, k ≤ L ∧ i = .int .i64 (k : Int) ∧ (∀ j, j < k → good (z.getD j []) = true) ∧ wr = w) (fun i _ => L - (intOf i).toNat)
    case atStart => exact ⟨0, by omega, rfl, fun _ h => absurd h (Nat.not_lt_zero _), rfl⟩
    case round =>
      obtain ⟨k, hk, rfl, hall, rfl⟩ := hrel
      have HA := Lib.hid hall; clear hall
      by_cases hk2 : k < L
      · have c1 := HC.out k hk2
        go_wp2_with fail
        refine (goodName_any _ _ (HX.out k hk2)).mono ?_
        rw [HB0.out k]
        rintro e w' ⟨rfl, rfl⟩
        clear c1
        cases hd : good (z.getD k []) with
        | false =>
          have HD := Lib.hid (HN.out k hk2 hd); clear hd
          go_wp2
          go_ret
          rw [HD.out]; exact ⟨rfl, rfl⟩
        | true =>
          have HD := Lib.hid hd; clear hd
          go_wp2
          go_roundw
          case rel =>
            refine ⟨k + 1, by omega, by go_num, fun j hj => ?_, trivial⟩
            rcases Nat.lt_succ_iff_lt_or_eq.1 hj with h | h
            · exact HA.out j h
            · rw [h]; exact HD.out
          case measure => simp [intOf]; omega
      · obtain rfl : k = L := by omega
        have HD := Lib.hid (HG.out HA.out)
        go_wp2
        go_ret
        rw [HD.out]; exact ⟨rfl, rfl⟩

/-- what Place hands back -/
def PlacePost (z : List Str) (x : Str) (e : Ending) : Prop :=
  (∃ i : Nat, i < z.length ∧ z.getD i [] = x ∧ e = .returned (.int .i64 i)) ∨ x ∉ z ∧ e = .returned (.int .i64 (-1))

set_option maxHeartbeats 1000000 in
theorem place_of {w : World} {v : Value} {z : List Str} (h : SIn w v z) (x : Str) :
    Calls Tryz.prog 46 #[v, .string (bs x)] w fun e w' => PlacePost z x e ∧ w' = w := by
  have hn := h.bound
  rcases h.open with ⟨hz, a, cap, rfl⟩ | ⟨hpos, b, off, cap, rfl, hcap, hlt, hc⟩
  · clear h hn
    subst hz
    go_enter Tryz.func46, Tryz.ntmps46
    go_wp2_with fail
    go_rounds 1
    go_ret
    exact ⟨.inr ⟨List.not_mem_nil, rfl⟩, rfl⟩
  · clear h
    have HC := Lib.hid hc; clear hc
    generalize hL : z.length = L at *
    have HL := Lib.hid hL; clear hL
    go_enter Tryz.func46, Tryz.ntmps46
    go_wp2_with fail
    go_loopw [9] (fun i wr => ∃ k : Nat, k ≤ L ∧ i = .int .i64 (k : Int) ∧ (∀ j, j < k → z.getD j [] ≠ x) ∧ wr = w) (fun i _ => L - (intOf i).toNat)
    case atStart => exact ⟨0, by omega, rfl, fun _ h => absurd h (Nat.not_lt_zero _), rfl⟩
    case round =>
      obtain ⟨k, hk, rfl, hall, rfl⟩ := hrel
      have HA := Lib.hid hall; clear hall
      by_cases hk2 : k < L
      · have c1 := HC.out k hk2
        by_cases hx : z.getD k [] = x
        · have HX := Lib.hid hx
          rw [hx] at c1
          clear hx
          go_wp2
          go_ret
          exact ⟨.inl ⟨k, by rw [HL.out]; exact hk2, HX.out, rfl⟩, rfl⟩
        · have HX := Lib.hid hx
          have t : ((bs (z.getD k [])).toList == (bs x).toList) = false := by rw [bs_toList, bs_toList]; simpa using hx
          clear hx
          generalize bs (z.getD k []) = y at c1 t
          go_wp2
          go_roundw
          case rel =>
            refine ⟨k + 1, by omega, by go_num, fun j hj => ?_, trivial⟩
            rcases Nat.lt_succ_iff_lt_or_eq.1 hj with h | h
            · exact HA.out j h
            · rw [h]; exact HX.out
          case measure => simp [intOf]; omega
      · obtain rfl : k = L := by omega
        go_wp2
        go_ret
        refine ⟨.inr ⟨fun hx => ?_, rfl⟩, rfl⟩
        obtain ⟨i, hi, e⟩ := mem_getD hx
        exact HA.out i (by rw [← HL.out]; exact hi) e
end Go.Proofs.YtfgcbdjkimkgpaaGreatDoor
namespace Go.Proofs.YtfgcbdjkimkgpaaGreatDoor
set_option maxRecDepth 100000
open Go.ChangeShapes Go.WideShapes Go.ChangeAt Go.RowKit

/-- x put in at place k -/
def ins (k : Nat) (x : Str) (U : List Str) : List Str := U.take k ++ x :: U.drop k
theorem ins_length (k : Nat) (x : Str) (U : List Str) : (ins k x U).length = U.length + 1 := by
  unfold ins
  rw [List.length_append, List.length_cons, List.length_take, List.length_drop]
  omega
theorem ins_mem {k : Nat} {x y : Str} {U : List Str} : y ∈ ins k x U ↔ y = x ∨ y ∈ U := by
  unfold ins
  rw [List.mem_append, List.mem_cons]
  constructor
  · rintro (h | h | h)
    · exact .inr (List.mem_of_mem_take h)
    · exact .inl h
    · exact .inr (List.mem_of_mem_drop h)
  · rintro (h | h)
    · exact .inr (.inl h)
    · rw [← List.take_append_drop k U] at h
      rcases List.mem_append.1 h with h | h
      · exact .inl h
      · exact .inr (.inr h)
theorem mem_take_at {U : List Str} {k : Nat} {y : Str} (h : y ∈ U.take k) : ∃ t, t < k ∧ t < U.length ∧ U.getD t [] = y := by
  obtain ⟨i, hi, e⟩ := List.getElem_of_mem h
  have hi' := hi
  rw [List.length_take] at hi'
  refine ⟨i, by omega, by omega, ?_⟩
  rw [List.getElem_take] at e
  rw [List.getD, List.getElem?_eq_getElem (by omega)]; exact e
theorem mem_drop_at {U : List Str} {k : Nat} {y : Str} (h : y ∈ U.drop k) : ∃ t, k ≤ t ∧ t < U.length ∧ U.getD t [] = y := by
  obtain ⟨i, hi, e⟩ := List.getElem_of_mem h
  have hi' := hi
  rw [List.length_drop] at hi'
  refine ⟨k + i, by omega, by omega, ?_⟩
  rw [List.getElem_drop] at e
  rw [List.getD, List.getElem?_eq_getElem (by omega)]; exact e
theorem ins_up {k : Nat} {x : Str} {U : List Str} (hU : Up U) (hlo : ∀ t, t < k → t < U.length → U.getD t [] < x) (hhi : k < U.length → ¬ U.getD k [] < x) (hx : x ∉ U) : Up (ins k x U) := by
  have hgt : ∀ y ∈ U.drop k, x < y := fun y hy => by
    obtain ⟨t, h1, h2, rfl⟩ := mem_drop_at hy
    have h3 : x ≤ U.getD t [] := List.le_trans (List.not_lt.1 (hhi (by omega))) (up_le hU h1 h2)
    exact lt_of_le_ne h3 (fun e => hx (e ▸ getD_mem h2))
  have hlt : ∀ y ∈ U.take k, y < x := fun y hy => by
    obtain ⟨t, h1, h2, rfl⟩ := mem_take_at hy
    exact hlo t h1 h2
  unfold ins Up
  refine List.pairwise_append.2 ⟨hU.sublist (List.take_sublist _ _), List.pairwise_cons.2 ⟨hgt, hU.sublist (List.drop_sublist _ _)⟩, fun a ha b hb => ?_⟩
  rcases List.mem_cons.1 hb with rfl | hb
  · exact hlt a ha
  · exact List.lt_trans (hlt a ha) (hgt b hb)

theorem map_at {l : List Str} {j : Nat} {u : Value} (h : (l.map encStr)[j]? = some u) : ∃ hj : j < l.length, u = encStr l[j] := by
  have hlt : j < l.length := by
    rcases Nat.lt_or_ge j l.length with k | k
    · exact k
    · rw [List.getElem?_eq_none (by rw [List.length_map]; exact k)] at h; cases h
  rw [List.getElem?_map, List.getElem?_eq_getElem hlt] at h
  cases h
  exact ⟨hlt, rfl⟩
theorem map_one (l : List Str) : ∀ u ∈ l.map encStr, u.oneCell' = true := by intro u hu; simp at hu; obtain ⟨_, _, rfl⟩ := hu; rfl
theorem addr0 (g j : Nat) : (⟨g, 0, none⟩ : Addr).add j = ⟨g, j, none⟩ := by unfold Addr.add; by_cases h : j = 0 <;> simp [h]
theorem addrK (g k j : Nat) : (⟨g, k, none⟩ : Addr).add j = ⟨g, k + j, none⟩ := by unfold Addr.add; by_cases h : j = 0 <;> simp [h]

/-- appended to a slice that has no room: a new row -/
theorem app_new {w : World} {base k m c : Nat} {olds news : List Str} {b x : Addr} (ty : TypeId) (hlo : olds.length = k) (ho : ∀ j u, (olds.map encStr)[j]? = some u → w.cell? (b.add j) = some u)
    (hl : news.length = m) (hc : ∀ j u, (news.map encStr)[j]? = some u → w.cell? (x.add j) = some u) (hm : 0 < m) (hbig : k + m ≤ 8388608) (hbase : base ≤ w.heap.size) :
    ∃ cap' w', (Builtin.append_ #[27, 27] ty #[.slice (some b) k k, .slice (some x) m c]).run Tryz.prog w = .ok (.slice (some ⟨w.heap.size, 0, none⟩) (k + m) cap') w' ∧ k + m ≤ cap' ∧
      w'.ownsRow base 9 1 (.slice (some ⟨w.heap.size, 0, none⟩) (k + m) cap') (k + m) ((olds ++ news).map encStr) ∧ w.grownBy w' none := by
  obtain ⟨i0, hi, hz0, hz1, hz2⟩ := info_parts infoStr
  have hr := run_append_grow (P := Tryz.prog) w 27 ty 9 i0 (.string ByteArray.empty) Tryz.underlying27 hi hz0 b k k (olds.map encStr) (by rw [hz1, List.length_map, hlo]; omega) ho x m c (news.map encStr) (by rw [hz1, List.length_map, hl]; omega) hc (by omega) (by omega) (growslice_fits (by omega) (by rw [hz2]; omega))
  have hge := grownCap_ge w (k + m) k 9
  have hlen : ((olds ++ news).map encStr).length = (k + m) * 1 := by rw [List.length_map, List.length_append, hlo, hl]; omega
  refine ⟨_, _, hr, hge, ⟨hlen, .inr ⟨w.heap.size, _, _, rfl, hbase, heap_alloc_new w.drew _, hge, grownCap_le_maxLen w (k + m) k 9 (by unfold maxLen; omega), ?_, ?_⟩⟩, ⟨rfl, rfl, rfl, by simp, fun k hk _ => heap_alloc_old w.drew _ hk⟩⟩
  · simp only [Array.size_append, List.size_toArray, size_zeroCells, List.length_map, hlo, hl]
    show k + m + _ * 1 = _
    omega
  · simp only [Array.toList_append, List.append_assoc]
    rw [← List.append_assoc, ← hlen, List.map_append]
    exact List.take_left

/-- what the reference's two appends leave -/
theorem rise_some {W : World} {base g n cap k : Nat} {U : List Str} (x : Str) (hown : W.ownsRow base 9 1 (.slice (some ⟨g, 0, none⟩) n cap) n (U.map encStr)) (hk : k ≤ n) (hn : n ≤ 4194304) (hbase : base ≤ W.heap.size)
    (A : Option Addr) (hA : k < n → A = some ⟨g, k, none⟩) (c : Nat) :
    ∃ v2 W2 g3 cap3 W3, (Builtin.append_ #[27, 27] 27 #[.slice (some ⟨W.heap.size, 0, none⟩) 1 1, .slice A (n - k) c]).run Tryz.prog (W.alloc (.cells #[.string (bs x)] 9)) = .ok v2 W2 ∧
      (Builtin.append_ #[27, 27] 27 #[.slice (some ⟨g, 0, none⟩) k k, v2]).run Tryz.prog W2 = .ok (.slice (some ⟨g3, 0, none⟩) (n + 1) cap3) W3 ∧
      n + 1 ≤ cap3 ∧ W3.ownsRow base 9 1 (.slice (some ⟨g3, 0, none⟩) (n + 1) cap3) (n + 1) ((ins k x U).map encStr) ∧ Below base W W3 := by
  have hU : U.length = n := by have := hown.1; simpa using this
  have hg := hown.lt g rfl
  have hrow : (W.alloc (.cells #[.string (bs x)] 9)).ownsRow base 9 1 (.slice (some ⟨W.heap.size, 0, none⟩) 1 1) 1 ([x].map encStr) :=
    ⟨rfl, .inr ⟨W.heap.size, 1, #[.string (bs x)], rfl, hbase, heap_alloc_new W _, Nat.le_refl _, by unfold maxLen; omega, rfl, rfl⟩⟩
  have hB1 : Below base W (W.alloc (.cells #[.string (bs x)] 9)) := (Below.refl _ W).alloc hbase _
  have hown1 := hown.alloc (.cells #[.string (bs x)] 9)
  have hsz1 : (W.alloc (.cells #[.string (bs x)] 9)).heap.size = W.heap.size + 1 := by simp
  -- the inner append
  obtain ⟨g2, cap2, W2, r1, o2, hB2, hown2⟩ : ∃ g2 cap2 W2, (Builtin.append_ #[27, 27] 27 #[.slice (some ⟨W.heap.size, 0, none⟩) 1 1, .slice A (n - k) c]).run Tryz.prog (W.alloc (.cells #[.string (bs x)] 9)) = .ok (.slice (some ⟨g2, 0, none⟩) (1 + (n - k)) cap2) W2 ∧
      W2.ownsRow base 9 1 (.slice (some ⟨g2, 0, none⟩) (1 + (n - k)) cap2) (1 + (n - k)) ((x :: U.drop k).map encStr) ∧ Below base W W2 ∧ W2.ownsRow base 9 1 (.slice (some ⟨g, 0, none⟩) n cap) n (U.map encStr) := by
    by_cases hkn : k < n
    · rw [hA hkn]
      obtain ⟨i0, hi, hz0, hz1, hz2⟩ := info_parts infoStr
      obtain ⟨g2, cap2, W2, r1, o2, gr2, _⟩ := app_own (x := ⟨g, k, none⟩) (m := n - k) (c := c) (news := (U.drop k).map encStr) 27 hi hz0 hz1 hz2 rfl hrow (by rw [List.length_map, List.length_drop, hU]) (fun j u hj => by
          obtain ⟨hlt, rfl⟩ := map_at hj
          rw [List.length_drop] at hlt
          have := hown1.cells (g := g) rfl (k + j) (encStr (U.drop k)[j]) (by rw [List.getElem?_map, List.getElem?_eq_getElem (by omega), List.getElem_drop]; rfl)
          rw [addr0] at this
          rw [addrK]; exact this) (map_one _) (by unfold maxLen; omega) (.inr (growslice_fits (by omega) (by omega))) (by omega)
      refine ⟨g2, cap2, W2, r1, ?_, hB1.grown gr2 (by omega) (by intro q hq; cases hq; exact hbase), hown1.kept gr2 (.inr (by simp [Value.ownBlock]; omega))⟩
      simpa using o2
    · have e0 : n - k = 0 := by omega
      rw [e0]
      refine ⟨W.heap.size, 1, _, app_none 27 hrow A c, ?_, hB1, hown1⟩
      have : U.drop k = [] := List.drop_eq_nil_of_le (by omega)
      rw [this]; exact hrow
  -- the outer append
  obtain ⟨cap3, W3, r2, hc3, o3, gr3⟩ := app_new (w := W2) (base := base) (k := k) (m := 1 + (n - k)) (c := cap2) (olds := U.take k) (news := x :: U.drop k) (b := ⟨g, 0, none⟩) (x := ⟨g2, 0, none⟩) 27 (by rw [List.length_take]; omega) (fun j u hj => by
      obtain ⟨hlt, rfl⟩ := map_at hj
      rw [List.length_take] at hlt
      exact hown2.cells (g := g) rfl j _ (by rw [List.getElem?_map, List.getElem?_eq_getElem (by omega), List.getElem_take]; rfl)) (by rw [List.length_cons, List.length_drop, hU]; omega) (o2.cells (g := g2) rfl) (by omega) (by omega) (Nat.le_trans hbase hB2.size)
  have e1 : k + (1 + (n - k)) = n + 1 := by omega
  rw [e1] at r2 hc3 o3
  exact ⟨_, W2, _, cap3, W3, r1, r2, hc3, o3, hB2.grown gr3 (Nat.le_trans hbase hB2.size) (by intro q hq; cases hq)⟩

/-- the first string -/
theorem rise_nil (W : World) (base : Nat) (x : Str) (hbase : base ≤ W.heap.size) :
    ∃ g3 cap3 W3, (Builtin.append_ #[27, 27] 27 #[.slice (some ⟨W.heap.size, 0, none⟩) 1 1, .slice none 0 0]).run Tryz.prog (W.alloc (.cells #[.string (bs x)] 9)) = .ok (.slice (some ⟨W.heap.size, 0, none⟩) 1 1) (W.alloc (.cells #[.string (bs x)] 9)) ∧
      (Builtin.append_ #[27, 27] 27 #[.slice none 0 0, .slice (some ⟨W.heap.size, 0, none⟩) 1 1]).run Tryz.prog (W.alloc (.cells #[.string (bs x)] 9)) = .ok (.slice (some ⟨g3, 0, none⟩) 1 cap3) W3 ∧
      1 ≤ cap3 ∧ W3.ownsRow base 9 1 (.slice (some ⟨g3, 0, none⟩) 1 cap3) 1 ([x].map encStr) ∧ Below base W W3 := by
  have hrow : (W.alloc (.cells #[.string (bs x)] 9)).ownsRow base 9 1 (.slice (some ⟨W.heap.size, 0, none⟩) 1 1) 1 ([x].map encStr) :=
    ⟨rfl, .inr ⟨W.heap.size, 1, #[.string (bs x)], rfl, hbase, heap_alloc_new W _, Nat.le_refl _, by unfold maxLen; omega, rfl, rfl⟩⟩
  have hB1 : Below base W (W.alloc (.cells #[.string (bs x)] 9)) := (Below.refl _ W).alloc hbase _
  obtain ⟨i0, hi, hz0, hz1, hz2⟩ := info_parts infoStr
  obtain ⟨v', w', r2, o3, gr3, hv⟩ := run_append_own (P := Tryz.prog) (W.alloc (.cells #[.string (bs x)] 9)) base 27 27 9 i0 (.string ByteArray.empty) 1 16 Tryz.underlying27 hi hz0 hz1 hz2 rfl (by omega) (.slice none 0 0) 0 [] (World.ownsRow_nil _ _ _ _) ⟨W.heap.size, 0, none⟩ 1 1 ([x].map encStr) rfl (hrow.cells (g := W.heap.size) rfl) (map_one _) (by unfold maxLen; omega) (by omega) (by simp; omega)
  rcases o3.2 with ⟨h, _⟩ | ⟨g3, cap3, cur, rfl, _, _, hc3, _⟩
  · exact absurd (hv.1 h).2 (by omega)
  · exact ⟨g3, cap3, w', app_none 27 hrow none 0, r2, hc3, o3, hB1.grown gr3 (by simp; omega) (by intro q hq; cases hq)⟩

/-- what the loop keeps: the strings so far -/
def RInv (z : List Str) (w : World) (i : Nat) (out : Value) (wr : World) : Prop :=
  ∃ U : List Str, Up U ∧ (∀ x, x ∈ U ↔ x ∈ z.take i) ∧ U.length ≤ i ∧ Below w.heap.size w wr ∧
    ((U = [] ∧ out = .slice none 0 0) ∨ (0 < U.length ∧ ∃ g cap, out = .slice (some ⟨g, 0, none⟩) U.length cap ∧ U.length ≤ cap ∧ wr.ownsRow w.heap.size 9 1 out U.length (U.map encStr)))

theorem take_succ_mem {z : List Str} {i : Nat} (hi : i < z.length) (x : Str) : x ∈ z.take (i + 1) ↔ x = z.getD i [] ∨ x ∈ z.take i := by
  rw [List.take_succ_eq_append_getElem hi, List.mem_append, List.mem_singleton, List.getD, List.getElem?_eq_getElem hi, or_comm]; rfl

end Go.Proofs.YtfgcbdjkimkgpaaGreatDoor
namespace Go.Proofs.YtfgcbdjkimkgpaaGreatDoor
set_option maxRecDepth 100000

abbrev Bv := BitVec 64

/-! the model's operations at words -/
theorem bv_lt (s : Bv) : s.toNat < 18446744073709551616 := s.isLt
theorem bv_and (s t : Bv) : bits .and .u64 (s.toNat : Int) (t.toNat : Int) = ((s &&& t).toNat : Int) := by
  rw [bits_and_u64_nat _ _ (bv_lt s) (bv_lt t), BitVec.toNat_and]
theorem bv_or (s t : Bv) : bits .or .u64 (s.toNat : Int) (t.toNat : Int) = ((s ||| t).toNat : Int) := by
  rw [bits_or_u64_nat _ _ (bv_lt s) (bv_lt t), BitVec.toNat_or]
theorem bv_xor (s t : Bv) : bits .xor .u64 (s.toNat : Int) (t.toNat : Int) = ((s ^^^ t).toNat : Int) := by
  rw [bits_xor_u64_nat _ _ (bv_lt s) (bv_lt t), BitVec.toNat_xor]
theorem bv_of (s : Bv) : BitVec.ofInt 64 (s.toNat : Int) = s := by
  apply BitVec.eq_of_toNat_eq
  rw [BitVec.ofInt_natCast, BitVec.toNat_ofNat]; exact Nat.mod_eq_of_lt s.isLt
theorem bv_wrap (s : Bv) : IntKind.u64.wrap (s.toNat : Int) = (s.toNat : Int) := by
  rw [IntKind.wrap_u64]; have := bv_lt s; omega
theorem bv_andNot (s t : Bv) : bits .andNot .u64 (s.toNat : Int) (t.toNat : Int) = ((s &&& ~~~t).toNat : Int) := by
  show IntKind.u64.wrap ((BitVec.ofInt 64 (s.toNat : Int) &&& ~~~BitVec.ofInt 64 (t.toNat : Int)).toNat : Int) = _
  rw [bv_of, bv_of, bv_wrap]
theorem bv_not (s : Bv) : bits .xor .u64 18446744073709551615 (s.toNat : Int) = ((~~~s).toNat : Int) := by
  show IntKind.u64.wrap ((BitVec.ofInt 64 18446744073709551615 ^^^ BitVec.ofInt 64 (s.toNat : Int)).toNat : Int) = _
  rw [bv_of, bv_wrap, show BitVec.ofInt 64 18446744073709551615 = BitVec.allOnes 64 by decide, BitVec.allOnes_xor]
theorem bv_add_one (s : Bv) : IntKind.u64.wrap ((s.toNat : Int) + 1) = ((s + 1#64).toNat : Int) := by
  rw [IntKind.wrap_u64, BitVec.toNat_add]; simp
theorem bv_sub_one (s : Bv) : IntKind.u64.wrap ((s.toNat : Int) - 1) = ((s - 1#64).toNat : Int) := by
  rw [IntKind.wrap_u64, BitVec.toNat_sub]; have := bv_lt s; simp; omega
theorem bv_shl (s : Bv) (k : Nat) : IntKind.u64.wrap ((s.toNat : Int) * 2 ^ k) = ((s <<< k).toNat : Int) := by
  rw [IntKind.wrap_u64, BitVec.toNat_shiftLeft, Nat.shiftLeft_eq]; simp
theorem bv_shr (s : Bv) (k : Nat) : (s.toNat : Int) / 2 ^ k = ((s >>> k).toNat : Int) := by
  rw [BitVec.toNat_ushiftRight, Nat.shiftRight_eq_div_pow]; simp

/-- the least and the greatest number at which a test says yes -/
theorem least (p : Nat → Bool) : ∀ N, (∀ i, i < N → p i = false) ∨ ∃ n, n < N ∧ p n = true ∧ ∀ i, i < n → p i = false
  | 0 => .inl fun _ h => absurd h (Nat.not_lt_zero _)
  | N + 1 => by
    rcases least p N with h | ⟨n, hn, h1, h2⟩
    · cases hp : p N
      · left; intro i hi
        rcases Nat.lt_succ_iff_lt_or_eq.1 hi with h' | h'
        · exact h i h'
        · rw [h']; exact hp
      · exact .inr ⟨N, by omega, hp, h⟩
    · exact .inr ⟨n, by omega, h1, h2⟩
theorem greatest (p : Nat → Bool) : ∀ N, (∀ i, i < N → p i = false) ∨ ∃ n, n < N ∧ p n = true ∧ ∀ i, n < i → i < N → p i = false
  | 0 => .inl fun _ h => absurd h (Nat.not_lt_zero _)
  | N + 1 => by
    cases hp : p N
    · rcases greatest p N with h | ⟨n, hn, h1, h2⟩
      · left; intro i hi
        rcases Nat.lt_succ_iff_lt_or_eq.1 hi with h' | h'
        · exact h i h'
        · rw [h']; exact hp
      · refine .inr ⟨n, by omega, h1, fun i h3 h4 => ?_⟩
        rcases Nat.lt_succ_iff_lt_or_eq.1 h4 with h' | h'
        · exact h2 i h3 h'
        · rw [h']; exact hp
    · exact .inr ⟨N, by omega, hp, fun i h1 h2 => by omega⟩

theorem bv_ext {s t : Bv} (h : ∀ i, i < 64 → s.getLsbD i = t.getLsbD i) : s = t := BitVec.eq_of_getLsbD_eq fun i hi => h i hi
theorem bit_ge (s : Bv) {i : Nat} (h : 64 ≤ i) : s.getLsbD i = false := BitVec.getLsbD_of_ge s i h

/-- one more: the lowest number that is not in it comes in, all below go -/
theorem add_one_bit (G : Bv) (n : Nat) (hn : n < 64) (h0 : G.getLsbD n = false) (h1 : ∀ i, i < n → G.getLsbD i = true) (i : Nat) (hi : i < 64) :
    (G + 1#64).getLsbD i = if i < n then false else if i = n then true else G.getLsbD i := by
  have hb : ∀ j, G.toNat.testBit j = G.getLsbD j := fun _ => rfl
  have hm : G.toNat % 2 ^ n = 2 ^ n - 1 := by
    apply Nat.eq_of_testBit_eq
    intro j
    rw [Nat.testBit_mod_two_pow, Nat.testBit_two_pow_sub_one, hb]
    by_cases hj : j < n
    · simp [hj, h1 j hj]
    · simp [hj]
  have he : G.toNat / 2 ^ n % 2 = 0 := by
    have h := hb n
    rw [h0, Nat.testBit_eq_decide_div_mod_eq] at h
    have := of_decide_eq_false h
    omega
  have hp : 0 < 2 ^ n := Nat.two_pow_pos n
  have hs : G.toNat + 1 = (G.toNat / 2 ^ n + 1) * 2 ^ n := by
    have := Nat.div_add_mod G.toNat (2 ^ n)
    rw [hm, Nat.mul_comm] at this
    rw [Nat.add_mul, Nat.one_mul]; omega
  have hor : G.toNat / 2 ^ n + 1 = G.toNat / 2 ^ n ||| 1 := by
    obtain ⟨q, hq⟩ : ∃ q, G.toNat / 2 ^ n = 2 * q := ⟨G.toNat / 2 ^ n / 2, by omega⟩
    rw [hq]
    apply Nat.eq_of_testBit_eq
    intro j
    rw [Nat.testBit_or]
    cases j with
    | zero => simp [Nat.testBit_zero]
    | succ j => simp [Nat.testBit_succ]; rw [show (2 * q + 1) / 2 = q by omega]
  have ht : (G + 1#64).getLsbD i = (G.toNat + 1).testBit i := by
    show (G + 1#64).toNat.testBit i = _
    rw [BitVec.toNat_add]
    show ((G.toNat + 1) % 2 ^ 64).testBit i = _
    rw [Nat.testBit_mod_two_pow]; simp [hi]
  rw [ht, hs, hor, Nat.testBit_mul_two_pow, Nat.testBit_or, Nat.testBit_div_two_pow]
  by_cases c1 : i < n
  · simp [c1]; omega
  · by_cases c2 : i = n
    · subst c2; simp
    · have c3 : n ≤ i := by omega
      have c4 : (1 : Nat).testBit (i - n) = false := by
        rw [Nat.testBit_eq_decide_div_mod_eq]
        have : 1 < 2 ^ (i - n) := Nat.one_lt_two_pow (by omega)
        rw [Nat.div_eq_of_lt this]; rfl
      rw [c4, show i - n + n = i by omega, hb]
      simp [c1, c2, c3]
theorem add_one_all (G : Bv) (h : ∀ i, i < 64 → G.getLsbD i = true) : G + 1#64 = 0#64 := by
  have : G = BitVec.allOnes 64 := bv_ext fun i hi => by rw [h i hi, BitVec.getLsbD_allOnes]; simp [hi]
  rw [this]; decide
theorem sub_one_not (s : Bv) : s - 1#64 = ~~~(~~~s + 1#64) := by
  apply BitVec.eq_of_toNat_eq
  rw [BitVec.toNat_sub, BitVec.toNat_not, BitVec.toNat_add, BitVec.toNat_not]
  have := s.isLt
  simp only [BitVec.toNat_ofNat]
  omega
/-- the lowest number leaves: s without it -/
theorem drop_bit (s : Bv) (n : Nat) (hn : n < 64) (h1 : s.getLsbD n = true) (h0 : ∀ i, i < n → s.getLsbD i = false) (i : Nat) (hi : i < 64) :
    (s &&& (s - 1#64)).getLsbD i = (s.getLsbD i && i != n) := by
  have h := add_one_bit (~~~s) n hn (by simp [hn, h1]) (fun j hj => by simp [h0 j hj]; omega) i hi
  rw [BitVec.getLsbD_and, sub_one_not, BitVec.getLsbD_not, h]
  by_cases c1 : i < n
  · simp [c1, h0 i c1]
  · by_cases c2 : i = n
    · subst c2; simp
    · simp [c1, c2, hi]

/-! order, by the highest number at which two sets part -/
theorem nat_lt_bit {x y : Nat} (i : Nat) (hx : x.testBit i = false) (hy : y.testBit i = true) (h : ∀ j, i < j → x.testBit j = y.testBit j) : x < y := by
  have hq : x / 2 ^ (i + 1) = y / 2 ^ (i + 1) := by
    apply Nat.eq_of_testBit_eq
    intro j
    rw [Nat.testBit_div_two_pow, Nat.testBit_div_two_pow]
    exact h _ (by omega)
  rw [Nat.testBit_eq_decide_div_mod_eq] at hx hy
  have hx := of_decide_eq_false hx
  have hy := of_decide_eq_true hy
  rw [Nat.pow_succ, ← Nat.div_div_eq_div_mul, ← Nat.div_div_eq_div_mul] at hq
  have hp : 0 < 2 ^ i := Nat.two_pow_pos i
  have h1 : x / 2 ^ i < y / 2 ^ i := by omega
  exact Nat.lt_of_not_le fun hle => by
    have := Nat.div_le_div_right (c := 2 ^ i) hle
    omega
theorem lt_of_bit {x y : Bv} (i : Nat) (hx : x.getLsbD i = false) (hy : y.getLsbD i = true) (h : ∀ j, i < j → x.getLsbD j = y.getLsbD j) : x.toNat < y.toNat :=
  nat_lt_bit i hx hy h
theorem bit_of_lt {x y : Bv} (h : x.toNat < y.toNat) : ∃ i, i < 64 ∧ x.getLsbD i = false ∧ y.getLsbD i = true ∧ ∀ j, i < j → x.getLsbD j = y.getLsbD j := by
  rcases greatest (fun i => x.getLsbD i != y.getLsbD i) 64 with h1 | ⟨n, hn, h1, h2⟩
  · exfalso
    have : x = y := bv_ext fun i hi => by simpa using h1 i hi
    rw [this] at h; omega
  · have h3 : ∀ j, n < j → x.getLsbD j = y.getLsbD j := fun j hj => by
      by_cases hj' : j < 64
      · simpa using h2 j hj hj'
      · rw [bit_ge x (by omega), bit_ge y (by omega)]
    cases hx : x.getLsbD n <;> cases hy : y.getLsbD n <;> simp [hx, hy] at h1
    · exact ⟨n, hn, hx, hy, h3⟩
    · have := lt_of_bit n hy hx (fun j hj => (h3 j hj).symm)
      omega

/-! Below -/
def low (n : Nat) : Bv := BitVec.ofNat 64 (2 ^ n - 1)
theorem low_bit (n i : Nat) (hi : i < 64) : (low n).getLsbD i = decide (i < n) := by
  unfold low
  rw [BitVec.getLsbD_ofNat, Nat.testBit_two_pow_sub_one]; simp [hi]
def one (n : Nat) : Bv := BitVec.ofNat 64 (2 ^ n)
theorem one_bit (n i : Nat) (hi : i < 64) : (one n).getLsbD i = decide (i = n) := by
  unfold one
  rw [BitVec.getLsbD_ofNat, Nat.testBit_two_pow]; simp [hi]; exact ⟨fun h => h.symm, fun h => h.symm⟩
theorem one_toNat (n : Nat) (h : n < 64) : (one n).toNat = 2 ^ n := by
  unfold one
  rw [BitVec.toNat_ofNat]; exact Nat.mod_eq_of_lt (Nat.pow_lt_pow_right (by omega) h)
theorem low_toNat (n : Nat) (h : n ≤ 64) : (low n).toNat = 2 ^ n - 1 := by
  unfold low
  rw [BitVec.toNat_ofNat]
  have : 2 ^ n ≤ 2 ^ 64 := Nat.pow_le_pow_right (by omega) h
  have hp : 0 < 2 ^ n := Nat.two_pow_pos n
  exact Nat.mod_eq_of_lt (by omega)

/-! Sub: the next subset -/
/-- n is where t may be raised within s: s has it, t has not, and t's numbers above it are in s -/
def Cand (s t : Bv) (n : Nat) : Prop := s.getLsbD n = true ∧ t.getLsbD n = false ∧ ∀ j, n < j → t.getLsbD j = true → s.getLsbD j = true
/-- u is t raised at n: t's numbers above n, n, and none below -/
def Raised (t u : Bv) (n : Nat) : Prop := ∀ i, i < 64 → u.getLsbD i = if i < n then false else if i = n then true else t.getLsbD i
/-- u is the next subset of s behind t; 0: there is none -/
def NextOf (s t u : Bv) : Prop := (u = 0#64 ∧ ∀ n, n < 64 → ¬ Cand s t n) ∨ ∃ n, n < 64 ∧ Cand s t n ∧ (∀ i, i < n → ¬ Cand s t i) ∧ Raised t u n

def gw (s t : Bv) (len : Nat) : Bv := if t &&& ~~~s = 0#64 then t else t &&& ~~~low len ||| s &&& low len
def subOf (s g : Bv) : Bv := (g ||| ~~~s) + 1#64 &&& s

/-- len is how many bits x wants -/
def IsLen (x : Bv) (len : Nat) : Prop := len ≤ 64 ∧ (∀ i, len ≤ i → x.getLsbD i = false) ∧ (0 < len → x.getLsbD (len - 1) = true)

theorem subOf_next (s g : Bv) (hg : ∀ i, g.getLsbD i = true → s.getLsbD i = true) :
    (subOf s g = 0#64 ∧ ∀ i, i < 64 → s.getLsbD i = true → g.getLsbD i = true) ∨
    ∃ n, n < 64 ∧ s.getLsbD n = true ∧ g.getLsbD n = false ∧ (∀ i, i < n → s.getLsbD i = true → g.getLsbD i = true) ∧ Raised g (subOf s g) n := by
  rcases least (fun i => s.getLsbD i && !g.getLsbD i) 64 with h | ⟨n, hn, h1, h2⟩
  · left
    have hall : ∀ i, i < 64 → s.getLsbD i = true → g.getLsbD i = true := fun i hi hs => by
      have := h i hi; simp [hs] at this; exact this
    refine ⟨?_, hall⟩
    unfold subOf
    rw [add_one_all]
    · simp
    · intro i hi
      rw [BitVec.getLsbD_or, BitVec.getLsbD_not]
      cases hs : s.getLsbD i
      · simp [hi]
      · simp [hall i hi hs]
  · right
    simp at h1
    have hlt : ∀ i, i < n → s.getLsbD i = true → g.getLsbD i = true := fun i hi hs => by
      have := h2 i hi; simp [hs] at this; exact this
    refine ⟨n, hn, h1.1, h1.2, hlt, fun i hi => ?_⟩
    unfold subOf
    rw [BitVec.getLsbD_and, add_one_bit (g ||| ~~~s) n hn (by simp [h1.1, h1.2]) ?_ i hi]
    · by_cases c1 : i < n
      · simp [c1]
      · by_cases c2 : i = n
        · subst c2; simp [h1.1]
        · simp only [c1, c2, if_false]
          rw [BitVec.getLsbD_or, BitVec.getLsbD_not]
          cases hs : s.getLsbD i
          · cases hgi : g.getLsbD i
            · simp
            · have := hg i hgi; rw [hs] at this; cases this
          · simp
    · intro j hj
      rw [BitVec.getLsbD_or, BitVec.getLsbD_not]
      cases hs : s.getLsbD j
      · simp; omega
      · simp [hlt j hj hs]

theorem raised_congr {t g u : Bv} {n : Nat} (h : Raised g u n) (e : ∀ i, n < i → g.getLsbD i = t.getLsbD i) : Raised t u n := fun i hi => by
  rw [h i hi]
  by_cases c1 : i < n
  · simp [c1]
  · by_cases c2 : i = n
    · simp [c2]
    · simp only [c1, c2, if_false]; exact e i (by omega)

theorem sub_next (s t : Bv) (len : Nat) (hl : IsLen (t &&& ~~~s) len) : NextOf s t (subOf s (gw s t len)) := by
  have hout : ∀ i, (t &&& ~~~s).getLsbD i = (t.getLsbD i && (decide (i < 64) && !s.getLsbD i)) := fun i => by rw [BitVec.getLsbD_and, BitVec.getLsbD_not]
  by_cases h0 : t &&& ~~~s = 0#64
  · -- t is within s
    have hts : ∀ i, t.getLsbD i = true → s.getLsbD i = true := fun i hi => by
      by_cases h64 : i < 64
      · have := hout i; rw [h0, hi] at this; simp [h64] at this; exact this
      · rw [bit_ge t (by omega)] at hi; cases hi
    have hg : gw s t len = t := by unfold gw; rw [if_pos h0]
    rw [hg]
    rcases subOf_next s t hts with ⟨e, h⟩ | ⟨n, hn, h1, h2, h3, h4⟩
    · refine .inl ⟨e, fun n hn hc => ?_⟩
      have := h n hn hc.1; rw [hc.2.1] at this; cases this
    · refine .inr ⟨n, hn, ⟨h1, h2, fun j _ hj => hts j hj⟩, fun i hi hc => ?_, h4⟩
      have := h3 i hi hc.1; rw [hc.2.1] at this; cases this
  · obtain ⟨hl1, hl2, hl3⟩ := hl
    have hpos : 0 < len := by
      rcases Nat.eq_zero_or_pos len with h | h
      · exfalso; apply h0; apply bv_ext; intro i hi; rw [hl2 i (by omega)]; simp
      · exact h
    have htop := hl3 hpos
    rw [hout] at htop; simp at htop
    have hts : ∀ i, len ≤ i → t.getLsbD i = true → s.getLsbD i = true := fun i hi ht => by
      by_cases h64 : i < 64
      · have := hl2 i hi; rw [hout, ht] at this; simp [h64] at this; exact this
      · rw [bit_ge t (by omega)] at ht; cases ht
    have hgb : ∀ i, i < 64 → (gw s t len).getLsbD i = if i < len then s.getLsbD i else t.getLsbD i := fun i hi => by
      unfold gw; rw [if_neg h0, BitVec.getLsbD_or, BitVec.getLsbD_and, BitVec.getLsbD_and, BitVec.getLsbD_not, low_bit len i hi]
      by_cases c : i < len <;> simp [c, hi]
    have hgs : ∀ i, (gw s t len).getLsbD i = true → s.getLsbD i = true := fun i hi => by
      by_cases h64 : i < 64
      · rw [hgb i h64] at hi
        by_cases c : i < len
        · simpa [c] using hi
        · rw [if_neg c] at hi; exact hts i (by omega) hi
      · rw [bit_ge _ (by omega)] at hi; cases hi
    have hcand : ∀ n, Cand s t n → len ≤ n := fun n hc => by
      apply Nat.le_of_not_lt
      intro hlt
      by_cases e : n = len - 1
      · rw [e] at hc; have := hc.1; rw [htop.2.2] at this; cases this
      · have := hc.2.2 (len - 1) (by omega) htop.1; rw [htop.2.2] at this; cases this
    rcases subOf_next s _ hgs with ⟨e, h⟩ | ⟨n, hn, h1, h2, h3, h4⟩
    · refine .inl ⟨e, fun n hn hc => ?_⟩
      have := h n hn hc.1
      rw [hgb n hn, if_neg (by have := hcand n hc; omega), hc.2.1] at this; cases this
    · have hge : len ≤ n := by
        apply Nat.le_of_not_lt
        intro hlt
        rw [hgb n hn, if_pos hlt, h1] at h2; cases h2
      rw [hgb n hn, if_neg (by omega)] at h2
      refine .inr ⟨n, hn, ⟨h1, h2, fun j hj ht => hts j (by omega) ht⟩, fun i hi hc => ?_, raised_congr h4 fun i hi => ?_⟩
      · have := h3 i hi hc.1
        rw [hgb i (by omega), if_neg (by have := hcand i hc; omega), hc.2.1] at this; cases this
      · by_cases h64 : i < 64
        · rw [hgb i h64, if_neg (by omega)]
        · rw [bit_ge _ (by omega), bit_ge t (by omega)]

/-- what is asked of the next subset: behind t, within s, and none between -/
theorem next_order {s t u : Bv} (h : NextOf s t u) :
    (u = 0#64 ∧ ∀ x : Bv, (x &&& s).toNat ≤ t.toNat) ∨
    (u ≠ 0#64 ∧ t.toNat < u.toNat ∧ u &&& ~~~s = 0#64 ∧ ∀ x : Bv, (x &&& s).toNat ≤ t.toNat ∨ u.toNat ≤ (x &&& s).toNat) := by
  have key : ∀ x : Bv, t.toNat < (x &&& s).toNat → ∃ i, i < 64 ∧ Cand s t i ∧ (x &&& s).getLsbD i = true ∧ ∀ j, i < j → t.getLsbD j = (x &&& s).getLsbD j := fun x hx => by
    obtain ⟨i, hi, h1, h2, h3⟩ := bit_of_lt hx
    refine ⟨i, hi, ⟨?_, h1, fun j hj ht => ?_⟩, h2, h3⟩
    · rw [BitVec.getLsbD_and] at h2; simp at h2; exact h2.2
    · rw [h3 j hj, BitVec.getLsbD_and] at ht; simp at ht; exact ht.2
  rcases h with ⟨rfl, hno⟩ | ⟨n, hn, hc, hmin, hr⟩
  · refine .inl ⟨rfl, fun x => Nat.le_of_not_lt fun hx => ?_⟩
    obtain ⟨i, hi, hci, _⟩ := key x hx
    exact hno i hi hci
  · have hun : u.getLsbD n = true := by rw [hr n hn]; simp
    have hup : ∀ j, n < j → t.getLsbD j = u.getLsbD j := fun j hj => by
      by_cases h64 : j < 64
      · rw [hr j h64, if_neg (by omega), if_neg (by omega)]
      · rw [bit_ge _ (by omega), bit_ge _ (by omega)]
    refine .inr ⟨fun e => ?_, lt_of_bit n hc.2.1 hun hup, ?_, fun x => ?_⟩
    · rw [e] at hun; simp at hun
    · apply bv_ext; intro i hi
      rw [BitVec.getLsbD_and, BitVec.getLsbD_not, hr i hi]
      by_cases c1 : i < n
      · simp [c1]
      · by_cases c2 : i = n
        · subst c2; simp [hc.1]
        · simp only [c1, c2, if_false]
          cases ht : t.getLsbD i
          · simp
          · simp [hc.2.2 i (by omega) ht]
    · by_cases hx : t.toNat < (x &&& s).toNat
      · right
        obtain ⟨i, hi, hci, h2, h3⟩ := key x hx
        have hge : n ≤ i := Nat.le_of_not_lt fun hlt => hmin i hlt hci
        by_cases e : i = n
        · subst e
          apply Nat.le_of_not_lt
          intro hlt
          obtain ⟨j, hj, g1, g2, g3⟩ := bit_of_lt hlt
          by_cases c1 : j < i
          · rw [hr j hj, if_pos c1] at g2; cases g2
          · by_cases c2 : j = i
            · rw [c2, h2] at g1; cases g1
            · rw [← hup j (by omega), h3 j (by omega), g1] at g2; cases g2
        · apply Nat.le_of_lt
          refine lt_of_bit i ?_ h2 fun j hj => ?_
          · rw [← hup i (by omega)]; exact hci.2.1
          · rw [← hup j (by omega)]; exact h3 j hj
      · exact .inl (by omega)
end Go.Proofs.YtfgcbdjkimkgpaaGreatDoor
namespace Go.Proofs.YtfgcbdjkimkgpaaGreatDoor
set_option maxRecDepth 100000
set_option linter.unusedVariables false
open Go.ChangeShapes Go.WideShapes Go.ChangeAt Go.RowKit

end Go.Proofs.YtfgcbdjkimkgpaaGreatDoor
