/- Texts put together: WholeWalks, HuFlat, HuTrees, HuConcat, HuDeep, HuMid, HuDepths. -/
import Derived.Test.YthbpenanelbbcaaGreatDoorBz16
import Derived.Test.YthbpenanelbbcaaGreatDoorBz17
import Derived.Test.YthbpenanelbbcaaGreatDoorBz12
import Derived.Shelf.Spec.SlicesGrow
/- The walks of the program's own helpers on lengths. -/
namespace Go.Proofs.YthbpenanelbbcaaGreatDoor.Bi
open Go.RowKit
open Go.Proofs.YthbpenanelbbcaaGreatDoor.In (Ints)
open Go.Proofs.YthbpenanelbbcaaGreatDoor.Ze (upTo upTo_yes upTo_of upTo_bad)
set_option maxHeartbeats 1000000 in
theorem upTo_impl (l : List Int) (m : Int) (a : Option Addr) (cap B : Nat) (w : World) (hi : Ints w B a l) (hn : l.length ≤ 1048576) :
    Calls Tryz.prog 74 #[.slice a l.length cap, .int .i64 m] w fun e w' => e = .returned (.bool (upTo l m)) ∧ w' = w := by
  have HS := hideB hi
  clear hi
  obtain ⟨n, hln⟩ : ∃ n, n = l.length := ⟨_, rfl⟩
  have HLN := hideB hln
  rw [← hln] at hn ⊢
  clear hln
  go_enter Tryz.func74, Tryz.ntmps74
  go_wp2_with fail
  go_loopw [9] (fun i wr => ∃ k : Nat, i = .int .i64 k ∧ k ≤ n ∧ (∀ j (hj : j < l.length), j < k → 0 ≤ l[j] ∧ l[j] ≤ m) ∧ wr = w) (fun i _ => n - (intOf i).toNat)
  case atStart => exact ⟨0, rfl, Nat.zero_le _, fun j hj h0 => absurd h0 (Nat.not_lt_zero j), rfl⟩
  case round =>
    obtain ⟨k, rfl, hk, hall, hw⟩ := hrel
    subst hw
    have HA := hideB hall
    clear hall
    by_cases hlt : k < n
    · have hkl : k < l.length := by rw [← HLN.out]; exact hlt
      obtain ⟨b, off, rfl, hb, hc⟩ := HS.out.some (by omega)
      have ci := hc k hkl
      obtain ⟨x, hx⟩ : ∃ x, x = l[k] := ⟨_, rfl⟩
      have HX := hideB hx
      rw [← hx] at ci
      clear hc hx
      by_cases h0 : x < 0
      · have HE := hideB (upTo_bad (m := m) hkl (by rw [← HX.out]; exact Or.inl h0))
        go_wp2_with fail
        go_ret
        exact ⟨ret_boolB HE.out.symm, rfl⟩
      · by_cases h1 : m < x
        · have HE := hideB (upTo_bad (m := m) hkl (by rw [← HX.out]; exact Or.inr h1))
          have hd0 : decide (x < 0) = false := decide_eq_false h0
          go_wp2_with fail
          go_ret
          exact ⟨ret_boolB HE.out.symm, rfl⟩
        · have hd0 : decide (x < 0) = false := decide_eq_false h0
          have hd1 : decide (m < x) = false := decide_eq_false h1
          go_wp2_with fail
          go_roundw
          case rel =>
            refine ⟨k + 1, by go_num, by omega, fun j hj hjk => ?_, trivial⟩
            by_cases e : j = k
            · subst e
              rw [← HX.out]
              omega
            · exact HA.out j hj (by omega)
          case measure => simp [intOf]; omega
    · have HE : Hid (upTo l m = true) := upTo_of (fun x hx => by
        obtain ⟨j, hj, rfl⟩ := List.getElem_of_mem hx
        exact HA.out j hj (by have := HLN.out; omega))
      go_wp2_with fail
      go_ret
      exact ⟨ret_boolB HE.out.symm, rfl⟩
theorem within_upTo {l : List Int} {m : Int} (h : l.length ≤ 257) : within l m = upTo l m := by
 unfold within upTo
 exact decide_eq_decide.2 ⟨fun x => x.2, fun x => ⟨h, x⟩⟩
set_option maxHeartbeats 1000000 in
theorem within_impl (l : List Int) (m : Int) (a : Option Addr) (cap B : Nat) (w : World) (hi : Ints w B a l) (hn : l.length ≤ 1048576) :
  Calls Tryz.prog 78 #[.slice a l.length cap, .int .i64 m] w fun e w' => e = .returned (.bool (within l m)) ∧ w' = w := by
 by_cases hlong : 257 < l.length
 ·have HE := hideB (within_long (l := l) (m := m) hlong)
  clear hi
  generalize l.length = n at hlong hn ⊢
  have hd : decide ((n : Int) ≤ 257) = false := decide_eq_false (by omega)
  go_enter Tryz.func78, Tryz.ntmps78
  go_wp2_with fail
  go_ret
  exact ⟨ret_boolB HE.out.symm, rfl⟩
 ·have HU := hideB (upTo_impl l m a cap B w hi hn)
  have HE := hideB (within_upTo (m := m) (show l.length ≤ 257 by omega))
  clear hi
  generalize l.length = n at hlong hn HU ⊢
  generalize upTo l m = u at HU HE
  have hd : (n : Int) ≤ 257 := by omega
  go_enter Tryz.func78, Tryz.ntmps78
  go_wp2_with fail
  refine HU.out.mono ?_
  rintro e w' ⟨rfl, hw⟩
  subst w'
  go_wp2_with fail
  go_ret
  exact ⟨ret_boolB HE.out.symm, rfl⟩
theorem part_pos (x : Int) (h0 : 0 < x) (h2 : x ≤ 12) : ∃ n : Nat, x = n ∧ 1 ≤ n ∧ n ≤ 12 ∧ part x = 2 ^ (12 - n) := ⟨x.toNat, by omega, by omega, by omega, by unfold part; rw [if_pos h0]⟩
theorem part_none (x : Int) (h0 : ¬ 0 < x) : part x = 0 := if_neg h0
set_option maxHeartbeats 1000000 in
theorem sum_impl (l : List Int) (a : Option Addr) (cap B : Nat) (w : World) (hi : Ints w B a l) (hr : within l 12 = true) :
    Calls Tryz.prog 114 #[.slice a l.length cap] w fun e w' => e = .returned (.int .i64 (csum l : Nat)) ∧ w' = w := by
  have HS := hideB hi
  have HW := hideB (within_yes hr).2
  have hn := (within_yes hr).1
  clear hi hr
  obtain ⟨n, hln⟩ : ∃ n, n = l.length := ⟨_, rfl⟩
  have HLN := hideB hln
  rw [← hln] at hn ⊢
  clear hln
  go_enter Tryz.func114, Tryz.ntmps114
  go_wp2_with fail
  go_loopw [8, 3] (fun i v wr => ∃ k s : Nat, i = .int .i64 k ∧ v = .int .i64 s ∧ k ≤ n ∧ s = csum (l.take k) ∧ s ≤ 4096 * k ∧ wr = w) (fun i _ _ => n - (intOf i).toNat)
  case atStart => exact ⟨0, 0, rfl, rfl, Nat.zero_le _, by simp [csum], by omega, rfl⟩
  case round =>
    obtain ⟨k, s, rfl, rfl, hk, hs, hsb, hw⟩ := hrel
    subst hw
    have HC := hideB hs
    clear hs
    by_cases hlt : k < n
    · have hkl : k < l.length := by rw [← HLN.out]; exact hlt
      obtain ⟨b, off, rfl, hb, hc⟩ := HS.out.some (by omega)
      have ci := hc k hkl
      have HM := hideB (csum_more hkl)
      have hx12 := HW.out _ (List.getElem_mem hkl)
      obtain ⟨x, hx⟩ : ∃ x, x = l[k] := ⟨_, rfl⟩
      rw [← hx] at ci hx12 HM
      clear hc hx
      by_cases h0 : 0 < x
      · obtain ⟨m, rfl, hm1, hm2, hp⟩ := part_pos x h0 hx12.2
        have hsh := shr_part m hm1 hm2
        have hp2 : 2 ^ (12 - m) ≤ 4096 := by have := part_le (m : Int); rw [hp] at this; exact this
        have HP := hideB hp
        clear hp
        generalize 2 ^ (12 - m) = pm at hsh hp2 HP
        go_wp2_with fail
        go_roundw
        case rel => exact ⟨k + 1, s + pm, by go_num, by go_num, by omega, by rw [HM.out, HP.out, HC.out], by omega, trivial⟩
        case measure => simp [intOf]; omega
      · have HP := hideB (part_none x h0)
        go_wp2_with fail
        go_roundw
        case rel => exact ⟨k + 1, s, by go_num, rfl, by omega, by rw [HM.out, HP.out, HC.out]; rfl, by omega, trivial⟩
        case measure => simp [intOf]; omega
    · have HE : Hid (s = csum l) := by
        unfold Hid
        rw [HC.out, List.take_of_length_le (by have := HLN.out; omega)]
      go_wp2_with fail
      go_ret
      exact ⟨by rw [← HE.out]; rfl, rfl⟩
set_option maxHeartbeats 1000000 in
theorem count_impl (l : List Int) (a : Option Addr) (cap B : Nat) (w : World) (hi : Ints w B a l) (hn : l.length ≤ 1048576) :
    Calls Tryz.prog 46 #[.slice a l.length cap] w fun e w' => e = .returned (.int .i64 (above l : Nat)) ∧ w' = w := by
  have HS := hideB hi
  clear hi
  obtain ⟨n, hln⟩ : ∃ n, n = l.length := ⟨_, rfl⟩
  have HLN := hideB hln
  rw [← hln] at hn ⊢
  clear hln
  go_enter Tryz.func46, Tryz.ntmps46
  go_wp2_with fail
  go_loopw [8, 3] (fun i v wr => ∃ k s : Nat, i = .int .i64 k ∧ v = .int .i64 s ∧ k ≤ n ∧ s = above (l.take k) ∧ s ≤ k ∧ wr = w) (fun i _ _ => n - (intOf i).toNat)
  case atStart => exact ⟨0, 0, rfl, rfl, Nat.zero_le _, by simp [above], by omega, rfl⟩
  case round =>
    obtain ⟨k, s, rfl, rfl, hk, hs, hsb, hw⟩ := hrel
    subst hw
    have HC := hideB hs
    clear hs
    by_cases hlt : k < n
    · have hkl : k < l.length := by rw [← HLN.out]; exact hlt
      obtain ⟨b, off, rfl, hb, hc⟩ := HS.out.some (by omega)
      have ci := hc k hkl
      have HM := hideB (above_more hkl)
      obtain ⟨x, hx⟩ : ∃ x, x = l[k] := ⟨_, rfl⟩
      rw [← hx] at ci HM
      clear hc hx
      by_cases h0 : 0 < x
      · have HM2 : Hid (above (l.take (k + 1)) = s + 1) := by
          unfold Hid
          rw [HM.out, if_pos h0, HC.out]
        go_wp2_with fail
        go_roundw
        case rel => exact ⟨k + 1, s + 1, by go_num, by go_num, by omega, HM2.out.symm, by omega, trivial⟩
        case measure => simp [intOf]; omega
      · have HM2 : Hid (above (l.take (k + 1)) = s) := by
          unfold Hid
          rw [HM.out, if_neg h0, HC.out]
          rfl
        go_wp2_with fail
        go_roundw
        case rel => exact ⟨k + 1, s, by go_num, rfl, by omega, HM2.out.symm, by omega, trivial⟩
        case measure => simp [intOf]; omega
    · have HE : Hid (s = above l) := by
        unfold Hid
        rw [HC.out, List.take_of_length_le (by have := HLN.out; omega)]
      go_wp2_with fail
      go_ret
      exact ⟨by rw [← HE.out]; rfl, rfl⟩
set_option maxHeartbeats 1000000 in
theorem index_impl (l : List Int) (y : Int) (a : Option Addr) (cap B : Nat) (w : World) (hi : Ints w B a l) (hn : l.length ≤ 1048576) :
    Calls Tryz.prog 141 #[.slice a l.length cap, .int .i64 y] w fun e w' => (∃ r : Int, e = .returned (.int .i64 r) ∧ Hid (l.contains y = decide (0 ≤ r))) ∧ w' = w := by
  have HS := hideB hi
  clear hi
  obtain ⟨n, hln⟩ : ∃ n, n = l.length := ⟨_, rfl⟩
  have HLN := hideB hln
  rw [← hln] at hn ⊢
  clear hln
  go_enter Tryz.func141, Tryz.ntmps141
  go_wp2_with fail
  go_loopw [8] (fun i wr => ∃ k : Nat, i = .int .i64 k ∧ k ≤ n ∧ (∀ j (hj : j < l.length), j < k → l[j] ≠ y) ∧ wr = w) (fun i _ => n - (intOf i).toNat)
  case atStart => exact ⟨0, rfl, Nat.zero_le _, fun j hj h0 => absurd h0 (Nat.not_lt_zero j), rfl⟩
  case round =>
    obtain ⟨k, rfl, hk, hall, hw⟩ := hrel
    subst hw
    have HA := hideB hall
    clear hall
    by_cases hlt : k < n
    · have hkl : k < l.length := by rw [← HLN.out]; exact hlt
      obtain ⟨b, off, rfl, hb, hc⟩ := HS.out.some (by omega)
      have ci := hc k hkl
      obtain ⟨x, hx⟩ : ∃ x, x = l[k] := ⟨_, rfl⟩
      have HX := hideB hx
      rw [← hx] at ci
      clear hc hx
      by_cases h0 : y = x
      · have hb : (y == x) = true := beq_iff_eq.2 h0
        have HE : Hid (l.contains y = true) := by
          unfold Hid
          rw [List.contains_iff_mem, h0, HX.out]
          exact List.getElem_mem hkl
        clear h0
        go_wp2_with fail
        go_ret
        exact ⟨⟨k, rfl, HE.out.trans (decide_eq_true (by omega)).symm⟩, rfl⟩
      · have hb : (y == x) = false := beq_eq_false_iff_ne.2 h0
        have HNE := hideB h0
        clear h0
        go_wp2_with fail
        go_roundw
        case rel =>
          refine ⟨k + 1, by go_num, by omega, fun j hj hjk => ?_, trivial⟩
          by_cases e : j = k
          · subst e
            rw [← HX.out]
            exact fun h => HNE.out h.symm
          · exact HA.out j hj (by omega)
        case measure => simp [intOf]; omega
    · have HE : Hid (l.contains y = false) := by
        unfold Hid
        rw [Bool.eq_false_iff, Ne, List.contains_iff_mem]
        intro hm
        obtain ⟨j, hj, e⟩ := List.getElem_of_mem hm
        exact HA.out j hj (by have := HLN.out; omega) e
      go_wp2_with fail
      go_ret
      exact ⟨⟨-1, rfl, HE.out⟩, rfl⟩
theorem contains_impl (l : List Int) (y : Int) (a : Option Addr) (cap B : Nat) (w : World) (hi : Ints w B a l) (hn : l.length ≤ 1048576) :
  Calls Tryz.prog 113 #[.slice a l.length cap, .int .i64 y] w fun e w' => e = .returned (.bool (l.contains y)) ∧ w' = w := by
 have HI := hideB (index_impl l y a cap B w hi hn)
 clear hi
 generalize l.length = n at HI hn ⊢
 generalize l.contains y = c at HI ⊢
 go_enter Tryz.func113, Tryz.ntmps113
 go_wp2_with fail
 refine HI.out.mono ?_
 rintro e w' ⟨⟨r, rfl, hr⟩, hw⟩
 subst w'
 by_cases h0 : 0 ≤ r
 ·have HE : Hid (c = true) := hr.out.trans (decide_eq_true h0)
  clear hr
  go_wp2_with fail
  go_ret
  exact ⟨ret_boolB HE.out.symm, rfl⟩
 ·have HE : Hid (c = false) := hr.out.trans (decide_eq_false h0)
  have HR := hideB hr.out
  clear hr
  go_wp2_with fail
  go_ret
  exact ⟨ret_boolB (by first | exact HE.out.symm | exact HR.out.symm), rfl⟩
set_option maxHeartbeats 1000000 in
theorem right_impl (l : List Int) (a : Option Addr) (cap B : Nat) (w : World) (hi : Ints w B a l) (hn : l.length ≤ 1048576) :
  Calls Tryz.prog 112 #[.slice a l.length cap] w fun e w' => e = .returned (.bool (right l)) ∧ w' = w := by
 have HW := hideB (within_impl l 12 a cap B w hi hn)
 cases hw : within l 12 with
 | false =>
  have HE := hideB (right_no (l := l) (Or.inl hw))
  rw [hw] at HW
  clear hi hw
  generalize l.length = n at HW hn ⊢
  go_enter Tryz.func112, Tryz.ntmps112
  go_wp2_with fail
  refine HW.out.mono ?_
  rintro e w' ⟨rfl, hw⟩
  subst w'
  go_wp2_with fail
  go_ret
  exact ⟨ret_boolB HE.out.symm, rfl⟩
 | true =>
  have HC := hideB (sum_impl l a cap B w hi hw)
  by_cases hs : csum l ≤ 4096
  ·have HE := hideB (right_of hw hs)
   rw [hw] at HW
   clear hi hw
   generalize l.length = n at HW HC hn ⊢
   generalize csum l = c at HC hs
   have hs' : (c : Int) ≤ 4096 := by omega
   go_enter Tryz.func112, Tryz.ntmps112
   go_wp2_with fail
   refine HW.out.mono ?_
   rintro e w' ⟨rfl, hw⟩
   subst w'
   go_wp2_with fail
   refine HC.out.mono ?_
   rintro e w' ⟨rfl, hw⟩
   subst w'
   go_wp2_with fail
   go_ret
   exact ⟨ret_boolB HE.out.symm, rfl⟩
  ·have HE := hideB (right_no (l := l) (Or.inr hs))
   rw [hw] at HW
   clear hi hw
   generalize l.length = n at HW HC hn ⊢
   generalize csum l = c at HC hs
   have hs' : decide ((c : Int) ≤ 4096) = false := decide_eq_false (by omega)
   go_enter Tryz.func112, Tryz.ntmps112
   go_wp2_with fail
   refine HW.out.mono ?_
   rintro e w' ⟨rfl, hw⟩
   subst w'
   go_wp2_with fail
   refine HC.out.mono ?_
   rintro e w' ⟨rfl, hw⟩
   subst w'
   go_wp2_with fail
   go_ret
   exact ⟨ret_boolB HE.out.symm, rfl⟩
end Go.Proofs.YthbpenanelbbcaaGreatDoor.Bi


/- The walks of flatten and treesOf. -/
namespace Go.Proofs.YthbpenanelbbcaaGreatDoor.Hf
open Go.RowKit
open Go.Proofs.YthbpenanelbbcaaGreatDoor.In (IsI irow Ints made_ints)
theorem flat_next (c : List Nat) (j : Nat) (h : j < c.length) : ((flat c).take j ++ List.replicate (c.length - j) 0).set j (if 0 < c[j] then c[j] / 2 + 1 else 0) = (flat c).take (j + 1) ++ List.replicate (c.length - (j + 1)) 0 := by
 have hf : (flat c)[j]'(by rw [flat_length]; exact h) = if 0 < c[j] then c[j] / 2 + 1 else 0 := by
  unfold flat
  rw [List.getElem_map]
 rw [← hf]
 apply List.ext_getElem?
 intro i
 have hl : ((flat c).take j).length = j := by rw [List.length_take, flat_length]; omega
 have hl' : ((flat c).take (j + 1)).length = j + 1 := by rw [List.length_take, flat_length]; omega
 rw [List.getElem?_set]
 by_cases e : j = i
 ·subst e
  rw [if_pos rfl, if_pos (by rw [List.length_append, hl, List.length_replicate]; omega), List.getElem?_append_left (by omega), List.getElem?_take_of_lt (by omega), List.getElem?_eq_getElem]
 ·rw [if_neg e]
  by_cases hi : i < j
  ·rw [List.getElem?_append_left (by omega), List.getElem?_append_left (by omega), List.getElem?_take_of_lt hi, List.getElem?_take_of_lt (by omega)]
  ·rw [List.getElem?_append_right (by omega), List.getElem?_append_right (by omega), hl, hl', List.getElem?_replicate, List.getElem?_replicate]
   have : (i - j < c.length - j) = (i - (j + 1) < c.length - (j + 1)) := propext ⟨fun h => by omega, fun h => by omega⟩
   simp only [this]
def midF (c : List Nat) (j : Nat) : List Nat := (flat c).take j ++ List.replicate (c.length - j) 0
theorem midF_length (c : List Nat) (j : Nat) (h : j ≤ c.length) : (midF c j).length = c.length := by
 unfold midF
 rw [List.length_append, List.length_take, flat_length, List.length_replicate]
 omega
theorem midF_yes (c : List Nat) (j : Nat) (h : j < c.length) (h0 : 0 < c[j]) : (midF c j).set j (c[j] / 2 + 1) = midF c (j + 1) := by
 have := flat_next c j h
 rw [if_pos h0] at this
 exact this
theorem midF_no (c : List Nat) (j : Nat) (h : j < c.length) (h0 : ¬ 0 < c[j]) : midF c j = midF c (j + 1) := by
 have := flat_next c j h
 rw [if_neg h0] at this
 unfold midF
 rw [← this]
 apply List.ext_getElem?
 intro i
 rw [List.getElem?_set]
 by_cases e : j = i
 ·subst e
  have hl : ((flat c).take j).length = j := by rw [List.length_take, flat_length]; omega
  rw [if_pos rfl, if_pos (by rw [List.length_append, hl, List.length_replicate]; omega), List.getElem?_append_right (by omega), hl, Nat.sub_self, List.getElem?_replicate, if_pos (by omega)]
 ·rw [if_neg e]
theorem midF_zero (c : List Nat) : up (midF c 0) = List.replicate c.length 0 := by
 unfold midF up
 rw [List.take_zero, List.nil_append, Nat.sub_zero, List.map_replicate]
 rfl
theorem midF_all (c : List Nat) : midF c c.length = flat c := by
 unfold midF
 rw [Nat.sub_self, List.replicate_zero, List.append_nil, List.take_of_length_le (by rw [flat_length]; exact Nat.le_refl _)]
theorem up_get {c : List Nat} {W : World} {b off : Nat} (hc : ∀ j (h : j < (up c).length), W.cell? ⟨b, off + j, none⟩ = some (.int .i64 (up c)[j])) (j : Nat) (h : j < c.length) : W.cell? ⟨b, off + j, none⟩ = some (.int .i64 (c[j] : Nat)) := by
 rw [hc j (by rw [up_length]; exact h), up_at c j h, List.getD_eq_getElem?_getD, List.getElem?_eq_getElem h]
 rfl
set_option maxRecDepth 100000 in
set_option maxHeartbeats 1000000 in
theorem flat_any (a : Option Addr) (cap n : Nat) (c : List Nat) (w : World) (h : Ints w w.heap.size a (up c)) (hn : c.length = n) (h257 : n ≤ 257) (hm : ∀ x ∈ c, x ≤ 10000) :
  Calls Tryz.prog 80 #[.slice a n cap] w fun e w' => e = .returned (.slice (some ⟨w.heap.size, 0, none⟩) n n) ∧ IsI w' w.heap.size 2 (up (flat c)) ∧ Below w.heap.size w w' := by
 obtain ⟨i0, hi, hz0, hz1, hz2⟩ := info_parts In.Tryz.infoI2
 have HN := hideH hn
 have HS := hideH h
 have HM := hideH hm
 clear hn h hm
 go_enter Tryz.func80, Tryz.ntmps80
 go_wp2_with (at_make; refine wpList_make_full _ rfl (.tmp 7) (.tmp 7) 59 rfl w.heap.size 2 i0 (.int .i64 0) 1 Tryz.underlying59 hi hz0 hz1 .i64 .i64 _ _ n rfl rfl (by omega) (by omega) (by rw [hz2]; omega) (by unfold maxLen; omega) (Nat.le_refl _) ?_; intro w1 hown hgrow; have HI1 := hideH (made_ints hown); have HB1 := hideH ((Below.refl w.heap.size w).grown hgrow (Nat.le_refl _) (by simp)); clear hown hgrow)
 go_loopw [11, 4, 5] (fun iv _ _ wr => ∃ j : Nat, iv = .int .i64 j ∧ j ≤ n ∧ IsI wr w.heap.size 2 (up (midF c j)) ∧ Below w.heap.size w wr) (fun iv _ _ _ => n - (intOf iv).toNat)
 case atStart => exact ⟨0, rfl, Nat.zero_le _, by rw [midF_zero, HN.out]; exact HI1.out, HB1.out⟩
 case round =>
  obtain ⟨j, rfl, hj, hij, hbw⟩ := hrel
  have HIJ := hideH hij
  have HBW := hideH hbw
  clear hij hbw
  by_cases hlt : j < n
  ·have hjc : j < c.length := by rw [HN.out]; exact hlt
   obtain ⟨b, off, rfl, hbz, hcl⟩ := HS.out.some (by rw [up_length]; omega)
   have ci : wr.cell? ⟨b, off + j, none⟩ = some (.int .i64 (c[j] : Nat)) := (HBW.out.cell (p := ⟨b, off + j, none⟩) hbz).trans (up_get hcl j hjc)
   have HY := hideH (midF_yes c j hjc)
   have HNO := hideH (midF_no c j hjc)
   have hcm := HM.out c[j] (List.getElem_mem hjc)
   have HML := hideH (midF_length c j (by omega))
   generalize c[j] = cj at ci HY HNO hcm
   clear hcl hjc
   by_cases h0 : 0 < cj
   ·have h0' : (0 : Int) < (cj : Int) := by omega
    have cl : wr.cell? ⟨w.heap.size, j, none⟩ = some (.int .i64 ((midF c j).getD j 0 : Nat)) := by
     have hl : j < (midF c j).length := by rw [HML.out, HN.out]; exact hlt
     rw [HIJ.out.cell (j := j) (by rw [up_length]; exact hl), up_at _ _ hl]
    have zl := HIJ.out.frozen j
    have hq : (cj : Int).tdiv 2 = ((cj / 2 : Nat) : Int) := by rw [Int.tdiv_eq_ediv_of_nonneg (by omega)]; rfl
    generalize (midF c j).getD j 0 = old at cl
    go_wp2_with fail
    go_roundw
    case rel =>
     refine ⟨j + 1, by go_num, by omega, ?_, HBW.out.setCell (by simp) _⟩
     rw [← HY.out h0, ← up_set]
     exact HIJ.out.set j _
    case measure => simp [intOf]; omega
   ·have h0' : cj = 0 := by omega
    subst h0'
    go_wp2_with fail
    go_roundw
    case rel => exact ⟨j + 1, by go_num, by omega, by rw [← HNO.out h0]; exact HIJ.out, HBW.out⟩
    case measure => simp [intOf]; omega
  ·obtain rfl : j = n := by omega
   have HE : Hid (IsI wr w.heap.size 2 (up (flat c))) := by
    have := HIJ.out
    rw [← HN.out, midF_all] at this
    exact this
   go_wp2_with fail
   go_ret
   exact ⟨rfl, HE.out, HBW.out⟩
end Go.Proofs.YthbpenanelbbcaaGreatDoor.Hf


/- The walk of treesOf. -/
namespace Go.Proofs.YthbpenanelbbcaaGreatDoor.Hf
open Go.RowKit
open Go.Proofs.YthbpenanelbbcaaGreatDoor.In (IsI irow Ints made_ints)
theorem two_new (W : World) (x y : Value) (t : TypeId) : ∀ (j : Nat) (u : Value), [x, y][j]? = some u → (W.alloc (.cells #[x, y] t)).cell? ((⟨W.heap.size, 0, none⟩ : Addr).add j) = some u := by
 intro j u hj
 match j, hj with
 | 0, hj => simp at hj; subst hj; simp [Addr.add]
 | 1, hj => simp at hj; subst hj; simp [Addr.add]
theorem two_one {x y : Value} (hx : x.oneCell' = true) (hy : y.oneCell' = true) : ∀ u ∈ [x, y], u.oneCell' = true := by
 intro u hu
 simp at hu
 rcases hu with rfl | rfl
 ·exact hx
 ·exact hy
theorem Keeps.grown {W W' : World} {row : Option Nat} (h : W.grownBy W' row) (hr : ∀ k, row = some k → ∃ cs t, W.heap[k]? = some (.cells cs t (0, 0)) ∧ t ≠ 3) : Keeps W W' := fun g cur e => by
 rw [h.block g (lt_row e) (by
  intro hg
  obtain ⟨cs, t, hk, ht⟩ := hr g hg.symm
  rw [hk] at e
  simp at e
  exact ht e.2)]
 exact e
theorem OwnT.rowT {W : World} {e : TypeId} {base : Nat} {v : Value} {m : List MT} (h : OwnT W e base v m) (he : e ≠ 3) : ∀ k, v.ownBlock = some k → ∃ cs t, W.heap[k]? = some (.cells cs t (0, 0)) ∧ t ≠ 3 := by
 intro k hk
 obtain ⟨_, h⟩ := h
 rcases h with ⟨h, _⟩ | ⟨g, cap, cur, hv, _, hb, _⟩
 ·subst h
  simp [Value.ownBlock] at hk
 ·subst hv
  simp [Value.ownBlock] at hk
  subst hk
  exact ⟨cur, e, hb, he⟩
theorem OwnT.alloc {W : World} {e : TypeId} {base : Nat} {v : Value} {m : List MT} (h : OwnT W e base v m) (o : Obj) : OwnT (W.alloc o) e base v m := World.ownsRow.alloc h o
theorem OwnT.snoc {W : World} {e : TypeId} {base : Nat} {v : Value} {m : List MT} {x : MT} (h : W.ownsRow base e 2 v (m.length + 1) (cells m ++ [.int .i64 (x.1.1 : Nat), x.2])) : OwnT W e base v (m ++ [x]) := by
 unfold OwnT
 rw [List.length_append, cells_append]
 exact h
theorem Sym.one (W : World) (j : Nat) : Sym (W.alloc (.cells #[.int .i64 (j : Nat)] 3)) (.slice (some ⟨W.heap.size, 0, none⟩) 1 1) [j] :=
 ⟨W.heap.size, 1, _, rfl, heap_alloc_new W _, Nat.le_refl _, fun i hi => by
  have : i = 0 := by simpa using hi
  subst this
  rfl⟩
theorem trees_yes (c : List Nat) (j : Nat) (h : j < c.length) (h0 : 0 < c[j]) : trees c (j + 1) = trees c j ++ [(c[j], [j])] := by
 have : c.getD j 0 = c[j] := by rw [List.getD_eq_getElem?_getD, List.getElem?_eq_getElem h]; rfl
 rw [trees, this, if_pos h0]
theorem trees_no (c : List Nat) (j : Nat) (h : j < c.length) (h0 : ¬ 0 < c[j]) : trees c (j + 1) = trees c j := by
 have : c.getD j 0 = c[j] := by rw [List.getD_eq_getElem?_getD, List.getElem?_eq_getElem h]; rfl
 rw [trees, this, if_neg h0]
set_option maxRecDepth 100000 in
set_option maxHeartbeats 1000000 in
theorem treesOf_any (a : Option Addr) (cap n : Nat) (c : List Nat) (w : World) (h : Ints w w.heap.size a (up c)) (hn : c.length = n) (h257 : n ≤ 257) :
  Calls Tryz.prog 109 #[.slice a n cap] w fun e w' => ∃ v m, e = .returned v ∧ mt m = trees c n ∧ OwnT w' 137 w.heap.size v m ∧ Syms w' m ∧ Below w.heap.size w w' := by
 obtain ⟨i0, hi, hz0, hz1, hz2⟩ := info_parts Tryz.infoTree
 have HN := hideH hn
 have HS := hideH h
 clear hn h
 go_enter Tryz.func109, Tryz.ntmps109
 go_wp2_with fail
 go_loopw [8, 3, 4, 5] (fun iv tv _ _ wr => ∃ (j : Nat) (m : List MT), iv = .int .i64 j ∧ j ≤ n ∧ mt m = trees c j ∧ OwnT wr 137 w.heap.size tv m ∧ Syms wr m ∧ Below w.heap.size w wr) (fun iv _ _ _ _ => n - (intOf iv).toNat)
 case atStart => exact ⟨0, [], rfl, Nat.zero_le _, rfl, World.ownsRow_nil _ _ _ _, fun x hx => absurd hx (List.not_mem_nil), Below.refl _ _⟩
 case round =>
  obtain ⟨j, m, rfl, hj, hm, ho, hy, hbw⟩ := hrel
  have HM := hideH hm
  have HO := hideH ho
  have HY := hideH hy
  have HBW := hideH hbw
  have hwz := hbw.size
  have hml : m.length ≤ j := by rw [← mt_length, hm]; exact trees_length c j
  clear hm ho hy hbw
  by_cases hlt : j < n
  ·have hjc : j < c.length := by rw [HN.out]; exact hlt
   obtain ⟨b, off, rfl, hbz, hcl⟩ := HS.out.some (by rw [up_length]; omega)
   have ci : wr.cell? ⟨b, off + j, none⟩ = some (.int .i64 (c[j] : Nat)) := (HBW.out.cell (p := ⟨b, off + j, none⟩) hbz).trans (up_get hcl j hjc)
   have HT1 := hideH (trees_yes c j hjc)
   have HT0 := hideH (trees_no c j hjc)
   generalize c[j] = cj at ci HT1 HT0
   clear hcl hjc
   by_cases h0 : 0 < cj
   ·have h0' : (0 : Int) < (cj : Int) := by omega
    go_wp2_with (at_builtin; refine wpList_append_own _ rfl (.tmp 15) (.tmp 20) 133 rfl w.heap.size 137 i0 _ 2 32 Tryz.underlying133 hi hz0 hz1 hz2 rfl (by decide) _ _ _ rfl ((HO.out.alloc _).alloc _) ⟨wr.heap.size + 1, 0, none⟩ 1 1 [.int .i64 (cj : Nat), .slice (some ⟨wr.heap.size, 0, none⟩) 1 1] rfl rfl ?c1 (two_one rfl rfl) (by unfold maxLen; omega) (by omega) (by simp; omega) ?_)
    case c1 =>
     have := two_new (wr.alloc (.cells #[.int .i64 (j : Nat)] 3)) (.int .i64 (cj : Nat)) (.slice (some ⟨wr.heap.size, 0, none⟩) 1 1) 137
     simpa using this
    intro v' w2 hown hgrow _
    have HO2 := hideH (OwnT.snoc (x := ((cj, [j]), .slice (some ⟨wr.heap.size, 0, none⟩) 1 1)) hown)
    have HB2 : Hid (Below w.heap.size w w2) := by
     refine ((HBW.out.alloc hwz _).alloc (by simp; omega) _).grown hgrow (by simp; omega) ?_
     intro k hk
     exact (World.ownsRow.lt HO.out k hk).1
    have hk1 : Keeps wr (wr.alloc (.cells #[.int .i64 (j : Nat)] 3)) := Keeps.below ((Below.refl _ _).alloc (Nat.le_refl _) _)
    have hk2 := hk1.trans (Keeps.below ((Below.refl _ (wr.alloc (.cells #[.int .i64 (j : Nat)] 3))).alloc (Nat.le_refl _) (.cells #[.int .i64 (cj : Nat), .slice (some ⟨wr.heap.size, 0, none⟩) 1 1] 137)))
    have hk3 := Keeps.grown hgrow (((HO.out.alloc _).alloc _).rowT (by decide))
    have HY2 : Hid (Syms w2 (m ++ [((cj, [j]), .slice (some ⟨wr.heap.size, 0, none⟩) 1 1)])) := by
     intro x hx
     rcases List.mem_append.1 hx with hx | hx
     ·exact (HY.out x hx).keeps (hk2.trans hk3)
     ·rw [List.mem_singleton.1 hx]
      exact ((Sym.one wr j).keeps (Keeps.below ((Below.refl _ _).alloc (Nat.le_refl _) _))).keeps hk3
    clear hown hgrow hk1 hk2 hk3
    go_wp2_with fail
    go_roundw
    case rel => exact ⟨j + 1, m ++ [((cj, [j]), .slice (some ⟨wr.heap.size, 0, none⟩) 1 1)], by go_num, by omega, by rw [HT1.out h0, ← HM.out]; unfold mt; rw [List.map_append]; rfl, HO2.out, HY2.out, HB2.out⟩
    case measure => simp [intOf]; omega
   ·have h0' : cj = 0 := by omega
    subst h0'
    go_wp2_with fail
    go_roundw
    case rel => exact ⟨j + 1, m, by go_num, by omega, by rw [HT0.out h0]; exact HM.out, HO.out, HY.out, HBW.out⟩
    case measure => simp [intOf]; omega
  ·obtain rfl : j = n := by omega
   go_wp2_with fail
   go_ret
   exact ⟨_, m, rfl, HM.out, HO.out, HY.out, HBW.out⟩
end Go.Proofs.YthbpenanelbbcaaGreatDoor.Hf


/- The walk of slices.Concat of two rows of symbols. -/
namespace Go.Proofs.YthbpenanelbbcaaGreatDoor.Hf
open Go.RowKit Go.Shelf
shelf_lay_g Lays8.n4 Nm8 4 at Tryz 140 as Tryz.growI
theorem Tryz.infoInt : (Tryz.prog.info? 3).map (fun i => (i.zero, i.size, i.bytes)) = some (some (.int .i64 0), 1, 8) := by kernel_rfl
def nums (s : List Nat) : List Value := s.map fun (x : Nat) => Value.int .i64 (x : Int)
def OwnY (W : World) (base : Nat) (v : Value) (s : List Nat) : Prop := W.ownsRow base 3 1 v s.length (nums s)
theorem grow_any (n : Nat) (w : World) (h0 : 0 < n) (hn : n ≤ 1000) :
  Calls Tryz.prog 140 #[.slice none 0 0, .int .i64 n] w fun e w' => ∃ v, e = .returned v ∧ OwnY w' w.heap.size v [] ∧ Below w.heap.size w w' := by
 obtain ⟨i0, hi, hz0, hz1, hz2⟩ := info_parts Tryz.infoInt
 refine (Any8.slices_Grow_grow Tryz.growI i0 (.int .i64 0) hi hz0 (by rw [hz1]; decide) none 0 0 n [] w (Nat.le_refl _) (by omega) (by rw [hz2]; omega) (by omega) (by simp) (fun _ => rfl) (fun a ha => by cases ha)).mono ?_
 rintro e w' ⟨rfl, rfl⟩
 have hge := grownCap_ge w (0 + n) 0 (Tryz.growI_ren.t 25)
 have hle := grownCap_le_maxLen w (0 + n) 0 (Tryz.growI_ren.t 25) (by unfold maxLen; omega)
 refine ⟨_, rfl, ?_, (Below.refl _ _).drew.alloc (Nat.le_refl _) _⟩
 exact World.ownsRow_made w.drew _ _ (Nat.le_refl _) hle (by
  have hc1 : (Value.int IntKind.i64 0).cells.size = 1 := rfl
  rw [Nat.zero_add] at hge
  simp [Builtin.zeroCells, hc1]
  omega)
theorem nums_length (s : List Nat) : (nums s).length = s.length := List.length_map ..
theorem nums_one (s : List Nat) : ∀ u ∈ nums s, u.oneCell' = true := by
 intro u hu
 obtain ⟨x, _, rfl⟩ := List.mem_map.1 hu
 rfl
theorem Sym.news {W : World} {g : Nat} {s : List Nat} (hc : ∀ j (h : j < s.length), W.cell? ⟨g, j, none⟩ = some (.int .i64 (s[j] : Nat))) : ∀ j u, (nums s)[j]? = some u → W.cell? ((⟨g, 0, none⟩ : Addr).add j) = some u := by
 intro j u hu
 have hj : j < s.length := by
  have := (List.getElem?_eq_some_iff.1 hu).1
  rwa [nums_length] at this
 unfold nums at hu
 rw [List.getElem?_map, List.getElem?_eq_getElem hj] at hu
 rw [Addr.add_lit, Nat.zero_add, hc j hj]
 exact hu
theorem OwnY.sym {W : World} {base : Nat} {v : Value} {s : List Nat} (h : OwnY W base v s) (h0 : 0 < s.length) : Sym W v s := by
 obtain ⟨_, h⟩ := h
 rcases h with ⟨_, h⟩ | ⟨g, cap, cur, hv, _, hb, hn, _, hs, ht⟩
 ·omega
 ·refine ⟨g, cap, cur, hv, hb, hn, fun j hj => ?_⟩
  have : (nums s)[j]? = some (.int .i64 (s[j] : Nat)) := by
   unfold nums
   rw [List.getElem?_map, List.getElem?_eq_getElem hj]
   rfl
  rw [← ht, List.getElem?_take_of_lt (by omega), Array.getElem?_toList] at this
  exact this
theorem OwnY.app {W : World} {base : Nat} {v : Value} {s t : List Nat} (h : W.ownsRow base 3 1 v (s.length + t.length) (nums s ++ nums t)) : OwnY W base v (s ++ t) := by
 unfold OwnY
 rw [List.length_append]
 unfold nums at h ⊢
 rw [List.map_append]
 exact h
def tot (a b : List Nat) (i : Nat) : Nat := if i = 0 then 0 else if i = 1 then a.length else a.length + b.length
def pre (a b : List Nat) (i : Nat) : List Nat := if i = 0 then [] else if i = 1 then a else a ++ b
set_option maxRecDepth 100000 in
set_option maxHeartbeats 1000000 in
theorem concat_any (gb ga ca gc cc : Nat) (a b : List Nat) (t : TypeId) (w : World) (h0 : 0 < a.length) (ha : a.length ≤ 257) (hb : b.length ≤ 257) (hg : w.heap[gb]? = some (.cells #[.slice (some ⟨ga, 0, none⟩) a.length ca, .slice (some ⟨gc, 0, none⟩) b.length cc] t (0, 0)))
  (hga : ga < w.heap.size) (hgc : gc < w.heap.size) (hca : ∀ j (h : j < a.length), w.cell? ⟨ga, j, none⟩ = some (.int .i64 (a[j] : Nat))) (hcc : ∀ j (h : j < b.length), w.cell? ⟨gc, j, none⟩ = some (.int .i64 (b[j] : Nat))) :
  Calls Tryz.prog 111 #[.slice (some ⟨gb, 0, none⟩) 2 2] w fun e w' => ∃ v, e = .returned v ∧ Sym w' v (a ++ b) ∧ Below w.heap.size w w' := by
 obtain ⟨i0, hi, hz0, hz1, hz2⟩ := info_parts Tryz.infoInt
 have hgb := lt_row hg
 have c0 : w.cell? ⟨gb, 0, none⟩ = some (.slice (some ⟨ga, 0, none⟩) a.length ca) := cell_of_row w _ 0 _ _ _ hg
 have c1 : w.cell? ⟨gb, 1, none⟩ = some (.slice (some ⟨gc, 0, none⟩) b.length cc) := cell_of_row w _ 1 _ _ _ hg
 have HC0 := hideH (fun (W : World) (h : Below w.heap.size w W) => (h.cell (p := ⟨gb, 0, none⟩) hgb).trans c0)
 have HC1 := hideH (fun (W : World) (h : Below w.heap.size w W) => (h.cell (p := ⟨gb, 1, none⟩) hgb).trans c1)
 have HNA := hideH (fun (W : World) (h : Below w.heap.size w W) => Sym.news (W := W) (g := ga) (s := a) fun j hj => (h.cell (p := ⟨ga, j, none⟩) hga).trans (hca j hj))
 have HNB := hideH (fun (W : World) (h : Below w.heap.size w W) => Sym.news (W := W) (g := gc) (s := b) fun j hj => (h.cell (p := ⟨gc, j, none⟩) hgc).trans (hcc j hj))
 have HLA := hideH (nums_length a)
 have HLB := hideH (nums_length b)
 have HFIN := hideH (fun (W : World) v (h : OwnY W w.heap.size v (a ++ b)) => h.sym (by rw [List.length_append]; omega))
 have HT1 : Hid (tot a b 1 = a.length) := rfl
 have HT2 : Hid (tot a b 2 = a.length + b.length) := rfl
 clear hg hca hcc
 obtain ⟨na, hna⟩ : ∃ na, na = a.length := ⟨_, rfl⟩
 obtain ⟨nb, hnb⟩ : ∃ nb, nb = b.length := ⟨_, rfl⟩
 have EA := hideH hna
 have EB := hideH hnb
 rw [← hna] at h0 ha c0 HC0 HT1 HT2
 rw [← hnb] at hb c1 HC1 HT2
 clear hna hnb
 go_enter Tryz.func111, Tryz.ntmps111
 go_wp2_with fail
 go_loopw [11, 3, 5] (fun iv sv _ wr => ∃ i : Nat, iv = .int .i64 i ∧ i ≤ 2 ∧ sv = .int .i64 (tot a b i : Nat) ∧ wr = w) (fun iv _ _ _ => 2 - (intOf iv).toNat)
 case atStart => exact ⟨0, rfl, by omega, rfl, rfl⟩
 case round =>
  obtain ⟨i, rfl, hi2, rfl, hw⟩ := hrel
  subst wr
  have h3 : i = 0 ∨ i = 1 ∨ i = 2 := by omega
  rcases h3 with rfl | rfl | rfl
  ·have HE : Hid (tot a b 0 = 0) := rfl
   rw [HE.out]
   have hx : decide ((na : Int) < 0) = false := by simp
   go_wp2_with fail
   go_roundw
   case rel => exact ⟨1, rfl, by omega, by rw [HT1.out], by trivial⟩
   case measure => simp [intOf]
  ·rw [HT1.out]
   have hx : decide ((na : Int) + nb < 0) = false := by simp; omega
   go_wp2_with fail
   go_roundw
   case rel => exact ⟨2, rfl, by omega, by rw [HT2.out]; first | rfl | simp, by trivial⟩
   case measure => simp [intOf]
  ·rw [HT2.out]
   have hsz : ((na + nb : Nat) : Int) = (na : Int) + nb := by omega
   go_wp2_with fail
   refine (grow_any (na + nb) _ (by omega) (by omega)).mono ?_
   rintro e w1 ⟨v1, rfl, ho1, hb1⟩
   have HO1 := hideH ho1
   have HB1 := hideH hb1
   clear ho1 hb1
   go_wp2_with fail
   go_loopw [27, 6, 8] (fun iv tv _ wr => ∃ i : Nat, iv = .int .i64 i ∧ i ≤ 2 ∧ OwnY wr w.heap.size tv (pre a b i) ∧ Below w.heap.size w wr) (fun iv _ _ _ => 2 - (intOf iv).toNat)
   case atStart => exact ⟨0, rfl, by omega, HO1.out, HB1.out⟩
   case round =>
    obtain ⟨i, rfl, hi2, ho, hbw⟩ := hrel
    have HO := hideH ho
    have HBW := hideH hbw
    clear ho hbw
    have h3 : i = 0 ∨ i = 1 ∨ i = 2 := by omega
    rcases h3 with rfl | rfl | rfl
    ·skip
     have HE : Hid (OwnY wr w.heap.size u6 []) := HO.out
     have ci := HC0.out wr HBW.out
     have hwz := HBW.out.size
     go_wp2_with (at_builtin; refine wpList_append_own _ rfl (.tmp 31) (.tmp 32) 135 rfl w.heap.size 3 i0 (.int .i64 0) 1 8 Tryz.underlying135 hi hz0 hz1 hz2 rfl (by decide) _ _ _ rfl HE.out ⟨ga, 0, none⟩ na ca (nums a) rfl (by rw [HLA.out, ← EA.out]; omega) (HNA.out wr HBW.out) (nums_one _) (by unfold maxLen; simp only [List.length_nil]; omega) (by simp only [List.length_nil]; omega) hwz ?_)
     intro v' w2 hown hgrow _
     have HO2 : Hid (OwnY w2 w.heap.size v' ([] ++ a)) := by
      rw [EA.out] at hown
      exact OwnY.app (s := []) (by rw [List.length_nil, Nat.zero_add]; exact hown)
     have HB2 : Hid (Below w.heap.size w w2) := by
      refine HBW.out.grown hgrow hwz ?_
      intro k hk
      exact (World.ownsRow.lt HE.out k hk).1
     clear hown hgrow
     go_wp2_with fail
     go_roundw
     case rel => exact ⟨1, rfl, by omega, HO2.out, HB2.out⟩
     case measure => simp [intOf]
    ·skip
     have HE : Hid (OwnY wr w.heap.size u6 a) := HO.out
     have ci := HC1.out wr HBW.out
     have hwz := HBW.out.size
     go_wp2_with (at_builtin; refine wpList_append_own _ rfl (.tmp 31) (.tmp 32) 135 rfl w.heap.size 3 i0 (.int .i64 0) 1 8 Tryz.underlying135 hi hz0 hz1 hz2 rfl (by decide) _ _ _ rfl HE.out ⟨gc, 0, none⟩ nb cc (nums b) rfl (by rw [HLB.out, ← EB.out]; omega) (HNB.out wr HBW.out) (nums_one _) (by unfold maxLen; rw [← EA.out]; omega) (by rw [← EA.out]; omega) hwz ?_)
     intro v' w2 hown hgrow _
     have HO2 : Hid (OwnY w2 w.heap.size v' (a ++ b)) := by
      rw [EB.out] at hown
      exact OwnY.app hown
     have HB2 : Hid (Below w.heap.size w w2) := by
      refine HBW.out.grown hgrow hwz ?_
      intro k hk
      exact (World.ownsRow.lt HE.out k hk).1
     clear hown hgrow
     go_wp2_with fail
     go_roundw
     case rel => exact ⟨2, rfl, by omega, HO2.out, HB2.out⟩
     case measure => simp [intOf]
    ·have HE : Hid (OwnY wr w.heap.size u6 (a ++ b)) := HO.out
     go_wp2_with fail
     go_ret
     exact ⟨_, rfl, HFIN.out _ _ HE.out, HBW.out⟩
end Go.Proofs.YthbpenanelbbcaaGreatDoor.Hf


/- What the walks of depthsOf and l04Lengths want of the plain mathematics. -/
namespace Go.Proofs.YthbpenanelbbcaaGreatDoor.Hf
open Go.RowKit
open Go.Proofs.YthbpenanelbbcaaGreatDoor.In (IsI irow Ints made_ints)
def ns (l : List Tree) : Nat := (l.map fun t => t.2.length).sum
theorem ns_perm {l l' : List Tree} (p : l.Perm l') : ns l = ns l' := (p.map _).sum_nat
theorem ns_join (l : List Tree) (h : 2 ≤ l.length) : ns (join l) = ns l := by
 rw [ns_perm (two_perm l h), ns_perm (join_perm l)]
 unfold ns both
 simp only [List.map_cons, List.sum_cons, List.length_append]
 omega
theorem ns_trees (c : List Nat) : ∀ i, ns (trees c i) ≤ i
 | 0 => Nat.le_refl _
 | i + 1 => by
  have := ns_trees c i
  rw [trees]
  split
  ·unfold ns at this ⊢
   rw [List.map_append, List.sum_append]
   simp
   exact this
  ·omega
theorem ns_mem (l : List Tree) (t : Tree) (h : t ∈ l) : t.2.length ≤ ns l := le_sum _ _ (List.mem_map.2 ⟨t, h, rfl⟩)
theorem fib_ge : ∀ k, k + 1 ≤ fib (k + 2)
 | 0 => by decide
 | 1 => by decide
 | k + 2 => by
  have h1 := fib_ge k
  have h2 := fib_ge (k + 1)
  rw [show fib (k + 2 + 2) = fib (k + 2) + fib (k + 1 + 2) from rfl]
  omega
theorem Inv.small {l : List Tree} {d : List Nat} {n : Nat} (h : Inv l d n) (s : Nat) : d.getD s 0 ≤ n := by
 rcases h.bound s with h | h
 ·unfold dep at h
  omega
 ·have := fib_ge (dep d s)
  unfold dep at h this
  omega
theorem Inv.weights {l : List Tree} {d : List Nat} {n : Nat} (h : Inv l d n) (h2 : 2 ≤ l.length) : (first l).1 + (second l).1 ≤ n := by
 have := (h.perm (two_perm l h2)).sum
 simp only [List.map_cons, List.sum_cons] at this
 omega
theorem taken (m : List MT) (k : Nat) (hn : m.length = k + 1) : ∃ x, m[least (mt m) (k + 1)]? = some x ∧ x ∈ m ∧ x.1 = first (mt m) ∧ mt (m.eraseIdx (least (mt m) (k + 1))) = rest1 (mt m) ∧ (m.eraseIdx (least (mt m) (k + 1))).length = k ∧ ∀ y ∈ m.eraseIdx (least (mt m) (k + 1)), y ∈ m := by
 have hl : least (mt m) m.length < m.length := by
  have := least_lt (mt m) (by rw [mt_length]; omega)
  rw [mt_length] at this
  exact this
 rw [← hn]
 refine ⟨m[least (mt m) m.length], List.getElem?_eq_getElem hl, List.getElem_mem hl, first_mt m hl, rest_mt m, ?_, fun y hy => List.mem_of_mem_eraseIdx hy⟩
 rw [List.length_eraseIdx, if_pos hl]
 omega
theorem Syms.sub {W : World} {m k : List MT} (h : Syms W m) (hs : ∀ y ∈ k, y ∈ m) : Syms W k := fun x hx => h x (hs x hx)
theorem Keeps.wr {g gl : Nat} {w w' : World} (h : Wr g gl w w') {cs cl : Array Value} {t u : TypeId} (hg : w.heap[g]? = some (.cells cs t (0, 0))) (ht : t ≠ 3) (hl : w.heap[gl]? = some (.cells cl u (0, 0))) (hu : u ≠ 3) : Keeps w w' := fun k cur e => by
 rw [h.block k (lt_row e) (by
  rintro rfl
  rw [hg] at e
  simp at e
  exact ht e.2) (by
  rintro rfl
  rw [hl] at e
  simp at e
  exact hu e.2)]
 exact e
theorem OwnT.of {W : World} {e : TypeId} {base g cap n : Nat} {m : List MT} {cur : Array Value} (hn : m.length = n) (hg : base ≤ g) (hb : W.heap[g]? = some (.cells cur e (0, 0))) (hc : n ≤ cap) (hm : cap ≤ maxLen) (hs : cur.size = cap * 2) (ht : cur.toList.take (n * 2) = cells m) : OwnT W e base (.slice (some ⟨g, 0, none⟩) n cap) m := by
 subst hn
 exact ⟨cells_length m, .inr ⟨g, cap, cur, rfl, hg, hb, hc, hm, hs, ht⟩⟩
theorem OwnT.parts {W : World} {e : TypeId} {base : Nat} {v : Value} {m : List MT} (h : OwnT W e base v m) (h0 : 0 < m.length) : ∃ g cap cur, v = .slice (some ⟨g, 0, none⟩) m.length cap ∧ base ≤ g ∧ m.length ≤ cap ∧ cap ≤ maxLen ∧ W.heap[g]? = some (.cells cur e (0, 0)) ∧ cur.size = cap * 2 ∧ cur.toList.take (m.length * 2) = cells m := by
 obtain ⟨_, h⟩ := h
 rcases h with ⟨_, h⟩ | ⟨g, cap, cur, hv, hg, hb, hn, hm, hs, ht⟩
 ·omega
 ·exact ⟨g, cap, cur, hv, hg, hn, hm, hb, hs, ht⟩
theorem sum_all (c : List Nat) (hl : c.length ≤ 257) (hm : ∀ x ∈ c, x ≤ 10000) : c.sum ≤ 2570000 := by
 have := sum_le c 10000 hm
 omega
end Go.Proofs.YthbpenanelbbcaaGreatDoor.Hf


/- Between the two takes of depthsOf. -/
namespace Go.Proofs.YthbpenanelbbcaaGreatDoor.Hf
open Go.RowKit
open Go.Proofs.YthbpenanelbbcaaGreatDoor.In (IsI irow Ints made_ints)
structure Mid (wr W : World) (g gl cap k : Nat) (m : List MT) (d : List Nat) (a5 b5 a6 b6 : Value) : Prop where
 row : ∃ cur : Array Value, W.heap[g]? = some (.cells cur 137 (0, 0)) ∧ cur.size = cap * 2 ∧ cur.toList.take (k * 2) = cells m
 len : IsI W gl 2 (up d)
 wrt : Wr g gl wr W
 kp : Keeps wr W
 p5 : W.heap[wr.heap.size]? = some (.cells #[a5, b5] 137 (0, 0))
 p6 : W.heap[wr.heap.size + 1]? = some (.cells #[a6, b6] 137 (0, 0))
 hg : g < wr.heap.size
 hl : gl < wr.heap.size
theorem Mid.start {wr : World} {g gl cap k : Nat} {m : List MT} {d : List Nat} {cur : Array Value} (hb : wr.heap[g]? = some (.cells cur 137 (0, 0))) (hs : cur.size = cap * 2) (ht : cur.toList.take (k * 2) = cells m) (hd : IsI wr gl 2 (up d)) :
  Mid wr ((wr.alloc (.cells #[.int .i64 0, .slice none 0 0] 137)).alloc (.cells #[.int .i64 0, .slice none 0 0] 137)) g gl cap k m d (.int .i64 0) (.slice none 0 0) (.int .i64 0) (.slice none 0 0) := by
 have hB : Below wr.heap.size wr ((wr.alloc (.cells #[.int .i64 0, .slice none 0 0] 137)).alloc (.cells #[.int .i64 0, .slice none 0 0] 137)) := ((Below.refl _ _).alloc (Nat.le_refl _) _).alloc (by simp) _
 refine ⟨⟨cur, (hB.block g (lt_row hb)).trans hb, hs, ht⟩, hd.below hB hd.lt, Wr.of hB, Keeps.below hB, (Below.heap_alloc _ _ _ (by simp)).trans (heap_alloc_new wr _), ?_, lt_row hb, hd.lt⟩
 have := heap_alloc_new (wr.alloc (.cells #[.int .i64 0, .slice none 0 0] 137)) (.cells #[.int .i64 0, .slice none 0 0] 137)
 rw [show (wr.alloc (.cells #[.int .i64 0, .slice none 0 0] 137)).heap.size = wr.heap.size + 1 by simp] at this
 exact this
theorem Mid.take {wr W W' : World} {g gl cap k k' : Nat} {m m' : List MT} {d d' : List Nat} {a5 b5 a6 b6 : Value} (h : Mid wr W g gl cap k m d a5 b5 a6 b6) (hr : ∃ cur : Array Value, W'.heap[g]? = some (.cells cur 137 (0, 0)) ∧ cur.size = cap * 2 ∧ cur.toList.take (k' * 2) = cells m') (hd : IsI W' gl 2 (up d')) (hw : Wr g gl W W') : Mid wr W' g gl cap k' m' d' a5 b5 a6 b6 := by
 obtain ⟨cur, hb, _⟩ := h.row
 have h1 := h.hg
 have h2 := h.hl
 exact ⟨hr, hd, h.wrt.trans hw, h.kp.trans (Keeps.wr hw hb (by decide) h.len (by decide)), (hw.block _ (lt_row h.p5) (by omega) (by omega)).trans h.p5, (hw.block _ (lt_row h.p6) (by omega) (by omega)).trans h.p6, h1, h2⟩
theorem Mid.set5 {wr W : World} {g gl cap k : Nat} {m : List MT} {d : List Nat} {a5 b5 a6 b6 : Value} (h : Mid wr W g gl cap k m d a5 b5 a6 b6) (x y : Value) : Mid wr ((W.setCell ⟨wr.heap.size, 0, none⟩ x).setCell ⟨wr.heap.size, 1, none⟩ y) g gl cap k m d x y a6 b6 := by
 obtain ⟨cur, hb, hs, ht⟩ := h.row
 have h1 := h.hg
 have h2 := h.hl
 have e1 := heap_setCell_same W wr.heap.size 0 _ _ x h.p5
 have e2 := heap_setCell_same _ wr.heap.size 1 _ _ y e1
 refine ⟨⟨cur, ?_, hs, ht⟩, (h.len.set_other _ _ (by show gl ≠ wr.heap.size; omega)).set_other _ _ (by show gl ≠ wr.heap.size; omega), (h.wrt.new (Nat.le_refl _) _ _).new (Nat.le_refl _) _ _, (h.kp.trans (Keeps.set h.p5 (by decide) _ _)).trans (Keeps.set e1 (by decide) _ _), e2, ?_, h1, h2⟩
 ·rw [heap_setCell_other _ _ _ _ (by show g ≠ wr.heap.size; omega), heap_setCell_other _ _ _ _ (by show g ≠ wr.heap.size; omega)]
  exact hb
 ·rw [heap_setCell_other _ _ _ _ (by show wr.heap.size + 1 ≠ wr.heap.size; omega), heap_setCell_other _ _ _ _ (by show wr.heap.size + 1 ≠ wr.heap.size; omega)]
  exact h.p6
theorem Mid.set6 {wr W : World} {g gl cap k : Nat} {m : List MT} {d : List Nat} {a5 b5 a6 b6 : Value} (h : Mid wr W g gl cap k m d a5 b5 a6 b6) (x y : Value) : Mid wr ((W.setCell ⟨wr.heap.size + 1, 0, none⟩ x).setCell ⟨wr.heap.size + 1, 1, none⟩ y) g gl cap k m d a5 b5 x y := by
 obtain ⟨cur, hb, hs, ht⟩ := h.row
 have h1 := h.hg
 have h2 := h.hl
 have e1 := heap_setCell_same W (wr.heap.size + 1) 0 _ _ x h.p6
 have e2 := heap_setCell_same _ (wr.heap.size + 1) 1 _ _ y e1
 refine ⟨⟨cur, ?_, hs, ht⟩, (h.len.set_other _ _ (by show gl ≠ wr.heap.size + 1; omega)).set_other _ _ (by show gl ≠ wr.heap.size + 1; omega), (h.wrt.new (by omega) _ _).new (by omega) _ _, (h.kp.trans (Keeps.set h.p6 (by decide) _ _)).trans (Keeps.set e1 (by decide) _ _), ?_, e2, h1, h2⟩
 ·rw [heap_setCell_other _ _ _ _ (by show g ≠ wr.heap.size + 1; omega), heap_setCell_other _ _ _ _ (by show g ≠ wr.heap.size + 1; omega)]
  exact hb
 ·rw [heap_setCell_other _ _ _ _ (by show wr.heap.size ≠ wr.heap.size + 1; omega), heap_setCell_other _ _ _ _ (by show wr.heap.size ≠ wr.heap.size + 1; omega)]
  exact h.p5
theorem Mid.below {wr W W' : World} {g gl cap k : Nat} {m : List MT} {d : List Nat} {a5 b5 a6 b6 : Value} (h : Mid wr W g gl cap k m d a5 b5 a6 b6) (hb : Below W.heap.size W W') : Mid wr W' g gl cap k m d a5 b5 a6 b6 := by
 obtain ⟨cur, hc, hs, ht⟩ := h.row
 exact ⟨⟨cur, (hb.block g (lt_row hc)).trans hc, hs, ht⟩, h.len.below hb h.len.lt, h.wrt.more hb, h.kp.trans (Keeps.below hb), (hb.block _ (lt_row h.p5)).trans h.p5, (hb.block _ (lt_row h.p6)).trans h.p6, h.hg, h.hl⟩
theorem Mid.cells5 {wr W : World} {g gl cap k : Nat} {m : List MT} {d : List Nat} {a5 b5 a6 b6 : Value} (h : Mid wr W g gl cap k m d a5 b5 a6 b6) : W.cell? ⟨wr.heap.size, 0, none⟩ = some a5 ∧ W.cell? ⟨wr.heap.size, 1, none⟩ = some b5 ∧ W.frozen? ⟨wr.heap.size, 0, none⟩ = false ∧ W.frozen? ⟨wr.heap.size, 1, none⟩ = false :=
 ⟨cell_of_row W _ 0 _ _ _ h.p5, cell_of_row W _ 1 _ _ _ h.p5, frozen_of_row W _ 0 _ _ h.p5, frozen_of_row W _ 1 _ _ h.p5⟩
theorem Mid.cells6 {wr W : World} {g gl cap k : Nat} {m : List MT} {d : List Nat} {a5 b5 a6 b6 : Value} (h : Mid wr W g gl cap k m d a5 b5 a6 b6) : W.cell? ⟨wr.heap.size + 1, 0, none⟩ = some a6 ∧ W.cell? ⟨wr.heap.size + 1, 1, none⟩ = some b6 ∧ W.frozen? ⟨wr.heap.size + 1, 0, none⟩ = false ∧ W.frozen? ⟨wr.heap.size + 1, 1, none⟩ = false :=
 ⟨cell_of_row W _ 0 _ _ _ h.p6, cell_of_row W _ 1 _ _ _ h.p6, frozen_of_row W _ 0 _ _ h.p6, frozen_of_row W _ 1 _ _ h.p6⟩
end Go.Proofs.YthbpenanelbbcaaGreatDoor.Hf


/- The walk of depthsOf. -/
namespace Go.Proofs.YthbpenanelbbcaaGreatDoor.Hf
open Go.RowKit
open Go.Proofs.YthbpenanelbbcaaGreatDoor.In (IsI irow Ints made_ints)
structure Lp (base gl n S : Nat) (w : World) (wr : World) (v : Value) (m : List MT) (d : List Nat) : Prop where
 own : OwnT wr 137 base v m
 sym : Syms wr m
 len : IsI wr gl 2 (up d)
 inv : Inv (mt m) d S
 few : ns (mt m) ≤ n
 dn : d.length = n
 ne : ∀ z ∈ m, 0 < z.1.2.length
 low : Below w.heap.size w wr
 lo : w.heap.size ≤ gl
 hi : gl < base
set_option maxRecDepth 100000 in
set_option maxHeartbeats 400000 in
theorem depths_any (a : Option Addr) (cap n : Nat) (c : List Nat) (w : World) (h : Ints w w.heap.size a (up c)) (hn : c.length = n) (h257 : n ≤ 257) (hm : ∀ x ∈ c, x ≤ 10000) :
  Calls Tryz.prog 79 #[.slice a n cap] w fun e w' => e = .returned (.slice (some ⟨w.heap.size, 0, none⟩) n n) ∧ IsI w' w.heap.size 2 (up (depths c)) ∧ Below w.heap.size w w' := by
 obtain ⟨i0, hi, hz0, hz1, hz2⟩ := info_parts In.Tryz.infoI2
 obtain ⟨j0, hji, hj0, hj1, hj2⟩ := info_parts Tryz.infoTree
 have HN := hideH hn
 have HS := hideH h
 have HSUM := hideH (sum_all c (by omega) hm)
 have HINV := hideH (trees_inv c n (by omega))
 have HNS := hideH (ns_trees c n)
 have HDE : Hid (depths c = if (trees c n).length = 1 then (zeros n).set ((at0 (trees c n) 0).2.getD 0 0) 1 else run (trees c n).length (trees c n) (zeros n)) := by
  unfold Hid
  rw [← hn]
  rfl
 have HTK : Hid ((c.take n).sum = c.sum) := by
  unfold Hid
  rw [← hn, List.take_length]
 clear hn h hm
 go_enter Tryz.func79, Tryz.ntmps79
 go_wp2_with (at_make; refine wpList_make_full _ rfl (.tmp 9) (.tmp 9) 59 rfl w.heap.size 2 i0 (.int .i64 0) 1 Tryz.underlying59 hi hz0 hz1 .i64 .i64 _ _ n rfl rfl (by omega) (by omega) (by rw [hz2]; omega) (by unfold maxLen; omega) (Nat.le_refl _) ?_; intro w1 hown hgrow; have HI1 := hideH (made_ints hown); have HB1 := hideH ((Below.refl w.heap.size w).grown hgrow (Nat.le_refl _) (by simp)); have hz1w := (made_ints hown).lt; clear hown hgrow)
 have HS1 := hideH (((HS.out.below HB1.out).mono HB1.out.size))
 refine (treesOf_any a cap n c w1 HS1.out HN.out h257).mono ?_
 rintro e w2 ⟨v2, m, rfl, hmt, ho2, hy2, hb2⟩
 have HMT := hideH hmt
 have hml : m.length ≤ n := by rw [← mt_length, hmt]; exact trees_length c n
 have HLP : Hid (Lp w1.heap.size w.heap.size n c.sum w w2 v2 m (zeros n)) := ⟨ho2, hy2, by
  have : up (zeros n) = List.replicate n 0 := by unfold up zeros; rw [List.map_replicate]; rfl
  rw [this]
  exact HI1.out.below hb2 hz1w, by
  have := HINV.out
  rw [HN.out, HTK.out] at this
  rw [hmt]
  exact this, by rw [hmt]; exact HNS.out, List.length_replicate .., fun z hz => by
  obtain ⟨j, _, _, e⟩ := trees_mem c n z.1 (by rw [← hmt]; exact List.mem_map.2 ⟨z, hz, rfl⟩)
  rw [e]
  exact Nat.zero_lt_one, HB1.out.trans (hb2.mono HB1.out.size), Nat.le_refl _, hz1w⟩
 clear hmt ho2 hy2 hb2
 have hsl : ∃ x q, v2 = .slice x m.length q := by
  obtain ⟨_, h⟩ := HLP.out.own
  rcases h with ⟨h, h0⟩ | ⟨g, q, _, hv, _⟩
  ·exact ⟨none, 0, by rw [h, h0]⟩
  ·exact ⟨_, q, hv⟩
 obtain ⟨x2, q2, rfl⟩ := hsl
 obtain ⟨k, hk⟩ : ∃ k, k = m.length := ⟨_, rfl⟩
 have HK := hideH hk
 rw [← hk] at hml HLP ⊢
 clear hk
 by_cases h1 : k = 1
 ·subst h1
  obtain ⟨y, hy⟩ := List.length_eq_one_iff.1 HK.out.symm
  subst hy
  obtain ⟨g, q', cur, hv, hgb, hmc, hmx, hbk, hcs, hct⟩ := HLP.out.own.parts Nat.zero_lt_one
  obtain ⟨rfl, rfl⟩ : x2 = some ⟨g, 0, none⟩ ∧ q2 = q' := by simp at hv; exact hv
  have hr := row_at (m := [y]) hbk hct 0 Nat.zero_lt_one
  obtain ⟨j, hjn, _, hye⟩ := trees_mem c n y.1 (by rw [← HMT.out]; exact List.mem_map.2 ⟨y, List.mem_singleton.2 rfl, rfl⟩)
  have hsy := HLP.out.sym y (List.mem_singleton.2 rfl)
  have HTE : Hid (trees c n = [y.1]) := HMT.out.symm
  obtain ⟨⟨yw, ys⟩, yv⟩ := y
  simp only at hr hye hsy HTE
  obtain ⟨rfl, rfl⟩ := Prod.mk.inj hye
  obtain ⟨gs, cs, cu, rfl, hgs, hsc, hsv⟩ := hsy
  have hs0 : w2.cell? ⟨gs, 0, none⟩ = some (.int .i64 (j : Nat)) := (cell_of_row w2 gs 0 _ _ _ hgs).trans (hsv 0 Nat.zero_lt_one)
  have hlz : j < (zeros n).length := by rw [HLP.out.dn]; exact hjn
  have cl0 : w2.cell? ⟨w.heap.size, j, none⟩ = some (.int .i64 (((zeros n).getD j 0 : Nat) : Int)) := by
   rw [HLP.out.len.cell (j := j) (by rw [up_length]; exact hlz), up_at _ _ hlz]
  have zl0 := HLP.out.len.frozen j
  generalize (zeros n).getD j 0 = old at cl0
  have HD1 : Hid (depths c = (zeros n).set j 1) := by
   have := HDE.out
   rw [HTE.out] at this
   exact this
  have HIS : Hid (IsI (w2.setCell ⟨w.heap.size, j, none⟩ (.int .i64 1)) w.heap.size 2 (up (depths c))) := by
   have := HLP.out.len.set j 1
   unfold Hid
   rw [HD1.out]
   rw [show ((1 : Int)) = ((1 : Nat) : Int) from rfl, up_set] at this
   exact this
  have HBE : Hid (Below w.heap.size w (w2.setCell ⟨w.heap.size, j, none⟩ (.int .i64 1))) := HLP.out.low.setCell (by simp) _
  obtain ⟨r0, r1⟩ := hr
  rw [Nat.zero_mul] at r0
  rw [show 0 * 2 + 1 = 1 from rfl] at r1
  have hjn' : (j : Int) < n := by omega
  clear hbk hcs hct hgs hsv hlz hmx
  go_wp2_with fail
  go_loopw [4, 5, 6, 7] (fun tv _ _ _ wr => tv = .slice (some ⟨g, 0, none⟩) 1 q2 ∧ wr = w2.setCell ⟨w.heap.size, j, none⟩ (.int .i64 1)) (fun _ _ _ _ _ => 0)
  case atStart => exact ⟨rfl, rfl⟩
  case round =>
   obtain ⟨rfl, hw⟩ := hrel
   subst wr
   go_wp2_with fail
   go_ret
   exact ⟨rfl, HIS.out, HBE.out⟩
 ·have h1' : ((k : Int) == 1) = false := by simp; omega
  have HRUN : Hid (depths c = run m.length (mt m) (zeros n)) := by
   have := HDE.out
   rw [← HMT.out, mt_length, ← HK.out, if_neg h1] at this
   rw [← HK.out]
   exact this
  go_wp2_with fail
  go_loopw [4, 5, 6, 7] (fun tv _ _ _ wr => ∃ (m : List MT) (d : List Nat) (x : Option Addr) (k q : Nat), tv = .slice x k q ∧ k = m.length ∧ k ≤ n ∧ depths c = run m.length (mt m) d ∧ Lp w1.heap.size w.heap.size n c.sum w wr (.slice x k q) m d) (fun tv _ _ _ _ => match tv with | .slice _ k _ => k | _ => 0)
  case atStart => exact ⟨m, zeros n, x2, k, q2, rfl, HK.out, hml, HRUN.out, HLP.out⟩
  case round =>
   obtain ⟨m, d, x, k, q, rfl, hk, hkn, hrun, hlp⟩ := hrel
   have HRU := hideH hrun
   have HL := hideH hlp
   have HKM := hideH hk
   clear hrun hlp hk HMT HLP HRUN HK
   by_cases h2 : 1 < k
   ·obtain ⟨k1, rfl⟩ : ∃ k1, k = k1 + 1 := ⟨k - 1, by omega⟩
    obtain ⟨k2, hk2⟩ : ∃ k2, k1 = k2 + 1 := ⟨k1 - 1, by omega⟩
    have HK2 := hideH hk2
    have hk2n : k2 ≤ 255 := by omega
    have hm1 : m.length = k1 + 1 := HKM.out.symm
    obtain ⟨g, q', cur, hv, hgb, hmc, hmx, hbk, hcs, hct⟩ := HL.out.own.parts (by omega)
    rw [hm1] at hv hmc hct
    obtain ⟨rfl, rfl⟩ : x = some ⟨g, 0, none⟩ ∧ q = q' := by simp at hv; exact hv
    obtain ⟨y1, hy1, hym1, hyf1, hmt1, hel1, hsub1⟩ := taken m k1 hm1
    obtain ⟨y2, hy2, hym2, hyf2, hmt2, hel2, hsub2⟩ := taken (m.eraseIdx (least (mt m) (k1 + 1))) k2 (by rw [hel1]; exact hk2)
    have hinv := HL.out.inv
    have h2l : 2 ≤ (mt m).length := by rw [mt_length]; omega
    have hs2 : y2.1 = second (mt m) := by rw [hyf2, hmt1]; rfl
    have hr2 : mt ((m.eraseIdx (least (mt m) (k1 + 1))).eraseIdx (least (mt (m.eraseIdx (least (mt m) (k1 + 1)))) (k2 + 1))) = rest2 (mt m) := by rw [hmt2, hmt1]; rfl
    have hsum := HSUM.out
    have hjw := hinv.weights h2l
    have hjinv := hinv.join h2l
    have hjns := ns_join (mt m) h2l
    have hrm := run_more (mt m) d (by omega)
    have hbd : ∀ z ∈ m, z.1.2.length ≤ 257 := fun z hz => by
     have h3 := ns_mem (mt m) z.1 (List.mem_map.2 ⟨z, hz, rfl⟩)
     have h4 := HL.out.few
     omega
    have hlt : ∀ z ∈ m, ∀ s ∈ z.1.2, s < d.length := fun z hz => hinv.lt z.1 (List.mem_map.2 ⟨z, hz, rfl⟩)
    have hsm : ∀ j, d.getD j 0 ≤ 2570000 := fun j => by
     have := hinv.small j
     omega
    have M0 := hideH (Mid.start hbk hcs hct HL.out.len)
    have HT1 : Hid (∀ (W : World) (a5 b5 a6 b6 : Value), Mid wr W g w.heap.size q (k1 + 1) m d a5 b5 a6 b6 → Calls Tryz.prog 110 #[.slice (some ⟨g, 0, none⟩) (k1 + 1) q, .slice (some ⟨w.heap.size, 0, none⟩) n n] W fun e w' => e = .returned (.tuple #[.agg #[.int .i64 (y1.1.1 : Nat), y1.2], .slice (some ⟨g, 0, none⟩) k1 q]) ∧ Hid (Mid wr w' g w.heap.size q k1 (m.eraseIdx (least (mt m) (k1 + 1))) (incs d y1.1.2) a5 b5 a6 b6)) := fun W a5 b5 a6 b6 hM => by
     obtain ⟨cu, e1, e2, e3⟩ := hM.row
     refine (take_any g w.heap.size k1 q n n m d cu W hm1 hmc (by omega) e1 e2 e3 (HL.out.sym.keeps hM.kp) hbd hlt hM.len HL.out.dn (fun j => by have := hsm j; omega) y1 hy1).mono ?_
     rintro e w' ⟨rfl, hr, hd, hw⟩
     exact ⟨rfl, hM.take hr hd hw⟩
    have HT2 : Hid (∀ (W : World) (a5 b5 a6 b6 : Value), Mid wr W g w.heap.size q k1 (m.eraseIdx (least (mt m) (k1 + 1))) (incs d y1.1.2) a5 b5 a6 b6 → Calls Tryz.prog 110 #[.slice (some ⟨g, 0, none⟩) k1 q, .slice (some ⟨w.heap.size, 0, none⟩) n n] W fun e w' => e = .returned (.tuple #[.agg #[.int .i64 (y2.1.1 : Nat), y2.2], .slice (some ⟨g, 0, none⟩) k2 q]) ∧ Hid (Mid wr w' g w.heap.size q k2 ((m.eraseIdx (least (mt m) (k1 + 1))).eraseIdx (least (mt (m.eraseIdx (least (mt m) (k1 + 1)))) (k2 + 1))) (incs (incs d y1.1.2) y2.1.2) a5 b5 a6 b6)) := fun W a5 b5 a6 b6 hM => by
     obtain ⟨cu, e1, e2, e3⟩ := hM.row
     have hdl : (incs d y1.1.2).length = d.length := incs_length _ _
     have := take_any g w.heap.size k2 q n n (m.eraseIdx (least (mt m) (k1 + 1))) (incs d y1.1.2) cu W (by rw [hel1]; exact hk2) (by omega) (by omega) e1 e2 (by rw [← hk2]; exact e3) ((HL.out.sym.sub hsub1).keeps hM.kp) (fun z hz => hbd z (hsub1 z hz)) (fun z hz s hs => by rw [hdl]; exact hlt z (hsub1 z hz) s hs) hM.len (hdl.trans HL.out.dn) (fun j => by
      have h3 := incs_le y1.1.2 d j (hlt y1 hym1)
      have h4 := hsm j
      have h5 := hbd y1 hym1
      omega) y2 hy2
     rw [← hk2] at this
     refine this.mono ?_
     rintro e w' ⟨rfl, hr, hd, hw⟩
     rw [hk2] at hr hM
     exact ⟨rfl, by rw [hk2]; exact hM.take hr hd hw⟩
    have HSY1 := HL.out.sym y1 hym1
    have HSY2 := HL.out.sym y2 (hsub1 y2 hym2)
    have hb1 := hbd y1 hym1
    have hb2 := hbd y2 (hsub1 y2 hym2)
    have hne1 := HL.out.ne y1 hym1
    have hyf1' := hyf1
    have hjeq : mt ((m.eraseIdx (least (mt m) (k1 + 1))).eraseIdx (least (mt (m.eraseIdx (least (mt m) (k1 + 1)))) (k2 + 1))) ++ [(y1.1.1 + y2.1.1, y1.1.2 ++ y2.1.2)] = join (mt m) := by
     rw [hr2, hyf1, hs2]
     rfl
    have hdeq : incs (incs d y1.1.2) y2.1.2 = incs (incs d (first (mt m)).2) (second (mt m)).2 := by rw [hyf1, hs2]
    have hwl : y1.1.1 + y2.1.1 ≤ 2570000 := by rw [hyf1, hs2]; omega
    have hsub3 : ∀ z ∈ (m.eraseIdx (least (mt m) (k1 + 1))).eraseIdx (least (mt (m.eraseIdx (least (mt m) (k1 + 1)))) (k2 + 1)), z ∈ m := fun z hz => hsub1 z (hsub2 z hz)
    have hlen3 : ((m.eraseIdx (least (mt m) (k1 + 1))).eraseIdx (least (mt (m.eraseIdx (least (mt m) (k1 + 1)))) (k2 + 1))).length = k2 := hel2
    generalize (m.eraseIdx (least (mt m) (k1 + 1))).eraseIdx (least (mt (m.eraseIdx (least (mt m) (k1 + 1)))) (k2 + 1)) = m3 at HT2 hjeq hsub3 hlen3
    generalize m.eraseIdx (least (mt m) (k1 + 1)) = m2 at HT1 HT2
    have HJE := hideH hjeq
    have HDQ := hideH hdeq
    have HSB := hideH hsub3
    have HL3 := hideH hlen3
    have HJI := hideH hjinv
    have HJN := hideH hjns
    have HRM := hideH hrm
    obtain ⟨⟨w1', s1⟩, v1⟩ := y1
    obtain ⟨⟨w2', s2⟩, v2⟩ := y2
    simp only at HT1 HT2 HJE HDQ HSY1 HSY2 hb1 hb2 hne1 hwl
    obtain ⟨g1, c1, cu1, rfl, hh1, hq1, hc1⟩ := HSY1
    obtain ⟨g2, c2, cu2, rfl, hh2, hq2, hc2⟩ := HSY2
    have HCC : Hid (∀ (W : World) (gb : Nat), W.heap[gb]? = some (.cells #[.slice (some ⟨g1, 0, none⟩) s1.length c1, .slice (some ⟨g2, 0, none⟩) s2.length c2] 135 (0, 0)) → Keeps wr W → Calls Tryz.prog 111 #[.slice (some ⟨gb, 0, none⟩) 2 2] W fun e w' => ∃ v, e = .returned v ∧ Sym w' v (s1 ++ s2) ∧ Below W.heap.size W w') := fun W gb hg hk =>
     concat_any gb g1 c1 g2 c2 s1 s2 _ W hne1 hb1 hb2 hg (lt_row (hk g1 _ hh1)) (lt_row (hk g2 _ hh2)) (fun j hj => (cell_of_row W g1 j _ _ _ (hk g1 _ hh1)).trans (hc1 j hj)) (fun j hj => (cell_of_row W g2 j _ _ _ (hk g2 _ hh2)).trans (hc2 j hj))
    clear hjeq hdeq hsub3 hlen3 hjinv hjns hrm hym1 hym2 hyf1 hyf2 hyf1' hmt1 hmt2 hel1 hel2 hsub1 hsub2 hy1 hy2 hs2 hr2 hinv hbd hlt hsm hh1 hq1 hc1 hh2 hq2 hc2 hv hbk hcs hct h2l hjw hk2 hm1
    have HMX := hideH hmx
    clear hmx
    have HNE : Hid (0 < (s1 ++ s2).length) := by
     unfold Hid
     rw [List.length_append]
     omega
    generalize s1.length = n1 at HT1 HCC hb1 hne1
    generalize s2.length = n2 at HT2 HCC hb2
    go_wp2_with fail
    refine (HT1.out _ _ _ _ _ M0.out).mono ?_
    rintro e w3 ⟨rfl, M3⟩
    obtain ⟨c50, c51, z50, z51⟩ := M3.out.cells5
    go_wp2_with fail
    have M4 := hideH (M3.out.set5 (.int .i64 (w1' : Nat)) (.slice (some ⟨g1, 0, none⟩) n1 c1))
    refine (HT2.out _ _ _ _ _ M4.out).mono ?_
    rintro e w5 ⟨rfl, M5⟩
    clear c50 c51 z50 z51
    obtain ⟨c50, c51, z50, z51⟩ := M5.out.cells5
    obtain ⟨c60, c61, z60, z61⟩ := M5.out.cells6
    go_wp2_with fail
    have M6 := hideH (M5.out.set6 (.int .i64 (w2' : Nat)) (.slice (some ⟨g2, 0, none⟩) n2 c2))
    have hz6 : ((w5.setCell ⟨wr.heap.size + 1, 0, none⟩ (.int .i64 (w2' : Nat))).setCell ⟨wr.heap.size + 1, 1, none⟩ (.slice (some ⟨g2, 0, none⟩) n2 c2)).heap.size = w5.heap.size := by simp [World.setCell]
    generalize (w5.setCell ⟨wr.heap.size + 1, 0, none⟩ (.int .i64 (w2' : Nat))).setCell ⟨wr.heap.size + 1, 1, none⟩ (.slice (some ⟨g2, 0, none⟩) n2 c2) = w6 at M6 hz6 ⊢
    have HG6 : Hid ((w6.alloc (.cells #[.slice (some ⟨g1, 0, none⟩) n1 c1, .slice (some ⟨g2, 0, none⟩) n2 c2] 135)).heap[w5.heap.size]? = some (.cells #[.slice (some ⟨g1, 0, none⟩) n1 c1, .slice (some ⟨g2, 0, none⟩) n2 c2] 135 (0, 0))) := by
     unfold Hid
     rw [← hz6]
     exact heap_alloc_new w6 _
    have M6a := hideH (M6.out.below (W' := w6.alloc (.cells #[.slice (some ⟨g1, 0, none⟩) n1 c1, .slice (some ⟨g2, 0, none⟩) n2 c2] 135)) ((Below.refl _ _).alloc (Nat.le_refl _) _))
    clear c50 c51 z50 z51 c60 c61 z60 z61 hz6
    refine (HCC.out _ w5.heap.size HG6.out M6a.out.kp).mono ?_
    rintro e w7 ⟨v7, rfl, hs7, hb7⟩
    have M7 := hideH (M6a.out.below hb7)
    have S7 := hideH hs7
    obtain ⟨g7, c7, cu7, rfl, _, _, _⟩ := hs7
    clear hb7 M3 M4 M5 M6 M6a HG6
    obtain ⟨n7, hn7⟩ : ∃ n7, n7 = (s1 ++ s2).length := ⟨_, rfl⟩
    have HN7 := hideH hn7
    rw [← hn7] at S7 ⊢
    clear hn7
    obtain ⟨c50, c51, z50, z51⟩ := M7.out.cells5
    obtain ⟨c60, c61, z60, z61⟩ := M7.out.cells6
    have HOT : Hid (OwnT w7 137 w1.heap.size (.slice (some ⟨g, 0, none⟩) k2 q) m3) := by
     obtain ⟨cu, e1, e2, e3⟩ := M7.out.row
     exact OwnT.of HL3.out hgb e1 (by have := HK2.out; omega) HMX.out e2 e3
    have HOW : Hid (w7.ownsRow w1.heap.size 137 2 (.slice (some ⟨g, 0, none⟩) k2 q) k2 (cells m3)) := by
     have := HOT.out
     unfold OwnT at this
     rw [HL3.out] at this
     exact this
    have hz7 := M7.out.wrt.size
    have hzr := HL.out.low.size
    have hbase : w1.heap.size ≤ w7.heap.size := by have := M7.out.hg; omega
    go_wp2_with (at_builtin; refine wpList_append_own _ rfl (.tmp 45) (.tmp 53) 133 rfl w1.heap.size 137 j0 _ 2 32 Tryz.underlying133 hji hj0 hj1 hj2 rfl (by decide) _ _ _ rfl (HOW.out.alloc _) ⟨w7.heap.size, 0, none⟩ 1 1 [.int .i64 ((w1' : Int) + w2'), .slice (some ⟨g7, 0, none⟩) n7 c7] rfl rfl (two_new _ _ _ _) (two_one rfl rfl) (by unfold maxLen; omega) (by omega) (by simp; omega) ?_)
    intro v9 w9 hown hgrow _
    have HO9 := hideH (OwnT.snoc (x := ((w1' + w2', s1 ++ s2), .slice (some ⟨g7, 0, none⟩) n7 c7)) (m := m3) (by rw [HL3.out]; exact hown))
    have hgg : w.heap.size < g := by have := HL.out.hi; omega
    have hgr := M7.out.hg
    have hlow7 : Below w.heap.size w w7 := ⟨M7.out.wrt.os.trans HL.out.low.os, M7.out.wrt.tape.trans HL.out.low.tape, M7.out.wrt.output.trans HL.out.low.output, by omega, fun k hk => (M7.out.wrt.block k (by omega) (by omega) (by omega)).trans (HL.out.low.block k hk)⟩
    have HB9 : Hid (Below w.heap.size w w9) := by
     refine (hlow7.alloc (by omega) _).grown hgrow (by simp; omega) ?_
     intro k hk
     have := (World.ownsRow.lt HOW.out k hk).1
     omega
    have hk9 : Keeps w7 w9 := (Keeps.below ((Below.refl _ _).alloc (Nat.le_refl _) _)).trans (Keeps.grown hgrow ((HOT.out.alloc _).rowT (by decide)))
    have HS9 : Hid (Syms w9 (m3 ++ [((w1' + w2', s1 ++ s2), .slice (some ⟨g7, 0, none⟩) n7 c7)])) := by
     intro z hz
     rcases List.mem_append.1 hz with hz | hz
     ·exact ((HL.out.sym.sub HSB.out).keeps (M7.out.kp.trans hk9)) z hz
     ·rw [List.mem_singleton.1 hz]
      exact S7.out.keeps hk9
    have HI9 : Hid (IsI w9 w.heap.size 2 (up (incs (incs d s1) s2))) := by
     unfold Hid IsI
     rw [hgrow.block w.heap.size (by simp; omega) (by simp [Value.ownBlock]; omega), Below.heap_alloc _ _ _ (by omega)]
     exact M7.out.len
    have HM9 : Hid (mt (m3 ++ [((w1' + w2', s1 ++ s2), .slice (some ⟨g7, 0, none⟩) n7 c7)]) = join (mt m)) := by
     unfold Hid
     rw [← HJE.out]
     unfold mt
     rw [List.map_append]
     rfl
    have HLN : Hid ((m3 ++ [(((w1' + w2', s1 ++ s2), .slice (some ⟨g7, 0, none⟩) n7 c7) : MT)]).length = k2 + 1) := by
     unfold Hid
     rw [List.length_append, HL3.out]
     rfl
    have HNE9 : Hid (∀ z ∈ m3 ++ [(((w1' + w2', s1 ++ s2), .slice (some ⟨g7, 0, none⟩) n7 c7) : MT)], 0 < z.1.2.length) := by
     intro z hz
     rcases List.mem_append.1 hz with hz | hz
     ·exact HL.out.ne z (HSB.out z hz)
     ·rw [List.mem_singleton.1 hz]
      exact HNE.out
    obtain ⟨x9, q9, hv9⟩ : ∃ x q, v9 = .slice x (k2 + 1) q := by
     obtain ⟨g9, q9, _, hv9, _⟩ := HO9.out.parts (by rw [HLN.out]; omega)
     rw [HLN.out] at hv9
     exact ⟨_, q9, hv9⟩
    subst hv9
    have HLP9 : Hid (Lp w1.heap.size w.heap.size n c.sum w w9 (.slice x9 (k2 + 1) q9) (m3 ++ [((w1' + w2', s1 ++ s2), .slice (some ⟨g7, 0, none⟩) n7 c7)]) (incs (incs d s1) s2)) :=
     ⟨HO9.out, HS9.out, HI9.out, by rw [HM9.out, HDQ.out]; exact HJI.out, by rw [HM9.out, HJN.out]; exact HL.out.few, by rw [incs_length, incs_length]; exact HL.out.dn, HNE9.out, HB9.out, HL.out.lo, HL.out.hi⟩
    have HRU9 : Hid (depths c = run (m3 ++ [(((w1' + w2', s1 ++ s2), .slice (some ⟨g7, 0, none⟩) n7 c7) : MT)]).length (mt (m3 ++ [((w1' + w2', s1 ++ s2), .slice (some ⟨g7, 0, none⟩) n7 c7)])) (incs (incs d s1) s2)) := by
     have h3 := HRU.out
     have h4 := HRM.out
     rw [mt_length] at h4
     rw [h4, ← HDQ.out, ← HM9.out, mt_length] at h3
     exact h3
    clear hown hgrow hlow7 hk9 c50 c51 z50 z51 c60 c61 z60 z61
    have hk21 : k2 + 1 ≤ n := by have := HK2.out; omega
    go_wp2_with fail
    go_roundw
    case rel => exact ⟨_, _, x9, k2 + 1, q9, rfl, HLN.out.symm, hk21, HRU9.out, HLP9.out⟩
    case measure => have := HK2.out; simp; omega
   ·have h2' : decide ((1 : Int) < (k : Int)) = false := by simp; omega
    have HF : Hid (depths c = d) := HRU.out.trans (run_done _ _ _ (by rw [mt_length, ← HKM.out]; omega))
    go_wp2_with fail
    go_ret
    exact ⟨rfl, by rw [HF.out]; exact HL.out.len, HL.out.low⟩
end Go.Proofs.YthbpenanelbbcaaGreatDoor.Hf

