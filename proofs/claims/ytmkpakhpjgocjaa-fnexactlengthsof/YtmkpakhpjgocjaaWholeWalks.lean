/- The walks of the program's own helpers on lengths. -/
import Derived.Test.YtmkpakhpjgocjaaZeroPlain
import Derived.Test.YtmkpakhpjgocjaaIntArg
import Derived.Test.YtmkpakhpjgocjaaBitWalks
namespace Go.Proofs.Ytmkpakhpjgocjaa.Bi
open Go.RowKit
open Go.Proofs.Ytmkpakhpjgocjaa.In (Ints)
open Go.Proofs.Ytmkpakhpjgocjaa.Ze (upTo upTo_yes upTo_of upTo_bad)


set_option maxHeartbeats 1000000 in
theorem upTo_impl (l : List Int) (m : Int) (a : Option Addr) (cap B : Nat) (w : World) (hi : Ints w B a l) (hn : l.length ≤ 1048576) :
    Calls Try.prog 104 #[.slice a l.length cap, .int .i64 m] w fun e w' => e = .returned (.bool (upTo l m)) ∧ w' = w := by
  have HS := hideB hi
  clear hi
  obtain ⟨n, hln⟩ : ∃ n, n = l.length := ⟨_, rfl⟩
  have HLN := hideB hln
  rw [← hln] at hn ⊢
  clear hln
  go_enter Try.func104, Try.ntmps104
  go_wp2_with fail
  go_loopw [9] (fun i wr => ∃ k : Nat, i = .int .i64 k ∧ k ≤ n ∧ (∀ j (hj : j < l.length), j < k → 0 ≤ l[j] ∧ l[j] ≤ m) ∧ wr = w) (fun i _ => n - (intOf i).toNat)
  case atStart => exact ⟨0, rfl, Nat.zero_le _, fun j hj h0 => absurd h0 (Nat.not_lt_zero j), rfl⟩
  case round =>
    obtain ⟨k, rfl, hk, hall, hw⟩ := hrel
    subst hw
    have HA := hideB hall
    clear hall
    by_cases hlt : k < n
    · have hkl : k < l.length := by rw [← HLN.out]; exact hlt
      obtain ⟨b, off, rfl, hb, hc⟩ := HS.out.some (by omega)
      have ci := hc k hkl
      obtain ⟨x, hx⟩ : ∃ x, x = l[k] := ⟨_, rfl⟩
      have HX := hideB hx
      rw [← hx] at ci
      clear hc hx
      by_cases h0 : x < 0
      · have HE := hideB (upTo_bad (m := m) hkl (by rw [← HX.out]; exact Or.inl h0))
        go_wp2_with fail
        go_ret
        exact ⟨ret_boolB HE.out.symm, rfl⟩
      · by_cases h1 : m < x
        · have HE := hideB (upTo_bad (m := m) hkl (by rw [← HX.out]; exact Or.inr h1))
          have hd0 : decide (x < 0) = false := decide_eq_false h0
          go_wp2_with fail
          go_ret
          exact ⟨ret_boolB HE.out.symm, rfl⟩
        · have hd0 : decide (x < 0) = false := decide_eq_false h0
          have hd1 : decide (m < x) = false := decide_eq_false h1
          go_wp2_with fail
          go_roundw
          case rel =>
            refine ⟨k + 1, by go_num, by omega, fun j hj hjk => ?_, trivial⟩
            by_cases e : j = k
            · subst e
              rw [← HX.out]
              omega
            · exact HA.out j hj (by omega)
          case measure => simp [intOf]; omega
    · have HE : Hid (upTo l m = true) := upTo_of (fun x hx => by
        obtain ⟨j, hj, rfl⟩ := List.getElem_of_mem hx
        exact HA.out j hj (by have := HLN.out; omega))
      go_wp2_with fail
      go_ret
      exact ⟨ret_boolB HE.out.symm, rfl⟩

theorem within_upTo {l : List Int} {m : Int} (h : l.length ≤ 257) : within l m = upTo l m := by
  unfold within upTo
  exact decide_eq_decide.2 ⟨fun x => x.2, fun x => ⟨h, x⟩⟩

set_option maxHeartbeats 1000000 in
theorem within_impl (l : List Int) (m : Int) (a : Option Addr) (cap B : Nat) (w : World) (hi : Ints w B a l) (hn : l.length ≤ 1048576) :
    Calls Try.prog 66 #[.slice a l.length cap, .int .i64 m] w fun e w' => e = .returned (.bool (within l m)) ∧ w' = w := by
  by_cases hlong : 257 < l.length
  · have HE := hideB (within_long (l := l) (m := m) hlong)
    clear hi
    generalize l.length = n at hlong hn ⊢
    have hd : decide ((n : Int) ≤ 257) = false := decide_eq_false (by omega)
    go_enter Try.func66, Try.ntmps66
    go_wp2_with fail
    go_ret
    exact ⟨ret_boolB HE.out.symm, rfl⟩
  · have HU := hideB (upTo_impl l m a cap B w hi hn)
    have HE := hideB (within_upTo (m := m) (show l.length ≤ 257 by omega))
    clear hi
    generalize l.length = n at hlong hn HU ⊢
    generalize upTo l m = u at HU HE
    have hd : (n : Int) ≤ 257 := by omega
    go_enter Try.func66, Try.ntmps66
    go_wp2_with fail
    refine HU.out.mono ?_
    rintro e w' ⟨rfl, hw⟩
    subst w'
    go_wp2_with fail
    go_ret
    exact ⟨ret_boolB HE.out.symm, rfl⟩

theorem part_pos (x : Int) (h0 : 0 < x) (h2 : x ≤ 12) : ∃ n : Nat, x = n ∧ 1 ≤ n ∧ n ≤ 12 ∧ part x = 2 ^ (12 - n) := ⟨x.toNat, by omega, by omega, by omega, by unfold part; rw [if_pos h0]⟩
theorem part_none (x : Int) (h0 : ¬ 0 < x) : part x = 0 := if_neg h0

set_option maxHeartbeats 1000000 in
theorem sum_impl (l : List Int) (a : Option Addr) (cap B : Nat) (w : World) (hi : Ints w B a l) (hr : within l 12 = true) :
    Calls Try.prog 90 #[.slice a l.length cap] w fun e w' => e = .returned (.int .i64 (csum l : Nat)) ∧ w' = w := by
  have HS := hideB hi
  have HW := hideB (within_yes hr).2
  have hn := (within_yes hr).1
  clear hi hr
  obtain ⟨n, hln⟩ : ∃ n, n = l.length := ⟨_, rfl⟩
  have HLN := hideB hln
  rw [← hln] at hn ⊢
  clear hln
  go_enter Try.func90, Try.ntmps90
  go_wp2_with fail
  go_loopw [8, 3] (fun i v wr => ∃ k s : Nat, i = .int .i64 k ∧ v = .int .i64 s ∧ k ≤ n ∧ s = csum (l.take k) ∧ s ≤ 4096 * k ∧ wr = w) (fun i _ _ => n - (intOf i).toNat)
  case atStart => exact ⟨0, 0, rfl, rfl, Nat.zero_le _, by simp [csum], by omega, rfl⟩
  case round =>
    obtain ⟨k, s, rfl, rfl, hk, hs, hsb, hw⟩ := hrel
    subst hw
    have HC := hideB hs
    clear hs
    by_cases hlt : k < n
    · have hkl : k < l.length := by rw [← HLN.out]; exact hlt
      obtain ⟨b, off, rfl, hb, hc⟩ := HS.out.some (by omega)
      have ci := hc k hkl
      have HM := hideB (csum_more hkl)
      have hx12 := HW.out _ (List.getElem_mem hkl)
      obtain ⟨x, hx⟩ : ∃ x, x = l[k] := ⟨_, rfl⟩
      rw [← hx] at ci hx12 HM
      clear hc hx
      by_cases h0 : 0 < x
      · obtain ⟨m, rfl, hm1, hm2, hp⟩ := part_pos x h0 hx12.2
        have hsh := shr_part m hm1 hm2
        have hp2 : 2 ^ (12 - m) ≤ 4096 := by have := part_le (m : Int); rw [hp] at this; exact this
        have HP := hideB hp
        clear hp
        generalize 2 ^ (12 - m) = pm at hsh hp2 HP
        go_wp2_with fail
        go_roundw
        case rel => exact ⟨k + 1, s + pm, by go_num, by go_num, by omega, by rw [HM.out, HP.out, HC.out], by omega, trivial⟩
        case measure => simp [intOf]; omega
      · have HP := hideB (part_none x h0)
        go_wp2_with fail
        go_roundw
        case rel => exact ⟨k + 1, s, by go_num, rfl, by omega, by rw [HM.out, HP.out, HC.out]; rfl, by omega, trivial⟩
        case measure => simp [intOf]; omega
    · have HE : Hid (s = csum l) := by
        unfold Hid
        rw [HC.out, List.take_of_length_le (by have := HLN.out; omega)]
      go_wp2_with fail
      go_ret
      exact ⟨by rw [← HE.out]; rfl, rfl⟩

set_option maxHeartbeats 1000000 in
theorem count_impl (l : List Int) (a : Option Addr) (cap B : Nat) (w : World) (hi : Ints w B a l) (hn : l.length ≤ 1048576) :
    Calls Try.prog 88 #[.slice a l.length cap] w fun e w' => e = .returned (.int .i64 (above l : Nat)) ∧ w' = w := by
  have HS := hideB hi
  clear hi
  obtain ⟨n, hln⟩ : ∃ n, n = l.length := ⟨_, rfl⟩
  have HLN := hideB hln
  rw [← hln] at hn ⊢
  clear hln
  go_enter Try.func88, Try.ntmps88
  go_wp2_with fail
  go_loopw [8, 3] (fun i v wr => ∃ k s : Nat, i = .int .i64 k ∧ v = .int .i64 s ∧ k ≤ n ∧ s = above (l.take k) ∧ s ≤ k ∧ wr = w) (fun i _ _ => n - (intOf i).toNat)
  case atStart => exact ⟨0, 0, rfl, rfl, Nat.zero_le _, by simp [above], by omega, rfl⟩
  case round =>
    obtain ⟨k, s, rfl, rfl, hk, hs, hsb, hw⟩ := hrel
    subst hw
    have HC := hideB hs
    clear hs
    by_cases hlt : k < n
    · have hkl : k < l.length := by rw [← HLN.out]; exact hlt
      obtain ⟨b, off, rfl, hb, hc⟩ := HS.out.some (by omega)
      have ci := hc k hkl
      have HM := hideB (above_more hkl)
      obtain ⟨x, hx⟩ : ∃ x, x = l[k] := ⟨_, rfl⟩
      rw [← hx] at ci HM
      clear hc hx
      by_cases h0 : 0 < x
      · have HM2 : Hid (above (l.take (k + 1)) = s + 1) := by
          unfold Hid
          rw [HM.out, if_pos h0, HC.out]
        go_wp2_with fail
        go_roundw
        case rel => exact ⟨k + 1, s + 1, by go_num, by go_num, by omega, HM2.out.symm, by omega, trivial⟩
        case measure => simp [intOf]; omega
      · have HM2 : Hid (above (l.take (k + 1)) = s) := by
          unfold Hid
          rw [HM.out, if_neg h0, HC.out]
          rfl
        go_wp2_with fail
        go_roundw
        case rel => exact ⟨k + 1, s, by go_num, rfl, by omega, HM2.out.symm, by omega, trivial⟩
        case measure => simp [intOf]; omega
    · have HE : Hid (s = above l) := by
        unfold Hid
        rw [HC.out, List.take_of_length_le (by have := HLN.out; omega)]
      go_wp2_with fail
      go_ret
      exact ⟨by rw [← HE.out]; rfl, rfl⟩

set_option maxHeartbeats 1000000 in
theorem index_impl (l : List Int) (y : Int) (a : Option Addr) (cap B : Nat) (w : World) (hi : Ints w B a l) (hn : l.length ≤ 1048576) :
    Calls Try.prog 130 #[.slice a l.length cap, .int .i64 y] w fun e w' => (∃ r : Int, e = .returned (.int .i64 r) ∧ Hid (l.contains y = decide (0 ≤ r))) ∧ w' = w := by
  have HS := hideB hi
  clear hi
  obtain ⟨n, hln⟩ : ∃ n, n = l.length := ⟨_, rfl⟩
  have HLN := hideB hln
  rw [← hln] at hn ⊢
  clear hln
  go_enter Try.func130, Try.ntmps130
  go_wp2_with fail
  go_loopw [8] (fun i wr => ∃ k : Nat, i = .int .i64 k ∧ k ≤ n ∧ (∀ j (hj : j < l.length), j < k → l[j] ≠ y) ∧ wr = w) (fun i _ => n - (intOf i).toNat)
  case atStart => exact ⟨0, rfl, Nat.zero_le _, fun j hj h0 => absurd h0 (Nat.not_lt_zero j), rfl⟩
  case round =>
    obtain ⟨k, rfl, hk, hall, hw⟩ := hrel
    subst hw
    have HA := hideB hall
    clear hall
    by_cases hlt : k < n
    · have hkl : k < l.length := by rw [← HLN.out]; exact hlt
      obtain ⟨b, off, rfl, hb, hc⟩ := HS.out.some (by omega)
      have ci := hc k hkl
      obtain ⟨x, hx⟩ : ∃ x, x = l[k] := ⟨_, rfl⟩
      have HX := hideB hx
      rw [← hx] at ci
      clear hc hx
      by_cases h0 : y = x
      · have hb : (y == x) = true := beq_iff_eq.2 h0
        have HE : Hid (l.contains y = true) := by
          unfold Hid
          rw [List.contains_iff_mem, h0, HX.out]
          exact List.getElem_mem hkl
        clear h0
        go_wp2_with fail
        go_ret
        exact ⟨⟨k, rfl, HE.out.trans (decide_eq_true (by omega)).symm⟩, rfl⟩
      · have hb : (y == x) = false := beq_eq_false_iff_ne.2 h0
        have HNE := hideB h0
        clear h0
        go_wp2_with fail
        go_roundw
        case rel =>
          refine ⟨k + 1, by go_num, by omega, fun j hj hjk => ?_, trivial⟩
          by_cases e : j = k
          · subst e
            rw [← HX.out]
            exact fun h => HNE.out h.symm
          · exact HA.out j hj (by omega)
        case measure => simp [intOf]; omega
    · have HE : Hid (l.contains y = false) := by
        unfold Hid
        rw [Bool.eq_false_iff, Ne, List.contains_iff_mem]
        intro hm
        obtain ⟨j, hj, e⟩ := List.getElem_of_mem hm
        exact HA.out j hj (by have := HLN.out; omega) e
      go_wp2_with fail
      go_ret
      exact ⟨⟨-1, rfl, HE.out⟩, rfl⟩

theorem contains_impl (l : List Int) (y : Int) (a : Option Addr) (cap B : Nat) (w : World) (hi : Ints w B a l) (hn : l.length ≤ 1048576) :
    Calls Try.prog 89 #[.slice a l.length cap, .int .i64 y] w fun e w' => e = .returned (.bool (l.contains y)) ∧ w' = w := by
  have HI := hideB (index_impl l y a cap B w hi hn)
  clear hi
  generalize l.length = n at HI hn ⊢
  generalize l.contains y = c at HI ⊢
  go_enter Try.func89, Try.ntmps89
  go_wp2_with fail
  refine HI.out.mono ?_
  rintro e w' ⟨⟨r, rfl, hr⟩, hw⟩
  subst w'
  by_cases h0 : 0 ≤ r
  · have HE : Hid (c = true) := hr.out.trans (decide_eq_true h0)
    clear hr
    go_wp2_with fail
    go_ret
    exact ⟨ret_boolB HE.out.symm, rfl⟩
  · have HE : Hid (c = false) := hr.out.trans (decide_eq_false h0)
    have HR := hideB hr.out
    clear hr
    go_wp2_with fail
    go_ret
    exact ⟨ret_boolB (by first | exact HE.out.symm | exact HR.out.symm), rfl⟩

set_option maxHeartbeats 1000000 in
theorem right_impl (l : List Int) (a : Option Addr) (cap B : Nat) (w : World) (hi : Ints w B a l) (hn : l.length ≤ 1048576) :
    Calls Try.prog 87 #[.slice a l.length cap] w fun e w' => e = .returned (.bool (right l)) ∧ w' = w := by
  have HW := hideB (within_impl l 12 a cap B w hi hn)
  cases hw : within l 12 with
  | false =>
    have HE := hideB (right_no (l := l) (Or.inl hw))
    rw [hw] at HW
    clear hi hw
    generalize l.length = n at HW hn ⊢
    go_enter Try.func87, Try.ntmps87
    go_wp2_with fail
    refine HW.out.mono ?_
    rintro e w' ⟨rfl, hw⟩
    subst w'
    go_wp2_with fail
    go_ret
    exact ⟨ret_boolB HE.out.symm, rfl⟩
  | true =>
    have HC := hideB (sum_impl l a cap B w hi hw)
    by_cases hs : csum l ≤ 4096
    · have HE := hideB (right_of hw hs)
      rw [hw] at HW
      clear hi hw
      generalize l.length = n at HW HC hn ⊢
      generalize csum l = c at HC hs
      have hs' : (c : Int) ≤ 4096 := by omega
      go_enter Try.func87, Try.ntmps87
      go_wp2_with fail
      refine HW.out.mono ?_
      rintro e w' ⟨rfl, hw⟩
      subst w'
      go_wp2_with fail
      refine HC.out.mono ?_
      rintro e w' ⟨rfl, hw⟩
      subst w'
      go_wp2_with fail
      go_ret
      exact ⟨ret_boolB HE.out.symm, rfl⟩
    · have HE := hideB (right_no (l := l) (Or.inr hs))
      rw [hw] at HW
      clear hi hw
      generalize l.length = n at HW HC hn ⊢
      generalize csum l = c at HC hs
      have hs' : decide ((c : Int) ≤ 4096) = false := decide_eq_false (by omega)
      go_enter Try.func87, Try.ntmps87
      go_wp2_with fail
      refine HW.out.mono ?_
      rintro e w' ⟨rfl, hw⟩
      subst w'
      go_wp2_with fail
      refine HC.out.mono ?_
      rintro e w' ⟨rfl, hw⟩
      subst w'
      go_wp2_with fail
      go_ret
      exact ⟨ret_boolB HE.out.symm, rfl⟩
end Go.Proofs.Ytmkpakhpjgocjaa.Bi
