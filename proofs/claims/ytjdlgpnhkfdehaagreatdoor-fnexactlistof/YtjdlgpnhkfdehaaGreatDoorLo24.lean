/- Texts put together: ZeroPlain, IntArg, WholeWalks, HuFlat, HuTrees. -/
import Derived.Test.YtjdlgpnhkfdehaaGreatDoorLo23
import Derived.Test.YtjdlgpnhkfdehaaGreatDoorLo21
import Derived.Test.YtjdlgpnhkfdehaaGreatDoorLo18
/- Plain mathematics of zeros side by side: what they are told as, and back. -/
namespace Go.Proofs.YtjdlgpnhkfdehaaGreatDoor.Ze
open Go.RowKit
theorem hideZ {p : Prop} (h : p) : Hid p := h
def zrun (r : Nat) : List Int :=
  if r = 0 then [] else if r % 2 = 1 then 0 :: zrun ((r - 1) / 2) else 1 :: zrun ((r - 2) / 2)
termination_by r
decreasing_by all_goals omega
theorem zrun_zero : zrun 0 = [] := by rw [zrun]; rfl
theorem zrun_odd {r : Nat} (h : r % 2 = 1) : zrun r = 0 :: zrun ((r - 1) / 2) := by
  rw [zrun, if_neg (by omega), if_pos h]
theorem zrun_even {r : Nat} (h0 : 0 < r) (h : ¬ r % 2 = 1) : zrun r = 1 :: zrun ((r - 2) / 2) := by
  rw [zrun, if_neg (by omega), if_neg h]
theorem zrun_len (r : Nat) : (zrun r).length ≤ r := by
  induction r using Nat.strongRecOn with
  | ind r ih =>
    by_cases h0 : r = 0
    · subst h0; rw [zrun_zero]; exact Nat.le_refl _
    · by_cases h1 : r % 2 = 1
      · rw [zrun_odd h1, List.length_cons]
        have := ih ((r - 1) / 2) (by omega)
        omega
      · rw [zrun_even (by omega) h1, List.length_cons]
        have := ih ((r - 2) / 2) (by omega)
        omega
theorem zrun_mem (r : Nat) : ∀ x ∈ zrun r, x = 0 ∨ x = 1 := by
  induction r using Nat.strongRecOn with
  | ind r ih =>
    intro x hx
    by_cases h0 : r = 0
    · subst h0; rw [zrun_zero] at hx; cases hx
    · by_cases h1 : r % 2 = 1
      · rw [zrun_odd h1] at hx
        rcases List.mem_cons.1 hx with e | hx
        · exact .inl e
        · exact ih ((r - 1) / 2) (by omega) x hx
      · rw [zrun_even (by omega) h1] at hx
        rcases List.mem_cons.1 hx with e | hx
        · exact .inr e
        · exact ih ((r - 2) / 2) (by omega) x hx
def upTo (l : List Int) (m : Int) : Bool := decide (∀ x ∈ l, 0 ≤ x ∧ x ≤ m)
theorem upTo_yes {l : List Int} {m : Int} (h : upTo l m = true) : ∀ x ∈ l, 0 ≤ x ∧ x ≤ m := of_decide_eq_true h
theorem upTo_of {l : List Int} {m : Int} (h : ∀ x ∈ l, 0 ≤ x ∧ x ≤ m) : upTo l m = true := decide_eq_true h
theorem upTo_bad {l : List Int} {m : Int} {j : Nat} (hj : j < l.length) (h : l[j] < 0 ∨ m < l[j]) : upTo l m = false := decide_eq_false fun x => by
  have := x _ (List.getElem_mem hj)
  omega
def numsR (l : List Int) (m : Int) : Bool := decide (l.length ≤ 400) && upTo l m
theorem numsR_yes {l : List Int} {m : Int} (h : numsR l m = true) : l.length ≤ 400 ∧ upTo l m = true := by
  unfold numsR at h
  rw [Bool.and_eq_true] at h
  exact ⟨of_decide_eq_true h.1, h.2⟩
theorem numsR_long {l : List Int} {m : Int} (h : 400 < l.length) : numsR l m = false := by
  unfold numsR
  rw [decide_eq_false (by omega)]
  rfl
theorem numsR_of {l : List Int} {m : Int} (h : l.length ≤ 400) : numsR l m = upTo l m := by
  unfold numsR
  rw [decide_eq_true h]
  rfl
def zstep (s : List Int × Nat) (n : Int) : List Int × Nat := if n = 0 then (s.1, s.2 + 1) else (s.1 ++ zrun s.2 ++ [n + 1], 0)
def zst (l : List Int) : List Int × Nat := l.foldl zstep ([], 0)
theorem zst_more {l : List Int} {k : Nat} (h : k < l.length) : zst (l.take (k + 1)) = zstep (zst (l.take k)) l[k] := by
  unfold zst
  rw [Bi.take_more h, List.foldl_append]
  rfl
theorem zst_zero {l : List Int} {k : Nat} (h : k < l.length) (h0 : l[k] = 0) : zst (l.take (k + 1)) = ((zst (l.take k)).1, (zst (l.take k)).2 + 1) := by
  rw [zst_more h, zstep, if_pos h0]
theorem zst_other {l : List Int} {k : Nat} (h : k < l.length) (h0 : ¬ l[k] = 0) : zst (l.take (k + 1)) = ((zst (l.take k)).1 ++ zrun (zst (l.take k)).2 ++ [l[k] + 1], 0) := by
  rw [zst_more h, zstep, if_neg h0]
theorem zst_len (l : List Int) : (zst l).1.length + (zst l).2 ≤ l.length := by
  suffices h : ∀ k, k ≤ l.length → (zst (l.take k)).1.length + (zst (l.take k)).2 ≤ k by
    have := h l.length (Nat.le_refl _)
    rwa [List.take_length] at this
  intro k
  induction k with
  | zero => intro _; simp [zst]
  | succ k ih =>
    intro hk
    have := ih (by omega)
    by_cases h0 : l[k] = 0
    · rw [zst_zero hk h0]
      simp only
      omega
    · rw [zst_other hk h0]
      have hz := zrun_len (zst (l.take k)).2
      simp only [List.length_append, List.length_cons, List.length_nil]
      omega
def zerosR (l : List Int) : List Int := if numsR l 255 = true then (zst l).1 ++ zrun (zst l).2 else []
theorem zerosR_yes {l : List Int} (h : numsR l 255 = true) : zerosR l = (zst l).1 ++ zrun (zst l).2 := if_pos h
theorem zerosR_no {l : List Int} (h : numsR l 255 = false) : zerosR l = [] := if_neg (by rw [h]; decide)
theorem zerosR_len (l : List Int) : (zerosR l).length ≤ l.length := by
  unfold zerosR
  split
  · rw [List.length_append]
    have := zst_len l
    have := zrun_len (zst l).2
    omega
  · exact Nat.zero_le _
def bstep (s : List Int × Nat) (n : Int) : List Int × Nat := if 1 < n then (s.1 ++ [n - 1], 1) else (s.1 ++ List.replicate ((n.toNat + 1) * s.2) 0, s.2 * 2)
def bst (l : List Int) : List Int × Nat := l.foldl bstep ([], 1)
def backR (l : List Int) : List Int := if numsR l 256 = true ∧ (bst l).1.length ≤ 400 then (bst l).1 else []
theorem backR_yes {l : List Int} (h : numsR l 256 = true) (h2 : (bst l).1.length ≤ 400) : backR l = (bst l).1 := if_pos ⟨h, h2⟩
theorem backR_no {l : List Int} (h : numsR l 256 = false) : backR l = [] := if_neg fun x => by rw [h] at x; exact absurd x.1 (by decide)
end Go.Proofs.YtjdlgpnhkfdehaaGreatDoor.Ze


/- A slice of numbers that came in. -/
namespace Go.Proofs.YtjdlgpnhkfdehaaGreatDoor.In
open Go.RowKit
def IsNums (w : World) (a : Option Addr) (len cap : Nat) (zs : List Int) : Prop :=
  (a = none ∧ len = 0 ∧ cap = 0 ∧ zs = []) ∨
  ∃ x, a = some x ∧ len ≤ cap ∧ cap ≤ maxLen ∧ zs.length = cap ∧ (∀ i, i < zs.length → w.cell? (x.add i) = some (.int .i64 (zs.getD i 0))) ∧ ∀ n ∈ zs, (Lit.int .i64 n).wf = true
def Wf (l : List Int) : Prop := ∀ n ∈ l, -9223372036854775808 ≤ n ∧ n ≤ 9223372036854775807
end Go.Proofs.YtjdlgpnhkfdehaaGreatDoor.In


/- The walks of the program's own helpers on lengths. -/
namespace Go.Proofs.YtjdlgpnhkfdehaaGreatDoor.Bi
open Go.RowKit
open Go.Proofs.YtjdlgpnhkfdehaaGreatDoor.In (Ints)
open Go.Proofs.YtjdlgpnhkfdehaaGreatDoor.Ze (upTo upTo_yes upTo_of upTo_bad)
set_option maxHeartbeats 1000000 in
theorem upTo_impl (l : List Int) (m : Int) (a : Option Addr) (cap B : Nat) (w : World) (hi : Ints w B a l) (hn : l.length ≤ 1048576) :
    Calls Tryz.prog 155 #[.slice a l.length cap, .int .i64 m] w fun e w' => e = .returned (.bool (upTo l m)) ∧ w' = w := by
  have HS := hideB hi
  clear hi
  obtain ⟨n, hln⟩ : ∃ n, n = l.length := ⟨_, rfl⟩
  have HLN := hideB hln
  rw [← hln] at hn ⊢
  clear hln
  go_enter Tryz.func155, Tryz.ntmps155
  go_wp2_with fail
  go_loopw [9] (fun i wr => ∃ k : Nat, i = .int .i64 k ∧ k ≤ n ∧ (∀ j (hj : j < l.length), j < k → 0 ≤ l[j] ∧ l[j] ≤ m) ∧ wr = w) (fun i _ => n - (intOf i).toNat)
  case atStart => exact ⟨0, rfl, Nat.zero_le _, fun j hj h0 => absurd h0 (Nat.not_lt_zero j), rfl⟩
  case round =>
    obtain ⟨k, rfl, hk, hall, hw⟩ := hrel
    subst hw
    have HA := hideB hall
    clear hall
    by_cases hlt : k < n
    · have hkl : k < l.length := by rw [← HLN.out]; exact hlt
      obtain ⟨b, off, rfl, hb, hc⟩ := HS.out.some (by omega)
      have ci := hc k hkl
      obtain ⟨x, hx⟩ : ∃ x, x = l[k] := ⟨_, rfl⟩
      have HX := hideB hx
      rw [← hx] at ci
      clear hc hx
      by_cases h0 : x < 0
      · have HE := hideB (upTo_bad (m := m) hkl (by rw [← HX.out]; exact Or.inl h0))
        go_wp2_with fail
        go_ret
        exact ⟨ret_boolB HE.out.symm, rfl⟩
      · by_cases h1 : m < x
        · have HE := hideB (upTo_bad (m := m) hkl (by rw [← HX.out]; exact Or.inr h1))
          have hd0 : decide (x < 0) = false := decide_eq_false h0
          go_wp2_with fail
          go_ret
          exact ⟨ret_boolB HE.out.symm, rfl⟩
        · have hd0 : decide (x < 0) = false := decide_eq_false h0
          have hd1 : decide (m < x) = false := decide_eq_false h1
          go_wp2_with fail
          go_roundw
          case rel =>
            refine ⟨k + 1, by go_num, by omega, fun j hj hjk => ?_, trivial⟩
            by_cases e : j = k
            · subst e
              rw [← HX.out]
              omega
            · exact HA.out j hj (by omega)
          case measure => simp [intOf]; omega
    · have HE : Hid (upTo l m = true) := upTo_of (fun x hx => by
        obtain ⟨j, hj, rfl⟩ := List.getElem_of_mem hx
        exact HA.out j hj (by have := HLN.out; omega))
      go_wp2_with fail
      go_ret
      exact ⟨ret_boolB HE.out.symm, rfl⟩
theorem within_upTo {l : List Int} {m : Int} (h : l.length ≤ 257) : within l m = upTo l m := by
  unfold within upTo
  exact decide_eq_decide.2 ⟨fun x => x.2, fun x => ⟨h, x⟩⟩
set_option maxHeartbeats 1000000 in
theorem within_impl (l : List Int) (m : Int) (a : Option Addr) (cap B : Nat) (w : World) (hi : Ints w B a l) (hn : l.length ≤ 1048576) :
    Calls Tryz.prog 159 #[.slice a l.length cap, .int .i64 m] w fun e w' => e = .returned (.bool (within l m)) ∧ w' = w := by
  by_cases hlong : 257 < l.length
  · have HE := hideB (within_long (l := l) (m := m) hlong)
    clear hi
    generalize l.length = n at hlong hn ⊢
    have hd : decide ((n : Int) ≤ 257) = false := decide_eq_false (by omega)
    go_enter Tryz.func159, Tryz.ntmps159
    go_wp2_with fail
    go_ret
    exact ⟨ret_boolB HE.out.symm, rfl⟩
  · have HU := hideB (upTo_impl l m a cap B w hi hn)
    have HE := hideB (within_upTo (m := m) (show l.length ≤ 257 by omega))
    clear hi
    generalize l.length = n at hlong hn HU ⊢
    generalize upTo l m = u at HU HE
    have hd : (n : Int) ≤ 257 := by omega
    go_enter Tryz.func159, Tryz.ntmps159
    go_wp2_with fail
    refine HU.out.mono ?_
    rintro e w' ⟨rfl, hw⟩
    subst w'
    go_wp2_with fail
    go_ret
    exact ⟨ret_boolB HE.out.symm, rfl⟩
theorem part_pos (x : Int) (h0 : 0 < x) (h2 : x ≤ 12) : ∃ n : Nat, x = n ∧ 1 ≤ n ∧ n ≤ 12 ∧ part x = 2 ^ (12 - n) := ⟨x.toNat, by omega, by omega, by omega, by unfold part; rw [if_pos h0]⟩
theorem part_none (x : Int) (h0 : ¬ 0 < x) : part x = 0 := if_neg h0
set_option maxHeartbeats 1000000 in
theorem sum_impl (l : List Int) (a : Option Addr) (cap B : Nat) (w : World) (hi : Ints w B a l) (hr : within l 12 = true) :
    Calls Tryz.prog 207 #[.slice a l.length cap] w fun e w' => e = .returned (.int .i64 (csum l : Nat)) ∧ w' = w := by
  have HS := hideB hi
  have HW := hideB (within_yes hr).2
  have hn := (within_yes hr).1
  clear hi hr
  obtain ⟨n, hln⟩ : ∃ n, n = l.length := ⟨_, rfl⟩
  have HLN := hideB hln
  rw [← hln] at hn ⊢
  clear hln
  go_enter Tryz.func207, Tryz.ntmps207
  go_wp2_with fail
  go_loopw [8, 3] (fun i v wr => ∃ k s : Nat, i = .int .i64 k ∧ v = .int .i64 s ∧ k ≤ n ∧ s = csum (l.take k) ∧ s ≤ 4096 * k ∧ wr = w) (fun i _ _ => n - (intOf i).toNat)
  case atStart => exact ⟨0, 0, rfl, rfl, Nat.zero_le _, by simp [csum], by omega, rfl⟩
  case round =>
    obtain ⟨k, s, rfl, rfl, hk, hs, hsb, hw⟩ := hrel
    subst hw
    have HC := hideB hs
    clear hs
    by_cases hlt : k < n
    · have hkl : k < l.length := by rw [← HLN.out]; exact hlt
      obtain ⟨b, off, rfl, hb, hc⟩ := HS.out.some (by omega)
      have ci := hc k hkl
      have HM := hideB (csum_more hkl)
      have hx12 := HW.out _ (List.getElem_mem hkl)
      obtain ⟨x, hx⟩ : ∃ x, x = l[k] := ⟨_, rfl⟩
      rw [← hx] at ci hx12 HM
      clear hc hx
      by_cases h0 : 0 < x
      · obtain ⟨m, rfl, hm1, hm2, hp⟩ := part_pos x h0 hx12.2
        have hsh := shr_part m hm1 hm2
        have hp2 : 2 ^ (12 - m) ≤ 4096 := by have := part_le (m : Int); rw [hp] at this; exact this
        have HP := hideB hp
        clear hp
        generalize 2 ^ (12 - m) = pm at hsh hp2 HP
        go_wp2_with fail
        go_roundw
        case rel => exact ⟨k + 1, s + pm, by go_num, by go_num, by omega, by rw [HM.out, HP.out, HC.out], by omega, trivial⟩
        case measure => simp [intOf]; omega
      · have HP := hideB (part_none x h0)
        go_wp2_with fail
        go_roundw
        case rel => exact ⟨k + 1, s, by go_num, rfl, by omega, by rw [HM.out, HP.out, HC.out]; rfl, by omega, trivial⟩
        case measure => simp [intOf]; omega
    · have HE : Hid (s = csum l) := by
        unfold Hid
        rw [HC.out, List.take_of_length_le (by have := HLN.out; omega)]
      go_wp2_with fail
      go_ret
      exact ⟨by rw [← HE.out]; rfl, rfl⟩
set_option maxHeartbeats 1000000 in
theorem count_impl (l : List Int) (a : Option Addr) (cap B : Nat) (w : World) (hi : Ints w B a l) (hn : l.length ≤ 1048576) :
    Calls Tryz.prog 110 #[.slice a l.length cap] w fun e w' => e = .returned (.int .i64 (above l : Nat)) ∧ w' = w := by
  have HS := hideB hi
  clear hi
  obtain ⟨n, hln⟩ : ∃ n, n = l.length := ⟨_, rfl⟩
  have HLN := hideB hln
  rw [← hln] at hn ⊢
  clear hln
  go_enter Tryz.func110, Tryz.ntmps110
  go_wp2_with fail
  go_loopw [8, 3] (fun i v wr => ∃ k s : Nat, i = .int .i64 k ∧ v = .int .i64 s ∧ k ≤ n ∧ s = above (l.take k) ∧ s ≤ k ∧ wr = w) (fun i _ _ => n - (intOf i).toNat)
  case atStart => exact ⟨0, 0, rfl, rfl, Nat.zero_le _, by simp [above], by omega, rfl⟩
  case round =>
    obtain ⟨k, s, rfl, rfl, hk, hs, hsb, hw⟩ := hrel
    subst hw
    have HC := hideB hs
    clear hs
    by_cases hlt : k < n
    · have hkl : k < l.length := by rw [← HLN.out]; exact hlt
      obtain ⟨b, off, rfl, hb, hc⟩ := HS.out.some (by omega)
      have ci := hc k hkl
      have HM := hideB (above_more hkl)
      obtain ⟨x, hx⟩ : ∃ x, x = l[k] := ⟨_, rfl⟩
      rw [← hx] at ci HM
      clear hc hx
      by_cases h0 : 0 < x
      · have HM2 : Hid (above (l.take (k + 1)) = s + 1) := by
          unfold Hid
          rw [HM.out, if_pos h0, HC.out]
        go_wp2_with fail
        go_roundw
        case rel => exact ⟨k + 1, s + 1, by go_num, by go_num, by omega, HM2.out.symm, by omega, trivial⟩
        case measure => simp [intOf]; omega
      · have HM2 : Hid (above (l.take (k + 1)) = s) := by
          unfold Hid
          rw [HM.out, if_neg h0, HC.out]
          rfl
        go_wp2_with fail
        go_roundw
        case rel => exact ⟨k + 1, s, by go_num, rfl, by omega, HM2.out.symm, by omega, trivial⟩
        case measure => simp [intOf]; omega
    · have HE : Hid (s = above l) := by
        unfold Hid
        rw [HC.out, List.take_of_length_le (by have := HLN.out; omega)]
      go_wp2_with fail
      go_ret
      exact ⟨by rw [← HE.out]; rfl, rfl⟩
set_option maxHeartbeats 1000000 in
theorem index_impl (l : List Int) (y : Int) (a : Option Addr) (cap B : Nat) (w : World) (hi : Ints w B a l) (hn : l.length ≤ 1048576) :
    Calls Tryz.prog 238 #[.slice a l.length cap, .int .i64 y] w fun e w' => (∃ r : Int, e = .returned (.int .i64 r) ∧ Hid (l.contains y = decide (0 ≤ r))) ∧ w' = w := by
  have HS := hideB hi
  clear hi
  obtain ⟨n, hln⟩ : ∃ n, n = l.length := ⟨_, rfl⟩
  have HLN := hideB hln
  rw [← hln] at hn ⊢
  clear hln
  go_enter Tryz.func238, Tryz.ntmps238
  go_wp2_with fail
  go_loopw [8] (fun i wr => ∃ k : Nat, i = .int .i64 k ∧ k ≤ n ∧ (∀ j (hj : j < l.length), j < k → l[j] ≠ y) ∧ wr = w) (fun i _ => n - (intOf i).toNat)
  case atStart => exact ⟨0, rfl, Nat.zero_le _, fun j hj h0 => absurd h0 (Nat.not_lt_zero j), rfl⟩
  case round =>
    obtain ⟨k, rfl, hk, hall, hw⟩ := hrel
    subst hw
    have HA := hideB hall
    clear hall
    by_cases hlt : k < n
    · have hkl : k < l.length := by rw [← HLN.out]; exact hlt
      obtain ⟨b, off, rfl, hb, hc⟩ := HS.out.some (by omega)
      have ci := hc k hkl
      obtain ⟨x, hx⟩ : ∃ x, x = l[k] := ⟨_, rfl⟩
      have HX := hideB hx
      rw [← hx] at ci
      clear hc hx
      by_cases h0 : y = x
      · have hb : (y == x) = true := beq_iff_eq.2 h0
        have HE : Hid (l.contains y = true) := by
          unfold Hid
          rw [List.contains_iff_mem, h0, HX.out]
          exact List.getElem_mem hkl
        clear h0
        go_wp2_with fail
        go_ret
        exact ⟨⟨k, rfl, HE.out.trans (decide_eq_true (by omega)).symm⟩, rfl⟩
      · have hb : (y == x) = false := beq_eq_false_iff_ne.2 h0
        have HNE := hideB h0
        clear h0
        go_wp2_with fail
        go_roundw
        case rel =>
          refine ⟨k + 1, by go_num, by omega, fun j hj hjk => ?_, trivial⟩
          by_cases e : j = k
          · subst e
            rw [← HX.out]
            exact fun h => HNE.out h.symm
          · exact HA.out j hj (by omega)
        case measure => simp [intOf]; omega
    · have HE : Hid (l.contains y = false) := by
        unfold Hid
        rw [Bool.eq_false_iff, Ne, List.contains_iff_mem]
        intro hm
        obtain ⟨j, hj, e⟩ := List.getElem_of_mem hm
        exact HA.out j hj (by have := HLN.out; omega) e
      go_wp2_with fail
      go_ret
      exact ⟨⟨-1, rfl, HE.out⟩, rfl⟩
theorem contains_impl (l : List Int) (y : Int) (a : Option Addr) (cap B : Nat) (w : World) (hi : Ints w B a l) (hn : l.length ≤ 1048576) :
    Calls Tryz.prog 206 #[.slice a l.length cap, .int .i64 y] w fun e w' => e = .returned (.bool (l.contains y)) ∧ w' = w := by
  have HI := hideB (index_impl l y a cap B w hi hn)
  clear hi
  generalize l.length = n at HI hn ⊢
  generalize l.contains y = c at HI ⊢
  go_enter Tryz.func206, Tryz.ntmps206
  go_wp2_with fail
  refine HI.out.mono ?_
  rintro e w' ⟨⟨r, rfl, hr⟩, hw⟩
  subst w'
  by_cases h0 : 0 ≤ r
  · have HE : Hid (c = true) := hr.out.trans (decide_eq_true h0)
    clear hr
    go_wp2_with fail
    go_ret
    exact ⟨ret_boolB HE.out.symm, rfl⟩
  · have HE : Hid (c = false) := hr.out.trans (decide_eq_false h0)
    have HR := hideB hr.out
    clear hr
    go_wp2_with fail
    go_ret
    exact ⟨ret_boolB (by first | exact HE.out.symm | exact HR.out.symm), rfl⟩
set_option maxHeartbeats 1000000 in
theorem right_impl (l : List Int) (a : Option Addr) (cap B : Nat) (w : World) (hi : Ints w B a l) (hn : l.length ≤ 1048576) :
    Calls Tryz.prog 205 #[.slice a l.length cap] w fun e w' => e = .returned (.bool (right l)) ∧ w' = w := by
  have HW := hideB (within_impl l 12 a cap B w hi hn)
  cases hw : within l 12 with
  | false =>
    have HE := hideB (right_no (l := l) (Or.inl hw))
    rw [hw] at HW
    clear hi hw
    generalize l.length = n at HW hn ⊢
    go_enter Tryz.func205, Tryz.ntmps205
    go_wp2_with fail
    refine HW.out.mono ?_
    rintro e w' ⟨rfl, hw⟩
    subst w'
    go_wp2_with fail
    go_ret
    exact ⟨ret_boolB HE.out.symm, rfl⟩
  | true =>
    have HC := hideB (sum_impl l a cap B w hi hw)
    by_cases hs : csum l ≤ 4096
    · have HE := hideB (right_of hw hs)
      rw [hw] at HW
      clear hi hw
      generalize l.length = n at HW HC hn ⊢
      generalize csum l = c at HC hs
      have hs' : (c : Int) ≤ 4096 := by omega
      go_enter Tryz.func205, Tryz.ntmps205
      go_wp2_with fail
      refine HW.out.mono ?_
      rintro e w' ⟨rfl, hw⟩
      subst w'
      go_wp2_with fail
      refine HC.out.mono ?_
      rintro e w' ⟨rfl, hw⟩
      subst w'
      go_wp2_with fail
      go_ret
      exact ⟨ret_boolB HE.out.symm, rfl⟩
    · have HE := hideB (right_no (l := l) (Or.inr hs))
      rw [hw] at HW
      clear hi hw
      generalize l.length = n at HW HC hn ⊢
      generalize csum l = c at HC hs
      have hs' : decide ((c : Int) ≤ 4096) = false := decide_eq_false (by omega)
      go_enter Tryz.func205, Tryz.ntmps205
      go_wp2_with fail
      refine HW.out.mono ?_
      rintro e w' ⟨rfl, hw⟩
      subst w'
      go_wp2_with fail
      refine HC.out.mono ?_
      rintro e w' ⟨rfl, hw⟩
      subst w'
      go_wp2_with fail
      go_ret
      exact ⟨ret_boolB HE.out.symm, rfl⟩
end Go.Proofs.YtjdlgpnhkfdehaaGreatDoor.Bi


/- The walks of flatten and treesOf. -/
namespace Go.Proofs.YtjdlgpnhkfdehaaGreatDoor.Hf
open Go.RowKit
open Go.Proofs.YtjdlgpnhkfdehaaGreatDoor.In (IsI irow Ints made_ints)
theorem flat_next (c : List Nat) (j : Nat) (h : j < c.length) : ((flat c).take j ++ List.replicate (c.length - j) 0).set j (if 0 < c[j] then c[j] / 2 + 1 else 0) = (flat c).take (j + 1) ++ List.replicate (c.length - (j + 1)) 0 := by
  have hf : (flat c)[j]'(by rw [flat_length]; exact h) = if 0 < c[j] then c[j] / 2 + 1 else 0 := by
    unfold flat
    rw [List.getElem_map]
  rw [← hf]
  apply List.ext_getElem?
  intro i
  have hl : ((flat c).take j).length = j := by rw [List.length_take, flat_length]; omega
  have hl' : ((flat c).take (j + 1)).length = j + 1 := by rw [List.length_take, flat_length]; omega
  rw [List.getElem?_set]
  by_cases e : j = i
  · subst e
    rw [if_pos rfl, if_pos (by rw [List.length_append, hl, List.length_replicate]; omega), List.getElem?_append_left (by omega), List.getElem?_take_of_lt (by omega), List.getElem?_eq_getElem]
  · rw [if_neg e]
    by_cases hi : i < j
    · rw [List.getElem?_append_left (by omega), List.getElem?_append_left (by omega), List.getElem?_take_of_lt hi, List.getElem?_take_of_lt (by omega)]
    · rw [List.getElem?_append_right (by omega), List.getElem?_append_right (by omega), hl, hl', List.getElem?_replicate, List.getElem?_replicate]
      have : (i - j < c.length - j) = (i - (j + 1) < c.length - (j + 1)) := propext ⟨fun h => by omega, fun h => by omega⟩
      simp only [this]
def midF (c : List Nat) (j : Nat) : List Nat := (flat c).take j ++ List.replicate (c.length - j) 0
theorem midF_length (c : List Nat) (j : Nat) (h : j ≤ c.length) : (midF c j).length = c.length := by
  unfold midF
  rw [List.length_append, List.length_take, flat_length, List.length_replicate]
  omega
theorem midF_yes (c : List Nat) (j : Nat) (h : j < c.length) (h0 : 0 < c[j]) : (midF c j).set j (c[j] / 2 + 1) = midF c (j + 1) := by
  have := flat_next c j h
  rw [if_pos h0] at this
  exact this
theorem midF_no (c : List Nat) (j : Nat) (h : j < c.length) (h0 : ¬ 0 < c[j]) : midF c j = midF c (j + 1) := by
  have := flat_next c j h
  rw [if_neg h0] at this
  unfold midF
  rw [← this]
  apply List.ext_getElem?
  intro i
  rw [List.getElem?_set]
  by_cases e : j = i
  · subst e
    have hl : ((flat c).take j).length = j := by rw [List.length_take, flat_length]; omega
    rw [if_pos rfl, if_pos (by rw [List.length_append, hl, List.length_replicate]; omega), List.getElem?_append_right (by omega), hl, Nat.sub_self, List.getElem?_replicate, if_pos (by omega)]
  · rw [if_neg e]
theorem midF_zero (c : List Nat) : up (midF c 0) = List.replicate c.length 0 := by
  unfold midF up
  rw [List.take_zero, List.nil_append, Nat.sub_zero, List.map_replicate]
  rfl
theorem midF_all (c : List Nat) : midF c c.length = flat c := by
  unfold midF
  rw [Nat.sub_self, List.replicate_zero, List.append_nil, List.take_of_length_le (by rw [flat_length]; exact Nat.le_refl _)]
theorem up_get {c : List Nat} {W : World} {b off : Nat} (hc : ∀ j (h : j < (up c).length), W.cell? ⟨b, off + j, none⟩ = some (.int .i64 (up c)[j])) (j : Nat) (h : j < c.length) : W.cell? ⟨b, off + j, none⟩ = some (.int .i64 (c[j] : Nat)) := by
  rw [hc j (by rw [up_length]; exact h), up_at c j h, List.getD_eq_getElem?_getD, List.getElem?_eq_getElem h]
  rfl
set_option maxRecDepth 100000 in
set_option maxHeartbeats 1000000 in
theorem flat_any (a : Option Addr) (cap n : Nat) (c : List Nat) (w : World) (h : Ints w w.heap.size a (up c)) (hn : c.length = n) (h257 : n ≤ 257) (hm : ∀ x ∈ c, x ≤ 10000) :
    Calls Tryz.prog 161 #[.slice a n cap] w fun e w' => e = .returned (.slice (some ⟨w.heap.size, 0, none⟩) n n) ∧ IsI w' w.heap.size 2 (up (flat c)) ∧ Below w.heap.size w w' := by
  obtain ⟨i0, hi, hz0, hz1, hz2⟩ := info_parts In.Tryz.infoI2
  have HN := hideH hn
  have HS := hideH h
  have HM := hideH hm
  clear hn h hm
  go_enter Tryz.func161, Tryz.ntmps161
  go_wp2_with (at_make; refine wpList_make_full _ rfl (.tmp 7) (.tmp 7) 97 rfl w.heap.size 2 i0 (.int .i64 0) 1 Tryz.underlying97 hi hz0 hz1 .i64 .i64 _ _ n rfl rfl (by omega) (by omega) (by rw [hz2]; omega) (by unfold maxLen; omega) (Nat.le_refl _) ?_; intro w1 hown hgrow; have HI1 := hideH (made_ints hown); have HB1 := hideH ((Below.refl w.heap.size w).grown hgrow (Nat.le_refl _) (by simp)); clear hown hgrow)
  go_loopw [11, 4, 5] (fun iv _ _ wr => ∃ j : Nat, iv = .int .i64 j ∧ j ≤ n ∧ IsI wr w.heap.size 2 (up (midF c j)) ∧ Below w.heap.size w wr) (fun iv _ _ _ => n - (intOf iv).toNat)
  case atStart => exact ⟨0, rfl, Nat.zero_le _, by rw [midF_zero, HN.out]; exact HI1.out, HB1.out⟩
  case round =>
    obtain ⟨j, rfl, hj, hij, hbw⟩ := hrel
    have HIJ := hideH hij
    have HBW := hideH hbw
    clear hij hbw
    by_cases hlt : j < n
    · have hjc : j < c.length := by rw [HN.out]; exact hlt
      obtain ⟨b, off, rfl, hbz, hcl⟩ := HS.out.some (by rw [up_length]; omega)
      have ci : wr.cell? ⟨b, off + j, none⟩ = some (.int .i64 (c[j] : Nat)) := (HBW.out.cell (p := ⟨b, off + j, none⟩) hbz).trans (up_get hcl j hjc)
      have HY := hideH (midF_yes c j hjc)
      have HNO := hideH (midF_no c j hjc)
      have hcm := HM.out c[j] (List.getElem_mem hjc)
      have HML := hideH (midF_length c j (by omega))
      generalize c[j] = cj at ci HY HNO hcm
      clear hcl hjc
      by_cases h0 : 0 < cj
      · have h0' : (0 : Int) < (cj : Int) := by omega
        have cl : wr.cell? ⟨w.heap.size, j, none⟩ = some (.int .i64 ((midF c j).getD j 0 : Nat)) := by
          have hl : j < (midF c j).length := by rw [HML.out, HN.out]; exact hlt
          rw [HIJ.out.cell (j := j) (by rw [up_length]; exact hl), up_at _ _ hl]
        have zl := HIJ.out.frozen j
        have hq : (cj : Int).tdiv 2 = ((cj / 2 : Nat) : Int) := by rw [Int.tdiv_eq_ediv_of_nonneg (by omega)]; rfl
        generalize (midF c j).getD j 0 = old at cl
        go_wp2_with fail
        go_roundw
        case rel =>
          refine ⟨j + 1, by go_num, by omega, ?_, HBW.out.setCell (by simp) _⟩
          rw [← HY.out h0, ← up_set]
          exact HIJ.out.set j _
        case measure => simp [intOf]; omega
      · have h0' : cj = 0 := by omega
        subst h0'
        go_wp2_with fail
        go_roundw
        case rel => exact ⟨j + 1, by go_num, by omega, by rw [← HNO.out h0]; exact HIJ.out, HBW.out⟩
        case measure => simp [intOf]; omega
    · obtain rfl : j = n := by omega
      have HE : Hid (IsI wr w.heap.size 2 (up (flat c))) := by
        have := HIJ.out
        rw [← HN.out, midF_all] at this
        exact this
      go_wp2_with fail
      go_ret
      exact ⟨rfl, HE.out, HBW.out⟩
end Go.Proofs.YtjdlgpnhkfdehaaGreatDoor.Hf


/- The walk of treesOf. -/
namespace Go.Proofs.YtjdlgpnhkfdehaaGreatDoor.Hf
open Go.RowKit
open Go.Proofs.YtjdlgpnhkfdehaaGreatDoor.In (IsI irow Ints made_ints)
theorem two_new (W : World) (x y : Value) (t : TypeId) : ∀ (j : Nat) (u : Value), [x, y][j]? = some u → (W.alloc (.cells #[x, y] t)).cell? ((⟨W.heap.size, 0, none⟩ : Addr).add j) = some u := by
  intro j u hj
  match j, hj with
  | 0, hj => simp at hj; subst hj; simp [Addr.add]
  | 1, hj => simp at hj; subst hj; simp [Addr.add]
theorem two_one {x y : Value} (hx : x.oneCell' = true) (hy : y.oneCell' = true) : ∀ u ∈ [x, y], u.oneCell' = true := by
  intro u hu
  simp at hu
  rcases hu with rfl | rfl
  · exact hx
  · exact hy
theorem Keeps.grown {W W' : World} {row : Option Nat} (h : W.grownBy W' row) (hr : ∀ k, row = some k → ∃ cs t, W.heap[k]? = some (.cells cs t (0, 0)) ∧ t ≠ 3) : Keeps W W' := fun g cur e => by
  rw [h.block g (lt_row e) (by
    intro hg
    obtain ⟨cs, t, hk, ht⟩ := hr g hg.symm
    rw [hk] at e
    simp at e
    exact ht e.2)]
  exact e
theorem OwnT.rowT {W : World} {e : TypeId} {base : Nat} {v : Value} {m : List MT} (h : OwnT W e base v m) (he : e ≠ 3) : ∀ k, v.ownBlock = some k → ∃ cs t, W.heap[k]? = some (.cells cs t (0, 0)) ∧ t ≠ 3 := by
  intro k hk
  obtain ⟨_, h⟩ := h
  rcases h with ⟨h, _⟩ | ⟨g, cap, cur, hv, _, hb, _⟩
  · subst h
    simp [Value.ownBlock] at hk
  · subst hv
    simp [Value.ownBlock] at hk
    subst hk
    exact ⟨cur, e, hb, he⟩
theorem OwnT.alloc {W : World} {e : TypeId} {base : Nat} {v : Value} {m : List MT} (h : OwnT W e base v m) (o : Obj) : OwnT (W.alloc o) e base v m := World.ownsRow.alloc h o
theorem OwnT.snoc {W : World} {e : TypeId} {base : Nat} {v : Value} {m : List MT} {x : MT} (h : W.ownsRow base e 2 v (m.length + 1) (cells m ++ [.int .i64 (x.1.1 : Nat), x.2])) : OwnT W e base v (m ++ [x]) := by
  unfold OwnT
  rw [List.length_append, cells_append]
  exact h
theorem Sym.one (W : World) (j : Nat) : Sym (W.alloc (.cells #[.int .i64 (j : Nat)] 3)) (.slice (some ⟨W.heap.size, 0, none⟩) 1 1) [j] :=
  ⟨W.heap.size, 1, _, rfl, heap_alloc_new W _, Nat.le_refl _, fun i hi => by
    have : i = 0 := by simpa using hi
    subst this
    rfl⟩
theorem trees_yes (c : List Nat) (j : Nat) (h : j < c.length) (h0 : 0 < c[j]) : trees c (j + 1) = trees c j ++ [(c[j], [j])] := by
  have : c.getD j 0 = c[j] := by rw [List.getD_eq_getElem?_getD, List.getElem?_eq_getElem h]; rfl
  rw [trees, this, if_pos h0]
theorem trees_no (c : List Nat) (j : Nat) (h : j < c.length) (h0 : ¬ 0 < c[j]) : trees c (j + 1) = trees c j := by
  have : c.getD j 0 = c[j] := by rw [List.getD_eq_getElem?_getD, List.getElem?_eq_getElem h]; rfl
  rw [trees, this, if_neg h0]
set_option maxRecDepth 100000 in
set_option maxHeartbeats 1000000 in
theorem treesOf_any (a : Option Addr) (cap n : Nat) (c : List Nat) (w : World) (h : Ints w w.heap.size a (up c)) (hn : c.length = n) (h257 : n ≤ 257) :
    Calls Tryz.prog 202 #[.slice a n cap] w fun e w' => ∃ v m, e = .returned v ∧ mt m = trees c n ∧ OwnT w' 216 w.heap.size v m ∧ Syms w' m ∧ Below w.heap.size w w' := by
  obtain ⟨i0, hi, hz0, hz1, hz2⟩ := info_parts Tryz.infoTree
  have HN := hideH hn
  have HS := hideH h
  clear hn h
  go_enter Tryz.func202, Tryz.ntmps202
  go_wp2_with fail
  go_loopw [8, 3, 4, 5] (fun iv tv _ _ wr => ∃ (j : Nat) (m : List MT), iv = .int .i64 j ∧ j ≤ n ∧ mt m = trees c j ∧ OwnT wr 216 w.heap.size tv m ∧ Syms wr m ∧ Below w.heap.size w wr) (fun iv _ _ _ _ => n - (intOf iv).toNat)
  case atStart => exact ⟨0, [], rfl, Nat.zero_le _, rfl, World.ownsRow_nil _ _ _ _, fun x hx => absurd hx (List.not_mem_nil), Below.refl _ _⟩
  case round =>
    obtain ⟨j, m, rfl, hj, hm, ho, hy, hbw⟩ := hrel
    have HM := hideH hm
    have HO := hideH ho
    have HY := hideH hy
    have HBW := hideH hbw
    have hwz := hbw.size
    have hml : m.length ≤ j := by rw [← mt_length, hm]; exact trees_length c j
    clear hm ho hy hbw
    by_cases hlt : j < n
    · have hjc : j < c.length := by rw [HN.out]; exact hlt
      obtain ⟨b, off, rfl, hbz, hcl⟩ := HS.out.some (by rw [up_length]; omega)
      have ci : wr.cell? ⟨b, off + j, none⟩ = some (.int .i64 (c[j] : Nat)) := (HBW.out.cell (p := ⟨b, off + j, none⟩) hbz).trans (up_get hcl j hjc)
      have HT1 := hideH (trees_yes c j hjc)
      have HT0 := hideH (trees_no c j hjc)
      generalize c[j] = cj at ci HT1 HT0
      clear hcl hjc
      by_cases h0 : 0 < cj
      · have h0' : (0 : Int) < (cj : Int) := by omega
        go_wp2_with (at_builtin; refine wpList_append_own _ rfl (.tmp 15) (.tmp 20) 212 rfl w.heap.size 216 i0 _ 2 32 Tryz.underlying212 hi hz0 hz1 hz2 rfl (by decide) _ _ _ rfl ((HO.out.alloc _).alloc _) ⟨wr.heap.size + 1, 0, none⟩ 1 1 [.int .i64 (cj : Nat), .slice (some ⟨wr.heap.size, 0, none⟩) 1 1] rfl rfl ?c1 (two_one rfl rfl) (by unfold maxLen; omega) (by omega) (by simp; omega) ?_)
        case c1 =>
          have := two_new (wr.alloc (.cells #[.int .i64 (j : Nat)] 3)) (.int .i64 (cj : Nat)) (.slice (some ⟨wr.heap.size, 0, none⟩) 1 1) 216
          simpa using this
        intro v' w2 hown hgrow _
        have HO2 := hideH (OwnT.snoc (x := ((cj, [j]), .slice (some ⟨wr.heap.size, 0, none⟩) 1 1)) hown)
        have HB2 : Hid (Below w.heap.size w w2) := by
          refine ((HBW.out.alloc hwz _).alloc (by simp; omega) _).grown hgrow (by simp; omega) ?_
          intro k hk
          exact (World.ownsRow.lt HO.out k hk).1
        have hk1 : Keeps wr (wr.alloc (.cells #[.int .i64 (j : Nat)] 3)) := Keeps.below ((Below.refl _ _).alloc (Nat.le_refl _) _)
        have hk2 := hk1.trans (Keeps.below ((Below.refl _ (wr.alloc (.cells #[.int .i64 (j : Nat)] 3))).alloc (Nat.le_refl _) (.cells #[.int .i64 (cj : Nat), .slice (some ⟨wr.heap.size, 0, none⟩) 1 1] 216)))
        have hk3 := Keeps.grown hgrow (((HO.out.alloc _).alloc _).rowT (by decide))
        have HY2 : Hid (Syms w2 (m ++ [((cj, [j]), .slice (some ⟨wr.heap.size, 0, none⟩) 1 1)])) := by
          intro x hx
          rcases List.mem_append.1 hx with hx | hx
          · exact (HY.out x hx).keeps (hk2.trans hk3)
          · rw [List.mem_singleton.1 hx]
            exact ((Sym.one wr j).keeps (Keeps.below ((Below.refl _ _).alloc (Nat.le_refl _) _))).keeps hk3
        clear hown hgrow hk1 hk2 hk3
        go_wp2_with fail
        go_roundw
        case rel => exact ⟨j + 1, m ++ [((cj, [j]), .slice (some ⟨wr.heap.size, 0, none⟩) 1 1)], by go_num, by omega, by rw [HT1.out h0, ← HM.out]; unfold mt; rw [List.map_append]; rfl, HO2.out, HY2.out, HB2.out⟩
        case measure => simp [intOf]; omega
      · have h0' : cj = 0 := by omega
        subst h0'
        go_wp2_with fail
        go_roundw
        case rel => exact ⟨j + 1, m, by go_num, by omega, by rw [HT0.out h0]; exact HM.out, HO.out, HY.out, HBW.out⟩
        case measure => simp [intOf]; omega
    · obtain rfl : j = n := by omega
      go_wp2_with fail
      go_ret
      exact ⟨_, m, rfl, HM.out, HO.out, HY.out, HBW.out⟩
end Go.Proofs.YtjdlgpnhkfdehaaGreatDoor.Hf

