/- Texts put together: IntArg, BitWalks, WholeWalks, HuFlat. -/
import Derived.Test.YtjdlgpnhkfdehaaGreatDoorBu1
import Derived.Test.YtjdlgpnhkfdehaaGreatDoorBu6
import Derived.Test.YtjdlgpnhkfdehaaGreatDoorChecked
import Derived.Test.YtjdlgpnhkfdehaaGreatDoorBu5
/- A slice of numbers that came in. -/
namespace Go.Proofs.YtjdlgpnhkfdehaaGreatDoor.In
open Go.RowKit
def IsNums (w : World) (a : Option Addr) (len cap : Nat) (zs : List Int) : Prop :=
  (a = none ∧ len = 0 ∧ cap = 0 ∧ zs = []) ∨
  ∃ x, a = some x ∧ len ≤ cap ∧ cap ≤ maxLen ∧ zs.length = cap ∧ (∀ i, i < zs.length → w.cell? (x.add i) = some (.int .i64 (zs.getD i 0))) ∧ ∀ n ∈ zs, (Lit.int .i64 n).wf = true
def Wf (l : List Int) : Prop := ∀ n ∈ l, -9223372036854775808 ≤ n ∧ n ≤ 9223372036854775807
end Go.Proofs.YtjdlgpnhkfdehaaGreatDoor.In


/- The walks of both BitsOf. -/
namespace Go.Proofs.YtjdlgpnhkfdehaaGreatDoor.Bi
open Go.RowKit
open Go.Proofs.YtjdlgpnhkfdehaaGreatDoor.Sh
open Go.Proofs.YtjdlgpnhkfdehaaGreatDoor.Nu (ret_strJ)
theorem i64_and1 (n : Int) : bits .and .i64 n 1 = n % 2 := by
  have h1 : (BitVec.ofInt 64 1).toNat = 2 ^ 1 - 1 := by decide
  have key : (BitVec.ofInt 64 n &&& BitVec.ofInt 64 1).toNat = (n % ((2 ^ 64 : Nat) : Int)).toNat % 2 ^ 1 := by
    rw [BitVec.toNat_and, BitVec.toNat_ofInt, h1, Nat.and_two_pow_sub_one_eq_mod]
  show IntKind.i64.wrap ((BitVec.ofInt 64 n &&& BitVec.ofInt 64 1).toNat : Nat) = n % 2
  rw [key, IntKind.wrap_i64]
  omega
theorem div_cast (n p : Nat) : (n : Int) / 2 ^ p = ((n / 2 ^ p : Nat) : Int) := by simp
theorem bit_and (n p : Nat) : (48 + bits BinOp.and IntKind.i64 ((n : Int) / 2 ^ p) 1 % 256) % 256 = ((bitB n p : Nat) : Int) := by
  rw [i64_and1, div_cast]
  unfold bitB
  omega
theorem ret_boolB {a b : Bool} (h : a = b) : Ending.returned (.bool a) = .returned (.bool b) := by rw [h]
theorem ret_u8 {a b : Int} (h : a = b) : Ending.returned (.int .u8 a) = .returned (.int .u8 b) := by rw [h]
set_option maxHeartbeats 400000 in
theorem bitOf_any (n p : Nat) (w : World) (hp : p ≤ 63) :
    Calls Tryz.prog 239 #[.int .i64 n, .int .i64 p] w fun e w' => e = .returned (.int .u8 (bitB n p : Nat)) ∧ w' = w := by
  have HB := hideB (bit_and n p)
  go_enter Tryz.func239, Tryz.ntmps239
  go_wp2_with fail
  go_ret
  exact ⟨ret_u8 HB.out, rfl⟩
set_option maxHeartbeats 400000 in
theorem pow_any (k : Nat) (w : World) (hk : k ≤ 20) :
    Calls Tryz.prog 223 #[.int .i64 k] w fun e w' => e = .returned (.int .i64 ((2 ^ k : Nat) : Int)) ∧ w' = w := by
  go_enter Tryz.func223, Tryz.ntmps223
  go_wp2_with fail
  go_loopw [0, 3] (fun i v wr => ∃ j m : Nat, i = .int .i64 j ∧ v = .int .i64 m ∧ j ≤ k ∧ m * 2 ^ j = 2 ^ k ∧ m ≤ 1048576 ∧ wr = w) (fun i _ _ => (intOf i).toNat)
  case atStart => exact ⟨k, 1, rfl, rfl, by omega, by omega, by omega, rfl⟩
  case round =>
    obtain ⟨j, m, rfl, rfl, hj, hm, hmb, hw⟩ := hrel
    subst hw
    have HM := hideB hm
    clear hm
    by_cases h0 : 0 < j
    · have HN : Hid (2 * m * 2 ^ (j - 1) = 2 ^ k) := by
        unfold Hid
        rw [← HM.out]
        obtain ⟨i, rfl⟩ : ∃ i, j = i + 1 := ⟨j - 1, by omega⟩
        rw [Nat.pow_succ]
        simp only [Nat.add_sub_cancel]
        rw [Nat.mul_comm 2 m, Nat.mul_assoc, Nat.mul_comm 2 (2 ^ i)]
      have hmb2 : 2 * m ≤ 1048576 := by
        have h1 := HN.out
        have h2 := pow20 k hk
        have h3 : 2 * m * 1 ≤ 2 * m * 2 ^ (j - 1) := Nat.mul_le_mul_left _ (Nat.pow_pos (by decide))
        omega
      go_wp2_with fail
      go_roundw
      case rel => exact ⟨j - 1, 2 * m, by go_num, by go_num, by omega, HN.out, hmb2, trivial⟩
      case measure => simp [intOf]; omega
    · obtain rfl : j = 0 := by omega
      have HE : Hid (m = 2 ^ k) := by
        unfold Hid
        have := HM.out
        omega
      go_wp2_with fail
      go_ret
      exact ⟨by rw [← HE.out]; rfl, rfl⟩
theorem is_yes (n a b : Int) (w : World) (h1 : a ≤ n) (h2 : n ≤ b) :
    Calls Tryz.prog 91 #[.int .i64 n, .int .i64 a, .int .i64 b] w fun e w' => e = .returned (.bool true) ∧ w' = w := by
  go_enter Tryz.func91, Tryz.ntmps91
  go_wp2_with fail
  go_ret
  exact ⟨rfl, rfl⟩
theorem is_no (n a b : Int) (w : World) (h : n < a ∨ b < n) :
    Calls Tryz.prog 91 #[.int .i64 n, .int .i64 a, .int .i64 b] w fun e w' => e = .returned (.bool false) ∧ w' = w := by
  by_cases h1 : a ≤ n
  · have h2 : ¬ n ≤ b := by omega
    clear h
    go_enter Tryz.func91, Tryz.ntmps91
    go_wp2_with fail
    go_ret
    exact ⟨rfl, rfl⟩
  · clear h
    go_enter Tryz.func91, Tryz.ntmps91
    go_wp2_with fail
    go_ret
    exact ⟨rfl, rfl⟩
set_option maxRecDepth 100000 in
set_option maxHeartbeats 1000000 in
theorem bits_spec (n m : Nat) (w : World) (hn : n ≤ 1048576) (h1 : 1 ≤ m) (h2 : m ≤ 20) :
    Calls Tryz.prog 249 #[.int .i64 n, .int .i64 m] w fun e w' => e = .returned (.string (bitsV n m)) ∧ Below w.heap.size w w' := by
  obtain ⟨i0, hi, hz0, hz1, hz2⟩ := info_parts Nu.Tryz.infoJ5
  go_enter Tryz.func249, Tryz.ntmps249
  go_wp2_with (at_make; refine wpList_make_full _ rfl (.tmp 7) (.tmp 7) 22 rfl w.heap.size 5 i0 (.int .u8 0) 1 Tryz.underlying22 hi hz0 hz1 .i64 .i64 _ _ m rfl rfl (by simp) (by simp) (by rw [hz2]; omega) (by unfold maxLen; omega) (Nat.le_refl _) ?_; intro w1 hown1 hgrow1; have HR := hideB (made_row hown1); have HB := hideB ((Below.refl w.heap.size w).grown hgrow1 (Nat.le_refl _) (by simp)); clear hown1 hgrow1)
  go_loopw [6, 0] (fun i v wr => ∃ k q : Nat, i = .int .i64 ((m : Int) - 1 - k) ∧ v = .int .i64 q ∧ k ≤ m ∧ q = n / 2 ^ k ∧ IsB wr w.heap.size 5 .u8 m (fun j => (dnK n m k j : Nat)) ∧ Below w.heap.size w wr) (fun i _ _ => ((intOf i) + 1).toNat)
  case atStart =>
    exact ⟨0, n, by go_num, rfl, by omega, by simp, IsB.congr HR.out (fun j hj => by rw [dnK_zero n m j hj]; rfl), HB.out⟩
  case round =>
    obtain ⟨k, q, rfl, rfl, hk, hq, hr, hbel⟩ := hrel
    have hqn : q ≤ 1048576 := by have := Nat.div_le_self n (2 ^ k); omega
    have HQ := hideB hq
    have HR2 := hideB hr
    clear hq
    by_cases hlt : k < m
    · obtain ⟨p, hp⟩ : ∃ p : Nat, p = m - 1 - k := ⟨_, rfl⟩
      have hpi : (m : Int) - 1 - k = p := by omega
      have ce := hr.cell (j := p) (by omega)
      have cf := hr.frozen p
      have HV : Hid (((48 + (q : Int) % 2) % 256) = ((bitB n k : Nat) : Int)) := by
        unfold Hid bitB
        rw [HQ.out]
        omega
      have HN : Hid (q / 2 = n / 2 ^ (k + 1)) := by
        unfold Hid
        rw [HQ.out, half_pow]
      have HP := hideB hp
      rw [hpi]
      clear hr hp
      go_wp2_with fail
      go_roundw
      case rel =>
        refine ⟨k + 1, q / 2, by go_num, by go_num, by omega, HN.out, ?_, hbel.setCell (Nat.le_refl _) _⟩
        refine IsB.congr (HR2.out.set p _) (fun j hj => ?_)
        rw [HP.out]
        exact dnK_next n m k j _ hlt hj (by first | exact HV.out | (rw [← HV.out]; omega))
      case measure => simp [intOf]
    · obtain rfl : k = m := by omega
      have hcv := hr.str (P := Tryz.prog) (src := 22) (dst := 9) k k (Nat.le_refl _) (fun j _ => dnK_lt n k k j) Tryz.underlying22 Tryz.underlying5 Tryz.underlying9
      rw [dnK_all] at hcv
      clear hr
      go_wp2_with fail
      go_ret
      exact ⟨rfl, hbel⟩
set_option maxRecDepth 100000 in
set_option maxHeartbeats 1000000 in
theorem bitsOf_yes (n m : Nat) (w : World) (h1 : 1 ≤ m) (h2 : m ≤ 20) (h3 : n < 2 ^ m) :
    Calls Tryz.prog 208 #[.int .i64 n, .int .i64 m] w fun e w' => e = .returned (.string (bitsV n m)) ∧ Below w.heap.size w w' := by
  obtain ⟨i0, hi, hz0, hz1, hz2⟩ := info_parts Nu.Tryz.infoJ5
  have hp20 := pow20 m h2
  have hcast : ((2 ^ m : Nat) : Int) = (2 : Int) ^ m := by simp
  have h4 : ¬ ((2 : Int) ^ m ≤ n) := by omega
  have h5 : (2 : Int) ^ m ≤ 1048576 := by omega
  have h6 : (0 : Int) < (2 : Int) ^ m := by have := Nat.pow_pos (n := m) (a := 2) (by decide); omega
  clear h3 hcast hp20
  go_enter Tryz.func208, Tryz.ntmps208
  go_wp2_with (at_make; refine wpList_make_full _ rfl (.tmp 23) (.tmp 23) 22 rfl w.heap.size 5 i0 (.int .u8 0) 1 Tryz.underlying22 hi hz0 hz1 .i64 .i64 _ _ m rfl rfl (by simp) (by simp) (by rw [hz2]; omega) (by unfold maxLen; omega) (Nat.le_refl _) ?_; intro w1 hown1 hgrow1; have HR := hideB (made_row hown1); have HB := hideB ((Below.refl w.heap.size w).grown hgrow1 (Nat.le_refl _) (by simp)); clear hown1 hgrow1)
  go_loopw [26] (fun i wr => ∃ k : Nat, i = .int .i64 k ∧ k ≤ m ∧ IsB wr w.heap.size 5 .u8 m (fun j => (upK n m k j : Nat)) ∧ Below w.heap.size w wr) (fun i _ => m - (intOf i).toNat)
  case atStart => exact ⟨0, rfl, by omega, IsB.congr HR.out (fun j hj => by rw [upK_zero]; rfl), HB.out⟩
  case round =>
    obtain ⟨k, rfl, hk, hr, hbel⟩ := hrel
    have HR2 := hideB hr
    by_cases hlt : k < m
    · have ce := hr.cell (j := k) (by omega)
      have cf := hr.frozen k
      obtain ⟨p, hp⟩ : ∃ p : Nat, p = m - 1 - k := ⟨_, rfl⟩
      have hpi : (m : Int) - 1 - k = p := by omega
      have HO := hideB (bitOf_any n p wr (by omega))
      have HP := hideB hp
      have HV : Hid (((bitB n p : Nat) : Int) = ((bitB n (m - 1 - k) : Nat) : Int)) := by
        unfold Hid
        rw [HP.out]
      clear hr hp
      go_wp2_with fail
      refine HO.out.mono ?_
      rintro e w' ⟨rfl, hw⟩
      subst w'
      go_wp2_with fail
      go_roundw
      case rel =>
        exact ⟨k + 1, by go_num, by omega, IsB.congr (HR2.out.set k _) (fun j hj => upK_next n m k j _ HV.out), hbel.setCell (Nat.le_refl _) _⟩
      case measure => simp [intOf]; omega
    · obtain rfl : k = m := by omega
      have hcv := hr.str (P := Tryz.prog) (src := 22) (dst := 9) k k (Nat.le_refl _) (fun j _ => upK_lt n k k j) Tryz.underlying22 Tryz.underlying5 Tryz.underlying9
      rw [upK_all] at hcv
      clear hr
      go_wp2_with fail
      go_ret
      exact ⟨rfl, hbel⟩
end Go.Proofs.YtjdlgpnhkfdehaaGreatDoor.Bi


/- The walks of the program's own helpers on lengths. -/
namespace Go.Proofs.YtjdlgpnhkfdehaaGreatDoor.Bi
open Go.RowKit
open Go.Proofs.YtjdlgpnhkfdehaaGreatDoor.In (Ints)
open Go.Proofs.YtjdlgpnhkfdehaaGreatDoor.Ze (upTo upTo_yes upTo_of upTo_bad)
set_option maxHeartbeats 1000000 in
theorem upTo_impl (l : List Int) (m : Int) (a : Option Addr) (cap B : Nat) (w : World) (hi : Ints w B a l) (hn : l.length ≤ 1048576) :
    Calls Tryz.prog 155 #[.slice a l.length cap, .int .i64 m] w fun e w' => e = .returned (.bool (upTo l m)) ∧ w' = w := by
  have HS := hideB hi
  clear hi
  obtain ⟨n, hln⟩ : ∃ n, n = l.length := ⟨_, rfl⟩
  have HLN := hideB hln
  rw [← hln] at hn ⊢
  clear hln
  go_enter Tryz.func155, Tryz.ntmps155
  go_wp2_with fail
  go_loopw [9] (fun i wr => ∃ k : Nat, i = .int .i64 k ∧ k ≤ n ∧ (∀ j (hj : j < l.length), j < k → 0 ≤ l[j] ∧ l[j] ≤ m) ∧ wr = w) (fun i _ => n - (intOf i).toNat)
  case atStart => exact ⟨0, rfl, Nat.zero_le _, fun j hj h0 => absurd h0 (Nat.not_lt_zero j), rfl⟩
  case round =>
    obtain ⟨k, rfl, hk, hall, hw⟩ := hrel
    subst hw
    have HA := hideB hall
    clear hall
    by_cases hlt : k < n
    · have hkl : k < l.length := by rw [← HLN.out]; exact hlt
      obtain ⟨b, off, rfl, hb, hc⟩ := HS.out.some (by omega)
      have ci := hc k hkl
      obtain ⟨x, hx⟩ : ∃ x, x = l[k] := ⟨_, rfl⟩
      have HX := hideB hx
      rw [← hx] at ci
      clear hc hx
      by_cases h0 : x < 0
      · have HE := hideB (upTo_bad (m := m) hkl (by rw [← HX.out]; exact Or.inl h0))
        go_wp2_with fail
        go_ret
        exact ⟨ret_boolB HE.out.symm, rfl⟩
      · by_cases h1 : m < x
        · have HE := hideB (upTo_bad (m := m) hkl (by rw [← HX.out]; exact Or.inr h1))
          have hd0 : decide (x < 0) = false := decide_eq_false h0
          go_wp2_with fail
          go_ret
          exact ⟨ret_boolB HE.out.symm, rfl⟩
        · have hd0 : decide (x < 0) = false := decide_eq_false h0
          have hd1 : decide (m < x) = false := decide_eq_false h1
          go_wp2_with fail
          go_roundw
          case rel =>
            refine ⟨k + 1, by go_num, by omega, fun j hj hjk => ?_, trivial⟩
            by_cases e : j = k
            · subst e
              rw [← HX.out]
              omega
            · exact HA.out j hj (by omega)
          case measure => simp [intOf]; omega
    · have HE : Hid (upTo l m = true) := upTo_of (fun x hx => by
        obtain ⟨j, hj, rfl⟩ := List.getElem_of_mem hx
        exact HA.out j hj (by have := HLN.out; omega))
      go_wp2_with fail
      go_ret
      exact ⟨ret_boolB HE.out.symm, rfl⟩
theorem within_upTo {l : List Int} {m : Int} (h : l.length ≤ 257) : within l m = upTo l m := by
  unfold within upTo
  exact decide_eq_decide.2 ⟨fun x => x.2, fun x => ⟨h, x⟩⟩
set_option maxHeartbeats 1000000 in
theorem within_impl (l : List Int) (m : Int) (a : Option Addr) (cap B : Nat) (w : World) (hi : Ints w B a l) (hn : l.length ≤ 1048576) :
    Calls Tryz.prog 159 #[.slice a l.length cap, .int .i64 m] w fun e w' => e = .returned (.bool (within l m)) ∧ w' = w := by
  by_cases hlong : 257 < l.length
  · have HE := hideB (within_long (l := l) (m := m) hlong)
    clear hi
    generalize l.length = n at hlong hn ⊢
    have hd : decide ((n : Int) ≤ 257) = false := decide_eq_false (by omega)
    go_enter Tryz.func159, Tryz.ntmps159
    go_wp2_with fail
    go_ret
    exact ⟨ret_boolB HE.out.symm, rfl⟩
  · have HU := hideB (upTo_impl l m a cap B w hi hn)
    have HE := hideB (within_upTo (m := m) (show l.length ≤ 257 by omega))
    clear hi
    generalize l.length = n at hlong hn HU ⊢
    generalize upTo l m = u at HU HE
    have hd : (n : Int) ≤ 257 := by omega
    go_enter Tryz.func159, Tryz.ntmps159
    go_wp2_with fail
    refine HU.out.mono ?_
    rintro e w' ⟨rfl, hw⟩
    subst w'
    go_wp2_with fail
    go_ret
    exact ⟨ret_boolB HE.out.symm, rfl⟩
theorem part_pos (x : Int) (h0 : 0 < x) (h2 : x ≤ 12) : ∃ n : Nat, x = n ∧ 1 ≤ n ∧ n ≤ 12 ∧ part x = 2 ^ (12 - n) := ⟨x.toNat, by omega, by omega, by omega, by unfold part; rw [if_pos h0]⟩
theorem part_none (x : Int) (h0 : ¬ 0 < x) : part x = 0 := if_neg h0
set_option maxHeartbeats 1000000 in
theorem sum_impl (l : List Int) (a : Option Addr) (cap B : Nat) (w : World) (hi : Ints w B a l) (hr : within l 12 = true) :
    Calls Tryz.prog 207 #[.slice a l.length cap] w fun e w' => e = .returned (.int .i64 (csum l : Nat)) ∧ w' = w := by
  have HS := hideB hi
  have HW := hideB (within_yes hr).2
  have hn := (within_yes hr).1
  clear hi hr
  obtain ⟨n, hln⟩ : ∃ n, n = l.length := ⟨_, rfl⟩
  have HLN := hideB hln
  rw [← hln] at hn ⊢
  clear hln
  go_enter Tryz.func207, Tryz.ntmps207
  go_wp2_with fail
  go_loopw [8, 3] (fun i v wr => ∃ k s : Nat, i = .int .i64 k ∧ v = .int .i64 s ∧ k ≤ n ∧ s = csum (l.take k) ∧ s ≤ 4096 * k ∧ wr = w) (fun i _ _ => n - (intOf i).toNat)
  case atStart => exact ⟨0, 0, rfl, rfl, Nat.zero_le _, by simp [csum], by omega, rfl⟩
  case round =>
    obtain ⟨k, s, rfl, rfl, hk, hs, hsb, hw⟩ := hrel
    subst hw
    have HC := hideB hs
    clear hs
    by_cases hlt : k < n
    · have hkl : k < l.length := by rw [← HLN.out]; exact hlt
      obtain ⟨b, off, rfl, hb, hc⟩ := HS.out.some (by omega)
      have ci := hc k hkl
      have HM := hideB (csum_more hkl)
      have hx12 := HW.out _ (List.getElem_mem hkl)
      obtain ⟨x, hx⟩ : ∃ x, x = l[k] := ⟨_, rfl⟩
      rw [← hx] at ci hx12 HM
      clear hc hx
      by_cases h0 : 0 < x
      · obtain ⟨m, rfl, hm1, hm2, hp⟩ := part_pos x h0 hx12.2
        have hsh := shr_part m hm1 hm2
        have hp2 : 2 ^ (12 - m) ≤ 4096 := by have := part_le (m : Int); rw [hp] at this; exact this
        have HP := hideB hp
        clear hp
        generalize 2 ^ (12 - m) = pm at hsh hp2 HP
        go_wp2_with fail
        go_roundw
        case rel => exact ⟨k + 1, s + pm, by go_num, by go_num, by omega, by rw [HM.out, HP.out, HC.out], by omega, trivial⟩
        case measure => simp [intOf]; omega
      · have HP := hideB (part_none x h0)
        go_wp2_with fail
        go_roundw
        case rel => exact ⟨k + 1, s, by go_num, rfl, by omega, by rw [HM.out, HP.out, HC.out]; rfl, by omega, trivial⟩
        case measure => simp [intOf]; omega
    · have HE : Hid (s = csum l) := by
        unfold Hid
        rw [HC.out, List.take_of_length_le (by have := HLN.out; omega)]
      go_wp2_with fail
      go_ret
      exact ⟨by rw [← HE.out]; rfl, rfl⟩
set_option maxHeartbeats 1000000 in
theorem count_impl (l : List Int) (a : Option Addr) (cap B : Nat) (w : World) (hi : Ints w B a l) (hn : l.length ≤ 1048576) :
    Calls Tryz.prog 110 #[.slice a l.length cap] w fun e w' => e = .returned (.int .i64 (above l : Nat)) ∧ w' = w := by
  have HS := hideB hi
  clear hi
  obtain ⟨n, hln⟩ : ∃ n, n = l.length := ⟨_, rfl⟩
  have HLN := hideB hln
  rw [← hln] at hn ⊢
  clear hln
  go_enter Tryz.func110, Tryz.ntmps110
  go_wp2_with fail
  go_loopw [8, 3] (fun i v wr => ∃ k s : Nat, i = .int .i64 k ∧ v = .int .i64 s ∧ k ≤ n ∧ s = above (l.take k) ∧ s ≤ k ∧ wr = w) (fun i _ _ => n - (intOf i).toNat)
  case atStart => exact ⟨0, 0, rfl, rfl, Nat.zero_le _, by simp [above], by omega, rfl⟩
  case round =>
    obtain ⟨k, s, rfl, rfl, hk, hs, hsb, hw⟩ := hrel
    subst hw
    have HC := hideB hs
    clear hs
    by_cases hlt : k < n
    · have hkl : k < l.length := by rw [← HLN.out]; exact hlt
      obtain ⟨b, off, rfl, hb, hc⟩ := HS.out.some (by omega)
      have ci := hc k hkl
      have HM := hideB (above_more hkl)
      obtain ⟨x, hx⟩ : ∃ x, x = l[k] := ⟨_, rfl⟩
      rw [← hx] at ci HM
      clear hc hx
      by_cases h0 : 0 < x
      · have HM2 : Hid (above (l.take (k + 1)) = s + 1) := by
          unfold Hid
          rw [HM.out, if_pos h0, HC.out]
        go_wp2_with fail
        go_roundw
        case rel => exact ⟨k + 1, s + 1, by go_num, by go_num, by omega, HM2.out.symm, by omega, trivial⟩
        case measure => simp [intOf]; omega
      · have HM2 : Hid (above (l.take (k + 1)) = s) := by
          unfold Hid
          rw [HM.out, if_neg h0, HC.out]
          rfl
        go_wp2_with fail
        go_roundw
        case rel => exact ⟨k + 1, s, by go_num, rfl, by omega, HM2.out.symm, by omega, trivial⟩
        case measure => simp [intOf]; omega
    · have HE : Hid (s = above l) := by
        unfold Hid
        rw [HC.out, List.take_of_length_le (by have := HLN.out; omega)]
      go_wp2_with fail
      go_ret
      exact ⟨by rw [← HE.out]; rfl, rfl⟩
set_option maxHeartbeats 1000000 in
theorem index_impl (l : List Int) (y : Int) (a : Option Addr) (cap B : Nat) (w : World) (hi : Ints w B a l) (hn : l.length ≤ 1048576) :
    Calls Tryz.prog 238 #[.slice a l.length cap, .int .i64 y] w fun e w' => (∃ r : Int, e = .returned (.int .i64 r) ∧ Hid (l.contains y = decide (0 ≤ r))) ∧ w' = w := by
  have HS := hideB hi
  clear hi
  obtain ⟨n, hln⟩ : ∃ n, n = l.length := ⟨_, rfl⟩
  have HLN := hideB hln
  rw [← hln] at hn ⊢
  clear hln
  go_enter Tryz.func238, Tryz.ntmps238
  go_wp2_with fail
  go_loopw [8] (fun i wr => ∃ k : Nat, i = .int .i64 k ∧ k ≤ n ∧ (∀ j (hj : j < l.length), j < k → l[j] ≠ y) ∧ wr = w) (fun i _ => n - (intOf i).toNat)
  case atStart => exact ⟨0, rfl, Nat.zero_le _, fun j hj h0 => absurd h0 (Nat.not_lt_zero j), rfl⟩
  case round =>
    obtain ⟨k, rfl, hk, hall, hw⟩ := hrel
    subst hw
    have HA := hideB hall
    clear hall
    by_cases hlt : k < n
    · have hkl : k < l.length := by rw [← HLN.out]; exact hlt
      obtain ⟨b, off, rfl, hb, hc⟩ := HS.out.some (by omega)
      have ci := hc k hkl
      obtain ⟨x, hx⟩ : ∃ x, x = l[k] := ⟨_, rfl⟩
      have HX := hideB hx
      rw [← hx] at ci
      clear hc hx
      by_cases h0 : y = x
      · have hb : (y == x) = true := beq_iff_eq.2 h0
        have HE : Hid (l.contains y = true) := by
          unfold Hid
          rw [List.contains_iff_mem, h0, HX.out]
          exact List.getElem_mem hkl
        clear h0
        go_wp2_with fail
        go_ret
        exact ⟨⟨k, rfl, HE.out.trans (decide_eq_true (by omega)).symm⟩, rfl⟩
      · have hb : (y == x) = false := beq_eq_false_iff_ne.2 h0
        have HNE := hideB h0
        clear h0
        go_wp2_with fail
        go_roundw
        case rel =>
          refine ⟨k + 1, by go_num, by omega, fun j hj hjk => ?_, trivial⟩
          by_cases e : j = k
          · subst e
            rw [← HX.out]
            exact fun h => HNE.out h.symm
          · exact HA.out j hj (by omega)
        case measure => simp [intOf]; omega
    · have HE : Hid (l.contains y = false) := by
        unfold Hid
        rw [Bool.eq_false_iff, Ne, List.contains_iff_mem]
        intro hm
        obtain ⟨j, hj, e⟩ := List.getElem_of_mem hm
        exact HA.out j hj (by have := HLN.out; omega) e
      go_wp2_with fail
      go_ret
      exact ⟨⟨-1, rfl, HE.out⟩, rfl⟩
theorem contains_impl (l : List Int) (y : Int) (a : Option Addr) (cap B : Nat) (w : World) (hi : Ints w B a l) (hn : l.length ≤ 1048576) :
    Calls Tryz.prog 206 #[.slice a l.length cap, .int .i64 y] w fun e w' => e = .returned (.bool (l.contains y)) ∧ w' = w := by
  have HI := hideB (index_impl l y a cap B w hi hn)
  clear hi
  generalize l.length = n at HI hn ⊢
  generalize l.contains y = c at HI ⊢
  go_enter Tryz.func206, Tryz.ntmps206
  go_wp2_with fail
  refine HI.out.mono ?_
  rintro e w' ⟨⟨r, rfl, hr⟩, hw⟩
  subst w'
  by_cases h0 : 0 ≤ r
  · have HE : Hid (c = true) := hr.out.trans (decide_eq_true h0)
    clear hr
    go_wp2_with fail
    go_ret
    exact ⟨ret_boolB HE.out.symm, rfl⟩
  · have HE : Hid (c = false) := hr.out.trans (decide_eq_false h0)
    have HR := hideB hr.out
    clear hr
    go_wp2_with fail
    go_ret
    exact ⟨ret_boolB (by first | exact HE.out.symm | exact HR.out.symm), rfl⟩
set_option maxHeartbeats 1000000 in
theorem right_impl (l : List Int) (a : Option Addr) (cap B : Nat) (w : World) (hi : Ints w B a l) (hn : l.length ≤ 1048576) :
    Calls Tryz.prog 205 #[.slice a l.length cap] w fun e w' => e = .returned (.bool (right l)) ∧ w' = w := by
  have HW := hideB (within_impl l 12 a cap B w hi hn)
  cases hw : within l 12 with
  | false =>
    have HE := hideB (right_no (l := l) (Or.inl hw))
    rw [hw] at HW
    clear hi hw
    generalize l.length = n at HW hn ⊢
    go_enter Tryz.func205, Tryz.ntmps205
    go_wp2_with fail
    refine HW.out.mono ?_
    rintro e w' ⟨rfl, hw⟩
    subst w'
    go_wp2_with fail
    go_ret
    exact ⟨ret_boolB HE.out.symm, rfl⟩
  | true =>
    have HC := hideB (sum_impl l a cap B w hi hw)
    by_cases hs : csum l ≤ 4096
    · have HE := hideB (right_of hw hs)
      rw [hw] at HW
      clear hi hw
      generalize l.length = n at HW HC hn ⊢
      generalize csum l = c at HC hs
      have hs' : (c : Int) ≤ 4096 := by omega
      go_enter Tryz.func205, Tryz.ntmps205
      go_wp2_with fail
      refine HW.out.mono ?_
      rintro e w' ⟨rfl, hw⟩
      subst w'
      go_wp2_with fail
      refine HC.out.mono ?_
      rintro e w' ⟨rfl, hw⟩
      subst w'
      go_wp2_with fail
      go_ret
      exact ⟨ret_boolB HE.out.symm, rfl⟩
    · have HE := hideB (right_no (l := l) (Or.inr hs))
      rw [hw] at HW
      clear hi hw
      generalize l.length = n at HW HC hn ⊢
      generalize csum l = c at HC hs
      have hs' : decide ((c : Int) ≤ 4096) = false := decide_eq_false (by omega)
      go_enter Tryz.func205, Tryz.ntmps205
      go_wp2_with fail
      refine HW.out.mono ?_
      rintro e w' ⟨rfl, hw⟩
      subst w'
      go_wp2_with fail
      refine HC.out.mono ?_
      rintro e w' ⟨rfl, hw⟩
      subst w'
      go_wp2_with fail
      go_ret
      exact ⟨ret_boolB HE.out.symm, rfl⟩
end Go.Proofs.YtjdlgpnhkfdehaaGreatDoor.Bi


/- The walks of flatten and treesOf. -/
namespace Go.Proofs.YtjdlgpnhkfdehaaGreatDoor.Hf
open Go.RowKit
open Go.Proofs.YtjdlgpnhkfdehaaGreatDoor.In (IsI irow Ints made_ints)
theorem flat_next (c : List Nat) (j : Nat) (h : j < c.length) : ((flat c).take j ++ List.replicate (c.length - j) 0).set j (if 0 < c[j] then c[j] / 2 + 1 else 0) = (flat c).take (j + 1) ++ List.replicate (c.length - (j + 1)) 0 := by
  have hf : (flat c)[j]'(by rw [flat_length]; exact h) = if 0 < c[j] then c[j] / 2 + 1 else 0 := by
    unfold flat
    rw [List.getElem_map]
  rw [← hf]
  apply List.ext_getElem?
  intro i
  have hl : ((flat c).take j).length = j := by rw [List.length_take, flat_length]; omega
  have hl' : ((flat c).take (j + 1)).length = j + 1 := by rw [List.length_take, flat_length]; omega
  rw [List.getElem?_set]
  by_cases e : j = i
  · subst e
    rw [if_pos rfl, if_pos (by rw [List.length_append, hl, List.length_replicate]; omega), List.getElem?_append_left (by omega), List.getElem?_take_of_lt (by omega), List.getElem?_eq_getElem]
  · rw [if_neg e]
    by_cases hi : i < j
    · rw [List.getElem?_append_left (by omega), List.getElem?_append_left (by omega), List.getElem?_take_of_lt hi, List.getElem?_take_of_lt (by omega)]
    · rw [List.getElem?_append_right (by omega), List.getElem?_append_right (by omega), hl, hl', List.getElem?_replicate, List.getElem?_replicate]
      have : (i - j < c.length - j) = (i - (j + 1) < c.length - (j + 1)) := propext ⟨fun h => by omega, fun h => by omega⟩
      simp only [this]
def midF (c : List Nat) (j : Nat) : List Nat := (flat c).take j ++ List.replicate (c.length - j) 0
theorem midF_length (c : List Nat) (j : Nat) (h : j ≤ c.length) : (midF c j).length = c.length := by
  unfold midF
  rw [List.length_append, List.length_take, flat_length, List.length_replicate]
  omega
theorem midF_yes (c : List Nat) (j : Nat) (h : j < c.length) (h0 : 0 < c[j]) : (midF c j).set j (c[j] / 2 + 1) = midF c (j + 1) := by
  have := flat_next c j h
  rw [if_pos h0] at this
  exact this
theorem midF_no (c : List Nat) (j : Nat) (h : j < c.length) (h0 : ¬ 0 < c[j]) : midF c j = midF c (j + 1) := by
  have := flat_next c j h
  rw [if_neg h0] at this
  unfold midF
  rw [← this]
  apply List.ext_getElem?
  intro i
  rw [List.getElem?_set]
  by_cases e : j = i
  · subst e
    have hl : ((flat c).take j).length = j := by rw [List.length_take, flat_length]; omega
    rw [if_pos rfl, if_pos (by rw [List.length_append, hl, List.length_replicate]; omega), List.getElem?_append_right (by omega), hl, Nat.sub_self, List.getElem?_replicate, if_pos (by omega)]
  · rw [if_neg e]
theorem midF_zero (c : List Nat) : up (midF c 0) = List.replicate c.length 0 := by
  unfold midF up
  rw [List.take_zero, List.nil_append, Nat.sub_zero, List.map_replicate]
  rfl
theorem midF_all (c : List Nat) : midF c c.length = flat c := by
  unfold midF
  rw [Nat.sub_self, List.replicate_zero, List.append_nil, List.take_of_length_le (by rw [flat_length]; exact Nat.le_refl _)]
theorem up_get {c : List Nat} {W : World} {b off : Nat} (hc : ∀ j (h : j < (up c).length), W.cell? ⟨b, off + j, none⟩ = some (.int .i64 (up c)[j])) (j : Nat) (h : j < c.length) : W.cell? ⟨b, off + j, none⟩ = some (.int .i64 (c[j] : Nat)) := by
  rw [hc j (by rw [up_length]; exact h), up_at c j h, List.getD_eq_getElem?_getD, List.getElem?_eq_getElem h]
  rfl
set_option maxRecDepth 100000 in
set_option maxHeartbeats 1000000 in
theorem flat_any (a : Option Addr) (cap n : Nat) (c : List Nat) (w : World) (h : Ints w w.heap.size a (up c)) (hn : c.length = n) (h257 : n ≤ 257) (hm : ∀ x ∈ c, x ≤ 10000) :
    Calls Tryz.prog 161 #[.slice a n cap] w fun e w' => e = .returned (.slice (some ⟨w.heap.size, 0, none⟩) n n) ∧ IsI w' w.heap.size 2 (up (flat c)) ∧ Below w.heap.size w w' := by
  obtain ⟨i0, hi, hz0, hz1, hz2⟩ := info_parts In.Tryz.infoI2
  have HN := hideH hn
  have HS := hideH h
  have HM := hideH hm
  clear hn h hm
  go_enter Tryz.func161, Tryz.ntmps161
  go_wp2_with (at_make; refine wpList_make_full _ rfl (.tmp 7) (.tmp 7) 97 rfl w.heap.size 2 i0 (.int .i64 0) 1 Tryz.underlying97 hi hz0 hz1 .i64 .i64 _ _ n rfl rfl (by omega) (by omega) (by rw [hz2]; omega) (by unfold maxLen; omega) (Nat.le_refl _) ?_; intro w1 hown hgrow; have HI1 := hideH (made_ints hown); have HB1 := hideH ((Below.refl w.heap.size w).grown hgrow (Nat.le_refl _) (by simp)); clear hown hgrow)
  go_loopw [11, 4, 5] (fun iv _ _ wr => ∃ j : Nat, iv = .int .i64 j ∧ j ≤ n ∧ IsI wr w.heap.size 2 (up (midF c j)) ∧ Below w.heap.size w wr) (fun iv _ _ _ => n - (intOf iv).toNat)
  case atStart => exact ⟨0, rfl, Nat.zero_le _, by rw [midF_zero, HN.out]; exact HI1.out, HB1.out⟩
  case round =>
    obtain ⟨j, rfl, hj, hij, hbw⟩ := hrel
    have HIJ := hideH hij
    have HBW := hideH hbw
    clear hij hbw
    by_cases hlt : j < n
    · have hjc : j < c.length := by rw [HN.out]; exact hlt
      obtain ⟨b, off, rfl, hbz, hcl⟩ := HS.out.some (by rw [up_length]; omega)
      have ci : wr.cell? ⟨b, off + j, none⟩ = some (.int .i64 (c[j] : Nat)) := (HBW.out.cell (p := ⟨b, off + j, none⟩) hbz).trans (up_get hcl j hjc)
      have HY := hideH (midF_yes c j hjc)
      have HNO := hideH (midF_no c j hjc)
      have hcm := HM.out c[j] (List.getElem_mem hjc)
      have HML := hideH (midF_length c j (by omega))
      generalize c[j] = cj at ci HY HNO hcm
      clear hcl hjc
      by_cases h0 : 0 < cj
      · have h0' : (0 : Int) < (cj : Int) := by omega
        have cl : wr.cell? ⟨w.heap.size, j, none⟩ = some (.int .i64 ((midF c j).getD j 0 : Nat)) := by
          have hl : j < (midF c j).length := by rw [HML.out, HN.out]; exact hlt
          rw [HIJ.out.cell (j := j) (by rw [up_length]; exact hl), up_at _ _ hl]
        have zl := HIJ.out.frozen j
        have hq : (cj : Int).tdiv 2 = ((cj / 2 : Nat) : Int) := by rw [Int.tdiv_eq_ediv_of_nonneg (by omega)]; rfl
        generalize (midF c j).getD j 0 = old at cl
        go_wp2_with fail
        go_roundw
        case rel =>
          refine ⟨j + 1, by go_num, by omega, ?_, HBW.out.setCell (by simp) _⟩
          rw [← HY.out h0, ← up_set]
          exact HIJ.out.set j _
        case measure => simp [intOf]; omega
      · have h0' : cj = 0 := by omega
        subst h0'
        go_wp2_with fail
        go_roundw
        case rel => exact ⟨j + 1, by go_num, by omega, by rw [← HNO.out h0]; exact HIJ.out, HBW.out⟩
        case measure => simp [intOf]; omega
    · obtain rfl : j = n := by omega
      have HE : Hid (IsI wr w.heap.size 2 (up (flat c))) := by
        have := HIJ.out
        rw [← HN.out, midF_all] at this
        exact this
      go_wp2_with fail
      go_ret
      exact ⟨rfl, HE.out, HBW.out⟩
end Go.Proofs.YtjdlgpnhkfdehaaGreatDoor.Hf

