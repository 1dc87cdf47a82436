/- The walks of the CRC's functions: each answers what Cr.crcL makes of its register and text, and turns nothing. -/
import Derived.Test.YtkkoeaohmfdlgaaChecked
import Derived.Test.YtkkoeaohmfdlgaaCrcPlain
import Derived.WalkKit
import Derived.WalkSpells
import Derived.WalkLawsBesides
namespace Go.Proofs.Ytkkoeaohmfdlgaa.Cr
open Go.RowKit

theorem ret_int {k : IntKind} {a b : Int} (h : a = b) : Ending.returned (.int k a) = .returned (.int k b) := by rw [h]

set_option maxHeartbeats 400000 in
theorem byte_any (r c : Nat) (w : World) (hr : r < 4294967296) (hc : c < 256) :
    Calls Try.prog 24 #[.int .u32 r, .int .u8 c] w fun e w' => e = .returned (.int .u32 (crc8 r c : Nat)) ∧ w' = w := by
  go_enter Try.func24, Try.ntmps24
  go_wp2
  go_loop [0, 5, 6, 7] (fun a _ _ i => ∃ k x : Nat, k ≤ 8 ∧ i = .int .i64 k ∧ x < 4294967296 ∧ a = .int .u32 x ∧ x ^^^ c / 2 ^ k = stepN k (r ^^^ c)) (fun _ _ _ i => 8 - (intOf i).toNat)
  case atStart => exact ⟨0, r, by omega, rfl, hr, rfl, by simp [stepN]⟩
  case round =>
    obtain ⟨k, x, hk, rfl, hx, rfl, hinv⟩ := hrel
    have HI : Hid (x ^^^ c / 2 ^ k = stepN k (r ^^^ c)) := hinv
    clear hinv
    by_cases hlt : k < 8
    · have ht := turned_eq x c k hx hc
      by_cases hb : (x ^^^ c / 2 ^ k) % 2 = 1
      · have hB : (bits BinOp.and IntKind.u32 (bits BinOp.xor IntKind.u32 (x : Int) ((c : Int) / 2 ^ k % 4294967296)) 1 == 1) = true := by rw [ht, hb]; rfl
        have HS : Hid (implS x c k = (x / 2) ^^^ 3988292384) := by unfold Hid implS; rw [if_pos hb]
        clear ht hb
        go_wp2
        go_round
        case rel => exact ⟨k + 1, implS x c k, by omega, by go_num, implS_lt c k hx, by rw [HS.out, half_xor x hx], by rw [inv_step, HI.out]; rfl⟩
        case measure => simp [intOf]; omega
      · have hB : (bits BinOp.and IntKind.u32 (bits BinOp.xor IntKind.u32 (x : Int) ((c : Int) / 2 ^ k % 4294967296)) 1 == 1) = false := by rw [ht]; simp; omega
        have HS : Hid (implS x c k = x / 2) := by unfold Hid implS; rw [if_neg hb]
        clear ht hb
        go_wp2
        go_round
        case rel => exact ⟨k + 1, implS x c k, by omega, by go_num, implS_lt c k hx, by rw [HS.out]; go_num, by rw [inv_step, HI.out]; rfl⟩
        case measure => simp [intOf]; omega
    · have HX : Hid (x = crc8 r c) := by
        have h := HI.out
        have e8 : k = 8 := by omega
        rw [e8, Nat.div_eq_of_lt (by omega), Nat.xor_zero] at h
        exact h
      go_wp2
      go_ret
      exact ⟨ret_int (by rw [HX.out]), rfl⟩

set_option maxHeartbeats 1000000 in
theorem more_any (n : Nat) (s : ByteArray) (w : World) (hs : s.size ≤ 8000) (hn : n < 4294967296) :
    Calls Try.prog 10 #[.int .i64 n, .string s] w fun e w' => e = .returned (.int .i64 (fin (crcL (fin n) s.data.toList) : Nat)) ∧ w' = w := by
  have hn1 : ¬ (4294967295 : Int) < n := by omega
  have HN : Hid (bits BinOp.xor IntKind.u32 IntKind.u32.max (n : Int) = ((fin n : Nat) : Int)) := not_eq' n hn
  have HF : Hid (fin n < 4294967296) := fin_lt hn
  go_enter Try.func10, Try.ntmps10
  go_wp2
  go_loop [5, 6, 23] (fun a _ i => ∃ k x : Nat, k ≤ s.size ∧ i = .int .i64 k ∧ x < 4294967296 ∧ a = .int .u32 x ∧ x = crcL (fin n) (s.data.toList.take k)) (fun _ _ i => s.size - (intOf i).toNat)
  case atStart => exact ⟨0, fin n, Nat.zero_le _, rfl, HF.out, by rw [HN.out], rfl⟩
  case round =>
    obtain ⟨k, x, hk, rfl, hx, rfl, hinv⟩ := hrel
    have HI : Hid (x = crcL (fin n) (s.data.toList.take k)) := hinv
    clear hinv
    by_cases hlt : k < s.size
    · have hb : s[k].toNat < 256 := s[k].toNat_lt
      have HT : Hid (crc8 x s[k].toNat = crcL (fin n) (s.data.toList.take (k + 1))) := by
        unfold Hid
        rw [crcL_take _ _ _ hlt, ← HI.out]
      have HL : Hid (crc8 x s[k].toNat < 4294967296) := crc8_lt hx hb
      go_wp2_with (go_at_call 24; refine (byte_any _ _ _ hx hb).mono ?_; rintro e w' ⟨rfl, rfl⟩)
      go_round
      case rel => exact ⟨k + 1, crc8 x s[k].toNat, by omega, by go_num, HL.out, rfl, HT.out⟩
      case measure => simp [intOf]; omega
    · have HX : Hid (x = crcL (fin n) s.data.toList) := by
        have h := HI.out
        rw [List.take_of_length_le (by simp; omega)] at h
        exact h
      have HE : Hid (bits BinOp.xor IntKind.u32 IntKind.u32.max (x : Int) = ((fin x : Nat) : Int)) := not_eq' x hx
      have HG : Hid (fin x < 4294967296) := fin_lt hx
      go_wp2
      go_ret
      have e1 := HE.out
      have e2 := HX.out
      have e3 := HG.out
      rw [e2] at e3
      exact ⟨ret_int (by rw [e1, e2]; simp [wrap64]; omega), rfl⟩

set_option maxHeartbeats 1000000 in
theorem crc_spec (n : Nat) (s : ByteArray) (w : World) (hs : s.size ≤ 8000) (hn : n < 4294967296) :
    Calls Try.prog 20 #[.int .i64 n, .string s] w fun e w' => e = .returned (.int .i64 (fin (crcL (fin n) s.data.toList) : Nat)) ∧ w' = w := by
  have HN : Hid (bits BinOp.xor IntKind.u32 (n : Int) 4294967295 = ((fin n : Nat) : Int)) := not_eq n hn
  have HF : Hid (fin n < 4294967296) := fin_lt hn
  go_enter Try.func20, Try.ntmps20
  go_wp2
  go_loop [5, 6, 7] (fun a i _ => ∃ k x : Nat, k ≤ s.size ∧ i = .int .i64 k ∧ x < 4294967296 ∧ a = .int .u32 x ∧ x = crcL (fin n) (s.data.toList.take k)) (fun _ i _ => s.size - (intOf i).toNat)
  case atStart => exact ⟨0, fin n, Nat.zero_le _, rfl, HF.out, by rw [HN.out], rfl⟩
  case round =>
    obtain ⟨k, x, hk, rfl, hx, rfl, hinv⟩ := hrel
    have HI : Hid (x = crcL (fin n) (s.data.toList.take k)) := hinv
    clear hinv
    by_cases hlt : k < s.size
    · have hb : s[k].toNat < 256 := s[k].toNat_lt
      have HT : Hid (crc8 x s[k].toNat = crcL (fin n) (s.data.toList.take (k + 1))) := by
        unfold Hid
        rw [crcL_take _ _ _ hlt, ← HI.out]
      have HL : Hid (crc8 x s[k].toNat < 4294967296) := crc8_lt hx hb
      have HXL : Hid (x ^^^ s[k].toNat < 4294967296) := xor_lt hx (by omega)
      have HXE : Hid (bits BinOp.xor IntKind.u32 (x : Int) (s[k].toNat : Int) = ((x ^^^ s[k].toNat : Nat) : Int)) := u32_xor_nat _ _ hx (by omega)
      go_wp2
      go_loop [5, 7] (fun a i => ∃ j y : Nat, j ≤ 8 ∧ i = .int .i64 j ∧ y < 4294967296 ∧ a = .int .u32 y ∧ y = stepN j (x ^^^ s[k].toNat)) (fun _ i => 8 - (intOf i).toNat)
      case atStart => exact ⟨0, x ^^^ s[k].toNat, Nat.zero_le _, rfl, HXL.out, by rw [HXE.out], rfl⟩
      case round =>
        obtain ⟨j, y, hj, rfl, hy, rfl, hinv⟩ := hrel
        have HJ : Hid (y = stepN j (x ^^^ s[k].toNat)) := hinv
        clear hinv
        by_cases hjl : j < 8
        · have ht := low_eq y hy
          by_cases hb : y % 2 = 1
          · have hB : (bits BinOp.and IntKind.u32 (y : Int) 1 == 1) = true := by rw [ht, hb]; rfl
            have HS : Hid (step y = (y / 2) ^^^ 3988292384) := by unfold Hid step; rw [if_pos hb]
            clear ht hb
            go_wp2
            go_round
            case rel => exact ⟨j + 1, step y, by omega, by go_num, step_lt hy, by rw [HS.out, half_xor y hy], by rw [HJ.out]; rfl⟩
            case measure => simp [intOf]; omega
          · have hB : (bits BinOp.and IntKind.u32 (y : Int) 1 == 1) = false := by rw [ht]; simp; omega
            have HS : Hid (step y = y / 2) := by unfold Hid step; rw [if_neg hb]
            clear ht hb
            go_wp2
            go_round
            case rel => exact ⟨j + 1, step y, by omega, by go_num, step_lt hy, by rw [HS.out]; go_num, by rw [HJ.out]; rfl⟩
            case measure => simp [intOf]; omega
        · have HY : Hid (y = crcL (fin n) (s.data.toList.take (k + 1))) := by
            have h := HJ.out
            have e8 : j = 8 := by omega
            rw [e8] at h
            exact h.trans HT.out
          go_wp2
          go_round
          case rel => exact ⟨k + 1, y, by omega, by go_num, hy, rfl, HY.out⟩
          case measure => simp [intOf]; omega
    · have HX : Hid (x = crcL (fin n) s.data.toList) := by
        have h := HI.out
        rw [List.take_of_length_le (by simp; omega)] at h
        exact h
      have HE : Hid (bits BinOp.xor IntKind.u32 (x : Int) 4294967295 = ((fin x : Nat) : Int)) := not_eq x hx
      have HG : Hid (fin x < 4294967296) := fin_lt hx
      go_wp2
      go_ret
      have e1 := HE.out
      have e2 := HX.out
      have e3 := HG.out
      rw [e2] at e3
      exact ⟨ret_int (by rw [e1, e2]; simp [wrap64]; omega), rfl⟩

/-- what both CrcMore answer: 0 where the text is too long or the register's number may not be -/
def moreV (c : Int) (s : ByteArray) : Int := if s.size ≤ 8000 ∧ 0 ≤ c ∧ c ≤ 4294967295 then (fin (crcL (fin c.toNat) s.data.toList) : Nat) else 0

theorem moreV_yes (n : Nat) (s : ByteArray) (hs : s.size ≤ 8000) (hn : n < 4294967296) : moreV n s = (fin (crcL (fin n) s.data.toList) : Nat) := by
  unfold moreV
  rw [if_pos ⟨hs, by omega, by omega⟩, Int.toNat_natCast]

theorem moreV_no (c : Int) (s : ByteArray) (h : ¬ (s.size ≤ 8000 ∧ 0 ≤ c ∧ c ≤ 4294967295)) : moreV c s = 0 := by
  unfold moreV
  rw [if_neg h]

theorem more_impl (c : Int) (s : ByteArray) (w : World) (hs : s.size ≤ maxLen) :
    Calls Try.prog 10 #[.int .i64 c, .string s] w fun e w' => e = .returned (.int .i64 (moreV c s)) ∧ w' = w := by
  unfold maxLen at hs
  by_cases h1 : 8000 < s.size
  · go_enter Try.func10, Try.ntmps10
    go_wp2
    go_ret
    exact ⟨ret_int (moreV_no c s (by omega)).symm, rfl⟩
  · by_cases h2 : c < 0
    · go_enter Try.func10, Try.ntmps10
      go_wp2
      go_ret
      exact ⟨ret_int (moreV_no c s (by omega)).symm, rfl⟩
    · by_cases h3 : 4294967295 < c
      · go_enter Try.func10, Try.ntmps10
        go_wp2
        go_ret
        exact ⟨ret_int (moreV_no c s (by omega)).symm, rfl⟩
      · obtain ⟨n, rfl⟩ := Int.eq_ofNat_of_zero_le (show 0 ≤ c from by omega)
        rw [moreV_yes n s (by omega) (by omega)]
        exact more_any n s w (by omega) (by omega)

theorem crc_impl0 (s : ByteArray) (w : World) (hs : s.size ≤ maxLen) :
    Calls Try.prog 12 #[.string s] w fun e w' => e = .returned (.int .i64 (moreV 0 s)) ∧ w' = w := by
  go_enter Try.func12, Try.ntmps12
  go_wp2_with fail
  refine (more_impl 0 s _ hs).mono ?_
  rintro e w' ⟨rfl, rfl⟩
  go_wp2
  go_ret
  exact ⟨rfl, rfl⟩
end Go.Proofs.Ytkkoeaohmfdlgaa.Cr
