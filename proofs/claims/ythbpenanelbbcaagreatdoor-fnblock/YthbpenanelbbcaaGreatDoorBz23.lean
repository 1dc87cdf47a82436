/- Texts put together: ZeroBack, CrcPlain, CrcWalks, JoinWalks, SealWalks, PkPlain, DecPlain. -/
import Derived.Test.YthbpenanelbbcaaGreatDoorBz16
import Derived.Laws.BitsAllLaws
import Derived.Test.YthbpenanelbbcaaGreatDoorChecked
import Derived.WalkKit
import Derived.WalkSpells
import Derived.WalkLawsBesides
import Derived.Test.YthbpenanelbbcaaGreatDoorBz4
import Derived.Test.YthbpenanelbbcaaGreatDoorBz20
import Derived.Test.YthbpenanelbbcaaGreatDoorBz22
/- Plain mathematics: zeros side by side, there and back. -/
namespace Go.Proofs.YthbpenanelbbcaaGreatDoor.Ze
open Go.RowKit
theorem zrun_back (r : Nat) : ∀ (s : List Int) (v : Nat), ((zrun r).foldl bstep (s, v)).1 = s ++ List.replicate (v * r) 0 := by
 induction r using Nat.strongRecOn with
 | ind r ih =>
  intro s v
  by_cases h0 : r = 0
  ·subst h0
   rw [zrun_zero]
   simp
  ·by_cases h1 : r % 2 = 1
   ·rw [zrun_odd h1, List.foldl_cons, bstep, if_neg (by omega), ih ((r - 1) / 2) (by omega), List.append_assoc, List.replicate_append_replicate]
    congr 2
    obtain ⟨q, rfl⟩ : ∃ q, r = 2 * q + 1 := ⟨(r - 1) / 2, by omega⟩
    rw [show (2 * q + 1 - 1) / 2 = q by omega, Nat.mul_add, Nat.mul_assoc]
    simp
    omega
   ·rw [zrun_even (by omega) h1, List.foldl_cons, bstep, if_neg (by omega), ih ((r - 2) / 2) (by omega), List.append_assoc, List.replicate_append_replicate]
    congr 2
    obtain ⟨q, rfl⟩ : ∃ q, r = 2 * q + 2 := ⟨(r - 2) / 2, by omega⟩
    rw [show (2 * q + 2 - 2) / 2 = q by omega, Nat.mul_add, Nat.mul_assoc]
    simp
    omega
theorem zst_back (l : List Int) (h : ∀ x ∈ l, 0 ≤ x ∧ x ≤ 255) : ∀ k, k ≤ l.length → (bst (zst (l.take k)).1).2 = 1 ∧ (bst (zst (l.take k)).1).1 ++ List.replicate (zst (l.take k)).2 0 = l.take k := by
 intro k
 induction k with
 | zero => intro _; simp [zst, bst]
 | succ k ih =>
  intro hk
  obtain ⟨h1, h2⟩ := ih (by omega)
  have hx := h _ (List.getElem_mem (show k < l.length by omega))
  by_cases h0 : l[k] = 0
  ·rw [zst_zero hk h0]
   refine ⟨h1, ?_⟩
   show (bst (zst (l.take k)).1).1 ++ List.replicate ((zst (l.take k)).2 + 1) 0 = _
   rw [Bi.take_more hk, h0, List.replicate_succ', ← List.append_assoc, h2]
  ·rw [zst_other hk h0]
   have e : bst ((zst (l.take k)).1 ++ zrun (zst (l.take k)).2 ++ [l[k] + 1]) = (l.take k ++ [l[k]], 1) := by
    have hb : bst (zst (l.take k)).1 = ((bst (zst (l.take k)).1).1, 1) := by rw [← h1]
    have hb2 : (zst (l.take k)).1.foldl bstep ([], 1) = ((bst (zst (l.take k)).1).1, 1) := hb
    unfold bst
    rw [List.foldl_append, List.foldl_append, hb2, List.foldl_cons, List.foldl_nil, bstep, if_pos (by omega), zrun_back, Nat.one_mul, h2]
    simp
   rw [e]
   refine ⟨rfl, ?_⟩
   rw [Bi.take_more hk]
   simp
theorem zeros_back {l : List Int} (h : numsR l 255 = true) : backR (zerosR l) = l := by
 obtain ⟨hl, hu⟩ := numsR_yes h
 have hx := upTo_yes hu
 obtain ⟨h1, h2⟩ := zst_back l hx l.length (Nat.le_refl _)
 rw [List.take_length] at h1 h2
 have hb : (bst (zerosR l)).1 = l := by
  rw [zerosR_yes h]
  have hb2 : (zst l).1.foldl bstep ([], 1) = ((bst (zst l).1).1, 1) := by
   show bst (zst l).1 = _
   rw [← h1]
  unfold bst
  rw [List.foldl_append, hb2, zrun_back, Nat.one_mul]
  exact h2
 have hm : ∀ k, k ≤ l.length → ∀ x ∈ (zst (l.take k)).1, 0 ≤ x ∧ x ≤ 256 := by
  intro k
  induction k with
  | zero => intro _ x hx; simp [zst] at hx
  | succ k ih =>
   intro hk x hxm
   have hy := hx _ (List.getElem_mem (show k < l.length by omega))
   by_cases h0 : l[k] = 0
   ·rw [zst_zero hk h0] at hxm
    exact ih (by omega) x hxm
   ·rw [zst_other hk h0] at hxm
    rcases List.mem_append.1 hxm with hxm | hxm
    ·rcases List.mem_append.1 hxm with hxm | hxm
     ·exact ih (by omega) x hxm
     ·rcases zrun_mem _ x hxm with e | e <;> omega
    ·rw [List.mem_singleton] at hxm
     omega
 have hn : numsR (zerosR l) 256 = true := by
  rw [numsR_of (Nat.le_trans (zerosR_len l) hl)]
  refine upTo_of fun x hxm => ?_
  rw [zerosR_yes h] at hxm
  rcases List.mem_append.1 hxm with hxm | hxm
  ·have := hm l.length (Nat.le_refl _)
   rw [List.take_length] at this
   exact this x hxm
  ·rcases zrun_mem _ x hxm with e | e <;> omega
 rw [backR_yes hn (by rw [hb]; exact hl), hb]
end Go.Proofs.YthbpenanelbbcaaGreatDoor.Ze


/- Plain mathematics of the CRC: one bit's step of the register, one byte's, a text's; and how the model's operations on 32 bits say the same. -/
namespace Go.Proofs.YthbpenanelbbcaaGreatDoor.Cr
def step (x : Nat) : Nat := if x % 2 = 1 then (x / 2) ^^^ 3988292384 else x / 2
def stepN : Nat → Nat → Nat
 | 0, x => x
 | k + 1, x => step (stepN k x)
def crc8 (r c : Nat) : Nat := stepN 8 (r ^^^ c)
def crcL (r : Nat) (l : List UInt8) : Nat := l.foldl (fun r b => crc8 r b.toNat) r
def fin (r : Nat) : Nat := r ^^^ 4294967295
theorem xor_lt {a b : Nat} (ha : a < 4294967296) (hb : b < 4294967296) : a ^^^ b < 4294967296 :=
 Nat.xor_lt_two_pow (n := 32) ha hb
theorem step_lt {x : Nat} (h : x < 4294967296) : step x < 4294967296 := by
 unfold step
 split
 ·exact xor_lt (by omega) (by decide)
 ·omega
theorem stepN_lt {x : Nat} (h : x < 4294967296) (k : Nat) : stepN k x < 4294967296 := by
 induction k with
 | zero => exact h
 | succ k ih => exact step_lt ih
theorem crc8_lt {r c : Nat} (h : r < 4294967296) (hc : c < 256) : crc8 r c < 4294967296 :=
 stepN_lt (xor_lt h (by omega)) 8
theorem crcL_lt (l : List UInt8) : ∀ r, r < 4294967296 → crcL r l < 4294967296 := by
 induction l with
 | nil => intro r h; exact h
 | cons b l ih => intro r h; exact ih _ (crc8_lt h b.toNat_lt)
theorem crcL_snoc (r : Nat) (l : List UInt8) (b : UInt8) : crcL r (l ++ [b]) = crc8 (crcL r l) b.toNat := by
 simp [crcL, List.foldl_append]
theorem take_snoc (s : ByteArray) (k : Nat) (h : k < s.size) : s.data.toList.take (k + 1) = s.data.toList.take k ++ [s[k]] := by
 rw [List.take_succ_eq_append_getElem (by simpa using h)]; rfl
theorem crcL_take (r : Nat) (s : ByteArray) (k : Nat) (h : k < s.size) : crcL r (s.data.toList.take (k + 1)) = crc8 (crcL r (s.data.toList.take k)) (s[k]).toNat := by
 rw [take_snoc s k h, crcL_snoc]
theorem fin_lt {r : Nat} (h : r < 4294967296) : fin r < 4294967296 := xor_lt h (by decide)
def implS (x c k : Nat) : Nat := if (x ^^^ c / 2 ^ k) % 2 = 1 then (x / 2) ^^^ 3988292384 else x / 2
theorem inv_step (x c k : Nat) : implS x c k ^^^ (c / 2 ^ (k + 1)) = step (x ^^^ c / 2 ^ k) := by
 have e : c / 2 ^ (k + 1) = (c / 2 ^ k) / 2 := by rw [Nat.pow_succ, Nat.div_div_eq_div_mul]
 unfold implS step
 rw [e, Nat.xor_div_two]
 split
 ·rw [Nat.xor_assoc, Nat.xor_assoc, Nat.xor_comm 3988292384]
 ·rfl
theorem implS_lt {x : Nat} (c k : Nat) (h : x < 4294967296) : implS x c k < 4294967296 := by
 unfold implS
 split
 ·exact xor_lt (by omega) (by decide)
 ·omega
/-! the walk's own spellings -/
theorem nat_pow_cast (c k : Nat) : ((c : Int) / 2 ^ k) = ((c / 2 ^ k : Nat) : Int) := by
 rw [Int.natCast_ediv, Int.natCast_pow]; rfl
theorem turned_eq (x c k : Nat) (hx : x < 4294967296) (hc : c < 256) :
  bits BinOp.and IntKind.u32 (bits BinOp.xor IntKind.u32 (x : Int) ((c : Int) / 2 ^ k % 4294967296)) 1 = (((x ^^^ c / 2 ^ k) % 2 : Nat) : Int) := by
 have h1 : c / 2 ^ k < 4294967296 := Nat.lt_of_le_of_lt (Nat.div_le_self _ _) (by omega)
 have e : ((c : Int) / 2 ^ k % 4294967296) = ((c / 2 ^ k : Nat) : Int) := by
  rw [nat_pow_cast]
  generalize c / 2 ^ k = q at h1 ⊢
  omega
 rw [e, u32_xor_nat _ _ hx h1]
 have := u32_and_nat (x ^^^ c / 2 ^ k) 1 (xor_lt hx h1) (by decide)
 rw [nat_mask1] at this
 exact this
theorem half_xor (x : Nat) (hx : x < 4294967296) : bits BinOp.xor IntKind.u32 ((x : Int) / 2) 3988292384 = (((x / 2) ^^^ 3988292384 : Nat) : Int) := by
 have e : ((x : Int) / 2) = ((x / 2 : Nat) : Int) := by omega
 rw [e]
 exact u32_xor_nat (x / 2) 3988292384 (by omega) (by decide)
theorem low_eq (x : Nat) (hx : x < 4294967296) : bits BinOp.and IntKind.u32 (x : Int) 1 = ((x % 2 : Nat) : Int) := by
 have := u32_and_nat x 1 hx (by decide)
 rw [nat_mask1] at this
 exact this
theorem not_eq (x : Nat) (hx : x < 4294967296) : bits BinOp.xor IntKind.u32 (x : Int) 4294967295 = ((fin x : Nat) : Int) :=
 u32_xor_nat x 4294967295 hx (by decide)
theorem not_eq' (x : Nat) (hx : x < 4294967296) : bits BinOp.xor IntKind.u32 IntKind.u32.max (x : Int) = ((fin x : Nat) : Int) := by
 rw [fin, Nat.xor_comm, show IntKind.u32.max = ((4294967295 : Nat) : Int) from rfl]
 exact u32_xor_nat 4294967295 x (by decide) hx
end Go.Proofs.YthbpenanelbbcaaGreatDoor.Cr


/- The walks of the CRC's functions: each answers what Cr.crcL makes of its register and text, and turns nothing. -/
namespace Go.Proofs.YthbpenanelbbcaaGreatDoor.Cr
open Go.RowKit
theorem ret_int {k : IntKind} {a b : Int} (h : a = b) : Ending.returned (.int k a) = .returned (.int k b) := by rw [h]
set_option maxHeartbeats 400000 in
theorem byte_any (r c : Nat) (w : World) (hr : r < 4294967296) (hc : c < 256) :
    Calls Tryz.prog 143 #[.int .u32 r, .int .u8 c] w fun e w' => e = .returned (.int .u32 (crc8 r c : Nat)) ∧ w' = w := by
  go_enter Tryz.func143, Tryz.ntmps143
  go_wp2
  go_loop [0, 5, 6, 7] (fun a _ _ i => ∃ k x : Nat, k ≤ 8 ∧ i = .int .i64 k ∧ x < 4294967296 ∧ a = .int .u32 x ∧ x ^^^ c / 2 ^ k = stepN k (r ^^^ c)) (fun _ _ _ i => 8 - (intOf i).toNat)
  case atStart => exact ⟨0, r, by omega, rfl, hr, rfl, by simp [stepN]⟩
  case round =>
    obtain ⟨k, x, hk, rfl, hx, rfl, hinv⟩ := hrel
    have HI : Hid (x ^^^ c / 2 ^ k = stepN k (r ^^^ c)) := hinv
    clear hinv
    by_cases hlt : k < 8
    · have ht := turned_eq x c k hx hc
      by_cases hb : (x ^^^ c / 2 ^ k) % 2 = 1
      · have hB : (bits BinOp.and IntKind.u32 (bits BinOp.xor IntKind.u32 (x : Int) ((c : Int) / 2 ^ k % 4294967296)) 1 == 1) = true := by rw [ht, hb]; rfl
        have HS : Hid (implS x c k = (x / 2) ^^^ 3988292384) := by unfold Hid implS; rw [if_pos hb]
        clear ht hb
        go_wp2
        go_round
        case rel => exact ⟨k + 1, implS x c k, by omega, by go_num, implS_lt c k hx, by rw [HS.out, half_xor x hx], by rw [inv_step, HI.out]; rfl⟩
        case measure => simp [intOf]; omega
      · have hB : (bits BinOp.and IntKind.u32 (bits BinOp.xor IntKind.u32 (x : Int) ((c : Int) / 2 ^ k % 4294967296)) 1 == 1) = false := by rw [ht]; simp; omega
        have HS : Hid (implS x c k = x / 2) := by unfold Hid implS; rw [if_neg hb]
        clear ht hb
        go_wp2
        go_round
        case rel => exact ⟨k + 1, implS x c k, by omega, by go_num, implS_lt c k hx, by rw [HS.out]; go_num, by rw [inv_step, HI.out]; rfl⟩
        case measure => simp [intOf]; omega
    · have HX : Hid (x = crc8 r c) := by
        have h := HI.out
        have e8 : k = 8 := by omega
        rw [e8, Nat.div_eq_of_lt (by omega), Nat.xor_zero] at h
        exact h
      go_wp2
      go_ret
      exact ⟨ret_int (by rw [HX.out]), rfl⟩
set_option maxHeartbeats 1000000 in
theorem more_any (n : Nat) (s : ByteArray) (w : World) (hs : s.size ≤ 8000) (hn : n < 4294967296) :
    Calls Tryz.prog 117 #[.int .i64 n, .string s] w fun e w' => e = .returned (.int .i64 (fin (crcL (fin n) s.data.toList) : Nat)) ∧ w' = w := by
  have hn1 : ¬ (4294967295 : Int) < n := by omega
  have HN : Hid (bits BinOp.xor IntKind.u32 IntKind.u32.max (n : Int) = ((fin n : Nat) : Int)) := not_eq' n hn
  have HF : Hid (fin n < 4294967296) := fin_lt hn
  go_enter Tryz.func117, Tryz.ntmps117
  go_wp2
  go_loop [5, 6, 23] (fun a _ i => ∃ k x : Nat, k ≤ s.size ∧ i = .int .i64 k ∧ x < 4294967296 ∧ a = .int .u32 x ∧ x = crcL (fin n) (s.data.toList.take k)) (fun _ _ i => s.size - (intOf i).toNat)
  case atStart => exact ⟨0, fin n, Nat.zero_le _, rfl, HF.out, by rw [HN.out], rfl⟩
  case round =>
    obtain ⟨k, x, hk, rfl, hx, rfl, hinv⟩ := hrel
    have HI : Hid (x = crcL (fin n) (s.data.toList.take k)) := hinv
    clear hinv
    by_cases hlt : k < s.size
    · have hb : s[k].toNat < 256 := s[k].toNat_lt
      have HT : Hid (crc8 x s[k].toNat = crcL (fin n) (s.data.toList.take (k + 1))) := by
        unfold Hid
        rw [crcL_take _ _ _ hlt, ← HI.out]
      have HL : Hid (crc8 x s[k].toNat < 4294967296) := crc8_lt hx hb
      go_wp2_with (go_at_call 143; refine (byte_any _ _ _ hx hb).mono ?_; rintro e w' ⟨rfl, rfl⟩)
      go_round
      case rel => exact ⟨k + 1, crc8 x s[k].toNat, by omega, by go_num, HL.out, rfl, HT.out⟩
      case measure => simp [intOf]; omega
    · have HX : Hid (x = crcL (fin n) s.data.toList) := by
        have h := HI.out
        rw [List.take_of_length_le (by simp; omega)] at h
        exact h
      have HE : Hid (bits BinOp.xor IntKind.u32 IntKind.u32.max (x : Int) = ((fin x : Nat) : Int)) := not_eq' x hx
      have HG : Hid (fin x < 4294967296) := fin_lt hx
      go_wp2
      go_ret
      have e1 := HE.out
      have e2 := HX.out
      have e3 := HG.out
      rw [e2] at e3
      exact ⟨ret_int (by rw [e1, e2]; simp [wrap64]; omega), rfl⟩
set_option maxHeartbeats 1000000 in
theorem crc_spec (n : Nat) (s : ByteArray) (w : World) (hs : s.size ≤ 8000) (hn : n < 4294967296) :
    Calls Tryz.prog 54 #[.int .i64 n, .string s] w fun e w' => e = .returned (.int .i64 (fin (crcL (fin n) s.data.toList) : Nat)) ∧ w' = w := by
  have HN : Hid (bits BinOp.xor IntKind.u32 (n : Int) 4294967295 = ((fin n : Nat) : Int)) := not_eq n hn
  have HF : Hid (fin n < 4294967296) := fin_lt hn
  go_enter Tryz.func54, Tryz.ntmps54
  go_wp2
  go_loop [5, 6, 7] (fun a i _ => ∃ k x : Nat, k ≤ s.size ∧ i = .int .i64 k ∧ x < 4294967296 ∧ a = .int .u32 x ∧ x = crcL (fin n) (s.data.toList.take k)) (fun _ i _ => s.size - (intOf i).toNat)
  case atStart => exact ⟨0, fin n, Nat.zero_le _, rfl, HF.out, by rw [HN.out], rfl⟩
  case round =>
    obtain ⟨k, x, hk, rfl, hx, rfl, hinv⟩ := hrel
    have HI : Hid (x = crcL (fin n) (s.data.toList.take k)) := hinv
    clear hinv
    by_cases hlt : k < s.size
    · have hb : s[k].toNat < 256 := s[k].toNat_lt
      have HT : Hid (crc8 x s[k].toNat = crcL (fin n) (s.data.toList.take (k + 1))) := by
        unfold Hid
        rw [crcL_take _ _ _ hlt, ← HI.out]
      have HL : Hid (crc8 x s[k].toNat < 4294967296) := crc8_lt hx hb
      have HXL : Hid (x ^^^ s[k].toNat < 4294967296) := xor_lt hx (by omega)
      have HXE : Hid (bits BinOp.xor IntKind.u32 (x : Int) (s[k].toNat : Int) = ((x ^^^ s[k].toNat : Nat) : Int)) := u32_xor_nat _ _ hx (by omega)
      go_wp2
      go_loop [5, 7] (fun a i => ∃ j y : Nat, j ≤ 8 ∧ i = .int .i64 j ∧ y < 4294967296 ∧ a = .int .u32 y ∧ y = stepN j (x ^^^ s[k].toNat)) (fun _ i => 8 - (intOf i).toNat)
      case atStart => exact ⟨0, x ^^^ s[k].toNat, Nat.zero_le _, rfl, HXL.out, by rw [HXE.out], rfl⟩
      case round =>
        obtain ⟨j, y, hj, rfl, hy, rfl, hinv⟩ := hrel
        have HJ : Hid (y = stepN j (x ^^^ s[k].toNat)) := hinv
        clear hinv
        by_cases hjl : j < 8
        · have ht := low_eq y hy
          by_cases hb : y % 2 = 1
          · have hB : (bits BinOp.and IntKind.u32 (y : Int) 1 == 1) = true := by rw [ht, hb]; rfl
            have HS : Hid (step y = (y / 2) ^^^ 3988292384) := by unfold Hid step; rw [if_pos hb]
            clear ht hb
            go_wp2
            go_round
            case rel => exact ⟨j + 1, step y, by omega, by go_num, step_lt hy, by rw [HS.out, half_xor y hy], by rw [HJ.out]; rfl⟩
            case measure => simp [intOf]; omega
          · have hB : (bits BinOp.and IntKind.u32 (y : Int) 1 == 1) = false := by rw [ht]; simp; omega
            have HS : Hid (step y = y / 2) := by unfold Hid step; rw [if_neg hb]
            clear ht hb
            go_wp2
            go_round
            case rel => exact ⟨j + 1, step y, by omega, by go_num, step_lt hy, by rw [HS.out]; go_num, by rw [HJ.out]; rfl⟩
            case measure => simp [intOf]; omega
        · have HY : Hid (y = crcL (fin n) (s.data.toList.take (k + 1))) := by
            have h := HJ.out
            have e8 : j = 8 := by omega
            rw [e8] at h
            exact h.trans HT.out
          go_wp2
          go_round
          case rel => exact ⟨k + 1, y, by omega, by go_num, hy, rfl, HY.out⟩
          case measure => simp [intOf]; omega
    · have HX : Hid (x = crcL (fin n) s.data.toList) := by
        have h := HI.out
        rw [List.take_of_length_le (by simp; omega)] at h
        exact h
      have HE : Hid (bits BinOp.xor IntKind.u32 (x : Int) 4294967295 = ((fin x : Nat) : Int)) := not_eq x hx
      have HG : Hid (fin x < 4294967296) := fin_lt hx
      go_wp2
      go_ret
      have e1 := HE.out
      have e2 := HX.out
      have e3 := HG.out
      rw [e2] at e3
      exact ⟨ret_int (by rw [e1, e2]; simp [wrap64]; omega), rfl⟩
def moreV (c : Int) (s : ByteArray) : Int := if s.size ≤ 8000 ∧ 0 ≤ c ∧ c ≤ 4294967295 then (fin (crcL (fin c.toNat) s.data.toList) : Nat) else 0
theorem moreV_yes (n : Nat) (s : ByteArray) (hs : s.size ≤ 8000) (hn : n < 4294967296) : moreV n s = (fin (crcL (fin n) s.data.toList) : Nat) := by
 unfold moreV
 rw [if_pos ⟨hs, by omega, by omega⟩, Int.toNat_natCast]
theorem moreV_no (c : Int) (s : ByteArray) (h : ¬ (s.size ≤ 8000 ∧ 0 ≤ c ∧ c ≤ 4294967295)) : moreV c s = 0 := by
 unfold moreV
 rw [if_neg h]
theorem more_impl (c : Int) (s : ByteArray) (w : World) (hs : s.size ≤ maxLen) :
  Calls Tryz.prog 117 #[.int .i64 c, .string s] w fun e w' => e = .returned (.int .i64 (moreV c s)) ∧ w' = w := by
 unfold maxLen at hs
 by_cases h1 : 8000 < s.size
 ·go_enter Tryz.func117, Tryz.ntmps117
  go_wp2
  go_ret
  exact ⟨ret_int (moreV_no c s (by omega)).symm, rfl⟩
 ·by_cases h2 : c < 0
  ·go_enter Tryz.func117, Tryz.ntmps117
   go_wp2
   go_ret
   exact ⟨ret_int (moreV_no c s (by omega)).symm, rfl⟩
  ·by_cases h3 : 4294967295 < c
   ·go_enter Tryz.func117, Tryz.ntmps117
    go_wp2
    go_ret
    exact ⟨ret_int (moreV_no c s (by omega)).symm, rfl⟩
   ·obtain ⟨n, rfl⟩ := Int.eq_ofNat_of_zero_le (show 0 ≤ c from by omega)
    rw [moreV_yes n s (by omega) (by omega)]
    exact more_any n s w (by omega) (by omega)
theorem crc_impl0 (s : ByteArray) (w : World) (hs : s.size ≤ maxLen) :
  Calls Tryz.prog 85 #[.string s] w fun e w' => e = .returned (.int .i64 (moreV 0 s)) ∧ w' = w := by
 go_enter Tryz.func85, Tryz.ntmps85
 go_wp2_with fail
 refine (more_impl 0 s _ hs).mono ?_
 rintro e w' ⟨rfl, rfl⟩
 go_wp2
 go_ret
 exact ⟨rfl, rfl⟩
end Go.Proofs.YthbpenanelbbcaaGreatDoor.Cr


/- The walk of impl.joinTexts: it answers the two texts one behind the other, and writes nothing that was there. -/
namespace Go.Proofs.YthbpenanelbbcaaGreatDoor.Nu
open Go.RowKit
set_option maxRecDepth 100000 in
set_option maxHeartbeats 1000000 in
theorem join_some (a b : ByteArray) (w : World) (h : a.size + b.size ≤ 1099511627776) (hb : ¬ b = ByteArray.empty) :
  Calls Tryz.prog 51 #[.string a, .string b] w fun e w' => e = .returned (.string (a ++ b)) ∧ Below w.heap.size w w' := by
 obtain ⟨i0, hi, hz0, hz1, hz2⟩ := info_parts Tryz.infoJ5
 go_enter Tryz.func51, Tryz.ntmps51
 go_wp2_with (at_make; refine wpList_make_full _ rfl (.tmp 10) (.tmp 10) 22 rfl w.heap.size 5 i0 (.int .u8 0) 1 Tryz.underlying22 hi hz0 hz1 .i64 .i64 _ _ (a.size + b.size) rfl rfl (by simp) (by simp) (by rw [hz2]; omega) (by unfold maxLen; omega) (Nat.le_refl _) ?_; intro w1 hown1 hgrow1; obtain ⟨cur, hblk, hlen⟩ := made_block hown1; have hbel1 := (Below.refl w.heap.size w).grown hgrow1 (Nat.le_refl _) (by simp); obtain ⟨w2, w3, c1, c2, c3, hb3⟩ := join_facts (P := Tryz.prog) (ty := 3) (sT := 9) (a := a) (b := b) (dp := some ⟨w.heap.size, a.size, none⟩) (dLen := b.size) (dCap := b.size) Tryz.underlying22 Tryz.underlying5 Tryz.underlying9 Tryz.sizeJ5 hblk hlen rfl hbel1 (fun _ => rfl) (Nat.le_refl _); clear hown1 hgrow1 hblk hlen hbel1)
 go_ret
 exact ⟨rfl, by assumption⟩
set_option maxRecDepth 100000 in
set_option maxHeartbeats 1000000 in
theorem join_none (a : ByteArray) (w : World) (h : a.size ≤ 1099511627776) :
  Calls Tryz.prog 51 #[.string a, .string ByteArray.empty] w fun e w' => e = .returned (.string (a ++ ByteArray.empty)) ∧ Below w.heap.size w w' := by
 obtain ⟨i0, hi, hz0, hz1, hz2⟩ := info_parts Tryz.infoJ5
 go_enter Tryz.func51, Tryz.ntmps51
 go_wp2_with (at_make; refine wpList_make_full _ rfl (.tmp 10) (.tmp 10) 22 rfl w.heap.size 5 i0 (.int .u8 0) 1 Tryz.underlying22 hi hz0 hz1 .i64 .i64 _ _ a.size rfl rfl (by simp) (by simp) (by rw [hz2]; omega) (by unfold maxLen; omega) (Nat.le_refl _) ?_; intro w1 hown1 hgrow1; obtain ⟨cur, hblk, hlen⟩ := made_block hown1; have hbel1 := (Below.refl w.heap.size w).grown hgrow1 (Nat.le_refl _) (by simp); obtain ⟨w2, w3, c1, c2, c3, hb3⟩ := join_facts (P := Tryz.prog) (ty := 3) (sT := 9) (a := a) (b := ByteArray.empty) (dp := some ⟨w.heap.size, 0, none⟩) (dLen := 0) (dCap := 0) Tryz.underlying22 Tryz.underlying5 Tryz.underlying9 Tryz.sizeJ5 hblk hlen (by simp) hbel1 (by simp) (by simp); clear hown1 hgrow1 hblk hlen hbel1)
 go_ret
 exact ⟨ret_strJ (by simp), by assumption⟩
theorem join_any (a b : ByteArray) (w : World) (h : a.size + b.size ≤ 1099511627776) :
  Calls Tryz.prog 51 #[.string a, .string b] w fun e w' => e = .returned (.string (a ++ b)) ∧ Below w.heap.size w w' := by
 by_cases hb : b = ByteArray.empty
 ·subst hb
  exact join_none a w (by omega)
 ·exact join_some a b w h hb
end Go.Proofs.YthbpenanelbbcaaGreatDoor.Nu


/- The walks of the functions that seal a text: each answers Se.sealV of its text, and writes nothing that was there. -/
namespace Go.Proofs.YthbpenanelbbcaaGreatDoor.Se
open Go.RowKit
open Go.Proofs.YthbpenanelbbcaaGreatDoor.Nu (bv arr_string ret_strJ hideJ)
def crcOf (s : ByteArray) : Nat := Cr.fin (Cr.crcL (Cr.fin 0) s.data.toList)
def fourL (n : Nat) : List UInt8 := [UInt8.ofNat (n % 256), UInt8.ofNat (n / 256 % 256), UInt8.ofNat (n / 65536 % 256), UInt8.ofNat (n / 16777216)]
def fourS (n : Nat) : ByteArray := ⟨(fourL n).toArray⟩
def sealV (t : ByteArray) : ByteArray := if t.size ≤ 7996 then t ++ fourS (crcOf t) else ⟨#[]⟩
theorem crcOf_lt (s : ByteArray) : crcOf s < 4294967296 := Cr.fin_lt (Cr.crcL_lt _ _ (Cr.fin_lt (by decide)))
theorem fourS_size (n : Nat) : (fourS n).size = 4 := rfl
theorem moreV_crc (s : ByteArray) (h : s.size ≤ 8000) : Cr.moreV 0 s = (crcOf s : Nat) := Cr.moreV_yes 0 s h (by decide)
theorem bv_of (q : Nat) (x : Int) (hq : (q : Int) = x) (h : q < 256) : bv (UInt8.ofNat q) = .int .u8 x := by
 unfold bv
 rw [UInt8.toNat_ofNat', Nat.mod_eq_of_lt (by omega), hq]
theorem four_cells (n : Nat) (h : n < 4294967296) :
  (#[.int .u8 ((n : Int) % 256), .int .u8 ((n : Int) / 256 % 256), .int .u8 ((n : Int) / 65536 % 256), .int .u8 ((n : Int) / 16777216)] : Array Value).toList = (fourL n).map bv := by
 simp only [fourL, List.map_cons, List.map_nil]
 rw [bv_of (n % 256) ((n : Int) % 256) (by omega) (by omega), bv_of (n / 256 % 256) ((n : Int) / 256 % 256) (by omega) (by omega),
  bv_of (n / 65536 % 256) ((n : Int) / 65536 % 256) (by omega) (by omega), bv_of (n / 16777216) ((n : Int) / 16777216) (by omega) (by omega)]
theorem four_conv {P : Program} {src dst e : TypeId} (t : TypeId) (u : World) (n : Nat) (h : n < 4294967296) (hs : P.underlying src = some (.slice e)) (he : P.underlying e = some (.int .u8)) (hd : P.underlying dst = some .string) :
  (convert src dst (.slice (some ⟨u.heap.size, 0, none⟩) 4 4)).run P (u.alloc (.cells #[.int .u8 ((n : Int) % 256), .int .u8 ((n : Int) / 256 % 256), .int .u8 ((n : Int) / 65536 % 256), .int .u8 ((n : Int) / 16777216)] t)) =
   .ok (.string (fourS n)) (u.alloc (.cells #[.int .u8 ((n : Int) % 256), .int .u8 ((n : Int) / 256 % 256), .int .u8 ((n : Int) / 65536 % 256), .int .u8 ((n : Int) / 16777216)] t)) :=
 arr_string (P := P) (fourL n) 4 (heap_alloc_new u _) (by rw [four_cells n h]; rfl) hs he hd
set_option maxHeartbeats 400000 in
theorem four_any (n : Nat) (w : World) (hn : n < 4294967296) :
  Calls Tryz.prog 53 #[.int .i64 n] w fun e w' => e = .returned (.string (fourS n)) ∧ Below w.heap.size w w' := by
 have hcv := four_conv (P := Tryz.prog) 5 w n hn Tryz.underlying22 Tryz.underlying5 Tryz.underlying9
 go_enter Tryz.func53, Tryz.ntmps53
 go_wp2
 go_ret
 exact ⟨rfl, (Below.refl _ _).alloc (Nat.le_refl _) _⟩
set_option maxHeartbeats 400000 in
theorem sum_any (s : ByteArray) (w : World) (hs : s.size ≤ 8000) :
  Calls Tryz.prog 52 #[.string s] w fun e w' => e = .returned (.string (fourS (crcOf s))) ∧ Below w.heap.size w w' := by
 have HV := hideJ (moreV_crc s hs)
 have hn := crcOf_lt s
 generalize crcOf s = n at HV hn ⊢
 have hcv := four_conv (P := Tryz.prog) 104 w n hn Tryz.underlying22 Tryz.underlying5 Tryz.underlying9
 go_enter Tryz.func52, Tryz.ntmps52
 go_wp2_with fail
 refine (Cr.crc_impl0 s _ (by unfold maxLen; omega)).mono ?_
 rw [HV.out]
 rintro e w' ⟨rfl, hw⟩
 subst w'
 go_wp2
 refine wp_loop_rounds 5 ?_
 rw [rounds_succ]; go_wp2
 rw [rounds_succ]; go_wp2
 rw [rounds_succ]; go_wp2
 rw [rounds_succ]; go_wp2
 rw [rounds_succ]; go_wp2
 go_ret
 exact ⟨rfl, (Below.refl _ _).alloc (Nat.le_refl _) _⟩
set_option maxHeartbeats 400000 in
theorem seal_spec (t : ByteArray) (w : World) (ht : t.size ≤ maxLen) :
  Calls Tryz.prog 25 #[.string t] w fun e w' => e = .returned (.string (sealV t)) ∧ Below w.heap.size w w' := by
 unfold maxLen at ht
 by_cases h : 7996 < t.size
 ·have HP := hideJ (show sealV t = ⟨#[]⟩ by unfold sealV; rw [if_neg (by omega)])
  go_enter Tryz.func25, Tryz.ntmps25
  go_wp2
  go_ret
  exact ⟨ret_strJ HP.out.symm, Below.refl _ _⟩
 ·have HP := hideJ (show sealV t = t ++ fourS (crcOf t) by unfold sealV; rw [if_pos (by omega)])
  have hc := crcOf_lt t
  have hf := fourS_size (crcOf t)
  have HF := hideJ hf
  clear hf
  have hf4 : (fourS (crcOf t)).size ≤ 4 := by rw [HF.out]; omega
  go_enter Tryz.func25, Tryz.ntmps25
  go_wp2_with fail
  refine (Cr.crc_spec 0 t _ (by omega) (by omega)).mono ?_
  rintro e w' ⟨rfl, hw⟩
  subst w'
  go_wp2_with fail
  refine (four_any (crcOf t) _ hc).mono ?_
  rintro e w1 ⟨rfl, hb1⟩
  go_wp2
  go_ret
  exact ⟨ret_strJ HP.out.symm, hb1⟩
set_option maxHeartbeats 400000 in
theorem seal_impl (t : ByteArray) (w : World) (ht : t.size ≤ maxLen) :
  Calls Tryz.prog 21 #[.string t] w fun e w' => e = .returned (.string (sealV t)) ∧ Below w.heap.size w w' := by
 unfold maxLen at ht
 by_cases h : 7996 < t.size
 ·have HP := hideJ (show sealV t = ⟨#[]⟩ by unfold sealV; rw [if_neg (by omega)])
  go_enter Tryz.func21, Tryz.ntmps21
  go_wp2
  go_ret
  exact ⟨ret_strJ HP.out.symm, Below.refl _ _⟩
 ·have HP := hideJ (show sealV t = t ++ fourS (crcOf t) by unfold sealV; rw [if_pos (by omega)])
  have HF := hideJ (fourS_size (crcOf t))
  go_enter Tryz.func21, Tryz.ntmps21
  go_wp2_with fail
  refine (sum_any t _ (by omega)).mono ?_
  rintro e w1 ⟨rfl, hb1⟩
  go_wp2_with fail
  refine (Nu.join_any _ _ _ (by rw [HF.out]; omega)).mono ?_
  rintro e w2 ⟨rfl, hb2⟩
  go_wp2
  go_ret
  exact ⟨ret_strJ HP.out.symm, hb1.trans (hb2.mono hb1.size)⟩
end Go.Proofs.YthbpenanelbbcaaGreatDoor.Se


/- Plain mathematics of BlockPack: what a block is made. -/
namespace Go.Proofs.YthbpenanelbbcaaGreatDoor.Pk
open Go.Proofs.YthbpenanelbbcaaGreatDoor.Hf (up up_length up_at incs incs_length dep lenOf lenOf_facts syms mem_syms nats)
open Go.Proofs.YthbpenanelbbcaaGreatDoor.Bi (putR putR_yes putR_no putL okS whole whole_no above above_zero csum right right_yes packR)
open Go.Proofs.YthbpenanelbbcaaGreatDoor.So (bwtT bwtA)
open Go.Proofs.YthbpenanelbbcaaGreatDoor.Fr (frontR frontR_len)
open Go.Proofs.YthbpenanelbbcaaGreatDoor.Ze (zerosR zerosR_len zerosR_no zeros_back backR_no numsR numsR_yes upTo_yes)
open Go.Proofs.YthbpenanelbbcaaGreatDoor.Se (sealV)
theorem zerosR_mem (l : List Int) : ∀ x ∈ zerosR l, 0 ≤ x ∧ x ≤ 256 := by
 intro x hx
 cases h1 : numsR l 255 with
 | false =>
  rw [zerosR_no h1] at hx
  exact absurd hx (List.not_mem_nil)
 | true =>
  cases h2 : numsR (zerosR l) 256 with
  | true => exact upTo_yes (numsR_yes h2).2 x hx
  | false =>
   have h3 := zeros_back h1
   rw [backR_no h2] at h3
   subst h3
   have := zerosR_len []
   rw [List.eq_nil_of_length_eq_zero (show (zerosR []).length = 0 by simpa using this)] at hx
   exact absurd hx (List.not_mem_nil)
noncomputable def symS (b : ByteArray) : List Int := zerosR (frontR (bwtT b).data.toList)
theorem symS_mem (b : ByteArray) : ∀ x ∈ symS b, 0 ≤ x ∧ x ≤ 256 := zerosR_mem _
theorem symS_len (b : ByteArray) : (symS b).length ≤ 400 := Nat.le_trans (zerosR_len _) (frontR_len _)
noncomputable def lenS (b : ByteArray) : List Nat := lenOf (countsN (symS b))
noncomputable def headS (b : ByteArray) : List Int := [(b.size : Int), ((bwtA b : Nat) : Int), ((symS b).length : Int), ((above (up (lenS b)) : Nat) : Int)]
noncomputable def bitsS (b : ByteArray) : ByteArray := packR (putR (up (lenS b)) (symS b))
noncomputable def shortL (b : ByteArray) : List UInt8 := [1] ++ (numsL (headS b) ++ (numsL (rowT (lenS b) 257) ++ (bitsS b).data.toList))
noncomputable def shortV (b : ByteArray) : ByteArray := ⟨(shortL b).toArray⟩
noncomputable def plainV (b : ByteArray) : ByteArray := ⟨(0 :: b.data.toList).toArray⟩
noncomputable def innerV (b : ByteArray) : ByteArray := if (shortV b).size < b.size + 1 then shortV b else plainV b
noncomputable def packB (b : ByteArray) : ByteArray := if 48 < b.size then ⟨#[]⟩ else sealV (innerV b)
theorem plainV_size (b : ByteArray) : (plainV b).size = b.size + 1 := by
 show (0 :: b.data.toList).toArray.size = _
 simp
theorem lenS_facts (b : ByteArray) : (lenS b).length = 257 ∧ (∀ i, (lenS b).getD i 0 ≤ 12) ∧ (∀ i, 0 < (lenS b).getD i 0 ↔ i ∈ syms (countsN (symS b)) 257) ∧ (0 < (syms (countsN (symS b)) 257).length → whole (up (lenS b)) = true) := by
 have h := lenOf_facts (countsN (symS b)) (by rw [countsN_length]; decide)
 rw [countsN_length] at h
 exact h
theorem incs_mono (s : List Nat) : ∀ (d : List Nat) (j : Nat), (∀ k ∈ s, k < d.length) → d.getD j 0 ≤ (incs d s).getD j 0 := by
 unfold incs
 induction s with
 | nil => intro d j _; exact Nat.le_refl _
 | cons k s ih =>
  intro d j h
  have hk := h k (List.mem_cons_self ..)
  rw [List.foldl_cons]
  refine Nat.le_trans ?_ (ih (d.set k (d.getD k 0 + 1)) j fun x hx => by rw [List.length_set]; exact h x (List.mem_cons_of_mem _ hx))
  rw [Hf.getD_set _ _ _ _ hk]
  split
  ·rename_i e
   subst e
   omega
  ·exact Nat.le_refl _
theorem incs_pos (s : List Nat) : ∀ (d : List Nat) (j : Nat), (∀ k ∈ s, k < d.length) → j ∈ s → 0 < (incs d s).getD j 0 := by
 induction s with
 | nil => intro d j _ hj; exact absurd hj (List.not_mem_nil)
 | cons k s ih =>
  intro d j h hj
  have hk := h k (List.mem_cons_self ..)
  have hr : ∀ x ∈ s, x < (d.set k (d.getD k 0 + 1)).length := fun x hx => by rw [List.length_set]; exact h x (List.mem_cons_of_mem _ hx)
  have e : incs d (k :: s) = incs (d.set k (d.getD k 0 + 1)) s := rfl
  rw [e]
  rcases List.mem_cons.1 hj with rfl | hj
  ·have := incs_mono s (d.set j (d.getD j 0 + 1)) j hr
   rw [Hf.getD_set _ _ _ _ hk, if_pos rfl] at this
   omega
  ·exact ih _ j hr hj
theorem nats_lt (s : List Int) (h : ∀ x ∈ s, 0 ≤ x ∧ x ≤ 256) : ∀ k ∈ nats s, k < (Hf.zeros 257).length := by
 intro k hk
 obtain ⟨x, hx, rfl⟩ := List.mem_map.1 hk
 have := h x hx
 rw [zeros_length]
 omega
theorem symS_ok (b : ByteArray) : ∀ x ∈ symS b, okS (up (lenS b)) x := by
 intro x hx
 have h := symS_mem b x hx
 obtain ⟨h1, h2, h3, _⟩ := lenS_facts b
 refine ⟨h.1, by rw [up_length, h1]; omega, ?_⟩
 have hp : 0 < (lenS b).getD x.toNat 0 := (h3 x.toNat).2 (mem_syms.2 ⟨by omega, incs_pos (nats (symS b)) _ _ (nats_lt _ (symS_mem b)) (List.mem_map.2 ⟨x, hx, rfl⟩)⟩)
 have hl : x.toNat < (lenS b).length := by omega
 have := up_at (lenS b) x.toNat hl
 rw [List.getD_eq_getElem?_getD, List.getElem?_eq_getElem (show x.toNat < (up (lenS b)).length by rw [up_length]; exact hl), this]
 show (0 : Int) < (((lenS b).getD x.toNat 0 : Nat) : Int)
 omega
theorem above_pos {l : List Int} (h : 0 < above l) : ∃ x ∈ l, 0 < x := by
 refine Classical.byContradiction fun hn => ?_
 have : above l = 0 := by
  unfold above
  rw [List.countP_eq_zero]
  intro x hx
  simp only [decide_eq_true_eq]
  exact fun h0 => hn ⟨x, hx, h0⟩
 omega
theorem lenS_whole (b : ByteArray) (h : 0 < above (up (lenS b))) : whole (up (lenS b)) = true := by
 obtain ⟨_, _, h3, h4⟩ := lenS_facts b
 obtain ⟨x, hx, h0⟩ := above_pos h
 obtain ⟨j, hj, rfl⟩ := List.getElem_of_mem hx
 rw [up_length] at hj
 rw [up_at _ _ hj] at h0
 exact h4 (List.length_pos_of_mem ((h3 j).1 (by omega)))
theorem bits_none (b : ByteArray) (h : above (up (lenS b)) = 0) : putR (up (lenS b)) (symS b) = ⟨#[]⟩ := by
 refine putR_no (.inr ?_)
 obtain ⟨h1, _⟩ := above_zero _ h
 unfold whole
 rw [h, h1]
 simp
theorem bits_some (b : ByteArray) (h : 0 < above (up (lenS b))) : putR (up (lenS b)) (symS b) = ⟨(putL (up (lenS b)) (symS b)).toArray⟩ := putR_yes (by have := symS_len b; omega) (lenS_whole b h) (symS_ok b)
theorem bits_size (b : ByteArray) : (putR (up (lenS b)) (symS b)).size ≤ 4800 := by
 by_cases h : above (up (lenS b)) = 0
 ·rw [bits_none b h]
  decide
 ·rw [bits_some b (by omega)]
  have h1 := Bi.putL_le (up (lenS b)) (Bi.whole_ok (lenS_whole b (by omega))) (symS b)
  have h2 := symS_len b
  show (putL (up (lenS b)) (symS b)).toArray.size ≤ 4800
  rw [List.size_toArray]
  omega
theorem lens_counts (b : ByteArray) : Hf.lensR (up (countsN (symS b))) = up (lenS b) := by
 have hn : nats (up (countsN (symS b))) = countsN (symS b) := by
  unfold nats up
  rw [List.map_map]
  conv => rhs; rw [← List.map_id (countsN (symS b))]
  exact List.map_congr_left fun x _ => by simp
 unfold Hf.lensR
 rw [if_pos, hn]
 ·rfl
 ·refine Bi.within_of (by rw [up_length, countsN_length]; decide) fun x hx => ?_
  obtain ⟨y, hy, rfl⟩ := List.mem_map.1 hx
  obtain ⟨j, hj, rfl⟩ := List.getElem_of_mem hy
  have h1 := counts_le (symS b) (symS_mem b) (nats (symS b)).length j
  rw [List.take_length] at h1
  have h2 := symS_len b
  have e : (countsN (symS b)).getD j 0 = (countsN (symS b))[j] := by rw [List.getD_eq_getElem?_getD, List.getElem?_eq_getElem hj]; rfl
  have h3 : (countsN (symS b)).getD j 0 ≤ (symS b).length := h1
  omega
end Go.Proofs.YthbpenanelbbcaaGreatDoor.Pk


/- Plain mathematics of codes got again: no code begins another one. -/
namespace Go.Proofs.YthbpenanelbbcaaGreatDoor.Bi
open Go.RowKit
open Go.Proofs.YthbpenanelbbcaaGreatDoor.Sh (bt strF bt_strF strF_size strF_bt strF_congr bt_lt)
def wd (l : List Int) (i : Nat) : Nat := (l.getD i 0).toNat
theorem getD_lt {l : List Int} {i : Nat} (hi : i < l.length) : l.getD i 0 = l[i] := by rw [List.getD_eq_getElem?_getD, List.getElem?_eq_getElem hi]; rfl
def start (l : List Int) (i : Nat) : Nat := cnum l i * 2 ^ (12 - wd l i)
theorem start_eq (l : List Int) (i : Nat) (h1 : 1 ≤ wd l i) (h2 : wd l i ≤ 12) : start l i = low l (wd l i - 1) + cnt (l.take i) (wd l i : Nat) * 2 ^ (12 - wd l i) := by
 have h3 := outN_low l (wd l i - 1) (by omega)
 unfold start cnum innN
 rw [← h3]
 show (2 * outN l (wd l i - 1) + cnt (l.take i) ((wd l i : Nat) : Int)) * 2 ^ (12 - wd l i) = _
 rw [Nat.add_mul, show 12 - (wd l i - 1) = 12 - wd l i + 1 by omega, Nat.pow_succ, Nat.mul_comm 2 (outN l (wd l i - 1)), Nat.mul_assoc, Nat.mul_comm 2]
theorem wd_int {l : List Int} {i : Nat} (h : 0 < l.getD i 0) : l.getD i 0 = ((wd l i : Nat) : Int) := by unfold wd; omega
theorem low_mono (l : List Int) (a b : Nat) (h : a ≤ b) : low l a ≤ low l b := by
 induction b with
 | zero => rw [show a = 0 by omega]; exact Nat.le_refl _
 | succ b ih =>
  by_cases e : a = b + 1
  ·rw [e]; exact Nat.le_refl _
  ·have := ih (by omega)
   have h2 := low_succ l b
   omega
theorem start_end (l : List Int) (i : Nat) (hi : i < l.length) (h0 : 0 < l.getD i 0) (h2 : wd l i ≤ 12) : start l i + 2 ^ (12 - wd l i) ≤ low l (wd l i) := by
 have h1 : 1 ≤ wd l i := by unfold wd; omega
 have e : l[i] = ((wd l i : Nat) : Int) := by rw [← getD_lt hi]; exact wd_int h0
 have hc := cnt_here hi e
 have hl := low_succ l (wd l i - 1)
 rw [show wd l i - 1 + 1 = wd l i by omega] at hl
 rw [start_eq l i h1 h2, hl]
 have : (cnt (l.take i) ((wd l i : Nat) : Int) + 1) * 2 ^ (12 - wd l i) ≤ cnt l ((wd l i : Nat) : Int) * 2 ^ (12 - wd l i) := Nat.mul_le_mul_right _ hc
 rw [Nat.add_mul, Nat.one_mul] at this
 omega
theorem start_apart (l : List Int) (i j : Nat) (hi : i < l.length) (h0 : 0 < l.getD i 0) (h0' : 0 < l.getD j 0) (h12 : wd l i ≤ 12) (h12' : wd l j ≤ 12) (h : wd l i < wd l j ∨ (wd l i = wd l j ∧ i < j)) (_hj : j < l.length) :
  start l i + 2 ^ (12 - wd l i) ≤ start l j := by
 have h1' : 1 ≤ wd l j := by unfold wd; omega
 have h1 : 1 ≤ wd l i := by unfold wd; omega
 rcases h with h | ⟨h, hij⟩
 ·have a1 := start_end l i hi h0 h12
  have a2 := low_mono l (wd l i) (wd l j - 1) (by omega)
  have a3 := start_eq l j h1' h12'
  omega
 ·have e : l[i] = ((wd l i : Nat) : Int) := by rw [← getD_lt hi]; exact wd_int h0
  have c1 := cnt_more hi ((wd l i : Nat) : Int)
  rw [if_pos e] at c1
  have c2 : cnt (l.take (i + 1)) ((wd l i : Nat) : Int) ≤ cnt (l.take j) ((wd l i : Nat) : Int) := by
   have := cnt_take (l.take j) ((wd l i : Nat) : Int) (i + 1)
   rw [List.take_take, Nat.min_eq_left (by omega)] at this
   exact this
  rw [start_eq l i h1 h12, start_eq l j h1' h12', ← h]
  have : (cnt (l.take i) ((wd l i : Nat) : Int) + 1) * 2 ^ (12 - wd l i) ≤ cnt (l.take j) ((wd l i : Nat) : Int) * 2 ^ (12 - wd l i) := Nat.mul_le_mul_right _ (by omega)
  rw [Nat.add_mul, Nat.one_mul] at this
  omega
theorem bt_extract (t : ByteArray) (a b j : Nat) (hj : a + j < b) (_hb : b ≤ t.size) : bt (t.extract a b) j = bt t (a + j) := by
 unfold bt
 have h1 : (t.extract a b).data.toList = (t.data.toList.take b).drop a := by
  rw [ByteArray.data_extract, Array.toList_extract]
  simp [List.extract_eq_take_drop, List.drop_take]
 rw [h1, List.getD_eq_getElem?_getD, List.getD_eq_getElem?_getD, List.getElem?_drop, List.getElem?_take_of_lt hj]
def val (t : ByteArray) : Nat → Nat
 | 0 => 0
 | r + 1 => 2 * val t r + (bt t r - 48)
theorem val_of (t : ByteArray) (n v : Nat) (hn : n < 2 ^ v) (h : ∀ j, j < v → bt t j = bitB n (v - 1 - j)) : ∀ r, r ≤ v → val t r = n / 2 ^ (v - r) := by
 intro r
 induction r with
 | zero => intro _; rw [Nat.sub_zero, Nat.div_eq_of_lt hn]; rfl
 | succ r ih =>
  intro hr
  simp only [val]
  rw [ih (by omega), h r (by omega)]
  unfold bitB
  rw [show v - r = v - (r + 1) + 1 by omega, Nat.pow_succ, ← Nat.div_div_eq_div_mul, show v - 1 - r = v - (r + 1) by omega]
  omega
def mt (l : List Int) (t : ByteArray) (i : Nat) : Prop := i < l.length ∧ 0 < l.getD i 0 ∧ wd l i ≤ t.size ∧ t.extract 0 (wd l i) = codeOf l i
theorem cnum_fits {l : List Int} (hr : csum l ≤ 4096) {i : Nat} (hi : i < l.length) (h0 : 0 < l.getD i 0) (h2 : wd l i ≤ 12) : cnum l i < 2 ^ wd l i := by
 have h1 : 1 ≤ wd l i := by unfold wd; omega
 have e : l[i] = ((wd l i - 1 + 1 : Nat) : Int) := by rw [show wd l i - 1 + 1 = wd l i by omega, ← getD_lt hi]; exact wd_int h0
 have := inn_fits hr (v := wd l i - 1) (by omega) hi e
 rw [show wd l i - 1 + 1 = wd l i by omega] at this
 exact this
theorem mt_val {l : List Int} (hr : csum l ≤ 4096) {t : ByteArray} {i : Nat} (h : mt l t i) (h12 : wd l i ≤ 12) : ∀ r, r ≤ wd l i → val t r = cnum l i / 2 ^ (wd l i - r) := by
 obtain ⟨hi, h0, hs, he⟩ := h
 refine val_of t (cnum l i) (wd l i) (cnum_fits hr hi h0 h12) fun j hj => ?_
 have h1 := bt_extract t 0 (wd l i) j (by omega) hs
 rw [Nat.zero_add, he] at h1
 rw [← h1]
 unfold codeOf
 rw [if_pos h0]
 exact bt_strF _ _ j hj (bitB_lt _ _)
theorem mt_start {l : List Int} (hr : csum l ≤ 4096) {t : ByteArray} {i j : Nat} (hi : mt l t i) (hj : mt l t j) (h12 : wd l i ≤ 12) (h12' : wd l j ≤ 12) (h : wd l i ≤ wd l j) : start l j < start l i + 2 ^ (12 - wd l i) := by
 have a1 := mt_val hr hi h12 (wd l i) (Nat.le_refl _)
 have a2 := mt_val hr hj h12' (wd l i) h
 rw [Nat.sub_self, Nat.pow_zero, Nat.div_one] at a1
 rw [a1] at a2
 have a3 : cnum l j < (cnum l i + 1) * 2 ^ (wd l j - wd l i) := by
  rw [a2]
  exact Nat.lt_mul_of_div_lt (Nat.lt_succ_self _) (Nat.pow_pos (by decide))
 unfold start
 have a4 : cnum l j * 2 ^ (12 - wd l j) < (cnum l i + 1) * 2 ^ (wd l j - wd l i) * 2 ^ (12 - wd l j) := Nat.mul_lt_mul_of_pos_right a3 (Nat.pow_pos (by decide))
 rw [Nat.mul_assoc, ← Nat.pow_add, show wd l j - wd l i + (12 - wd l j) = 12 - wd l i by omega, Nat.add_mul, Nat.one_mul] at a4
 exact a4
theorem mt_one {l : List Int} (hr : csum l ≤ 4096) (hok : ∀ x ∈ l, 0 ≤ x ∧ x ≤ 12) {t : ByteArray} {i j : Nat} (hi : mt l t i) (hj : mt l t j) : i = j := by
 have w12 : ∀ k, k < l.length → wd l k ≤ 12 := fun k hk => by
  have := hok _ (List.getElem_mem hk)
  unfold wd
  rw [getD_lt hk]
  omega
 have hi12 := w12 i hi.1
 have hj12 := w12 j hj.1
 rcases Nat.lt_trichotomy (wd l i) (wd l j) with h | h | h
 ·have b1 := start_apart l i j hi.1 hi.2.1 hj.2.1 hi12 hj12 (Or.inl h) hj.1
  have b2 := mt_start hr hi hj hi12 hj12 (by omega)
  omega
 ·rcases Nat.lt_trichotomy i j with h' | h' | h'
  ·have b1 := start_apart l i j hi.1 hi.2.1 hj.2.1 hi12 hj12 (Or.inr ⟨h, h'⟩) hj.1
   have b2 := mt_start hr hi hj hi12 hj12 (by omega)
   omega
  ·exact h'
  ·have b1 := start_apart l j i hj.1 hj.2.1 hi.2.1 hj12 hi12 (Or.inr ⟨h.symm, h'⟩) hi.1
   have b2 := mt_start hr hj hi hj12 hi12 (by omega)
   omega
 ·have b1 := start_apart l j i hj.1 hj.2.1 hi.2.1 hj12 hi12 (Or.inl h) hi.1
  have b2 := mt_start hr hj hi hj12 hi12 (by omega)
  omega
end Go.Proofs.YthbpenanelbbcaaGreatDoor.Bi

