/- Texts put together: FrontPlain, ZeroBack, CrcPlain. -/
import Derived.Test.YtmkpakhpjgocjaaGreatPz8
import Derived.Test.YtmkpakhpjgocjaaGreatPz3
import Derived.Laws.BitsAllLaws
/- Plain mathematics of the row of all bytes: a byte is brought to its front, and looked for. -/
namespace Go.Proofs.YtmkpakhpjgocjaaGreat.Fr
open Go.RowKit
open Go.Proofs.YtmkpakhpjgocjaaGreat.Sh (upd)
open Go.Proofs.YtmkpakhpjgocjaaGreat.Ze (numsR hideZ)

/-- what is at a place comes to the front -/
def front (f : Nat → Int) (k : Nat) : Nat → Int := fun j => if j = 0 then f k else if j ≤ k then f (j - 1) else f j
/-- the row as it is at first -/
def row0 : Nat → Int := fun j => (j : Int)
/-- where a byte is, first of all -/
def look (f : Nat → Int) (c : Int) : Nat := (List.range 256).findIdx fun k => f k == c
/-- every byte is in the row; nothing else is -/
def Full (f : Nat → Int) : Prop := (∀ c : Nat, c < 256 → ∃ k, k < 256 ∧ f k = c) ∧ ∀ k, k < 256 → 0 ≤ f k ∧ f k < 256
theorem full0 : Full row0 := ⟨fun c h => ⟨c, h, rfl⟩, fun k h => by unfold row0; omega⟩
theorem front_zero (f : Nat → Int) (k : Nat) : front f k 0 = f k := if_pos rfl
theorem front_low (f : Nat → Int) (k j : Nat) (h0 : j ≠ 0) (h : j ≤ k) : front f k j = f (j - 1) := by
  unfold front
  rw [if_neg h0, if_pos h]
theorem front_high (f : Nat → Int) (k j : Nat) (h : k < j) : front f k j = f j := by
  unfold front
  rw [if_neg (by omega), if_neg (by omega)]
theorem Full.front {f : Nat → Int} (h : Full f) (k : Nat) (hk : k < 256) : Full (front f k) := by
  refine ⟨fun c hc => ?_, fun j hj => ?_⟩
  · obtain ⟨i, hi, e⟩ := h.1 c hc
    rcases Nat.lt_trichotomy i k with hl | hl | hl
    · exact ⟨i + 1, by omega, by rw [front_low f k (i + 1) (by omega) (by omega)]; exact e⟩
    · exact ⟨0, by omega, by rw [front_zero, ← hl]; exact e⟩
    · exact ⟨i, hi, by rw [front_high f k i hl]; exact e⟩
  · by_cases h0 : j = 0
    · subst h0; rw [front_zero]; exact h.2 k hk
    · by_cases h1 : j ≤ k
      · rw [front_low f k j h0 h1]; exact h.2 (j - 1) (by omega)
      · rw [front_high f k j (by omega)]; exact h.2 j hj
theorem look_of {f : Nat → Int} {c : Int} {k : Nat} (hk : k < 256) (h : f k = c) (hn : ∀ i, i < k → f i ≠ c) : look f c = k := by
  unfold look
  rw [List.findIdx_eq (by simpa using hk)]
  refine ⟨by simpa using h, fun j hj => by
    simpa using hn j hj⟩
theorem find_get (N : Nat) (p : Nat → Bool) (h : (List.range N).findIdx p < (List.range N).length) : p ((List.range N).findIdx p) = true := by
  have h1 := List.findIdx_getElem (xs := List.range N) (p := p) (w := h)
  have h2 : (List.range N)[(List.range N).findIdx p] = (List.range N).findIdx p := List.getElem_range h
  rw [h2] at h1
  exact h1
theorem look_some {f : Nat → Int} (hf : Full f) {c : Nat} (hc : c < 256) : look f c < 256 ∧ f (look f c) = c ∧ ∀ i, i < look f c → f i ≠ c := by
  obtain ⟨k, hk, e⟩ := hf.1 c hc
  have hlt : look f c < (List.range 256).length := by
    unfold look
    rw [List.findIdx_lt_length]
    exact ⟨k, by simpa using hk, by simpa using e⟩
  have h1 : look f c < 256 := by simpa using hlt
  refine ⟨h1, ?_, fun i hi => ?_⟩
  · exact beq_iff_eq.1 (find_get 256 (fun k => f k == (c : Int)) hlt)
  · have h2 : i < (List.range 256).findIdx fun k => f k == (c : Int) := hi
    have := List.not_of_lt_findIdx h2
    simpa using this

/-- the places told of the first bytes, and the row behind them -/
def fstep (s : List Int × (Nat → Int)) (c : UInt8) : List Int × (Nat → Int) := (s.1 ++ [(look s.2 c.toNat : Int)], front s.2 (look s.2 c.toNat))
def fst' (l : List UInt8) : List Int × (Nat → Int) := l.foldl fstep ([], row0)
theorem takeB {α : Type} {l : List α} {k : Nat} (h : k < l.length) : l.take (k + 1) = l.take k ++ [l[k]] := List.take_succ_eq_append_getElem h
theorem fst_more {l : List UInt8} {k : Nat} (h : k < l.length) : fst' (l.take (k + 1)) = ((fst' (l.take k)).1 ++ [(look (fst' (l.take k)).2 l[k].toNat : Int)], front (fst' (l.take k)).2 (look (fst' (l.take k)).2 l[k].toNat)) := by
  unfold fst'
  rw [takeB h, List.foldl_append]
  rfl
theorem fst_full (l : List UInt8) : ∀ k, k ≤ l.length → Full (fst' (l.take k)).2 ∧ (fst' (l.take k)).1.length = k := by
  intro k
  induction k with
  | zero => intro _; exact ⟨full0, rfl⟩
  | succ k ih =>
    intro hk
    obtain ⟨h1, h2⟩ := ih (by omega)
    rw [fst_more hk]
    refine ⟨h1.front _ (look_some h1 (c := l[k].toNat) (UInt8.toNat_lt _)).1, ?_⟩
    simp [h2]
/-- FrontOf -/
def frontR (l : List UInt8) : List Int := if l.length ≤ 400 then (fst' l).1 else []
theorem frontR_yes {l : List UInt8} (h : l.length ≤ 400) : frontR l = (fst' l).1 := if_pos h
theorem frontR_no {l : List UInt8} (h : 400 < l.length) : frontR l = [] := if_neg (by omega)
theorem frontR_len (l : List UInt8) : (frontR l).length ≤ 400 := by
  by_cases h : l.length ≤ 400
  · rw [frontR_yes h]
    have := (fst_full l l.length (Nat.le_refl _)).2
    rw [List.take_length] at this
    omega
  · rw [frontR_no (by omega)]
    exact Nat.zero_le _

/-- the bytes told by the first places, and the row behind them -/
def kstep (s : List UInt8 × (Nat → Int)) (n : Int) : List UInt8 × (Nat → Int) := (s.1 ++ [UInt8.ofNat (s.2 n.toNat).toNat], front s.2 n.toNat)
def kst (l : List Int) : List UInt8 × (Nat → Int) := l.foldl kstep ([], row0)
theorem kst_more {l : List Int} {k : Nat} (h : k < l.length) : kst (l.take (k + 1)) = ((kst (l.take k)).1 ++ [UInt8.ofNat ((kst (l.take k)).2 l[k].toNat).toNat], front (kst (l.take k)).2 l[k].toNat) := by
  unfold kst
  rw [takeB h, List.foldl_append]
  rfl
theorem kst_full (l : List Int) (hl : ∀ x ∈ l, 0 ≤ x ∧ x ≤ 255) : ∀ k, k ≤ l.length → Full (kst (l.take k)).2 ∧ (kst (l.take k)).1.length = k := by
  intro k
  induction k with
  | zero => intro _; exact ⟨full0, rfl⟩
  | succ k ih =>
    intro hk
    obtain ⟨h1, h2⟩ := ih (by omega)
    have := hl _ (List.getElem_mem (l := l) (n := k) hk)
    rw [kst_more hk]
    refine ⟨h1.front _ (by omega), ?_⟩
    simp [h2]
/-- FrontBack -/
def fbackR (l : List Int) : List UInt8 := if numsR l 255 = true then (kst l).1 else []
theorem fbackR_yes {l : List Int} (h : numsR l 255 = true) : fbackR l = (kst l).1 := if_pos h
theorem fbackR_no {l : List Int} (h : numsR l 255 = false) : fbackR l = [] := if_neg (by rw [h]; decide)

/-- what is told comes back -/
theorem kst_fst (l : List UInt8) : ∀ k, k ≤ l.length → kst (fst' (l.take k)).1 = (l.take k, (fst' (l.take k)).2) := by
  intro k
  induction k with
  | zero => intro _; rfl
  | succ k ih =>
    intro hk
    have hf := (fst_full l k (by omega)).1
    obtain ⟨h1, h2, _⟩ := look_some hf (c := l[k].toNat) (UInt8.toNat_lt _)
    rw [fst_more hk]
    simp only
    rw [kst, List.foldl_append]
    have e := ih (by omega)
    unfold kst at e
    rw [e]
    simp only [List.foldl_cons, List.foldl_nil, kstep]
    rw [takeB hk]
    congr 1
    · congr 1
      rw [Int.toNat_natCast, h2]
      simp
theorem front_back (l : List UInt8) (h : l.length ≤ 400) : fbackR (frontR l) = l := by
  have h0 := fst_full l l.length (Nat.le_refl _)
  have hk := kst_fst l l.length (Nat.le_refl _)
  rw [List.take_length] at h0 hk
  rw [frontR_yes h, fbackR_yes, hk]
  have hall : ∀ k, k ≤ l.length → ∀ x ∈ (fst' (l.take k)).1, 0 ≤ x ∧ x ≤ 255 := by
    intro k
    induction k with
    | zero => intro _ x hx; cases hx
    | succ k ih =>
      intro hk x hx
      have hf := (fst_full l k (by omega)).1
      obtain ⟨h1, _, _⟩ := look_some hf (c := l[k].toNat) (UInt8.toNat_lt _)
      rw [fst_more hk] at hx
      rcases List.mem_append.1 hx with hx | hx
      · exact ih (by omega) x hx
      · rw [List.mem_singleton.1 hx]
        omega
  have := hall l.length (Nat.le_refl _)
  rw [List.take_length] at this
  unfold numsR
  rw [decide_eq_true (by omega), Ze.upTo_of this]
  rfl
end Go.Proofs.YtmkpakhpjgocjaaGreat.Fr

/- Plain mathematics: zeros side by side, there and back. -/
namespace Go.Proofs.YtmkpakhpjgocjaaGreat.Ze
open Go.RowKit

theorem zrun_back (r : Nat) : ∀ (s : List Int) (v : Nat), ((zrun r).foldl bstep (s, v)).1 = s ++ List.replicate (v * r) 0 := by
  induction r using Nat.strongRecOn with
  | ind r ih =>
    intro s v
    by_cases h0 : r = 0
    · subst h0
      rw [zrun_zero]
      simp
    · by_cases h1 : r % 2 = 1
      · rw [zrun_odd h1, List.foldl_cons, bstep, if_neg (by omega), ih ((r - 1) / 2) (by omega), List.append_assoc, List.replicate_append_replicate]
        congr 2
        obtain ⟨q, rfl⟩ : ∃ q, r = 2 * q + 1 := ⟨(r - 1) / 2, by omega⟩
        rw [show (2 * q + 1 - 1) / 2 = q by omega, Nat.mul_add, Nat.mul_assoc]
        simp
        omega
      · rw [zrun_even (by omega) h1, List.foldl_cons, bstep, if_neg (by omega), ih ((r - 2) / 2) (by omega), List.append_assoc, List.replicate_append_replicate]
        congr 2
        obtain ⟨q, rfl⟩ : ∃ q, r = 2 * q + 2 := ⟨(r - 2) / 2, by omega⟩
        rw [show (2 * q + 2 - 2) / 2 = q by omega, Nat.mul_add, Nat.mul_assoc]
        simp
        omega
theorem zst_back (l : List Int) (h : ∀ x ∈ l, 0 ≤ x ∧ x ≤ 255) : ∀ k, k ≤ l.length → (bst (zst (l.take k)).1).2 = 1 ∧ (bst (zst (l.take k)).1).1 ++ List.replicate (zst (l.take k)).2 0 = l.take k := by
  intro k
  induction k with
  | zero => intro _; simp [zst, bst]
  | succ k ih =>
    intro hk
    obtain ⟨h1, h2⟩ := ih (by omega)
    have hx := h _ (List.getElem_mem (show k < l.length by omega))
    by_cases h0 : l[k] = 0
    · rw [zst_zero hk h0]
      refine ⟨h1, ?_⟩
      show (bst (zst (l.take k)).1).1 ++ List.replicate ((zst (l.take k)).2 + 1) 0 = _
      rw [Bi.take_more hk, h0, List.replicate_succ', ← List.append_assoc, h2]
    · rw [zst_other hk h0]
      have e : bst ((zst (l.take k)).1 ++ zrun (zst (l.take k)).2 ++ [l[k] + 1]) = (l.take k ++ [l[k]], 1) := by
        have hb : bst (zst (l.take k)).1 = ((bst (zst (l.take k)).1).1, 1) := by rw [← h1]
        have hb2 : (zst (l.take k)).1.foldl bstep ([], 1) = ((bst (zst (l.take k)).1).1, 1) := hb
        unfold bst
        rw [List.foldl_append, List.foldl_append, hb2, List.foldl_cons, List.foldl_nil, bstep, if_pos (by omega), zrun_back, Nat.one_mul, h2]
        simp
      rw [e]
      refine ⟨rfl, ?_⟩
      rw [Bi.take_more hk]
      simp
theorem zeros_back {l : List Int} (h : numsR l 255 = true) : backR (zerosR l) = l := by
  obtain ⟨hl, hu⟩ := numsR_yes h
  have hx := upTo_yes hu
  obtain ⟨h1, h2⟩ := zst_back l hx l.length (Nat.le_refl _)
  rw [List.take_length] at h1 h2
  have hb : (bst (zerosR l)).1 = l := by
    rw [zerosR_yes h]
    have hb2 : (zst l).1.foldl bstep ([], 1) = ((bst (zst l).1).1, 1) := by
      show bst (zst l).1 = _
      rw [← h1]
    unfold bst
    rw [List.foldl_append, hb2, zrun_back, Nat.one_mul]
    exact h2
  have hm : ∀ k, k ≤ l.length → ∀ x ∈ (zst (l.take k)).1, 0 ≤ x ∧ x ≤ 256 := by
    intro k
    induction k with
    | zero => intro _ x hx; simp [zst] at hx
    | succ k ih =>
      intro hk x hxm
      have hy := hx _ (List.getElem_mem (show k < l.length by omega))
      by_cases h0 : l[k] = 0
      · rw [zst_zero hk h0] at hxm
        exact ih (by omega) x hxm
      · rw [zst_other hk h0] at hxm
        rcases List.mem_append.1 hxm with hxm | hxm
        · rcases List.mem_append.1 hxm with hxm | hxm
          · exact ih (by omega) x hxm
          · rcases zrun_mem _ x hxm with e | e <;> omega
        · rw [List.mem_singleton] at hxm
          omega
  have hn : numsR (zerosR l) 256 = true := by
    rw [numsR_of (Nat.le_trans (zerosR_len l) hl)]
    refine upTo_of fun x hxm => ?_
    rw [zerosR_yes h] at hxm
    rcases List.mem_append.1 hxm with hxm | hxm
    · have := hm l.length (Nat.le_refl _)
      rw [List.take_length] at this
      exact this x hxm
    · rcases zrun_mem _ x hxm with e | e <;> omega
  rw [backR_yes hn (by rw [hb]; exact hl), hb]
end Go.Proofs.YtmkpakhpjgocjaaGreat.Ze

/- Plain mathematics of the CRC: one bit's step of the register, one byte's, a text's; and how the model's operations on 32 bits say the same. -/
namespace Go.Proofs.YtmkpakhpjgocjaaGreat.Cr

def step (x : Nat) : Nat := if x % 2 = 1 then (x / 2) ^^^ 3988292384 else x / 2
def stepN : Nat → Nat → Nat
  | 0, x => x
  | k + 1, x => step (stepN k x)
def crc8 (r c : Nat) : Nat := stepN 8 (r ^^^ c)
def crcL (r : Nat) (l : List UInt8) : Nat := l.foldl (fun r b => crc8 r b.toNat) r
def fin (r : Nat) : Nat := r ^^^ 4294967295

theorem xor_lt {a b : Nat} (ha : a < 4294967296) (hb : b < 4294967296) : a ^^^ b < 4294967296 :=
  Nat.xor_lt_two_pow (n := 32) ha hb

theorem step_lt {x : Nat} (h : x < 4294967296) : step x < 4294967296 := by
  unfold step
  split
  · exact xor_lt (by omega) (by decide)
  · omega

theorem stepN_lt {x : Nat} (h : x < 4294967296) (k : Nat) : stepN k x < 4294967296 := by
  induction k with
  | zero => exact h
  | succ k ih => exact step_lt ih

theorem crc8_lt {r c : Nat} (h : r < 4294967296) (hc : c < 256) : crc8 r c < 4294967296 :=
  stepN_lt (xor_lt h (by omega)) 8

theorem crcL_lt (l : List UInt8) : ∀ r, r < 4294967296 → crcL r l < 4294967296 := by
  induction l with
  | nil => intro r h; exact h
  | cons b l ih => intro r h; exact ih _ (crc8_lt h b.toNat_lt)

theorem crcL_snoc (r : Nat) (l : List UInt8) (b : UInt8) : crcL r (l ++ [b]) = crc8 (crcL r l) b.toNat := by
  simp [crcL, List.foldl_append]

theorem take_snoc (s : ByteArray) (k : Nat) (h : k < s.size) : s.data.toList.take (k + 1) = s.data.toList.take k ++ [s[k]] := by
  rw [List.take_succ_eq_append_getElem (by simpa using h)]; rfl

theorem crcL_take (r : Nat) (s : ByteArray) (k : Nat) (h : k < s.size) : crcL r (s.data.toList.take (k + 1)) = crc8 (crcL r (s.data.toList.take k)) (s[k]).toNat := by
  rw [take_snoc s k h, crcL_snoc]

theorem fin_lt {r : Nat} (h : r < 4294967296) : fin r < 4294967296 := xor_lt h (by decide)

/-- what the program's own bit-by-bit register comes to, held against the register that has taken the byte at once -/
def implS (x c k : Nat) : Nat := if (x ^^^ c / 2 ^ k) % 2 = 1 then (x / 2) ^^^ 3988292384 else x / 2

theorem inv_step (x c k : Nat) : implS x c k ^^^ (c / 2 ^ (k + 1)) = step (x ^^^ c / 2 ^ k) := by
  have e : c / 2 ^ (k + 1) = (c / 2 ^ k) / 2 := by rw [Nat.pow_succ, Nat.div_div_eq_div_mul]
  unfold implS step
  rw [e, Nat.xor_div_two]
  split
  · rw [Nat.xor_assoc, Nat.xor_assoc, Nat.xor_comm 3988292384]
  · rfl

theorem implS_lt {x : Nat} (c k : Nat) (h : x < 4294967296) : implS x c k < 4294967296 := by
  unfold implS
  split
  · exact xor_lt (by omega) (by decide)
  · omega

/-! the walk's own spellings -/
theorem nat_pow_cast (c k : Nat) : ((c : Int) / 2 ^ k) = ((c / 2 ^ k : Nat) : Int) := by
  rw [Int.natCast_ediv, Int.natCast_pow]; rfl

theorem turned_eq (x c k : Nat) (hx : x < 4294967296) (hc : c < 256) :
    bits BinOp.and IntKind.u32 (bits BinOp.xor IntKind.u32 (x : Int) ((c : Int) / 2 ^ k % 4294967296)) 1 = (((x ^^^ c / 2 ^ k) % 2 : Nat) : Int) := by
  have h1 : c / 2 ^ k < 4294967296 := Nat.lt_of_le_of_lt (Nat.div_le_self _ _) (by omega)
  have e : ((c : Int) / 2 ^ k % 4294967296) = ((c / 2 ^ k : Nat) : Int) := by
    rw [nat_pow_cast]
    generalize c / 2 ^ k = q at h1 ⊢
    omega
  rw [e, u32_xor_nat _ _ hx h1]
  have := u32_and_nat (x ^^^ c / 2 ^ k) 1 (xor_lt hx h1) (by decide)
  rw [nat_mask1] at this
  exact this

theorem half_xor (x : Nat) (hx : x < 4294967296) : bits BinOp.xor IntKind.u32 ((x : Int) / 2) 3988292384 = (((x / 2) ^^^ 3988292384 : Nat) : Int) := by
  have e : ((x : Int) / 2) = ((x / 2 : Nat) : Int) := by omega
  rw [e]
  exact u32_xor_nat (x / 2) 3988292384 (by omega) (by decide)

theorem low_eq (x : Nat) (hx : x < 4294967296) : bits BinOp.and IntKind.u32 (x : Int) 1 = ((x % 2 : Nat) : Int) := by
  have := u32_and_nat x 1 hx (by decide)
  rw [nat_mask1] at this
  exact this

theorem not_eq (x : Nat) (hx : x < 4294967296) : bits BinOp.xor IntKind.u32 (x : Int) 4294967295 = ((fin x : Nat) : Int) :=
  u32_xor_nat x 4294967295 hx (by decide)

theorem not_eq' (x : Nat) (hx : x < 4294967296) : bits BinOp.xor IntKind.u32 IntKind.u32.max (x : Int) = ((fin x : Nat) : Int) := by
  rw [fin, Nat.xor_comm, show IntKind.u32.max = ((4294967295 : Nat) : Int) from rfl]
  exact u32_xor_nat 4294967295 x (by decide) hx
end Go.Proofs.YtmkpakhpjgocjaaGreat.Cr
