/- Plain mathematics of the CRC: one bit's step of the register, one byte's, a text's; and how the model's operations on 32 bits say the same. -/
import Derived.Laws.BitsAllLaws
namespace Go.Proofs.Ytkkoeaohmfdlgaa.Cr

def step (x : Nat) : Nat := if x % 2 = 1 then (x / 2) ^^^ 3988292384 else x / 2
def stepN : Nat → Nat → Nat
  | 0, x => x
  | k + 1, x => step (stepN k x)
def crc8 (r c : Nat) : Nat := stepN 8 (r ^^^ c)
def crcL (r : Nat) (l : List UInt8) : Nat := l.foldl (fun r b => crc8 r b.toNat) r
def fin (r : Nat) : Nat := r ^^^ 4294967295

theorem xor_lt {a b : Nat} (ha : a < 4294967296) (hb : b < 4294967296) : a ^^^ b < 4294967296 :=
  Nat.xor_lt_two_pow (n := 32) ha hb

theorem step_lt {x : Nat} (h : x < 4294967296) : step x < 4294967296 := by
  unfold step
  split
  · exact xor_lt (by omega) (by decide)
  · omega

theorem stepN_lt {x : Nat} (h : x < 4294967296) (k : Nat) : stepN k x < 4294967296 := by
  induction k with
  | zero => exact h
  | succ k ih => exact step_lt ih

theorem crc8_lt {r c : Nat} (h : r < 4294967296) (hc : c < 256) : crc8 r c < 4294967296 :=
  stepN_lt (xor_lt h (by omega)) 8

theorem crcL_lt (l : List UInt8) : ∀ r, r < 4294967296 → crcL r l < 4294967296 := by
  induction l with
  | nil => intro r h; exact h
  | cons b l ih => intro r h; exact ih _ (crc8_lt h b.toNat_lt)

theorem crcL_snoc (r : Nat) (l : List UInt8) (b : UInt8) : crcL r (l ++ [b]) = crc8 (crcL r l) b.toNat := by
  simp [crcL, List.foldl_append]

theorem take_snoc (s : ByteArray) (k : Nat) (h : k < s.size) : s.data.toList.take (k + 1) = s.data.toList.take k ++ [s[k]] := by
  rw [List.take_succ_eq_append_getElem (by simpa using h)]; rfl

theorem crcL_take (r : Nat) (s : ByteArray) (k : Nat) (h : k < s.size) : crcL r (s.data.toList.take (k + 1)) = crc8 (crcL r (s.data.toList.take k)) (s[k]).toNat := by
  rw [take_snoc s k h, crcL_snoc]

theorem fin_lt {r : Nat} (h : r < 4294967296) : fin r < 4294967296 := xor_lt h (by decide)

/-- what the program's own bit-by-bit register comes to, held against the register that has taken the byte at once -/
def implS (x c k : Nat) : Nat := if (x ^^^ c / 2 ^ k) % 2 = 1 then (x / 2) ^^^ 3988292384 else x / 2

theorem inv_step (x c k : Nat) : implS x c k ^^^ (c / 2 ^ (k + 1)) = step (x ^^^ c / 2 ^ k) := by
  have e : c / 2 ^ (k + 1) = (c / 2 ^ k) / 2 := by rw [Nat.pow_succ, Nat.div_div_eq_div_mul]
  unfold implS step
  rw [e, Nat.xor_div_two]
  split
  · rw [Nat.xor_assoc, Nat.xor_assoc, Nat.xor_comm 3988292384]
  · rfl

theorem implS_lt {x : Nat} (c k : Nat) (h : x < 4294967296) : implS x c k < 4294967296 := by
  unfold implS
  split
  · exact xor_lt (by omega) (by decide)
  · omega

/-! the walk's own spellings -/
theorem nat_pow_cast (c k : Nat) : ((c : Int) / 2 ^ k) = ((c / 2 ^ k : Nat) : Int) := by
  rw [Int.natCast_ediv, Int.natCast_pow]; rfl

theorem turned_eq (x c k : Nat) (hx : x < 4294967296) (hc : c < 256) :
    bits BinOp.and IntKind.u32 (bits BinOp.xor IntKind.u32 (x : Int) ((c : Int) / 2 ^ k % 4294967296)) 1 = (((x ^^^ c / 2 ^ k) % 2 : Nat) : Int) := by
  have h1 : c / 2 ^ k < 4294967296 := Nat.lt_of_le_of_lt (Nat.div_le_self _ _) (by omega)
  have e : ((c : Int) / 2 ^ k % 4294967296) = ((c / 2 ^ k : Nat) : Int) := by
    rw [nat_pow_cast]
    generalize c / 2 ^ k = q at h1 ⊢
    omega
  rw [e, u32_xor_nat _ _ hx h1]
  have := u32_and_nat (x ^^^ c / 2 ^ k) 1 (xor_lt hx h1) (by decide)
  rw [nat_mask1] at this
  exact this

theorem half_xor (x : Nat) (hx : x < 4294967296) : bits BinOp.xor IntKind.u32 ((x : Int) / 2) 3988292384 = (((x / 2) ^^^ 3988292384 : Nat) : Int) := by
  have e : ((x : Int) / 2) = ((x / 2 : Nat) : Int) := by omega
  rw [e]
  exact u32_xor_nat (x / 2) 3988292384 (by omega) (by decide)

theorem low_eq (x : Nat) (hx : x < 4294967296) : bits BinOp.and IntKind.u32 (x : Int) 1 = ((x % 2 : Nat) : Int) := by
  have := u32_and_nat x 1 hx (by decide)
  rw [nat_mask1] at this
  exact this

theorem not_eq (x : Nat) (hx : x < 4294967296) : bits BinOp.xor IntKind.u32 (x : Int) 4294967295 = ((fin x : Nat) : Int) :=
  u32_xor_nat x 4294967295 hx (by decide)

theorem not_eq' (x : Nat) (hx : x < 4294967296) : bits BinOp.xor IntKind.u32 IntKind.u32.max (x : Int) = ((fin x : Nat) : Int) := by
  rw [fin, Nat.xor_comm, show IntKind.u32.max = ((4294967295 : Nat) : Int) from rfl]
  exact u32_xor_nat 4294967295 x (by decide) hx
end Go.Proofs.Ytkkoeaohmfdlgaa.Cr
