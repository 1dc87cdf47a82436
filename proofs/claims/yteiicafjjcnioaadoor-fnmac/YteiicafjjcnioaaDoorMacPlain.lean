/- Plain mathematics of a mac: a key at its full width, each byte put together with one. -/
import Derived.Test.YteiicafjjcnioaaDoorShaSum
namespace Go.Proofs.YteiicafjjcnioaaDoor.Sh

theorem bt_past (t : ByteArray) (j : Nat) (h : t.size ≤ j) : bt t j = 0 := by
  unfold bt
  have h1 : t.data.toList.length ≤ j := by simpa using h
  rw [List.getD_eq_getElem?_getD, List.getElem?_eq_none h1]
  rfl
theorem bt_of_copy (t : ByteArray) (j : Nat) : (if j < t.size then ((bt t j : Nat) : Int) else 0) = ((bt t j : Nat) : Int) := by
  by_cases h : j < t.size
  · rw [if_pos h]
  · rw [if_neg h, bt_past t j (by omega)]
    rfl
/-- the key's bytes, the first k of them put together with c -/
def xorK (t : ByteArray) (c k j : Nat) : Nat := if j < k then bt t j ^^^ c else bt t j
theorem xorK_lt (t : ByteArray) (c k j : Nat) (hc : c < 256) : xorK t c k j < 256 := by
  unfold xorK
  have := bt_lt t j
  split
  · exact Nat.xor_lt_two_pow (n := 8) this hc
  · exact this
theorem xorK_at (t : ByteArray) (c k : Nat) : xorK t c k k = bt t k := by simp [xorK]
theorem xorK_zero (t : ByteArray) (c j : Nat) : xorK t c 0 j = bt t j := by simp [xorK]
theorem xorK_next (t : ByteArray) (c k j : Nat) (v : Int) (hv : v = ((bt t k ^^^ c : Nat) : Int)) : upd (fun j => ((xorK t c k j : Nat) : Int)) k v j = ((xorK t c (k + 1) j : Nat) : Int) := by
  subst hv
  unfold upd xorK
  by_cases e : j = k
  · subst e; simp
  · have : (j < k + 1) = (j < k) := propext ⟨fun h => by omega, fun h => by omega⟩
    simp [e, this]
theorem xor_byte (t : ByteArray) (c k : Nat) (hc : c < 256) : bits BinOp.xor IntKind.u8 ((xorK t c k k : Nat) : Int) (c : Int) = ((bt t k ^^^ c : Nat) : Int) := by
  rw [xorK_at]
  exact u8_xor_nat _ _ (bt_lt t k) hc
def padV (t : ByteArray) (c : Nat) : ByteArray := strF 64 (fun j => bt t j ^^^ c)
theorem padV_size (t : ByteArray) (c : Nat) : (padV t c).size = 64 := strF_size _ _
theorem xorK_all (t : ByteArray) (c : Nat) : strF 64 (xorK t c 64) = padV t c := strF_congr 64 _ _ (fun j hj => by simp [xorK, hj])
def keyV (t : ByteArray) : ByteArray := if 64 < t.size then sha t else t
theorem keyV_long (t : ByteArray) (h : 64 < t.size) : keyV t = sha t := if_pos h
theorem keyV_short (t : ByteArray) (h : ¬ 64 < t.size) : keyV t = t := if_neg h
theorem keyV_size (t : ByteArray) : (keyV t).size ≤ 64 := by
  unfold keyV
  split
  · rw [sha_size]; decide
  · omega
def innerV (key text : ByteArray) : ByteArray := sha (padV (keyV key) 54 ++ text)
def macV (key text : ByteArray) : ByteArray := sha (padV (keyV key) 92 ++ innerV key text)
theorem macV_size (key text : ByteArray) : (macV key text).size = 32 := sha_size _
theorem padV_join (t s : ByteArray) (c : Nat) : (padV t c ++ s).size = 64 + s.size := by
  rw [ByteArray.size_append, padV_size]
end Go.Proofs.YteiicafjjcnioaaDoor.Sh
