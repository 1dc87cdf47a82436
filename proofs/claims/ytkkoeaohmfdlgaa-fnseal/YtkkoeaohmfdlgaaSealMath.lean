/- Plain mathematics of seals: the register's steps lose nothing, so that a text with one byte turned has another CRC; and a CRC goes on from text to text. -/
import Derived.Test.YtkkoeaohmfdlgaaUnsealWalks
namespace Go.Proofs.Ytkkoeaohmfdlgaa.Se

theorem xrc {a b c : Nat} (h : a ^^^ c = b ^^^ c) : a = b := by
  have e := congrArg (· ^^^ c) h
  simpa [Nat.xor_assoc] using e
theorem xlc {a b c : Nat} (h : c ^^^ a = c ^^^ b) : a = b := by
  rw [Nat.xor_comm c a, Nat.xor_comm c b] at h
  exact xrc h

theorem top_bit (x : Nat) (h : x < 2147483648) : 2147483648 ≤ x ^^^ 3988292384 := by
  have h1 : (x ^^^ 3988292384).testBit 31 = true := by
    rw [Nat.testBit_xor, Nat.testBit_lt_two_pow (show x < 2 ^ 31 from h)]
    decide
  have := Nat.ge_two_pow_of_testBit h1
  exact this

theorem step_inj {x y : Nat} (hx : x < 4294967296) (hy : y < 4294967296) (h : Cr.step x = Cr.step y) : x = y := by
  unfold Cr.step at h
  by_cases ox : x % 2 = 1
  · by_cases oy : y % 2 = 1
    · rw [if_pos ox, if_pos oy] at h
      have := xrc h
      omega
    · rw [if_pos ox, if_neg oy] at h
      have := top_bit (x / 2) (by omega)
      omega
  · by_cases oy : y % 2 = 1
    · rw [if_neg ox, if_pos oy] at h
      have := top_bit (y / 2) (by omega)
      omega
    · rw [if_neg ox, if_neg oy] at h
      omega

theorem stepN_inj (k : Nat) : ∀ {x y : Nat}, x < 4294967296 → y < 4294967296 → Cr.stepN k x = Cr.stepN k y → x = y := by
  induction k with
  | zero => intro x y _ _ h; exact h
  | succ k ih => intro x y hx hy h; exact ih hx hy (step_inj (Cr.stepN_lt hx k) (Cr.stepN_lt hy k) h)

theorem crc8_inj_r {r r' c : Nat} (hr : r < 4294967296) (hr' : r' < 4294967296) (hc : c < 256) (h : Cr.crc8 r c = Cr.crc8 r' c) : r = r' :=
  xrc (stepN_inj 8 (Cr.xor_lt hr (by omega)) (Cr.xor_lt hr' (by omega)) h)

theorem crc8_inj_c {r c c' : Nat} (hr : r < 4294967296) (hc : c < 256) (hc' : c' < 256) (h : Cr.crc8 r c = Cr.crc8 r c') : c = c' :=
  xlc (stepN_inj 8 (Cr.xor_lt hr (by omega)) (Cr.xor_lt hr (by omega)) h)

theorem crcL_inj (l : List UInt8) : ∀ {r r' : Nat}, r < 4294967296 → r' < 4294967296 → Cr.crcL r l = Cr.crcL r' l → r = r' := by
  induction l with
  | nil => intro r r' _ _ h; exact h
  | cons b l ih =>
    intro r r' hr hr' h
    exact crc8_inj_r hr hr' b.toNat_lt (ih (Cr.crc8_lt hr b.toNat_lt) (Cr.crc8_lt hr' b.toNat_lt) h)

theorem crcL_append (r : Nat) (l1 l2 : List UInt8) : Cr.crcL r (l1 ++ l2) = Cr.crcL (Cr.crcL r l1) l2 := by
  simp [Cr.crcL, List.foldl_append]

/-- one byte turned: another register -/
theorem crcL_one (r : Nat) (hr : r < 4294967296) (l1 l2 : List UInt8) (b b' : UInt8) (h : Cr.crcL r (l1 ++ b :: l2) = Cr.crcL r (l1 ++ b' :: l2)) : b = b' := by
  rw [crcL_append, crcL_append] at h
  have h1 := Cr.crcL_lt l1 r hr
  have h2 : Cr.crcL (Cr.crc8 (Cr.crcL r l1) b.toNat) l2 = Cr.crcL (Cr.crc8 (Cr.crcL r l1) b'.toNat) l2 := h
  have h3 := crcL_inj l2 (Cr.crc8_lt h1 b.toNat_lt) (Cr.crc8_lt h1 b'.toNat_lt) h2
  exact UInt8.toNat_inj.1 (crc8_inj_c h1 b.toNat_lt b'.toNat_lt h3)

theorem fin_inj {x y : Nat} (h : Cr.fin x = Cr.fin y) : x = y := xrc h
theorem fin_fin (x : Nat) : Cr.fin (Cr.fin x) = x := by unfold Cr.fin; rw [Nat.xor_assoc, Nat.xor_self, Nat.xor_zero]

theorem fourL_inj {m n : Nat} (hm : m < 4294967296) (hn : n < 4294967296) (h : fourL m = fourL n) : m = n := by
  unfold fourL at h
  simp only [List.cons.injEq, and_true] at h
  obtain ⟨h0, h1, h2, h3⟩ := h
  have e : ∀ a b : Nat, a < 256 → b < 256 → UInt8.ofNat a = UInt8.ofNat b → a = b := by
    intro a b ha hb hab
    have := congrArg UInt8.toNat hab
    rw [UInt8.toNat_ofNat', UInt8.toNat_ofNat', Nat.mod_eq_of_lt ha, Nat.mod_eq_of_lt hb] at this
    exact this
  have e0 := e _ _ (by omega) (by omega) h0
  have e1 := e _ _ (by omega) (by omega) h1
  have e2 := e _ _ (by omega) (by omega) h2
  have e3 := e _ _ (by omega) (by omega) h3
  omega

/-- a sealed text as its bytes -/
def sealL (l : List UInt8) : List UInt8 := l ++ fourL (Cr.fin (Cr.crcL (Cr.fin 0) l))

theorem sealL_length (l : List UInt8) : (sealL l).length = l.length + 4 := by simp [sealL, fourL]

/-- one byte of a sealed text turned: it is no seal of any text -/
theorem sealL_one (l m : List UInt8) (i : Nat) (b : UInt8) (hi : i < (sealL l).length) (hb : (sealL l)[i]? ≠ some b) (h : sealL m = (sealL l).set i b) : False := by
  have hlen : m.length = l.length := by
    have := congrArg List.length h
    rw [sealL_length, List.length_set, sealL_length] at this
    omega
  rw [sealL_length] at hi
  by_cases hlt : i < l.length
  · have hset : (sealL l).set i b = l.set i b ++ fourL (Cr.fin (Cr.crcL (Cr.fin 0) l)) := by
      unfold sealL; rw [List.set_append_left _ _ hlt]
    rw [hset] at h
    unfold sealL at h
    have hp := List.append_inj h (by rw [List.length_set]; exact hlen)
    have hc := fin_inj (fourL_inj (Cr.fin_lt (Cr.crcL_lt _ _ (Cr.fin_lt (by decide)))) (Cr.fin_lt (Cr.crcL_lt _ _ (Cr.fin_lt (by decide)))) hp.2)
    rw [hp.1] at hc
    have e1 : l.set i b = l.take i ++ b :: l.drop (i + 1) := by rw [List.set_eq_take_append_cons_drop, if_pos hlt]
    have e2 : l = l.take i ++ l[i] :: l.drop (i + 1) := by rw [List.getElem_cons_drop hlt, List.take_append_drop]
    rw [e1] at hc
    have hc2 : Cr.crcL (Cr.fin 0) (l.take i ++ b :: l.drop (i + 1)) = Cr.crcL (Cr.fin 0) (l.take i ++ l[i] :: l.drop (i + 1)) := hc.trans (congrArg _ e2)
    have hbb := crcL_one (Cr.fin 0) (Cr.fin_lt (by decide)) _ _ _ _ hc2
    apply hb
    unfold sealL
    rw [List.getElem?_append_left hlt, List.getElem?_eq_getElem hlt, hbb]
  · have hset : (sealL l).set i b = l ++ (fourL (Cr.fin (Cr.crcL (Cr.fin 0) l))).set (i - l.length) b := by
      unfold sealL; rw [List.set_append_right _ _ (by omega)]
    rw [hset] at h
    have hp := List.append_inj (show m ++ fourL (Cr.fin (Cr.crcL (Cr.fin 0) m)) = _ from h) hlen
    have e3 := hp.2
    rw [hp.1] at e3
    have hfi : i - l.length < (fourL (Cr.fin (Cr.crcL (Cr.fin 0) l))).length := by show i - l.length < 4; omega
    have e4 : (fourL (Cr.fin (Cr.crcL (Cr.fin 0) l)))[i - l.length]? = some b := by
      rw [e3, List.getElem?_set_self hfi]
    apply hb
    unfold sealL
    rw [List.getElem?_append_right (by omega)]
    exact e4

theorem sealV_list (t : ByteArray) (h : t.size ≤ 7996) : (sealV t).data.toList = sealL t.data.toList := by
  unfold sealV
  rw [if_pos h]
  show (t ++ fourS (crcOf t)).data.toList = t.data.toList ++ fourL (crcOf t)
  simp [fourS]

/-- of a sealed text with one byte turned nothing is told but the code -/
theorem unseal_turned (t b : ByteArray) (ht : t.size ≤ 7996) (i : Nat) (c : UInt8) (hi : i < (sealL t.data.toList).length) (hc : (sealL t.data.toList)[i]? ≠ some c) (hb : b.data.toList = (sealL t.data.toList).set i c) :
    unsealV b = outV ⟨#[]⟩ 0 5 := by
  have hsz : b.size = t.size + 4 := by
    have := congrArg List.length hb
    rw [List.length_set, sealL_length] at this
    simpa using this
  unfold unsealV
  rw [if_neg (by omega), if_neg (by omega), if_neg]
  intro h
  have hx : (b.extract 0 (b.size - 4)).size ≤ 7996 := by simp; omega
  have e := sealV_list _ hx
  rw [h] at e
  exact sealL_one t.data.toList _ i c hi hc (e.symm.trans hb)

theorem unseal_back (t : ByteArray) (ht : t.size ≤ 7996) : unsealV (sealV t) = outV t 0 0 := by
  have hs : sealV t = t ++ fourS (crcOf t) := by unfold sealV; rw [if_pos ht]
  have hz : (sealV t).size = t.size + 4 := by rw [hs]; simp [ByteArray.size_append, fourS_size]
  have hx : (sealV t).extract 0 ((sealV t).size - 4) = t := by
    rw [hz, hs, Nat.add_sub_cancel]
    exact ByteArray.extract_append_eq_left rfl
  unfold unsealV
  rw [if_neg (by omega), if_neg (by omega), hx, if_pos rfl]

/-- a CRC goes on from text to text -/
theorem crc_on (t u : ByteArray) (h : t.size + u.size ≤ 8000) : Cr.moreV (Cr.moreV 0 t) u = Cr.moreV 0 (t ++ u) := by
  have h1 : Cr.moreV 0 t = ((Cr.fin (Cr.crcL (Cr.fin 0) t.data.toList) : Nat) : Int) := Cr.moreV_yes 0 t (by omega) (by decide)
  have hl := Cr.fin_lt (Cr.crcL_lt t.data.toList (Cr.fin 0) (Cr.fin_lt (by decide)))
  rw [h1, Cr.moreV_yes _ u (by omega) hl, fin_fin]
  have h2 : Cr.moreV ((0 : Nat) : Int) (t ++ u) = _ := Cr.moreV_yes 0 (t ++ u) (by simpa [ByteArray.size_append] using h) (by decide)
  have e : (t ++ u).data.toList = t.data.toList ++ u.data.toList := by simp
  rw [e, crcL_append] at h2
  exact h2.symm
end Go.Proofs.Ytkkoeaohmfdlgaa.Se
