/- Plain mathematics of codes got again: no code begins another one. -/
import Derived.Test.YtdnmbagdegbnfaaPutPlain
namespace Go.Proofs.Ytdnmbagdegbnfaa.Bi
open Go.RowKit
open Go.Proofs.Ytdnmbagdegbnfaa.Sh (bt strF bt_strF strF_size strF_bt strF_congr bt_lt)

def wd (l : List Int) (i : Nat) : Nat := (l.getD i 0).toNat
theorem getD_lt {l : List Int} {i : Nat} (hi : i < l.length) : l.getD i 0 = l[i] := by rw [List.getD_eq_getElem?_getD, List.getElem?_eq_getElem hi]; rfl
theorem getD_ge {l : List Int} {i : Nat} (hi : ¬ i < l.length) : l.getD i 0 = 0 := by rw [List.getD_eq_getElem?_getD, List.getElem?_eq_none (by omega)]; rfl
/-- where a symbol's codes begin among all of 12 bits -/
def start (l : List Int) (i : Nat) : Nat := cnum l i * 2 ^ (12 - wd l i)
theorem start_eq (l : List Int) (i : Nat) (h1 : 1 ≤ wd l i) (h2 : wd l i ≤ 12) : start l i = low l (wd l i - 1) + cnt (l.take i) (wd l i : Nat) * 2 ^ (12 - wd l i) := by
  have h3 := outN_low l (wd l i - 1) (by omega)
  unfold start cnum innN
  rw [← h3]
  show (2 * outN l (wd l i - 1) + cnt (l.take i) ((wd l i : Nat) : Int)) * 2 ^ (12 - wd l i) = _
  rw [Nat.add_mul, show 12 - (wd l i - 1) = 12 - wd l i + 1 by omega, Nat.pow_succ, Nat.mul_comm 2 (outN l (wd l i - 1)), Nat.mul_assoc, Nat.mul_comm 2]
theorem wd_int {l : List Int} {i : Nat} (h : 0 < l.getD i 0) : l.getD i 0 = ((wd l i : Nat) : Int) := by unfold wd; omega
theorem low_mono (l : List Int) (a b : Nat) (h : a ≤ b) : low l a ≤ low l b := by
  induction b with
  | zero => rw [show a = 0 by omega]; exact Nat.le_refl _
  | succ b ih =>
    by_cases e : a = b + 1
    · rw [e]; exact Nat.le_refl _
    · have := ih (by omega)
      have h2 := low_succ l b
      omega
theorem start_end (l : List Int) (i : Nat) (hi : i < l.length) (h0 : 0 < l.getD i 0) (h2 : wd l i ≤ 12) : start l i + 2 ^ (12 - wd l i) ≤ low l (wd l i) := by
  have h1 : 1 ≤ wd l i := by unfold wd; omega
  have e : l[i] = ((wd l i : Nat) : Int) := by rw [← getD_lt hi]; exact wd_int h0
  have hc := cnt_here hi e
  have hl := low_succ l (wd l i - 1)
  rw [show wd l i - 1 + 1 = wd l i by omega] at hl
  rw [start_eq l i h1 h2, hl]
  have : (cnt (l.take i) ((wd l i : Nat) : Int) + 1) * 2 ^ (12 - wd l i) ≤ cnt l ((wd l i : Nat) : Int) * 2 ^ (12 - wd l i) := Nat.mul_le_mul_right _ hc
  rw [Nat.add_mul, Nat.one_mul] at this
  omega
theorem start_apart (l : List Int) (i j : Nat) (hi : i < l.length) (h0 : 0 < l.getD i 0) (h0' : 0 < l.getD j 0) (h12 : wd l i ≤ 12) (h12' : wd l j ≤ 12) (h : wd l i < wd l j ∨ (wd l i = wd l j ∧ i < j)) (_hj : j < l.length) :
    start l i + 2 ^ (12 - wd l i) ≤ start l j := by
  have h1' : 1 ≤ wd l j := by unfold wd; omega
  have h1 : 1 ≤ wd l i := by unfold wd; omega
  rcases h with h | ⟨h, hij⟩
  · have a1 := start_end l i hi h0 h12
    have a2 := low_mono l (wd l i) (wd l j - 1) (by omega)
    have a3 := start_eq l j h1' h12'
    omega
  · have e : l[i] = ((wd l i : Nat) : Int) := by rw [← getD_lt hi]; exact wd_int h0
    have c1 := cnt_more hi ((wd l i : Nat) : Int)
    rw [if_pos e] at c1
    have c2 : cnt (l.take (i + 1)) ((wd l i : Nat) : Int) ≤ cnt (l.take j) ((wd l i : Nat) : Int) := by
      have := cnt_take (l.take j) ((wd l i : Nat) : Int) (i + 1)
      rw [List.take_take, Nat.min_eq_left (by omega)] at this
      exact this
    rw [start_eq l i h1 h12, start_eq l j h1' h12', ← h]
    have : (cnt (l.take i) ((wd l i : Nat) : Int) + 1) * 2 ^ (12 - wd l i) ≤ cnt (l.take j) ((wd l i : Nat) : Int) * 2 ^ (12 - wd l i) := Nat.mul_le_mul_right _ (by omega)
    rw [Nat.add_mul, Nat.one_mul] at this
    omega

theorem bt_extract (t : ByteArray) (a b j : Nat) (hj : a + j < b) (_hb : b ≤ t.size) : bt (t.extract a b) j = bt t (a + j) := by
  unfold bt
  have h1 : (t.extract a b).data.toList = (t.data.toList.take b).drop a := by
    rw [ByteArray.data_extract, Array.toList_extract]
    simp [List.extract_eq_take_drop, List.drop_take]
  rw [h1, List.getD_eq_getElem?_getD, List.getD_eq_getElem?_getD, List.getElem?_drop, List.getElem?_take_of_lt hj]
/-- the number of the first bits -/
def val (t : ByteArray) : Nat → Nat
  | 0 => 0
  | r + 1 => 2 * val t r + (bt t r - 48)
theorem val_of (t : ByteArray) (n v : Nat) (hn : n < 2 ^ v) (h : ∀ j, j < v → bt t j = bitB n (v - 1 - j)) : ∀ r, r ≤ v → val t r = n / 2 ^ (v - r) := by
  intro r
  induction r with
  | zero => intro _; rw [Nat.sub_zero, Nat.div_eq_of_lt hn]; rfl
  | succ r ih =>
    intro hr
    simp only [val]
    rw [ih (by omega), h r (by omega)]
    unfold bitB
    rw [show v - r = v - (r + 1) + 1 by omega, Nat.pow_succ, ← Nat.div_div_eq_div_mul, show v - 1 - r = v - (r + 1) by omega]
    omega
/-- a text begins with a symbol's code -/
def mt (l : List Int) (t : ByteArray) (i : Nat) : Prop := i < l.length ∧ 0 < l.getD i 0 ∧ wd l i ≤ t.size ∧ t.extract 0 (wd l i) = codeOf l i
theorem cnum_fits {l : List Int} (hr : csum l ≤ 4096) {i : Nat} (hi : i < l.length) (h0 : 0 < l.getD i 0) (h2 : wd l i ≤ 12) : cnum l i < 2 ^ wd l i := by
  have h1 : 1 ≤ wd l i := by unfold wd; omega
  have e : l[i] = ((wd l i - 1 + 1 : Nat) : Int) := by rw [show wd l i - 1 + 1 = wd l i by omega, ← getD_lt hi]; exact wd_int h0
  have := inn_fits hr (v := wd l i - 1) (by omega) hi e
  rw [show wd l i - 1 + 1 = wd l i by omega] at this
  exact this
theorem mt_val {l : List Int} (hr : csum l ≤ 4096) {t : ByteArray} {i : Nat} (h : mt l t i) (h12 : wd l i ≤ 12) : ∀ r, r ≤ wd l i → val t r = cnum l i / 2 ^ (wd l i - r) := by
  obtain ⟨hi, h0, hs, he⟩ := h
  refine val_of t (cnum l i) (wd l i) (cnum_fits hr hi h0 h12) fun j hj => ?_
  have h1 := bt_extract t 0 (wd l i) j (by omega) hs
  rw [Nat.zero_add, he] at h1
  rw [← h1]
  unfold codeOf
  rw [if_pos h0]
  exact bt_strF _ _ j hj (bitB_lt _ _)
theorem mt_start {l : List Int} (hr : csum l ≤ 4096) {t : ByteArray} {i j : Nat} (hi : mt l t i) (hj : mt l t j) (h12 : wd l i ≤ 12) (h12' : wd l j ≤ 12) (h : wd l i ≤ wd l j) : start l j < start l i + 2 ^ (12 - wd l i) := by
  have a1 := mt_val hr hi h12 (wd l i) (Nat.le_refl _)
  have a2 := mt_val hr hj h12' (wd l i) h
  rw [Nat.sub_self, Nat.pow_zero, Nat.div_one] at a1
  rw [a1] at a2
  have a3 : cnum l j < (cnum l i + 1) * 2 ^ (wd l j - wd l i) := by
    rw [a2]
    exact Nat.lt_mul_of_div_lt (Nat.lt_succ_self _) (Nat.pow_pos (by decide))
  unfold start
  have a4 : cnum l j * 2 ^ (12 - wd l j) < (cnum l i + 1) * 2 ^ (wd l j - wd l i) * 2 ^ (12 - wd l j) := Nat.mul_lt_mul_of_pos_right a3 (Nat.pow_pos (by decide))
  rw [Nat.mul_assoc, ← Nat.pow_add, show wd l j - wd l i + (12 - wd l j) = 12 - wd l i by omega, Nat.add_mul, Nat.one_mul] at a4
  exact a4
/-- at most one code begins a text -/
theorem mt_one {l : List Int} (hr : csum l ≤ 4096) (hok : ∀ x ∈ l, 0 ≤ x ∧ x ≤ 12) {t : ByteArray} {i j : Nat} (hi : mt l t i) (hj : mt l t j) : i = j := by
  have w12 : ∀ k, k < l.length → wd l k ≤ 12 := fun k hk => by
    have := hok _ (List.getElem_mem hk)
    unfold wd
    rw [getD_lt hk]
    omega
  have hi12 := w12 i hi.1
  have hj12 := w12 j hj.1
  rcases Nat.lt_trichotomy (wd l i) (wd l j) with h | h | h
  · have b1 := start_apart l i j hi.1 hi.2.1 hj.2.1 hi12 hj12 (Or.inl h) hj.1
    have b2 := mt_start hr hi hj hi12 hj12 (by omega)
    omega
  · rcases Nat.lt_trichotomy i j with h' | h' | h'
    · have b1 := start_apart l i j hi.1 hi.2.1 hj.2.1 hi12 hj12 (Or.inr ⟨h, h'⟩) hj.1
      have b2 := mt_start hr hi hj hi12 hj12 (by omega)
      omega
    · exact h'
    · have b1 := start_apart l j i hj.1 hj.2.1 hi.2.1 hj12 hi12 (Or.inr ⟨h.symm, h'⟩) hi.1
      have b2 := mt_start hr hj hi hj12 hi12 (by omega)
      omega
  · have b1 := start_apart l j i hj.1 hj.2.1 hi.2.1 hj12 hi12 (Or.inl h) hi.1
    have b2 := mt_start hr hj hi hj12 hi12 (by omega)
    omega
end Go.Proofs.Ytdnmbagdegbnfaa.Bi
