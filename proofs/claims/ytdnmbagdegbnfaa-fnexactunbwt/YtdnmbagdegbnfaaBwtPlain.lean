/- Plain mathematics of the last bytes of sorted turns. -/
import Derived.Test.YtdnmbagdegbnfaaOrdPlain
import Derived.Test.YtdnmbagdegbnfaaShaBytes
namespace Go.Proofs.Ytdnmbagdegbnfaa.So
open Go.RowKit
open Go.Proofs.Ytdnmbagdegbnfaa.Sh (bt bt_get bt_lt strF strF_congr)

/-- the last byte of a turn -/
def lastB (t : ByteArray) (x : Nat) : Nat := bt t ((x + t.size - 1) % t.size)
theorem turnV_size (t : ByteArray) (x : Nat) (hx : x ≤ t.size) : (turnV t x).size = t.size := by
  unfold turnV
  rw [ByteArray.size_append, ByteArray.size_extract, ByteArray.size_extract]
  omega
theorem turnV_list (t : ByteArray) (x : Nat) : (turnV t x).data.toList = t.data.toList.drop x ++ t.data.toList.take x := by
  unfold turnV
  simp [ByteArray.data_append, ByteArray.data_extract]
  rw [List.take_of_length_le (by simp)]
theorem turnV_last (t : ByteArray) (x : Nat) (hx : x < t.size) : bt (turnV t x) (t.size - 1) = lastB t x := by
  unfold lastB bt
  rw [turnV_list]
  have hl : t.data.toList.length = t.size := by simp
  simp only [List.getD_eq_getElem?_getD]
  by_cases h0 : x = 0
  · subst h0
    rw [List.drop_zero, List.take_zero, List.append_nil, Nat.zero_add, Nat.mod_eq_of_lt (by omega)]
  · rw [List.getElem?_append_right (by rw [List.length_drop]; omega), List.length_drop, hl, List.getElem?_take_of_lt (by omega)]
    have e : (x + t.size - 1) % t.size = x - 1 := by
      rw [show x + t.size - 1 = (x - 1) + t.size by omega, Nat.add_mod_right, Nat.mod_eq_of_lt (by omega)]
    rw [e, show t.size - 1 - (t.size - x) = x - 1 by omega]
/-- where 0 was met last -/
def atK (f : Nat → Nat) : Nat → Nat
  | 0 => 0
  | k + 1 => if f k = 0 then k else atK f k
theorem atK_le (f : Nat → Nat) (k : Nat) : atK f k ≤ k := by
  induction k with
  | zero => exact Nat.le_refl _
  | succ k ih => unfold atK; split <;> omega
theorem atK_congr {f g : Nat → Nat} {n : Nat} (h : ∀ j, j < n → f j = g j) : ∀ k, k ≤ n → atK f k = atK g k := by
  intro k
  induction k with
  | zero => intro _; rfl
  | succ k ih => intro hk; unfold atK; rw [h k hk, ih (by omega)]
noncomputable def ordF (t : ByteArray) : Nat → Nat := fun j => (ord t).getD j 0
theorem ordF_seg {t : ByteArray} {f : Nat → Nat} (h : OrdOk t (seg f 0 t.size)) (j : Nat) (hj : j < t.size) : ordF t j = f j := by
  unfold ordF
  rw [ord_of h, List.getD_eq_getElem?_getD, List.getElem?_eq_getElem (by rw [seg_len]; omega)]
  simp [seg]
theorem ordF_list {t : ByteArray} {l : List Nat} (h : OrdOk t l) (j : Nat) (hj : j < l.length) : ordF t j = l[j] := by
  unfold ordF
  rw [ord_of h, List.getD_eq_getElem?_getD, List.getElem?_eq_getElem hj]
  rfl
noncomputable def bwtT (t : ByteArray) : ByteArray := if t.size ≤ 48 then strF t.size (fun j => lastB t (ordF t j)) else ⟨#[]⟩
noncomputable def bwtA (t : ByteArray) : Nat := if t.size ≤ 48 then atK (ordF t) t.size else 0
def bwtC (t : ByteArray) : Nat := if 8000 < t.size then 2 else if 48 < t.size then 1 else 0
theorem bwt_yes {t : ByteArray} {f : Nat → Nat} (ht : t.size ≤ 48) (h : ∀ j, j < t.size → ordF t j = f j) : bwtT t = strF t.size (fun j => lastB t (f j)) ∧ bwtA t = atK f t.size ∧ bwtC t = 0 := by
  unfold bwtT bwtA bwtC
  rw [if_pos ht, if_pos ht, if_neg (by omega), if_neg (by omega)]
  exact ⟨strF_congr _ _ _ fun j hj => by rw [h j hj], atK_congr h _ (Nat.le_refl _), rfl⟩
theorem bwt_no {t : ByteArray} (ht : 48 < t.size) : bwtT t = ⟨#[]⟩ ∧ bwtA t = 0 := by
  unfold bwtT bwtA
  rw [if_neg (by omega), if_neg (by omega)]
  exact ⟨rfl, rfl⟩
/-- the last bytes of the first turns -/
def fillL (t : ByteArray) (f : Nat → Nat) (k : Nat) : Nat → Nat := fun j => if j < k then lastB t (f j) else 0
theorem fillL_lt (t : ByteArray) (f : Nat → Nat) (k j : Nat) : fillL t f k j < 256 := by
  unfold fillL
  split
  · exact bt_lt _ _
  · omega
theorem fillL_next (t : ByteArray) (f : Nat → Nat) (k : Nat) (j : Nat) : Sh.upd (fun j => ((fillL t f k j : Nat) : Int)) k ((lastB t (f k) : Nat) : Int) j = ((fillL t f (k + 1) j : Nat) : Int) := by
  unfold Sh.upd fillL
  by_cases e : j = k
  · subst e
    rw [if_pos rfl, if_pos (by omega)]
  · rw [if_neg e]
    by_cases h : j < k
    · have h' : j < k + 1 := by omega
      simp only [h, h', if_true]
    · have h' : ¬ j < k + 1 := by omega
      simp only [h, h', if_false]
theorem fillL_all (t : ByteArray) (f : Nat → Nat) (n : Nat) : strF n (fillL t f n) = strF n (fun j => lastB t (f j)) := strF_congr _ _ _ fun j hj => by
  unfold fillL
  rw [if_pos hj]
end Go.Proofs.Ytdnmbagdegbnfaa.So
