/- Texts put together: DecPlain2, CodeBack. -/
import Derived.Test.YthbpenanelbbcaaGreatDoorBz23
import Derived.Test.YthbpenanelbbcaaGreatDoorBz20
import Derived.Lib.Strings
/- Plain mathematics of codes got again: symbol by symbol. -/
namespace Go.Proofs.YthbpenanelbbcaaGreatDoor.Bi
open Go.RowKit
instance (l : List Int) (t : ByteArray) (i : Nat) : Decidable (mt l t i) := inferInstanceAs (Decidable (_ ∧ _ ∧ _ ∧ _))
def sym (l : List Int) (t : ByteArray) : Option Nat := (List.range l.length).find? fun i => decide (mt l t i)
def wth (l : List Int) (t : ByteArray) : Bool := (List.range l.length).any fun i => decide (0 < l.getD i 0) && Lib.hasPrefix (codeOf l i).data.toList t.data.toList
theorem sym_mt {l : List Int} {t : ByteArray} {i : Nat} (h : sym l t = some i) : mt l t i := by
 unfold sym at h
 have := List.find?_some h
 simpa using this
theorem sym_of {l : List Int} (hr : csum l ≤ 4096) (hok : ∀ x ∈ l, 0 ≤ x ∧ x ≤ 12) {t : ByteArray} {i : Nat} (h : mt l t i) : sym l t = some i := by
 cases hs : sym l t with
 | none =>
  have := List.find?_eq_none.1 hs i (List.mem_range.2 h.1)
  simp [h] at this
 | some j => rw [mt_one hr hok (sym_mt hs) h]
theorem sym_none {l : List Int} {t : ByteArray} (h : ∀ i, ¬ mt l t i) : sym l t = none := by
 cases hs : sym l t with
 | none => rfl
 | some j => exact absurd (sym_mt hs) (h j)
theorem wth_of {l : List Int} {t : ByteArray} {i : Nat} (hi : i < l.length) (h0 : 0 < l.getD i 0) (hp : Lib.hasPrefix (codeOf l i).data.toList t.data.toList = true) : wth l t = true := by
 unfold wth
 rw [List.any_eq_true]
 exact ⟨i, List.mem_range.2 hi, by rw [decide_eq_true h0, hp]; rfl⟩
theorem wth_yes {l : List Int} {t : ByteArray} (h : wth l t = true) : ∃ i, i < l.length ∧ 0 < l.getD i 0 ∧ Lib.hasPrefix (codeOf l i).data.toList t.data.toList = true := by
 unfold wth at h
 rw [List.any_eq_true] at h
 obtain ⟨i, hi, hb⟩ := h
 rw [Bool.and_eq_true] at hb
 exact ⟨i, List.mem_range.1 hi, of_decide_eq_true hb.1, hb.2⟩
def rst (t : ByteArray) (at_ : Nat) : ByteArray := t.extract at_ t.size
theorem rst_size (t : ByteArray) (at_ : Nat) : (rst t at_).size = t.size - at_ := by unfold rst; rw [ByteArray.size_extract]; omega
def why (l : List Int) (t : ByteArray) : Int := if wth l t = true then 4 else 3
def st (l : List Int) (t : ByteArray) : Nat → Int ⊕ (List Int × Nat)
 | 0 => .inr ([], 0)
 | k + 1 => match st l t k with
  | .inl e => .inl e
  | .inr (xs, p) => match sym l (rst t p) with
   | some i => .inr (xs ++ [(i : Int)], p + wd l i)
   | none => .inl (why l (rst t p))
theorem st_more {l : List Int} {t : ByteArray} {k p i : Nat} {xs : List Int} (h : st l t k = .inr (xs, p)) (hs : sym l (rst t p) = some i) : st l t (k + 1) = .inr (xs ++ [(i : Int)], p + wd l i) := by
 simp only [st, h, hs]
theorem st_bad {l : List Int} {t : ByteArray} {k p : Nat} {xs : List Int} (h : st l t k = .inr (xs, p)) (hs : sym l (rst t p) = none) : st l t (k + 1) = .inl (why l (rst t p)) := by
 simp only [st, h, hs]
theorem st_stay {l : List Int} {t : ByteArray} {k : Nat} {e : Int} (h : st l t k = .inl e) : ∀ d, st l t (k + d) = .inl e := by
 intro d
 induction d with
 | zero => exact h
 | succ d ih =>
  rw [← Nat.add_assoc]
  simp only [st, ih]
theorem st_facts {l : List Int} {t : ByteArray} : ∀ (k p : Nat) (xs : List Int), st l t k = .inr (xs, p) → p ≤ t.size ∧ xs.length = k := by
 intro k
 induction k with
 | zero =>
  intro p xs h
  simp only [st, Sum.inr.injEq, Prod.mk.injEq] at h
  rw [← h.1, ← h.2]
  simp
 | succ k ih =>
  intro p xs h
  cases hk : st l t k with
  | inl e => simp only [st, hk] at h; cases h
  | inr q =>
   obtain ⟨ys, r⟩ := q
   obtain ⟨h1, h2⟩ := ih r ys hk
   cases hs : sym l (rst t r) with
   | none => rw [st_bad hk hs] at h; cases h
   | some i =>
    rw [st_more hk hs] at h
    simp only [Sum.inr.injEq, Prod.mk.injEq] at h
    have hm := (sym_mt hs).2.2.1
    rw [rst_size] at hm
    rw [← h.1, ← h.2]
    simp [h2]
    omega
def outS (x : Int ⊕ (List Int × Nat)) : List Int × Int × Int := match x with
 | .inl e => ([], 0, e)
 | .inr (xs, p) => (xs, (p : Int), 0)
def getR (l : List Int) (t : ByteArray) (m : Int) : List Int × Int × Int :=
 if 400 < l.length ∨ 8000 < t.size then ([], 0, 2)
 else if whole l = false ∨ good t = false ∨ m < 0 ∨ 400 < m then ([], 0, 1)
 else outS (st l t m.toNat)
theorem getR_size {l : List Int} {t : ByteArray} {m : Int} (h : 400 < l.length ∨ 8000 < t.size) : getR l t m = ([], 0, 2) := if_pos h
theorem getR_form {l : List Int} {t : ByteArray} {m : Int} (h : ¬ (400 < l.length ∨ 8000 < t.size)) (h2 : whole l = false ∨ good t = false ∨ m < 0 ∨ 400 < m) : getR l t m = ([], 0, 1) := by
 unfold getR
 rw [if_neg h, if_pos h2]
theorem getR_in {l : List Int} {t : ByteArray} {m : Nat} (h : ¬ (400 < l.length ∨ 8000 < t.size)) (h2 : whole l = true) (h3 : good t = true) (h4 : m ≤ 400) : getR l t m = outS (st l t m) := by
 unfold getR
 rw [if_neg h, if_neg (by rw [h2, h3]; simp; omega)]
 rfl
theorem getR_length (l : List Int) (t : ByteArray) (m : Int) : (getR l t m).1.length ≤ 400 := by
 unfold getR
 split
 ·simp
 ·split
  ·simp
  ·rename_i h
   cases hs : st l t m.toNat with
   | inl e => simp [outS]
   | inr q =>
    obtain ⟨xs, p⟩ := q
    have := (st_facts _ _ _ hs).2
    simp only [outS]
    have hm : ¬ 400 < m := fun x => h (Or.inr (Or.inr (Or.inr x)))
    omega
end Go.Proofs.YthbpenanelbbcaaGreatDoor.Bi


/- Plain mathematics of codes: bits come back from their bytes, symbols from their codes. -/
namespace Go.Proofs.YthbpenanelbbcaaGreatDoor.Bi
open Go.RowKit
open Go.Proofs.YthbpenanelbbcaaGreatDoor.Sh (bt strF bt_strF strF_size strF_bt strF_congr bt_lt)
theorem hd_div (t : ByteArray) (q r : Nat) : ∀ d, hd t q (r + d) / 2 ^ d = hd t q r
 | 0 => by simp
 | d + 1 => by
  have ih := hd_div t q r d
  have h1 := one_le t (8 * q + (r + d))
  rw [show r + (d + 1) = (r + d) + 1 by omega, Nat.pow_succ, Nat.mul_comm, ← Nat.div_div_eq_div_mul]
  show (2 * hd t q (r + d) + one t (8 * q + (r + d))) / 2 / 2 ^ d = _
  rw [show (2 * hd t q (r + d) + one t (8 * q + (r + d))) / 2 = hd t q (r + d) by omega]
  exact ih
theorem hd_bit (t : ByteArray) (q r : Nat) (hr : r < 8) : hd t q 8 / 2 ^ (7 - r) % 2 = one t (8 * q + r) := by
 have h := hd_div t q (r + 1) (7 - r)
 rw [show r + 1 + (7 - r) = 8 by omega] at h
 rw [h]
 show (2 * hd t q r + one t (8 * q + r)) % 2 = _
 have := one_le t (8 * q + r)
 omega
theorem packV_size (t : ByteArray) : (packV t).size = (t.size + 7) / 8 := strF_size _ _
theorem open_bit (t : ByteArray) (i : Nat) (hi : i < 8 * (packV t).size) : bitB (bt (packV t) (i / 8)) (7 - i % 8) = 48 + one t i := by
 rw [packV_size] at hi
 have h1 : bt (packV t) (i / 8) = pk t (i / 8) 8 := bt_strF _ _ _ (by omega) (pk_lt t _ 8 (Nat.le_refl _))
 unfold bitB
 rw [h1, ← hd_all, hd_bit t (i / 8) (i % 8) (by omega), show 8 * (i / 8) + i % 8 = i by omega]
theorem one_good {t : ByteArray} (hg : good t = true) (i : Nat) (hi : i < t.size) : 48 + one t i = bt t i := by
 unfold one
 rcases good_yes hg i hi with h | h
 ·rw [if_neg (by omega), h]
 ·rw [if_pos ⟨hi, h⟩, h]
theorem one_add_lt (t : ByteArray) (i : Nat) : 48 + one t i < 256 := by have := one_le t i; omega
theorem strF_take (n m : Nat) (f : Nat → Nat) (h : n ≤ m) : (strF m f).data.toList.take n = (strF n f).data.toList := by
 unfold strF
 simp only
 rw [← List.map_take, List.take_range, Nat.min_eq_left h]
theorem open_all {t : ByteArray} (hg : good t = true) (hs : t.size ≤ 8000) : ∃ z, (openR (packV t) ((8 * (packV t).size : Nat) : Int)).data.toList = t.data.toList ++ z ∧ good (openR (packV t) ((8 * (packV t).size : Nat) : Int)) = true := by
  have hp := packV_size t
  have e : openR (packV t) ((8 * (packV t).size : Nat) : Int) = strF (8 * (packV t).size) (fun i => 48 + one t i) := by
    rw [openR_yes _ _ (by omega) (Nat.le_refl _)]
    unfold openV
    exact strF_congr _ _ _ fun i hi => open_bit t i hi
  rw [e]
  refine ⟨(strF (8 * (packV t).size) (fun i => 48 + one t i)).data.toList.drop t.size, ?_, good_of fun j hj => ?_⟩
  · have h1 : t.data.toList = (strF (8 * (packV t).size) (fun i => 48 + one t i)).data.toList.take t.size := by
      rw [strF_take t.size (8 * (packV t).size) _ (by omega), strF_congr t.size (fun i => 48 + one t i) (bt t) fun i hi => one_good hg i hi, strF_bt]
    conv => rhs; rw [h1]
    exact (List.take_append_drop _ _).symm
  · rw [strF_size] at hj
    rw [bt_strF _ _ _ hj (one_add_lt t j)]
    have := one_le t j
    omega
theorem putL_split (l s : List Int) (k : Nat) : putL l s = putL l (s.take k) ++ putL l (s.drop k) := by
 unfold putL
 rw [← List.flatMap_append, List.take_append_drop]
theorem extract0 (t : ByteArray) (n : Nat) : (t.extract 0 n).data.toList = t.data.toList.take n := by
 rw [ByteArray.data_extract, Array.toList_extract]
 simp [List.extract_eq_take_drop]
theorem rst_list (t : ByteArray) (p : Nat) : (rst t p).data.toList = t.data.toList.drop p := by
 unfold rst
 rw [ByteArray.data_extract, Array.toList_extract, List.extract_eq_take_drop]
 rw [List.take_of_length_le]
 rw [List.length_drop, Array.length_toList]
 exact Nat.le_refl _
theorem ext_list {a b : ByteArray} (h : a.data.toList = b.data.toList) : a = b := ByteArray.ext (by rw [← Array.toArray_toList (xs := a.data), h, Array.toArray_toList])
theorem st_put {l s : List Int} (hr : csum l ≤ 4096) (hok : ∀ x ∈ l, 0 ≤ x ∧ x ≤ 12) (hs : ∀ x ∈ s, okS l x) {t : ByteArray} {z : List UInt8} (ht : t.data.toList = putL l s ++ z) : ∀ k, k ≤ s.length → st l t k = .inr (s.take k, (putL l (s.take k)).length)
 | 0, _ => rfl
 | k + 1, hk => by
  have ih := st_put hr hok hs ht k (by omega)
  have hx := hs s[k] (List.getElem_mem (by omega))
  obtain ⟨h0, h1, h2⟩ := hx
  have hi : ((s[k].toNat : Nat) : Int) = s[k] := by omega
  have hcs := codeOf_size l s[k].toNat
  have hcl : (codeOf l s[k].toNat).data.toList.length = wd l s[k].toNat := by
   rw [Array.length_toList]
   exact hcs
  have hrl : (rst t (putL l (s.take k)).length).data.toList = (codeOf l s[k].toNat).data.toList ++ (putL l (s.drop (k + 1)) ++ z) := by
   rw [rst_list, ht, putL_split l s k, List.append_assoc, List.drop_left, List.drop_eq_getElem_cons (by omega)]
   unfold putL
   rw [List.flatMap_cons, List.append_assoc]
  have hm : mt l (rst t (putL l (s.take k)).length) s[k].toNat := by
   refine ⟨by omega, h2, ?_, ?_⟩
   ·have : (rst t (putL l (s.take k)).length).size = (rst t (putL l (s.take k)).length).data.toList.length := by simp
    rw [this, hrl, List.length_append, hcl]
    omega
   ·refine ext_list ?_
    rw [extract0, hrl, ← hcl, List.take_left]
  rw [st_more ih (sym_of hr hok hm), hi, take_more (by omega), putL_snoc, List.length_append, hcl]
theorem get_put {l s : List Int} (hw : whole l = true) (hs : ∀ x ∈ s, okS l x) (h4 : s.length ≤ 400) {t : ByteArray} {z : List UInt8} (ht : t.data.toList = putL l s ++ z) (h8 : t.size ≤ 8000) (hg : good t = true) : getR l t (s.length : Int) = (s, ((putL l s).length : Int), 0) := by
 have h1 := (right_yes (whole_right hw)).2
 have h2 := whole_len hw
 rw [getR_in (by omega) hw hg h4, st_put h1 (whole_ok hw) hs ht s.length (Nat.le_refl _), List.take_length]
 rfl
theorem code_good (l : List Int) (i : Nat) : ∀ y ∈ (codeOf l i).data.toList, y.toNat = 48 ∨ y.toNat = 49 := by
 intro y hy
 unfold codeOf at hy
 split at hy
 ·unfold bitsV strF at hy
  simp only at hy
  obtain ⟨j, _, rfl⟩ := List.mem_map.1 hy
  rw [UInt8.toNat_ofNat', Nat.mod_eq_of_lt (bitB_lt _ _)]
  exact bitB_01 _ _
 ·cases hy
theorem put_good (l s : List Int) : good ⟨(putL l s).toArray⟩ = true := by
 refine good_of fun j hj => ?_
 have hj' : j < (putL l s).length := by
  have : (⟨(putL l s).toArray⟩ : ByteArray).size = (putL l s).toArray.size := rfl
  rw [this, List.size_toArray] at hj
  exact hj
 have hm : (putL l s)[j] ∈ putL l s := List.getElem_mem hj'
 obtain ⟨x, _, hx⟩ := List.mem_flatMap.1 hm
 have := code_good l x.toNat _ hx
 unfold bt
 simp only
 rw [List.getD_eq_getElem?_getD, List.getElem?_eq_getElem hj']
 exact this
end Go.Proofs.YthbpenanelbbcaaGreatDoor.Bi

