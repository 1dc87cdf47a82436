/- Texts put together: ShaBytes, BwtPlain. -/
import Derived.Test.YtmkpakhpjgocjaaFs3
import Derived.Test.YtmkpakhpjgocjaaFs4
import Derived.Test.YtmkpakhpjgocjaaFs2
/- Rows of bytes in memory and texts, told by a plain function from places to numbers. -/
namespace Go.Proofs.Ytmkpakhpjgocjaa.Sh
open Go.RowKit
open Go.Proofs.Ytmkpakhpjgocjaa.Nu (bv arr_string)

/-- the byte at a place of a text (0 behind its end) -/
def bt (t : ByteArray) (j : Nat) : Nat := (t.data.toList.getD j 0).toNat
theorem bt_lt (t : ByteArray) (j : Nat) : bt t j < 256 := (t.data.toList.getD j 0).toNat_lt
/-- the text of n bytes that a function tells -/
def strF (n : Nat) (f : Nat → Nat) : ByteArray := ⟨((List.range n).map fun j => UInt8.ofNat (f j)).toArray⟩
theorem strF_size (n : Nat) (f : Nat → Nat) : (strF n f).size = n := by
  show ((List.range n).map fun j => UInt8.ofNat (f j)).toArray.size = n
  simp
theorem bt_strF (n : Nat) (f : Nat → Nat) (j : Nat) (hj : j < n) (h : f j < 256) : bt (strF n f) j = f j := by
  unfold bt strF
  simp [List.getD, hj]
  omega
theorem strF_congr (n : Nat) (f g : Nat → Nat) (h : ∀ j, j < n → f j = g j) : strF n f = strF n g := by
  unfold strF
  congr 2
  apply List.map_congr_left
  intro j hj
  rw [h j (List.mem_range.1 hj)]
theorem bt_get (t : ByteArray) (j : Nat) (h : j < t.size) : (t[j]).toNat = bt t j := by
  have h' : j < t.data.toList.length := by simpa using h
  unfold bt
  rw [List.getD_eq_getElem?_getD, List.getElem?_eq_getElem h']
  rfl
theorem strF_bt (t : ByteArray) : strF t.size (bt t) = t := by
  unfold strF
  have : (List.range t.size).map (fun j => UInt8.ofNat (bt t j)) = t.data.toList := by
    apply List.ext_getElem?
    intro i
    by_cases hi : i < t.size
    · have h' : i < t.data.toList.length := by simpa using hi
      rw [List.getElem?_eq_getElem h']
      simp [hi, bt, List.getD]
    · have h1 : t.data.toList.length ≤ i := by simpa using Nat.le_of_not_lt hi
      rw [List.getElem?_eq_none h1]
      simp [Nat.le_of_not_lt hi]
  rw [this]

theorem made_zeros (n : Nat) : (madeCells (Value.int .u8 0).cells (n * 1)).toList = (rowF .u8 n (fun _ => 0)).toList := by
  apply List.ext_getElem?
  intro i
  by_cases hi : i < n
  · simp [madeCells, rowF, hi, Value.cells, Nat.mod_one]
  · simp [madeCells, rowF, hi, Value.cells]

/-- a row of n bytes that make has just made -/
theorem made_row {w : World} {base e g n : Nat} (h : w.ownsRow base e 1 (.slice (some ⟨g, 0, none⟩) n n) n (madeCells (Value.int .u8 0).cells (n * 1)).toList) : IsB w g e .u8 n (fun _ => 0) := by
  obtain ⟨_, h⟩ := h
  rcases h with ⟨h, _⟩ | ⟨g', cap, cur, hv, _, hb, _, _, hsz, htk⟩
  · simp at h
  · simp at hv
    obtain ⟨rfl, rfl⟩ := hv
    rw [made_zeros, List.take_of_length_le (by simp [hsz])] at htk
    have : cur = rowF .u8 n (fun _ => 0) := by simpa using htk
    rw [this] at hb
    exact hb

/-- a text copied to the head of a row -/
theorem splice_row (n : Nat) (f : Nat → Int) (t : ByteArray) (h : t.size ≤ n) :
    (splice (rowF .u8 n f).toList 0 (t.data.toList.map bv)).toArray = rowF .u8 n (fun j => if j < t.size then (bt t j : Nat) else f j) := by
  apply Array.ext_getElem?
  intro i
  by_cases hi : i < n
  · rw [rowF_get _ _ _ _ hi]
    simp only [splice, List.take_zero, List.nil_append, List.getElem?_toArray, List.length_map, Nat.zero_add]
    by_cases ht : i < t.size
    · have h' : i < t.data.toList.length := by simpa using ht
      rw [List.getElem?_append_left (by simpa using ht), if_pos ht]
      simp [bv, bt, List.getD, ht]
    · rw [List.getElem?_append_right (by simpa using Nat.le_of_not_lt ht), if_neg ht, List.getElem?_drop]
      simp only [List.length_map, Array.length_toList]
      have e : t.data.size + (i - t.data.size) = i := by
        have : t.data.size = t.size := rfl
        omega
      rw [e]
      simp [rowF, hi]
  · have h1 : (rowF .u8 n (fun j => if j < t.size then ((bt t j : Nat) : Int) else f j))[i]? = none := by simp [rowF, hi]
    rw [h1]
    have hl : (splice (rowF .u8 n f).toList 0 (t.data.toList.map bv)).length = n := by
      rw [length_splice _ _ _ (by simp [rowF_size]; exact h)]
      simp [rowF_size]
    simp only [List.getElem?_toArray]
    exact List.getElem?_eq_none (by omega)

/-- a row of bytes as a text -/
theorem IsB.str {P : Program} {w : World} {g : Nat} {t src dst e : TypeId} {n : Nat} {f : Nat → Nat} (h : IsB w g t .u8 n (fun j => (f j : Nat))) (m cap : Nat) (hm : m ≤ n) (hf : ∀ j, j < m → f j < 256)
    (hs : P.underlying src = some (.slice e)) (he : P.underlying e = some (.int .u8)) (hd : P.underlying dst = some .string) :
    (convert src dst (.slice (some ⟨g, 0, none⟩) m cap)).run P w = .ok (.string (strF m f)) w := by
  have hl : ((List.range m).map fun j => UInt8.ofNat (f j)).length = m := by simp
  have := arr_string (P := P) (src := src) (dst := dst) ((List.range m).map fun j => UInt8.ofNat (f j)) cap h (by
    rw [hl]
    apply List.ext_getElem?
    intro i
    by_cases hi : i < m
    · have h3 := hf i hi
      simp [rowF, hi, Nat.lt_of_lt_of_le hi hm, bv]
      omega
    · simp [hi, List.getElem?_take]) hs he hd
  rw [hl] at this
  exact this
end Go.Proofs.Ytmkpakhpjgocjaa.Sh

/- Plain mathematics of the last bytes of sorted turns. -/
namespace Go.Proofs.Ytmkpakhpjgocjaa.So
open Go.RowKit
open Go.Proofs.Ytmkpakhpjgocjaa.Sh (bt bt_get bt_lt strF strF_congr)

/-- the last byte of a turn -/
def lastB (t : ByteArray) (x : Nat) : Nat := bt t ((x + t.size - 1) % t.size)
theorem turnV_size (t : ByteArray) (x : Nat) (hx : x ≤ t.size) : (turnV t x).size = t.size := by
  unfold turnV
  rw [ByteArray.size_append, ByteArray.size_extract, ByteArray.size_extract]
  omega
theorem turnV_list (t : ByteArray) (x : Nat) : (turnV t x).data.toList = t.data.toList.drop x ++ t.data.toList.take x := by
  unfold turnV
  simp [ByteArray.data_append, ByteArray.data_extract]
  rw [List.take_of_length_le (by simp)]
theorem turnV_last (t : ByteArray) (x : Nat) (hx : x < t.size) : bt (turnV t x) (t.size - 1) = lastB t x := by
  unfold lastB bt
  rw [turnV_list]
  have hl : t.data.toList.length = t.size := by simp
  simp only [List.getD_eq_getElem?_getD]
  by_cases h0 : x = 0
  · subst h0
    rw [List.drop_zero, List.take_zero, List.append_nil, Nat.zero_add, Nat.mod_eq_of_lt (by omega)]
  · rw [List.getElem?_append_right (by rw [List.length_drop]; omega), List.length_drop, hl, List.getElem?_take_of_lt (by omega)]
    have e : (x + t.size - 1) % t.size = x - 1 := by
      rw [show x + t.size - 1 = (x - 1) + t.size by omega, Nat.add_mod_right, Nat.mod_eq_of_lt (by omega)]
    rw [e, show t.size - 1 - (t.size - x) = x - 1 by omega]
/-- where 0 was met last -/
def atK (f : Nat → Nat) : Nat → Nat
  | 0 => 0
  | k + 1 => if f k = 0 then k else atK f k
theorem atK_le (f : Nat → Nat) (k : Nat) : atK f k ≤ k := by
  induction k with
  | zero => exact Nat.le_refl _
  | succ k ih => unfold atK; split <;> omega
theorem atK_congr {f g : Nat → Nat} {n : Nat} (h : ∀ j, j < n → f j = g j) : ∀ k, k ≤ n → atK f k = atK g k := by
  intro k
  induction k with
  | zero => intro _; rfl
  | succ k ih => intro hk; unfold atK; rw [h k hk, ih (by omega)]
noncomputable def ordF (t : ByteArray) : Nat → Nat := fun j => (ord t).getD j 0
theorem ordF_seg {t : ByteArray} {f : Nat → Nat} (h : OrdOk t (seg f 0 t.size)) (j : Nat) (hj : j < t.size) : ordF t j = f j := by
  unfold ordF
  rw [ord_of h, List.getD_eq_getElem?_getD, List.getElem?_eq_getElem (by rw [seg_len]; omega)]
  simp [seg]
theorem ordF_list {t : ByteArray} {l : List Nat} (h : OrdOk t l) (j : Nat) (hj : j < l.length) : ordF t j = l[j] := by
  unfold ordF
  rw [ord_of h, List.getD_eq_getElem?_getD, List.getElem?_eq_getElem hj]
  rfl
noncomputable def bwtT (t : ByteArray) : ByteArray := if t.size ≤ 48 then strF t.size (fun j => lastB t (ordF t j)) else ⟨#[]⟩
noncomputable def bwtA (t : ByteArray) : Nat := if t.size ≤ 48 then atK (ordF t) t.size else 0
def bwtC (t : ByteArray) : Nat := if 8000 < t.size then 2 else if 48 < t.size then 1 else 0
theorem bwt_yes {t : ByteArray} {f : Nat → Nat} (ht : t.size ≤ 48) (h : ∀ j, j < t.size → ordF t j = f j) : bwtT t = strF t.size (fun j => lastB t (f j)) ∧ bwtA t = atK f t.size ∧ bwtC t = 0 := by
  unfold bwtT bwtA bwtC
  rw [if_pos ht, if_pos ht, if_neg (by omega), if_neg (by omega)]
  exact ⟨strF_congr _ _ _ fun j hj => by rw [h j hj], atK_congr h _ (Nat.le_refl _), rfl⟩
theorem bwt_no {t : ByteArray} (ht : 48 < t.size) : bwtT t = ⟨#[]⟩ ∧ bwtA t = 0 := by
  unfold bwtT bwtA
  rw [if_neg (by omega), if_neg (by omega)]
  exact ⟨rfl, rfl⟩
/-- the last bytes of the first turns -/
def fillL (t : ByteArray) (f : Nat → Nat) (k : Nat) : Nat → Nat := fun j => if j < k then lastB t (f j) else 0
theorem fillL_lt (t : ByteArray) (f : Nat → Nat) (k j : Nat) : fillL t f k j < 256 := by
  unfold fillL
  split
  · exact bt_lt _ _
  · omega
theorem fillL_next (t : ByteArray) (f : Nat → Nat) (k : Nat) (j : Nat) : Sh.upd (fun j => ((fillL t f k j : Nat) : Int)) k ((lastB t (f k) : Nat) : Int) j = ((fillL t f (k + 1) j : Nat) : Int) := by
  unfold Sh.upd fillL
  by_cases e : j = k
  · subst e
    rw [if_pos rfl, if_pos (by omega)]
  · rw [if_neg e]
    by_cases h : j < k
    · have h' : j < k + 1 := by omega
      simp only [h, h', if_true]
    · have h' : ¬ j < k + 1 := by omega
      simp only [h, h', if_false]
theorem fillL_all (t : ByteArray) (f : Nat → Nat) (n : Nat) : strF n (fillL t f n) = strF n (fun j => lastB t (f j)) := strF_congr _ _ _ fun j hj => by
  unfold fillL
  rw [if_pos hj]
end Go.Proofs.Ytmkpakhpjgocjaa.So
