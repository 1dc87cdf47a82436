/- Texts put together: PackPlain, DecPlain2, CodeBack. -/
import Derived.Test.YtmkpakhpjgocjaaBitPlain
import Derived.Test.YtmkpakhpjgocjaaCz11
import Derived.Lib.Strings
/- Plain mathematics of bits in bytes: eight bits a byte, the first one highest. -/
namespace Go.Proofs.Ytmkpakhpjgocjaa.Bi
open Go.RowKit
open Go.Proofs.Ytmkpakhpjgocjaa.Sh

/-- each byte is a bit -/
def good (t : ByteArray) : Bool := decide (∀ j, j < t.size → bt t j = 48 ∨ bt t j = 49)
theorem good_yes {t : ByteArray} (h : good t = true) : ∀ j, j < t.size → bt t j = 48 ∨ bt t j = 49 := of_decide_eq_true h
theorem good_of {t : ByteArray} (h : ∀ j, j < t.size → bt t j = 48 ∨ bt t j = 49) : good t = true := decide_eq_true h
theorem good_not {t : ByteArray} {j : Nat} (h : j < t.size) (h1 : bt t j ≠ 48) (h2 : bt t j ≠ 49) : good t = false := decide_eq_false fun g => by
  rcases g j h with e | e
  · exact h1 e
  · exact h2 e
/-- whether a bit is set -/
def one (t : ByteArray) (i : Nat) : Nat := if i < t.size ∧ bt t i = 49 then 1 else 0
/-- a byte out of its first r bits -/
def pk (t : ByteArray) (q : Nat) : Nat → Nat
  | 0 => 0
  | r + 1 => pk t q r + one t (8 * q + r) * 2 ^ (7 - r)
theorem one_le (t : ByteArray) (i : Nat) : one t i ≤ 1 := by unfold one; split <;> omega
theorem pk_mul (t : ByteArray) (q : Nat) : ∀ r, r ≤ 8 → ∃ n, pk t q r = n * 2 ^ (8 - r) ∧ n < 2 ^ r := by
  intro r
  induction r with
  | zero => intro _; exact ⟨0, by simp [pk], by decide⟩
  | succ r ih =>
    intro hr
    obtain ⟨n, h1, h2⟩ := ih (by omega)
    have h3 := one_le t (8 * q + r)
    refine ⟨2 * n + one t (8 * q + r), ?_, by rw [Nat.pow_succ]; omega⟩
    have e : 8 - r = 7 - r + 1 := by omega
    have e2 : 8 - (r + 1) = 7 - r := by omega
    simp only [pk]
    rw [h1, e, Nat.pow_succ, e2, Nat.add_mul, Nat.mul_comm (2 ^ (7 - r)) 2, ← Nat.mul_assoc, Nat.mul_comm n 2]
theorem pk_lt (t : ByteArray) (q r : Nat) (hr : r ≤ 8) : pk t q r < 256 := by
  obtain ⟨n, h1, h2⟩ := pk_mul t q r hr
  rw [h1]
  have h3 : n * 2 ^ (8 - r) < 2 ^ r * 2 ^ (8 - r) := Nat.mul_lt_mul_of_pos_right h2 (Nat.pow_pos (by decide))
  rw [← Nat.pow_add, show r + (8 - r) = 8 by omega] at h3
  omega
/-- what both BitsPack answer -/
def packV (t : ByteArray) : ByteArray := strF ((t.size + 7) / 8) (fun q => pk t q 8)
def packR (t : ByteArray) : ByteArray := if 8000 < t.size ∨ good t = false then ⟨#[]⟩ else packV t
theorem packR_no (t : ByteArray) (h : 8000 < t.size ∨ good t = false) : packR t = ⟨#[]⟩ := if_pos h
theorem packR_yes (t : ByteArray) (h : ¬ 8000 < t.size) (h2 : good t = true) : packR t = packV t := if_neg (by rw [h2]; simp; omega)

/-- the bytes behind the first k bits -/
def pkK (t : ByteArray) (k q : Nat) : Nat := pk t q (min 8 (k - 8 * q))
theorem pkK_lt (t : ByteArray) (k q : Nat) : pkK t k q < 256 := pk_lt t q _ (Nat.min_le_left _ _)
theorem pkK_zero (t : ByteArray) (q : Nat) : pkK t 0 q = 0 := by simp [pkK, pk]
theorem pkK_other (t : ByteArray) (k q : Nat) (h : q ≠ k / 8) : pkK t (k + 1) q = pkK t k q := by
  unfold pkK
  congr 1
  omega
theorem pkK_here (t : ByteArray) (k : Nat) : pkK t k (k / 8) = pk t (k / 8) (k % 8) := by
  unfold pkK
  congr 1
  omega
theorem pkK_next (t : ByteArray) (k : Nat) : pkK t (k + 1) (k / 8) = pk t (k / 8) (k % 8) + one t k * 2 ^ (7 - k % 8) := by
  have e : min 8 (k + 1 - 8 * (k / 8)) = k % 8 + 1 := by omega
  unfold pkK
  rw [e]
  simp only [pk]
  rw [show 8 * (k / 8) + k % 8 = k by omega]
/-- a bit that is set -/
theorem pkK_set (t : ByteArray) (k q : Nat) (v : Int) (h : one t k = 1) (hv : v = ((pk t (k / 8) (k % 8) + 2 ^ (7 - k % 8) : Nat) : Int)) : upd (fun j => ((pkK t k j : Nat) : Int)) (k / 8) v q = (pkK t (k + 1) q : Nat) := by
  subst hv
  unfold upd
  by_cases e : q = k / 8
  · subst e
    rw [if_pos rfl, pkK_next, h, Nat.one_mul]
  · rw [if_neg e, pkK_other t k q e]
theorem pkK_skip (t : ByteArray) (k q : Nat) (h : one t k = 0) : ((pkK t k q : Nat) : Int) = (pkK t (k + 1) q : Nat) := by
  by_cases e : q = k / 8
  · subst e
    rw [pkK_next, h, Nat.zero_mul, pkK_here]
    rfl
  · rw [pkK_other t k q e]
theorem one_behind (t : ByteArray) (i : Nat) (h : t.size ≤ i) : one t i = 0 := by unfold one; rw [if_neg (by omega)]
theorem pk_behind (t : ByteArray) (q r : Nat) (h : t.size ≤ 8 * q + r) : ∀ d, pk t q (r + d) = pk t q r := by
  intro d
  induction d with
  | zero => rfl
  | succ d ih =>
    rw [← Nat.add_assoc]
    simp only [pk]
    rw [one_behind t _ (by omega), ih]
    omega
theorem pkK_all (t : ByteArray) (q : Nat) : pkK t t.size q = pk t q 8 := by
  unfold pkK
  by_cases e : 8 ≤ t.size - 8 * q
  · rw [Nat.min_eq_left e]
  · have e2 : min 8 (t.size - 8 * q) = t.size - 8 * q := Nat.min_eq_right (by omega)
    rw [e2]
    have := pk_behind t q (t.size - 8 * q) (by omega) (8 - (t.size - 8 * q))
    rw [show t.size - 8 * q + (8 - (t.size - 8 * q)) = 8 by omega] at this
    exact this.symm
theorem pack_all (t : ByteArray) : strF ((t.size + 7) / 8) (fun q => pkK t t.size q) = packV t := strF_congr _ _ _ fun q _ => pkK_all t q
theorem pk_or (t : ByteArray) (q r : Nat) (h : r < 8) : bits BinOp.or IntKind.u8 ((pk t q r : Nat) : Int) ((2 ^ (7 - r) : Nat) : Int) = ((pk t q r + 2 ^ (7 - r) : Nat) : Int) := by
  obtain ⟨n, h1, h2⟩ := pk_mul t q r (by omega)
  have h3 := pk_lt t q r (by omega)
  have h4 : 2 ^ (7 - r) < 256 := by
    have := Nat.pow_le_pow_right (n := 2) (by decide) (show 7 - r ≤ 7 by omega)
    omega
  rw [u8_or_nat _ _ h3 h4]
  rw [nat_join (8 - r) (pk t q r) (2 ^ (7 - r)) (by rw [h1]; exact Nat.mul_mod_left _ _) (by
    have e : 8 - r = 7 - r + 1 := by omega
    rw [e, Nat.pow_succ]
    have := Nat.pow_pos (n := 7 - r) (a := 2) (by decide)
    omega)]

/-- the specification's way: the number of the first r bits of a byte -/
def hd (t : ByteArray) (q : Nat) : Nat → Nat
  | 0 => 0
  | r + 1 => 2 * hd t q r + one t (8 * q + r)
theorem hd_pk (t : ByteArray) (q : Nat) : ∀ r, r ≤ 8 → pk t q r = hd t q r * 2 ^ (8 - r) := by
  intro r
  induction r with
  | zero => intro _; simp [pk, hd]
  | succ r ih =>
    intro hr
    simp only [pk, hd]
    rw [ih (by omega), show 8 - r = 7 - r + 1 by omega, Nat.pow_succ, show 8 - (r + 1) = 7 - r by omega, Nat.add_mul, Nat.mul_comm (2 ^ (7 - r)) 2, ← Nat.mul_assoc, Nat.mul_comm (hd t q r) 2]
theorem hd_all (t : ByteArray) (q : Nat) : hd t q 8 = pk t q 8 := by
  have := hd_pk t q 8 (Nat.le_refl _)
  simpa using this.symm
theorem hd_lt (t : ByteArray) (q : Nat) : ∀ r, hd t q r < 2 ^ r := by
  intro r
  induction r with
  | zero => exact Nat.lt_succ_self 0
  | succ r ih =>
    have := one_le t (8 * q + r)
    simp only [hd]
    rw [Nat.pow_succ]
    omega
theorem hd_le (t : ByteArray) (q r : Nat) (h : r ≤ 8) : hd t q r < 256 := by
  have h1 := hd_lt t q r
  have h2 := Nat.pow_le_pow_right (n := 2) (by decide) h
  omega

/-- what both BitsOpen answer -/
def openV (t : ByteArray) (m : Nat) : ByteArray := strF m (fun i => bitB (bt t (i / 8)) (7 - i % 8))
def openR (t : ByteArray) (m : Int) : ByteArray := if 8000 < t.size ∨ m < 0 ∨ 8 * (t.size : Int) < m then ⟨#[]⟩ else openV t m.toNat
theorem openR_no (t : ByteArray) (m : Int) (h : 8000 < t.size ∨ m < 0 ∨ 8 * (t.size : Int) < m) : openR t m = ⟨#[]⟩ := if_pos h
theorem openR_yes (t : ByteArray) (m : Nat) (h : ¬ 8000 < t.size) (h2 : m ≤ 8 * t.size) : openR t m = openV t m := by
  unfold openR
  rw [if_neg (by omega)]
  rfl
def opK (t : ByteArray) (k i : Nat) : Nat := if i < k then bitB (bt t (i / 8)) (7 - i % 8) else 0
theorem opK_zero (t : ByteArray) (j : Nat) : opK t 0 j = 0 := by simp [opK]
theorem opK_next (t : ByteArray) (k j : Nat) (v : Int) (hv : v = (bitB (bt t (k / 8)) (7 - k % 8) : Nat)) : upd (fun j => ((opK t k j : Nat) : Int)) k v j = (opK t (k + 1) j : Nat) := by
  subst hv
  unfold upd opK
  by_cases e : j = k
  · subst e; simp
  · have : (j < k + 1) = (j < k) := propext ⟨fun h => by omega, fun h => by omega⟩
    simp only [e, this, if_false]
theorem opK_all (t : ByteArray) (m : Nat) : strF m (fun j => opK t m j) = openV t m := strF_congr _ _ _ fun j hj => by simp [opK, hj]
theorem opK_lt (t : ByteArray) (k j : Nat) : opK t k j < 256 := by
  unfold opK
  have := bitB_lt (bt t (j / 8)) (7 - j % 8)
  split <;> omega
end Go.Proofs.Ytmkpakhpjgocjaa.Bi

/- Plain mathematics of codes got again: symbol by symbol. -/
namespace Go.Proofs.Ytmkpakhpjgocjaa.Bi
open Go.RowKit

instance (l : List Int) (t : ByteArray) (i : Nat) : Decidable (mt l t i) := inferInstanceAs (Decidable (_ ∧ _ ∧ _ ∧ _))
/-- the symbol whose code begins a text -/
def sym (l : List Int) (t : ByteArray) : Option Nat := (List.range l.length).find? fun i => decide (mt l t i)
/-- the text ends within a code -/
def wth (l : List Int) (t : ByteArray) : Bool := (List.range l.length).any fun i => decide (0 < l.getD i 0) && Lib.hasPrefix (codeOf l i).data.toList t.data.toList
theorem sym_mt {l : List Int} {t : ByteArray} {i : Nat} (h : sym l t = some i) : mt l t i := by
  unfold sym at h
  have := List.find?_some h
  simpa using this
theorem sym_of {l : List Int} (hr : csum l ≤ 4096) (hok : ∀ x ∈ l, 0 ≤ x ∧ x ≤ 12) {t : ByteArray} {i : Nat} (h : mt l t i) : sym l t = some i := by
  cases hs : sym l t with
  | none =>
    have := List.find?_eq_none.1 hs i (List.mem_range.2 h.1)
    simp [h] at this
  | some j => rw [mt_one hr hok (sym_mt hs) h]
theorem sym_none {l : List Int} {t : ByteArray} (h : ∀ i, ¬ mt l t i) : sym l t = none := by
  cases hs : sym l t with
  | none => rfl
  | some j => exact absurd (sym_mt hs) (h j)
theorem not_mt {l : List Int} {t : ByteArray} (h : sym l t = none) (i : Nat) : ¬ mt l t i := by
  intro hm
  have := List.find?_eq_none.1 h i (List.mem_range.2 hm.1)
  simp [hm] at this
theorem wth_of {l : List Int} {t : ByteArray} {i : Nat} (hi : i < l.length) (h0 : 0 < l.getD i 0) (hp : Lib.hasPrefix (codeOf l i).data.toList t.data.toList = true) : wth l t = true := by
  unfold wth
  rw [List.any_eq_true]
  exact ⟨i, List.mem_range.2 hi, by rw [decide_eq_true h0, hp]; rfl⟩
theorem wth_no {l : List Int} {t : ByteArray} (h : ∀ i, i < l.length → 0 < l.getD i 0 → Lib.hasPrefix (codeOf l i).data.toList t.data.toList = false) : wth l t = false := by
  unfold wth
  rw [List.any_eq_false]
  intro i hi
  by_cases h0 : 0 < l.getD i 0
  · rw [h i (List.mem_range.1 hi) h0, Bool.and_false]
    simp
  · rw [decide_eq_false h0]
    simp
theorem wth_yes {l : List Int} {t : ByteArray} (h : wth l t = true) : ∃ i, i < l.length ∧ 0 < l.getD i 0 ∧ Lib.hasPrefix (codeOf l i).data.toList t.data.toList = true := by
  unfold wth at h
  rw [List.any_eq_true] at h
  obtain ⟨i, hi, hb⟩ := h
  rw [Bool.and_eq_true] at hb
  exact ⟨i, List.mem_range.1 hi, of_decide_eq_true hb.1, hb.2⟩

/-- what is left of a text -/
def rst (t : ByteArray) (at_ : Nat) : ByteArray := t.extract at_ t.size
theorem rst_size (t : ByteArray) (at_ : Nat) : (rst t at_).size = t.size - at_ := by unfold rst; rw [ByteArray.size_extract]; omega
def why (l : List Int) (t : ByteArray) : Int := if wth l t = true then 4 else 3
/-- behind so many symbols: a fault, or the symbols and the place -/
def st (l : List Int) (t : ByteArray) : Nat → Int ⊕ (List Int × Nat)
  | 0 => .inr ([], 0)
  | k + 1 => match st l t k with
    | .inl e => .inl e
    | .inr (xs, p) => match sym l (rst t p) with
      | some i => .inr (xs ++ [(i : Int)], p + wd l i)
      | none => .inl (why l (rst t p))
theorem st_more {l : List Int} {t : ByteArray} {k p i : Nat} {xs : List Int} (h : st l t k = .inr (xs, p)) (hs : sym l (rst t p) = some i) : st l t (k + 1) = .inr (xs ++ [(i : Int)], p + wd l i) := by
  simp only [st, h, hs]
theorem st_bad {l : List Int} {t : ByteArray} {k p : Nat} {xs : List Int} (h : st l t k = .inr (xs, p)) (hs : sym l (rst t p) = none) : st l t (k + 1) = .inl (why l (rst t p)) := by
  simp only [st, h, hs]
theorem st_stay {l : List Int} {t : ByteArray} {k : Nat} {e : Int} (h : st l t k = .inl e) : ∀ d, st l t (k + d) = .inl e := by
  intro d
  induction d with
  | zero => exact h
  | succ d ih =>
    rw [← Nat.add_assoc]
    simp only [st, ih]
theorem st_facts {l : List Int} {t : ByteArray} : ∀ (k p : Nat) (xs : List Int), st l t k = .inr (xs, p) → p ≤ t.size ∧ xs.length = k := by
  intro k
  induction k with
  | zero =>
    intro p xs h
    simp only [st, Sum.inr.injEq, Prod.mk.injEq] at h
    rw [← h.1, ← h.2]
    simp
  | succ k ih =>
    intro p xs h
    cases hk : st l t k with
    | inl e => simp only [st, hk] at h; cases h
    | inr q =>
      obtain ⟨ys, r⟩ := q
      obtain ⟨h1, h2⟩ := ih r ys hk
      cases hs : sym l (rst t r) with
      | none => rw [st_bad hk hs] at h; cases h
      | some i =>
        rw [st_more hk hs] at h
        simp only [Sum.inr.injEq, Prod.mk.injEq] at h
        have hm := (sym_mt hs).2.2.1
        rw [rst_size] at hm
        rw [← h.1, ← h.2]
        simp [h2]
        omega
/-- the symbols, the place and the code -/
def outS (x : Int ⊕ (List Int × Nat)) : List Int × Int × Int := match x with
  | .inl e => ([], 0, e)
  | .inr (xs, p) => (xs, (p : Int), 0)
def getR (l : List Int) (t : ByteArray) (m : Int) : List Int × Int × Int :=
  if 400 < l.length ∨ 8000 < t.size then ([], 0, 2)
  else if whole l = false ∨ good t = false ∨ m < 0 ∨ 400 < m then ([], 0, 1)
  else outS (st l t m.toNat)
theorem getR_size {l : List Int} {t : ByteArray} {m : Int} (h : 400 < l.length ∨ 8000 < t.size) : getR l t m = ([], 0, 2) := if_pos h
theorem getR_form {l : List Int} {t : ByteArray} {m : Int} (h : ¬ (400 < l.length ∨ 8000 < t.size)) (h2 : whole l = false ∨ good t = false ∨ m < 0 ∨ 400 < m) : getR l t m = ([], 0, 1) := by
  unfold getR
  rw [if_neg h, if_pos h2]
theorem getR_in {l : List Int} {t : ByteArray} {m : Nat} (h : ¬ (400 < l.length ∨ 8000 < t.size)) (h2 : whole l = true) (h3 : good t = true) (h4 : m ≤ 400) : getR l t m = outS (st l t m) := by
  unfold getR
  rw [if_neg h, if_neg (by rw [h2, h3]; simp; omega)]
  rfl
theorem getR_length (l : List Int) (t : ByteArray) (m : Int) : (getR l t m).1.length ≤ 400 := by
  unfold getR
  split
  · simp
  · split
    · simp
    · rename_i h
      cases hs : st l t m.toNat with
      | inl e => simp [outS]
      | inr q =>
        obtain ⟨xs, p⟩ := q
        have := (st_facts _ _ _ hs).2
        simp only [outS]
        have hm : ¬ 400 < m := fun x => h (Or.inr (Or.inr (Or.inr x)))
        omega
end Go.Proofs.Ytmkpakhpjgocjaa.Bi

/- Plain mathematics of codes: bits come back from their bytes, symbols from their codes. -/
namespace Go.Proofs.Ytmkpakhpjgocjaa.Bi
open Go.RowKit
open Go.Proofs.Ytmkpakhpjgocjaa.Sh (bt strF bt_strF strF_size strF_bt strF_congr bt_lt)

theorem hd_div (t : ByteArray) (q r : Nat) : ∀ d, hd t q (r + d) / 2 ^ d = hd t q r
  | 0 => by simp
  | d + 1 => by
    have ih := hd_div t q r d
    have h1 := one_le t (8 * q + (r + d))
    rw [show r + (d + 1) = (r + d) + 1 by omega, Nat.pow_succ, Nat.mul_comm, ← Nat.div_div_eq_div_mul]
    show (2 * hd t q (r + d) + one t (8 * q + (r + d))) / 2 / 2 ^ d = _
    rw [show (2 * hd t q (r + d) + one t (8 * q + (r + d))) / 2 = hd t q (r + d) by omega]
    exact ih
theorem hd_bit (t : ByteArray) (q r : Nat) (hr : r < 8) : hd t q 8 / 2 ^ (7 - r) % 2 = one t (8 * q + r) := by
  have h := hd_div t q (r + 1) (7 - r)
  rw [show r + 1 + (7 - r) = 8 by omega] at h
  rw [h]
  show (2 * hd t q r + one t (8 * q + r)) % 2 = _
  have := one_le t (8 * q + r)
  omega
theorem packV_size (t : ByteArray) : (packV t).size = (t.size + 7) / 8 := strF_size _ _
theorem open_bit (t : ByteArray) (i : Nat) (hi : i < 8 * (packV t).size) : bitB (bt (packV t) (i / 8)) (7 - i % 8) = 48 + one t i := by
  rw [packV_size] at hi
  have h1 : bt (packV t) (i / 8) = pk t (i / 8) 8 := bt_strF _ _ _ (by omega) (pk_lt t _ 8 (Nat.le_refl _))
  unfold bitB
  rw [h1, ← hd_all, hd_bit t (i / 8) (i % 8) (by omega), show 8 * (i / 8) + i % 8 = i by omega]
theorem one_good {t : ByteArray} (hg : good t = true) (i : Nat) (hi : i < t.size) : 48 + one t i = bt t i := by
  unfold one
  rcases good_yes hg i hi with h | h
  · rw [if_neg (by omega), h]
  · rw [if_pos ⟨hi, h⟩, h]
theorem one_add_lt (t : ByteArray) (i : Nat) : 48 + one t i < 256 := by have := one_le t i; omega
/-- bits come back from their bytes -/
theorem open_pack {t : ByteArray} (hg : good t = true) (hs : t.size ≤ 8000) : openR (packV t) t.size = t := by
  have hp := packV_size t
  rw [openR_yes _ _ (by omega) (by omega)]
  unfold openV
  rw [strF_congr t.size _ (bt t) fun i hi => by rw [open_bit t i (by omega), one_good hg i hi]]
  exact strF_bt t
theorem strF_take (n m : Nat) (f : Nat → Nat) (h : n ≤ m) : (strF m f).data.toList.take n = (strF n f).data.toList := by
  unfold strF
  simp only
  rw [← List.map_take, List.take_range, Nat.min_eq_left h]
theorem open_all {t : ByteArray} (hg : good t = true) (hs : t.size ≤ 8000) : ∃ z, (openR (packV t) ((8 * (packV t).size : Nat) : Int)).data.toList = t.data.toList ++ z ∧ good (openR (packV t) ((8 * (packV t).size : Nat) : Int)) = true := by
  have hp := packV_size t
  have e : openR (packV t) ((8 * (packV t).size : Nat) : Int) = strF (8 * (packV t).size) (fun i => 48 + one t i) := by
    rw [openR_yes _ _ (by omega) (Nat.le_refl _)]
    unfold openV
    exact strF_congr _ _ _ fun i hi => open_bit t i hi
  rw [e]
  refine ⟨(strF (8 * (packV t).size) (fun i => 48 + one t i)).data.toList.drop t.size, ?_, good_of fun j hj => ?_⟩
  · have h1 : t.data.toList = (strF (8 * (packV t).size) (fun i => 48 + one t i)).data.toList.take t.size := by
      rw [strF_take t.size (8 * (packV t).size) _ (by omega), strF_congr t.size (fun i => 48 + one t i) (bt t) fun i hi => one_good hg i hi, strF_bt]
    conv => rhs; rw [h1]
    exact (List.take_append_drop _ _).symm
  · rw [strF_size] at hj
    rw [bt_strF _ _ _ hj (one_add_lt t j)]
    have := one_le t j
    omega
theorem putL_split (l s : List Int) (k : Nat) : putL l s = putL l (s.take k) ++ putL l (s.drop k) := by
  unfold putL
  rw [← List.flatMap_append, List.take_append_drop]
theorem extract0 (t : ByteArray) (n : Nat) : (t.extract 0 n).data.toList = t.data.toList.take n := by
  rw [ByteArray.data_extract, Array.toList_extract]
  simp [List.extract_eq_take_drop]
theorem rst_list (t : ByteArray) (p : Nat) : (rst t p).data.toList = t.data.toList.drop p := by
  unfold rst
  rw [ByteArray.data_extract, Array.toList_extract, List.extract_eq_take_drop]
  rw [List.take_of_length_le]
  rw [List.length_drop, Array.length_toList]
  exact Nat.le_refl _
theorem ext_list {a b : ByteArray} (h : a.data.toList = b.data.toList) : a = b := ByteArray.ext (by rw [← Array.toArray_toList (xs := a.data), h, Array.toArray_toList])
/-- symbols come back from their codes -/
theorem st_put {l s : List Int} (hr : csum l ≤ 4096) (hok : ∀ x ∈ l, 0 ≤ x ∧ x ≤ 12) (hs : ∀ x ∈ s, okS l x) {t : ByteArray} {z : List UInt8} (ht : t.data.toList = putL l s ++ z) : ∀ k, k ≤ s.length → st l t k = .inr (s.take k, (putL l (s.take k)).length)
  | 0, _ => rfl
  | k + 1, hk => by
    have ih := st_put hr hok hs ht k (by omega)
    have hx := hs s[k] (List.getElem_mem (by omega))
    obtain ⟨h0, h1, h2⟩ := hx
    have hi : ((s[k].toNat : Nat) : Int) = s[k] := by omega
    have hcs := codeOf_size l s[k].toNat
    have hcl : (codeOf l s[k].toNat).data.toList.length = wd l s[k].toNat := by
      rw [Array.length_toList]
      exact hcs
    have hrl : (rst t (putL l (s.take k)).length).data.toList = (codeOf l s[k].toNat).data.toList ++ (putL l (s.drop (k + 1)) ++ z) := by
      rw [rst_list, ht, putL_split l s k, List.append_assoc, List.drop_left, List.drop_eq_getElem_cons (by omega)]
      unfold putL
      rw [List.flatMap_cons, List.append_assoc]
    have hm : mt l (rst t (putL l (s.take k)).length) s[k].toNat := by
      refine ⟨by omega, h2, ?_, ?_⟩
      · have : (rst t (putL l (s.take k)).length).size = (rst t (putL l (s.take k)).length).data.toList.length := by simp
        rw [this, hrl, List.length_append, hcl]
        omega
      · refine ext_list ?_
        rw [extract0, hrl, ← hcl, List.take_left]
    rw [st_more ih (sym_of hr hok hm), hi, take_more (by omega), putL_snoc, List.length_append, hcl]
theorem get_put {l s : List Int} (hw : whole l = true) (hs : ∀ x ∈ s, okS l x) (h4 : s.length ≤ 400) {t : ByteArray} {z : List UInt8} (ht : t.data.toList = putL l s ++ z) (h8 : t.size ≤ 8000) (hg : good t = true) : getR l t (s.length : Int) = (s, ((putL l s).length : Int), 0) := by
  have h1 := (right_yes (whole_right hw)).2
  have h2 := whole_len hw
  rw [getR_in (by omega) hw hg h4, st_put h1 (whole_ok hw) hs ht s.length (Nat.le_refl _), List.take_length]
  rfl
theorem code_good (l : List Int) (i : Nat) : ∀ y ∈ (codeOf l i).data.toList, y.toNat = 48 ∨ y.toNat = 49 := by
  intro y hy
  unfold codeOf at hy
  split at hy
  · unfold bitsV strF at hy
    simp only at hy
    obtain ⟨j, _, rfl⟩ := List.mem_map.1 hy
    rw [UInt8.toNat_ofNat', Nat.mod_eq_of_lt (bitB_lt _ _)]
    exact bitB_01 _ _
  · cases hy
theorem put_good (l s : List Int) : good ⟨(putL l s).toArray⟩ = true := by
  refine good_of fun j hj => ?_
  have hj' : j < (putL l s).length := by
    have : (⟨(putL l s).toArray⟩ : ByteArray).size = (putL l s).toArray.size := rfl
    rw [this, List.size_toArray] at hj
    exact hj
  have hm : (putL l s)[j] ∈ putL l s := List.getElem_mem hj'
  obtain ⟨x, _, hx⟩ := List.mem_flatMap.1 hm
  have := code_good l x.toNat _ hx
  unfold bt
  simp only
  rw [List.getD_eq_getElem?_getD, List.getElem?_eq_getElem hj']
  exact this
end Go.Proofs.Ytmkpakhpjgocjaa.Bi
