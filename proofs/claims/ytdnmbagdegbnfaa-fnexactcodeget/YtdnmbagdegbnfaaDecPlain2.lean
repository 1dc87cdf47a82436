/- Plain mathematics of codes got again: symbol by symbol. -/
import Derived.Test.YtdnmbagdegbnfaaDecPlain
import Derived.Test.YtdnmbagdegbnfaaPackPlain
import Derived.Lib.Strings
namespace Go.Proofs.Ytdnmbagdegbnfaa.Bi
open Go.RowKit

instance (l : List Int) (t : ByteArray) (i : Nat) : Decidable (mt l t i) := inferInstanceAs (Decidable (_ ∧ _ ∧ _ ∧ _))
/-- the symbol whose code begins a text -/
def sym (l : List Int) (t : ByteArray) : Option Nat := (List.range l.length).find? fun i => decide (mt l t i)
/-- the text ends within a code -/
def wth (l : List Int) (t : ByteArray) : Bool := (List.range l.length).any fun i => decide (0 < l.getD i 0) && Lib.hasPrefix (codeOf l i).data.toList t.data.toList
theorem sym_mt {l : List Int} {t : ByteArray} {i : Nat} (h : sym l t = some i) : mt l t i := by
  unfold sym at h
  have := List.find?_some h
  simpa using this
theorem sym_of {l : List Int} (hr : csum l ≤ 4096) (hok : ∀ x ∈ l, 0 ≤ x ∧ x ≤ 12) {t : ByteArray} {i : Nat} (h : mt l t i) : sym l t = some i := by
  cases hs : sym l t with
  | none =>
    have := List.find?_eq_none.1 hs i (List.mem_range.2 h.1)
    simp [h] at this
  | some j => rw [mt_one hr hok (sym_mt hs) h]
theorem sym_none {l : List Int} {t : ByteArray} (h : ∀ i, ¬ mt l t i) : sym l t = none := by
  cases hs : sym l t with
  | none => rfl
  | some j => exact absurd (sym_mt hs) (h j)
theorem not_mt {l : List Int} {t : ByteArray} (h : sym l t = none) (i : Nat) : ¬ mt l t i := by
  intro hm
  have := List.find?_eq_none.1 h i (List.mem_range.2 hm.1)
  simp [hm] at this
theorem wth_of {l : List Int} {t : ByteArray} {i : Nat} (hi : i < l.length) (h0 : 0 < l.getD i 0) (hp : Lib.hasPrefix (codeOf l i).data.toList t.data.toList = true) : wth l t = true := by
  unfold wth
  rw [List.any_eq_true]
  exact ⟨i, List.mem_range.2 hi, by rw [decide_eq_true h0, hp]; rfl⟩
theorem wth_no {l : List Int} {t : ByteArray} (h : ∀ i, i < l.length → 0 < l.getD i 0 → Lib.hasPrefix (codeOf l i).data.toList t.data.toList = false) : wth l t = false := by
  unfold wth
  rw [List.any_eq_false]
  intro i hi
  by_cases h0 : 0 < l.getD i 0
  · rw [h i (List.mem_range.1 hi) h0, Bool.and_false]
    simp
  · rw [decide_eq_false h0]
    simp
theorem wth_yes {l : List Int} {t : ByteArray} (h : wth l t = true) : ∃ i, i < l.length ∧ 0 < l.getD i 0 ∧ Lib.hasPrefix (codeOf l i).data.toList t.data.toList = true := by
  unfold wth at h
  rw [List.any_eq_true] at h
  obtain ⟨i, hi, hb⟩ := h
  rw [Bool.and_eq_true] at hb
  exact ⟨i, List.mem_range.1 hi, of_decide_eq_true hb.1, hb.2⟩

/-- what is left of a text -/
def rst (t : ByteArray) (at_ : Nat) : ByteArray := t.extract at_ t.size
theorem rst_size (t : ByteArray) (at_ : Nat) : (rst t at_).size = t.size - at_ := by unfold rst; rw [ByteArray.size_extract]; omega
def why (l : List Int) (t : ByteArray) : Int := if wth l t = true then 4 else 3
/-- behind so many symbols: a fault, or the symbols and the place -/
def st (l : List Int) (t : ByteArray) : Nat → Int ⊕ (List Int × Nat)
  | 0 => .inr ([], 0)
  | k + 1 => match st l t k with
    | .inl e => .inl e
    | .inr (xs, p) => match sym l (rst t p) with
      | some i => .inr (xs ++ [(i : Int)], p + wd l i)
      | none => .inl (why l (rst t p))
theorem st_more {l : List Int} {t : ByteArray} {k p i : Nat} {xs : List Int} (h : st l t k = .inr (xs, p)) (hs : sym l (rst t p) = some i) : st l t (k + 1) = .inr (xs ++ [(i : Int)], p + wd l i) := by
  simp only [st, h, hs]
theorem st_bad {l : List Int} {t : ByteArray} {k p : Nat} {xs : List Int} (h : st l t k = .inr (xs, p)) (hs : sym l (rst t p) = none) : st l t (k + 1) = .inl (why l (rst t p)) := by
  simp only [st, h, hs]
theorem st_stay {l : List Int} {t : ByteArray} {k : Nat} {e : Int} (h : st l t k = .inl e) : ∀ d, st l t (k + d) = .inl e := by
  intro d
  induction d with
  | zero => exact h
  | succ d ih =>
    rw [← Nat.add_assoc]
    simp only [st, ih]
theorem st_facts {l : List Int} {t : ByteArray} : ∀ (k p : Nat) (xs : List Int), st l t k = .inr (xs, p) → p ≤ t.size ∧ xs.length = k := by
  intro k
  induction k with
  | zero =>
    intro p xs h
    simp only [st, Sum.inr.injEq, Prod.mk.injEq] at h
    rw [← h.1, ← h.2]
    simp
  | succ k ih =>
    intro p xs h
    cases hk : st l t k with
    | inl e => simp only [st, hk] at h; cases h
    | inr q =>
      obtain ⟨ys, r⟩ := q
      obtain ⟨h1, h2⟩ := ih r ys hk
      cases hs : sym l (rst t r) with
      | none => rw [st_bad hk hs] at h; cases h
      | some i =>
        rw [st_more hk hs] at h
        simp only [Sum.inr.injEq, Prod.mk.injEq] at h
        have hm := (sym_mt hs).2.2.1
        rw [rst_size] at hm
        rw [← h.1, ← h.2]
        simp [h2]
        omega
/-- the symbols, the place and the code -/
def outS (x : Int ⊕ (List Int × Nat)) : List Int × Int × Int := match x with
  | .inl e => ([], 0, e)
  | .inr (xs, p) => (xs, (p : Int), 0)
def getR (l : List Int) (t : ByteArray) (m : Int) : List Int × Int × Int :=
  if 400 < l.length ∨ 8000 < t.size then ([], 0, 2)
  else if whole l = false ∨ good t = false ∨ m < 0 ∨ 400 < m then ([], 0, 1)
  else outS (st l t m.toNat)
theorem getR_size {l : List Int} {t : ByteArray} {m : Int} (h : 400 < l.length ∨ 8000 < t.size) : getR l t m = ([], 0, 2) := if_pos h
theorem getR_form {l : List Int} {t : ByteArray} {m : Int} (h : ¬ (400 < l.length ∨ 8000 < t.size)) (h2 : whole l = false ∨ good t = false ∨ m < 0 ∨ 400 < m) : getR l t m = ([], 0, 1) := by
  unfold getR
  rw [if_neg h, if_pos h2]
theorem getR_in {l : List Int} {t : ByteArray} {m : Nat} (h : ¬ (400 < l.length ∨ 8000 < t.size)) (h2 : whole l = true) (h3 : good t = true) (h4 : m ≤ 400) : getR l t m = outS (st l t m) := by
  unfold getR
  rw [if_neg h, if_neg (by rw [h2, h3]; simp; omega)]
  rfl
theorem getR_length (l : List Int) (t : ByteArray) (m : Int) : (getR l t m).1.length ≤ 400 := by
  unfold getR
  split
  · simp
  · split
    · simp
    · rename_i h
      cases hs : st l t m.toNat with
      | inl e => simp [outS]
      | inr q =>
        obtain ⟨xs, p⟩ := q
        have := (st_facts _ _ _ hs).2
        simp only [outS]
        have hm : ¬ 400 < m := fun x => h (Or.inr (Or.inr (Or.inr x)))
        omega
end Go.Proofs.Ytdnmbagdegbnfaa.Bi
