/- Plain mathematics for l04Join: all but two, in their order. -/
import Derived.Test.YtmkpakhpjgocjaaHuLeastT
namespace Go.Proofs.Ytmkpakhpjgocjaa.Hf
open Go.RowKit

theorem erase_snoc {α : Type} (X : List α) (y : α) (k : Nat) : (X ++ [y]).eraseIdx k = if k < X.length then X.eraseIdx k ++ [y] else if k = X.length then X else X ++ [y] := by
  by_cases h : k < X.length
  · rw [if_pos h, List.eraseIdx_append_of_lt_length h]
  · rw [if_neg h, List.eraseIdx_append_of_length_le (by omega)]
    by_cases h2 : k = X.length
    · rw [if_pos h2, h2, Nat.sub_self]
      simp
    · rw [if_neg h2, List.eraseIdx_of_length_le (by simp; omega)]
def midJ (m : List MT) (a b i : Nat) : List MT := ((m.take i).eraseIdx a).eraseIdx b
theorem take_snoc (m : List MT) (i : Nat) (hi : i < m.length) : m.take (i + 1) = m.take i ++ [m[i]] := by
  rw [List.take_add_one, List.getElem?_eq_getElem hi]
  rfl
theorem midJ_step (m : List MT) (a b i : Nat) (hi : i < m.length) : midJ m a b (i + 1) = if i = a ∨ i = shift a b then midJ m a b i else midJ m a b i ++ [m[i]] := by
  have hl : (m.take i).length = i := by rw [List.length_take]; omega
  unfold midJ
  rw [take_snoc m i hi]
  generalize m[i] = y
  generalize m.take i = X at hl ⊢
  rw [erase_snoc, hl]
  by_cases h1 : a < i
  · rw [if_pos h1, erase_snoc]
    have hle : (X.eraseIdx a).length = i - 1 := by rw [List.length_eraseIdx, if_pos (by omega), hl]
    rw [hle]
    by_cases h2 : b < i - 1
    · rw [if_pos h2, if_neg]
      unfold shift
      split <;> omega
    · rw [if_neg h2, List.eraseIdx_of_length_le (l := X.eraseIdx a) (k := b) (by omega)]
      by_cases h3 : b = i - 1
      · rw [if_pos h3, if_pos]
        unfold shift
        rw [if_neg (by omega)]
        omega
      · rw [if_neg h3, if_neg]
        unfold shift
        rw [if_neg (by omega)]
        omega
  · rw [if_neg h1, List.eraseIdx_of_length_le (l := X) (k := a) (by omega)]
    by_cases h2 : a = i
    · rw [if_pos h2, if_pos (.inl h2.symm)]
    · rw [if_neg h2, erase_snoc, hl]
      by_cases h3 : b < i
      · rw [if_pos h3, if_neg]
        unfold shift
        rw [if_pos (by omega)]
        omega
      · rw [if_neg h3, List.eraseIdx_of_length_le (l := X) (k := b) (by omega)]
        by_cases h4 : b = i
        · rw [if_pos h4, if_pos]
          unfold shift
          rw [if_pos (by omega)]
          omega
        · rw [if_neg h4, if_neg]
          unfold shift
          split <;> omega
theorem midJ_skip (m : List MT) (a b i : Nat) (hi : i < m.length) (h : i = a ∨ i = shift a b) : midJ m a b (i + 1) = midJ m a b i := by
  rw [midJ_step m a b i hi, if_pos h]
theorem midJ_keep (m : List MT) (a b i : Nat) (hi : i < m.length) (h : ¬ i = a) (h' : ¬ i = shift a b) : midJ m a b (i + 1) = midJ m a b i ++ [m[i]] := by
  rw [midJ_step m a b i hi, if_neg (by omega)]
theorem midJ_length (m : List MT) (a b i : Nat) : (midJ m a b i).length ≤ i := by
  unfold midJ
  rw [List.length_eraseIdx, List.length_eraseIdx, List.length_take]
  split <;> split <;> omega
theorem midJ_mem (m : List MT) (a b i : Nat) (x : MT) (h : x ∈ midJ m a b i) : x ∈ m :=
  List.mem_of_mem_take (List.mem_of_mem_eraseIdx (List.mem_of_mem_eraseIdx h))
theorem midJ_all (m : List MT) (a b : Nat) : midJ m a b m.length = (m.eraseIdx a).eraseIdx b := by
  unfold midJ
  rw [List.take_length]
theorem erase_at (m : List MT) (a b : Nat) : (m.eraseIdx a)[b]? = m[shift a b]? := by
  unfold shift
  split
  · rw [List.getElem?_eraseIdx_of_lt (by assumption)]
  · rw [List.getElem?_eraseIdx_of_ge (by omega)]
theorem lb_first (l : List Tree) (n : Nat) (hn : l.length = n) (h0 : 0 < n) : lb l n n = some (least l n) := by
  have h := lb_low l n n (Nat.le_refl _)
  rw [if_neg (by omega), List.eraseIdx_of_length_le (by omega)] at h
  rw [h]
  have := least_le l n
  unfold shift
  rw [if_pos (by omega)]
theorem incs_two (d s t : List Nat) : incs d (s ++ t) = incs (incs d s) t := by
  unfold incs
  rw [List.foldl_append]
/-- what is joined, of n + 2 trees -/
structure Two (m : List MT) (n a b : Nat) (y1 y2 : MT) : Prop where
  an : a < n + 2
  bn : b < n + 2
  ne : ¬ a = b
  fa : lb (mt m) (n + 2) (n + 2) = some a
  fb : lb (mt m) a (n + 2) = some b
  at1 : m[a]? = some y1
  at2 : m[b]? = some y2
  jn : ∃ b', b = shift a b' ∧ mt (midJ m a b' (n + 2)) ++ [(y1.1.1 + y2.1.1, y1.1.2 ++ y2.1.2)] = join (mt m) ∧ y1.1 = first (mt m) ∧ y2.1 = second (mt m)
theorem two_of (m : List MT) (n : Nat) (hn : m.length = n + 2) : ∃ a b y1 y2, Two m n a b y1 y2 := by
  obtain ⟨y1, hy1, _, hf1, hm1, hl1, _⟩ := taken m (n + 1) hn
  obtain ⟨y2, hy2, _, hf2, hm2, hl2, _⟩ := taken (m.eraseIdx (least (mt m) (n + 1 + 1))) n hl1
  have hle := least_le (mt m) (n + 2)
  have hle2 := least_le (mt (m.eraseIdx (least (mt m) (n + 2)))) (n + 1)
  have he : (mt m).eraseIdx (least (mt m) (n + 2)) = mt (m.eraseIdx (least (mt m) (n + 2))) := by
    unfold mt
    rw [erase_map]
  refine ⟨least (mt m) (n + 2), shift (least (mt m) (n + 2)) (least (mt (m.eraseIdx (least (mt m) (n + 2)))) (n + 1)), y1, y2, by omega, ?_, ?_, lb_first _ _ (by rw [mt_length]; exact hn) (by omega), ?_, hy1, ?_, _, rfl, ?_, hf1, ?_⟩
  · unfold shift
    split <;> omega
  · unfold shift
    split <;> omega
  · have := lb_all (mt m) (least (mt m) (n + 2)) (n + 2) (by omega) (by omega)
    rw [this, he]
    rfl
  · rw [← erase_at]
    exact hy2
  · rw [← hn, midJ_all, hn, hm2, hm1, hf1, hf2, hm1]
    rfl
  · rw [hf2, hm1]
    rfl
end Go.Proofs.Ytmkpakhpjgocjaa.Hf
