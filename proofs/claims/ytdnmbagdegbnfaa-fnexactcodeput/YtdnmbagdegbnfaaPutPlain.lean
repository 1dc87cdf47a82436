/- Plain mathematics of codes put one behind the other. -/
import Derived.Test.YtdnmbagdegbnfaaCodesPlain
namespace Go.Proofs.Ytdnmbagdegbnfaa.Bi
open Go.RowKit
open Go.Proofs.Ytdnmbagdegbnfaa.Sh (bt strF)

theorem innO_get (l : List Int) (v n0 : Nat) (o : List ByteArray) (i : Nat) (hi : i < l.length) (ho : o.length = l.length) : ∀ k, k ≤ l.length →
    (innO l v n0 o k)[i]? = if i < k ∧ l[i] = (v : Int) then some (bitsV (innN l v n0 i) v) else o[i]? := by
  intro k
  induction k with
  | zero => intro _; simp [innO]
  | succ k ih =>
    intro hk
    by_cases e : l[k] = (v : Int)
    · rw [innO_yes (by omega) e, List.getElem?_set]
      by_cases hik : k = i
      · subst hik
        rw [if_pos rfl, if_pos (by rw [innO_length, ho]; exact hi), if_pos ⟨by omega, e⟩]
      · rw [if_neg hik, ih (by omega)]
        have : (i < k + 1 ∧ l[i] = (v : Int)) = (i < k ∧ l[i] = (v : Int)) := propext ⟨fun h => ⟨by omega, h.2⟩, fun h => ⟨by omega, h.2⟩⟩
        simp only [this]
    · rw [innO_no (by omega) e, ih (by omega)]
      by_cases hik : k = i
      · subst hik
        rw [if_neg (fun h => e h.2), if_neg (fun h => e h.2)]
      · have : (i < k + 1 ∧ l[i] = (v : Int)) = (i < k ∧ l[i] = (v : Int)) := propext ⟨fun h => ⟨by omega, h.2⟩, fun h => ⟨by omega, h.2⟩⟩
        simp only [this]
/-- the number of a symbol's code -/
def cnum (l : List Int) (i : Nat) : Nat := innN l (l.getD i 0).toNat (2 * outN l ((l.getD i 0).toNat - 1)) i
def codeOf (l : List Int) (i : Nat) : ByteArray := if 0 < l.getD i 0 then bitsV (cnum l i) (l.getD i 0).toNat else ⟨#[]⟩
theorem outO_get (l : List Int) (i : Nat) (hi : i < l.length) : ∀ v, v ≤ 12 → (outO l v)[i]? = some (if 0 < l[i] ∧ l[i] ≤ (v : Int) then codeOf l i else ⟨#[]⟩) := by
  have hg : l.getD i 0 = l[i] := by rw [List.getD_eq_getElem?_getD, List.getElem?_eq_getElem hi]; rfl
  intro v
  induction v with
  | zero =>
    intro _
    rw [if_neg (by omega)]
    simp [outO, hi]
  | succ v ih =>
    intro hv
    simp only [outO]
    rw [innO_get l (v + 1) _ _ i hi (outO_length l v) l.length (Nat.le_refl _), ih (by omega)]
    by_cases e : l[i] = ((v + 1 : Nat) : Int)
    · rw [if_pos ⟨hi, e⟩, if_pos (by omega)]
      unfold codeOf cnum
      rw [hg, if_pos (by omega), e]
      simp
    · rw [if_neg (fun h => e h.2)]
      have : (0 < l[i] ∧ l[i] ≤ ((v + 1 : Nat) : Int)) = (0 < l[i] ∧ l[i] ≤ (v : Int)) := propext ⟨fun h => ⟨h.1, by omega⟩, fun h => ⟨h.1, by omega⟩⟩
      simp only [this]
theorem codes_get (l : List Int) (h : ∀ x ∈ l, 0 ≤ x ∧ x ≤ 12) (i : Nat) (hi : i < (codesV l).length) : (codesV l)[i] = codeOf l i := by
  have hi' : i < l.length := by rw [codesV_length] at hi; exact hi
  have h1 := outO_get l i hi' 12 (Nat.le_refl _)
  have h2 := h _ (List.getElem_mem hi')
  have hg : l.getD i 0 = l[i] := by rw [List.getD_eq_getElem?_getD, List.getElem?_eq_getElem hi']; rfl
  have h3 : (codesV l)[i]? = some (codesV l)[i] := List.getElem?_eq_getElem hi
  have h4 : (codesV l)[i]? = (outO l 12)[i]? := rfl
  rw [h3, h1] at h4
  have h5 := Option.some.inj h4
  rw [h5]
  by_cases hp : 0 < l[i]
  · rw [if_pos ⟨hp, by omega⟩]
  · rw [if_neg (fun x => hp x.1)]
    unfold codeOf
    rw [hg, if_neg hp]
theorem codeOf_size (l : List Int) (i : Nat) : (codeOf l i).size = (l.getD i 0).toNat := by
  unfold codeOf
  split
  · exact bitsV_size _ _
  · have : (l.getD i 0).toNat = 0 := by omega
    rw [this]
    rfl
theorem codeOf_le (l : List Int) (h : ∀ x ∈ l, 0 ≤ x ∧ x ≤ 12) (i : Nat) : (codeOf l i).size ≤ 12 := by
  rw [codeOf_size]
  by_cases hi : i < l.length
  · have hg : l.getD i 0 = l[i] := by rw [List.getD_eq_getElem?_getD, List.getElem?_eq_getElem hi]; rfl
    have := h _ (List.getElem_mem hi)
    rw [hg]
    omega
  · rw [List.getD_eq_getElem?_getD, List.getElem?_eq_none (by omega)]
    decide
theorem codeOf_none (l : List Int) (i : Nat) (h : ¬ 0 < l.getD i 0) : codeOf l i = ⟨#[]⟩ := if_neg h
theorem codeOf_some (l : List Int) (i : Nat) (h : 0 < l.getD i 0) : codeOf l i ≠ ⟨#[]⟩ := by
  intro e
  have h1 := codeOf_size l i
  rw [e] at h1
  have : (⟨#[]⟩ : ByteArray).size = 0 := rfl
  omega

/-- a symbol that has a code -/
def okS (l : List Int) (x : Int) : Prop := 0 ≤ x ∧ x < l.length ∧ 0 < l.getD x.toNat 0
instance (l : List Int) (x : Int) : Decidable (okS l x) := inferInstanceAs (Decidable (_ ∧ _ ∧ _))
def putL (l : List Int) (s : List Int) : List UInt8 := s.flatMap fun x => (codeOf l x.toNat).data.toList
def putR (l s : List Int) : ByteArray := if 400 < s.length ∨ whole l = false ∨ ¬ (∀ x ∈ s, okS l x) then ⟨#[]⟩ else ⟨(putL l s).toArray⟩
theorem putR_no {l s : List Int} (h : 400 < s.length ∨ whole l = false) : putR l s = ⟨#[]⟩ := if_pos (by rcases h with h | h; exact Or.inl h; exact Or.inr (Or.inl h))
theorem putR_bad {l s : List Int} {j : Nat} (hj : j < s.length) (h : ¬ okS l s[j]) : putR l s = ⟨#[]⟩ := if_pos (Or.inr (Or.inr fun g => h (g _ (List.getElem_mem hj))))
theorem putR_yes {l s : List Int} (h1 : ¬ 400 < s.length) (h2 : whole l = true) (h3 : ∀ x ∈ s, okS l x) : putR l s = ⟨(putL l s).toArray⟩ := if_neg (by
  rintro (h | h | h)
  · exact h1 h
  · rw [h2] at h; cases h
  · exact h h3)
theorem putL_snoc (l s : List Int) (x : Int) : putL l (s ++ [x]) = putL l s ++ (codeOf l x.toNat).data.toList := by simp [putL]
theorem putL_more {l s : List Int} {k : Nat} (h : k < s.length) : putL l (s.take (k + 1)) = putL l (s.take k) ++ (codeOf l s[k].toNat).data.toList := by
  rw [take_more h, putL_snoc]
theorem putL_le (l : List Int) (h : ∀ x ∈ l, 0 ≤ x ∧ x ≤ 12) (s : List Int) : (putL l s).length ≤ 12 * s.length := by
  induction s with
  | nil => simp [putL]
  | cons x s ih =>
    have h1 := codeOf_le l h x.toNat
    have h2 : (codeOf l x.toNat).data.toList.length = (codeOf l x.toNat).size := by simp
    simp only [putL, List.flatMap_cons, List.length_append, List.length_cons] at ih ⊢
    omega
theorem whole_right {l : List Int} (h : whole l = true) : right l = true := by
  unfold whole at h
  rw [Bool.and_eq_true] at h
  exact h.1
theorem whole_ok {l : List Int} (h : whole l = true) : ∀ x ∈ l, 0 ≤ x ∧ x ≤ 12 := (within_yes (right_yes (whole_right h)).1).2
theorem whole_len {l : List Int} (h : whole l = true) : l.length ≤ 257 := (within_yes (right_yes (whole_right h)).1).1
end Go.Proofs.Ytdnmbagdegbnfaa.Bi
