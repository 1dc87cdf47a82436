/- Texts put together: CodesPlain, PutPlain, DecPlain. -/
import Derived.Test.YtmkpakhpjgocjaaCz4
/- Plain mathematics of codes: the codes of lengths, one width behind the other, and that each fits its width. -/
namespace Go.Proofs.Ytmkpakhpjgocjaa.Bi
open Go.RowKit

def cnt (l : List Int) (v : Int) : Nat := l.countP fun x => decide (x = v)
theorem cnt_snoc (l : List Int) (v x : Int) : cnt (l ++ [x]) v = cnt l v + if x = v then 1 else 0 := by simp [cnt, List.countP_append, List.countP_cons]
theorem cnt_more {l : List Int} {k : Nat} (h : k < l.length) (v : Int) : cnt (l.take (k + 1)) v = cnt (l.take k) v + if l[k] = v then 1 else 0 := by
  rw [take_more h, cnt_snoc]
theorem cnt_take (l : List Int) (v : Int) (k : Nat) : cnt (l.take k) v ≤ cnt l v := by
  unfold cnt
  exact List.Sublist.countP_le (List.take_sublist k l)
theorem cnt_here {l : List Int} {k : Nat} {v : Int} (h : k < l.length) (e : l[k] = v) : cnt (l.take k) v + 1 ≤ cnt l v := by
  have h1 := cnt_more h v
  rw [if_pos e] at h1
  have h2 := cnt_take l v (k + 1)
  omega

/-- what codes of at most a width take -/
def lowP (v : Nat) (x : Int) : Nat := if 0 < x ∧ x ≤ v then 2 ^ (12 - x.toNat) else 0
def low (l : List Int) (v : Nat) : Nat := (l.map (lowP v)).sum
theorem lowP_succ (v : Nat) (x : Int) : lowP (v + 1) x = lowP v x + (if x = ((v + 1 : Nat) : Int) then 1 else 0) * 2 ^ (12 - (v + 1)) := by
  unfold lowP
  by_cases h : x = ((v + 1 : Nat) : Int)
  · rw [if_pos h, if_pos (by omega), if_neg (by omega)]
    subst h
    simp
  · rw [if_neg h]
    by_cases h2 : 0 < x ∧ x ≤ v
    · rw [if_pos h2, if_pos (by omega)]
      omega
    · rw [if_neg h2, if_neg (by omega)]
      omega
theorem low_succ (l : List Int) (v : Nat) : low l (v + 1) = low l v + cnt l ((v + 1 : Nat) : Int) * 2 ^ (12 - (v + 1)) := by
  induction l with
  | nil => simp [low, cnt]
  | cons x l ih =>
    simp only [low, List.map_cons, List.sum_cons, cnt, List.countP_cons] at ih ⊢
    rw [ih, lowP_succ, Nat.add_mul]
    by_cases h : x = ((v + 1 : Nat) : Int)
    · simp only [h, if_true, decide_true]
      omega
    · simp only [h, if_false, decide_false, Bool.false_eq_true]
      omega
theorem low_zero (l : List Int) : low l 0 = 0 := by
  induction l with
  | nil => rfl
  | cons x l ih =>
    simp only [low, List.map_cons, List.sum_cons] at ih ⊢
    rw [ih, lowP, if_neg (by omega)]
theorem low_le (l : List Int) (v : Nat) : low l v ≤ csum l := by
  induction l with
  | nil => simp [low]
  | cons x l ih =>
    simp only [low, csum, List.map_cons, List.sum_cons] at ih ⊢
    have : lowP v x ≤ part x := by
      unfold lowP part
      generalize 2 ^ (12 - x.toNat) = p
      split <;> split <;> omega
    omega

/-- the number behind k places at a width -/
def innN (l : List Int) (v n0 k : Nat) : Nat := n0 + cnt (l.take k) v
/-- the next number behind a width -/
def outN (l : List Int) : Nat → Nat
  | 0 => 0
  | v + 1 => 2 * outN l v + cnt l ((v + 1 : Nat) : Int)
theorem outN_low (l : List Int) : ∀ v, v ≤ 12 → outN l v * 2 ^ (12 - v) = low l v := by
  intro v
  induction v with
  | zero => intro _; simp [outN, low_zero]
  | succ v ih =>
    intro hv
    rw [low_succ, ← ih (by omega)]
    simp only [outN]
    rw [Nat.add_mul, show 12 - v = 12 - (v + 1) + 1 by omega, Nat.pow_succ, Nat.mul_comm 2 (outN l v), Nat.mul_assoc, Nat.mul_comm 2]
theorem inn_fits {l : List Int} (hr : csum l ≤ 4096) {v k : Nat} (hv : v < 12) (hk : k < l.length) (e : l[k] = ((v + 1 : Nat) : Int)) : innN l (v + 1) (2 * outN l v) k < 2 ^ (v + 1) := by
  have h1 := cnt_here hk e
  have h2 := outN_low l (v + 1) (by omega)
  have h3 := low_le l (v + 1)
  have h4 : (2 : Nat) ^ (v + 1) * 2 ^ (12 - (v + 1)) = 4096 := by
    rw [← Nat.pow_add, show v + 1 + (12 - (v + 1)) = 12 by omega]
  have h5 : outN l (v + 1) * 2 ^ (12 - (v + 1)) ≤ 2 ^ (v + 1) * 2 ^ (12 - (v + 1)) := by rw [h2, h4]; omega
  have h6 : outN l (v + 1) ≤ 2 ^ (v + 1) := Nat.le_of_mul_le_mul_right h5 (Nat.pow_pos (by decide))
  simp only [outN] at h6
  unfold innN
  omega
theorem out_fits {l : List Int} (hr : csum l ≤ 4096) {v : Nat} (hv : v ≤ 12) : outN l v ≤ 2 ^ v := by
  have h2 := outN_low l v hv
  have h3 := low_le l v
  have h4 : (2 : Nat) ^ v * 2 ^ (12 - v) = 4096 := by
    rw [← Nat.pow_add, show v + (12 - v) = 12 by omega]
  have h5 : outN l v * 2 ^ (12 - v) ≤ 2 ^ v * 2 ^ (12 - v) := by rw [h2, h4]; omega
  exact Nat.le_of_mul_le_mul_right h5 (Nat.pow_pos (by decide))
theorem out_small {l : List Int} (hr : csum l ≤ 4096) {v : Nat} (hv : v ≤ 12) : outN l v ≤ 4096 := by
  have h1 := out_fits hr hv
  have h2 := Nat.pow_le_pow_right (n := 2) (by decide) hv
  omega
theorem innN_zero (l : List Int) (v n0 : Nat) : innN l v n0 0 = n0 := by simp [innN, cnt]
theorem innN_yes {l : List Int} {v n0 k : Nat} (h : k < l.length) (e : l[k] = (v : Int)) : innN l v n0 (k + 1) = innN l v n0 k + 1 := by
  unfold innN
  rw [cnt_more h, if_pos e]
  omega
theorem innN_no {l : List Int} {v n0 k : Nat} (h : k < l.length) (e : ¬ l[k] = (v : Int)) : innN l v n0 (k + 1) = innN l v n0 k := by
  unfold innN
  rw [cnt_more h, if_neg e]
  omega
theorem innN_all (l : List Int) (v : Nat) : innN l (v + 1) (2 * outN l v) l.length = outN l (v + 1) := by
  unfold innN
  rw [List.take_length]
  rfl
theorem innN_le (l : List Int) (v n0 k : Nat) : innN l v n0 k ≤ n0 + l.length := by
  unfold innN cnt
  have := List.countP_le_length (p := fun x => decide (x = (v : Int))) (l := l.take k)
  rw [List.length_take] at this
  omega

/-- the codes behind k places at a width -/
def innO (l : List Int) (v n0 : Nat) (o : List ByteArray) : Nat → List ByteArray
  | 0 => o
  | k + 1 => if l[k]? = some (v : Int) then (innO l v n0 o k).set k (bitsV (innN l v n0 k) v) else innO l v n0 o k
def outO (l : List Int) : Nat → List ByteArray
  | 0 => List.replicate l.length ⟨#[]⟩
  | v + 1 => innO l (v + 1) (2 * outN l v) (outO l v) l.length
def codesV (l : List Int) : List ByteArray := outO l 12
def codesR (l : List Int) : List ByteArray := if right l = true then codesV l else []
theorem innO_length (l : List Int) (v n0 : Nat) (o : List ByteArray) : ∀ k, (innO l v n0 o k).length = o.length := by
  intro k
  induction k with
  | zero => rfl
  | succ k ih =>
    simp only [innO]
    split
    · rw [List.length_set, ih]
    · exact ih
theorem outO_length (l : List Int) : ∀ v, (outO l v).length = l.length := by
  intro v
  induction v with
  | zero => simp [outO]
  | succ v ih => simp only [outO]; rw [innO_length, ih]
theorem codesV_length (l : List Int) : (codesV l).length = l.length := outO_length l 12
theorem innO_yes {l : List Int} {v n0 k : Nat} {o : List ByteArray} (h : k < l.length) (e : l[k] = (v : Int)) : innO l v n0 o (k + 1) = (innO l v n0 o k).set k (bitsV (innN l v n0 k) v) := by
  simp only [innO]
  rw [if_pos (by rw [List.getElem?_eq_getElem h, e])]
theorem innO_no {l : List Int} {v n0 k : Nat} {o : List ByteArray} (h : k < l.length) (e : ¬ l[k] = (v : Int)) : innO l v n0 o (k + 1) = innO l v n0 o k := by
  simp only [innO]
  rw [if_neg (by rw [List.getElem?_eq_getElem h]; simp; exact e)]
theorem codesR_yes {l : List Int} (h : right l = true) : codesR l = codesV l := if_pos h
theorem codesR_no {l : List Int} (h : right l = false) : codesR l = [] := if_neg (by rw [h]; decide)
end Go.Proofs.Ytmkpakhpjgocjaa.Bi

/- Plain mathematics of codes put one behind the other. -/
namespace Go.Proofs.Ytmkpakhpjgocjaa.Bi
open Go.RowKit
open Go.Proofs.Ytmkpakhpjgocjaa.Sh (bt strF)

theorem innO_get (l : List Int) (v n0 : Nat) (o : List ByteArray) (i : Nat) (hi : i < l.length) (ho : o.length = l.length) : ∀ k, k ≤ l.length →
    (innO l v n0 o k)[i]? = if i < k ∧ l[i] = (v : Int) then some (bitsV (innN l v n0 i) v) else o[i]? := by
  intro k
  induction k with
  | zero => intro _; simp [innO]
  | succ k ih =>
    intro hk
    by_cases e : l[k] = (v : Int)
    · rw [innO_yes (by omega) e, List.getElem?_set]
      by_cases hik : k = i
      · subst hik
        rw [if_pos rfl, if_pos (by rw [innO_length, ho]; exact hi), if_pos ⟨by omega, e⟩]
      · rw [if_neg hik, ih (by omega)]
        have : (i < k + 1 ∧ l[i] = (v : Int)) = (i < k ∧ l[i] = (v : Int)) := propext ⟨fun h => ⟨by omega, h.2⟩, fun h => ⟨by omega, h.2⟩⟩
        simp only [this]
    · rw [innO_no (by omega) e, ih (by omega)]
      by_cases hik : k = i
      · subst hik
        rw [if_neg (fun h => e h.2), if_neg (fun h => e h.2)]
      · have : (i < k + 1 ∧ l[i] = (v : Int)) = (i < k ∧ l[i] = (v : Int)) := propext ⟨fun h => ⟨by omega, h.2⟩, fun h => ⟨by omega, h.2⟩⟩
        simp only [this]
/-- the number of a symbol's code -/
def cnum (l : List Int) (i : Nat) : Nat := innN l (l.getD i 0).toNat (2 * outN l ((l.getD i 0).toNat - 1)) i
def codeOf (l : List Int) (i : Nat) : ByteArray := if 0 < l.getD i 0 then bitsV (cnum l i) (l.getD i 0).toNat else ⟨#[]⟩
theorem outO_get (l : List Int) (i : Nat) (hi : i < l.length) : ∀ v, v ≤ 12 → (outO l v)[i]? = some (if 0 < l[i] ∧ l[i] ≤ (v : Int) then codeOf l i else ⟨#[]⟩) := by
  have hg : l.getD i 0 = l[i] := by rw [List.getD_eq_getElem?_getD, List.getElem?_eq_getElem hi]; rfl
  intro v
  induction v with
  | zero =>
    intro _
    rw [if_neg (by omega)]
    simp [outO, hi]
  | succ v ih =>
    intro hv
    simp only [outO]
    rw [innO_get l (v + 1) _ _ i hi (outO_length l v) l.length (Nat.le_refl _), ih (by omega)]
    by_cases e : l[i] = ((v + 1 : Nat) : Int)
    · rw [if_pos ⟨hi, e⟩, if_pos (by omega)]
      unfold codeOf cnum
      rw [hg, if_pos (by omega), e]
      simp
    · rw [if_neg (fun h => e h.2)]
      have : (0 < l[i] ∧ l[i] ≤ ((v + 1 : Nat) : Int)) = (0 < l[i] ∧ l[i] ≤ (v : Int)) := propext ⟨fun h => ⟨h.1, by omega⟩, fun h => ⟨h.1, by omega⟩⟩
      simp only [this]
theorem codes_get (l : List Int) (h : ∀ x ∈ l, 0 ≤ x ∧ x ≤ 12) (i : Nat) (hi : i < (codesV l).length) : (codesV l)[i] = codeOf l i := by
  have hi' : i < l.length := by rw [codesV_length] at hi; exact hi
  have h1 := outO_get l i hi' 12 (Nat.le_refl _)
  have h2 := h _ (List.getElem_mem hi')
  have hg : l.getD i 0 = l[i] := by rw [List.getD_eq_getElem?_getD, List.getElem?_eq_getElem hi']; rfl
  have h3 : (codesV l)[i]? = some (codesV l)[i] := List.getElem?_eq_getElem hi
  have h4 : (codesV l)[i]? = (outO l 12)[i]? := rfl
  rw [h3, h1] at h4
  have h5 := Option.some.inj h4
  rw [h5]
  by_cases hp : 0 < l[i]
  · rw [if_pos ⟨hp, by omega⟩]
  · rw [if_neg (fun x => hp x.1)]
    unfold codeOf
    rw [hg, if_neg hp]
theorem codeOf_size (l : List Int) (i : Nat) : (codeOf l i).size = (l.getD i 0).toNat := by
  unfold codeOf
  split
  · exact bitsV_size _ _
  · have : (l.getD i 0).toNat = 0 := by omega
    rw [this]
    rfl
theorem codeOf_le (l : List Int) (h : ∀ x ∈ l, 0 ≤ x ∧ x ≤ 12) (i : Nat) : (codeOf l i).size ≤ 12 := by
  rw [codeOf_size]
  by_cases hi : i < l.length
  · have hg : l.getD i 0 = l[i] := by rw [List.getD_eq_getElem?_getD, List.getElem?_eq_getElem hi]; rfl
    have := h _ (List.getElem_mem hi)
    rw [hg]
    omega
  · rw [List.getD_eq_getElem?_getD, List.getElem?_eq_none (by omega)]
    decide
theorem codeOf_none (l : List Int) (i : Nat) (h : ¬ 0 < l.getD i 0) : codeOf l i = ⟨#[]⟩ := if_neg h
theorem codeOf_some (l : List Int) (i : Nat) (h : 0 < l.getD i 0) : codeOf l i ≠ ⟨#[]⟩ := by
  intro e
  have h1 := codeOf_size l i
  rw [e] at h1
  have : (⟨#[]⟩ : ByteArray).size = 0 := rfl
  omega

/-- a symbol that has a code -/
def okS (l : List Int) (x : Int) : Prop := 0 ≤ x ∧ x < l.length ∧ 0 < l.getD x.toNat 0
instance (l : List Int) (x : Int) : Decidable (okS l x) := inferInstanceAs (Decidable (_ ∧ _ ∧ _))
def putL (l : List Int) (s : List Int) : List UInt8 := s.flatMap fun x => (codeOf l x.toNat).data.toList
def putR (l s : List Int) : ByteArray := if 400 < s.length ∨ whole l = false ∨ ¬ (∀ x ∈ s, okS l x) then ⟨#[]⟩ else ⟨(putL l s).toArray⟩
theorem putR_no {l s : List Int} (h : 400 < s.length ∨ whole l = false) : putR l s = ⟨#[]⟩ := if_pos (by rcases h with h | h; exact Or.inl h; exact Or.inr (Or.inl h))
theorem putR_bad {l s : List Int} {j : Nat} (hj : j < s.length) (h : ¬ okS l s[j]) : putR l s = ⟨#[]⟩ := if_pos (Or.inr (Or.inr fun g => h (g _ (List.getElem_mem hj))))
theorem putR_yes {l s : List Int} (h1 : ¬ 400 < s.length) (h2 : whole l = true) (h3 : ∀ x ∈ s, okS l x) : putR l s = ⟨(putL l s).toArray⟩ := if_neg (by
  rintro (h | h | h)
  · exact h1 h
  · rw [h2] at h; cases h
  · exact h h3)
theorem putL_snoc (l s : List Int) (x : Int) : putL l (s ++ [x]) = putL l s ++ (codeOf l x.toNat).data.toList := by simp [putL]
theorem putL_more {l s : List Int} {k : Nat} (h : k < s.length) : putL l (s.take (k + 1)) = putL l (s.take k) ++ (codeOf l s[k].toNat).data.toList := by
  rw [take_more h, putL_snoc]
theorem putL_le (l : List Int) (h : ∀ x ∈ l, 0 ≤ x ∧ x ≤ 12) (s : List Int) : (putL l s).length ≤ 12 * s.length := by
  induction s with
  | nil => simp [putL]
  | cons x s ih =>
    have h1 := codeOf_le l h x.toNat
    have h2 : (codeOf l x.toNat).data.toList.length = (codeOf l x.toNat).size := by simp
    simp only [putL, List.flatMap_cons, List.length_append, List.length_cons] at ih ⊢
    omega
theorem whole_right {l : List Int} (h : whole l = true) : right l = true := by
  unfold whole at h
  rw [Bool.and_eq_true] at h
  exact h.1
theorem whole_ok {l : List Int} (h : whole l = true) : ∀ x ∈ l, 0 ≤ x ∧ x ≤ 12 := (within_yes (right_yes (whole_right h)).1).2
theorem whole_len {l : List Int} (h : whole l = true) : l.length ≤ 257 := (within_yes (right_yes (whole_right h)).1).1
end Go.Proofs.Ytmkpakhpjgocjaa.Bi

/- Plain mathematics of codes got again: no code begins another one. -/
namespace Go.Proofs.Ytmkpakhpjgocjaa.Bi
open Go.RowKit
open Go.Proofs.Ytmkpakhpjgocjaa.Sh (bt strF bt_strF strF_size strF_bt strF_congr bt_lt)

def wd (l : List Int) (i : Nat) : Nat := (l.getD i 0).toNat
theorem getD_lt {l : List Int} {i : Nat} (hi : i < l.length) : l.getD i 0 = l[i] := by rw [List.getD_eq_getElem?_getD, List.getElem?_eq_getElem hi]; rfl
theorem getD_ge {l : List Int} {i : Nat} (hi : ¬ i < l.length) : l.getD i 0 = 0 := by rw [List.getD_eq_getElem?_getD, List.getElem?_eq_none (by omega)]; rfl
/-- where a symbol's codes begin among all of 12 bits -/
def start (l : List Int) (i : Nat) : Nat := cnum l i * 2 ^ (12 - wd l i)
theorem start_eq (l : List Int) (i : Nat) (h1 : 1 ≤ wd l i) (h2 : wd l i ≤ 12) : start l i = low l (wd l i - 1) + cnt (l.take i) (wd l i : Nat) * 2 ^ (12 - wd l i) := by
  have h3 := outN_low l (wd l i - 1) (by omega)
  unfold start cnum innN
  rw [← h3]
  show (2 * outN l (wd l i - 1) + cnt (l.take i) ((wd l i : Nat) : Int)) * 2 ^ (12 - wd l i) = _
  rw [Nat.add_mul, show 12 - (wd l i - 1) = 12 - wd l i + 1 by omega, Nat.pow_succ, Nat.mul_comm 2 (outN l (wd l i - 1)), Nat.mul_assoc, Nat.mul_comm 2]
theorem wd_int {l : List Int} {i : Nat} (h : 0 < l.getD i 0) : l.getD i 0 = ((wd l i : Nat) : Int) := by unfold wd; omega
theorem low_mono (l : List Int) (a b : Nat) (h : a ≤ b) : low l a ≤ low l b := by
  induction b with
  | zero => rw [show a = 0 by omega]; exact Nat.le_refl _
  | succ b ih =>
    by_cases e : a = b + 1
    · rw [e]; exact Nat.le_refl _
    · have := ih (by omega)
      have h2 := low_succ l b
      omega
theorem start_end (l : List Int) (i : Nat) (hi : i < l.length) (h0 : 0 < l.getD i 0) (h2 : wd l i ≤ 12) : start l i + 2 ^ (12 - wd l i) ≤ low l (wd l i) := by
  have h1 : 1 ≤ wd l i := by unfold wd; omega
  have e : l[i] = ((wd l i : Nat) : Int) := by rw [← getD_lt hi]; exact wd_int h0
  have hc := cnt_here hi e
  have hl := low_succ l (wd l i - 1)
  rw [show wd l i - 1 + 1 = wd l i by omega] at hl
  rw [start_eq l i h1 h2, hl]
  have : (cnt (l.take i) ((wd l i : Nat) : Int) + 1) * 2 ^ (12 - wd l i) ≤ cnt l ((wd l i : Nat) : Int) * 2 ^ (12 - wd l i) := Nat.mul_le_mul_right _ hc
  rw [Nat.add_mul, Nat.one_mul] at this
  omega
theorem start_apart (l : List Int) (i j : Nat) (hi : i < l.length) (h0 : 0 < l.getD i 0) (h0' : 0 < l.getD j 0) (h12 : wd l i ≤ 12) (h12' : wd l j ≤ 12) (h : wd l i < wd l j ∨ (wd l i = wd l j ∧ i < j)) (_hj : j < l.length) :
    start l i + 2 ^ (12 - wd l i) ≤ start l j := by
  have h1' : 1 ≤ wd l j := by unfold wd; omega
  have h1 : 1 ≤ wd l i := by unfold wd; omega
  rcases h with h | ⟨h, hij⟩
  · have a1 := start_end l i hi h0 h12
    have a2 := low_mono l (wd l i) (wd l j - 1) (by omega)
    have a3 := start_eq l j h1' h12'
    omega
  · have e : l[i] = ((wd l i : Nat) : Int) := by rw [← getD_lt hi]; exact wd_int h0
    have c1 := cnt_more hi ((wd l i : Nat) : Int)
    rw [if_pos e] at c1
    have c2 : cnt (l.take (i + 1)) ((wd l i : Nat) : Int) ≤ cnt (l.take j) ((wd l i : Nat) : Int) := by
      have := cnt_take (l.take j) ((wd l i : Nat) : Int) (i + 1)
      rw [List.take_take, Nat.min_eq_left (by omega)] at this
      exact this
    rw [start_eq l i h1 h12, start_eq l j h1' h12', ← h]
    have : (cnt (l.take i) ((wd l i : Nat) : Int) + 1) * 2 ^ (12 - wd l i) ≤ cnt (l.take j) ((wd l i : Nat) : Int) * 2 ^ (12 - wd l i) := Nat.mul_le_mul_right _ (by omega)
    rw [Nat.add_mul, Nat.one_mul] at this
    omega

theorem bt_extract (t : ByteArray) (a b j : Nat) (hj : a + j < b) (_hb : b ≤ t.size) : bt (t.extract a b) j = bt t (a + j) := by
  unfold bt
  have h1 : (t.extract a b).data.toList = (t.data.toList.take b).drop a := by
    rw [ByteArray.data_extract, Array.toList_extract]
    simp [List.extract_eq_take_drop, List.drop_take]
  rw [h1, List.getD_eq_getElem?_getD, List.getD_eq_getElem?_getD, List.getElem?_drop, List.getElem?_take_of_lt hj]
/-- the number of the first bits -/
def val (t : ByteArray) : Nat → Nat
  | 0 => 0
  | r + 1 => 2 * val t r + (bt t r - 48)
theorem val_of (t : ByteArray) (n v : Nat) (hn : n < 2 ^ v) (h : ∀ j, j < v → bt t j = bitB n (v - 1 - j)) : ∀ r, r ≤ v → val t r = n / 2 ^ (v - r) := by
  intro r
  induction r with
  | zero => intro _; rw [Nat.sub_zero, Nat.div_eq_of_lt hn]; rfl
  | succ r ih =>
    intro hr
    simp only [val]
    rw [ih (by omega), h r (by omega)]
    unfold bitB
    rw [show v - r = v - (r + 1) + 1 by omega, Nat.pow_succ, ← Nat.div_div_eq_div_mul, show v - 1 - r = v - (r + 1) by omega]
    omega
/-- a text begins with a symbol's code -/
def mt (l : List Int) (t : ByteArray) (i : Nat) : Prop := i < l.length ∧ 0 < l.getD i 0 ∧ wd l i ≤ t.size ∧ t.extract 0 (wd l i) = codeOf l i
theorem cnum_fits {l : List Int} (hr : csum l ≤ 4096) {i : Nat} (hi : i < l.length) (h0 : 0 < l.getD i 0) (h2 : wd l i ≤ 12) : cnum l i < 2 ^ wd l i := by
  have h1 : 1 ≤ wd l i := by unfold wd; omega
  have e : l[i] = ((wd l i - 1 + 1 : Nat) : Int) := by rw [show wd l i - 1 + 1 = wd l i by omega, ← getD_lt hi]; exact wd_int h0
  have := inn_fits hr (v := wd l i - 1) (by omega) hi e
  rw [show wd l i - 1 + 1 = wd l i by omega] at this
  exact this
theorem mt_val {l : List Int} (hr : csum l ≤ 4096) {t : ByteArray} {i : Nat} (h : mt l t i) (h12 : wd l i ≤ 12) : ∀ r, r ≤ wd l i → val t r = cnum l i / 2 ^ (wd l i - r) := by
  obtain ⟨hi, h0, hs, he⟩ := h
  refine val_of t (cnum l i) (wd l i) (cnum_fits hr hi h0 h12) fun j hj => ?_
  have h1 := bt_extract t 0 (wd l i) j (by omega) hs
  rw [Nat.zero_add, he] at h1
  rw [← h1]
  unfold codeOf
  rw [if_pos h0]
  exact bt_strF _ _ j hj (bitB_lt _ _)
theorem mt_start {l : List Int} (hr : csum l ≤ 4096) {t : ByteArray} {i j : Nat} (hi : mt l t i) (hj : mt l t j) (h12 : wd l i ≤ 12) (h12' : wd l j ≤ 12) (h : wd l i ≤ wd l j) : start l j < start l i + 2 ^ (12 - wd l i) := by
  have a1 := mt_val hr hi h12 (wd l i) (Nat.le_refl _)
  have a2 := mt_val hr hj h12' (wd l i) h
  rw [Nat.sub_self, Nat.pow_zero, Nat.div_one] at a1
  rw [a1] at a2
  have a3 : cnum l j < (cnum l i + 1) * 2 ^ (wd l j - wd l i) := by
    rw [a2]
    exact Nat.lt_mul_of_div_lt (Nat.lt_succ_self _) (Nat.pow_pos (by decide))
  unfold start
  have a4 : cnum l j * 2 ^ (12 - wd l j) < (cnum l i + 1) * 2 ^ (wd l j - wd l i) * 2 ^ (12 - wd l j) := Nat.mul_lt_mul_of_pos_right a3 (Nat.pow_pos (by decide))
  rw [Nat.mul_assoc, ← Nat.pow_add, show wd l j - wd l i + (12 - wd l j) = 12 - wd l i by omega, Nat.add_mul, Nat.one_mul] at a4
  exact a4
/-- at most one code begins a text -/
theorem mt_one {l : List Int} (hr : csum l ≤ 4096) (hok : ∀ x ∈ l, 0 ≤ x ∧ x ≤ 12) {t : ByteArray} {i j : Nat} (hi : mt l t i) (hj : mt l t j) : i = j := by
  have w12 : ∀ k, k < l.length → wd l k ≤ 12 := fun k hk => by
    have := hok _ (List.getElem_mem hk)
    unfold wd
    rw [getD_lt hk]
    omega
  have hi12 := w12 i hi.1
  have hj12 := w12 j hj.1
  rcases Nat.lt_trichotomy (wd l i) (wd l j) with h | h | h
  · have b1 := start_apart l i j hi.1 hi.2.1 hj.2.1 hi12 hj12 (Or.inl h) hj.1
    have b2 := mt_start hr hi hj hi12 hj12 (by omega)
    omega
  · rcases Nat.lt_trichotomy i j with h' | h' | h'
    · have b1 := start_apart l i j hi.1 hi.2.1 hj.2.1 hi12 hj12 (Or.inr ⟨h, h'⟩) hj.1
      have b2 := mt_start hr hi hj hi12 hj12 (by omega)
      omega
    · exact h'
    · have b1 := start_apart l j i hj.1 hj.2.1 hi.2.1 hj12 hi12 (Or.inr ⟨h.symm, h'⟩) hi.1
      have b2 := mt_start hr hj hi hj12 hi12 (by omega)
      omega
  · have b1 := start_apart l j i hj.1 hj.2.1 hi.2.1 hj12 hi12 (Or.inl h) hi.1
    have b2 := mt_start hr hj hi hj12 hi12 (by omega)
    omega
end Go.Proofs.Ytmkpakhpjgocjaa.Bi
