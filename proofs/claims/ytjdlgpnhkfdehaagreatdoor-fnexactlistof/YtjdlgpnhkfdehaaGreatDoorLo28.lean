/- Texts put together: CodesPlain, PutPlain, PackPlain. -/
import Derived.Test.YtjdlgpnhkfdehaaGreatDoorLo23
import Derived.Test.YtjdlgpnhkfdehaaGreatDoorLo17
/- Plain mathematics of codes: the codes of lengths, one width behind the other, and that each fits its width. -/
namespace Go.Proofs.YtjdlgpnhkfdehaaGreatDoor.Bi
open Go.RowKit
def cnt (l : List Int) (v : Int) : Nat := l.countP fun x => decide (x = v)
theorem cnt_snoc (l : List Int) (v x : Int) : cnt (l ++ [x]) v = cnt l v + if x = v then 1 else 0 := by simp [cnt, List.countP_append, List.countP_cons]
theorem cnt_more {l : List Int} {k : Nat} (h : k < l.length) (v : Int) : cnt (l.take (k + 1)) v = cnt (l.take k) v + if l[k] = v then 1 else 0 := by
  rw [take_more h, cnt_snoc]
theorem cnt_take (l : List Int) (v : Int) (k : Nat) : cnt (l.take k) v ≤ cnt l v := by
  unfold cnt
  exact List.Sublist.countP_le (List.take_sublist k l)
theorem cnt_here {l : List Int} {k : Nat} {v : Int} (h : k < l.length) (e : l[k] = v) : cnt (l.take k) v + 1 ≤ cnt l v := by
  have h1 := cnt_more h v
  rw [if_pos e] at h1
  have h2 := cnt_take l v (k + 1)
  omega
def lowP (v : Nat) (x : Int) : Nat := if 0 < x ∧ x ≤ v then 2 ^ (12 - x.toNat) else 0
def low (l : List Int) (v : Nat) : Nat := (l.map (lowP v)).sum
theorem lowP_succ (v : Nat) (x : Int) : lowP (v + 1) x = lowP v x + (if x = ((v + 1 : Nat) : Int) then 1 else 0) * 2 ^ (12 - (v + 1)) := by
  unfold lowP
  by_cases h : x = ((v + 1 : Nat) : Int)
  · rw [if_pos h, if_pos (by omega), if_neg (by omega)]
    subst h
    simp
  · rw [if_neg h]
    by_cases h2 : 0 < x ∧ x ≤ v
    · rw [if_pos h2, if_pos (by omega)]
      omega
    · rw [if_neg h2, if_neg (by omega)]
      omega
theorem low_succ (l : List Int) (v : Nat) : low l (v + 1) = low l v + cnt l ((v + 1 : Nat) : Int) * 2 ^ (12 - (v + 1)) := by
  induction l with
  | nil => simp [low, cnt]
  | cons x l ih =>
    simp only [low, List.map_cons, List.sum_cons, cnt, List.countP_cons] at ih ⊢
    rw [ih, lowP_succ, Nat.add_mul]
    by_cases h : x = ((v + 1 : Nat) : Int)
    · simp only [h, if_true, decide_true]
      omega
    · simp only [h, if_false, decide_false, Bool.false_eq_true]
      omega
theorem low_zero (l : List Int) : low l 0 = 0 := by
  induction l with
  | nil => rfl
  | cons x l ih =>
    simp only [low, List.map_cons, List.sum_cons] at ih ⊢
    rw [ih, lowP, if_neg (by omega)]
theorem low_le (l : List Int) (v : Nat) : low l v ≤ csum l := by
  induction l with
  | nil => simp [low]
  | cons x l ih =>
    simp only [low, csum, List.map_cons, List.sum_cons] at ih ⊢
    have : lowP v x ≤ part x := by
      unfold lowP part
      generalize 2 ^ (12 - x.toNat) = p
      split <;> split <;> omega
    omega
def innN (l : List Int) (v n0 k : Nat) : Nat := n0 + cnt (l.take k) v
def outN (l : List Int) : Nat → Nat
  | 0 => 0
  | v + 1 => 2 * outN l v + cnt l ((v + 1 : Nat) : Int)
theorem outN_low (l : List Int) : ∀ v, v ≤ 12 → outN l v * 2 ^ (12 - v) = low l v := by
  intro v
  induction v with
  | zero => intro _; simp [outN, low_zero]
  | succ v ih =>
    intro hv
    rw [low_succ, ← ih (by omega)]
    simp only [outN]
    rw [Nat.add_mul, show 12 - v = 12 - (v + 1) + 1 by omega, Nat.pow_succ, Nat.mul_comm 2 (outN l v), Nat.mul_assoc, Nat.mul_comm 2]
theorem inn_fits {l : List Int} (hr : csum l ≤ 4096) {v k : Nat} (hv : v < 12) (hk : k < l.length) (e : l[k] = ((v + 1 : Nat) : Int)) : innN l (v + 1) (2 * outN l v) k < 2 ^ (v + 1) := by
  have h1 := cnt_here hk e
  have h2 := outN_low l (v + 1) (by omega)
  have h3 := low_le l (v + 1)
  have h4 : (2 : Nat) ^ (v + 1) * 2 ^ (12 - (v + 1)) = 4096 := by
    rw [← Nat.pow_add, show v + 1 + (12 - (v + 1)) = 12 by omega]
  have h5 : outN l (v + 1) * 2 ^ (12 - (v + 1)) ≤ 2 ^ (v + 1) * 2 ^ (12 - (v + 1)) := by rw [h2, h4]; omega
  have h6 : outN l (v + 1) ≤ 2 ^ (v + 1) := Nat.le_of_mul_le_mul_right h5 (Nat.pow_pos (by decide))
  simp only [outN] at h6
  unfold innN
  omega
theorem out_fits {l : List Int} (hr : csum l ≤ 4096) {v : Nat} (hv : v ≤ 12) : outN l v ≤ 2 ^ v := by
  have h2 := outN_low l v hv
  have h3 := low_le l v
  have h4 : (2 : Nat) ^ v * 2 ^ (12 - v) = 4096 := by
    rw [← Nat.pow_add, show v + (12 - v) = 12 by omega]
  have h5 : outN l v * 2 ^ (12 - v) ≤ 2 ^ v * 2 ^ (12 - v) := by rw [h2, h4]; omega
  exact Nat.le_of_mul_le_mul_right h5 (Nat.pow_pos (by decide))
theorem out_small {l : List Int} (hr : csum l ≤ 4096) {v : Nat} (hv : v ≤ 12) : outN l v ≤ 4096 := by
  have h1 := out_fits hr hv
  have h2 := Nat.pow_le_pow_right (n := 2) (by decide) hv
  omega
theorem innN_zero (l : List Int) (v n0 : Nat) : innN l v n0 0 = n0 := by simp [innN, cnt]
theorem innN_yes {l : List Int} {v n0 k : Nat} (h : k < l.length) (e : l[k] = (v : Int)) : innN l v n0 (k + 1) = innN l v n0 k + 1 := by
  unfold innN
  rw [cnt_more h, if_pos e]
  omega
theorem innN_no {l : List Int} {v n0 k : Nat} (h : k < l.length) (e : ¬ l[k] = (v : Int)) : innN l v n0 (k + 1) = innN l v n0 k := by
  unfold innN
  rw [cnt_more h, if_neg e]
  omega
theorem innN_all (l : List Int) (v : Nat) : innN l (v + 1) (2 * outN l v) l.length = outN l (v + 1) := by
  unfold innN
  rw [List.take_length]
  rfl
theorem innN_le (l : List Int) (v n0 k : Nat) : innN l v n0 k ≤ n0 + l.length := by
  unfold innN cnt
  have := List.countP_le_length (p := fun x => decide (x = (v : Int))) (l := l.take k)
  rw [List.length_take] at this
  omega
def innO (l : List Int) (v n0 : Nat) (o : List ByteArray) : Nat → List ByteArray
  | 0 => o
  | k + 1 => if l[k]? = some (v : Int) then (innO l v n0 o k).set k (bitsV (innN l v n0 k) v) else innO l v n0 o k
def outO (l : List Int) : Nat → List ByteArray
  | 0 => List.replicate l.length ⟨#[]⟩
  | v + 1 => innO l (v + 1) (2 * outN l v) (outO l v) l.length
def codesV (l : List Int) : List ByteArray := outO l 12
def codesR (l : List Int) : List ByteArray := if right l = true then codesV l else []
theorem innO_length (l : List Int) (v n0 : Nat) (o : List ByteArray) : ∀ k, (innO l v n0 o k).length = o.length := by
  intro k
  induction k with
  | zero => rfl
  | succ k ih =>
    simp only [innO]
    split
    · rw [List.length_set, ih]
    · exact ih
theorem outO_length (l : List Int) : ∀ v, (outO l v).length = l.length := by
  intro v
  induction v with
  | zero => simp [outO]
  | succ v ih => simp only [outO]; rw [innO_length, ih]
theorem codesV_length (l : List Int) : (codesV l).length = l.length := outO_length l 12
theorem innO_yes {l : List Int} {v n0 k : Nat} {o : List ByteArray} (h : k < l.length) (e : l[k] = (v : Int)) : innO l v n0 o (k + 1) = (innO l v n0 o k).set k (bitsV (innN l v n0 k) v) := by
  simp only [innO]
  rw [if_pos (by rw [List.getElem?_eq_getElem h, e])]
theorem innO_no {l : List Int} {v n0 k : Nat} {o : List ByteArray} (h : k < l.length) (e : ¬ l[k] = (v : Int)) : innO l v n0 o (k + 1) = innO l v n0 o k := by
  simp only [innO]
  rw [if_neg (by rw [List.getElem?_eq_getElem h]; simp; exact e)]
end Go.Proofs.YtjdlgpnhkfdehaaGreatDoor.Bi


/- Plain mathematics of codes put one behind the other. -/
namespace Go.Proofs.YtjdlgpnhkfdehaaGreatDoor.Bi
open Go.RowKit
open Go.Proofs.YtjdlgpnhkfdehaaGreatDoor.Sh (bt strF)
theorem innO_get (l : List Int) (v n0 : Nat) (o : List ByteArray) (i : Nat) (hi : i < l.length) (ho : o.length = l.length) : ∀ k, k ≤ l.length →
    (innO l v n0 o k)[i]? = if i < k ∧ l[i] = (v : Int) then some (bitsV (innN l v n0 i) v) else o[i]? := by
  intro k
  induction k with
  | zero => intro _; simp [innO]
  | succ k ih =>
    intro hk
    by_cases e : l[k] = (v : Int)
    · rw [innO_yes (by omega) e, List.getElem?_set]
      by_cases hik : k = i
      · subst hik
        rw [if_pos rfl, if_pos (by rw [innO_length, ho]; exact hi), if_pos ⟨by omega, e⟩]
      · rw [if_neg hik, ih (by omega)]
        have : (i < k + 1 ∧ l[i] = (v : Int)) = (i < k ∧ l[i] = (v : Int)) := propext ⟨fun h => ⟨by omega, h.2⟩, fun h => ⟨by omega, h.2⟩⟩
        simp only [this]
    · rw [innO_no (by omega) e, ih (by omega)]
      by_cases hik : k = i
      · subst hik
        rw [if_neg (fun h => e h.2), if_neg (fun h => e h.2)]
      · have : (i < k + 1 ∧ l[i] = (v : Int)) = (i < k ∧ l[i] = (v : Int)) := propext ⟨fun h => ⟨by omega, h.2⟩, fun h => ⟨by omega, h.2⟩⟩
        simp only [this]
def cnum (l : List Int) (i : Nat) : Nat := innN l (l.getD i 0).toNat (2 * outN l ((l.getD i 0).toNat - 1)) i
def codeOf (l : List Int) (i : Nat) : ByteArray := if 0 < l.getD i 0 then bitsV (cnum l i) (l.getD i 0).toNat else ⟨#[]⟩
theorem outO_get (l : List Int) (i : Nat) (hi : i < l.length) : ∀ v, v ≤ 12 → (outO l v)[i]? = some (if 0 < l[i] ∧ l[i] ≤ (v : Int) then codeOf l i else ⟨#[]⟩) := by
  have hg : l.getD i 0 = l[i] := by rw [List.getD_eq_getElem?_getD, List.getElem?_eq_getElem hi]; rfl
  intro v
  induction v with
  | zero =>
    intro _
    rw [if_neg (by omega)]
    simp [outO, hi]
  | succ v ih =>
    intro hv
    simp only [outO]
    rw [innO_get l (v + 1) _ _ i hi (outO_length l v) l.length (Nat.le_refl _), ih (by omega)]
    by_cases e : l[i] = ((v + 1 : Nat) : Int)
    · rw [if_pos ⟨hi, e⟩, if_pos (by omega)]
      unfold codeOf cnum
      rw [hg, if_pos (by omega), e]
      simp
    · rw [if_neg (fun h => e h.2)]
      have : (0 < l[i] ∧ l[i] ≤ ((v + 1 : Nat) : Int)) = (0 < l[i] ∧ l[i] ≤ (v : Int)) := propext ⟨fun h => ⟨h.1, by omega⟩, fun h => ⟨h.1, by omega⟩⟩
      simp only [this]
theorem codes_get (l : List Int) (h : ∀ x ∈ l, 0 ≤ x ∧ x ≤ 12) (i : Nat) (hi : i < (codesV l).length) : (codesV l)[i] = codeOf l i := by
  have hi' : i < l.length := by rw [codesV_length] at hi; exact hi
  have h1 := outO_get l i hi' 12 (Nat.le_refl _)
  have h2 := h _ (List.getElem_mem hi')
  have hg : l.getD i 0 = l[i] := by rw [List.getD_eq_getElem?_getD, List.getElem?_eq_getElem hi']; rfl
  have h3 : (codesV l)[i]? = some (codesV l)[i] := List.getElem?_eq_getElem hi
  have h4 : (codesV l)[i]? = (outO l 12)[i]? := rfl
  rw [h3, h1] at h4
  have h5 := Option.some.inj h4
  rw [h5]
  by_cases hp : 0 < l[i]
  · rw [if_pos ⟨hp, by omega⟩]
  · rw [if_neg (fun x => hp x.1)]
    unfold codeOf
    rw [hg, if_neg hp]
theorem codeOf_size (l : List Int) (i : Nat) : (codeOf l i).size = (l.getD i 0).toNat := by
  unfold codeOf
  split
  · exact bitsV_size _ _
  · have : (l.getD i 0).toNat = 0 := by omega
    rw [this]
    rfl
theorem codeOf_le (l : List Int) (h : ∀ x ∈ l, 0 ≤ x ∧ x ≤ 12) (i : Nat) : (codeOf l i).size ≤ 12 := by
  rw [codeOf_size]
  by_cases hi : i < l.length
  · have hg : l.getD i 0 = l[i] := by rw [List.getD_eq_getElem?_getD, List.getElem?_eq_getElem hi]; rfl
    have := h _ (List.getElem_mem hi)
    rw [hg]
    omega
  · rw [List.getD_eq_getElem?_getD, List.getElem?_eq_none (by omega)]
    decide
theorem codeOf_none (l : List Int) (i : Nat) (h : ¬ 0 < l.getD i 0) : codeOf l i = ⟨#[]⟩ := if_neg h
def okS (l : List Int) (x : Int) : Prop := 0 ≤ x ∧ x < l.length ∧ 0 < l.getD x.toNat 0
instance (l : List Int) (x : Int) : Decidable (okS l x) := inferInstanceAs (Decidable (_ ∧ _ ∧ _))
def putL (l : List Int) (s : List Int) : List UInt8 := s.flatMap fun x => (codeOf l x.toNat).data.toList
def putR (l s : List Int) : ByteArray := if 400 < s.length ∨ whole l = false ∨ ¬ (∀ x ∈ s, okS l x) then ⟨#[]⟩ else ⟨(putL l s).toArray⟩
theorem putR_no {l s : List Int} (h : 400 < s.length ∨ whole l = false) : putR l s = ⟨#[]⟩ := if_pos (by rcases h with h | h; exact Or.inl h; exact Or.inr (Or.inl h))
theorem putR_bad {l s : List Int} {j : Nat} (hj : j < s.length) (h : ¬ okS l s[j]) : putR l s = ⟨#[]⟩ := if_pos (Or.inr (Or.inr fun g => h (g _ (List.getElem_mem hj))))
theorem putR_yes {l s : List Int} (h1 : ¬ 400 < s.length) (h2 : whole l = true) (h3 : ∀ x ∈ s, okS l x) : putR l s = ⟨(putL l s).toArray⟩ := if_neg (by
  rintro (h | h | h)
  · exact h1 h
  · rw [h2] at h; cases h
  · exact h h3)
theorem putL_snoc (l s : List Int) (x : Int) : putL l (s ++ [x]) = putL l s ++ (codeOf l x.toNat).data.toList := by simp [putL]
theorem putL_more {l s : List Int} {k : Nat} (h : k < s.length) : putL l (s.take (k + 1)) = putL l (s.take k) ++ (codeOf l s[k].toNat).data.toList := by
  rw [take_more h, putL_snoc]
theorem putL_le (l : List Int) (h : ∀ x ∈ l, 0 ≤ x ∧ x ≤ 12) (s : List Int) : (putL l s).length ≤ 12 * s.length := by
  induction s with
  | nil => simp [putL]
  | cons x s ih =>
    have h1 := codeOf_le l h x.toNat
    have h2 : (codeOf l x.toNat).data.toList.length = (codeOf l x.toNat).size := by simp
    simp only [putL, List.flatMap_cons, List.length_append, List.length_cons] at ih ⊢
    omega
theorem whole_right {l : List Int} (h : whole l = true) : right l = true := by
  unfold whole at h
  rw [Bool.and_eq_true] at h
  exact h.1
theorem whole_ok {l : List Int} (h : whole l = true) : ∀ x ∈ l, 0 ≤ x ∧ x ≤ 12 := (within_yes (right_yes (whole_right h)).1).2
theorem whole_len {l : List Int} (h : whole l = true) : l.length ≤ 257 := (within_yes (right_yes (whole_right h)).1).1
end Go.Proofs.YtjdlgpnhkfdehaaGreatDoor.Bi


/- Plain mathematics of bits in bytes: eight bits a byte, the first one highest. -/
namespace Go.Proofs.YtjdlgpnhkfdehaaGreatDoor.Bi
open Go.RowKit
open Go.Proofs.YtjdlgpnhkfdehaaGreatDoor.Sh
def good (t : ByteArray) : Bool := decide (∀ j, j < t.size → bt t j = 48 ∨ bt t j = 49)
theorem good_yes {t : ByteArray} (h : good t = true) : ∀ j, j < t.size → bt t j = 48 ∨ bt t j = 49 := of_decide_eq_true h
theorem good_of {t : ByteArray} (h : ∀ j, j < t.size → bt t j = 48 ∨ bt t j = 49) : good t = true := decide_eq_true h
theorem good_not {t : ByteArray} {j : Nat} (h : j < t.size) (h1 : bt t j ≠ 48) (h2 : bt t j ≠ 49) : good t = false := decide_eq_false fun g => by
  rcases g j h with e | e
  · exact h1 e
  · exact h2 e
def one (t : ByteArray) (i : Nat) : Nat := if i < t.size ∧ bt t i = 49 then 1 else 0
def pk (t : ByteArray) (q : Nat) : Nat → Nat
  | 0 => 0
  | r + 1 => pk t q r + one t (8 * q + r) * 2 ^ (7 - r)
theorem one_le (t : ByteArray) (i : Nat) : one t i ≤ 1 := by unfold one; split <;> omega
theorem pk_mul (t : ByteArray) (q : Nat) : ∀ r, r ≤ 8 → ∃ n, pk t q r = n * 2 ^ (8 - r) ∧ n < 2 ^ r := by
  intro r
  induction r with
  | zero => intro _; exact ⟨0, by simp [pk], by decide⟩
  | succ r ih =>
    intro hr
    obtain ⟨n, h1, h2⟩ := ih (by omega)
    have h3 := one_le t (8 * q + r)
    refine ⟨2 * n + one t (8 * q + r), ?_, by rw [Nat.pow_succ]; omega⟩
    have e : 8 - r = 7 - r + 1 := by omega
    have e2 : 8 - (r + 1) = 7 - r := by omega
    simp only [pk]
    rw [h1, e, Nat.pow_succ, e2, Nat.add_mul, Nat.mul_comm (2 ^ (7 - r)) 2, ← Nat.mul_assoc, Nat.mul_comm n 2]
theorem pk_lt (t : ByteArray) (q r : Nat) (hr : r ≤ 8) : pk t q r < 256 := by
  obtain ⟨n, h1, h2⟩ := pk_mul t q r hr
  rw [h1]
  have h3 : n * 2 ^ (8 - r) < 2 ^ r * 2 ^ (8 - r) := Nat.mul_lt_mul_of_pos_right h2 (Nat.pow_pos (by decide))
  rw [← Nat.pow_add, show r + (8 - r) = 8 by omega] at h3
  omega
def packV (t : ByteArray) : ByteArray := strF ((t.size + 7) / 8) (fun q => pk t q 8)
def packR (t : ByteArray) : ByteArray := if 8000 < t.size ∨ good t = false then ⟨#[]⟩ else packV t
theorem packR_no (t : ByteArray) (h : 8000 < t.size ∨ good t = false) : packR t = ⟨#[]⟩ := if_pos h
theorem packR_yes (t : ByteArray) (h : ¬ 8000 < t.size) (h2 : good t = true) : packR t = packV t := if_neg (by rw [h2]; simp; omega)
def pkK (t : ByteArray) (k q : Nat) : Nat := pk t q (min 8 (k - 8 * q))
theorem pkK_lt (t : ByteArray) (k q : Nat) : pkK t k q < 256 := pk_lt t q _ (Nat.min_le_left _ _)
theorem pkK_zero (t : ByteArray) (q : Nat) : pkK t 0 q = 0 := by simp [pkK, pk]
theorem pkK_other (t : ByteArray) (k q : Nat) (h : q ≠ k / 8) : pkK t (k + 1) q = pkK t k q := by
  unfold pkK
  congr 1
  omega
theorem pkK_here (t : ByteArray) (k : Nat) : pkK t k (k / 8) = pk t (k / 8) (k % 8) := by
  unfold pkK
  congr 1
  omega
theorem pkK_next (t : ByteArray) (k : Nat) : pkK t (k + 1) (k / 8) = pk t (k / 8) (k % 8) + one t k * 2 ^ (7 - k % 8) := by
  have e : min 8 (k + 1 - 8 * (k / 8)) = k % 8 + 1 := by omega
  unfold pkK
  rw [e]
  simp only [pk]
  rw [show 8 * (k / 8) + k % 8 = k by omega]
theorem pkK_set (t : ByteArray) (k q : Nat) (v : Int) (h : one t k = 1) (hv : v = ((pk t (k / 8) (k % 8) + 2 ^ (7 - k % 8) : Nat) : Int)) : upd (fun j => ((pkK t k j : Nat) : Int)) (k / 8) v q = (pkK t (k + 1) q : Nat) := by
  subst hv
  unfold upd
  by_cases e : q = k / 8
  · subst e
    rw [if_pos rfl, pkK_next, h, Nat.one_mul]
  · rw [if_neg e, pkK_other t k q e]
theorem pkK_skip (t : ByteArray) (k q : Nat) (h : one t k = 0) : ((pkK t k q : Nat) : Int) = (pkK t (k + 1) q : Nat) := by
  by_cases e : q = k / 8
  · subst e
    rw [pkK_next, h, Nat.zero_mul, pkK_here]
    rfl
  · rw [pkK_other t k q e]
theorem one_behind (t : ByteArray) (i : Nat) (h : t.size ≤ i) : one t i = 0 := by unfold one; rw [if_neg (by omega)]
theorem pk_behind (t : ByteArray) (q r : Nat) (h : t.size ≤ 8 * q + r) : ∀ d, pk t q (r + d) = pk t q r := by
  intro d
  induction d with
  | zero => rfl
  | succ d ih =>
    rw [← Nat.add_assoc]
    simp only [pk]
    rw [one_behind t _ (by omega), ih]
    omega
theorem pkK_all (t : ByteArray) (q : Nat) : pkK t t.size q = pk t q 8 := by
  unfold pkK
  by_cases e : 8 ≤ t.size - 8 * q
  · rw [Nat.min_eq_left e]
  · have e2 : min 8 (t.size - 8 * q) = t.size - 8 * q := Nat.min_eq_right (by omega)
    rw [e2]
    have := pk_behind t q (t.size - 8 * q) (by omega) (8 - (t.size - 8 * q))
    rw [show t.size - 8 * q + (8 - (t.size - 8 * q)) = 8 by omega] at this
    exact this.symm
theorem pack_all (t : ByteArray) : strF ((t.size + 7) / 8) (fun q => pkK t t.size q) = packV t := strF_congr _ _ _ fun q _ => pkK_all t q
theorem pk_or (t : ByteArray) (q r : Nat) (h : r < 8) : bits BinOp.or IntKind.u8 ((pk t q r : Nat) : Int) ((2 ^ (7 - r) : Nat) : Int) = ((pk t q r + 2 ^ (7 - r) : Nat) : Int) := by
  obtain ⟨n, h1, h2⟩ := pk_mul t q r (by omega)
  have h3 := pk_lt t q r (by omega)
  have h4 : 2 ^ (7 - r) < 256 := by
    have := Nat.pow_le_pow_right (n := 2) (by decide) (show 7 - r ≤ 7 by omega)
    omega
  rw [u8_or_nat _ _ h3 h4]
  rw [nat_join (8 - r) (pk t q r) (2 ^ (7 - r)) (by rw [h1]; exact Nat.mul_mod_left _ _) (by
    have e : 8 - r = 7 - r + 1 := by omega
    rw [e, Nat.pow_succ]
    have := Nat.pow_pos (n := 7 - r) (a := 2) (by decide)
    omega)]
def hd (t : ByteArray) (q : Nat) : Nat → Nat
  | 0 => 0
  | r + 1 => 2 * hd t q r + one t (8 * q + r)
theorem hd_pk (t : ByteArray) (q : Nat) : ∀ r, r ≤ 8 → pk t q r = hd t q r * 2 ^ (8 - r) := by
  intro r
  induction r with
  | zero => intro _; simp [pk, hd]
  | succ r ih =>
    intro hr
    simp only [pk, hd]
    rw [ih (by omega), show 8 - r = 7 - r + 1 by omega, Nat.pow_succ, show 8 - (r + 1) = 7 - r by omega, Nat.add_mul, Nat.mul_comm (2 ^ (7 - r)) 2, ← Nat.mul_assoc, Nat.mul_comm (hd t q r) 2]
theorem hd_all (t : ByteArray) (q : Nat) : hd t q 8 = pk t q 8 := by
  have := hd_pk t q 8 (Nat.le_refl _)
  simpa using this.symm
theorem hd_lt (t : ByteArray) (q : Nat) : ∀ r, hd t q r < 2 ^ r := by
  intro r
  induction r with
  | zero => exact Nat.lt_succ_self 0
  | succ r ih =>
    have := one_le t (8 * q + r)
    simp only [hd]
    rw [Nat.pow_succ]
    omega
theorem hd_le (t : ByteArray) (q r : Nat) (h : r ≤ 8) : hd t q r < 256 := by
  have h1 := hd_lt t q r
  have h2 := Nat.pow_le_pow_right (n := 2) (by decide) h
  omega
def openV (t : ByteArray) (m : Nat) : ByteArray := strF m (fun i => bitB (bt t (i / 8)) (7 - i % 8))
def openR (t : ByteArray) (m : Int) : ByteArray := if 8000 < t.size ∨ m < 0 ∨ 8 * (t.size : Int) < m then ⟨#[]⟩ else openV t m.toNat
def opK (t : ByteArray) (k i : Nat) : Nat := if i < k then bitB (bt t (i / 8)) (7 - i % 8) else 0
end Go.Proofs.YtjdlgpnhkfdehaaGreatDoor.Bi

