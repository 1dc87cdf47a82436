/- Plain mathematics of codes: the codes of lengths, one width behind the other, and that each fits its width. -/
import Derived.Test.YtdnmbagdegbnfaaWholePlain
namespace Go.Proofs.Ytdnmbagdegbnfaa.Bi
open Go.RowKit

def cnt (l : List Int) (v : Int) : Nat := l.countP fun x => decide (x = v)
theorem cnt_snoc (l : List Int) (v x : Int) : cnt (l ++ [x]) v = cnt l v + if x = v then 1 else 0 := by simp [cnt, List.countP_append, List.countP_cons]
theorem cnt_more {l : List Int} {k : Nat} (h : k < l.length) (v : Int) : cnt (l.take (k + 1)) v = cnt (l.take k) v + if l[k] = v then 1 else 0 := by
  rw [take_more h, cnt_snoc]
theorem cnt_take (l : List Int) (v : Int) (k : Nat) : cnt (l.take k) v ≤ cnt l v := by
  unfold cnt
  exact List.Sublist.countP_le (List.take_sublist k l)
theorem cnt_here {l : List Int} {k : Nat} {v : Int} (h : k < l.length) (e : l[k] = v) : cnt (l.take k) v + 1 ≤ cnt l v := by
  have h1 := cnt_more h v
  rw [if_pos e] at h1
  have h2 := cnt_take l v (k + 1)
  omega

/-- what codes of at most a width take -/
def lowP (v : Nat) (x : Int) : Nat := if 0 < x ∧ x ≤ v then 2 ^ (12 - x.toNat) else 0
def low (l : List Int) (v : Nat) : Nat := (l.map (lowP v)).sum
theorem lowP_succ (v : Nat) (x : Int) : lowP (v + 1) x = lowP v x + (if x = ((v + 1 : Nat) : Int) then 1 else 0) * 2 ^ (12 - (v + 1)) := by
  unfold lowP
  by_cases h : x = ((v + 1 : Nat) : Int)
  · rw [if_pos h, if_pos (by omega), if_neg (by omega)]
    subst h
    simp
  · rw [if_neg h]
    by_cases h2 : 0 < x ∧ x ≤ v
    · rw [if_pos h2, if_pos (by omega)]
      omega
    · rw [if_neg h2, if_neg (by omega)]
      omega
theorem low_succ (l : List Int) (v : Nat) : low l (v + 1) = low l v + cnt l ((v + 1 : Nat) : Int) * 2 ^ (12 - (v + 1)) := by
  induction l with
  | nil => simp [low, cnt]
  | cons x l ih =>
    simp only [low, List.map_cons, List.sum_cons, cnt, List.countP_cons] at ih ⊢
    rw [ih, lowP_succ, Nat.add_mul]
    by_cases h : x = ((v + 1 : Nat) : Int)
    · simp only [h, if_true, decide_true]
      omega
    · simp only [h, if_false, decide_false, Bool.false_eq_true]
      omega
theorem low_zero (l : List Int) : low l 0 = 0 := by
  induction l with
  | nil => rfl
  | cons x l ih =>
    simp only [low, List.map_cons, List.sum_cons] at ih ⊢
    rw [ih, lowP, if_neg (by omega)]
theorem low_le (l : List Int) (v : Nat) : low l v ≤ csum l := by
  induction l with
  | nil => simp [low]
  | cons x l ih =>
    simp only [low, csum, List.map_cons, List.sum_cons] at ih ⊢
    have : lowP v x ≤ part x := by
      unfold lowP part
      generalize 2 ^ (12 - x.toNat) = p
      split <;> split <;> omega
    omega

/-- the number behind k places at a width -/
def innN (l : List Int) (v n0 k : Nat) : Nat := n0 + cnt (l.take k) v
/-- the next number behind a width -/
def outN (l : List Int) : Nat → Nat
  | 0 => 0
  | v + 1 => 2 * outN l v + cnt l ((v + 1 : Nat) : Int)
theorem outN_low (l : List Int) : ∀ v, v ≤ 12 → outN l v * 2 ^ (12 - v) = low l v := by
  intro v
  induction v with
  | zero => intro _; simp [outN, low_zero]
  | succ v ih =>
    intro hv
    rw [low_succ, ← ih (by omega)]
    simp only [outN]
    rw [Nat.add_mul, show 12 - v = 12 - (v + 1) + 1 by omega, Nat.pow_succ, Nat.mul_comm 2 (outN l v), Nat.mul_assoc, Nat.mul_comm 2]
theorem inn_fits {l : List Int} (hr : csum l ≤ 4096) {v k : Nat} (hv : v < 12) (hk : k < l.length) (e : l[k] = ((v + 1 : Nat) : Int)) : innN l (v + 1) (2 * outN l v) k < 2 ^ (v + 1) := by
  have h1 := cnt_here hk e
  have h2 := outN_low l (v + 1) (by omega)
  have h3 := low_le l (v + 1)
  have h4 : (2 : Nat) ^ (v + 1) * 2 ^ (12 - (v + 1)) = 4096 := by
    rw [← Nat.pow_add, show v + 1 + (12 - (v + 1)) = 12 by omega]
  have h5 : outN l (v + 1) * 2 ^ (12 - (v + 1)) ≤ 2 ^ (v + 1) * 2 ^ (12 - (v + 1)) := by rw [h2, h4]; omega
  have h6 : outN l (v + 1) ≤ 2 ^ (v + 1) := Nat.le_of_mul_le_mul_right h5 (Nat.pow_pos (by decide))
  simp only [outN] at h6
  unfold innN
  omega
theorem out_fits {l : List Int} (hr : csum l ≤ 4096) {v : Nat} (hv : v ≤ 12) : outN l v ≤ 2 ^ v := by
  have h2 := outN_low l v hv
  have h3 := low_le l v
  have h4 : (2 : Nat) ^ v * 2 ^ (12 - v) = 4096 := by
    rw [← Nat.pow_add, show v + (12 - v) = 12 by omega]
  have h5 : outN l v * 2 ^ (12 - v) ≤ 2 ^ v * 2 ^ (12 - v) := by rw [h2, h4]; omega
  exact Nat.le_of_mul_le_mul_right h5 (Nat.pow_pos (by decide))
theorem out_small {l : List Int} (hr : csum l ≤ 4096) {v : Nat} (hv : v ≤ 12) : outN l v ≤ 4096 := by
  have h1 := out_fits hr hv
  have h2 := Nat.pow_le_pow_right (n := 2) (by decide) hv
  omega
theorem innN_zero (l : List Int) (v n0 : Nat) : innN l v n0 0 = n0 := by simp [innN, cnt]
theorem innN_yes {l : List Int} {v n0 k : Nat} (h : k < l.length) (e : l[k] = (v : Int)) : innN l v n0 (k + 1) = innN l v n0 k + 1 := by
  unfold innN
  rw [cnt_more h, if_pos e]
  omega
theorem innN_no {l : List Int} {v n0 k : Nat} (h : k < l.length) (e : ¬ l[k] = (v : Int)) : innN l v n0 (k + 1) = innN l v n0 k := by
  unfold innN
  rw [cnt_more h, if_neg e]
  omega
theorem innN_all (l : List Int) (v : Nat) : innN l (v + 1) (2 * outN l v) l.length = outN l (v + 1) := by
  unfold innN
  rw [List.take_length]
  rfl
theorem innN_le (l : List Int) (v n0 k : Nat) : innN l v n0 k ≤ n0 + l.length := by
  unfold innN cnt
  have := List.countP_le_length (p := fun x => decide (x = (v : Int))) (l := l.take k)
  rw [List.length_take] at this
  omega

/-- the codes behind k places at a width -/
def innO (l : List Int) (v n0 : Nat) (o : List ByteArray) : Nat → List ByteArray
  | 0 => o
  | k + 1 => if l[k]? = some (v : Int) then (innO l v n0 o k).set k (bitsV (innN l v n0 k) v) else innO l v n0 o k
def outO (l : List Int) : Nat → List ByteArray
  | 0 => List.replicate l.length ⟨#[]⟩
  | v + 1 => innO l (v + 1) (2 * outN l v) (outO l v) l.length
def codesV (l : List Int) : List ByteArray := outO l 12
def codesR (l : List Int) : List ByteArray := if right l = true then codesV l else []
theorem innO_length (l : List Int) (v n0 : Nat) (o : List ByteArray) : ∀ k, (innO l v n0 o k).length = o.length := by
  intro k
  induction k with
  | zero => rfl
  | succ k ih =>
    simp only [innO]
    split
    · rw [List.length_set, ih]
    · exact ih
theorem outO_length (l : List Int) : ∀ v, (outO l v).length = l.length := by
  intro v
  induction v with
  | zero => simp [outO]
  | succ v ih => simp only [outO]; rw [innO_length, ih]
theorem codesV_length (l : List Int) : (codesV l).length = l.length := outO_length l 12
theorem innO_yes {l : List Int} {v n0 k : Nat} {o : List ByteArray} (h : k < l.length) (e : l[k] = (v : Int)) : innO l v n0 o (k + 1) = (innO l v n0 o k).set k (bitsV (innN l v n0 k) v) := by
  simp only [innO]
  rw [if_pos (by rw [List.getElem?_eq_getElem h, e])]
theorem innO_no {l : List Int} {v n0 k : Nat} {o : List ByteArray} (h : k < l.length) (e : ¬ l[k] = (v : Int)) : innO l v n0 o (k + 1) = innO l v n0 o k := by
  simp only [innO]
  rw [if_neg (by rw [List.getElem?_eq_getElem h]; simp; exact e)]
theorem codesR_yes {l : List Int} (h : right l = true) : codesR l = codesV l := if_pos h
theorem codesR_no {l : List Int} (h : right l = false) : codesR l = [] := if_neg (by rw [h]; decide)
end Go.Proofs.Ytdnmbagdegbnfaa.Bi
