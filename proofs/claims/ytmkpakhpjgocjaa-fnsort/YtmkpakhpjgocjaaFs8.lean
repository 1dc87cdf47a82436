/- Texts put together: BitPlain, WholePlain. -/
import Derived.Test.YtmkpakhpjgocjaaFs5
/- Plain mathematics of bits: a number in bits. -/
namespace Go.Proofs.Ytmkpakhpjgocjaa.Bi
open Go.RowKit
open Go.Proofs.Ytmkpakhpjgocjaa.Sh

theorem hideB {p : Prop} (h : p) : Hid p := h
/-- the bit of a number at a place, as a byte of a text -/
def bitB (n p : Nat) : Nat := 48 + n / 2 ^ p % 2
theorem bitB_lt (n p : Nat) : bitB n p < 256 := by unfold bitB; omega
theorem bitB_01 (n p : Nat) : bitB n p = 48 ∨ bitB n p = 49 := by unfold bitB; omega
/-- a number in so many bits -/
def bitsV (n w : Nat) : ByteArray := strF w (fun j => bitB n (w - 1 - j))
theorem bitsV_size (n w : Nat) : (bitsV n w).size = w := strF_size _ _
/-- what BitsOf answers -/
def bitsR (n w : Int) : ByteArray := if w < 1 ∨ 20 < w ∨ n < 0 ∨ 2 ^ w.toNat ≤ n then ⟨#[]⟩ else bitsV n.toNat w.toNat
theorem bitsR_no (n w : Int) (h : w < 1 ∨ 20 < w ∨ n < 0 ∨ 2 ^ w.toNat ≤ n) : bitsR n w = ⟨#[]⟩ := if_pos h
theorem bitsR_yes (n w : Nat) (h1 : 1 ≤ w) (h2 : w ≤ 20) (h3 : n < 2 ^ w) : bitsR n w = bitsV n w := by
  unfold bitsR
  have h4 : ¬ ((2 : Int) ^ w ≤ n) := by
    have : ((2 ^ w : Nat) : Int) = (2 : Int) ^ w := by simp
    omega
  rw [if_neg (by simp only [Int.toNat_natCast]; omega)]
  rfl

/-- the first k written -/
def upK (n w k j : Nat) : Nat := if j < k then bitB n (w - 1 - j) else 0
theorem upK_zero (n w j : Nat) : upK n w 0 j = 0 := by simp [upK]
theorem upK_next (n w k j : Nat) (v : Int) (hv : v = (bitB n (w - 1 - k) : Nat)) : upd (fun j => ((upK n w k j : Nat) : Int)) k v j = (upK n w (k + 1) j : Nat) := by
  subst hv
  unfold upd upK
  by_cases e : j = k
  · subst e; simp
  · have : (j < k + 1) = (j < k) := propext ⟨fun h => by omega, fun h => by omega⟩
    simp only [e, this, if_false]
theorem upK_all (n w : Nat) : strF w (fun j => upK n w w j) = bitsV n w := strF_congr _ _ _ fun j hj => by simp [upK, hj]
theorem upK_lt (n w k j : Nat) : upK n w k j < 256 := by
  unfold upK
  have := bitB_lt n (w - 1 - j)
  split <;> omega
/-- the last k written -/
def dnK (n w k j : Nat) : Nat := if w ≤ j + k then bitB n (w - 1 - j) else 0
theorem dnK_zero (n w j : Nat) (h : j < w) : dnK n w 0 j = 0 := by unfold dnK; rw [if_neg (by omega)]
theorem dnK_next (n w k j : Nat) (v : Int) (hk : k < w) (hj : j < w) (hv : v = (bitB n k : Nat)) : upd (fun j => ((dnK n w k j : Nat) : Int)) (w - 1 - k) v j = (dnK n w (k + 1) j : Nat) := by
  subst hv
  unfold upd dnK
  by_cases e : j = w - 1 - k
  · subst e
    rw [if_pos rfl, if_pos (by omega), show w - 1 - (w - 1 - k) = k by omega]
  · have : (w ≤ j + (k + 1)) = (w ≤ j + k) := propext ⟨fun h => by omega, fun h => by omega⟩
    simp only [e, this, if_false]
theorem dnK_all (n w : Nat) : strF w (fun j => dnK n w w j) = bitsV n w := strF_congr _ _ _ fun j hj => by unfold dnK; rw [if_pos (by omega)]
theorem dnK_lt (n w k j : Nat) : dnK n w k j < 256 := by
  unfold dnK
  have := bitB_lt n (w - 1 - j)
  split <;> omega
theorem half_pow (n k : Nat) : n / 2 ^ k / 2 = n / 2 ^ (k + 1) := by rw [Nat.pow_succ, Nat.div_div_eq_div_mul]
theorem pow20 (w : Nat) (h : w ≤ 20) : 2 ^ w ≤ 1048576 := by
  have := Nat.pow_le_pow_right (n := 2) (by decide) h
  simpa using this
end Go.Proofs.Ytmkpakhpjgocjaa.Bi

/- Plain mathematics of lengths of codes: which are right, what they take together, which are whole. -/
namespace Go.Proofs.Ytmkpakhpjgocjaa.Bi
open Go.RowKit

def okL (m x : Int) : Prop := 0 ≤ x ∧ x ≤ m
def within (l : List Int) (m : Int) : Bool := decide (l.length ≤ 257 ∧ ∀ x ∈ l, 0 ≤ x ∧ x ≤ m)
theorem within_yes {l : List Int} {m : Int} (h : within l m = true) : l.length ≤ 257 ∧ ∀ x ∈ l, 0 ≤ x ∧ x ≤ m := of_decide_eq_true h
theorem within_of {l : List Int} {m : Int} (h1 : l.length ≤ 257) (h2 : ∀ x ∈ l, 0 ≤ x ∧ x ≤ m) : within l m = true := decide_eq_true ⟨h1, h2⟩
theorem within_long {l : List Int} {m : Int} (h : 257 < l.length) : within l m = false := decide_eq_false fun x => by have := x.1; omega
theorem within_bad {l : List Int} {m : Int} {j : Nat} (hj : j < l.length) (h : l[j] < 0 ∨ m < l[j]) : within l m = false := decide_eq_false fun x => by
  have := x.2 _ (List.getElem_mem hj)
  omega
/-- what a code of a length takes -/
def part (x : Int) : Nat := if 0 < x then 2 ^ (12 - x.toNat) else 0
def csum (l : List Int) : Nat := (l.map part).sum
def above (l : List Int) : Nat := l.countP fun x => decide (0 < x)
theorem take_more {l : List Int} {k : Nat} (h : k < l.length) : l.take (k + 1) = l.take k ++ [l[k]] := List.take_succ_eq_append_getElem h
theorem csum_snoc (l : List Int) (x : Int) : csum (l ++ [x]) = csum l + part x := by simp [csum]
theorem above_snoc (l : List Int) (x : Int) : above (l ++ [x]) = above l + if 0 < x then 1 else 0 := by simp [above, List.countP_append, List.countP_cons]
theorem csum_more {l : List Int} {k : Nat} (h : k < l.length) : csum (l.take (k + 1)) = csum (l.take k) + part l[k] := by
  rw [take_more h, csum_snoc]
theorem above_more {l : List Int} {k : Nat} (h : k < l.length) : above (l.take (k + 1)) = above (l.take k) + if 0 < l[k] then 1 else 0 := by
  rw [take_more h, above_snoc]
theorem part_le (x : Int) : part x ≤ 4096 := by
  unfold part
  split
  · have := Nat.pow_le_pow_right (n := 2) (by decide) (show 12 - x.toNat ≤ 12 by omega)
    omega
  · omega
theorem csum_le (l : List Int) : csum l ≤ 4096 * l.length := by
  induction l with
  | nil => simp [csum]
  | cons x l ih =>
    have := part_le x
    simp only [csum, List.map_cons, List.sum_cons, List.length_cons] at ih ⊢
    omega
theorem above_le (l : List Int) : above l ≤ l.length := List.countP_le_length
theorem above_zero : ∀ l : List Int, above l = 0 → csum l = 0 ∧ ∀ x ∈ l, ¬ 0 < x := by
  intro l
  induction l with
  | nil => intro _; exact ⟨rfl, fun x hx => by cases hx⟩
  | cons x l ih =>
    intro h
    simp only [above, List.countP_cons] at h
    have hx : ¬ 0 < x := by
      intro hx
      simp [hx] at h
    obtain ⟨h1, h2⟩ := ih (by simp only [above]; omega)
    refine ⟨?_, fun y hy => ?_⟩
    · simp only [csum, List.map_cons, List.sum_cons]
      simp only [csum] at h1
      rw [h1, part, if_neg hx]
    · rcases List.mem_cons.1 hy with e | hy
      · rw [e]; exact hx
      · exact h2 y hy
theorem above_one : ∀ l : List Int, above l = 1 → ∃ x, x ∈ l ∧ 0 < x ∧ csum l = 2 ^ (12 - x.toNat) ∧ ∀ y ∈ l, 0 < y → y = x := by
  intro l
  induction l with
  | nil => intro h; simp [above] at h
  | cons x l ih =>
    intro h
    simp only [above, List.countP_cons] at h
    by_cases hx : 0 < x
    · simp [hx] at h
      have h0 : above l = 0 := by
        simp only [above, List.countP_eq_zero]
        intro y hy
        have := h y hy
        simpa using this
      obtain ⟨h1, h2⟩ := above_zero l h0
      refine ⟨x, List.mem_cons_self, hx, ?_, fun y hy hp => ?_⟩
      · simp only [csum, List.map_cons, List.sum_cons]
        simp only [csum] at h1
        rw [h1, part, if_pos hx]
        rfl
      · rcases List.mem_cons.1 hy with e | hy
        · exact e
        · exact absurd hp (h2 y hy)
    · simp [hx] at h
      obtain ⟨z, hz, hz0, hs, ha⟩ := ih h
      refine ⟨z, List.mem_cons_of_mem _ hz, hz0, ?_, fun y hy hp => ?_⟩
      · simp only [csum, List.map_cons, List.sum_cons]
        simp only [csum] at hs
        rw [hs, part, if_neg hx, Nat.zero_add]
      · rcases List.mem_cons.1 hy with e | hy
        · rw [e] at hp; exact absurd hp hx
        · exact ha y hy hp
theorem pow11 (n : Nat) (h1 : 1 ≤ n) (h : 2 ^ (12 - n) = 2048) : n = 1 := by
  rcases Nat.lt_or_ge n 13 with h13 | h13
  · have : n = 1 ∨ n = 2 ∨ n = 3 ∨ n = 4 ∨ n = 5 ∨ n = 6 ∨ n = 7 ∨ n = 8 ∨ n = 9 ∨ n = 10 ∨ n = 11 ∨ n = 12 := by omega
    rcases this with rfl | rfl | rfl | rfl | rfl | rfl | rfl | rfl | rfl | rfl | rfl | rfl <;> first | rfl | (simp at h)
  · rw [show 12 - n = 0 by omega] at h
    simp at h
/-- one alone of length 1 -/
theorem alone (l : List Int) (h : above l = 1) : l.contains 1 = decide (csum l = 2048) := by
  obtain ⟨x, hx, hx0, hs, ha⟩ := above_one l h
  by_cases e : x = 1
  · subst e
    rw [List.contains_iff_mem.2 hx, hs]
    rfl
  · have h1 : ¬ (1 : Int) ∈ l := fun hm => e (ha 1 hm (by decide)).symm
    have h2 : ¬ csum l = 2048 := by
      rw [hs]
      intro h3
      have := pow11 x.toNat (by omega) h3
      omega
    rw [decide_eq_false h2]
    cases hc : l.contains 1 with
    | false => rfl
    | true => exact absurd (List.contains_iff_mem.1 hc) h1
def right (l : List Int) : Bool := within l 12 && decide (csum l ≤ 4096)
def whole (l : List Int) : Bool := right l && (decide (csum l = 4096) || decide (above l = 1) && decide (csum l = 2048))
theorem right_yes {l : List Int} (h : right l = true) : within l 12 = true ∧ csum l ≤ 4096 := by
  unfold right at h
  rw [Bool.and_eq_true] at h
  exact ⟨h.1, of_decide_eq_true h.2⟩
theorem right_of {l : List Int} (h1 : within l 12 = true) (h2 : csum l ≤ 4096) : right l = true := by
  unfold right
  rw [h1, decide_eq_true h2]
  rfl
theorem right_no {l : List Int} (h : within l 12 = false ∨ ¬ csum l ≤ 4096) : right l = false := by
  unfold right
  rcases h with h | h
  · rw [h]; rfl
  · rw [decide_eq_false h, Bool.and_false]
theorem whole_no {l : List Int} (h : right l = false) : whole l = false := by unfold whole; rw [h]; rfl
theorem shr_part (n : Nat) (h1 : 1 ≤ n) (h2 : n ≤ 12) : (4096 : Int) / 2 ^ n = ((2 ^ (12 - n) : Nat) : Int) := by
  have : n = 1 ∨ n = 2 ∨ n = 3 ∨ n = 4 ∨ n = 5 ∨ n = 6 ∨ n = 7 ∨ n = 8 ∨ n = 9 ∨ n = 10 ∨ n = 11 ∨ n = 12 := by omega
  rcases this with rfl | rfl | rfl | rfl | rfl | rfl | rfl | rfl | rfl | rfl | rfl | rfl <;> rfl
end Go.Proofs.Ytmkpakhpjgocjaa.Bi
