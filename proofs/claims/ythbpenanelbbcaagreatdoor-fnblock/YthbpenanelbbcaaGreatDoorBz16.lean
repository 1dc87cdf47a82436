/- Texts put together: WholePlain, ZeroPlain, IntArg. -/
import Derived.Test.YthbpenanelbbcaaGreatDoorBz15
import Derived.Test.YthbpenanelbbcaaGreatDoorBz6
/- Plain mathematics of lengths of codes: which are right, what they take together, which are whole. -/
namespace Go.Proofs.YthbpenanelbbcaaGreatDoor.Bi
open Go.RowKit
def okL (m x : Int) : Prop := 0 ≤ x ∧ x ≤ m
def within (l : List Int) (m : Int) : Bool := decide (l.length ≤ 257 ∧ ∀ x ∈ l, 0 ≤ x ∧ x ≤ m)
theorem within_yes {l : List Int} {m : Int} (h : within l m = true) : l.length ≤ 257 ∧ ∀ x ∈ l, 0 ≤ x ∧ x ≤ m := of_decide_eq_true h
theorem within_of {l : List Int} {m : Int} (h1 : l.length ≤ 257) (h2 : ∀ x ∈ l, 0 ≤ x ∧ x ≤ m) : within l m = true := decide_eq_true ⟨h1, h2⟩
theorem within_long {l : List Int} {m : Int} (h : 257 < l.length) : within l m = false := decide_eq_false fun x => by have := x.1; omega
theorem within_bad {l : List Int} {m : Int} {j : Nat} (hj : j < l.length) (h : l[j] < 0 ∨ m < l[j]) : within l m = false := decide_eq_false fun x => by
 have := x.2 _ (List.getElem_mem hj)
 omega
def part (x : Int) : Nat := if 0 < x then 2 ^ (12 - x.toNat) else 0
def csum (l : List Int) : Nat := (l.map part).sum
def above (l : List Int) : Nat := l.countP fun x => decide (0 < x)
theorem take_more {l : List Int} {k : Nat} (h : k < l.length) : l.take (k + 1) = l.take k ++ [l[k]] := List.take_succ_eq_append_getElem h
theorem csum_snoc (l : List Int) (x : Int) : csum (l ++ [x]) = csum l + part x := by simp [csum]
theorem above_snoc (l : List Int) (x : Int) : above (l ++ [x]) = above l + if 0 < x then 1 else 0 := by simp [above, List.countP_append, List.countP_cons]
theorem csum_more {l : List Int} {k : Nat} (h : k < l.length) : csum (l.take (k + 1)) = csum (l.take k) + part l[k] := by
 rw [take_more h, csum_snoc]
theorem above_more {l : List Int} {k : Nat} (h : k < l.length) : above (l.take (k + 1)) = above (l.take k) + if 0 < l[k] then 1 else 0 := by
 rw [take_more h, above_snoc]
theorem part_le (x : Int) : part x ≤ 4096 := by
 unfold part
 split
 ·have := Nat.pow_le_pow_right (n := 2) (by decide) (show 12 - x.toNat ≤ 12 by omega)
  omega
 ·omega
theorem above_le (l : List Int) : above l ≤ l.length := List.countP_le_length
theorem above_zero : ∀ l : List Int, above l = 0 → csum l = 0 ∧ ∀ x ∈ l, ¬ 0 < x := by
 intro l
 induction l with
 | nil => intro _; exact ⟨rfl, fun x hx => by cases hx⟩
 | cons x l ih =>
  intro h
  simp only [above, List.countP_cons] at h
  have hx : ¬ 0 < x := by
   intro hx
   simp [hx] at h
  obtain ⟨h1, h2⟩ := ih (by simp only [above]; omega)
  refine ⟨?_, fun y hy => ?_⟩
  ·simp only [csum, List.map_cons, List.sum_cons]
   simp only [csum] at h1
   rw [h1, part, if_neg hx]
  ·rcases List.mem_cons.1 hy with e | hy
   ·rw [e]; exact hx
   ·exact h2 y hy
theorem above_one : ∀ l : List Int, above l = 1 → ∃ x, x ∈ l ∧ 0 < x ∧ csum l = 2 ^ (12 - x.toNat) ∧ ∀ y ∈ l, 0 < y → y = x := by
 intro l
 induction l with
 | nil => intro h; simp [above] at h
 | cons x l ih =>
  intro h
  simp only [above, List.countP_cons] at h
  by_cases hx : 0 < x
  ·simp [hx] at h
   have h0 : above l = 0 := by
    simp only [above, List.countP_eq_zero]
    intro y hy
    have := h y hy
    simpa using this
   obtain ⟨h1, h2⟩ := above_zero l h0
   refine ⟨x, List.mem_cons_self, hx, ?_, fun y hy hp => ?_⟩
   ·simp only [csum, List.map_cons, List.sum_cons]
    simp only [csum] at h1
    rw [h1, part, if_pos hx]
    rfl
   ·rcases List.mem_cons.1 hy with e | hy
    ·exact e
    ·exact absurd hp (h2 y hy)
  ·simp [hx] at h
   obtain ⟨z, hz, hz0, hs, ha⟩ := ih h
   refine ⟨z, List.mem_cons_of_mem _ hz, hz0, ?_, fun y hy hp => ?_⟩
   ·simp only [csum, List.map_cons, List.sum_cons]
    simp only [csum] at hs
    rw [hs, part, if_neg hx, Nat.zero_add]
   ·rcases List.mem_cons.1 hy with e | hy
    ·rw [e] at hp; exact absurd hp hx
    ·exact ha y hy hp
theorem pow11 (n : Nat) (h1 : 1 ≤ n) (h : 2 ^ (12 - n) = 2048) : n = 1 := by
 rcases Nat.lt_or_ge n 13 with h13 | h13
 ·have : n = 1 ∨ n = 2 ∨ n = 3 ∨ n = 4 ∨ n = 5 ∨ n = 6 ∨ n = 7 ∨ n = 8 ∨ n = 9 ∨ n = 10 ∨ n = 11 ∨ n = 12 := by omega
  rcases this with rfl | rfl | rfl | rfl | rfl | rfl | rfl | rfl | rfl | rfl | rfl | rfl <;> first | rfl | (simp at h)
 ·rw [show 12 - n = 0 by omega] at h
  simp at h
theorem alone (l : List Int) (h : above l = 1) : l.contains 1 = decide (csum l = 2048) := by
 obtain ⟨x, hx, hx0, hs, ha⟩ := above_one l h
 by_cases e : x = 1
 ·subst e
  rw [List.contains_iff_mem.2 hx, hs]
  rfl
 ·have h1 : ¬ (1 : Int) ∈ l := fun hm => e (ha 1 hm (by decide)).symm
  have h2 : ¬ csum l = 2048 := by
   rw [hs]
   intro h3
   have := pow11 x.toNat (by omega) h3
   omega
  rw [decide_eq_false h2]
  cases hc : l.contains 1 with
  | false => rfl
  | true => exact absurd (List.contains_iff_mem.1 hc) h1
def right (l : List Int) : Bool := within l 12 && decide (csum l ≤ 4096)
def whole (l : List Int) : Bool := right l && (decide (csum l = 4096) || decide (above l = 1) && decide (csum l = 2048))
theorem right_yes {l : List Int} (h : right l = true) : within l 12 = true ∧ csum l ≤ 4096 := by
 unfold right at h
 rw [Bool.and_eq_true] at h
 exact ⟨h.1, of_decide_eq_true h.2⟩
theorem right_of {l : List Int} (h1 : within l 12 = true) (h2 : csum l ≤ 4096) : right l = true := by
 unfold right
 rw [h1, decide_eq_true h2]
 rfl
theorem right_no {l : List Int} (h : within l 12 = false ∨ ¬ csum l ≤ 4096) : right l = false := by
 unfold right
 rcases h with h | h
 ·rw [h]; rfl
 ·rw [decide_eq_false h, Bool.and_false]
theorem whole_no {l : List Int} (h : right l = false) : whole l = false := by unfold whole; rw [h]; rfl
theorem shr_part (n : Nat) (h1 : 1 ≤ n) (h2 : n ≤ 12) : (4096 : Int) / 2 ^ n = ((2 ^ (12 - n) : Nat) : Int) := by
 have : n = 1 ∨ n = 2 ∨ n = 3 ∨ n = 4 ∨ n = 5 ∨ n = 6 ∨ n = 7 ∨ n = 8 ∨ n = 9 ∨ n = 10 ∨ n = 11 ∨ n = 12 := by omega
 rcases this with rfl | rfl | rfl | rfl | rfl | rfl | rfl | rfl | rfl | rfl | rfl | rfl <;> rfl
end Go.Proofs.YthbpenanelbbcaaGreatDoor.Bi


/- Plain mathematics of zeros side by side: what they are told as, and back. -/
namespace Go.Proofs.YthbpenanelbbcaaGreatDoor.Ze
open Go.RowKit
theorem hideZ {p : Prop} (h : p) : Hid p := h
def zrun (r : Nat) : List Int :=
 if r = 0 then [] else if r % 2 = 1 then 0 :: zrun ((r - 1) / 2) else 1 :: zrun ((r - 2) / 2)
termination_by r
decreasing_by all_goals omega
theorem zrun_zero : zrun 0 = [] := by rw [zrun]; rfl
theorem zrun_odd {r : Nat} (h : r % 2 = 1) : zrun r = 0 :: zrun ((r - 1) / 2) := by
 rw [zrun, if_neg (by omega), if_pos h]
theorem zrun_even {r : Nat} (h0 : 0 < r) (h : ¬ r % 2 = 1) : zrun r = 1 :: zrun ((r - 2) / 2) := by
 rw [zrun, if_neg (by omega), if_neg h]
theorem zrun_len (r : Nat) : (zrun r).length ≤ r := by
 induction r using Nat.strongRecOn with
 | ind r ih =>
  by_cases h0 : r = 0
  ·subst h0; rw [zrun_zero]; exact Nat.le_refl _
  ·by_cases h1 : r % 2 = 1
   ·rw [zrun_odd h1, List.length_cons]
    have := ih ((r - 1) / 2) (by omega)
    omega
   ·rw [zrun_even (by omega) h1, List.length_cons]
    have := ih ((r - 2) / 2) (by omega)
    omega
theorem zrun_mem (r : Nat) : ∀ x ∈ zrun r, x = 0 ∨ x = 1 := by
 induction r using Nat.strongRecOn with
 | ind r ih =>
  intro x hx
  by_cases h0 : r = 0
  ·subst h0; rw [zrun_zero] at hx; cases hx
  ·by_cases h1 : r % 2 = 1
   ·rw [zrun_odd h1] at hx
    rcases List.mem_cons.1 hx with e | hx
    ·exact .inl e
    ·exact ih ((r - 1) / 2) (by omega) x hx
   ·rw [zrun_even (by omega) h1] at hx
    rcases List.mem_cons.1 hx with e | hx
    ·exact .inr e
    ·exact ih ((r - 2) / 2) (by omega) x hx
def upTo (l : List Int) (m : Int) : Bool := decide (∀ x ∈ l, 0 ≤ x ∧ x ≤ m)
theorem upTo_yes {l : List Int} {m : Int} (h : upTo l m = true) : ∀ x ∈ l, 0 ≤ x ∧ x ≤ m := of_decide_eq_true h
theorem upTo_of {l : List Int} {m : Int} (h : ∀ x ∈ l, 0 ≤ x ∧ x ≤ m) : upTo l m = true := decide_eq_true h
theorem upTo_bad {l : List Int} {m : Int} {j : Nat} (hj : j < l.length) (h : l[j] < 0 ∨ m < l[j]) : upTo l m = false := decide_eq_false fun x => by
 have := x _ (List.getElem_mem hj)
 omega
def numsR (l : List Int) (m : Int) : Bool := decide (l.length ≤ 400) && upTo l m
theorem numsR_yes {l : List Int} {m : Int} (h : numsR l m = true) : l.length ≤ 400 ∧ upTo l m = true := by
 unfold numsR at h
 rw [Bool.and_eq_true] at h
 exact ⟨of_decide_eq_true h.1, h.2⟩
theorem numsR_long {l : List Int} {m : Int} (h : 400 < l.length) : numsR l m = false := by
 unfold numsR
 rw [decide_eq_false (by omega)]
 rfl
theorem numsR_of {l : List Int} {m : Int} (h : l.length ≤ 400) : numsR l m = upTo l m := by
 unfold numsR
 rw [decide_eq_true h]
 rfl
def zstep (s : List Int × Nat) (n : Int) : List Int × Nat := if n = 0 then (s.1, s.2 + 1) else (s.1 ++ zrun s.2 ++ [n + 1], 0)
def zst (l : List Int) : List Int × Nat := l.foldl zstep ([], 0)
theorem zst_more {l : List Int} {k : Nat} (h : k < l.length) : zst (l.take (k + 1)) = zstep (zst (l.take k)) l[k] := by
 unfold zst
 rw [Bi.take_more h, List.foldl_append]
 rfl
theorem zst_zero {l : List Int} {k : Nat} (h : k < l.length) (h0 : l[k] = 0) : zst (l.take (k + 1)) = ((zst (l.take k)).1, (zst (l.take k)).2 + 1) := by
 rw [zst_more h, zstep, if_pos h0]
theorem zst_other {l : List Int} {k : Nat} (h : k < l.length) (h0 : ¬ l[k] = 0) : zst (l.take (k + 1)) = ((zst (l.take k)).1 ++ zrun (zst (l.take k)).2 ++ [l[k] + 1], 0) := by
 rw [zst_more h, zstep, if_neg h0]
theorem zst_len (l : List Int) : (zst l).1.length + (zst l).2 ≤ l.length := by
 suffices h : ∀ k, k ≤ l.length → (zst (l.take k)).1.length + (zst (l.take k)).2 ≤ k by
  have := h l.length (Nat.le_refl _)
  rwa [List.take_length] at this
 intro k
 induction k with
 | zero => intro _; simp [zst]
 | succ k ih =>
  intro hk
  have := ih (by omega)
  by_cases h0 : l[k] = 0
  ·rw [zst_zero hk h0]
   simp only
   omega
  ·rw [zst_other hk h0]
   have hz := zrun_len (zst (l.take k)).2
   simp only [List.length_append, List.length_cons, List.length_nil]
   omega
def zerosR (l : List Int) : List Int := if numsR l 255 = true then (zst l).1 ++ zrun (zst l).2 else []
theorem zerosR_yes {l : List Int} (h : numsR l 255 = true) : zerosR l = (zst l).1 ++ zrun (zst l).2 := if_pos h
theorem zerosR_no {l : List Int} (h : numsR l 255 = false) : zerosR l = [] := if_neg (by rw [h]; decide)
theorem zerosR_len (l : List Int) : (zerosR l).length ≤ l.length := by
 unfold zerosR
 split
 ·rw [List.length_append]
  have := zst_len l
  have := zrun_len (zst l).2
  omega
 ·exact Nat.zero_le _
def bstep (s : List Int × Nat) (n : Int) : List Int × Nat := if 1 < n then (s.1 ++ [n - 1], 1) else (s.1 ++ List.replicate ((n.toNat + 1) * s.2) 0, s.2 * 2)
def bst (l : List Int) : List Int × Nat := l.foldl bstep ([], 1)
theorem bst_more {l : List Int} {k : Nat} (h : k < l.length) : bst (l.take (k + 1)) = bstep (bst (l.take k)) l[k] := by
 unfold bst
 rw [Bi.take_more h, List.foldl_append]
 rfl
theorem bst_one {l : List Int} {k : Nat} (h : k < l.length) (h0 : 1 < l[k]) : bst (l.take (k + 1)) = ((bst (l.take k)).1 ++ [l[k] - 1], 1) := by
 rw [bst_more h, bstep, if_pos h0]
theorem bst_zeros {l : List Int} {k : Nat} (h : k < l.length) (h0 : ¬ 1 < l[k]) : bst (l.take (k + 1)) = ((bst (l.take k)).1 ++ List.replicate ((l[k].toNat + 1) * (bst (l.take k)).2) 0, (bst (l.take k)).2 * 2) := by
 rw [bst_more h, bstep, if_neg h0]
theorem bst_worth (l : List Int) : ∀ k, k ≤ l.length → 1 ≤ (bst (l.take k)).2 ∧ (bst (l.take k)).2 ≤ (bst (l.take k)).1.length + 1 := by
 intro k
 induction k with
 | zero => intro _; simp [bst]
 | succ k ih =>
  intro hk
  obtain ⟨h1, h2⟩ := ih (by omega)
  by_cases h0 : 1 < l[k]
  ·rw [bst_one hk h0]
   simp only [List.length_append, List.length_cons, List.length_nil]
   omega
  ·rw [bst_zeros hk h0]
   simp only [List.length_append, List.length_replicate]
   generalize (bst (l.take k)).2 = wo at h1 h2 ⊢
   have : wo ≤ (l[k].toNat + 1) * wo := Nat.le_mul_of_pos_left _ (by omega)
   omega
theorem bst_grow {l : List Int} {k : Nat} (h : k < l.length) : (bst (l.take k)).1.length ≤ (bst (l.take (k + 1))).1.length := by
 by_cases h0 : 1 < l[k]
 ·rw [bst_one h h0]
  simp only [List.length_append]
  omega
 ·rw [bst_zeros h h0]
  simp only [List.length_append]
  omega
theorem bst_mono (l : List Int) (j : Nat) : ∀ k, j ≤ k → k ≤ l.length → (bst (l.take j)).1.length ≤ (bst (l.take k)).1.length := by
 intro k
 induction k with
 | zero => intro h _; rw [show j = 0 by omega]; exact Nat.le_refl _
 | succ k ih =>
  intro h hk
  rcases Nat.lt_or_ge k j with hj | hj
  ·rw [show j = k + 1 by omega]; exact Nat.le_refl _
  ·exact Nat.le_trans (ih hj (by omega)) (bst_grow hk)
def backR (l : List Int) : List Int := if numsR l 256 = true ∧ (bst l).1.length ≤ 400 then (bst l).1 else []
theorem backR_yes {l : List Int} (h : numsR l 256 = true) (h2 : (bst l).1.length ≤ 400) : backR l = (bst l).1 := if_pos ⟨h, h2⟩
theorem backR_no {l : List Int} (h : numsR l 256 = false) : backR l = [] := if_neg fun x => by rw [h] at x; exact absurd x.1 (by decide)
theorem backR_long {l : List Int} {k : Nat} (hk : k ≤ l.length) (h2 : 400 < (bst (l.take k)).1.length) : backR l = [] := if_neg fun x => by
 have := bst_mono l k l.length hk (Nat.le_refl _)
 rw [List.take_length] at this
 have := x.2
 omega
theorem backR_len (l : List Int) : (backR l).length ≤ 400 := by
 unfold backR
 split
 ·rename_i h; exact h.2
 ·simp
end Go.Proofs.YthbpenanelbbcaaGreatDoor.Ze


/- A slice of numbers that came in. -/
namespace Go.Proofs.YthbpenanelbbcaaGreatDoor.In
open Go.RowKit
def IsNums (w : World) (a : Option Addr) (len cap : Nat) (zs : List Int) : Prop :=
 (a = none ∧ len = 0 ∧ cap = 0 ∧ zs = []) ∨
 ∃ x, a = some x ∧ len ≤ cap ∧ cap ≤ maxLen ∧ zs.length = cap ∧ (∀ i, i < zs.length → w.cell? (x.add i) = some (.int .i64 (zs.getD i 0))) ∧ ∀ n ∈ zs, (Lit.int .i64 n).wf = true
def Wf (l : List Int) : Prop := ∀ n ∈ l, -9223372036854775808 ≤ n ∧ n ≤ 9223372036854775807
end Go.Proofs.YthbpenanelbbcaaGreatDoor.In

