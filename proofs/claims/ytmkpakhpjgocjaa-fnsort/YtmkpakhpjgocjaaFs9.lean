/- Texts put together: ZeroPlain, ZeroBack. -/
import Derived.Test.YtmkpakhpjgocjaaFs8
/- Plain mathematics of zeros side by side: what they are told as, and back. -/
namespace Go.Proofs.Ytmkpakhpjgocjaa.Ze
open Go.RowKit

theorem hideZ {p : Prop} (h : p) : Hid p := h
/-- so many zeros side by side -/
def zrun (r : Nat) : List Int :=
  if r = 0 then [] else if r % 2 = 1 then 0 :: zrun ((r - 1) / 2) else 1 :: zrun ((r - 2) / 2)
termination_by r
decreasing_by all_goals omega
theorem zrun_zero : zrun 0 = [] := by rw [zrun]; rfl
theorem zrun_odd {r : Nat} (h : r % 2 = 1) : zrun r = 0 :: zrun ((r - 1) / 2) := by
  rw [zrun, if_neg (by omega), if_pos h]
theorem zrun_even {r : Nat} (h0 : 0 < r) (h : ¬ r % 2 = 1) : zrun r = 1 :: zrun ((r - 2) / 2) := by
  rw [zrun, if_neg (by omega), if_neg h]
theorem zrun_len (r : Nat) : (zrun r).length ≤ r := by
  induction r using Nat.strongRecOn with
  | ind r ih =>
    by_cases h0 : r = 0
    · subst h0; rw [zrun_zero]; exact Nat.le_refl _
    · by_cases h1 : r % 2 = 1
      · rw [zrun_odd h1, List.length_cons]
        have := ih ((r - 1) / 2) (by omega)
        omega
      · rw [zrun_even (by omega) h1, List.length_cons]
        have := ih ((r - 2) / 2) (by omega)
        omega
theorem zrun_mem (r : Nat) : ∀ x ∈ zrun r, x = 0 ∨ x = 1 := by
  induction r using Nat.strongRecOn with
  | ind r ih =>
    intro x hx
    by_cases h0 : r = 0
    · subst h0; rw [zrun_zero] at hx; cases hx
    · by_cases h1 : r % 2 = 1
      · rw [zrun_odd h1] at hx
        rcases List.mem_cons.1 hx with e | hx
        · exact .inl e
        · exact ih ((r - 1) / 2) (by omega) x hx
      · rw [zrun_even (by omega) h1] at hx
        rcases List.mem_cons.1 hx with e | hx
        · exact .inr e
        · exact ih ((r - 2) / 2) (by omega) x hx

/-- numbers of a list, each 0 to a greatest one -/
def upTo (l : List Int) (m : Int) : Bool := decide (∀ x ∈ l, 0 ≤ x ∧ x ≤ m)
theorem upTo_yes {l : List Int} {m : Int} (h : upTo l m = true) : ∀ x ∈ l, 0 ≤ x ∧ x ≤ m := of_decide_eq_true h
theorem upTo_of {l : List Int} {m : Int} (h : ∀ x ∈ l, 0 ≤ x ∧ x ≤ m) : upTo l m = true := decide_eq_true h
theorem upTo_bad {l : List Int} {m : Int} {j : Nat} (hj : j < l.length) (h : l[j] < 0 ∨ m < l[j]) : upTo l m = false := decide_eq_false fun x => by
  have := x _ (List.getElem_mem hj)
  omega

/-- a list of at most 400 numbers, each 0 to a greatest one -/
def numsR (l : List Int) (m : Int) : Bool := decide (l.length ≤ 400) && upTo l m
theorem numsR_yes {l : List Int} {m : Int} (h : numsR l m = true) : l.length ≤ 400 ∧ upTo l m = true := by
  unfold numsR at h
  rw [Bool.and_eq_true] at h
  exact ⟨of_decide_eq_true h.1, h.2⟩
theorem numsR_long {l : List Int} {m : Int} (h : 400 < l.length) : numsR l m = false := by
  unfold numsR
  rw [decide_eq_false (by omega)]
  rfl
theorem numsR_of {l : List Int} {m : Int} (h : l.length ≤ 400) : numsR l m = upTo l m := by
  unfold numsR
  rw [decide_eq_true h]
  rfl

/-- what is told of the first numbers, and how many zeros stand behind it -/
def zstep (s : List Int × Nat) (n : Int) : List Int × Nat := if n = 0 then (s.1, s.2 + 1) else (s.1 ++ zrun s.2 ++ [n + 1], 0)
def zst (l : List Int) : List Int × Nat := l.foldl zstep ([], 0)
theorem zst_more {l : List Int} {k : Nat} (h : k < l.length) : zst (l.take (k + 1)) = zstep (zst (l.take k)) l[k] := by
  unfold zst
  rw [Bi.take_more h, List.foldl_append]
  rfl
theorem zst_zero {l : List Int} {k : Nat} (h : k < l.length) (h0 : l[k] = 0) : zst (l.take (k + 1)) = ((zst (l.take k)).1, (zst (l.take k)).2 + 1) := by
  rw [zst_more h, zstep, if_pos h0]
theorem zst_other {l : List Int} {k : Nat} (h : k < l.length) (h0 : ¬ l[k] = 0) : zst (l.take (k + 1)) = ((zst (l.take k)).1 ++ zrun (zst (l.take k)).2 ++ [l[k] + 1], 0) := by
  rw [zst_more h, zstep, if_neg h0]
theorem zst_len (l : List Int) : (zst l).1.length + (zst l).2 ≤ l.length := by
  suffices h : ∀ k, k ≤ l.length → (zst (l.take k)).1.length + (zst (l.take k)).2 ≤ k by
    have := h l.length (Nat.le_refl _)
    rwa [List.take_length] at this
  intro k
  induction k with
  | zero => intro _; simp [zst]
  | succ k ih =>
    intro hk
    have := ih (by omega)
    by_cases h0 : l[k] = 0
    · rw [zst_zero hk h0]
      simp only
      omega
    · rw [zst_other hk h0]
      have hz := zrun_len (zst (l.take k)).2
      simp only [List.length_append, List.length_cons, List.length_nil]
      omega
/-- ZerosOf -/
def zerosR (l : List Int) : List Int := if numsR l 255 = true then (zst l).1 ++ zrun (zst l).2 else []
theorem zerosR_yes {l : List Int} (h : numsR l 255 = true) : zerosR l = (zst l).1 ++ zrun (zst l).2 := if_pos h
theorem zerosR_no {l : List Int} (h : numsR l 255 = false) : zerosR l = [] := if_neg (by rw [h]; decide)
theorem zerosR_len (l : List Int) : (zerosR l).length ≤ l.length := by
  unfold zerosR
  split
  · rw [List.length_append]
    have := zst_len l
    have := zrun_len (zst l).2
    omega
  · exact Nat.zero_le _

/-- what the first numbers tell, and what the next 0 or 1 is worth -/
def bstep (s : List Int × Nat) (n : Int) : List Int × Nat := if 1 < n then (s.1 ++ [n - 1], 1) else (s.1 ++ List.replicate ((n.toNat + 1) * s.2) 0, s.2 * 2)
def bst (l : List Int) : List Int × Nat := l.foldl bstep ([], 1)
theorem bst_more {l : List Int} {k : Nat} (h : k < l.length) : bst (l.take (k + 1)) = bstep (bst (l.take k)) l[k] := by
  unfold bst
  rw [Bi.take_more h, List.foldl_append]
  rfl
theorem bst_one {l : List Int} {k : Nat} (h : k < l.length) (h0 : 1 < l[k]) : bst (l.take (k + 1)) = ((bst (l.take k)).1 ++ [l[k] - 1], 1) := by
  rw [bst_more h, bstep, if_pos h0]
theorem bst_zeros {l : List Int} {k : Nat} (h : k < l.length) (h0 : ¬ 1 < l[k]) : bst (l.take (k + 1)) = ((bst (l.take k)).1 ++ List.replicate ((l[k].toNat + 1) * (bst (l.take k)).2) 0, (bst (l.take k)).2 * 2) := by
  rw [bst_more h, bstep, if_neg h0]
theorem bst_worth (l : List Int) : ∀ k, k ≤ l.length → 1 ≤ (bst (l.take k)).2 ∧ (bst (l.take k)).2 ≤ (bst (l.take k)).1.length + 1 := by
  intro k
  induction k with
  | zero => intro _; simp [bst]
  | succ k ih =>
    intro hk
    obtain ⟨h1, h2⟩ := ih (by omega)
    by_cases h0 : 1 < l[k]
    · rw [bst_one hk h0]
      simp only [List.length_append, List.length_cons, List.length_nil]
      omega
    · rw [bst_zeros hk h0]
      simp only [List.length_append, List.length_replicate]
      generalize (bst (l.take k)).2 = wo at h1 h2 ⊢
      have : wo ≤ (l[k].toNat + 1) * wo := Nat.le_mul_of_pos_left _ (by omega)
      omega
theorem bst_grow {l : List Int} {k : Nat} (h : k < l.length) : (bst (l.take k)).1.length ≤ (bst (l.take (k + 1))).1.length := by
  by_cases h0 : 1 < l[k]
  · rw [bst_one h h0]
    simp only [List.length_append]
    omega
  · rw [bst_zeros h h0]
    simp only [List.length_append]
    omega
theorem bst_mono (l : List Int) (j : Nat) : ∀ k, j ≤ k → k ≤ l.length → (bst (l.take j)).1.length ≤ (bst (l.take k)).1.length := by
  intro k
  induction k with
  | zero => intro h _; rw [show j = 0 by omega]; exact Nat.le_refl _
  | succ k ih =>
    intro h hk
    rcases Nat.lt_or_ge k j with hj | hj
    · rw [show j = k + 1 by omega]; exact Nat.le_refl _
    · exact Nat.le_trans (ih hj (by omega)) (bst_grow hk)
/-- ZerosBack -/
def backR (l : List Int) : List Int := if numsR l 256 = true ∧ (bst l).1.length ≤ 400 then (bst l).1 else []
theorem backR_yes {l : List Int} (h : numsR l 256 = true) (h2 : (bst l).1.length ≤ 400) : backR l = (bst l).1 := if_pos ⟨h, h2⟩
theorem backR_no {l : List Int} (h : numsR l 256 = false) : backR l = [] := if_neg fun x => by rw [h] at x; exact absurd x.1 (by decide)
theorem backR_long {l : List Int} {k : Nat} (hk : k ≤ l.length) (h2 : 400 < (bst (l.take k)).1.length) : backR l = [] := if_neg fun x => by
  have := bst_mono l k l.length hk (Nat.le_refl _)
  rw [List.take_length] at this
  have := x.2
  omega
theorem backR_len (l : List Int) : (backR l).length ≤ 400 := by
  unfold backR
  split
  · rename_i h; exact h.2
  · simp
end Go.Proofs.Ytmkpakhpjgocjaa.Ze

/- Plain mathematics: zeros side by side, there and back. -/
namespace Go.Proofs.Ytmkpakhpjgocjaa.Ze
open Go.RowKit

theorem zrun_back (r : Nat) : ∀ (s : List Int) (v : Nat), ((zrun r).foldl bstep (s, v)).1 = s ++ List.replicate (v * r) 0 := by
  induction r using Nat.strongRecOn with
  | ind r ih =>
    intro s v
    by_cases h0 : r = 0
    · subst h0
      rw [zrun_zero]
      simp
    · by_cases h1 : r % 2 = 1
      · rw [zrun_odd h1, List.foldl_cons, bstep, if_neg (by omega), ih ((r - 1) / 2) (by omega), List.append_assoc, List.replicate_append_replicate]
        congr 2
        obtain ⟨q, rfl⟩ : ∃ q, r = 2 * q + 1 := ⟨(r - 1) / 2, by omega⟩
        rw [show (2 * q + 1 - 1) / 2 = q by omega, Nat.mul_add, Nat.mul_assoc]
        simp
        omega
      · rw [zrun_even (by omega) h1, List.foldl_cons, bstep, if_neg (by omega), ih ((r - 2) / 2) (by omega), List.append_assoc, List.replicate_append_replicate]
        congr 2
        obtain ⟨q, rfl⟩ : ∃ q, r = 2 * q + 2 := ⟨(r - 2) / 2, by omega⟩
        rw [show (2 * q + 2 - 2) / 2 = q by omega, Nat.mul_add, Nat.mul_assoc]
        simp
        omega
theorem zst_back (l : List Int) (h : ∀ x ∈ l, 0 ≤ x ∧ x ≤ 255) : ∀ k, k ≤ l.length → (bst (zst (l.take k)).1).2 = 1 ∧ (bst (zst (l.take k)).1).1 ++ List.replicate (zst (l.take k)).2 0 = l.take k := by
  intro k
  induction k with
  | zero => intro _; simp [zst, bst]
  | succ k ih =>
    intro hk
    obtain ⟨h1, h2⟩ := ih (by omega)
    have hx := h _ (List.getElem_mem (show k < l.length by omega))
    by_cases h0 : l[k] = 0
    · rw [zst_zero hk h0]
      refine ⟨h1, ?_⟩
      show (bst (zst (l.take k)).1).1 ++ List.replicate ((zst (l.take k)).2 + 1) 0 = _
      rw [Bi.take_more hk, h0, List.replicate_succ', ← List.append_assoc, h2]
    · rw [zst_other hk h0]
      have e : bst ((zst (l.take k)).1 ++ zrun (zst (l.take k)).2 ++ [l[k] + 1]) = (l.take k ++ [l[k]], 1) := by
        have hb : bst (zst (l.take k)).1 = ((bst (zst (l.take k)).1).1, 1) := by rw [← h1]
        have hb2 : (zst (l.take k)).1.foldl bstep ([], 1) = ((bst (zst (l.take k)).1).1, 1) := hb
        unfold bst
        rw [List.foldl_append, List.foldl_append, hb2, List.foldl_cons, List.foldl_nil, bstep, if_pos (by omega), zrun_back, Nat.one_mul, h2]
        simp
      rw [e]
      refine ⟨rfl, ?_⟩
      rw [Bi.take_more hk]
      simp
theorem zeros_back {l : List Int} (h : numsR l 255 = true) : backR (zerosR l) = l := by
  obtain ⟨hl, hu⟩ := numsR_yes h
  have hx := upTo_yes hu
  obtain ⟨h1, h2⟩ := zst_back l hx l.length (Nat.le_refl _)
  rw [List.take_length] at h1 h2
  have hb : (bst (zerosR l)).1 = l := by
    rw [zerosR_yes h]
    have hb2 : (zst l).1.foldl bstep ([], 1) = ((bst (zst l).1).1, 1) := by
      show bst (zst l).1 = _
      rw [← h1]
    unfold bst
    rw [List.foldl_append, hb2, zrun_back, Nat.one_mul]
    exact h2
  have hm : ∀ k, k ≤ l.length → ∀ x ∈ (zst (l.take k)).1, 0 ≤ x ∧ x ≤ 256 := by
    intro k
    induction k with
    | zero => intro _ x hx; simp [zst] at hx
    | succ k ih =>
      intro hk x hxm
      have hy := hx _ (List.getElem_mem (show k < l.length by omega))
      by_cases h0 : l[k] = 0
      · rw [zst_zero hk h0] at hxm
        exact ih (by omega) x hxm
      · rw [zst_other hk h0] at hxm
        rcases List.mem_append.1 hxm with hxm | hxm
        · rcases List.mem_append.1 hxm with hxm | hxm
          · exact ih (by omega) x hxm
          · rcases zrun_mem _ x hxm with e | e <;> omega
        · rw [List.mem_singleton] at hxm
          omega
  have hn : numsR (zerosR l) 256 = true := by
    rw [numsR_of (Nat.le_trans (zerosR_len l) hl)]
    refine upTo_of fun x hxm => ?_
    rw [zerosR_yes h] at hxm
    rcases List.mem_append.1 hxm with hxm | hxm
    · have := hm l.length (Nat.le_refl _)
      rw [List.take_length] at this
      exact this x hxm
    · rcases zrun_mem _ x hxm with e | e <;> omega
  rw [backR_yes hn (by rw [hb]; exact hl), hb]
end Go.Proofs.Ytmkpakhpjgocjaa.Ze
