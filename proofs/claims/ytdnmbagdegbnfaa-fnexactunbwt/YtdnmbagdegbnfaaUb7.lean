/- Texts put together: BitPlain, WholePlain, ZeroPlain, IntRow, IntArg. -/
import Derived.Test.YtdnmbagdegbnfaaShaBytes
import Derived.Test.YtdnmbagdegbnfaaMemBase
import Derived.Test.YtdnmbagdegbnfaaShaRow
/- Plain mathematics of bits: a number in bits. -/
namespace Go.Proofs.Ytdnmbagdegbnfaa.Bi
open Go.RowKit
open Go.Proofs.Ytdnmbagdegbnfaa.Sh

theorem hideB {p : Prop} (h : p) : Hid p := h
/-- the bit of a number at a place, as a byte of a text -/
def bitB (n p : Nat) : Nat := 48 + n / 2 ^ p % 2
theorem bitB_lt (n p : Nat) : bitB n p < 256 := by unfold bitB; omega
theorem bitB_01 (n p : Nat) : bitB n p = 48 ∨ bitB n p = 49 := by unfold bitB; omega
/-- a number in so many bits -/
def bitsV (n w : Nat) : ByteArray := strF w (fun j => bitB n (w - 1 - j))
theorem bitsV_size (n w : Nat) : (bitsV n w).size = w := strF_size _ _
/-- what BitsOf answers -/
def bitsR (n w : Int) : ByteArray := if w < 1 ∨ 20 < w ∨ n < 0 ∨ 2 ^ w.toNat ≤ n then ⟨#[]⟩ else bitsV n.toNat w.toNat
theorem bitsR_no (n w : Int) (h : w < 1 ∨ 20 < w ∨ n < 0 ∨ 2 ^ w.toNat ≤ n) : bitsR n w = ⟨#[]⟩ := if_pos h
theorem bitsR_yes (n w : Nat) (h1 : 1 ≤ w) (h2 : w ≤ 20) (h3 : n < 2 ^ w) : bitsR n w = bitsV n w := by
  unfold bitsR
  have h4 : ¬ ((2 : Int) ^ w ≤ n) := by
    have : ((2 ^ w : Nat) : Int) = (2 : Int) ^ w := by simp
    omega
  rw [if_neg (by simp only [Int.toNat_natCast]; omega)]
  rfl

/-- the first k written -/
def upK (n w k j : Nat) : Nat := if j < k then bitB n (w - 1 - j) else 0
theorem upK_zero (n w j : Nat) : upK n w 0 j = 0 := by simp [upK]
theorem upK_next (n w k j : Nat) (v : Int) (hv : v = (bitB n (w - 1 - k) : Nat)) : upd (fun j => ((upK n w k j : Nat) : Int)) k v j = (upK n w (k + 1) j : Nat) := by
  subst hv
  unfold upd upK
  by_cases e : j = k
  · subst e; simp
  · have : (j < k + 1) = (j < k) := propext ⟨fun h => by omega, fun h => by omega⟩
    simp only [e, this, if_false]
theorem upK_all (n w : Nat) : strF w (fun j => upK n w w j) = bitsV n w := strF_congr _ _ _ fun j hj => by simp [upK, hj]
theorem upK_lt (n w k j : Nat) : upK n w k j < 256 := by
  unfold upK
  have := bitB_lt n (w - 1 - j)
  split <;> omega
/-- the last k written -/
def dnK (n w k j : Nat) : Nat := if w ≤ j + k then bitB n (w - 1 - j) else 0
theorem dnK_zero (n w j : Nat) (h : j < w) : dnK n w 0 j = 0 := by unfold dnK; rw [if_neg (by omega)]
theorem dnK_next (n w k j : Nat) (v : Int) (hk : k < w) (hj : j < w) (hv : v = (bitB n k : Nat)) : upd (fun j => ((dnK n w k j : Nat) : Int)) (w - 1 - k) v j = (dnK n w (k + 1) j : Nat) := by
  subst hv
  unfold upd dnK
  by_cases e : j = w - 1 - k
  · subst e
    rw [if_pos rfl, if_pos (by omega), show w - 1 - (w - 1 - k) = k by omega]
  · have : (w ≤ j + (k + 1)) = (w ≤ j + k) := propext ⟨fun h => by omega, fun h => by omega⟩
    simp only [e, this, if_false]
theorem dnK_all (n w : Nat) : strF w (fun j => dnK n w w j) = bitsV n w := strF_congr _ _ _ fun j hj => by unfold dnK; rw [if_pos (by omega)]
theorem dnK_lt (n w k j : Nat) : dnK n w k j < 256 := by
  unfold dnK
  have := bitB_lt n (w - 1 - j)
  split <;> omega
theorem half_pow (n k : Nat) : n / 2 ^ k / 2 = n / 2 ^ (k + 1) := by rw [Nat.pow_succ, Nat.div_div_eq_div_mul]
theorem pow20 (w : Nat) (h : w ≤ 20) : 2 ^ w ≤ 1048576 := by
  have := Nat.pow_le_pow_right (n := 2) (by decide) h
  simpa using this
end Go.Proofs.Ytdnmbagdegbnfaa.Bi

/- Plain mathematics of lengths of codes: which are right, what they take together, which are whole. -/
namespace Go.Proofs.Ytdnmbagdegbnfaa.Bi
open Go.RowKit

def okL (m x : Int) : Prop := 0 ≤ x ∧ x ≤ m
def within (l : List Int) (m : Int) : Bool := decide (l.length ≤ 257 ∧ ∀ x ∈ l, 0 ≤ x ∧ x ≤ m)
theorem within_yes {l : List Int} {m : Int} (h : within l m = true) : l.length ≤ 257 ∧ ∀ x ∈ l, 0 ≤ x ∧ x ≤ m := of_decide_eq_true h
theorem within_of {l : List Int} {m : Int} (h1 : l.length ≤ 257) (h2 : ∀ x ∈ l, 0 ≤ x ∧ x ≤ m) : within l m = true := decide_eq_true ⟨h1, h2⟩
theorem within_long {l : List Int} {m : Int} (h : 257 < l.length) : within l m = false := decide_eq_false fun x => by have := x.1; omega
theorem within_bad {l : List Int} {m : Int} {j : Nat} (hj : j < l.length) (h : l[j] < 0 ∨ m < l[j]) : within l m = false := decide_eq_false fun x => by
  have := x.2 _ (List.getElem_mem hj)
  omega
/-- what a code of a length takes -/
def part (x : Int) : Nat := if 0 < x then 2 ^ (12 - x.toNat) else 0
def csum (l : List Int) : Nat := (l.map part).sum
def above (l : List Int) : Nat := l.countP fun x => decide (0 < x)
theorem take_more {l : List Int} {k : Nat} (h : k < l.length) : l.take (k + 1) = l.take k ++ [l[k]] := List.take_succ_eq_append_getElem h
theorem csum_snoc (l : List Int) (x : Int) : csum (l ++ [x]) = csum l + part x := by simp [csum]
theorem above_snoc (l : List Int) (x : Int) : above (l ++ [x]) = above l + if 0 < x then 1 else 0 := by simp [above, List.countP_append, List.countP_cons]
theorem csum_more {l : List Int} {k : Nat} (h : k < l.length) : csum (l.take (k + 1)) = csum (l.take k) + part l[k] := by
  rw [take_more h, csum_snoc]
theorem above_more {l : List Int} {k : Nat} (h : k < l.length) : above (l.take (k + 1)) = above (l.take k) + if 0 < l[k] then 1 else 0 := by
  rw [take_more h, above_snoc]
theorem part_le (x : Int) : part x ≤ 4096 := by
  unfold part
  split
  · have := Nat.pow_le_pow_right (n := 2) (by decide) (show 12 - x.toNat ≤ 12 by omega)
    omega
  · omega
theorem csum_le (l : List Int) : csum l ≤ 4096 * l.length := by
  induction l with
  | nil => simp [csum]
  | cons x l ih =>
    have := part_le x
    simp only [csum, List.map_cons, List.sum_cons, List.length_cons] at ih ⊢
    omega
theorem above_le (l : List Int) : above l ≤ l.length := List.countP_le_length
theorem above_zero : ∀ l : List Int, above l = 0 → csum l = 0 ∧ ∀ x ∈ l, ¬ 0 < x := by
  intro l
  induction l with
  | nil => intro _; exact ⟨rfl, fun x hx => by cases hx⟩
  | cons x l ih =>
    intro h
    simp only [above, List.countP_cons] at h
    have hx : ¬ 0 < x := by
      intro hx
      simp [hx] at h
    obtain ⟨h1, h2⟩ := ih (by simp only [above]; omega)
    refine ⟨?_, fun y hy => ?_⟩
    · simp only [csum, List.map_cons, List.sum_cons]
      simp only [csum] at h1
      rw [h1, part, if_neg hx]
    · rcases List.mem_cons.1 hy with e | hy
      · rw [e]; exact hx
      · exact h2 y hy
theorem above_one : ∀ l : List Int, above l = 1 → ∃ x, x ∈ l ∧ 0 < x ∧ csum l = 2 ^ (12 - x.toNat) ∧ ∀ y ∈ l, 0 < y → y = x := by
  intro l
  induction l with
  | nil => intro h; simp [above] at h
  | cons x l ih =>
    intro h
    simp only [above, List.countP_cons] at h
    by_cases hx : 0 < x
    · simp [hx] at h
      have h0 : above l = 0 := by
        simp only [above, List.countP_eq_zero]
        intro y hy
        have := h y hy
        simpa using this
      obtain ⟨h1, h2⟩ := above_zero l h0
      refine ⟨x, List.mem_cons_self, hx, ?_, fun y hy hp => ?_⟩
      · simp only [csum, List.map_cons, List.sum_cons]
        simp only [csum] at h1
        rw [h1, part, if_pos hx]
        rfl
      · rcases List.mem_cons.1 hy with e | hy
        · exact e
        · exact absurd hp (h2 y hy)
    · simp [hx] at h
      obtain ⟨z, hz, hz0, hs, ha⟩ := ih h
      refine ⟨z, List.mem_cons_of_mem _ hz, hz0, ?_, fun y hy hp => ?_⟩
      · simp only [csum, List.map_cons, List.sum_cons]
        simp only [csum] at hs
        rw [hs, part, if_neg hx, Nat.zero_add]
      · rcases List.mem_cons.1 hy with e | hy
        · rw [e] at hp; exact absurd hp hx
        · exact ha y hy hp
theorem pow11 (n : Nat) (h1 : 1 ≤ n) (h : 2 ^ (12 - n) = 2048) : n = 1 := by
  rcases Nat.lt_or_ge n 13 with h13 | h13
  · have : n = 1 ∨ n = 2 ∨ n = 3 ∨ n = 4 ∨ n = 5 ∨ n = 6 ∨ n = 7 ∨ n = 8 ∨ n = 9 ∨ n = 10 ∨ n = 11 ∨ n = 12 := by omega
    rcases this with rfl | rfl | rfl | rfl | rfl | rfl | rfl | rfl | rfl | rfl | rfl | rfl <;> first | rfl | (simp at h)
  · rw [show 12 - n = 0 by omega] at h
    simp at h
/-- one alone of length 1 -/
theorem alone (l : List Int) (h : above l = 1) : l.contains 1 = decide (csum l = 2048) := by
  obtain ⟨x, hx, hx0, hs, ha⟩ := above_one l h
  by_cases e : x = 1
  · subst e
    rw [List.contains_iff_mem.2 hx, hs]
    rfl
  · have h1 : ¬ (1 : Int) ∈ l := fun hm => e (ha 1 hm (by decide)).symm
    have h2 : ¬ csum l = 2048 := by
      rw [hs]
      intro h3
      have := pow11 x.toNat (by omega) h3
      omega
    rw [decide_eq_false h2]
    cases hc : l.contains 1 with
    | false => rfl
    | true => exact absurd (List.contains_iff_mem.1 hc) h1
def right (l : List Int) : Bool := within l 12 && decide (csum l ≤ 4096)
def whole (l : List Int) : Bool := right l && (decide (csum l = 4096) || decide (above l = 1) && decide (csum l = 2048))
theorem right_yes {l : List Int} (h : right l = true) : within l 12 = true ∧ csum l ≤ 4096 := by
  unfold right at h
  rw [Bool.and_eq_true] at h
  exact ⟨h.1, of_decide_eq_true h.2⟩
theorem right_of {l : List Int} (h1 : within l 12 = true) (h2 : csum l ≤ 4096) : right l = true := by
  unfold right
  rw [h1, decide_eq_true h2]
  rfl
theorem right_no {l : List Int} (h : within l 12 = false ∨ ¬ csum l ≤ 4096) : right l = false := by
  unfold right
  rcases h with h | h
  · rw [h]; rfl
  · rw [decide_eq_false h, Bool.and_false]
theorem whole_no {l : List Int} (h : right l = false) : whole l = false := by unfold whole; rw [h]; rfl
theorem shr_part (n : Nat) (h1 : 1 ≤ n) (h2 : n ≤ 12) : (4096 : Int) / 2 ^ n = ((2 ^ (12 - n) : Nat) : Int) := by
  have : n = 1 ∨ n = 2 ∨ n = 3 ∨ n = 4 ∨ n = 5 ∨ n = 6 ∨ n = 7 ∨ n = 8 ∨ n = 9 ∨ n = 10 ∨ n = 11 ∨ n = 12 := by omega
  rcases this with rfl | rfl | rfl | rfl | rfl | rfl | rfl | rfl | rfl | rfl | rfl | rfl <;> rfl
end Go.Proofs.Ytdnmbagdegbnfaa.Bi

/- Plain mathematics of zeros side by side: what they are told as, and back. -/
namespace Go.Proofs.Ytdnmbagdegbnfaa.Ze
open Go.RowKit

theorem hideZ {p : Prop} (h : p) : Hid p := h
/-- so many zeros side by side -/
def zrun (r : Nat) : List Int :=
  if r = 0 then [] else if r % 2 = 1 then 0 :: zrun ((r - 1) / 2) else 1 :: zrun ((r - 2) / 2)
termination_by r
decreasing_by all_goals omega
theorem zrun_zero : zrun 0 = [] := by rw [zrun]; rfl
theorem zrun_odd {r : Nat} (h : r % 2 = 1) : zrun r = 0 :: zrun ((r - 1) / 2) := by
  rw [zrun, if_neg (by omega), if_pos h]
theorem zrun_even {r : Nat} (h0 : 0 < r) (h : ¬ r % 2 = 1) : zrun r = 1 :: zrun ((r - 2) / 2) := by
  rw [zrun, if_neg (by omega), if_neg h]
theorem zrun_len (r : Nat) : (zrun r).length ≤ r := by
  induction r using Nat.strongRecOn with
  | ind r ih =>
    by_cases h0 : r = 0
    · subst h0; rw [zrun_zero]; exact Nat.le_refl _
    · by_cases h1 : r % 2 = 1
      · rw [zrun_odd h1, List.length_cons]
        have := ih ((r - 1) / 2) (by omega)
        omega
      · rw [zrun_even (by omega) h1, List.length_cons]
        have := ih ((r - 2) / 2) (by omega)
        omega
theorem zrun_mem (r : Nat) : ∀ x ∈ zrun r, x = 0 ∨ x = 1 := by
  induction r using Nat.strongRecOn with
  | ind r ih =>
    intro x hx
    by_cases h0 : r = 0
    · subst h0; rw [zrun_zero] at hx; cases hx
    · by_cases h1 : r % 2 = 1
      · rw [zrun_odd h1] at hx
        rcases List.mem_cons.1 hx with e | hx
        · exact .inl e
        · exact ih ((r - 1) / 2) (by omega) x hx
      · rw [zrun_even (by omega) h1] at hx
        rcases List.mem_cons.1 hx with e | hx
        · exact .inr e
        · exact ih ((r - 2) / 2) (by omega) x hx

/-- numbers of a list, each 0 to a greatest one -/
def upTo (l : List Int) (m : Int) : Bool := decide (∀ x ∈ l, 0 ≤ x ∧ x ≤ m)
theorem upTo_yes {l : List Int} {m : Int} (h : upTo l m = true) : ∀ x ∈ l, 0 ≤ x ∧ x ≤ m := of_decide_eq_true h
theorem upTo_of {l : List Int} {m : Int} (h : ∀ x ∈ l, 0 ≤ x ∧ x ≤ m) : upTo l m = true := decide_eq_true h
theorem upTo_bad {l : List Int} {m : Int} {j : Nat} (hj : j < l.length) (h : l[j] < 0 ∨ m < l[j]) : upTo l m = false := decide_eq_false fun x => by
  have := x _ (List.getElem_mem hj)
  omega

/-- a list of at most 400 numbers, each 0 to a greatest one -/
def numsR (l : List Int) (m : Int) : Bool := decide (l.length ≤ 400) && upTo l m
theorem numsR_yes {l : List Int} {m : Int} (h : numsR l m = true) : l.length ≤ 400 ∧ upTo l m = true := by
  unfold numsR at h
  rw [Bool.and_eq_true] at h
  exact ⟨of_decide_eq_true h.1, h.2⟩
theorem numsR_long {l : List Int} {m : Int} (h : 400 < l.length) : numsR l m = false := by
  unfold numsR
  rw [decide_eq_false (by omega)]
  rfl
theorem numsR_of {l : List Int} {m : Int} (h : l.length ≤ 400) : numsR l m = upTo l m := by
  unfold numsR
  rw [decide_eq_true h]
  rfl

/-- what is told of the first numbers, and how many zeros stand behind it -/
def zstep (s : List Int × Nat) (n : Int) : List Int × Nat := if n = 0 then (s.1, s.2 + 1) else (s.1 ++ zrun s.2 ++ [n + 1], 0)
def zst (l : List Int) : List Int × Nat := l.foldl zstep ([], 0)
theorem zst_more {l : List Int} {k : Nat} (h : k < l.length) : zst (l.take (k + 1)) = zstep (zst (l.take k)) l[k] := by
  unfold zst
  rw [Bi.take_more h, List.foldl_append]
  rfl
theorem zst_zero {l : List Int} {k : Nat} (h : k < l.length) (h0 : l[k] = 0) : zst (l.take (k + 1)) = ((zst (l.take k)).1, (zst (l.take k)).2 + 1) := by
  rw [zst_more h, zstep, if_pos h0]
theorem zst_other {l : List Int} {k : Nat} (h : k < l.length) (h0 : ¬ l[k] = 0) : zst (l.take (k + 1)) = ((zst (l.take k)).1 ++ zrun (zst (l.take k)).2 ++ [l[k] + 1], 0) := by
  rw [zst_more h, zstep, if_neg h0]
theorem zst_len (l : List Int) : (zst l).1.length + (zst l).2 ≤ l.length := by
  suffices h : ∀ k, k ≤ l.length → (zst (l.take k)).1.length + (zst (l.take k)).2 ≤ k by
    have := h l.length (Nat.le_refl _)
    rwa [List.take_length] at this
  intro k
  induction k with
  | zero => intro _; simp [zst]
  | succ k ih =>
    intro hk
    have := ih (by omega)
    by_cases h0 : l[k] = 0
    · rw [zst_zero hk h0]
      simp only
      omega
    · rw [zst_other hk h0]
      have hz := zrun_len (zst (l.take k)).2
      simp only [List.length_append, List.length_cons, List.length_nil]
      omega
/-- ZerosOf -/
def zerosR (l : List Int) : List Int := if numsR l 255 = true then (zst l).1 ++ zrun (zst l).2 else []
theorem zerosR_yes {l : List Int} (h : numsR l 255 = true) : zerosR l = (zst l).1 ++ zrun (zst l).2 := if_pos h
theorem zerosR_no {l : List Int} (h : numsR l 255 = false) : zerosR l = [] := if_neg (by rw [h]; decide)
theorem zerosR_len (l : List Int) : (zerosR l).length ≤ l.length := by
  unfold zerosR
  split
  · rw [List.length_append]
    have := zst_len l
    have := zrun_len (zst l).2
    omega
  · exact Nat.zero_le _

/-- what the first numbers tell, and what the next 0 or 1 is worth -/
def bstep (s : List Int × Nat) (n : Int) : List Int × Nat := if 1 < n then (s.1 ++ [n - 1], 1) else (s.1 ++ List.replicate ((n.toNat + 1) * s.2) 0, s.2 * 2)
def bst (l : List Int) : List Int × Nat := l.foldl bstep ([], 1)
theorem bst_more {l : List Int} {k : Nat} (h : k < l.length) : bst (l.take (k + 1)) = bstep (bst (l.take k)) l[k] := by
  unfold bst
  rw [Bi.take_more h, List.foldl_append]
  rfl
theorem bst_one {l : List Int} {k : Nat} (h : k < l.length) (h0 : 1 < l[k]) : bst (l.take (k + 1)) = ((bst (l.take k)).1 ++ [l[k] - 1], 1) := by
  rw [bst_more h, bstep, if_pos h0]
theorem bst_zeros {l : List Int} {k : Nat} (h : k < l.length) (h0 : ¬ 1 < l[k]) : bst (l.take (k + 1)) = ((bst (l.take k)).1 ++ List.replicate ((l[k].toNat + 1) * (bst (l.take k)).2) 0, (bst (l.take k)).2 * 2) := by
  rw [bst_more h, bstep, if_neg h0]
theorem bst_worth (l : List Int) : ∀ k, k ≤ l.length → 1 ≤ (bst (l.take k)).2 ∧ (bst (l.take k)).2 ≤ (bst (l.take k)).1.length + 1 := by
  intro k
  induction k with
  | zero => intro _; simp [bst]
  | succ k ih =>
    intro hk
    obtain ⟨h1, h2⟩ := ih (by omega)
    by_cases h0 : 1 < l[k]
    · rw [bst_one hk h0]
      simp only [List.length_append, List.length_cons, List.length_nil]
      omega
    · rw [bst_zeros hk h0]
      simp only [List.length_append, List.length_replicate]
      generalize (bst (l.take k)).2 = wo at h1 h2 ⊢
      have : wo ≤ (l[k].toNat + 1) * wo := Nat.le_mul_of_pos_left _ (by omega)
      omega
theorem bst_grow {l : List Int} {k : Nat} (h : k < l.length) : (bst (l.take k)).1.length ≤ (bst (l.take (k + 1))).1.length := by
  by_cases h0 : 1 < l[k]
  · rw [bst_one h h0]
    simp only [List.length_append]
    omega
  · rw [bst_zeros h h0]
    simp only [List.length_append]
    omega
theorem bst_mono (l : List Int) (j : Nat) : ∀ k, j ≤ k → k ≤ l.length → (bst (l.take j)).1.length ≤ (bst (l.take k)).1.length := by
  intro k
  induction k with
  | zero => intro h _; rw [show j = 0 by omega]; exact Nat.le_refl _
  | succ k ih =>
    intro h hk
    rcases Nat.lt_or_ge k j with hj | hj
    · rw [show j = k + 1 by omega]; exact Nat.le_refl _
    · exact Nat.le_trans (ih hj (by omega)) (bst_grow hk)
/-- ZerosBack -/
def backR (l : List Int) : List Int := if numsR l 256 = true ∧ (bst l).1.length ≤ 400 then (bst l).1 else []
theorem backR_yes {l : List Int} (h : numsR l 256 = true) (h2 : (bst l).1.length ≤ 400) : backR l = (bst l).1 := if_pos ⟨h, h2⟩
theorem backR_no {l : List Int} (h : numsR l 256 = false) : backR l = [] := if_neg fun x => by rw [h] at x; exact absurd x.1 (by decide)
theorem backR_long {l : List Int} {k : Nat} (hk : k ≤ l.length) (h2 : 400 < (bst (l.take k)).1.length) : backR l = [] := if_neg fun x => by
  have := bst_mono l k l.length hk (Nat.le_refl _)
  rw [List.take_length] at this
  have := x.2
  omega
theorem backR_len (l : List Int) : (backR l).length ≤ 400 := by
  unfold backR
  split
  · rename_i h; exact h.2
  · simp
end Go.Proofs.Ytdnmbagdegbnfaa.Ze

/- Rows of numbers in memory: as a slice that came in sees them, and as a block of the call's own. -/
namespace Go.Proofs.Ytdnmbagdegbnfaa.In
open Go.RowKit

theorem hideI {p : Prop} (h : p) : Hid p := h
/-- the numbers that a slice sees -/
def Ints (w : World) (B : Nat) (a : Option Addr) (l : List Int) : Prop :=
  l = [] ∨ ∃ b off, a = some ⟨b, off, none⟩ ∧ b < B ∧ ∀ j (h : j < l.length), w.cell? ⟨b, off + j, none⟩ = some (.int .i64 l[j])
theorem Ints.below {w w' : World} {B : Nat} {a : Option Addr} {l : List Int} (h : Ints w B a l) (hb : Below B w w') : Ints w' B a l := by
  rcases h with h0 | ⟨b, off, rfl, hlt, hc⟩
  · exact .inl h0
  · exact .inr ⟨b, off, rfl, hlt, fun j hj => (hb.cell (p := ⟨b, off + j, none⟩) hlt).trans (hc j hj)⟩
theorem Ints.mono {w : World} {B C : Nat} {a : Option Addr} {l : List Int} (h : Ints w B a l) (hBC : B ≤ C) : Ints w C a l := by
  rcases h with h0 | ⟨b, off, rfl, hlt, hc⟩
  · exact .inl h0
  · exact .inr ⟨b, off, rfl, Nat.lt_of_lt_of_le hlt hBC, hc⟩
theorem Ints.after {w w' : World} {B C : Nat} {a : Option Addr} {l : List Int} (h : Ints w B a l) (hb : Below C w w') (hBC : B ≤ C) : Ints w' B a l := by
  rcases h with h0 | ⟨b, off, rfl, hlt, hc⟩
  · exact .inl h0
  · exact .inr ⟨b, off, rfl, hlt, fun j hj => (hb.cell (p := ⟨b, off + j, none⟩) (Nat.lt_of_lt_of_le hlt hBC)).trans (hc j hj)⟩
theorem Ints.some {w : World} {B : Nat} {a : Option Addr} {l : List Int} (h : Ints w B a l) (hl : 0 < l.length) :
    ∃ b off, a = .some ⟨b, off, none⟩ ∧ b < B ∧ ∀ j (h : j < l.length), w.cell? ⟨b, off + j, none⟩ = .some (.int .i64 l[j]) := by
  rcases h with h0 | h
  · subst h0; simp at hl
  · exact h
theorem Ints.take {w : World} {B b off k : Nat} {l : List Int} (hB : b < B) (hc : ∀ j (h : j < l.length), w.cell? ⟨b, off + j, none⟩ = .some (.int .i64 l[j])) : Ints w B (.some ⟨b, off, none⟩) (l.take k) :=
  .inr ⟨b, off, rfl, hB, fun j hj => by
    have h1 : j < l.length := Nat.lt_of_lt_of_le hj (List.length_take_le' k l)
    rw [hc j h1, List.getElem_take]⟩
theorem Ints.drop {w : World} {B b off k : Nat} {l : List Int} (hB : b < B) (hc : ∀ j (h : j < l.length), w.cell? ⟨b, off + j, none⟩ = .some (.int .i64 l[j])) : Ints w B (.some ⟨b, off + k, none⟩) (l.drop k) :=
  .inr ⟨b, off + k, rfl, hB, fun j hj => by
    rw [List.length_drop] at hj
    rw [List.getElem_drop, ← hc (k + j) (by omega)]
    congr 2
    omega⟩

/-- a block that holds a row of numbers -/
def irow (l : List Int) : Array Value := (l.map (Value.int .i64)).toArray
def IsI (w : World) (g : Nat) (t : TypeId) (l : List Int) : Prop := w.heap[g]? = some (.cells (irow l) t (0, 0))
theorem irow_size (l : List Int) : (irow l).size = l.length := by simp [irow]
theorem irow_get (l : List Int) (j : Nat) (h : j < l.length) : (irow l)[j]? = some (.int .i64 l[j]) := by simp [irow, h]
theorem irow_set (l : List Int) (i : Nat) (s : Int) : (irow l).setIfInBounds i (.int .i64 s) = irow (l.set i s) := by
  simp [irow, List.map_set]
theorem IsI.cell {w : World} {g t : Nat} {l : List Int} (h : IsI w g t l) {j : Nat} (hj : j < l.length) : w.cell? ⟨g, j, none⟩ = some (.int .i64 l[j]) := by
  rw [cell_of_row w g j _ t (0, 0) h, irow_get l j hj]
theorem IsI.frozen {w : World} {g t : Nat} {l : List Int} (h : IsI w g t l) (j : Nat) : w.frozen? ⟨g, j, none⟩ = false := frozen_of_row w g j _ t h
theorem IsI.set {w : World} {g t : Nat} {l : List Int} (h : IsI w g t l) (i : Nat) (s : Int) : IsI (w.setCell ⟨g, i, none⟩ (.int .i64 s)) g t (l.set i s) := by
  unfold IsI
  rw [heap_setCell_same w g i _ t _ h, irow_set]
theorem IsI.set_other {w : World} {g t : Nat} {l : List Int} (h : IsI w g t l) (a : Addr) (v : Value) (ha : g ≠ a.block) : IsI (w.setCell a v) g t l := by
  unfold IsI
  rw [heap_setCell_other w a g v ha]
  exact h
theorem IsI.lt {w : World} {g t : Nat} {l : List Int} (h : IsI w g t l) : g < w.heap.size := (Array.getElem?_eq_some_iff.1 h).1
theorem IsI.below {w w' : World} {g t B : Nat} {l : List Int} (h : IsI w g t l) (b : Below B w w') (hg : g < B) : IsI w' g t l := by
  unfold IsI
  rw [b.block g hg]
  exact h
theorem IsI.ints {w : World} {g t B : Nat} {l : List Int} (h : IsI w g t l) (hB : g < B) : Ints w B (some ⟨g, 0, none⟩) l :=
  .inr ⟨g, 0, rfl, hB, fun j hj => by rw [Nat.zero_add]; exact h.cell hj⟩

/-- a row of numbers, its first k copied -/
def mid (l : List Int) (k : Nat) : List Int := l.take k ++ List.replicate (l.length - k) 0
theorem mid_length (l : List Int) (k : Nat) (h : k ≤ l.length) : (mid l k).length = l.length := by simp [mid]; omega
theorem mid_zero (l : List Int) : mid l 0 = List.replicate l.length 0 := by simp [mid]
theorem mid_all (l : List Int) : mid l l.length = l := by simp [mid]
theorem mid_next (l : List Int) (k : Nat) (h : k < l.length) : (mid l k).set k l[k] = mid l (k + 1) := by
  apply List.ext_getElem?
  intro i
  unfold mid
  rw [List.getElem?_set]
  have hl : (l.take k).length = k := by simp; omega
  have hl' : (l.take (k + 1)).length = k + 1 := by simp; omega
  by_cases e : k = i
  · subst e
    rw [if_pos rfl, if_pos (by simp; omega), List.getElem?_append_left (by omega), List.getElem?_take_of_lt (by omega), List.getElem?_eq_getElem h]
  · rw [if_neg e]
    by_cases hi : i < k
    · rw [List.getElem?_append_left (by omega), List.getElem?_append_left (by omega), List.getElem?_take_of_lt hi, List.getElem?_take_of_lt (by omega)]
    · rw [List.getElem?_append_right (by omega), List.getElem?_append_right (by omega), hl, hl', List.getElem?_replicate, List.getElem?_replicate]
      have : (i - k < l.length - k) = (i - (k + 1) < l.length - (k + 1)) := propext ⟨fun h => by omega, fun h => by omega⟩
      simp only [this]
/-- a row of numbers that make has just made -/
theorem made_ints {w : World} {base e g n : Nat} (h : w.ownsRow base e 1 (.slice (some ⟨g, 0, none⟩) n n) n (madeCells (Value.int .i64 0).cells (n * 1)).toList) : IsI w g e (List.replicate n 0) := by
  obtain ⟨_, h⟩ := h
  rcases h with ⟨h, _⟩ | ⟨g', cap, cur, hv, _, hb, _, _, hsz, htk⟩
  · simp at h
  · simp at hv
    obtain ⟨rfl, rfl⟩ := hv
    have hm : (madeCells (Value.int .i64 0).cells (n * 1)).toList = (irow (List.replicate n 0)).toList := by
      rw [Nat.mul_one]
      have := toList_madeCells_one (.int .i64 0) n
      simp only [irow, List.map_replicate]
      exact this
    rw [hm, List.take_of_length_le (by simp [hsz])] at htk
    have : cur = irow (List.replicate n 0) := by simpa using htk
    rw [this] at hb
    exact hb
theorem Try.infoI2 : (Try.prog.info? 2).map (fun i => (i.zero, i.size, i.bytes)) = some (some (.int .i64 0), 1, 8) := by kernel_rfl
theorem ret_slice {a b : Option Addr} {n m c d : Nat} (h1 : a = b) (h2 : n = m) (h3 : c = d) : Ending.returned (.slice a n c) = .returned (.slice b m d) := by rw [h1, h2, h3]

set_option maxRecDepth 100000 in
set_option maxHeartbeats 1000000 in
theorem toInt_any (a : Option Addr) (cap : Nat) (l : List Int) (w : World) (h : Ints w w.heap.size a l) (hn : l.length ≤ 1048576) :
    Calls Try.prog 62 #[.slice a l.length cap] w fun e w' => e = .returned (.slice (some ⟨w.heap.size, 0, none⟩) l.length l.length) ∧ IsI w' w.heap.size 2 l ∧ Below w.heap.size w w' := by
  obtain ⟨i0, hi, hz0, hz1, hz2⟩ := info_parts Try.infoI2
  have HS := hideI h
  clear h
  obtain ⟨n, hln⟩ : ∃ n, n = l.length := ⟨_, rfl⟩
  have HLN := hideI hln
  rw [← hln] at hn ⊢
  clear hln
  go_enter Try.func62, Try.ntmps62
  go_wp2_with (at_make; refine wpList_make_full _ rfl (.tmp 6) (.tmp 6) 23 rfl w.heap.size 2 i0 (.int .i64 0) 1 Try.underlying23 hi hz0 hz1 .i64 .i64 _ _ n rfl rfl (by simp) (by simp) (by rw [hz2]; omega) (by unfold maxLen; omega) (Nat.le_refl _) ?_; intro w1 hown1 hgrow1; have HR := hideI (made_ints hown1); have HB := hideI ((Below.refl w.heap.size w).grown hgrow1 (Nat.le_refl _) (by simp)); clear hown1 hgrow1)
  go_loopw [4] (fun i wr => ∃ k : Nat, i = .int .i64 k ∧ k ≤ n ∧ IsI wr w.heap.size 2 (mid l k) ∧ Below w.heap.size w wr) (fun i _ => n - (intOf i).toNat)
  case atStart => exact ⟨0, rfl, by omega, by rw [mid_zero, ← HLN.out]; exact HR.out, HB.out⟩
  case round =>
    obtain ⟨k, rfl, hk, h1, hbel⟩ := hrel
    have G1 := hideI h1
    have GB := hideI hbel
    by_cases hlt : k < n
    · have hkl : k < l.length := by rw [← HLN.out]; exact hlt
      obtain ⟨b, off, rfl, hb, hc⟩ := (HS.out.below hbel).some (by omega)
      have ci := hc k hkl
      have HM := hideI (mid_next l k hkl)
      have cf := h1.frozen k
      have ce : ∃ v, wr.cell? ⟨w.heap.size, k, none⟩ = some (.int .i64 v) := ⟨_, h1.cell (j := k) (by rw [mid_length l k (by omega)]; exact hkl)⟩
      obtain ⟨v0, ce⟩ := ce
      obtain ⟨s, hs⟩ : ∃ s, s = l[k] := ⟨_, rfl⟩
      have HSE := hideI hs
      rw [← hs] at ci
      clear h1 hbel hc hs
      go_wp2_with fail
      go_roundw
      case rel => exact ⟨k + 1, by go_num, by omega, by rw [← HM.out, ← HSE.out]; exact G1.out.set k s, GB.out.setCell (Nat.le_refl _) _⟩
      case measure => simp [intOf]; omega
    · have HE : Hid (mid l k = l) := by
        unfold Hid
        rw [show k = l.length by have := HLN.out; omega]
        exact mid_all l
      clear h1 hbel
      go_wp2_with fail
      go_ret
      exact ⟨rfl, by rw [← HE.out]; exact G1.out, GB.out⟩
end Go.Proofs.Ytdnmbagdegbnfaa.In

/- A slice of numbers that came in. -/
namespace Go.Proofs.Ytdnmbagdegbnfaa.In
open Go.RowKit

def IsNums (w : World) (a : Option Addr) (len cap : Nat) (zs : List Int) : Prop :=
  (a = none ∧ len = 0 ∧ cap = 0 ∧ zs = []) ∨
  ∃ x, a = some x ∧ len ≤ cap ∧ cap ≤ maxLen ∧ zs.length = cap ∧ (∀ i, i < zs.length → w.cell? (x.add i) = some (.int .i64 (zs.getD i 0))) ∧ ∀ n ∈ zs, (Lit.int .i64 n).wf = true
/-- numbers of 64 bits -/
def Wf (l : List Int) : Prop := ∀ n ∈ l, -9223372036854775808 ≤ n ∧ n ≤ 9223372036854775807
theorem Wf.get {l : List Int} (h : Wf l) (j : Nat) (hj : j < l.length) : -9223372036854775808 ≤ l[j] ∧ l[j] ≤ 9223372036854775807 := h _ (List.getElem_mem hj)

theorem ints_of {w : World} {a : Option Addr} {len cap : Nat} {ss : List Int} (h : IsNums w a len cap ss) :
    ∃ l : List Int, l.length = len ∧ Ints w w.heap.size a l ∧ len ≤ maxLen ∧ len ≤ cap ∧ Wf l := by
  rcases h with ⟨_, rfl, rfl, _⟩ | ⟨x, rfl, hlc, hm, hz, hc, hw⟩
  · exact ⟨[], rfl, .inl rfl, by decide, Nat.le_refl _, fun s hs => by cases hs⟩
  · refine ⟨ss.take len, by rw [List.length_take]; omega, ?_, by omega, hlc, fun s hs => by
      have := hw s (List.mem_of_mem_take hs)
      simpa [Lit.wf, IntKind.min, IntKind.max, IntKind.signed, IntKind.bits] using this⟩
    rcases Nat.eq_zero_or_pos len with h0 | h0
    · subst h0
      exact .inl rfl
    · obtain ⟨b, off, spot⟩ := x
      have hc0 := hc 0 (by omega)
      have hspot : spot = none := by simpa [Addr.add] using World.cell?_spot hc0
      subst hspot
      have e : ∀ i, (⟨b, off, none⟩ : Addr).add i = ⟨b, off + i, none⟩ := fun i => by unfold Addr.add; split <;> simp_all
      have hlt := World.block_lt_of_cell? w _ hc0
      rw [e 0] at hlt
      refine .inr ⟨b, off, rfl, hlt, fun j hj => ?_⟩
      rw [List.length_take] at hj
      have hj' : j < ss.length := by omega
      rw [← e j, hc j hj', List.getElem_take, List.getD_eq_getElem?_getD, List.getElem?_eq_getElem hj']
      rfl
end Go.Proofs.Ytdnmbagdegbnfaa.In
