/- Plain mathematics for spec.l02All: what is filled up byte by byte, and that a block looks at its 64 bytes alone. -/
import Derived.Test.YtghghkfhcpldhaaDoorShaSum
namespace Go.Proofs.YtghghkfhcpldhaaDoor.Sh

theorem pad_text (t : ByteArray) (j : Nat) (h : j < t.size) : bt t j = pad t j := by simp [pad, padK, h]
theorem pad_first (t : ByteArray) (j : Nat) (h : j < t.size + 1) : (if j = t.size then 128 else bt t j) = pad t j := by
  by_cases e : j = t.size
  · subst e; simp [pad, padK]
  · have : j < t.size := by omega
    simp [pad, padK, e, this]
theorem pad_zero (t : ByteArray) (n : Nat) (h1 : t.size < n) (h2 : n + 8 < chunks t.size * 64) : pad t n = 0 := by
  have a : ¬ n < t.size := by omega
  have b : ¬ n = t.size := by omega
  have c : ¬ chunks t.size * 64 ≤ n + 8 := by omega
  simp [pad, padK, a, b, c]
theorem pad_len (t : ByteArray) (m : Nat) (hm : m < 8) : pad t (chunks t.size * 64 - 8 + m) = t.size * 8 / 2 ^ (56 - 8 * m) % 256 := by
  have hr := chunks_room t.size
  have a : ¬ chunks t.size * 64 - 8 + m < t.size := by omega
  have b : ¬ chunks t.size * 64 - 8 + m = t.size := by omega
  have c : chunks t.size * 64 ≤ chunks t.size * 64 - 8 + m + 8 := by omega
  have d : chunks t.size * 64 - 1 - (chunks t.size * 64 - 8 + m) = 7 - m := by omega
  have e : 8 * (7 - m) = 56 - 8 * m := by omega
  simp only [pad, padK, if_neg a, if_neg b, if_pos c, d, e]
theorem pad_app (t : ByteArray) (n x : Nat) (hx : x = pad t n) (j : Nat) : (if j = n then x else pad t j) = pad t j := by
  by_cases e : j = n
  · subst e; simp [hx]
  · simp [e]

theorem part_congr (B B' : Nat → Nat) (h : ∀ j, j < 64 → B j = B' j) (i : Nat) (hi : i < 16) : ∀ j, j ≤ 4 → part B i j = part B' i j
  | 0, _ => rfl
  | j + 1, hj => by simp only [part]; rw [part_congr B B' h i hi j (by omega), h _ (by omega)]
theorem wv_congr (B B' : Nat → Nat) (h : ∀ j, j < 64 → B j = B' j) (i : Nat) : wv B i = wv B' i := by
  induction i using Nat.strongRecOn with
  | _ i ih =>
    by_cases hi : i < 16
    · rw [wv_lo B i hi, wv_lo B' i hi]
      simp only [word]
      rw [part_congr B B' h i hi 4 (Nat.le_refl _)]
    · rw [wv_hi B i hi, wv_hi B' i hi, ih (i - 16) (by omega), ih (i - 15) (by omega), ih (i - 7) (by omega), ih (i - 2) (by omega)]
theorem run_congr (B B' : Nat → Nat) (s : Nat → Int) (h : ∀ j, j < 64 → B j = B' j) : ∀ k, run B s k = run B' s k
  | 0 => rfl
  | k + 1 => by simp only [run]; rw [run_congr B B' s h k, wv_congr B B' h k]
theorem blk_congr (B B' : Nat → Nat) (s : Nat → Int) (h : ∀ j, j < 64 → B j = B' j) : blk B s = blk B' s := by
  funext j
  simp only [blk]
  rw [run_congr B B' s h 64]
theorem blk_str (t : ByteArray) (k : Nat) (s : Nat → Int) : blk (bt (strF 64 (blkB t k))) s = blk (blkB t k) s :=
  blk_congr _ _ s (fun j hj => bt_strF 64 _ j hj (blkB_lt t k j))
theorem firstF_range (j : Nat) : 0 ≤ firstF j ∧ firstF j < 4294967296 := by
  by_cases h : j < 8
  · have : j = 0 ∨ j = 1 ∨ j = 2 ∨ j = 3 ∨ j = 4 ∨ j = 5 ∨ j = 6 ∨ j = 7 := by omega
    rcases this with rfl | rfl | rfl | rfl | rfl | rfl | rfl | rfl <;> decide
  · simp [firstF, firstL, List.getD, List.getElem?_eq_none (show [1779033703, 3144134277, 1013904242, 2773480762, 1359893119, 2600822924, 528734635, (1541459225 : Int)].length ≤ j by simp; omega)]
theorem shaS_range (t : ByteArray) (k j : Nat) : 0 ≤ shaS t k j ∧ shaS t k j < 4294967296 := by
  cases k with
  | zero => exact firstF_range j
  | succ k => simp only [shaS, blk]; omega
end Go.Proofs.YtghghkfhcpldhaaDoor.Sh
