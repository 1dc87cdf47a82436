/- Plain mathematics of the row of all bytes: a byte is brought to its front, and looked for. -/
import Derived.Test.YtdnmbagdegbnfaaZeroPlain
import Derived.Test.YtdnmbagdegbnfaaShaRow
namespace Go.Proofs.Ytdnmbagdegbnfaa.Fr
open Go.RowKit
open Go.Proofs.Ytdnmbagdegbnfaa.Sh (upd)
open Go.Proofs.Ytdnmbagdegbnfaa.Ze (numsR hideZ)

/-- what is at a place comes to the front -/
def front (f : Nat → Int) (k : Nat) : Nat → Int := fun j => if j = 0 then f k else if j ≤ k then f (j - 1) else f j
/-- the row as it is at first -/
def row0 : Nat → Int := fun j => (j : Int)
/-- where a byte is, first of all -/
def look (f : Nat → Int) (c : Int) : Nat := (List.range 256).findIdx fun k => f k == c
/-- every byte is in the row; nothing else is -/
def Full (f : Nat → Int) : Prop := (∀ c : Nat, c < 256 → ∃ k, k < 256 ∧ f k = c) ∧ ∀ k, k < 256 → 0 ≤ f k ∧ f k < 256
theorem full0 : Full row0 := ⟨fun c h => ⟨c, h, rfl⟩, fun k h => by unfold row0; omega⟩
theorem front_zero (f : Nat → Int) (k : Nat) : front f k 0 = f k := if_pos rfl
theorem front_low (f : Nat → Int) (k j : Nat) (h0 : j ≠ 0) (h : j ≤ k) : front f k j = f (j - 1) := by
  unfold front
  rw [if_neg h0, if_pos h]
theorem front_high (f : Nat → Int) (k j : Nat) (h : k < j) : front f k j = f j := by
  unfold front
  rw [if_neg (by omega), if_neg (by omega)]
theorem Full.front {f : Nat → Int} (h : Full f) (k : Nat) (hk : k < 256) : Full (front f k) := by
  refine ⟨fun c hc => ?_, fun j hj => ?_⟩
  · obtain ⟨i, hi, e⟩ := h.1 c hc
    rcases Nat.lt_trichotomy i k with hl | hl | hl
    · exact ⟨i + 1, by omega, by rw [front_low f k (i + 1) (by omega) (by omega)]; exact e⟩
    · exact ⟨0, by omega, by rw [front_zero, ← hl]; exact e⟩
    · exact ⟨i, hi, by rw [front_high f k i hl]; exact e⟩
  · by_cases h0 : j = 0
    · subst h0; rw [front_zero]; exact h.2 k hk
    · by_cases h1 : j ≤ k
      · rw [front_low f k j h0 h1]; exact h.2 (j - 1) (by omega)
      · rw [front_high f k j (by omega)]; exact h.2 j hj
theorem look_of {f : Nat → Int} {c : Int} {k : Nat} (hk : k < 256) (h : f k = c) (hn : ∀ i, i < k → f i ≠ c) : look f c = k := by
  unfold look
  rw [List.findIdx_eq (by simpa using hk)]
  refine ⟨by simpa using h, fun j hj => by
    simpa using hn j hj⟩
theorem find_get (N : Nat) (p : Nat → Bool) (h : (List.range N).findIdx p < (List.range N).length) : p ((List.range N).findIdx p) = true := by
  have h1 := List.findIdx_getElem (xs := List.range N) (p := p) (w := h)
  have h2 : (List.range N)[(List.range N).findIdx p] = (List.range N).findIdx p := List.getElem_range h
  rw [h2] at h1
  exact h1
theorem look_some {f : Nat → Int} (hf : Full f) {c : Nat} (hc : c < 256) : look f c < 256 ∧ f (look f c) = c ∧ ∀ i, i < look f c → f i ≠ c := by
  obtain ⟨k, hk, e⟩ := hf.1 c hc
  have hlt : look f c < (List.range 256).length := by
    unfold look
    rw [List.findIdx_lt_length]
    exact ⟨k, by simpa using hk, by simpa using e⟩
  have h1 : look f c < 256 := by simpa using hlt
  refine ⟨h1, ?_, fun i hi => ?_⟩
  · exact beq_iff_eq.1 (find_get 256 (fun k => f k == (c : Int)) hlt)
  · have h2 : i < (List.range 256).findIdx fun k => f k == (c : Int) := hi
    have := List.not_of_lt_findIdx h2
    simpa using this

/-- the places told of the first bytes, and the row behind them -/
def fstep (s : List Int × (Nat → Int)) (c : UInt8) : List Int × (Nat → Int) := (s.1 ++ [(look s.2 c.toNat : Int)], front s.2 (look s.2 c.toNat))
def fst' (l : List UInt8) : List Int × (Nat → Int) := l.foldl fstep ([], row0)
theorem takeB {α : Type} {l : List α} {k : Nat} (h : k < l.length) : l.take (k + 1) = l.take k ++ [l[k]] := List.take_succ_eq_append_getElem h
theorem fst_more {l : List UInt8} {k : Nat} (h : k < l.length) : fst' (l.take (k + 1)) = ((fst' (l.take k)).1 ++ [(look (fst' (l.take k)).2 l[k].toNat : Int)], front (fst' (l.take k)).2 (look (fst' (l.take k)).2 l[k].toNat)) := by
  unfold fst'
  rw [takeB h, List.foldl_append]
  rfl
theorem fst_full (l : List UInt8) : ∀ k, k ≤ l.length → Full (fst' (l.take k)).2 ∧ (fst' (l.take k)).1.length = k := by
  intro k
  induction k with
  | zero => intro _; exact ⟨full0, rfl⟩
  | succ k ih =>
    intro hk
    obtain ⟨h1, h2⟩ := ih (by omega)
    rw [fst_more hk]
    refine ⟨h1.front _ (look_some h1 (c := l[k].toNat) (UInt8.toNat_lt _)).1, ?_⟩
    simp [h2]
/-- FrontOf -/
def frontR (l : List UInt8) : List Int := if l.length ≤ 400 then (fst' l).1 else []
theorem frontR_yes {l : List UInt8} (h : l.length ≤ 400) : frontR l = (fst' l).1 := if_pos h
theorem frontR_no {l : List UInt8} (h : 400 < l.length) : frontR l = [] := if_neg (by omega)
theorem frontR_len (l : List UInt8) : (frontR l).length ≤ 400 := by
  by_cases h : l.length ≤ 400
  · rw [frontR_yes h]
    have := (fst_full l l.length (Nat.le_refl _)).2
    rw [List.take_length] at this
    omega
  · rw [frontR_no (by omega)]
    exact Nat.zero_le _

/-- the bytes told by the first places, and the row behind them -/
def kstep (s : List UInt8 × (Nat → Int)) (n : Int) : List UInt8 × (Nat → Int) := (s.1 ++ [UInt8.ofNat (s.2 n.toNat).toNat], front s.2 n.toNat)
def kst (l : List Int) : List UInt8 × (Nat → Int) := l.foldl kstep ([], row0)
theorem kst_more {l : List Int} {k : Nat} (h : k < l.length) : kst (l.take (k + 1)) = ((kst (l.take k)).1 ++ [UInt8.ofNat ((kst (l.take k)).2 l[k].toNat).toNat], front (kst (l.take k)).2 l[k].toNat) := by
  unfold kst
  rw [takeB h, List.foldl_append]
  rfl
theorem kst_full (l : List Int) (hl : ∀ x ∈ l, 0 ≤ x ∧ x ≤ 255) : ∀ k, k ≤ l.length → Full (kst (l.take k)).2 ∧ (kst (l.take k)).1.length = k := by
  intro k
  induction k with
  | zero => intro _; exact ⟨full0, rfl⟩
  | succ k ih =>
    intro hk
    obtain ⟨h1, h2⟩ := ih (by omega)
    have := hl _ (List.getElem_mem (l := l) (n := k) hk)
    rw [kst_more hk]
    refine ⟨h1.front _ (by omega), ?_⟩
    simp [h2]
/-- FrontBack -/
def fbackR (l : List Int) : List UInt8 := if numsR l 255 = true then (kst l).1 else []
theorem fbackR_yes {l : List Int} (h : numsR l 255 = true) : fbackR l = (kst l).1 := if_pos h
theorem fbackR_no {l : List Int} (h : numsR l 255 = false) : fbackR l = [] := if_neg (by rw [h]; decide)

/-- what is told comes back -/
theorem kst_fst (l : List UInt8) : ∀ k, k ≤ l.length → kst (fst' (l.take k)).1 = (l.take k, (fst' (l.take k)).2) := by
  intro k
  induction k with
  | zero => intro _; rfl
  | succ k ih =>
    intro hk
    have hf := (fst_full l k (by omega)).1
    obtain ⟨h1, h2, _⟩ := look_some hf (c := l[k].toNat) (UInt8.toNat_lt _)
    rw [fst_more hk]
    simp only
    rw [kst, List.foldl_append]
    have e := ih (by omega)
    unfold kst at e
    rw [e]
    simp only [List.foldl_cons, List.foldl_nil, kstep]
    rw [takeB hk]
    congr 1
    · congr 1
      rw [Int.toNat_natCast, h2]
      simp
theorem front_back (l : List UInt8) (h : l.length ≤ 400) : fbackR (frontR l) = l := by
  have h0 := fst_full l l.length (Nat.le_refl _)
  have hk := kst_fst l l.length (Nat.le_refl _)
  rw [List.take_length] at h0 hk
  rw [frontR_yes h, fbackR_yes, hk]
  have hall : ∀ k, k ≤ l.length → ∀ x ∈ (fst' (l.take k)).1, 0 ≤ x ∧ x ≤ 255 := by
    intro k
    induction k with
    | zero => intro _ x hx; cases hx
    | succ k ih =>
      intro hk x hx
      have hf := (fst_full l k (by omega)).1
      obtain ⟨h1, _, _⟩ := look_some hf (c := l[k].toNat) (UInt8.toNat_lt _)
      rw [fst_more hk] at hx
      rcases List.mem_append.1 hx with hx | hx
      · exact ih (by omega) x hx
      · rw [List.mem_singleton.1 hx]
        omega
  have := hall l.length (Nat.le_refl _)
  rw [List.take_length] at this
  unfold numsR
  rw [decide_eq_true (by omega), Ze.upTo_of this]
  rfl
end Go.Proofs.Ytdnmbagdegbnfaa.Fr
