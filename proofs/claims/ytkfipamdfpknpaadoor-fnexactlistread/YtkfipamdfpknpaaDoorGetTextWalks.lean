/- The walk of impl.GetText: it answers Gn.textV of its text and place, and writes nothing that was there. -/
import Derived.Test.YtkfipamdfpknpaaDoorGetNumWalks
import Derived.Test.YtkfipamdfpknpaaDoorCutWalks
import Derived.RegionTactic
import Derived.BigRegion
namespace Go.Proofs.YtkfipamdfpknpaaDoor.Gn
open Go.RowKit

/-- the text, the place behind it, the code -/
def rt (s : ByteArray) (a : Int) : ByteArray × Nat × Int :=
  if (rd s a).2.2 ≠ 0 then (⟨#[]⟩, 0, (rd s a).2.2)
  else if (rd s a).1 < 0 ∨ 8000 < (rd s a).1 then (⟨#[]⟩, 0, 3)
  else if s.size < (rd s a).2.1 + (rd s a).1.toNat then (⟨#[]⟩, 0, 4)
  else (s.extract (rd s a).2.1 ((rd s a).2.1 + (rd s a).1.toNat), (rd s a).2.1 + (rd s a).1.toNat, 0)

def outT (t : ByteArray) (at_ code : Int) : Value := .agg #[.string t, .int .i64 at_, .int .i64 code]
def textV (s : ByteArray) (a : Int) : Value := outT (rt s a).1 (rt s a).2.1 (rt s a).2.2

theorem rd_place (s : ByteArray) (a : Int) (h : (rd s a).2.2 = 0) : s.size ≤ 8000 ∧ (rd s a).2.1 ≤ s.size := by
  unfold rd at h ⊢
  split at h
  · exact absurd h (by decide)
  · split at h
    · exact absurd h (by decide)
    · rename_i h1 h2
      rw [if_neg h1, if_neg h2]
      exact ⟨by omega, run_place s 10 0 a.toNat 0⟩

theorem rt_bad (s : ByteArray) (a n : Int) (p : Nat) (c : Int) (hr : rd s a = (n, p, c)) (h : ¬ c = 0) : rt s a = (⟨#[]⟩, 0, c) := by
  unfold rt; rw [hr]; exact if_pos h
theorem rt_size (s : ByteArray) (a n : Int) (p : Nat) (hr : rd s a = (n, p, 0)) (h : n < 0 ∨ 8000 < n) : rt s a = (⟨#[]⟩, 0, 3) := by
  unfold rt; rw [hr]; exact (if_neg (by simp)).trans (if_pos h)
theorem rt_short (s : ByteArray) (a : Int) (m p : Nat) (hr : rd s a = ((m : Int), p, 0)) (h8 : m ≤ 8000) (h : s.size < p + m) : rt s a = (⟨#[]⟩, 0, 4) := by
  unfold rt; rw [hr]; exact (if_neg (by simp)).trans ((if_neg (by show ¬ ((m : Int) < 0 ∨ 8000 < (m : Int)); omega)).trans (if_pos h))
theorem rt_ok (s : ByteArray) (a : Int) (m p : Nat) (hr : rd s a = ((m : Int), p, 0)) (h8 : m ≤ 8000) (h : ¬ s.size < p + m) : rt s a = (s.extract p (p + m), p + m, 0) := by
  unfold rt; rw [hr]; exact (if_neg (by simp)).trans ((if_neg (by show ¬ ((m : Int) < 0 ∨ 8000 < (m : Int)); omega)).trans (if_neg h))

theorem getV_of (s : ByteArray) (a n : Int) (p : Nat) (c : Int) (hr : rd s a = (n, p, c)) : getV s a = if c = 0 then outN n p 0 else outN 0 0 c := by
  rw [getV_rd, hr]

theorem textV_of (s : ByteArray) (a : Int) (t : ByteArray) (p : Nat) (c : Int) (h : rt s a = (t, p, c)) : textV s a = outT t p c := by
  unfold textV; rw [h]

/-- what readText reads, as a tuple -/
def tupV (r : ByteArray × Nat × Int) : Value := .tuple #[.string r.1, .int .i64 r.2.1, errV r.2.2]

set_option maxRecDepth 100000 in
set_option maxHeartbeats 1000000 in
theorem readText_any (s : ByteArray) (a : Int) (w : World) (hs : s.size ≤ maxLen) :
    Calls Tryd.prog 58 #[.string s, .int .i64 a] w fun e w' => e = .returned (tupV (rt s a)) ∧ Below w.heap.size w w' := by
  obtain ⟨⟨n, p, c⟩, hr⟩ : ∃ r, rd s a = r := ⟨_, rfl⟩
  have HR := hide hr
  by_cases h0 : c = 0
  · subst h0
    obtain ⟨hs8, hp⟩ := rd_place s a (by rw [hr])
    rw [hr] at hp
    simp only at hp
    by_cases hn : n < 0 ∨ 8000 < n
    · have HT := hide (rt_size s a n p hr hn)
      clear hr
      by_cases hneg : n < 0
      · clear hn
        go_enter Tryd.func58, Tryd.ntmps58
        go_wp2_with fail
        refine (read_any s a _ hs).mono ?_
        rw [HR.out]
        simp only [errV, if_pos]
        rintro e w' ⟨rfl, hw⟩
        subst w'
        go_wp2
        go_ret3
        exact ⟨by rw [HT.out]; rfl, Below.refl _ _⟩
      · have hbig : (8000 : Int) < n := by omega
        clear hn
        go_enter Tryd.func58, Tryd.ntmps58
        go_wp2_with fail
        refine (read_any s a _ hs).mono ?_
        rw [HR.out]
        simp only [errV, if_pos]
        rintro e w' ⟨rfl, hw⟩
        subst w'
        go_wp2
        go_ret3
        exact ⟨by rw [HT.out]; rfl, Below.refl _ _⟩
    · obtain ⟨m, rfl⟩ := Int.eq_ofNat_of_zero_le (show 0 ≤ n from by omega)
      have hm8 : m ≤ 8000 := by omega
      have hnb : ¬ ((8000 : Int) < m) := by omega
      by_cases hl : s.size < p + m
      · have HT := hide (rt_short s a m p hr hm8 hl)
        clear hn hr
        go_enter Tryd.func58, Tryd.ntmps58
        go_wp2_with fail
        refine (read_any s a _ hs).mono ?_
        rw [HR.out]
        simp only [errV, if_pos]
        rintro e w' ⟨rfl, hw⟩
        subst w'
        go_wp2
        go_ret3
        exact ⟨by rw [HT.out]; rfl, Below.refl _ _⟩
      · have HT := hide (rt_ok s a m p hr hm8 hl)
        clear hn hr
        go_enter Tryd.func58, Tryd.ntmps58
        go_wp2_with fail
        refine (read_any s a _ hs).mono ?_
        rw [HR.out]
        simp only [errV, if_pos]
        rintro e w' ⟨rfl, hw⟩
        subst w'
        go_wp2_with fail
        refine (Nu.cut_any s p (p + m) _ (by omega) (by omega) (by omega)).mono ?_
        rintro e w1 ⟨rfl, hb1⟩
        go_wp2
        go_ret3
        exact ⟨by rw [HT.out]; rfl, hb1⟩
  · have HT := hide (rt_bad s a n p c hr h0)
    have H0 := hide h0
    go_enter Tryd.func58, Tryd.ntmps58
    go_wp2_with fail
    refine (read_any s a _ hs).mono ?_
    rw [HR.out]
    simp only [errV, if_neg h0]
    clear hr h0
    rintro e w' ⟨rfl, hw⟩
    subst w'
    go_wp2
    go_ret3
    exact ⟨by rw [HT.out]; simp only [tupV, errV, if_neg H0.out]; rfl, Below.refl _ _⟩

theorem rt_codes (s : ByteArray) (a : Int) (h : ¬ (rt s a).2.2 = 0) : (rt s a).1 = ⟨#[]⟩ ∧ (rt s a).2.1 = 0 := by
  unfold rt at h ⊢
  split at h
  · rename_i h1; rw [if_pos h1]; exact ⟨rfl, rfl⟩
  · rename_i h1
    rw [if_neg h1]
    split at h
    · rename_i h2; rw [if_pos h2]; exact ⟨rfl, rfl⟩
    · rename_i h2
      rw [if_neg h2]
      split at h
      · rename_i h3; rw [if_pos h3]; exact ⟨rfl, rfl⟩
      · exact absurd rfl h

set_option maxHeartbeats 1000000 in
theorem text_impl (s : ByteArray) (a : Int) (w : World) (hs : s.size ≤ maxLen) (hg : w.cell? ⟨1, 0, none⟩ = some handle) :
    Calls Tryd.prog 39 #[.string s, .int .i64 a] w fun e w' => e = .returned (textV s a) ∧ Below w.heap.size w w' := by
  have HG := hide hg
  clear hg
  obtain ⟨⟨t, p, c⟩, hr⟩ : ∃ r, rt s a = r := ⟨_, rfl⟩
  have HR := hide hr
  by_cases h0 : c = 0
  · subst h0
    have HT := hide (textV_of s a t p 0 hr)
    clear hr
    go_enter Tryd.func39, Tryd.ntmps39
    go_wp2_with fail
    refine (readText_any s a _ hs).mono ?_
    rw [HR.out]
    simp only [tupV, errV, if_pos]
    rintro e w1 ⟨rfl, hb1⟩
    obtain ⟨hc1, hf1⟩ := bcell hb1
    go_wp2
    refine bodyPost_ret (v := outT t p 0) (by simp [results, outT, Tryd.results39, go_sem, hc1]) rfl ⟨by rw [HT.out], ?_⟩
    exact ((((Below.refl w.heap.size w).alloc (Nat.le_refl _) _).trans (hb1.mono (by simp))).setCell (Nat.le_refl _) _ |>.setCell (Nat.le_refl _) _).setCell (Nat.le_refl _) _
  · have hz := rt_codes s a (by rw [hr]; exact h0)
    rw [hr] at hz
    simp only at hz
    obtain ⟨rfl, rfl⟩ := hz
    have HT := hide (textV_of s a _ _ c hr)
    clear hr
    go_enter Tryd.func39, Tryd.ntmps39
    go_wp2_with fail
    refine (readText_any s a _ hs).mono ?_
    rw [HR.out]
    simp only [tupV, errV, if_neg h0]
    clear h0
    rintro e w1 ⟨rfl, hb1⟩
    obtain ⟨hc1, hf1⟩ := bcell hb1
    have hz1 : w.heap.size < w1.heap.size := by have := hb1.size; simp at this; omega
    have HB1 := hide (((Below.refl w.heap.size w).alloc (Nat.le_refl _) _).trans (hb1.mono (by simp)))
    go_wp2_with fail
    refine (code_any c _ (handle_below HB1.out HG.out)).mono ?_
    rintro e w2 ⟨rfl, hb2⟩
    obtain ⟨hc2, hf2⟩ := bcell hb2
    go_wp2
    refine bodyPost_ret (v := outT ⟨#[]⟩ 0 c) (by simp [results, outT, Tryd.results39, go_sem, hc1, hc2, hz1]) rfl ⟨by rw [HT.out]; rfl, ?_⟩
    exact ((((HB1.out).trans (hb2.mono HB1.out.size)).setCell (Nat.le_refl _) _).setCell (Nat.le_refl _) _).setCell (Nat.le_refl _) _
end Go.Proofs.YtkfipamdfpknpaaDoor.Gn
