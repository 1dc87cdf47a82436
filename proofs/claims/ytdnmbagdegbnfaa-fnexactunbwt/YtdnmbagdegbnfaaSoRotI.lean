/- The walk of a stable sort's rotation at places. -/
import Derived.Test.YtdnmbagdegbnfaaSoSwapI
namespace Go.Proofs.Ytdnmbagdegbnfaa.So
open Go.RowKit Go.Sort Go.Proofs

set_option maxRecDepth 100000 in
set_option maxHeartbeats 600000 in
theorem rotate_I (blk cap a m b : Nat) (d : Array Nat) (w : World) (cv : Value) (hH : HoldsK encI 1 w blk 0 d) (hblk : blk < w.heap.size) (ham : a < m) (hmb : m < b) (hb : b ≤ d.size) (hsz : d.size ≤ 1048576) :
    Calls Try.prog 164 #[.slice (some ⟨blk, 0, none⟩) d.size cap, .int .i64 a, .int .i64 m, .int .i64 b, cv] w fun e w' =>
      e = .returned (.tuple #[]) ∧ ∃ n d', w' = sortWorldK encI 1 w blk 0 n d' #[] ∧ d'.size = d.size ∧ dF d' = rotF a m b (dF d) := by
  have HST := hideO (world_self hH)
  have HH := hideO hH
  clear hH
  obtain ⟨z, hz⟩ : ∃ z, z = d.size := ⟨_, rfl⟩
  have HZ := hideO hz
  rw [← hz] at hb hsz ⊢
  clear hz
  have HC := hideO (fun (n : Nat) (dk : Array Nat) (hs : dk.size = z) (p q l : Nat) (h1 : p + l ≤ q) (h2 : q + l ≤ z) =>
    swapRange_I blk cap p q l dk (sortWorldK encI 1 w blk 0 n dk #[]) cv (world_holds HH.out hblk n dk #[] (hs.trans HZ.out)) (Nat.lt_of_lt_of_le hblk (world_size n dk #[])) h1 (by rw [hs]; exact h2) (by rw [hs]; exact hsz))
  have HWW := hideO (fun (n n' : Nat) (dk d' : Array Nat) (hs : d'.size = dk.size) => world_world (enc := encI) (k := 1) (w := w) (blk := blk) (off := 0) n n' dk d' #[] #[] hblk hs)
  obtain ⟨i0, hi0⟩ : ∃ i0, i0 = m - a := ⟨_, rfl⟩
  obtain ⟨j0, hj0⟩ : ∃ j0, j0 = b - m := ⟨_, rfl⟩
  have h1 : ((m : Int) - (a : Int)) = (i0 : Int) := by omega
  have h2 : ((b : Int) - (m : Int)) = (j0 : Int) := by omega
  have HIJ : Hid (i0 = m - a ∧ j0 = b - m) := ⟨hi0, hj0⟩
  clear hi0 hj0
  go_enter Try.func164, Try.ntmps164
  go_wp2_with fail
  clear h1 h2
  go_loopw [10, 11] (fun u v wr => ∃ (i j n : Nat) (dk : Array Nat), u = .int .i64 i ∧ v = .int .i64 j ∧ 0 < i ∧ 0 < j ∧ i ≤ m - a ∧ j ≤ b - m ∧ dk.size = z ∧ rotF (m - i) m (m + j) (dF dk) = rotF a m b (dF d) ∧ wr = sortWorldK encI 1 w blk 0 n dk #[]) (fun u v _ => (intOf u).toNat + (intOf v).toNat)
  case atStart => 
    have hij := HIJ.out
    exact ⟨i0, j0, 0, d, rfl, rfl, by omega, by omega, by omega, by omega, HZ.out.symm, by rw [hij.1, hij.2, show m - (m - a) = a by omega, show m + (b - m) = b by omega], HST.out⟩
  case round =>
    obtain ⟨i, j, n, dk, rfl, rfl, hi, hj, hia, hjb, hsk, hrot, hwr⟩ := hrel
    have HR := hideO hrot
    have HSK := hideO hsk
    have HW := hideO hwr
    have HCk := hideO (fun p q l h1 h2 => HC.out n dk hsk p q l h1 h2)
    rw [← hwr, hsk] at HCk
    obtain ⟨p, hp⟩ : ∃ p, p = m - i := ⟨_, rfl⟩
    have e1 : (m : Int) - (i : Int) = (p : Int) := by omega
    rw [← hp] at HR
    have HP := hideO hp
    clear hrot hsk hwr hp
    by_cases hij : i = j
    · subst hij
      have hne : ((i : Int) != (i : Int)) = false := by simp
      have HCC := hideO (HCk.out p m i (by have := HP.out; omega) (by omega))
      go_wp2_with fail
      refine HCC.out.mono ?_
      rintro e w' ⟨rfl, n', d', hw', hs', hf'⟩
      have HX : Hid (w' = sortWorldK encI 1 w blk 0 (n + n') d' #[]) := by
        unfold Hid
        rw [hw', HW.out, HWW.out n n' dk d' (hs'.trans HSK.out.symm)]
        rfl
      have HF : Hid (dF d' = rotF a m b (dF d)) := by
        unfold Hid
        rw [hf', HP.out, rot_even m i (dF dk) (by omega), ← HR.out, HP.out]
      have HS' := hideO hs'
      clear hw' hs' hf'
      go_wp2_with fail
      refine bodyPost_end (v := .tuple #[]) (by simp [results, Try.results164, go_sem]) rfl ⟨rfl, n + n', d', HX.out, HS'.out, HF.out⟩
    · have hne : ((i : Int) != (j : Int)) = true := by simp; omega
      have HNE := hideO hij
      clear hij
      by_cases hlt : j < i
      · have hlt' : (j : Int) < (i : Int) := by omega
        obtain ⟨r, hr⟩ : ∃ r, r = i - j := ⟨_, rfl⟩
        have e2 : (i : Int) - (j : Int) = (r : Int) := by omega
        have HRR := hideO hr
        clear hr
        have HCC := hideO (HCk.out p m j (by have := HP.out; omega) (by omega))
        go_wp2_with fail
        refine HCC.out.mono ?_
        rintro e w' ⟨rfl, n', d', hw', hs', hf'⟩
        have HX : Hid (w' = sortWorldK encI 1 w blk 0 (n + n') d' #[]) := by
          unfold Hid
          rw [hw', HW.out, HWW.out n n' dk d' (hs'.trans HSK.out.symm)]
          rfl
        have HF : Hid (rotF (m - r) m (m + j) (dF d') = rotF a m b (dF d)) := by
          unfold Hid
          rw [hf', HRR.out, HP.out, rot_long m i j (dF dk) hlt (by omega), ← HR.out, HP.out]
        have HS' := hideO hs'
        clear hw' hs' hf'
        go_wp2_with fail
        go_roundw
        case rel => exact ⟨r, j, n + n', d', rfl, rfl, by have := HRR.out; omega, hj, by have := HRR.out; omega, hjb, HS'.out, HF.out, HX.out⟩
        case measure => have := HRR.out; simp [intOf]; omega
      · have hlt' : ¬ (j : Int) < (i : Int) := by omega
        obtain ⟨r, hr⟩ : ∃ r, r = j - i := ⟨_, rfl⟩
        have e2 : (j : Int) - (i : Int) = (r : Int) := by omega
        have HRR := hideO hr
        obtain ⟨q, hq⟩ : ∃ q, q = m + j - i := ⟨_, rfl⟩
        have e3 : (m : Int) + (j : Int) - (i : Int) = (q : Int) := by omega
        have HQ := hideO hq
        clear hr hq
        have HCC := hideO (HCk.out p q i (by have := HP.out; have := HQ.out; omega) (by have := HQ.out; omega))
        go_wp2_with fail
        refine HCC.out.mono ?_
        rintro e w' ⟨rfl, n', d', hw', hs', hf'⟩
        have HX : Hid (w' = sortWorldK encI 1 w blk 0 (n + n') d' #[]) := by
          unfold Hid
          rw [hw', HW.out, HWW.out n n' dk d' (hs'.trans HSK.out.symm)]
          rfl
        have HF : Hid (rotF (m - i) m (m + r) (dF d') = rotF a m b (dF d)) := by
          unfold Hid
          rw [hf', HRR.out, HP.out, HQ.out, rot_short m i j (dF dk) (by have := HNE.out; omega) (by omega), ← HR.out, HP.out]
        have HS' := hideO hs'
        clear hw' hs' hf'
        go_wp2_with fail
        go_roundw
        case rel => exact ⟨i, r, n + n', d', rfl, rfl, hi, by have := HRR.out; have := HNE.out; omega, hia, by have := HRR.out; omega, HS'.out, HF.out, HX.out⟩
        case measure => have := HRR.out; simp [intOf]; omega
end Go.Proofs.Ytdnmbagdegbnfaa.So
