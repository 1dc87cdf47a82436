/- Texts put together: SoSwapT, SoRotT. -/
import Derived.Test.YtmkpakhpjgocjaaFs0
/- The walks of a stable sort's helpers at turns: two rows that change places, and two parts that are turned round. -/
namespace Go.Proofs.Ytmkpakhpjgocjaa.So
open Go.RowKit Go.Sort Go.Proofs

set_option maxRecDepth 100000 in
set_option maxHeartbeats 2000000 in
theorem swapRange_T (T : Nat → ByteArray) (blk cap a b n : Nat) (d : Array Nat) (w : World) (cv : Value) (hH : HoldsK (encT T) 2 w blk 0 d) (hblk : blk < w.heap.size) (hab : a + n ≤ b) (hb : b + n ≤ d.size) (hsz : d.size ≤ 1048576) :
    Calls Try.prog 177 #[.slice (some ⟨blk, 0, none⟩) d.size cap, .int .i64 a, .int .i64 b, .int .i64 n, cv] w fun e w' =>
      e = .returned (.tuple #[]) ∧ ∃ m d', w' = sortWorldK (encT T) 2 w blk 0 m d' #[] ∧ d'.size = d.size ∧ dF d' = swpR a b n (dF d) := by
  have HST := hideO (world_self hH)
  have HH := hideO hH
  clear hH
  obtain ⟨z, hz⟩ : ∃ z, z = d.size := ⟨_, rfl⟩
  have HZ := hideO hz
  rw [← hz] at hb hsz ⊢
  clear hz
  go_enter Try.func177, Try.ntmps177
  go_wp2_with fail
  go_loopw [10] (fun i wr => ∃ (k m : Nat) (dk : Array Nat), i = .int .i64 k ∧ k ≤ n ∧ dk.size = z ∧ dF dk = swpR a b k (dF d) ∧ wr = sortWorldK (encT T) 2 w blk 0 m dk #[]) (fun i _ => n - (intOf i).toNat)
  case atStart => exact ⟨0, 0, d, rfl, Nat.zero_le _, HZ.out.symm, (swpR_zero a b (dF d)).symm, HST.out⟩
  case round =>
    obtain ⟨k, m, dk, rfl, hk, hsk, hfk, hwr⟩ := hrel
    have HF := hideO hfk
    have HSK := hideO hsk
    have HHk := hideO (world_holds HH.out hblk (m + 1) dk #[] (by rw [hsk, HZ.out]))
    have HW := hideO hwr
    have hdr : wr.drew = sortWorldK (encT T) 2 w blk 0 (m + 1) dk #[] := by rw [hwr]; rfl
    have HDR := hideO hdr
    clear hfk hwr
    by_cases hlt : k < n
    · obtain ⟨p, hp⟩ : ∃ p, p = a + k := ⟨_, rfl⟩
      obtain ⟨q, hq⟩ : ∃ q, q = b + k := ⟨_, rfl⟩
      have ep : (a : Int) + (k : Int) = (p : Int) := by omega
      have eq : (b : Int) + (k : Int) = (q : Int) := by omega
      have hpz : p < z := by omega
      have hqz : q < z := by omega
      have hpq : p < q := by omega
      have HPQ : Hid (p = a + k ∧ q = b + k) := ⟨hp, hq⟩
      obtain ⟨x, hx⟩ : ∃ x, x = dk[p]! := ⟨_, rfl⟩
      obtain ⟨y, hy⟩ : ∃ y, y = dk[q]! := ⟨_, rfl⟩
      have hd : wr.drew = sortWorldK (encT T) 2 w blk 0 (m + 1) dk #[] := hdr
      have hHd : HoldsK (encT T) 2 wr blk 0 dk := by
        have : HoldsK (encT T) 2 wr.drew blk 0 dk := by rw [hd]; exact HHk.out
        exact this
      have hsw : ((wr.drew.setCells blk (0 + p * 2) (encT T y)).setCells blk (0 + q * 2) (encT T x)) = sortWorldK (encT T) 2 w blk 0 (m + 1) (Go.Sort.swp dk p q) #[] := by
        rw [HW.out, hx, hy]
        exact sortWorldK_swp_c (encT T) 2 w blk 0 (encT_len T) m dk #[] hblk p q (by omega) (by omega)
      rw [Nat.zero_add, Nat.zero_add] at hsw
      obtain ⟨x0c, x0f, x1c, x1f⟩ := cells_T hHd (i := p) (by omega)
      obtain ⟨y0c, y0f, y1c, y1f⟩ := cells_T hHd (i := q) (by omega)
      rw [← hx] at x0c x1c
      rw [← hy] at y0c y1c
      have hpw : IntKind.i64.wrap (p : Int) = (p : Int) := by rw [IntKind.wrap_i64]; omega
      have hqw : IntKind.i64.wrap (q : Int) = (q : Int) := by rw [IntKind.wrap_i64]; omega
      have hpz' : (p : Int) < (z : Int) := by omega
      have hqz' : (q : Int) < (z : Int) := by omega
      have HSW := hideO hsw
      have HXY : Hid (x = dk[p]! ∧ y = dk[q]!) := ⟨hx, hy⟩
      have HNX : Hid (So.swp (swpR a b k (dF d)) p q = swpR a b (k + 1) (dF d)) := by
        unfold Hid
        rw [hp, hq]
        exact swpR_next a b k (dF d) (by omega)
      clear hd hdr hx hy hp hq hsk hHd hsw
      go_wp2_with fail
      go_region
      all_goals (try go_wp2_with fail)
      all_goals go_roundw
      case rel =>
        refine ⟨k + 1, m + 1, Go.Sort.swp dk p q, by go_num, by omega, by rw [Go.Sort.size_swp]; exact HSK.out, ?_, HSW.out⟩
        rw [dF_swp dk p q (by have := HSK.out; omega) (by have := HSK.out; omega), HF.out]
        exact HNX.out
      case measure => simp [intOf]; omega
    · obtain rfl : k = n := by omega
      clear hdr hsk
      go_wp2_with fail
      refine bodyPost_end (v := .tuple #[]) (by simp [results, Try.results177, go_sem]) rfl ⟨rfl, m, dk, HW.out, HSK.out, HF.out⟩
end Go.Proofs.Ytmkpakhpjgocjaa.So

/- The walk of a stable sort's rotation at turns. -/
namespace Go.Proofs.Ytmkpakhpjgocjaa.So
open Go.RowKit Go.Sort Go.Proofs

set_option maxRecDepth 100000 in
set_option maxHeartbeats 600000 in
theorem rotate_T (T : Nat → ByteArray) (blk cap a m b : Nat) (d : Array Nat) (w : World) (cv : Value) (hH : HoldsK (encT T) 2 w blk 0 d) (hblk : blk < w.heap.size) (ham : a < m) (hmb : m < b) (hb : b ≤ d.size) (hsz : d.size ≤ 1048576) :
    Calls Try.prog 173 #[.slice (some ⟨blk, 0, none⟩) d.size cap, .int .i64 a, .int .i64 m, .int .i64 b, cv] w fun e w' =>
      e = .returned (.tuple #[]) ∧ ∃ n d', w' = sortWorldK (encT T) 2 w blk 0 n d' #[] ∧ d'.size = d.size ∧ dF d' = rotF a m b (dF d) := by
  have HST := hideO (world_self hH)
  have HH := hideO hH
  clear hH
  obtain ⟨z, hz⟩ : ∃ z, z = d.size := ⟨_, rfl⟩
  have HZ := hideO hz
  rw [← hz] at hb hsz ⊢
  clear hz
  have HC := hideO (fun (n : Nat) (dk : Array Nat) (hs : dk.size = z) (p q l : Nat) (h1 : p + l ≤ q) (h2 : q + l ≤ z) =>
    swapRange_T T blk cap p q l dk (sortWorldK (encT T) 2 w blk 0 n dk #[]) cv (world_holds HH.out hblk n dk #[] (hs.trans HZ.out)) (Nat.lt_of_lt_of_le hblk (world_size n dk #[])) h1 (by rw [hs]; exact h2) (by rw [hs]; exact hsz))
  have HWW := hideO (fun (n n' : Nat) (dk d' : Array Nat) (hs : d'.size = dk.size) => world_world (enc := encT T) (k := 2) (w := w) (blk := blk) (off := 0) n n' dk d' #[] #[] hblk hs)
  obtain ⟨i0, hi0⟩ : ∃ i0, i0 = m - a := ⟨_, rfl⟩
  obtain ⟨j0, hj0⟩ : ∃ j0, j0 = b - m := ⟨_, rfl⟩
  have h1 : ((m : Int) - (a : Int)) = (i0 : Int) := by omega
  have h2 : ((b : Int) - (m : Int)) = (j0 : Int) := by omega
  have HIJ : Hid (i0 = m - a ∧ j0 = b - m) := ⟨hi0, hj0⟩
  clear hi0 hj0
  go_enter Try.func173, Try.ntmps173
  go_wp2_with fail
  clear h1 h2
  go_loopw [10, 11] (fun u v wr => ∃ (i j n : Nat) (dk : Array Nat), u = .int .i64 i ∧ v = .int .i64 j ∧ 0 < i ∧ 0 < j ∧ i ≤ m - a ∧ j ≤ b - m ∧ dk.size = z ∧ rotF (m - i) m (m + j) (dF dk) = rotF a m b (dF d) ∧ wr = sortWorldK (encT T) 2 w blk 0 n dk #[]) (fun u v _ => (intOf u).toNat + (intOf v).toNat)
  case atStart => 
    have hij := HIJ.out
    exact ⟨i0, j0, 0, d, rfl, rfl, by omega, by omega, by omega, by omega, HZ.out.symm, by rw [hij.1, hij.2, show m - (m - a) = a by omega, show m + (b - m) = b by omega], HST.out⟩
  case round =>
    obtain ⟨i, j, n, dk, rfl, rfl, hi, hj, hia, hjb, hsk, hrot, hwr⟩ := hrel
    have HR := hideO hrot
    have HSK := hideO hsk
    have HW := hideO hwr
    have HCk := hideO (fun p q l h1 h2 => HC.out n dk hsk p q l h1 h2)
    rw [← hwr, hsk] at HCk
    obtain ⟨p, hp⟩ : ∃ p, p = m - i := ⟨_, rfl⟩
    have e1 : (m : Int) - (i : Int) = (p : Int) := by omega
    rw [← hp] at HR
    have HP := hideO hp
    clear hrot hsk hwr hp
    by_cases hij : i = j
    · subst hij
      have hne : ((i : Int) != (i : Int)) = false := by simp
      have HCC := hideO (HCk.out p m i (by have := HP.out; omega) (by omega))
      go_wp2_with fail
      refine HCC.out.mono ?_
      rintro e w' ⟨rfl, n', d', hw', hs', hf'⟩
      have HX : Hid (w' = sortWorldK (encT T) 2 w blk 0 (n + n') d' #[]) := by
        unfold Hid
        rw [hw', HW.out, HWW.out n n' dk d' (hs'.trans HSK.out.symm)]
        rfl
      have HF : Hid (dF d' = rotF a m b (dF d)) := by
        unfold Hid
        rw [hf', HP.out, rot_even m i (dF dk) (by omega), ← HR.out, HP.out]
      have HS' := hideO hs'
      clear hw' hs' hf'
      go_wp2_with fail
      refine bodyPost_end (v := .tuple #[]) (by simp [results, Try.results173, go_sem]) rfl ⟨rfl, n + n', d', HX.out, HS'.out, HF.out⟩
    · have hne : ((i : Int) != (j : Int)) = true := by simp; omega
      have HNE := hideO hij
      clear hij
      by_cases hlt : j < i
      · have hlt' : (j : Int) < (i : Int) := by omega
        obtain ⟨r, hr⟩ : ∃ r, r = i - j := ⟨_, rfl⟩
        have e2 : (i : Int) - (j : Int) = (r : Int) := by omega
        have HRR := hideO hr
        clear hr
        have HCC := hideO (HCk.out p m j (by have := HP.out; omega) (by omega))
        go_wp2_with fail
        refine HCC.out.mono ?_
        rintro e w' ⟨rfl, n', d', hw', hs', hf'⟩
        have HX : Hid (w' = sortWorldK (encT T) 2 w blk 0 (n + n') d' #[]) := by
          unfold Hid
          rw [hw', HW.out, HWW.out n n' dk d' (hs'.trans HSK.out.symm)]
          rfl
        have HF : Hid (rotF (m - r) m (m + j) (dF d') = rotF a m b (dF d)) := by
          unfold Hid
          rw [hf', HRR.out, HP.out, rot_long m i j (dF dk) hlt (by omega), ← HR.out, HP.out]
        have HS' := hideO hs'
        clear hw' hs' hf'
        go_wp2_with fail
        go_roundw
        case rel => exact ⟨r, j, n + n', d', rfl, rfl, by have := HRR.out; omega, hj, by have := HRR.out; omega, hjb, HS'.out, HF.out, HX.out⟩
        case measure => have := HRR.out; simp [intOf]; omega
      · have hlt' : ¬ (j : Int) < (i : Int) := by omega
        obtain ⟨r, hr⟩ : ∃ r, r = j - i := ⟨_, rfl⟩
        have e2 : (j : Int) - (i : Int) = (r : Int) := by omega
        have HRR := hideO hr
        obtain ⟨q, hq⟩ : ∃ q, q = m + j - i := ⟨_, rfl⟩
        have e3 : (m : Int) + (j : Int) - (i : Int) = (q : Int) := by omega
        have HQ := hideO hq
        clear hr hq
        have HCC := hideO (HCk.out p q i (by have := HP.out; have := HQ.out; omega) (by have := HQ.out; omega))
        go_wp2_with fail
        refine HCC.out.mono ?_
        rintro e w' ⟨rfl, n', d', hw', hs', hf'⟩
        have HX : Hid (w' = sortWorldK (encT T) 2 w blk 0 (n + n') d' #[]) := by
          unfold Hid
          rw [hw', HW.out, HWW.out n n' dk d' (hs'.trans HSK.out.symm)]
          rfl
        have HF : Hid (rotF (m - i) m (m + r) (dF d') = rotF a m b (dF d)) := by
          unfold Hid
          rw [hf', HRR.out, HP.out, HQ.out, rot_short m i j (dF dk) (by have := HNE.out; omega) (by omega), ← HR.out, HP.out]
        have HS' := hideO hs'
        clear hw' hs' hf'
        go_wp2_with fail
        go_roundw
        case rel => exact ⟨i, r, n + n', d', rfl, rfl, hi, by have := HRR.out; have := HNE.out; omega, hia, by have := HRR.out; omega, HS'.out, HF.out, HX.out⟩
        case measure => have := HRR.out; simp [intOf]; omega
end Go.Proofs.Ytmkpakhpjgocjaa.So
