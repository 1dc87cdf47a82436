/- The walks of a stable sort's helpers at turns: two rows that change places, and two parts that are turned round. -/
import Derived.Test.YtdnmbagdegbnfaaSoRow
namespace Go.Proofs.Ytdnmbagdegbnfaa.So
open Go.RowKit Go.Sort Go.Proofs

set_option maxRecDepth 100000 in
set_option maxHeartbeats 2000000 in
theorem swapRange_T (T : Nat → ByteArray) (blk cap a b n : Nat) (d : Array Nat) (w : World) (cv : Value) (hH : HoldsK (encT T) 2 w blk 0 d) (hblk : blk < w.heap.size) (hab : a + n ≤ b) (hb : b + n ≤ d.size) (hsz : d.size ≤ 1048576) :
    Calls Try.prog 163 #[.slice (some ⟨blk, 0, none⟩) d.size cap, .int .i64 a, .int .i64 b, .int .i64 n, cv] w fun e w' =>
      e = .returned (.tuple #[]) ∧ ∃ m d', w' = sortWorldK (encT T) 2 w blk 0 m d' #[] ∧ d'.size = d.size ∧ dF d' = swpR a b n (dF d) := by
  have HST := hideO (world_self hH)
  have HH := hideO hH
  clear hH
  obtain ⟨z, hz⟩ : ∃ z, z = d.size := ⟨_, rfl⟩
  have HZ := hideO hz
  rw [← hz] at hb hsz ⊢
  clear hz
  go_enter Try.func163, Try.ntmps163
  go_wp2_with fail
  go_loopw [10] (fun i wr => ∃ (k m : Nat) (dk : Array Nat), i = .int .i64 k ∧ k ≤ n ∧ dk.size = z ∧ dF dk = swpR a b k (dF d) ∧ wr = sortWorldK (encT T) 2 w blk 0 m dk #[]) (fun i _ => n - (intOf i).toNat)
  case atStart => exact ⟨0, 0, d, rfl, Nat.zero_le _, HZ.out.symm, (swpR_zero a b (dF d)).symm, HST.out⟩
  case round =>
    obtain ⟨k, m, dk, rfl, hk, hsk, hfk, hwr⟩ := hrel
    have HF := hideO hfk
    have HSK := hideO hsk
    have HHk := hideO (world_holds HH.out hblk (m + 1) dk #[] (by rw [hsk, HZ.out]))
    have HW := hideO hwr
    have hdr : wr.drew = sortWorldK (encT T) 2 w blk 0 (m + 1) dk #[] := by rw [hwr]; rfl
    have HDR := hideO hdr
    clear hfk hwr
    by_cases hlt : k < n
    · obtain ⟨p, hp⟩ : ∃ p, p = a + k := ⟨_, rfl⟩
      obtain ⟨q, hq⟩ : ∃ q, q = b + k := ⟨_, rfl⟩
      have ep : (a : Int) + (k : Int) = (p : Int) := by omega
      have eq : (b : Int) + (k : Int) = (q : Int) := by omega
      have hpz : p < z := by omega
      have hqz : q < z := by omega
      have hpq : p < q := by omega
      have HPQ : Hid (p = a + k ∧ q = b + k) := ⟨hp, hq⟩
      obtain ⟨x, hx⟩ : ∃ x, x = dk[p]! := ⟨_, rfl⟩
      obtain ⟨y, hy⟩ : ∃ y, y = dk[q]! := ⟨_, rfl⟩
      have hd : wr.drew = sortWorldK (encT T) 2 w blk 0 (m + 1) dk #[] := hdr
      have hHd : HoldsK (encT T) 2 wr blk 0 dk := by
        have : HoldsK (encT T) 2 wr.drew blk 0 dk := by rw [hd]; exact HHk.out
        exact this
      have hsw : ((wr.drew.setCells blk (0 + p * 2) (encT T y)).setCells blk (0 + q * 2) (encT T x)) = sortWorldK (encT T) 2 w blk 0 (m + 1) (Go.Sort.swp dk p q) #[] := by
        rw [HW.out, hx, hy]
        exact sortWorldK_swp_c (encT T) 2 w blk 0 (encT_len T) m dk #[] hblk p q (by omega) (by omega)
      rw [Nat.zero_add, Nat.zero_add] at hsw
      obtain ⟨x0c, x0f, x1c, x1f⟩ := cells_T hHd (i := p) (by omega)
      obtain ⟨y0c, y0f, y1c, y1f⟩ := cells_T hHd (i := q) (by omega)
      rw [← hx] at x0c x1c
      rw [← hy] at y0c y1c
      have hpw : IntKind.i64.wrap (p : Int) = (p : Int) := by rw [IntKind.wrap_i64]; omega
      have hqw : IntKind.i64.wrap (q : Int) = (q : Int) := by rw [IntKind.wrap_i64]; omega
      have hpz' : (p : Int) < (z : Int) := by omega
      have hqz' : (q : Int) < (z : Int) := by omega
      have HSW := hideO hsw
      have HXY : Hid (x = dk[p]! ∧ y = dk[q]!) := ⟨hx, hy⟩
      have HNX : Hid (So.swp (swpR a b k (dF d)) p q = swpR a b (k + 1) (dF d)) := by
        unfold Hid
        rw [hp, hq]
        exact swpR_next a b k (dF d) (by omega)
      clear hd hdr hx hy hp hq hsk hHd hsw
      go_wp2_with fail
      go_region
      all_goals (try go_wp2_with fail)
      all_goals go_roundw
      case rel =>
        refine ⟨k + 1, m + 1, Go.Sort.swp dk p q, by go_num, by omega, by rw [Go.Sort.size_swp]; exact HSK.out, ?_, HSW.out⟩
        rw [dF_swp dk p q (by have := HSK.out; omega) (by have := HSK.out; omega), HF.out]
        exact HNX.out
      case measure => simp [intOf]; omega
    · obtain rfl : k = n := by omega
      clear hdr hsk
      go_wp2_with fail
      refine bodyPost_end (v := .tuple #[]) (by simp [results, Try.results163, go_sem]) rfl ⟨rfl, m, dk, HW.out, HSK.out, HF.out⟩
end Go.Proofs.Ytdnmbagdegbnfaa.So
