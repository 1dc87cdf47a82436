/- What the specification's Bwt answers. -/
import Derived.Test.YtdnmbagdegbnfaaUbBwtImpl
import Derived.Test.YtdnmbagdegbnfaaUbOrdSpec
import Derived.Test.YtdnmbagdegbnfaaUbFrontBS
namespace Go.Proofs.Ytdnmbagdegbnfaa.So
open Go.RowKit Go.Sort Go.Proofs
open Go.Proofs.Ytdnmbagdegbnfaa.Sh (bt bt_get bt_lt strF IsB made_row)
open Go.Proofs.Ytdnmbagdegbnfaa.In (OwnI Ints)
open Go.Proofs.Ytdnmbagdegbnfaa.Nu (bv)
open Go.Proofs.Ytdnmbagdegbnfaa.Ap (Own0 wpList_append_own0)
open Go.Proofs.Ytdnmbagdegbnfaa.Fr (Own0B own0_string one_newB one_cellB own0B_snoc)

def blB (t : ByteArray) (f : Nat → Nat) (k : Nat) : List UInt8 := (List.range k).map fun j => UInt8.ofNat (lastB t (f j))
theorem blB_len (t : ByteArray) (f : Nat → Nat) (k : Nat) : (blB t f k).length = k := by simp [blB]
theorem blB_snoc (t : ByteArray) (f : Nat → Nat) (k : Nat) : blB t f (k + 1) = blB t f k ++ [UInt8.ofNat (((lastB t (f k) : Nat) : Int)).toNat] := by
  unfold blB
  rw [List.range_succ, List.map_append]
  rfl

set_option maxRecDepth 100000 in
set_option maxHeartbeats 1000000 in
theorem l05Bwt_spec (t : ByteArray) (w : World) (ht : t.size ≤ 48) :
    Calls Try.prog 117 #[.string t] w fun e w' => e = .returned (.tuple #[.string (bwtT t), .int .i64 (bwtA t : Nat)]) ∧ Below w.heap.size w w' := by
  obtain ⟨i0, hi0, hz0, hz1, hz2⟩ := info_parts Nu.Try.infoJ5
  have HOS := hideO (order_spec t w ht)
  go_enter Try.func117, Try.ntmps117
  go_wp2_with fail
  refine HOS.out.mono ?_
  rintro e w1 ⟨v, l, rfl, ho, hok, _, hb⟩
  have HE := hideO (bwt_yes ht (fun j hj => rfl) (f := ordF t))
  have hlen : l.length = t.size := by have := hok.1.length_eq; simpa using this
  have HLen := hideO hlen
  have HOR : Hid (∀ k (h : k < l.length), ordF t k = l[k] ∧ l[k] < t.size) := fun k h => ⟨ordF_list hok k h, by
    have := hok.1.mem_iff.1 (List.getElem_mem h)
    simpa using this⟩
  obtain ⟨a, cap, rfl, hcap, hI⟩ := ho.ints
  have HI := hideO hI
  rw [ints_len, hlen] at hcap ⊢
  have HB1 := hideO hb
  have z1 := hb.size
  clear ho hok hb hI hlen
  go_wp2_with fail
  go_loopw [7, 5, 6] (fun i u m wr => ∃ k : Nat, i = .int .i64 k ∧ k ≤ t.size ∧ m = .int .i64 (atK (ordF t) k : Nat) ∧ Own0B wr (w1.heap.size + 1) u (blB t (ordF t) k) ∧ w1.heap.size < wr.heap.size ∧ Below w1.heap.size w1 wr) (fun i _ _ _ => t.size - (intOf i).toNat)
  case atStart => exact ⟨0, rfl, Nat.zero_le _, rfl, .inl ⟨_, rfl, rfl, rfl⟩, by simp, (Below.refl _ _).alloc (Nat.le_refl _) _⟩
  case round =>
    obtain ⟨k, rfl, hk, rfl, hown, hgs, hbel⟩ := hrel
    have O1 := hideO hown
    have GB := hideO hbel
    clear hbel
    by_cases hlt : k < t.size
    · have hd0 : decide ((k : Int) < (t.size : Int)) = true := decide_eq_true (by omega)
      have hkz : (k : Int) < (t.size : Int) := by omega
      have hkl : k < l.length := by rw [HLen.out]; exact hlt
      have hkl' : k < (ints l).length := by rw [ints_len]; exact hkl
      obtain ⟨b, off, rfl, hb, hc⟩ := (HI.out.below GB.out).some (by omega)
      have ci := hc k hkl'
      have HC : Hid (∀ W : World, Below w1.heap.size w1 W → W.cell? ⟨b, off + k, none⟩ = some (.int .i64 (ints l)[k])) := fun W hW => by
        obtain ⟨b', off', e1, _, hc'⟩ := ((HI.out.below hW).some (by omega : 0 < (ints l).length))
        cases e1
        exact hc' k hkl'
      have ey : (ints l)[k] = ((l[k] : Nat) : Int) := by simp [ints]
      rw [ey] at ci HC
      obtain ⟨ho1, hxt⟩ := HOR.out k hkl
      have HN := hideO (blB_snoc t (ordF t) k)
      have HA := hideO (atK_next (ordF t) k)
      rw [ho1] at HN HA
      obtain ⟨x, hx⟩ : ∃ x, x = l[k] := ⟨_, rfl⟩
      rw [← hx] at ci HC hxt HN HA
      obtain ⟨s, hs⟩ : ∃ s, s = x + t.size - 1 := ⟨_, rfl⟩
      obtain ⟨r, hr⟩ : ∃ r, r = s % t.size := ⟨_, rfl⟩
      have hrt : r < t.size := by rw [hr]; exact Nat.mod_lt _ (by omega)
      have e1 : (x : Int) + (t.size : Int) - 1 = (s : Int) := by omega
      have e2 : (s : Int).tmod (t.size : Int) = (r : Int) := by rw [Int.tmod_eq_emod_of_nonneg (by omega), hr, Int.natCast_emod]
      have hwp : IntKind.i64.wrap (s : Int) = (s : Int) := by rw [IntKind.wrap_i64]; omega
      have hwr : IntKind.i64.wrap (r : Int) = (r : Int) := by rw [IntKind.wrap_i64]; omega
      have hrz : (r : Int) < (t.size : Int) := by omega
      have htn : ¬ ((t.size : Int) = 0) := by omega
      obtain ⟨y, hy, hyt⟩ : ∃ y : UInt8, t[r] = y ∧ y.toNat = lastB t x := ⟨_, rfl, by rw [bt_get]; unfold lastB; rw [hr, hs]⟩
      rw [← hyt] at HN
      have HBL := hideO (blB_len t (ordF t) k)
      obtain ⟨bs, hbs⟩ : ∃ bs, bs = blB t (ordF t) k := ⟨_, rfl⟩
      rw [← hbs] at O1 HN HBL
      obtain ⟨m, hm⟩ : ∃ m, m = atK (ordF t) k := ⟨_, rfl⟩
      rw [← hm] at HA ⊢
      have hmk : m ≤ k := by rw [hm]; exact atK_le _ _
      clear hc ey hown ho1 hx hs hr hyt hbs hm
      have HY := hideO (UInt8.toNat_lt y)
      go_wp2_with (at_builtin; refine wpList_append_own0 _ rfl (.tmp 17) (.tmp 31) 22 rfl (w1.heap.size + 1) 5 i0 (.int .u8 0) 1 1 Try.underlying22 hi0 hz0 hz1 hz2 rfl (by decide) _ bs.length (bs.map bv) rfl (Own0.alloc O1.out _) ⟨wr.heap.size, 0, none⟩ 1 1 [.int .u8 (y.toNat : Nat)] rfl rfl (one_newB _ _ _) (one_cellB _) (by decide) (by unfold maxLen; have := HBL.out; omega) (by have := HBL.out; omega) (by simp; omega) ?_)
      intro v' w5 hown' hb5
      have N5 := hideO (own0B_snoc (by omega) (by have := HY.out; omega) hown')
      have ba : Below (w1.heap.size + 1) wr w5 := ((Below.refl (w1.heap.size + 1) wr).alloc (by omega) _).trans (hb5 _ (Nat.le_refl _))
      have B5 := hideO (GB.out.trans (ba.mono (by omega)))
      have c5 := HC.out w5 B5.out
      have z5 := ba.size
      clear hown' hb5 ba ci
      by_cases hx0 : x = 0
      · subst hx0
        have HM := hideO (HA.out.1 rfl)
        go_wp2_with fail
        go_roundw
        case rel => exact ⟨k + 1, by go_num, by omega, by rw [HM.out], by rw [HN.out]; exact N5.out, by omega, B5.out⟩
        case measure => simp [intOf]; omega
      · have HM := hideO (HA.out.2 hx0)
        have hxz : ((x : Int) == 0) = false := by simpa using hx0
        go_wp2_with fail
        go_roundw
        case rel => exact ⟨k + 1, by go_num, by omega, by rw [HM.out], by rw [HN.out]; exact N5.out, by omega, B5.out⟩
        case measure => simp [intOf]; omega
    · have hd0 : decide ((k : Int) < (t.size : Int)) = false := decide_eq_false (by omega)
      obtain rfl : k = t.size := by omega
      have hcv := own0_string (P := Try.prog) (src := 22) (dst := 9) _ hown Try.underlying22 Try.underlying5 Try.underlying9
      have HQ : Hid ((⟨(blB t (ordF t) t.size).toArray⟩ : ByteArray) = bwtT t) := HE.out.1.symm
      have HQ2 : Hid (atK (ordF t) t.size = bwtA t) := HE.out.2.1.symm
      rw [HQ.out] at hcv
      rw [HQ2.out]
      have BZ := hideO (HB1.out.trans (GB.out.mono z1))
      clear hown
      go_wp2_with fail
      refine bodyPost_ret (v := .tuple #[.string (bwtT t), .int .i64 (bwtA t : Nat)]) (by simp [results, Try.results117, go_sem]) rfl ⟨rfl, BZ.out⟩

set_option maxRecDepth 100000 in
set_option maxHeartbeats 1000000 in
theorem bwt_spec (t : ByteArray) (w : World) (hn : t.size ≤ 1048576) :
    Calls Try.prog 53 #[.string t] w fun e w' => e = .returned (sOut (bwtT t) (bwtA t) (bwtC t)) ∧ Below w.heap.size w w' := by
  by_cases hbig : 8000 < t.size
  · have HV : Hid (sOut (bwtT t) (bwtA t) (bwtC t) = sOut ⟨#[]⟩ 0 2) := by
      unfold Hid
      rw [(bwt_no (by omega)).1, (bwt_no (by omega)).2, bwtC, if_pos hbig]
    go_enter Try.func53, Try.ntmps53
    go_wp2_with fail
    refine bodyPost_ret (v := sOut ⟨#[]⟩ 0 2) (by simp [results, sOut, Try.results53, go_sem]) rfl ⟨by rw [HV.out], ?_⟩
    exact (Below.refl _ _).alloc (Nat.le_refl _) _
  · have hbig' : ¬ (8000 : Int) < (t.size : Int) := by omega
    obtain ⟨w0, hw0⟩ : ∃ w0, w0 = w.alloc (.cells #[.string ⟨#[]⟩, .int .i64 0, .int .i64 0] 49) := ⟨_, rfl⟩
    have HB := hideO (block_spec t w0 hn)
    have z0 : w0.heap.size = w.heap.size + 1 := by rw [hw0]; simp
    have HR0 : Hid (IsR w0 w.heap.size) := by unfold Hid; rw [hw0]; exact heap_alloc_last w _
    have HB0 : Hid (Below w.heap.size w w0) := by unfold Hid; rw [hw0]; exact (Below.refl _ _).alloc (Nat.le_refl _) _
    by_cases hlong : 48 < t.size
    · have HV : Hid (sOut (bwtT t) (bwtA t) (bwtC t) = sOut ⟨#[]⟩ 0 1) := by
        unfold Hid
        rw [(bwt_no (by omega)).1, (bwt_no (by omega)).2, bwtC, if_neg hbig, if_pos hlong]
      rw [decide_eq_false (by omega : ¬ t.size ≤ 48)] at HB
      go_enter Try.func53, Try.ntmps53
      go_wp2_with fail
      rw [← hw0]
      refine HB.out.mono ?_
      rintro e w' ⟨rfl, hw⟩
      subst w'
      subst hw0
      go_wp2_with fail
      refine bodyPost_ret (v := sOut ⟨#[]⟩ 0 1) (by simp [results, sOut, Try.results53, go_sem]) rfl ⟨by rw [HV.out], ?_⟩
      exact (Below.refl _ _).alloc (Nat.le_refl _) _
    · have HV : Hid (bwtC t = 0) := by
        unfold Hid bwtC
        rw [if_neg hbig, if_neg hlong]
      rw [decide_eq_true (by omega : t.size ≤ 48)] at HB
      have HS := hideO (l05Bwt_spec t w0 (by omega))
      generalize bwtT t = q at HS ⊢
      generalize bwtA t = m at HS ⊢
      go_enter Try.func53, Try.ntmps53
      go_wp2_with fail
      rw [← hw0]
      refine HB.out.mono ?_
      rintro e w' ⟨rfl, hw⟩
      subst w'
      go_wp2_with fail
      rw [← hw0]
      refine HS.out.mono ?_
      rintro e w2 ⟨rfl, hb2⟩
      have hr2 : IsR w2 w.heap.size := (hb2.block w.heap.size (by omega)).trans HR0.out
      have GB := hideO (HB0.out.trans (hb2.mono (by omega)))
      have z2 := hb2.size
      obtain ⟨c0, c1, c2, f0⟩ := hr2.cells
      clear hr2 hb2
      go_wp2_with fail
      refine bodyPost_ret (v := sOut q m 0) (by simp [results, sOut, Try.results53, go_sem, c0, c1, c2]) rfl ⟨by rw [HV.out], ?_⟩
      exact ((GB.out.setCell (Nat.le_refl _) _).setCell (Nat.le_refl _) _).setCell (Nat.le_refl _) _
end Go.Proofs.Ytdnmbagdegbnfaa.So
