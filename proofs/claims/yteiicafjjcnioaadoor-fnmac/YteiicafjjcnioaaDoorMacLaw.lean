/- The walk of the law on macs: a drawn key and text have the mac that digests make of them; a pass that is stretched once more has the mac of it and of what it was. -/
import Derived.Test.YteiicafjjcnioaaDoorStretchTop
import Derived.Test.YteiicafjjcnioaaDoorMacLawPad
import Derived.Test.YteiicafjjcnioaaDoorDrawMac
namespace Go.Proofs.YteiicafjjcnioaaDoor.Sh
open Go.RowKit

theorem strV_max (p : ByteArray) (n : Int) : (strV p n).size ≤ maxLen := by
  unfold strV maxLen
  split
  · decide
  · exact Nat.le_trans (strK_size _ _) (by decide)
theorem stretch_more (p : ByteArray) (n : Int) (hp : ¬ 8000 < p.size) (h1 : 1 ≤ n) (h2 : n ≤ 99) : macR p (strV p n) = strV p (n + 1) := by
  obtain ⟨k, rfl⟩ : ∃ k : Nat, n = k := ⟨n.toNat, by omega⟩
  rw [show ((k : Int) + 1) = ((k + 1 : Nat) : Int) from rfl, strV_yes p k hp (by omega) (by omega), strV_yes p (k + 1) hp (by omega) (by omega)]
  rw [macR_yes p _ hp (by have := strK_size p k; omega)]
  rfl
theorem inner_dig (t u : ByteArray) (ht : ¬ 64 < t.size) (hu : u.size ≤ 100) : digestV (padV t 54 ++ u) = innerV t u := by
  unfold digestV innerV
  rw [if_pos (by rw [padV_join]; omega), keyV_short t ht]
theorem outer_dig (t u : ByteArray) (ht : ¬ 64 < t.size) : digestV (padV t 92 ++ innerV t u) = macV t u := by
  unfold digestV macV
  rw [if_pos (by rw [padV_join]; unfold innerV; rw [sha_size]; decide), keyV_short t ht]
end Go.Proofs.YteiicafjjcnioaaDoor.Sh

namespace Go.Proofs.YteiicafjjcnioaaDoor.fnMac
open Go.RowKit
open Go.Proofs.YteiicafjjcnioaaDoor.Sh
open Go.Proofs.YteiicafjjcnioaaDoor.Dr

set_option maxRecDepth 100000 in
set_option maxHeartbeats 8000000 in
theorem walk_in (w : World) (a0 : Option Addr) (len0 cap0 : Nat) (a1 : Option Addr) (len1 cap1 : Nat) (r0 : Row w w.heap.size a0 len0) (r1 : Row w w.heap.size a1 len1) (hl0 : len0 ≤ 1048576) (hl1 : len1 ≤ 1048576) (hV : Vars w) :
    Calls Tryd.prog 3 #[.slice a0 len0 cap0, .slice a1 len1 cap1] w fun e w' => e = .returned (.bool true) ∧ Below w.heap.size w w' := by
  have R0 := hideD r0
  have R1 := hideD r1
  have HV := hideD hV
  have h2 := hV.two
  clear r0 r1 hV
  go_enter Tryd.func3, Tryd.ntmps3
  go_wp2_with fail
  refine (drawMac_any a0 len0 cap0 _ hl0 R0.out).mono ?_
  rintro e wa ⟨t, u, ht, hu, rfl, ba⟩
  have BA := hideD ba
  clear ba
  by_cases h : 64 < t.size
  · go_wp2_with fail
    refine (drawDigest_any a1 len1 cap1 _ hl1 ((Dr.Row.below R1.out BA.out).mono BA.out.size)).mono ?_
    rintro e wh ⟨x, hx, rfl, bh⟩
    have BH := hideD (below2 BA.out bh)
    clear bh
    go_wp2_with fail
    refine (drawStretch_any a1 len1 cap1 _ hl1 ((Dr.Row.below R1.out BH.out).mono BH.out.size)).mono ?_
    rintro e wi ⟨p, n, hp, hn1, hn2, rfl, bi⟩
    have BI := hideD (below2 BH.out bi)
    clear bi
    go_wp2_with fail
    refine (digest_impl x _ (by unfold maxLen; omega) (HV.out.below BI.out h2)).mono ?_
    rintro e wj ⟨rfl, bj⟩
    have BJ := hideD (below2 BI.out bj)
    clear bj
    go_wp2_with fail
    refine (digest_spec x _ (by unfold maxLen; omega)).mono ?_
    rintro e wk ⟨rfl, bk⟩
    have BK := hideD (below2 BJ.out bk)
    clear bk
    go_wp2_with fail
    refine (stretch_impl p n _ (by unfold maxLen; omega) (HV.out.below BK.out h2)).mono ?_
    rintro e wl ⟨rfl, bl⟩
    have BL := hideD (below2 BK.out bl)
    clear bl
    go_wp2_with fail
    refine (stretch_spec p n _ (by unfold maxLen; omega)).mono ?_
    rintro e wm ⟨rfl, bm⟩
    have BM := hideD (below2 BL.out bm)
    clear bm
    by_cases n1 : n < 1
    · go_wp2_with fail
      go_ret
      exact ⟨rfl, BM.out⟩
    · by_cases n99 : 99 < n
      · go_wp2_with fail
        go_ret
        exact ⟨rfl, BM.out⟩
      · have HE := hideD (stretch_more p n (by omega) (by omega) (by omega))
        go_wp2_with fail
        refine (stretch_impl p (n + 1) _ (by unfold maxLen; omega) (HV.out.below BM.out h2)).mono ?_
        rintro e wo ⟨rfl, bo⟩
        have BO := hideD (below2 BM.out bo)
        clear bo
        go_wp2_with fail
        refine (stretch_impl p n _ (by unfold maxLen; omega) (HV.out.below BO.out h2)).mono ?_
        rintro e wp ⟨rfl, bp⟩
        have BP := hideD (below2 BO.out bp)
        clear bp
        go_wp2_with fail
        refine (mac_impl p (strV p n) _ (by unfold maxLen; omega) (strV_max p n) (HV.out.below BP.out h2)).mono ?_
        rw [HE.out]
        rintro e wq ⟨rfl, bq⟩
        have BQ := hideD (below2 BP.out bq)
        clear bq
        go_wp2_with fail
        go_ret
        exact ⟨rfl, BQ.out⟩
  · have HI := hideD (inner_dig t u h hu)
    have HO := hideD (outer_dig t u h)
    have HM := hideD (macR_yes t u (by omega) (by omega))
    have p54 := padV_size t 54
    have p92 := padV_size t 92
    have hin : (innerV t u).size = 32 := sha_size _
    go_wp2_with fail
    refine (lwPad_any t 54 _ (by omega) (by decide)).mono ?_
    rintro e wb ⟨rfl, bb⟩
    have BB := hideD (below2 BA.out bb)
    clear bb
    go_wp2_with fail
    refine (digest_impl (padV t 54 ++ u) _ (by rw [padV_join]; unfold maxLen; omega) (HV.out.below BB.out h2)).mono ?_
    rw [HI.out]
    rintro e wc ⟨rfl, bc⟩
    have BC := hideD (below2 BB.out bc)
    clear bc
    go_wp2_with fail
    refine (mac_impl t u _ (by unfold maxLen; omega) (by unfold maxLen; omega) (HV.out.below BC.out h2)).mono ?_
    rw [HM.out]
    rintro e wd ⟨rfl, bd⟩
    have BD := hideD (below2 BC.out bd)
    clear bd
    go_wp2_with fail
    refine (lwPad_any t 92 _ (by omega) (by decide)).mono ?_
    rintro e we ⟨rfl, be⟩
    have BE := hideD (below2 BD.out be)
    clear be
    go_wp2_with fail
    refine (digest_impl (padV t 92 ++ innerV t u) _ (by rw [padV_join, hin]; unfold maxLen; decide) (HV.out.below BE.out h2)).mono ?_
    rw [HO.out]
    rintro e wf ⟨rfl, bf⟩
    have BF := hideD (below2 BE.out bf)
    clear bf
    go_wp2_with fail
    refine (drawDigest_any a1 len1 cap1 _ hl1 ((Dr.Row.below R1.out BF.out).mono BF.out.size)).mono ?_
    rintro e wh ⟨x, hx, rfl, bh⟩
    have BH := hideD (below2 BF.out bh)
    clear bh
    go_wp2_with fail
    refine (drawStretch_any a1 len1 cap1 _ hl1 ((Dr.Row.below R1.out BH.out).mono BH.out.size)).mono ?_
    rintro e wi ⟨p, n, hp, hn1, hn2, rfl, bi⟩
    have BI := hideD (below2 BH.out bi)
    clear bi
    go_wp2_with fail
    refine (digest_impl x _ (by unfold maxLen; omega) (HV.out.below BI.out h2)).mono ?_
    rintro e wj ⟨rfl, bj⟩
    have BJ := hideD (below2 BI.out bj)
    clear bj
    go_wp2_with fail
    refine (digest_spec x _ (by unfold maxLen; omega)).mono ?_
    rintro e wk ⟨rfl, bk⟩
    have BK := hideD (below2 BJ.out bk)
    clear bk
    go_wp2_with fail
    refine (stretch_impl p n _ (by unfold maxLen; omega) (HV.out.below BK.out h2)).mono ?_
    rintro e wl ⟨rfl, bl⟩
    have BL := hideD (below2 BK.out bl)
    clear bl
    go_wp2_with fail
    refine (stretch_spec p n _ (by unfold maxLen; omega)).mono ?_
    rintro e wm ⟨rfl, bm⟩
    have BM := hideD (below2 BL.out bm)
    clear bm
    by_cases n1 : n < 1
    · go_wp2_with fail
      go_ret
      exact ⟨rfl, BM.out⟩
    · by_cases n99 : 99 < n
      · go_wp2_with fail
        go_ret
        exact ⟨rfl, BM.out⟩
      · have HE := hideD (stretch_more p n (by omega) (by omega) (by omega))
        go_wp2_with fail
        refine (stretch_impl p (n + 1) _ (by unfold maxLen; omega) (HV.out.below BM.out h2)).mono ?_
        rintro e wo ⟨rfl, bo⟩
        have BO := hideD (below2 BM.out bo)
        clear bo
        go_wp2_with fail
        refine (stretch_impl p n _ (by unfold maxLen; omega) (HV.out.below BO.out h2)).mono ?_
        rintro e wp ⟨rfl, bp⟩
        have BP := hideD (below2 BO.out bp)
        clear bp
        go_wp2_with fail
        refine (mac_impl p (strV p n) _ (by unfold maxLen; omega) (strV_max p n) (HV.out.below BP.out h2)).mono ?_
        rw [HE.out]
        rintro e wq ⟨rfl, bq⟩
        have BQ := hideD (below2 BP.out bq)
        clear bq
        go_wp2_with fail
        go_ret
        exact ⟨rfl, BQ.out⟩

set_option maxHeartbeats 400000 in
theorem walk (a0 : Option Addr) (len0 cap0 : Nat) (z0 : List Int) {w : World} (w0 : IsRow .u8 w a0 len0 cap0 z0) (a1 : Option Addr) (len1 cap1 : Nat) (z1 : List Int) (w1 : IsRow .u8 w a1 len1 cap1 z1) (hV : Vars w) :
    Calls Tryd.prog 3 #[.slice a0 len0 cap0, .slice a1 len1 cap1] w fun e w' => e = .returned (.bool true) ∧ Below w.heap.size w w' := by
  by_cases h0 : len0 ≤ 1048576
  · by_cases h1 : len1 ≤ 1048576
    · exact walk_in w a0 len0 cap0 a1 len1 cap1 (row_of w0) (row_of w1) h0 h1 hV
    · clear w0 w1 hV
      have g0 : (len0 : Int) ≤ 1048576 := by omega
      have g1 : (1048576 : Int) < len1 := by omega
      go_enter Tryd.func3, Tryd.ntmps3
      go_wp2
      go_ret
      exact ⟨rfl, Below.refl _ _⟩
  · clear w0 w1 hV
    have g0 : (1048576 : Int) < len0 := by omega
    go_enter Tryd.func3, Tryd.ntmps3
    go_wp2
    go_ret
    exact ⟨rfl, Below.refl _ _⟩
end Go.Proofs.YteiicafjjcnioaaDoor.fnMac
