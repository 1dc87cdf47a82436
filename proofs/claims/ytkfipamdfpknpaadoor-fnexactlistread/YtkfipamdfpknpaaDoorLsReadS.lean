/- The walk of the specification's ListRead. -/
import Derived.Test.YtkfipamdfpknpaaDoorLsReadW
namespace Go.Proofs.YtkfipamdfpknpaaDoor.Ls
open Go.RowKit
open Go.Proofs.YtkfipamdfpknpaaDoor.Gn (rd getV rt textV)

set_option maxRecDepth 100000 in
set_option maxHeartbeats 4000000 in
theorem read_spec (s : ByteArray) (w : World) (hs : s.size ≤ 1048576) :
    Calls Tryd.prog 6 #[.string s] w fun e w' => e = .returned (readV s) ∧ Below w.heap.size w w' := by
  obtain ⟨g, hg⟩ : ∃ g, g = w.heap.size := ⟨_, rfl⟩
  have HBE := hideL hg.symm
  have HR0 : Hid ((w.alloc (.cells #[.int .i64 0, .int .i64 0, .string ⟨#[]⟩, .int .i64 0] 25)).heap[g]? = some (.cells #[.int .i64 0, .int .i64 0, .string ⟨#[]⟩, .int .i64 0] 25 (0, 0))) := by rw [hg]; exact heap_alloc_new w _
  have HL0 : Hid (Below g w (w.alloc (.cells #[.int .i64 0, .int .i64 0, .string ⟨#[]⟩, .int .i64 0] 25))) := by rw [hg]; exact (Below.refl _ _).alloc (Nat.le_refl _) _
  by_cases h8 : 8000 < s.size
  · have HF : Hid (readV s = oV 0 0 ⟨#[]⟩ 2) := if_pos h8
    rw [HF.out]
    clear hg
    go_enter Tryd.func6, Tryd.ntmps6
    go_wp2
    refine bodyPost_ret (v := oV 0 0 ⟨#[]⟩ 2) (by simp [results, oV, Tryd.results6, go_sem]) rfl ⟨rfl, ?_⟩
    exact (Below.refl _ _).alloc (Nat.le_refl _) _
  · have h8' : decide ((8000 : Int) < (s.size : Int)) = false := by simp; omega
    have HYES := hideL (fun h => readV_yes (s := s) (by omega) h)
    have HNO := hideL (fun h => readV_no (s := s) (by omega) h)
    generalize readV s = A at HYES HNO ⊢
    have H1 := hideL (fun W => Gn.get_spec s 0 W (by unfold maxLen; omega))
    have H2 := hideL (fun W => Gn.get_spec s (rd s 0).2.1 W (by unfold maxLen; omega))
    have H3 := hideL (fun W => Gn.text_spec s (rd s (rd s 0).2.1).2.1 W (by unfold maxLen; omega))
    rw [num_all] at H1 H2
    rw [text_all] at H3
    have HBI := hideL (fun W => bytes_spec (zR s) (bR s) (rR s) W)
    have HOK : Hid (okR s = (¬ s.size = 0 ∧ bytesL (zR s) (bR s) (rR s) = s)) := rfl
    unfold lV at HBI
    generalize okR s = OK at HYES HNO HOK
    unfold zR bR rR at HBI HOK HYES
    generalize rt s (rd s (rd s 0).2.1).2.1 = x3 at H3 HBI HOK HYES
    generalize rd s (rd s 0).2.1 = x2 at H2 H3 HBI HOK HYES
    generalize rd s 0 = x1 at H1 H2 HBI HOK HYES
    obtain ⟨z, p1, c1⟩ := x1
    obtain ⟨b, p2, c2⟩ := x2
    obtain ⟨r, p3, c3⟩ := x3
    dsimp only at H1 H2 H3 HBI HOK HYES
    go_enter Tryd.func6, Tryd.ntmps6
    go_wp2_with fail
    rw [← hg]
    clear hg
    generalize hww : w.alloc (.cells #[.int .i64 0, .int .i64 0, .string ⟨#[]⟩, .int .i64 0] 25) = w0 at HR0 HL0  ⊢
    clear hww
    refine (H1.out _).mono ?_
    rintro e v1 ⟨rfl, hb⟩
    have R1a := hideL (blkL HR0.out hb)
    have L1a := hideL (lowB HBE.out HL0.out hb)
    clear hb HR0 HL0 
    have R1 : Hid ((v1.alloc (.cells #[.int .i64 z, .int .i64 p1, .int .i64 c1] 41)).heap[g]? = some (.cells #[.int .i64 0, .int .i64 0, .string ⟨#[]⟩, .int .i64 0] 25 (0, 0))) := blk_alloc R1a.out _
    have L1 : Hid (Below g w (v1.alloc (.cells #[.int .i64 z, .int .i64 p1, .int .i64 c1] 41))) := lowB_alloc HBE.out L1a.out _
    have X1_1 : Hid ((v1.alloc (.cells #[.int .i64 z, .int .i64 p1, .int .i64 c1] 41)).heap[v1.heap.size]? = some (.cells #[.int .i64 z, .int .i64 p1, .int .i64 c1] 41 (0, 0))) := heap_alloc_new v1 _
    go_wp2_with fail
    generalize hww : v1.alloc (.cells #[.int .i64 z, .int .i64 p1, .int .i64 c1] 41) = u1 at R1 L1  X1_1 ⊢
    generalize v1.heap.size = g1 at X1_1 ⊢
    clear hww R1a L1a 
    refine (H2.out _).mono ?_
    rintro e v2 ⟨rfl, hb⟩
    have R2a := hideL (blkL R1.out hb)
    have L2a := hideL (lowB HBE.out L1.out hb)
    have X1_2a := hideL (blkL X1_1.out hb)
    clear hb R1 L1  X1_1
    have R2 : Hid ((v2.alloc (.cells #[.int .i64 b, .int .i64 p2, .int .i64 c2] 41)).heap[g]? = some (.cells #[.int .i64 0, .int .i64 0, .string ⟨#[]⟩, .int .i64 0] 25 (0, 0))) := blk_alloc R2a.out _
    have L2 : Hid (Below g w (v2.alloc (.cells #[.int .i64 b, .int .i64 p2, .int .i64 c2] 41))) := lowB_alloc HBE.out L2a.out _
    have X1_2 : Hid ((v2.alloc (.cells #[.int .i64 b, .int .i64 p2, .int .i64 c2] 41)).heap[g1]? = some (.cells #[.int .i64 z, .int .i64 p1, .int .i64 c1] 41 (0, 0))) := blk_alloc X1_2a.out _
    have X2_2 : Hid ((v2.alloc (.cells #[.int .i64 b, .int .i64 p2, .int .i64 c2] 41)).heap[v2.heap.size]? = some (.cells #[.int .i64 b, .int .i64 p2, .int .i64 c2] 41 (0, 0))) := heap_alloc_new v2 _
    go_wp2_with fail
    generalize hww : v2.alloc (.cells #[.int .i64 b, .int .i64 p2, .int .i64 c2] 41) = u2 at R2 L2  X1_2 X2_2 ⊢
    generalize v2.heap.size = g2 at X2_2 ⊢
    clear hww R2a L2a  X1_2a
    refine (H3.out _).mono ?_
    rintro e v3 ⟨rfl, hb⟩
    have R3a := hideL (blkL R2.out hb)
    have L3a := hideL (lowB HBE.out L2.out hb)
    have X1_3a := hideL (blkL X1_2.out hb)
    have X2_3a := hideL (blkL X2_2.out hb)
    clear hb R2 L2  X1_2 X2_2
    have R3 : Hid ((v3.alloc (.cells #[.string r, .int .i64 p3, .int .i64 c3] 44)).heap[g]? = some (.cells #[.int .i64 0, .int .i64 0, .string ⟨#[]⟩, .int .i64 0] 25 (0, 0))) := blk_alloc R3a.out _
    have L3 : Hid (Below g w (v3.alloc (.cells #[.string r, .int .i64 p3, .int .i64 c3] 44))) := lowB_alloc HBE.out L3a.out _
    have X1_3 : Hid ((v3.alloc (.cells #[.string r, .int .i64 p3, .int .i64 c3] 44)).heap[g1]? = some (.cells #[.int .i64 z, .int .i64 p1, .int .i64 c1] 41 (0, 0))) := blk_alloc X1_3a.out _
    have X2_3 : Hid ((v3.alloc (.cells #[.string r, .int .i64 p3, .int .i64 c3] 44)).heap[g2]? = some (.cells #[.int .i64 b, .int .i64 p2, .int .i64 c2] 41 (0, 0))) := blk_alloc X2_3a.out _
    have X3_3 : Hid ((v3.alloc (.cells #[.string r, .int .i64 p3, .int .i64 c3] 44)).heap[v3.heap.size]? = some (.cells #[.string r, .int .i64 p3, .int .i64 c3] 44 (0, 0))) := heap_alloc_new v3 _
    go_upto_region 6 with fail
    generalize hww : v3.alloc (.cells #[.string r, .int .i64 p3, .int .i64 c3] 44) = u3 at R3 L3 X1_3 X2_3 X3_3 ⊢
    generalize v3.heap.size = g3 at X3_3 ⊢
    clear hww R3a L3a X1_3a X2_3a
    obtain ⟨a0, a1, a2⟩ := cells3 X1_3.out
    obtain ⟨b0, b1, b2⟩ := cells3 X2_3.out
    obtain ⟨d0, d1, d2⟩ := cells3 X3_3.out
    have R4 : Hid ((u3.alloc (.cells #[.int .i64 z, .int .i64 b, .string r] 23)).heap[g]? = some (.cells #[.int .i64 0, .int .i64 0, .string ⟨#[]⟩, .int .i64 0] 25 (0, 0))) := blk_alloc R3.out _
    have X4 : Hid ((u3.alloc (.cells #[.int .i64 z, .int .i64 b, .string r] 23)).heap[u3.heap.size]? = some (.cells #[.int .i64 z, .int .i64 b, .string r] 23 (0, 0))) := heap_alloc_new u3 _
    have L4 : Hid (Below g w (u3.alloc (.cells #[.int .i64 z, .int .i64 b, .string r] 23))) := lowB_alloc HBE.out L3.out _
    go_upto_region 7 with fail
    generalize hww : u3.alloc (.cells #[.int .i64 z, .int .i64 b, .string r] 23) = u4 at R4 X4 L4 ⊢
    generalize u3.heap.size = g4 at X4 ⊢
    clear hww R3 L3 X1_3 X2_3 X3_3 a0 a1 a2 b0 b1 b2 d0 d1 d2
    by_cases hz : s.size = 0
    · have hse : s = ⟨#[]⟩ := Bk.empty_ext hz rfl
      have HA := hideL (HNO.out (by rw [HOK.out]; exact fun q => q.1 hz))
      clear hz HOK HYES HNO H1 H2 H3 HBI
      subst hse
      obtain ⟨a0, a1, a2⟩ := cells3 X4.out
      obtain ⟨q0, q1, q2, q3⟩ := cells4 R4.out
      have ff := fun o => frozen_of_row u4 g o _ _ R4.out
      have s4 := set4_cells R4.out (.int .i64 0) (.int .i64 0) (.string ⟨#[]⟩) (.int .i64 3)
      have E4 := hideL (set4_low L4.out (.int .i64 0) (.int .i64 0) (.string ⟨#[]⟩) (.int .i64 3))
      go_wp2_with fail
      refine bodyPost_ret (v := oV 0 0 ⟨#[]⟩ 3) (by simp [results, oV, Tryd.results6, go_sem, s4.1, s4.2.1, s4.2.2.1, s4.2.2.2]) rfl ⟨by rw [HA.out], ?_⟩
      rw [HBE.out]
      exact E4.out
    · have hzl : s.toList.isEmpty = false := by
        rw [ByteArray.toList_eq]
        cases hd : s.data.toList with
        | nil => exact absurd (show s.size = 0 by show s.data.size = 0; rw [← Array.length_toList, hd]; rfl) hz
        | cons x r => rfl
      obtain ⟨a0, a1, a2⟩ := cells3 X4.out
      go_wp2_with fail
      refine (HBI.out _).mono ?_
      rintro e v5 ⟨rfl, hb⟩
      have R5 := hideL (blkL R4.out hb)
      have X5 := hideL (blkL X4.out hb)
      have L5 := hideL (lowB HBE.out L4.out hb)
      clear hb R4 X4 L4 HBI a0 a1 a2
      obtain ⟨a0, a1, a2⟩ := cells3 X5.out
      obtain ⟨q0, q1, q2, q3⟩ := cells4 R5.out
      have ff := fun o => frozen_of_row v5 g o _ _ R5.out
      generalize bytesL z b r = B at HOK ⊢
      by_cases hB : B = s
      · have HA := hideL (HYES.out (by rw [HOK.out]; exact ⟨hz, hB⟩))
        have s4 := set4_cells R5.out (.int .i64 z) (.int .i64 b) (.string r) (.int .i64 0)
        have E4 := hideL (set4_low L5.out (.int .i64 z) (.int .i64 b) (.string r) (.int .i64 0))
        clear HOK HYES HNO
        subst hB
        go_wp2_with fail
        refine bodyPost_ret (v := oV z b r 0) (by simp [results, oV, Tryd.results6, go_sem, s4.1, s4.2.1, s4.2.2.1, s4.2.2.2]) rfl ⟨by rw [HA.out], ?_⟩
        rw [HBE.out]
        exact E4.out
      · have hB' : (B.toList == s.toList) = false := by rw [eq_listL]; exact decide_eq_false hB
        have HA := hideL (HNO.out (by rw [HOK.out]; exact fun q => hB q.2))
        have s4 := set4_cells R5.out (.int .i64 0) (.int .i64 0) (.string ⟨#[]⟩) (.int .i64 3)
        have E4 := hideL (set4_low L5.out (.int .i64 0) (.int .i64 0) (.string ⟨#[]⟩) (.int .i64 3))
        clear HOK HYES HNO
        go_wp2_with fail
        refine bodyPost_ret (v := oV 0 0 ⟨#[]⟩ 3) (by simp [results, oV, Tryd.results6, go_sem, s4.1, s4.2.1, s4.2.2.1, s4.2.2.2]) rfl ⟨by rw [HA.out], ?_⟩
        rw [HBE.out]
        exact E4.out
theorem readV_form (s : ByteArray) : ∃ z b r c, readV s = oV z b r c := by
  unfold readV
  split
  · exact ⟨_, _, _, _, rfl⟩
  · split <;> exact ⟨_, _, _, _, rfl⟩
end Go.Proofs.YtkfipamdfpknpaaDoor.Ls
