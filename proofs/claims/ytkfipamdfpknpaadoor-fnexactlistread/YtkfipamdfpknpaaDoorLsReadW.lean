/- The walks of ListRead. -/
import Derived.Test.YtkfipamdfpknpaaDoorLsRead
namespace Go.Proofs.YtkfipamdfpknpaaDoor.Ls
open Go.RowKit
open Go.Proofs.YtkfipamdfpknpaaDoor.Gn (rd getV handle rt textV handle_below handle_alloc)

def HH (w : World) : Prop := w.cell? ⟨1, 0, none⟩ = some handle
theorem hh_keep {w w' : World} (h : HH w) (hb : Below w.heap.size w w') : HH w' := handle_below hb h

set_option maxRecDepth 100000 in
set_option maxHeartbeats 4000000 in
theorem readList_any (s : ByteArray) (w : World) (hs : s.size ≤ 8000) (hh : HH w) :
    Calls Tryd.prog 23 #[.string s] w fun e w' => (okR s ∧ e = .returned (lV (zR s) (bR s) (rR s)) ∨ ¬ okR s ∧ e = .returned (lV 0 0 ⟨#[]⟩)) ∧ Below w.heap.size w w' := by
  obtain ⟨g, hg⟩ : ∃ g, g = w.heap.size := ⟨_, rfl⟩
  have HBE := hideL hg.symm
  have HR0 : Hid ((w.alloc (.cells #[.int .i64 0, .int .i64 0, .string ⟨#[]⟩] 23)).heap[g]? = some (.cells #[.int .i64 0, .int .i64 0, .string ⟨#[]⟩] 23 (0, 0))) := by rw [hg]; exact heap_alloc_new w _
  have HL0 : Hid (Below g w (w.alloc (.cells #[.int .i64 0, .int .i64 0, .string ⟨#[]⟩] 23))) := by rw [hg]; exact (Below.refl _ _).alloc (Nat.le_refl _) _
  have HH0 : Hid (HH (w.alloc (.cells #[.int .i64 0, .int .i64 0, .string ⟨#[]⟩] 23))) := hh_keep hh ((Below.refl _ _).alloc (Nat.le_refl _) _)
  clear hh
  have H1 := hideL (fun W h => Gn.get_impl s 0 W (by unfold maxLen; omega) h)
  have H2 := hideL (fun W h => Gn.get_impl s (rd s 0).2.1 W (by unfold maxLen; omega) h)
  have H3 := hideL (fun W h => Gn.text_impl s (rd s (rd s 0).2.1).2.1 W (by unfold maxLen; omega) h)
  rw [num_all] at H1 H2
  rw [text_all] at H3
  have HFN := hideL (fault_no (s := s))
  have HBI := hideL (fun W => bytes_impl (zR s) (bR s) (rR s) W)
  have HOK : Hid (okR s = (¬ s.size = 0 ∧ bytesL (zR s) (bR s) (rR s) = s)) := rfl
  have HEM := hideL (rd_empty s)
  unfold lV at HBI
  change Hid (∀ W, HH W → _) at H1 H2 H3
  generalize okR s = OK at HFN HOK ⊢
  unfold zR bR rR at HBI HOK ⊢
  generalize rt s (rd s (rd s 0).2.1).2.1 = x3 at H3 HFN HBI HOK ⊢
  generalize rd s (rd s 0).2.1 = x2 at H2 H3 HFN HBI HOK ⊢
  generalize rd s 0 = x1 at H1 H2 HFN HBI HOK HEM ⊢
  obtain ⟨z, p1, c1⟩ := x1
  obtain ⟨b, p2, c2⟩ := x2
  obtain ⟨r, p3, c3⟩ := x3
  dsimp only at H1 H2 H3 HFN HBI HOK HEM ⊢
  go_enter Tryd.func23, Tryd.ntmps23
  go_wp2_with fail
  rw [← hg]
  clear hg
  generalize hww : w.alloc (.cells #[.int .i64 0, .int .i64 0, .string ⟨#[]⟩] 23) = w0 at HR0 HL0 HH0 ⊢
  clear hww
  refine (H1.out _ HH0.out).mono ?_
  rintro e v1 ⟨rfl, hb⟩
  have R1a := hideL (blkL HR0.out hb)
  have L1a := hideL (lowB HBE.out HL0.out hb)
  have H1a := hideL (hh_keep HH0.out hb)
  clear hb HR0 HL0 HH0
  have R1 : Hid ((v1.alloc (.cells #[.int .i64 z, .int .i64 p1, .int .i64 c1] 41)).heap[g]? = some (.cells #[.int .i64 0, .int .i64 0, .string ⟨#[]⟩] 23 (0, 0))) := blk_alloc R1a.out _
  have L1 : Hid (Below g w (v1.alloc (.cells #[.int .i64 z, .int .i64 p1, .int .i64 c1] 41))) := lowB_alloc HBE.out L1a.out _
  have HQ1 : Hid (HH (v1.alloc (.cells #[.int .i64 z, .int .i64 p1, .int .i64 c1] 41))) := hh_keep H1a.out ((Below.refl _ _).alloc (Nat.le_refl _) _)
  have X1_1 : Hid ((v1.alloc (.cells #[.int .i64 z, .int .i64 p1, .int .i64 c1] 41)).heap[v1.heap.size]? = some (.cells #[.int .i64 z, .int .i64 p1, .int .i64 c1] 41 (0, 0))) := heap_alloc_new v1 _
  go_wp2_with fail
  generalize hww : v1.alloc (.cells #[.int .i64 z, .int .i64 p1, .int .i64 c1] 41) = u1 at R1 L1 HQ1 X1_1 ⊢
  generalize v1.heap.size = g1 at X1_1 ⊢
  clear hww R1a L1a H1a
  refine (H2.out _ HQ1.out).mono ?_
  rintro e v2 ⟨rfl, hb⟩
  have R2a := hideL (blkL R1.out hb)
  have L2a := hideL (lowB HBE.out L1.out hb)
  have H2a := hideL (hh_keep HQ1.out hb)
  have X1_2a := hideL (blkL X1_1.out hb)
  clear hb R1 L1 HQ1 X1_1
  have R2 : Hid ((v2.alloc (.cells #[.int .i64 b, .int .i64 p2, .int .i64 c2] 41)).heap[g]? = some (.cells #[.int .i64 0, .int .i64 0, .string ⟨#[]⟩] 23 (0, 0))) := blk_alloc R2a.out _
  have L2 : Hid (Below g w (v2.alloc (.cells #[.int .i64 b, .int .i64 p2, .int .i64 c2] 41))) := lowB_alloc HBE.out L2a.out _
  have HQ2 : Hid (HH (v2.alloc (.cells #[.int .i64 b, .int .i64 p2, .int .i64 c2] 41))) := hh_keep H2a.out ((Below.refl _ _).alloc (Nat.le_refl _) _)
  have X1_2 : Hid ((v2.alloc (.cells #[.int .i64 b, .int .i64 p2, .int .i64 c2] 41)).heap[g1]? = some (.cells #[.int .i64 z, .int .i64 p1, .int .i64 c1] 41 (0, 0))) := blk_alloc X1_2a.out _
  have X2_2 : Hid ((v2.alloc (.cells #[.int .i64 b, .int .i64 p2, .int .i64 c2] 41)).heap[v2.heap.size]? = some (.cells #[.int .i64 b, .int .i64 p2, .int .i64 c2] 41 (0, 0))) := heap_alloc_new v2 _
  go_wp2_with fail
  generalize hww : v2.alloc (.cells #[.int .i64 b, .int .i64 p2, .int .i64 c2] 41) = u2 at R2 L2 HQ2 X1_2 X2_2 ⊢
  generalize v2.heap.size = g2 at X2_2 ⊢
  clear hww R2a L2a H2a X1_2a
  refine (H3.out _ HQ2.out).mono ?_
  rintro e v3 ⟨rfl, hb⟩
  have R3a := hideL (blkL R2.out hb)
  have L3a := hideL (lowB HBE.out L2.out hb)
  have H3a := hideL (hh_keep HQ2.out hb)
  have X1_3a := hideL (blkL X1_2.out hb)
  have X2_3a := hideL (blkL X2_2.out hb)
  clear hb R2 L2 HQ2 X1_2 X2_2
  have R3 : Hid ((v3.alloc (.cells #[.string r, .int .i64 p3, .int .i64 c3] 44)).heap[g]? = some (.cells #[.int .i64 0, .int .i64 0, .string ⟨#[]⟩] 23 (0, 0))) := blk_alloc R3a.out _
  have L3 : Hid (Below g w (v3.alloc (.cells #[.string r, .int .i64 p3, .int .i64 c3] 44))) := lowB_alloc HBE.out L3a.out _
  have HQ3 : Hid (HH (v3.alloc (.cells #[.string r, .int .i64 p3, .int .i64 c3] 44))) := hh_keep H3a.out ((Below.refl _ _).alloc (Nat.le_refl _) _)
  have X1_3 : Hid ((v3.alloc (.cells #[.string r, .int .i64 p3, .int .i64 c3] 44)).heap[g1]? = some (.cells #[.int .i64 z, .int .i64 p1, .int .i64 c1] 41 (0, 0))) := blk_alloc X1_3a.out _
  have X2_3 : Hid ((v3.alloc (.cells #[.string r, .int .i64 p3, .int .i64 c3] 44)).heap[g2]? = some (.cells #[.int .i64 b, .int .i64 p2, .int .i64 c2] 41 (0, 0))) := blk_alloc X2_3a.out _
  have X3_3 : Hid ((v3.alloc (.cells #[.string r, .int .i64 p3, .int .i64 c3] 44)).heap[v3.heap.size]? = some (.cells #[.string r, .int .i64 p3, .int .i64 c3] 44 (0, 0))) := heap_alloc_new v3 _
  go_upto_region 4 with fail
  generalize hww : v3.alloc (.cells #[.string r, .int .i64 p3, .int .i64 c3] 44) = u3 at R3 L3 HQ3 X1_3 X2_3 X3_3 ⊢
  generalize v3.heap.size = g3 at X3_3 ⊢
  clear hww R3a L3a H3a X1_3a X2_3a HQ3
  obtain ⟨a0, a1, a2⟩ := cells3 X1_3.out
  obtain ⟨b0, b1, b2⟩ := cells3 X2_3.out
  obtain ⟨d0, d1, d2⟩ := cells3 X3_3.out
  obtain ⟨q0, q1, q2⟩ := cells3 R3.out
  have ff := fun o => frozen_of_row u3 g o _ _ R3.out
  by_cases hf : ¬ c1 = 0 ∨ ¬ c2 = 0 ∨ ¬ c3 = 0
  · have HNO := hideL (HFN.out hf)
    have s3 := set3_all R3.out (.int .i64 0) (.int .i64 0) (.string ⟨#[]⟩)
    have E3 := hideL (set3_down L3.out (.int .i64 0) (.int .i64 0) (.string ⟨#[]⟩))
    by_cases h1 : c1 = 0
    · have h1' : (c1 != 0) = false := by simp; exact h1
      have K1 := hideL h1
      clear h1
      by_cases h2 : c2 = 0
      · have h2' : (c2 != 0) = false := by simp; exact h2
        have h3' : (c3 != 0) = true := by simp; have := K1.out; omega
        clear h2 hf
        go_wp2_with fail
        refine bodyPost_ret (v := .agg #[.int .i64 0, .int .i64 0, .string ⟨#[]⟩]) (by simp [results, Tryd.results23, go_sem, s3.1, s3.2.1, s3.2.2]) rfl ⟨.inr ⟨HNO.out, rfl⟩, ?_⟩
        rw [HBE.out]
        exact E3.out
      · have h2' : (c2 != 0) = true := by simp; exact h2
        clear hf
        go_wp2_with fail
        refine bodyPost_ret (v := .agg #[.int .i64 0, .int .i64 0, .string ⟨#[]⟩]) (by simp [results, Tryd.results23, go_sem, s3.1, s3.2.1, s3.2.2]) rfl ⟨.inr ⟨HNO.out, rfl⟩, ?_⟩
        rw [HBE.out]
        exact E3.out
    · have h1' : (c1 != 0) = true := by simp; exact h1
      clear hf
      go_wp2_with fail
      refine bodyPost_ret (v := .agg #[.int .i64 0, .int .i64 0, .string ⟨#[]⟩]) (by simp [results, Tryd.results23, go_sem, s3.1, s3.2.1, s3.2.2]) rfl ⟨.inr ⟨HNO.out, rfl⟩, ?_⟩
      rw [HBE.out]
      exact E3.out
  · have h1' : (c1 != 0) = false := by simp; omega
    have h2' : (c2 != 0) = false := by simp; omega
    have h3' : (c3 != 0) = false := by simp; omega
    have HNZ : Hid (¬ s.size = 0) := fun h => HEM.out h (by omega)
    clear hf HFN
    have R4 : Hid ((u3.alloc (.cells #[.int .i64 z, .int .i64 b, .string r] 23)).heap[g]? = some (.cells #[.int .i64 0, .int .i64 0, .string ⟨#[]⟩] 23 (0, 0))) := blk_alloc R3.out _
    have X4 : Hid ((u3.alloc (.cells #[.int .i64 z, .int .i64 b, .string r] 23)).heap[u3.heap.size]? = some (.cells #[.int .i64 z, .int .i64 b, .string r] 23 (0, 0))) := heap_alloc_new u3 _
    have L4 : Hid (Below g w (u3.alloc (.cells #[.int .i64 z, .int .i64 b, .string r] 23))) := lowB_alloc HBE.out L3.out _
    go_wp2_with fail
    generalize hww : u3.alloc (.cells #[.int .i64 z, .int .i64 b, .string r] 23) = u4 at R4 X4 L4 ⊢
    generalize u3.heap.size = g4 at X4 ⊢
    clear hww ff q0 q1 q2 a0 a1 a2 b0 b1 b2 d0 d1 d2
    refine (HBI.out _).mono ?_
    rintro e v5 ⟨rfl, hb⟩
    have R5 := hideL (blkL R4.out hb)
    have X5 := hideL (blkL X4.out hb)
    have L5 := hideL (lowB HBE.out L4.out hb)
    clear hb R4 X4 L4 HBI
    obtain ⟨a0, a1, a2⟩ := cells3 X5.out
    obtain ⟨q0, q1, q2⟩ := cells3 R5.out
    have ff := fun o => frozen_of_row v5 g o _ _ R5.out
    generalize bytesL z b r = B at HOK ⊢
    by_cases hB : B = s
    · have HY : Hid OK := by rw [HOK.out]; exact ⟨HNZ.out, hB⟩
      have s3 := set3_all R5.out (.int .i64 z) (.int .i64 b) (.string r)
      have E3 := hideL (set3_down L5.out (.int .i64 z) (.int .i64 b) (.string r))
      clear HOK
      subst hB
      go_wp2_with fail
      refine bodyPost_ret (v := .agg #[.int .i64 z, .int .i64 b, .string r]) (by simp [results, Tryd.results23, go_sem, s3.1, s3.2.1, s3.2.2]) rfl ⟨.inl ⟨HY.out, rfl⟩, ?_⟩
      rw [HBE.out]
      exact E3.out
    · have hB' : (B.toList == s.toList) = false := by rw [eq_listL]; exact decide_eq_false hB
      have HY : Hid (¬ OK) := by rw [HOK.out]; exact fun q => hB q.2
      have s3 := set3_all R5.out (.int .i64 0) (.int .i64 0) (.string ⟨#[]⟩)
      have E3 := hideL (set3_down L5.out (.int .i64 0) (.int .i64 0) (.string ⟨#[]⟩))
      clear HOK
      go_wp2_with fail
      refine bodyPost_ret (v := .agg #[.int .i64 0, .int .i64 0, .string ⟨#[]⟩]) (by simp [results, Tryd.results23, go_sem, s3.1, s3.2.1, s3.2.2]) rfl ⟨.inr ⟨HY.out, rfl⟩, ?_⟩
      rw [HBE.out]
      exact E3.out

theorem readV_yes {s : ByteArray} (h8 : s.size ≤ 8000) (h : okR s) : readV s = oV (zR s) (bR s) (rR s) 0 := by
  unfold readV
  rw [if_neg (by omega), if_pos h]
theorem readV_no {s : ByteArray} (h8 : s.size ≤ 8000) (h : ¬ okR s) : readV s = oV 0 0 ⟨#[]⟩ 3 := by
  unfold readV
  rw [if_neg (by omega), if_neg h]

set_option maxRecDepth 100000 in
set_option maxHeartbeats 4000000 in
theorem read_impl (s : ByteArray) (w : World) (hs : s.size ≤ 1048576) (hh : HH w) :
    Calls Tryd.prog 7 #[.string s] w fun e w' => e = .returned (readV s) ∧ Below w.heap.size w w' := by
  obtain ⟨g, hg⟩ : ∃ g, g = w.heap.size := ⟨_, rfl⟩
  have HBE := hideL hg.symm
  have HR0 : Hid ((w.alloc (.cells #[.int .i64 0, .int .i64 0, .string ⟨#[]⟩, .int .i64 0] 25)).heap[g]? = some (.cells #[.int .i64 0, .int .i64 0, .string ⟨#[]⟩, .int .i64 0] 25 (0, 0))) := by rw [hg]; exact heap_alloc_new w _
  have HL0 : Hid (Below g w (w.alloc (.cells #[.int .i64 0, .int .i64 0, .string ⟨#[]⟩, .int .i64 0] 25))) := by rw [hg]; exact (Below.refl _ _).alloc (Nat.le_refl _) _
  have HH0 : Hid (HH (w.alloc (.cells #[.int .i64 0, .int .i64 0, .string ⟨#[]⟩, .int .i64 0] 25))) := hh_keep hh ((Below.refl _ _).alloc (Nat.le_refl _) _)
  clear hh
  by_cases h8 : 8000 < s.size
  · have HF : Hid (readV s = oV 0 0 ⟨#[]⟩ 2) := if_pos h8
    rw [HF.out]
    clear hg
    go_enter Tryd.func7, Tryd.ntmps7
    go_wp2
    refine bodyPost_ret (v := oV 0 0 ⟨#[]⟩ 2) (by simp [results, oV, Tryd.results7, go_sem]) rfl ⟨rfl, ?_⟩
    exact (Below.refl _ _).alloc (Nat.le_refl _) _
  · have h8' : decide ((8000 : Int) < (s.size : Int)) = false := by simp; omega
    have HYES := hideL (fun h => readV_yes (s := s) (by omega) h)
    have HNO := hideL (fun h => readV_no (s := s) (by omega) h)
    have HBS : Hid (okR s → 1 ≤ bR s) := fun h => bytes_some h.2 h.1
    generalize readV s = A at HYES HNO ⊢
    go_enter Tryd.func7, Tryd.ntmps7
    go_wp2_with fail
    rw [← hg]
    generalize hww : w.alloc (.cells #[.int .i64 0, .int .i64 0, .string ⟨#[]⟩, .int .i64 0] 25) = w0 at HR0 HL0 HH0 ⊢
    clear hww hg
    refine (readList_any s w0 (by omega) HH0.out).mono ?_
    rintro e w1 ⟨⟨hok, rfl⟩ | ⟨hok, rfl⟩, hb⟩
    · have HA := hideL (HYES.out hok)
      have hb1 := HBS.out hok
      have hb0 : (bR s == 0) = false := beq_eq_false_iff_ne.2 (by omega)
      unfold lV
      generalize zR s = z at HA ⊢
      generalize bR s = b at HA hb1 hb0 ⊢
      generalize rR s = r at HA ⊢
      have R1 := hideL (blkL HR0.out hb)
      have L1 := hideL (lowB HBE.out HL0.out hb)
      clear hb HR0 HL0 HH0 HYES HNO HBS hok
      have R2 : Hid ((w1.alloc (.cells #[.int .i64 z, .int .i64 b, .string r] 23)).heap[g]? = some (.cells #[.int .i64 0, .int .i64 0, .string ⟨#[]⟩, .int .i64 0] 25 (0, 0))) := blk_alloc R1.out _
      have X2 : Hid ((w1.alloc (.cells #[.int .i64 z, .int .i64 b, .string r] 23)).heap[w1.heap.size]? = some (.cells #[.int .i64 z, .int .i64 b, .string r] 23 (0, 0))) := heap_alloc_new w1 _
      have L2 : Hid (Below g w (w1.alloc (.cells #[.int .i64 z, .int .i64 b, .string r] 23))) := lowB_alloc HBE.out L1.out _
      go_upto_region 4 with fail
      generalize hww : w1.alloc (.cells #[.int .i64 z, .int .i64 b, .string r] 23) = u2 at R2 X2 L2 ⊢
      generalize w1.heap.size = g2 at X2 ⊢
      clear hww R1 L1
      obtain ⟨a0, a1, a2⟩ := cells3 X2.out
      obtain ⟨q0, q1, q2, q3⟩ := cells4 R2.out
      have ff := fun o => frozen_of_row u2 g o _ _ R2.out
      have s4 := set4_cells R2.out (.int .i64 z) (.int .i64 b) (.string r) (.int .i64 0)
      have E4 := hideL (set4_low L2.out (.int .i64 z) (.int .i64 b) (.string r) (.int .i64 0))
      go_wp2_with fail
      refine bodyPost_ret (v := oV z b r 0) (by simp [results, oV, Tryd.results7, go_sem, s4.1, s4.2.1, s4.2.2.1, s4.2.2.2]) rfl ⟨by rw [HA.out], ?_⟩
      rw [HBE.out]
      exact E4.out
    · have HA := hideL (HNO.out hok)
      unfold lV
      have R1 := hideL (blkL HR0.out hb)
      have L1 := hideL (lowB HBE.out HL0.out hb)
      clear hb HR0 HL0 HH0 HYES HNO HBS hok
      have R2 : Hid ((w1.alloc (.cells #[.int .i64 0, .int .i64 0, .string ⟨#[]⟩] 23)).heap[g]? = some (.cells #[.int .i64 0, .int .i64 0, .string ⟨#[]⟩, .int .i64 0] 25 (0, 0))) := blk_alloc R1.out _
      have X2 : Hid ((w1.alloc (.cells #[.int .i64 0, .int .i64 0, .string ⟨#[]⟩] 23)).heap[w1.heap.size]? = some (.cells #[.int .i64 0, .int .i64 0, .string ⟨#[]⟩] 23 (0, 0))) := heap_alloc_new w1 _
      have L2 : Hid (Below g w (w1.alloc (.cells #[.int .i64 0, .int .i64 0, .string ⟨#[]⟩] 23))) := lowB_alloc HBE.out L1.out _
      go_upto_region 4 with fail
      generalize hww : w1.alloc (.cells #[.int .i64 0, .int .i64 0, .string ⟨#[]⟩] 23) = u2 at R2 X2 L2 ⊢
      generalize w1.heap.size = g2 at X2 ⊢
      clear hww R1 L1
      obtain ⟨a0, a1, a2⟩ := cells3 X2.out
      obtain ⟨q0, q1, q2, q3⟩ := cells4 R2.out
      have ff := fun o => frozen_of_row u2 g o _ _ R2.out
      have s4 := set4_cells R2.out (.int .i64 0) (.int .i64 0) (.string ⟨#[]⟩) (.int .i64 3)
      have E4 := hideL (set4_low L2.out (.int .i64 0) (.int .i64 0) (.string ⟨#[]⟩) (.int .i64 3))
      go_wp2_with fail
      refine bodyPost_ret (v := oV 0 0 ⟨#[]⟩ 3) (by simp [results, oV, Tryd.results7, go_sem, s4.1, s4.2.1, s4.2.2.1, s4.2.2.2]) rfl ⟨by rw [HA.out], ?_⟩
      rw [HBE.out]
      exact E4.out
end Go.Proofs.YtkfipamdfpknpaaDoor.Ls
