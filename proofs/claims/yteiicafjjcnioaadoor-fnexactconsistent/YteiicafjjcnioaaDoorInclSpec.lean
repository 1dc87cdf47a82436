/- The walk of spec.Included. -/
import Derived.Test.YteiicafjjcnioaaDoorInclWalks
namespace Go.Proofs.YteiicafjjcnioaaDoor.Tr
open Go.RowKit
open Go.Proofs.YteiicafjjcnioaaDoor.St
open Go.Proofs.YteiicafjjcnioaaDoor.Sh (nodeV nodeV_size l03Node_any)

theorem od_pos (a : Nat) (h : 0 < a) : od a % 2 = 1 ∧ 0 < od a ∧ od a ≤ a := by
  induction a using Nat.strongRecOn with
  | ind a ih =>
    by_cases he : a % 2 = 0
    · rw [od_even a he h]
      have := ih (a / 2) (by omega) (by omega)
      omega
    · rw [od_odd a (by omega)]
      omega

set_option maxRecDepth 100000 in
set_option maxHeartbeats 8000000 in
/-- the loop, its conditions met -/
theorem incl_at (leaf root : ByteArray) (i0 n0 : Nat) (p : List ByteArray) (b off cap B : Nat) (w : World) (hn : n0 < 9223372036854775808) (hin : i0 < n0) (hp : p.length ≤ 63) (hl : leaf.size = 32) (hr : root.size = 32) (hw : wide p = true) (hb : b < B) (hc0 : ∀ j (h : j < p.length), w.cell? ⟨b, off + j, none⟩ = some (.string p[j])) (hB : B ≤ w.heap.size) :
    Calls Tryd.prog 41 #[.string leaf, .int .i64 i0, .int .i64 n0, .slice (some ⟨b, off, none⟩) p.length cap, .string root] w fun e w' => e = .returned (.bool (decide (incl n0 i0 p leaf = some root))) ∧ Below w.heap.size w w' := by
  have hs : Strs w B (some ⟨b, off, none⟩) p := .inr ⟨b, off, rfl, hb, hc0⟩
  have HWd := hideT (wide_spec _ cap p w B hs (by omega))
  rw [hw] at HWd
  have HC := hideT hc0
  have HW := hideT ((wide_yes p).1 hw)
  clear hs hw hc0
  obtain ⟨m, hm⟩ : ∃ m, m = p.length := ⟨_, rfl⟩
  have HM := hideT hm
  rw [← hm] at hp HWd ⊢
  clear hm
  have g1 : ¬ (n0 : Int) ≤ i0 := by omega
  have g2 : ¬ n0 ≤ i0 := by omega
  have b1 : decide ((63 : Int) < (m : Int)) = false := by simp; omega
  have b2 : decide ((i0 : Int) < 0) = false := by simp
  have b3 : decide (n0 ≤ i0) = false := by simp; omega
  have hn' : n0 < 9223372036854775808 := hn
  go_enter Tryd.func41, Tryd.ntmps41
  go_wp2_with fail
  refine HWd.out.mono ?_
  rintro e w1 ⟨rfl, hw1⟩
  subst w1
  go_wp2_with fail
  go_loopw [14, 11, 12, 13] (fun kv av lv hv wr => ∃ (k x y : Nat) (h : ByteArray), kv = .int .i64 k ∧ av = .int .i64 x ∧ lv = .int .i64 y ∧ hv = .string h ∧ k ≤ m ∧ x ≤ y ∧ y < n0 ∧ h.size = 32 ∧ incl n0 i0 p leaf = climbS x y (p.drop k) h ∧ Below w.heap.size w wr) (fun kv _ _ _ _ => m - (intOf kv).toNat)
  case atStart =>
    exact ⟨0, i0, n0 - 1, leaf, rfl, rfl, by go_num, rfl, by omega, by omega, by omega, hl, rfl, Below.refl _ _⟩
  case round =>
    obtain ⟨k, x, y, h, rfl, rfl, rfl, rfl, hk, hxy, hy, hh, hinc, hbel⟩ := hrel
    have HB := hideT hbel
    have HI := hideT hinc
    clear hbel hinc
    by_cases hlt : k < m
    · have hkl : k < p.length := by rw [← HM.out]; exact hlt
      have ci := (HB.out.cell (p := ⟨b, off + k, none⟩) (by simp; omega)).trans (HC.out k hkl)
      have HSZ := hideT (HW.out k hkl)
      have HD := hideT (List.drop_eq_getElem_cons hkl)
      obtain ⟨s, hse⟩ : ∃ s, s = p[k] := ⟨_, rfl⟩
      rw [← hse] at ci HSZ HD
      clear hse
      have hs32 := HSZ.out
      by_cases hy0 : y = 0
      · subst hy0
        have HE : Hid (decide (incl n0 i0 p leaf = some root) = false) := by
          unfold Hid
          rw [HI.out, HD.out, climbS_zero _ _ _ (by simp)]
          rfl
        go_wp2_with fail
        go_ret
        exact ⟨ret_bool HE.out.symm, HB.out⟩
      · have gy : ¬ (y : Int) = 0 := by omega
        by_cases hodd : x % 2 = 1
        · have go1 : (x : Int) % 2 = 1 := by omega
          have HE := hideT (climbS_odd x y s (p.drop (k + 1)) h hy0 hodd)
          go_wp2_with fail
          refine (l03Node_any s h wr (by omega) (by omega)).mono ?_
          rintro e w2 ⟨rfl, hb2⟩
          have HB2 := hideT (HB.out.trans (hb2.mono HB.out.size))
          clear hb2 ci
          go_wp2_with fail
          go_loopw [11, 12] (fun av lv wi => av = .int .i64 x ∧ lv = .int .i64 y ∧ wi = w2) (fun _ _ _ => 0)
          case atStart => exact ⟨rfl, rfl, rfl⟩
          case round =>
            obtain ⟨rfl, rfl, hwi⟩ := hrel
            subst hwi
            go_wp2_with fail
            go_roundw
            case rel =>
              refine ⟨k + 1, x / 2, y / 2, nodeV s h, by go_num, by go_num, by go_num, rfl, by omega, by omega, by omega, nodeV_size _ _, ?_, HB2.out⟩
              rw [HI.out, HD.out, HE.out]
            case measure => simp [intOf]; omega
        · have go1 : (x : Int) % 2 = 0 := by omega
          by_cases hxy2 : x = y
          · have gxy : (x : Int) = y := by omega
            have HE : Hid (climbS x y (s :: p.drop (k + 1)) h = climbS (od x / 2) (od x / 2) (p.drop (k + 1)) (nodeV s h)) := by
              unfold Hid
              rw [← hxy2]
              exact climbS_end x s (p.drop (k + 1)) h (by omega) (by omega)
            have HXY := hideT hxy2
            have HO := hideT (od_pos x (by omega))
            go_wp2_with fail
            refine (l03Node_any s h wr (by omega) (by omega)).mono ?_
            rintro e w2 ⟨rfl, hb2⟩
            have HB2 := hideT (HB.out.trans (hb2.mono HB.out.size))
            clear hb2 ci
            go_wp2_with fail
            go_loopw [11, 12] (fun av lv wi => ∃ z : Nat, av = .int .i64 z ∧ lv = .int .i64 z ∧ 0 < z ∧ z ≤ x ∧ od z = od x ∧ wi = w2) (fun av _ _ => (intOf av).toNat)
            case atStart => exact ⟨x, by rw [HXY.out], by rw [HXY.out], by omega, Nat.le_refl _, rfl, rfl⟩
            case round =>
              obtain ⟨z, rfl, rfl, hz0, hzx, hod, hwi⟩ := hrel
              subst hwi
              have HOD := hideT hod
              clear hod
              have gz : 0 < (z : Int) := by omega
              by_cases hze : z % 2 = 0
              · have gz2 : (z : Int) % 2 = 0 := by omega
                go_wp2_with fail
                go_roundw
                case rel => exact ⟨z / 2, by go_num, by go_num, by omega, by omega, by rw [← od_even z hze hz0]; exact HOD.out, trivial⟩
                case measure => simp [intOf]; omega
              · have gz2 : (z : Int) % 2 = 1 := by omega
                have HZ : Hid (od x = z) := by
                  unfold Hid
                  rw [← HOD.out]
                  exact od_odd z (by omega)
                go_wp2_with fail
                go_roundw
                case rel =>
                  refine ⟨k + 1, z / 2, z / 2, nodeV s h, by go_num, by go_num, by go_num, rfl, by omega, by omega, by omega, nodeV_size _ _, ?_, HB2.out⟩
                  rw [HI.out, HD.out, HE.out, HZ.out]
                case measure => simp [intOf]; omega
          · have gxy : ¬ (x : Int) = y := by omega
            have HE := hideT (climbS_even x y s (p.drop (k + 1)) h hy0 (by omega) hxy2)
            go_wp2_with fail
            refine (l03Node_any h s wr (by omega) (by omega)).mono ?_
            rintro e w2 ⟨rfl, hb2⟩
            have HB2 := hideT (HB.out.trans (hb2.mono HB.out.size))
            clear hb2 ci
            go_wp2_with fail
            go_roundw
            case rel =>
              refine ⟨k + 1, x / 2, y / 2, nodeV h s, by go_num, by go_num, by go_num, rfl, by omega, by omega, by omega, nodeV_size _ _, ?_, HB2.out⟩
              rw [HI.out, HD.out, HE.out]
            case measure => simp [intOf]; omega
    · have HD : Hid (p.drop k = []) := by
        unfold Hid
        exact List.drop_eq_nil_of_le (by have := HM.out; omega)
      by_cases hy0 : y = 0
      · subst hy0
        have HE : Hid (decide (incl n0 i0 p leaf = some root) = decide (h = root)) := by
          unfold Hid
          rw [HI.out, HD.out, climbS_nil, if_pos rfl]
          simp
        go_wp2_with fail
        go_ret
        exact ⟨ret_bool (by rw [HE.out]; exact str_eq _ _), HB.out⟩
      · have gy : ((y : Int) == 0) = false := by simp; omega
        have HE : Hid (decide (incl n0 i0 p leaf = some root) = false) := by
          unfold Hid
          rw [HI.out, HD.out, climbS_nil, if_neg hy0]
          rfl
        go_wp2_with fail
        go_ret
        exact ⟨ret_bool HE.out.symm, HB.out⟩

set_option maxRecDepth 100000 in
set_option maxHeartbeats 2000000 in
theorem incl_empty (leaf root : ByteArray) (i0 n0 : Nat) (a : Option Addr) (cap : Nat) (w : World) (hn : n0 < 9223372036854775808) (hin : i0 < n0) (hl : leaf.size = 32) (hr : root.size = 32) :
    Calls Tryd.prog 41 #[.string leaf, .int .i64 i0, .int .i64 n0, .slice a 0 cap, .string root] w fun e w' => e = .returned (.bool (decide (incl n0 i0 [] leaf = some root))) ∧ Below w.heap.size w w' := by
  have HWd := hideT (wide_spec a cap [] w 0 (.inl rfl) (by simp))
  have g1 : ¬ (n0 : Int) ≤ i0 := by omega
  rw [show wide [] = true from rfl] at HWd
  go_enter Tryd.func41, Tryd.ntmps41
  go_wp2_with fail
  refine HWd.out.mono ?_
  rintro e w1 ⟨rfl, hw1⟩
  subst w1
  go_wp2_with fail
  go_loopw [14, 11, 12, 13] (fun kv av lv hv wr => kv = .int .i64 0 ∧ av = .int .i64 i0 ∧ lv = .int .i64 ((n0 : Int) - 1) ∧ hv = .string leaf ∧ wr = w) (fun _ _ _ _ _ => 0)
  case atStart => exact ⟨rfl, rfl, rfl, rfl, rfl⟩
  case round =>
    obtain ⟨rfl, rfl, rfl, rfl, hw⟩ := hrel
    subst hw
    by_cases h1 : n0 = 1
    · subst h1
      obtain rfl : i0 = 0 := by omega
      have HE : Hid (decide (incl 1 0 [] leaf = some root) = decide (leaf = root)) := by
        unfold Hid
        rw [incl_one, if_pos rfl]
        simp
      go_wp2_with fail
      go_ret
      exact ⟨ret_bool (by rw [HE.out]; exact str_eq _ _), Below.refl _ _⟩
    · have HE : Hid (decide (incl n0 i0 [] leaf = some root) = false) := by
        unfold Hid
        rw [incl_none n0 i0 leaf (by omega)]
        rfl
      have gy : ((n0 : Int) - 1 == 0) = false := by simp; omega
      go_wp2_with fail
      go_ret
      exact ⟨ret_bool HE.out.symm, Below.refl _ _⟩

theorem incl_in (leaf root : ByteArray) (i0 n0 : Nat) (p : List ByteArray) (a : Option Addr) (cap B : Nat) (w : World) (hn : n0 < 9223372036854775808) (hin : i0 < n0) (hp : p.length ≤ 63) (hl : leaf.size = 32) (hr : root.size = 32) (hw : wide p = true) (hs : Strs w B a p) (hB : B ≤ w.heap.size) :
    Calls Tryd.prog 41 #[.string leaf, .int .i64 i0, .int .i64 n0, .slice a p.length cap, .string root] w fun e w' => e = .returned (.bool (decide (incl n0 i0 p leaf = some root))) ∧ Below w.heap.size w w' := by
  rcases hs with rfl | ⟨b, off, rfl, hb, hc⟩
  · exact incl_empty leaf root i0 n0 a cap w hn hin hl hr
  · exact incl_at leaf root i0 n0 p b off cap B w hn hin hp hl hr hw hb hc hB

set_option maxRecDepth 100000 in
set_option maxHeartbeats 4000000 in
theorem incl_spec (leaf root : ByteArray) (i n : Int) (p : List ByteArray) (a : Option Addr) (cap B : Nat) (w : World) (hn : n < 9223372036854775808) (hp : p.length ≤ 1048576) (hs : Strs w B a p) (hB : B ≤ w.heap.size) :
    Calls Tryd.prog 41 #[.string leaf, .int .i64 i, .int .i64 n, .slice a p.length cap, .string root] w fun e w' => e = .returned (.bool (inclB leaf i n p root)) ∧ Below w.heap.size w w' := by
  have HD := hideT (wide_spec a cap p w B hs hp)
  have HIN := hideT (fun (i0 n0 : Nat) h1 h2 h3 h4 h5 h6 => incl_in leaf root i0 n0 p a cap B w h1 h2 h3 h4 h5 h6 hs hB)
  have HPath := hideT (inclB_path leaf i n p root)
  clear hs
  by_cases h63 : 63 < p.length
  · have HF := hideT (HPath.out (by rw [decide_eq_false (by omega)]; rfl))
    generalize p.length = m at hp HD h63 ⊢
    go_enter Tryd.func41, Tryd.ntmps41
    go_wp2_with fail
    go_ret
    exact ⟨ret_bool HF.out.symm, Below.refl _ _⟩
  · cases h3 : wide p with
    | false =>
      have HF := hideT (HPath.out (by rw [h3, Bool.and_false]))
      rw [h3] at HD
      clear h3
      generalize p.length = m at hp HD h63 ⊢
      go_enter Tryd.func41, Tryd.ntmps41
      go_wp2_with fail
      refine HD.out.mono ?_
      rintro e w1 ⟨rfl, hw⟩
      subst w1
      go_wp2_with fail
      go_ret
      exact ⟨ret_bool HF.out.symm, Below.refl _ _⟩
    | true =>
      have HT : Hid ((decide (p.length ≤ 63) && wide p) = true) := by
        unfold Hid
        rw [h3, decide_eq_true (by omega)]
        rfl
      by_cases hl : leaf.size = 32
      · by_cases hr : root.size = 32
        · by_cases hi0 : i < 0
          · have HF := hideT (inclB_low leaf i n p root hi0)
            rw [h3] at HD
            clear h3 HIN
            generalize p.length = m at hp HD h63 ⊢
            go_enter Tryd.func41, Tryd.ntmps41
            go_wp2_with fail
            refine HD.out.mono ?_
            rintro e w1 ⟨rfl, hw⟩
            subst w1
            go_wp2_with fail
            go_ret
            exact ⟨ret_bool HF.out.symm, Below.refl _ _⟩
          · by_cases hin : i < n
            · obtain ⟨i', rfl⟩ : ∃ k : Nat, i = k := ⟨i.toNat, by omega⟩
              obtain ⟨n', rfl⟩ : ∃ k : Nat, n = k := ⟨n.toNat, by omega⟩
              rw [inclB_in leaf i' n' p root hl hr HT.out (by omega)]
              exact HIN.out i' n' (by omega) (by omega) (by omega) hl hr h3
            · have HF := hideT (inclB_high leaf i n p root hin)
              have hin' : n ≤ i := by omega
              rw [h3] at HD
              clear h3 HIN
              generalize p.length = m at hp HD h63 ⊢
              go_enter Tryd.func41, Tryd.ntmps41
              go_wp2_with fail
              refine HD.out.mono ?_
              rintro e w1 ⟨rfl, hw⟩
              subst w1
              go_wp2_with fail
              go_ret
              exact ⟨ret_bool HF.out.symm, Below.refl _ _⟩
        · have HF := hideT (inclB_root leaf i n p root hr)
          rw [h3] at HD
          clear h3 HIN
          generalize p.length = m at hp HD h63 ⊢
          go_enter Tryd.func41, Tryd.ntmps41
          go_wp2_with fail
          refine HD.out.mono ?_
          rintro e w1 ⟨rfl, hw⟩
          subst w1
          go_wp2_with fail
          go_ret
          exact ⟨ret_bool HF.out.symm, Below.refl _ _⟩
      · have HF := hideT (inclB_leaf leaf i n p root hl)
        rw [h3] at HD
        clear h3 HIN
        generalize p.length = m at hp HD h63 ⊢
        go_enter Tryd.func41, Tryd.ntmps41
        go_wp2_with fail
        refine HD.out.mono ?_
        rintro e w1 ⟨rfl, hw⟩
        subst w1
        go_wp2_with fail
        go_ret
        exact ⟨ret_bool HF.out.symm, Below.refl _ _⟩
end Go.Proofs.YteiicafjjcnioaaDoor.Tr
