/- The walk of spec.RangeAdd. -/
import Derived.Test.YteiicafjjcnioaaDoorAddRows2
import Derived.Test.YteiicafjjcnioaaDoorAddYes
import Derived.Test.YteiicafjjcnioaaDoorTreeTop
import Derived.Deep.RegionLaw
import Derived.Deep.CutRange
namespace Go.Proofs.YteiicafjjcnioaaDoor.Tr
open Go.RowKit
open Go.Proofs.YteiicafjjcnioaaDoor.St
open Go.Proofs.YteiicafjjcnioaaDoor.Sh (Vars leafV leafV_size l03Leaf_any l03Node_any nodeV nodeV_size step_append_own)

set_option maxRecDepth 100000 in
set_option maxHeartbeats 4000000 in
theorem add_spec_big (n : Int) (p : List ByteArray) (t : ByteArray) (a : Option Addr) (cap : Nat) (w : World) (ht : t.size ≤ maxLen) (hbig : 8000 < t.size) :
    Calls Tryd.prog 39 #[.agg #[.int .i64 n, .slice a p.length cap], .string t] w fun e w' => ∃ v, e = .returned (.agg #[.int .i64 (addN n p t), v]) ∧ OwnS w' w.heap.size v (addR n p t) ∧ Below w.heap.size w w' := by
  obtain ⟨e1, e2⟩ := add_big n p t hbig
  rw [e1, e2]
  clear e1 e2
  unfold maxLen at ht
  generalize p.length = m
  go_enter Tryd.func39, Tryd.ntmps39
  go_wp2_with fail
  refine bodyPost_ret (v := .agg #[.int .i64 0, .slice none 0 0]) (by simp [results, Tryd.results39, go_sem]) rfl ⟨.slice none 0 0, rfl, OwnS.nil _ _, ?_⟩
  exact ((Below.refl _ _).alloc (Nat.le_refl _) _).alloc (by simp) _


set_option maxRecDepth 100000 in
set_option maxHeartbeats 40000000 in
theorem add_spec_small (n : Int) (p : List ByteArray) (t : ByteArray) (b off cap B : Nat) (w : World) (hp : p.length ≤ 1048576) (ht : t.size ≤ maxLen) (hs : Strs w B (some ⟨b, off, none⟩) p) (hB : B ≤ w.heap.size) (hbig : ¬ 8000 < t.size) :
    Calls Tryd.prog 39 #[.agg #[.int .i64 n, .slice (some ⟨b, off, none⟩) p.length cap], .string t] w fun e w' => ∃ v, e = .returned (.agg #[.int .i64 (addN n p t), v]) ∧ OwnS w' w.heap.size v (addR n p t) ∧ Below w.heap.size w w' := by
  unfold maxLen at ht
  obtain ⟨i0, hif, hz0, hz1, hz2⟩ := info_parts Tryd.infoS9
  have HRt := hideT (fun (W : World) (hW : Below w.heap.size w W) => rng_spec n p (some ⟨b, off, none⟩) cap B W hp (hs.after hW hB) (Nat.le_trans hB hW.size))
  have HCe : Hid (∀ W : World, Below w.heap.size w W → ∀ j (h : j < p.length), W.cell? ⟨b, off + j, none⟩ = some (.string p[j])) := fun W hW j h => by
    obtain ⟨b', off', hh, hb', hc'⟩ := (hs.after hW hB).some (by omega)
    simp at hh
    obtain ⟨rfl, rfl⟩ := hh
    exact hc' j h
  clear hs
  obtain ⟨m, hm⟩ : ∃ m, m = p.length := ⟨_, rfl⟩
  have HM := hideT hm
  rw [← hm] at hp HRt ⊢
  clear hm
  obtain ⟨rn, hrn⟩ : ∃ rn, rn = addN n p t := ⟨_, rfl⟩
  obtain ⟨rl, hrl⟩ : ∃ rl, rl = addR n p t := ⟨_, rfl⟩
  rw [← hrn, ← hrl]
  have HRN := hideT hrn
  have HRL := hideT hrl
  clear hrn hrl
  go_enter Tryd.func39, Tryd.ntmps39
  go_upto_region 3 with fail
  go_cut [5] from 13 to 19 (fun s5 wx => ∃ (vb : Nat) (a1 : Option Addr) (c1 : Nat), s5 = .pointer (some ⟨vb, 0, none⟩) ∧ Aft3 w wx n (.slice (some ⟨b, off, none⟩) m cap) vb (.slice a1 m c1) p)
  case first =>
    go_region_law (first | (refine step_append_own rfl (.tmp 15) (.tmp 17) 33 rfl (w.heap.size + 2) 9 i0 (.string ⟨#[]⟩) 1 16 Tryd.underlying33 hif hz0 hz1 hz2 rfl (by decide) (.slice (some ⟨w.heap.size + 1 + 1, 0, none⟩) 0 0) 0 [] rfl (by with_reducible exact emptyAtD (new3 w _ _ _ _) (by omega)) ⟨b, off, none⟩ m cap (p.map Value.string) rfl (by rw [map_len1, ← HM.out]) (map_cell1 (HCe.out _ (by with_reducible exact (bel3 w _ _ _).drew))) (map_one1 p) (by unfold maxLen; omega) (by omega) (by simp <;> omega) ?_; intro v3 w3 hown3 hgrow3; have HG0 := hideT (grownA (n := n) (x1 := .slice (some ⟨b, off, none⟩) m cap) HM hown3 hgrow3 rfl); have HAf := hideT HG0.out.fresh; have HG := HG0; have cA := (((Below.refl _ _).alloc (Nat.le_refl _) _ : Below w3.heap.size w3 (w3.alloc (.cells #[.int .i64 0, .slice none 0 0] 40))).cell (p := ⟨w.heap.size, 0, none⟩) (lt_of_row HG0.out.r0)).trans (cell_of_row w3 _ 0 _ _ _ HG0.out.r0); simp at cA; obtain ⟨a1, c1, hv1⟩ := own_slice HM HG.out.own; subst v3; have c20 := cell_of_row w3 _ 0 _ _ _ HG.out.r0; have c21 := cell_of_row w3 _ 1 _ _ _ HG.out.r0; simp at c20 c21; clear hown3 hgrow3) | (refine step_append_own rfl (.tmp 15) (.tmp 17) 33 rfl (w.heap.size + 2) 9 i0 (.string ⟨#[]⟩) 1 16 Tryd.underlying33 hif hz0 hz1 hz2 rfl (by decide) (.slice (some ⟨w.heap.size + 1 + 1 + 1, 0, none⟩) 0 0) 0 [] rfl (by with_reducible exact emptyAtD (new4 w _ _ _ _ _) (by omega)) ⟨b, off, none⟩ m cap (p.map Value.string) rfl (by rw [map_len1, ← HM.out]) (map_cell1 (HCe.out _ (by with_reducible exact (bel4 w _ _ _ _).drew))) (map_one1 p) (by unfold maxLen; omega) (by omega) (by simp <;> omega) ?_; intro v3 w3 hown3 hgrow3; have HGG := hideT (grownB (n := n) (x1 := .slice (some ⟨b, off, none⟩) m cap) HM hown3 hgrow3 rfl); have HAf := hideT (HGG.out.1.stored HGG.out.2 (by omega)); have HG := hideT HGG.out.1; have cv0 := cell_of_row w3 _ 0 _ _ _ HGG.out.2; have cv1 := cell_of_row w3 _ 1 _ _ _ HGG.out.2; have zv0 := frozen_of_row w3 _ 0 _ _ HGG.out.2; have zv1 := frozen_of_row w3 _ 1 _ _ HGG.out.2; simp at cv0 cv1; obtain ⟨a1, c1, hv1⟩ := own_slice HM HG.out.own; subst v3; have c20 := cell_of_row w3 _ 0 _ _ _ HG.out.r0; have c21 := cell_of_row w3 _ 1 _ _ _ HG.out.r0; simp at c20 c21; clear hown3 hgrow3) | (refine step_append_own rfl (.tmp 15) (.tmp 17) 33 rfl (w.heap.size + 2) 9 i0 (.string ⟨#[]⟩) 1 16 Tryd.underlying33 hif hz0 hz1 hz2 rfl (by decide) (.slice (some ⟨w.heap.size + 1 + 1, 0, none⟩) 0 0) 0 [] rfl (by with_reducible exact emptyAtD ((Below.heap_alloc _ _ _ (by simp)).trans (new3 w _ _ _ _)) (by omega)) ⟨b, off, none⟩ m cap (p.map Value.string) rfl (by rw [map_len1, ← HM.out]) (map_cell1 (HCe.out _ (by with_reducible exact (bel4 w _ _ _ _).drew))) (map_one1 p) (by unfold maxLen; omega) (by omega) (by simp <;> omega) ?_; intro v3 w3 hown3 hgrow3; have HGG := hideT (grownC (n := n) (x1 := .slice (some ⟨b, off, none⟩) m cap) HM hown3 hgrow3 rfl); have HAf := hideT (HGG.out.1.stored HGG.out.2 (by omega)); have HG := hideT HGG.out.1; have cv0 := cell_of_row w3 _ 0 _ _ _ HGG.out.2; have cv1 := cell_of_row w3 _ 1 _ _ _ HGG.out.2; have zv0 := frozen_of_row w3 _ 0 _ _ HGG.out.2; have zv1 := frozen_of_row w3 _ 1 _ _ HGG.out.2; simp at cv0 cv1; obtain ⟨a1, c1, hv1⟩ := own_slice HM HG.out.own; subst v3; have c20 := cell_of_row w3 _ 0 _ _ _ HG.out.r0; have c21 := cell_of_row w3 _ 1 _ _ _ HG.out.r0; simp at c20 c21; clear hown3 hgrow3))
    all_goals (go_wp2_with fail; go_meet; exact ⟨_, a1, c1, rfl, HAf.out⟩)
  case rest =>
    obtain ⟨vb, a1, c1, rfl, hA⟩ := hcut
    have HA := hideT hA
    clear hA
    have c00 := cell_of_row wc _ 0 _ _ _ HA.out.r0
    have c01 := cell_of_row wc _ 1 _ _ _ HA.out.r0
    simp at c00 c01
    go_wp2_with fail
    refine (HRt.out _ HA.out.low).mono ?_
    rintro e w4 ⟨rfl, hb4⟩
    have HA4 := hideT (HA.out.below hb4)
    clear HA hb4 c00 c01
    have c00 := cell_of_row w4 _ 0 _ _ _ HA4.out.r0
    have c01 := cell_of_row w4 _ 1 _ _ _ HA4.out.r0
    have c10 := cell_of_row w4 _ 0 _ _ _ HA4.out.r1
    have c11 := cell_of_row w4 _ 1 _ _ _ HA4.out.r1
    have z10 := frozen_of_row w4 _ 0 _ _ HA4.out.r1
    have z11 := frozen_of_row w4 _ 1 _ _ HA4.out.r1
    have cv0 := cell_of_row w4 _ 0 _ _ _ HA4.out.rv
    have cv1 := cell_of_row w4 _ 1 _ _ _ HA4.out.rv
    have zv0 := frozen_of_row w4 _ 0 _ _ HA4.out.rv
    have zv1 := frozen_of_row w4 _ 1 _ _ HA4.out.rv
    simp at c00 c01 c10 c11 cv0 cv1
    by_cases hok : addOk n p t = true
    · obtain ⟨hr, hk1, ht1⟩ := addOk_facts n p t hok
      obtain ⟨k0, _, hl, hwd⟩ := rngB_facts n p hr
      obtain ⟨e1, e2⟩ := add_yes n p t hbig hok
      have E1 := hideT (HRN.out.trans e1)
      have E2 := hideT (HRL.out.trans e2)
      have HW := hideT ((wide_yes p).1 hwd)
      have HLS := hideT (leafV_size t)
      obtain ⟨k, hk⟩ : ∃ k : Nat, n = k := ⟨n.toNat, by omega⟩
      have HNk := hideT hk
      rw [show n.toNat = k by omega] at hl E2
      rw [← HM.out] at hl E2
      have HOn := hideT hl
      clear e1 e2 hok hwd hl hk
      have gk : decide ((1000000 : Int) ≤ n) = false := by simp; omega
      have gt : decide ((100 : Int) < (t.size : Int)) = false := by simp; omega
      rw [hr]
      clear hr
      go_wp2_with fail
      refine (l03Leaf_any t w4 (by omega)).mono ?_
      obtain ⟨ls, hls⟩ : ∃ ls, ls = leafV t := ⟨_, rfl⟩
      rw [← hls] at HLS E2 ⊢
      clear hls
      rintro e w5 ⟨rfl, hb5⟩
      have HA5 := hideT (HA4.out.below hb5)
      clear hb5 HA4 c00 c01 c10 c11 z10 z11 cv0 cv1 zv0 zv1
      have c00 := cell_of_row w5 _ 0 _ _ _ HA5.out.r0
      simp at c00
      go_wp2_with fail
      clear c00
      go_loopw [6, 7] (fun hv lv wr => ∃ (j low : Nat) (h : ByteArray), hv = .string h ∧ lv = .int .i64 (low : Int) ∧ Aft3 w wr n (.slice (some ⟨b, off, none⟩) m cap) vb (.slice a1 j c1) (p.take j) ∧ j ≤ m ∧ j = ones low ∧ h.size = 32 ∧ rl = carry p j low h ∧ low ≤ 1000000) (fun _ lv _ => (intOf lv).toNat)
      case atStart => exact ⟨m, k, ls, rfl, by rw [HNk.out], (by rw [HM.out, List.take_length, ← HM.out]; exact HA5.out), Nat.le_refl _, HOn.out, HLS.out, E2.out, by have := HNk.out; omega⟩
      case round =>
        obtain ⟨j, low, h, rfl, rfl, hA, hj, hjo, hh, hca, hlow⟩ := hrel
        have HB := hideT hA
        have HCa := hideT hca
        have HJo := hideT hjo
        clear hA hca hjo
        by_cases hodd : low % 2 = 1
        · have HO := hideT (ones_odd low hodd)
          have hj1 : 1 ≤ j := by have := HJo.out; have := HO.out; omega
          obtain ⟨i, rfl⟩ : ∃ i, j = i + 1 := ⟨j - 1, by omega⟩
          have hip : i < p.length := by have := HM.out; omega
          have hlt : (p.take (i + 1)).length = i + 1 := by rw [List.length_take]; omega
          obtain ⟨g, cap', hv, hg, hcap', ho⟩ : ∃ g cap, Value.slice a1 (i + 1) c1 = .slice (some ⟨g, 0, none⟩) (i + 1) cap ∧ w.heap.size + 2 ≤ g ∧ i + 1 ≤ cap ∧ IsO wr g 9 (p.take (i + 1)) := by
            rcases HB.out.own.split with ⟨_, h0⟩ | hh
            · rw [h0] at hlt
              simp at hlt
            · rw [hlt] at hh
              exact hh
          simp at hv
          obtain ⟨rfl, rfl⟩ := hv
          have ci : wr.cell? ⟨g, i, none⟩ = some (.string p[i]) := by
            have := ho.cell (j := i) (by omega)
            rw [List.getElem_take] at this
            exact this
          have HCo := hideT (carry_odd p i low h hodd hip)
          have HSz := hideT (HW.out i hip)
          have hs32 := HW.out i hip
          obtain ⟨s, hse⟩ : ∃ s, s = p[i] := ⟨_, rfl⟩
          rw [← hse] at ci HSz HCo hs32
          clear hse ho hlt
          have cv1 := cell_of_row wr _ 1 _ _ _ HB.out.rv
          simp at cv1
          have g1 : ((i + 1 : Nat) : Int) - 1 = i := by omega
          have m2 : (low : Int) % 2 = 1 := by omega
          go_wp2_with fail
          refine (l03Node_any s h wr (by omega) (by omega)).mono ?_
          rintro e w6 ⟨rfl, hb6⟩
          have HB6 := hideT (HB.out.below hb6)
          clear hb6 ci cv1
          have cv0 := cell_of_row w6 _ 0 _ _ _ HB6.out.rv
          have cv1 := cell_of_row w6 _ 1 _ _ _ HB6.out.rv
          have zv1 := frozen_of_row w6 _ 1 _ _ HB6.out.rv
          simp at cv0 cv1
          clear m2
          go_wp2_with fail
          go_roundw
          case rel => exact ⟨i, low / 2, nodeV s h, rfl, by simp, HB6.out.cutS hip, by omega, by have := HJo.out; have := HO.out; omega, nodeV_size _ _, by rw [HCa.out, HCo.out], by omega⟩
          case measure => simp [intOf]; omega
        · have m2 : (low : Int) % 2 = 0 := by omega
          have HCe2 := hideT (carry_even p j low h hodd)
          have hlt : (p.take j).length = j := by rw [List.length_take]; have := HM.out; omega
          have HLt := hideT hlt
          obtain ⟨r, hre⟩ : ∃ r, r = (p.take j ++ [h]).length := ⟨_, rfl⟩
          have HRe := hideT hre
          have hOw := HB.out.own
          unfold OwnS at hOw
          rw [hlt] at hOw
          have HOw := hideT hOw
          clear hre hlt hOw
          have hzr := HB.out.low.size
          have hzr1 := lt_of_row HB.out.r1
          have c00 := cell_of_row wr _ 0 _ _ _ HB.out.r0
          have cv1 := cell_of_row wr _ 1 _ _ _ HB.out.rv
          simp at c00 cv1
          have hfar := HB.out.far
          have n0 : ¬ w.heap.size = vb := by omega
          have n1 : ¬ w.heap.size + 1 = vb := by omega
          have n2 : ¬ vb = w.heap.size := by omega
          have n3 : ¬ vb = w.heap.size + 1 := by omega
          have gn : IntKind.i64.wrap (n + 1) = n + 1 := by simp [IntKind.wrap, IntKind.bits, IntKind.signed]; omega
          go_wp2_with (at_builtin; refine wpList_append_own _ rfl (.tmp 60) (.tmp 62) 33 rfl (w.heap.size + 2) 9 i0 (.string ⟨#[]⟩) 1 16 Tryd.underlying33 hif hz0 hz1 hz2 rfl (by decide) (.slice a1 j c1) j ((p.take j).map Value.string) rfl (HOw.out.alloc _) ⟨wr.heap.size, 0, none⟩ 1 1 [.string h] rfl rfl (one_newS wr _ _) (one_cellS _) ?c3 ?c4 ?c5 ?_; (case c3 => unfold maxLen; omega); (case c4 => omega); (case c5 => simp; omega); intro v8 w8 hown8 hgrow8 _; obtain ⟨b8, G0, G1, GV, O8⟩ := HB.out.app (by rw [HLt.out]; exact hown8) hgrow8; have HB8 := hideT b8; have HG0 := hideT G0; have HG1 := hideT G1; have HGV := hideT GV; have HO8 := hideT O8; obtain ⟨a8, c8, hv8⟩ := own_slice HRe HO8; clear hown8 hgrow8 b8 G0 G1 GV O8 c00 cv1; subst v8; have c00 := cell_of_row w8 _ 0 _ _ _ HG0.out; have c10 := cell_of_row w8 _ 0 _ _ _ HG1.out; have c11 := cell_of_row w8 _ 1 _ _ _ HG1.out; have z10 := frozen_of_row w8 _ 0 _ _ HG1.out; have z11 := frozen_of_row w8 _ 1 _ _ HG1.out; have cv0 := cell_of_row w8 _ 0 _ _ _ HGV.out; have cv1 := cell_of_row w8 _ 1 _ _ _ HGV.out; have zv0 := frozen_of_row w8 _ 0 _ _ HGV.out; have zv1 := frozen_of_row w8 _ 1 _ _ HGV.out; simp at c00 c10 c11 cv0 cv1)
          exact bodyPost_ret (v := .agg #[.int .i64 (n + 1), .slice a8 r c8]) (by simp [results, Tryd.results39, go_sem, c10, c11]) rfl ⟨.slice a8 r c8, by rw [E1.out], by rw [HCa.out, HCe2.out]; exact OwnS.mono (own_end HO8.out HGV.out) (by omega), (((HB8.out.setCell (by simp; omega) _).setCell (by simp; omega) _).setCell (by simp) _).setCell (by simp) _⟩
    · obtain ⟨e1, e2⟩ := add_no n p t hbig hok
      have E1 := hideT (HRN.out.trans e1)
      have E2 := hideT (HRL.out.trans e2)
      clear e1 e2
      have HF := hideT (addOk_no' n p t hok)
      clear hok
      cases hr : rngB n p with
      | false =>
        go_wp2_with fail
        refine bodyPost_ret (v := .agg #[.int .i64 n, .slice a1 m c1]) (by simp [results, Tryd.results39, go_sem, c10, c11]) rfl ⟨.slice a1 m c1, by rw [E1.out], by rw [E2.out]; exact OwnS.mono (own_set_low (own_set_low HA4.out.own _ _ (by simp)) _ _ (by simp)) (by omega), (HA4.out.low.setCell (by simp) _).setCell (by simp) _⟩
      | true =>
        by_cases h1 : 1000000 ≤ n
        · go_wp2_with fail
          refine bodyPost_ret (v := .agg #[.int .i64 n, .slice a1 m c1]) (by simp [results, Tryd.results39, go_sem, c10, c11]) rfl ⟨.slice a1 m c1, by rw [E1.out], by rw [E2.out]; exact OwnS.mono (own_set_low (own_set_low HA4.out.own _ _ (by simp)) _ _ (by simp)) (by omega), (HA4.out.low.setCell (by simp) _).setCell (by simp) _⟩
        · have h2 := HF.out hr (by omega)
          have h3 : (100 : Int) < (t.size : Int) := by omega
          have h4 : decide ((1000000 : Int) ≤ n) = false := by simp; omega
          go_wp2_with fail
          refine bodyPost_ret (v := .agg #[.int .i64 n, .slice a1 m c1]) (by simp [results, Tryd.results39, go_sem, c10, c11]) rfl ⟨.slice a1 m c1, by rw [E1.out], by rw [E2.out]; exact OwnS.mono (own_set_low (own_set_low HA4.out.own _ _ (by simp)) _ _ (by simp)) (by omega), (HA4.out.low.setCell (by simp) _).setCell (by simp) _⟩

theorem add_spec (n : Int) (p : List ByteArray) (t : ByteArray) (b off cap B : Nat) (w : World) (hp : p.length ≤ 1048576) (ht : t.size ≤ maxLen) (hs : Strs w B (some ⟨b, off, none⟩) p) (hB : B ≤ w.heap.size) :
    Calls Tryd.prog 39 #[.agg #[.int .i64 n, .slice (some ⟨b, off, none⟩) p.length cap], .string t] w fun e w' => ∃ v, e = .returned (.agg #[.int .i64 (addN n p t), v]) ∧ OwnS w' w.heap.size v (addR n p t) ∧ Below w.heap.size w w' := by
  by_cases hbig : 8000 < t.size
  · exact add_spec_big n p t _ cap w ht hbig
  · exact add_spec_small n p t b off cap B w hp ht hs hB hbig
end Go.Proofs.YteiicafjjcnioaaDoor.Tr
