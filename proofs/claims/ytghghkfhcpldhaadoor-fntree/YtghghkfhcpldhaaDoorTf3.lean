/- Texts put together: AddYes, AddSpec. -/
import Derived.Test.YtghghkfhcpldhaaDoorTf1
import Derived.Test.YtghghkfhcpldhaaDoorTf9
import Derived.Deep.RegionLaw
import Derived.Deep.CutRange
/- The walk of impl.RangeAdd where it adds. -/
namespace Go.Proofs.YtghghkfhcpldhaaDoor.Tr
open Go.RowKit
open Go.Proofs.YtghghkfhcpldhaaDoor.St
open Go.Proofs.YtghghkfhcpldhaaDoor.Sh (Vars leafV leafV_size leaf_impl leafR_yes nodeV nodeV_size nodeR nodeR_yes node_impl)

theorem and_one (x : Nat) (h : x < 16777216) : bits BinOp.and IntKind.i64 (x : Int) 1 = ((x % 2 : Nat) : Int) := by
  have e : (BitVec.ofInt 64 (x : Int) &&& BitVec.ofInt 64 (1 : Int)).toNat = x &&& 1 := by
    rw [BitVec.toNat_and]
    congr 1
    rw [show BitVec.ofInt 64 (x : Int) = BitVec.ofNat 64 x from BitVec.ofInt_natCast 64 x, BitVec.toNat_ofNat]
    exact Nat.mod_eq_of_lt (by omega)
  show IntKind.i64.wrap ((BitVec.ofInt 64 (x : Int) &&& BitVec.ofInt 64 (1 : Int)).toNat : Int) = _
  rw [e, Nat.and_one_is_mod]
  simp [IntKind.wrap, IntKind.bits, IntKind.signed]
  omega
theorem ones_odd (n : Nat) (h : n % 2 = 1) : ones n = ones (n / 2) + 1 := by
  rw [ones_step]
  omega

theorem added {w wr w8 : World} {v8 : Value} {l : List ByteArray} {r : Nat} {o0 o1 : Obj} (HRe : Hid (r = l.length)) (ho : OwnS w8 (w.heap.size + 2) v8 l) (hb : Below (w.heap.size + 2) wr.drew w8)
    (F1 : Hid (wr.heap[w.heap.size + 1]? = some o1)) (F0 : Hid (wr.heap[w.heap.size]? = some o0)) :
    Hid (OwnS w8 (w.heap.size + 2) v8 l) ∧ Hid (Below (w.heap.size + 2) wr w8) ∧ Hid (w8.heap[w.heap.size + 1]? = some o1) ∧ Hid (w8.heap[w.heap.size]? = some o0) ∧ ∃ a c, v8 = .slice a r c := by
  have hb' : Below (w.heap.size + 2) wr w8 := ⟨hb.os, hb.tape, hb.output, hb.size, hb.block⟩
  exact ⟨ho, hb', (hb'.block _ (by omega)).trans F1.out, (hb'.block _ (by omega)).trans F0.out, own_slice HRe ho⟩

set_option maxRecDepth 100000 in
set_option maxHeartbeats 8000000 in
theorem add_impl_yes (k : Nat) (p : List ByteArray) (t : ByteArray) (a0 : Option Addr) (cap B : Nat) (w : World) (hp : p.length ≤ 1048576) (ht : t.size ≤ maxLen) (hs : Strs w B a0 p) (ha : a0 = none → p.length = 0 ∧ cap = 0) (hB : B ≤ w.heap.size) (hV : Vars w) (hok : addOk k p t = true) :
    Calls Tryd.prog 17 #[.agg #[.int .i64 k, .slice a0 p.length cap], .string t] w fun e w' => ∃ v, e = .returned (.agg #[.int .i64 (addN k p t), v]) ∧ OwnS w' w.heap.size v (addR k p t) ∧ Below w.heap.size w w' := by
  obtain ⟨hr, hk1, ht1⟩ := addOk_facts k p t hok
  obtain ⟨_, _, hl, hwd⟩ := rngB_facts k p hr
  obtain ⟨e1, e2⟩ := add_yes k p t (by omega) hok
  rw [e1, e2, show ((k : Int)).toNat = k by omega]
  rw [show ((k : Int)).toNat = k by omega] at hl
  clear e1 e2 hok
  unfold maxLen at ht
  obtain ⟨i0, hif, hz0, hz1, hz2⟩ := info_parts Tryd.infoS9
  have HRt := hideT (fun (W : World) (hW : Below w.heap.size w W) => rng_impl k p a0 cap B W hp (hs.after hW hB) (Nat.le_trans hB hW.size))
  rw [hr] at HRt
  have HCe : Hid (∀ W : World, Below w.heap.size w W → ∀ d, a0 = some d → ∀ (j : Nat) (u : Value), (p.map Value.string)[j]? = some u → W.cell? (d.add j) = some u) := fun W hW d hd j u hj => by
    have hjl : j < p.length := by
      have := (List.getElem?_eq_some_iff.1 hj).1
      simpa using this
    obtain ⟨b', off', hh, hb', hc'⟩ := (hs.after hW hB).some (by omega)
    obtain rfl : d = ⟨b', off', none⟩ := Option.some.inj (hd.symm.trans hh)
    rw [show (⟨b', off', none⟩ : Addr).add j = ⟨b', off' + j, none⟩ by unfold Addr.add; split <;> simp_all, hc' j hjl]
    rw [List.getElem?_map, List.getElem?_eq_getElem hjl] at hj
    exact hj
  have HW := hideT ((wide_yes p).1 hwd)
  have HLf := hideT (fun (W : World) (hV : Vars W) => leaf_impl t W (by unfold maxLen; omega) hV)
  rw [leafR_yes t (by omega)] at HLf
  have HV := hideT hV
  have hv2 := hV.two
  have HLS := hideT (leafV_size t)
  clear hs hr hwd hV
  obtain ⟨m, hm⟩ : ∃ m, m = p.length := ⟨_, rfl⟩
  have HM := hideT hm
  obtain ⟨ls, hls⟩ : ∃ ls, ls = leafV t := ⟨_, rfl⟩
  rw [← hls] at HLf HLS ⊢
  clear hls
  obtain ⟨q, hq⟩ : ∃ q, q = carry p p.length k ls := ⟨_, rfl⟩
  rw [← hq]
  rw [← hm] at hp HRt hl hq ha ⊢
  have HNA := hideT ha
  have HQ := hideT hq
  have HOn := hideT hl
  clear hm hq hl ha
  obtain ⟨n, hn⟩ : ∃ n : Int, n = k := ⟨_, rfl⟩
  have HNk := hideT hn
  rw [← hn] at hk1 HRt ⊢
  clear hn
  have gk : (n == (1000000 : Int)) = false := by simp; omega
  have gt : decide ((100 : Int) < (t.size : Int)) = false := by simp; omega
  go_enter Tryd.func17, Tryd.ntmps17
  go_wp2_with (at_builtin; refine wpList_append_opt _ rfl _ (.tmp 15) 23 rfl (w.heap.size + 2) 9 i0 (.string ⟨#[]⟩) 1 16 Tryd.underlying23 hif hz0 hz1 hz2 rfl (by decide) (.slice none 0 0) 0 [] rfl (World.ownsRow_nil _ _ _ _) a0 m cap HNA.out (p.map Value.string) rfl (by rw [map_len1, ← HM.out]) (HCe.out _ (((Below.refl _ _).alloc (Nat.le_refl _) _).alloc (by simp) _)) (map_one1 p) ?c3 ?c4 ?c5 ?_; (case c3 => unfold maxLen; omega); (case c4 => omega); (case c5 => simp); intro v1 w3 hown3 hgrow3 _; obtain ⟨HO3, HB3, HBl3, HBl30⟩ := grown_two HM hown3 hgrow3; obtain ⟨a1, c1, hv1⟩ := own_slice HM HO3; clear hown3 hgrow3; subst v1; have c20 := cell_of_row w3 _ 0 _ _ _ HBl30.out; have c21 := cell_of_row w3 _ 1 _ _ _ HBl30.out; simp at c20 c21)
  refine (HRt.out _ HB3.out).mono ?_
  rintro e w4 ⟨rfl, hb4⟩
  have HO4 := hideT (HO3.out.below hb4)
  have HB4 := hideT (below2 HB3.out hb4)
  have D1 := hideT ((hb4.block (w.heap.size + 1) (lt_of_row HBl3.out)).trans HBl3.out)
  have D0 := hideT ((hb4.block w.heap.size (lt_of_row HBl30.out)).trans HBl30.out)
  have c00 := cell_of_row w4 _ 0 _ _ _ D0.out
  have c01 := cell_of_row w4 _ 1 _ _ _ D0.out
  simp at c00 c01
  clear hb4 c20 c21 HO3 HBl3 HBl30
  go_wp2_with fail
  refine (HLf.out w4 (HV.out.below HB4.out hv2)).mono ?_
  rintro e w5 ⟨rfl, hb5⟩
  have HO5 := hideT (HO4.out.below hb5)
  have HB5 := hideT (below2 HB4.out hb5)
  have E1 := hideT ((hb5.block (w.heap.size + 1) (lt_of_row D1.out)).trans D1.out)
  have E0 := hideT ((hb5.block w.heap.size (lt_of_row D0.out)).trans D0.out)
  clear c00 c01
  have c00 := cell_of_row w5 _ 0 _ _ _ E0.out
  have c01 := cell_of_row w5 _ 1 _ _ _ E0.out
  simp at c00 c01
  have hz5 : w.heap.size + 2 ≤ w5.heap.size := by have := lt_of_row E1.out; omega
  clear hb5 HO4 D1 D0
  go_wp2_with fail
  have C00 := hideT c00
  clear c00 c01
  go_loopw [5, 6, 7] (fun nv hv lv wr => ∃ (j low : Nat) (h : ByteArray) (aa : Option Addr) (cc : Nat), nv = .slice aa j cc ∧ hv = .string h ∧ lv = .int .i64 (low : Int) ∧ Rw wr (w.heap.size + 2) (.slice aa j cc) (p.take j) ∧ j ≤ m ∧ j = ones low ∧ h.size = 32 ∧ q = carry p j low h ∧ low ≤ 1000000 ∧ Below w5.heap.size w5 wr) (fun _ _ lv _ => (intOf lv).toNat)
  case atStart => exact ⟨m, k, ls, a1, c1, rfl, rfl, by rw [HNk.out], .inl (by rw [HM.out, List.take_length, ← HM.out]; exact HO5.out), Nat.le_refl _, HOn.out, HLS.out, HQ.out, by omega, Below.refl _ _⟩
  case round =>
    obtain ⟨j, low, h, aa, cc, rfl, rfl, rfl, hrw, hj, hjo, hh, hca, hlow, hbel⟩ := hrel
    have HB := hideT hbel
    have HRw := hideT hrw
    have HCa := hideT hca
    have HJo := hideT hjo
    have eand := and_one low (by omega)
    clear hbel hrw hca hjo
    by_cases hodd : low % 2 = 1
    · have HO := hideT (ones_odd low hodd)
      rw [hodd] at eand
      have hj1 : 1 ≤ j := by have := HJo.out; have := HO.out; omega
      obtain ⟨i, rfl⟩ : ∃ i, j = i + 1 := ⟨j - 1, by omega⟩
      have hip : i < p.length := by have := HM.out; omega
      have hlt : (p.take (i + 1)).length = i + 1 := by rw [List.length_take]; omega
      obtain ⟨g, cap', hv, hg, hcap', hc⟩ := HRw.out.slice (by omega)
      rw [hlt] at hv hcap'
      simp at hv
      obtain ⟨rfl, rfl⟩ := hv
      have ci : wr.cell? ⟨g, 0 + (i + 1 - 1), none⟩ = some (.string p[i]) := by
        have := hc i (by omega)
        rw [List.getElem_take] at this
        rw [Nat.zero_add, Nat.add_sub_cancel]
        exact this
      have HCut := hideT (Rw.cut (l := p.take (i + 1)) (w := wr) (base := w.heap.size + 2) (g := g) (j := i) (by omega) hg hc)
      rw [List.take_take, Nat.min_eq_left (by omega)] at HCut
      have HCo := hideT (carry_odd p i low h hodd hip)
      have HSz := hideT (HW.out i hip)
      obtain ⟨s, hse⟩ : ∃ s, s = p[i] := ⟨_, rfl⟩
      rw [← hse] at ci HSz HCo
      clear hse hc hlt
      have HN := hideT (nodeR_yes s h HSz.out hh)
      go_wp2_with fail
      refine (cutLast_any g 0 (i + 1) cc s wr (by omega) (by omega) hcap' ci).mono ?_
      rintro e w6 ⟨rfl, hb6⟩
      have HB6 := hideT (HB.out.trans (hb6.mono HB.out.size))
      have HR6 := hideT (HCut.out.below hb6)
      clear hb6 ci
      go_wp2_with fail
      refine (node_impl s h w6 (HV.out.below (below2 HB5.out HB6.out) hv2)).mono ?_
      rw [HN.out]
      rintro e w7 ⟨rfl, hb7⟩
      have HB7 := hideT (HB6.out.trans (hb7.mono HB6.out.size))
      have HR7 := hideT (HR6.out.below hb7)
      clear hb7
      go_wp2_with fail
      go_roundw
      case rel => exact ⟨i, low / 2, nodeV s h, _, _, rfl, rfl, by simp, HR7.out, by omega, by have := HJo.out; have := HO.out; omega, nodeV_size _ _, by rw [HCa.out, HCo.out], by omega, HB7.out⟩
      case measure => simp [intOf]; omega
    · rw [show low % 2 = 0 by omega] at eand
      have HCe2 := hideT (carry_even p j low h hodd)
      obtain ⟨r, hre⟩ : ∃ r, r = (p.take j ++ [h]).length := ⟨_, rfl⟩
      have HRe := hideT hre
      clear hre
      have hlen : (p.take j).length ≤ 1048576 := by rw [List.length_take]; have := HM.out; omega
      have hzr : w.heap.size + 2 ≤ wr.heap.size := Nat.le_trans hz5 HB.out.size
      have F1 := hideT ((HB.out.block (w.heap.size + 1) (lt_of_row E1.out)).trans E1.out)
      have F0 := hideT ((HB.out.block w.heap.size (lt_of_row E0.out)).trans E0.out)
      have HRd := hideT (HRw.out.below (show Below wr.heap.size wr wr.drew from (Below.refl _ _).drew))
      have c00 := cell_of_row wr _ 0 _ _ _ F0.out
      have c01 := cell_of_row wr _ 1 _ _ _ F0.out
      have c10 := cell_of_row wr _ 0 _ _ _ F1.out
      have c11 := cell_of_row wr _ 1 _ _ _ F1.out
      have z10 := frozen_of_row wr _ 0 _ _ F1.out
      have z11 := frozen_of_row wr _ 1 _ _ F1.out
      simp at c00 c01 c10 c11
      have cA : (wr.alloc (.cells #[.string h] 9)).cell? ⟨w.heap.size, 0, none⟩ = some (.int .i64 n) := (((Below.refl _ _).alloc (Nat.le_refl _) _ : Below wr.heap.size wr _).cell (p := ⟨w.heap.size, 0, none⟩) (lt_of_row F0.out)).trans c00
      have gn : IntKind.i64.wrap (n + 1) = n + 1 := by simp [IntKind.wrap, IntKind.bits, IntKind.signed]; have := HNk.out; omega
      go_wp2_with fail
      go_region_law (first | (refine step_append_rw rfl (.tmp 55) (.tmp 57) 23 rfl i0 (.string ⟨#[]⟩) Tryd.underlying23 hif hz0 hz1 hz2 rfl (w.heap.size + 2) (.slice aa j cc) (p.take j) rfl HRd.out rfl (Below.refl _ _) (by simpa using hzr) ⟨wr.heap.size, 0, none⟩ 1 h rfl (one_newS wr.drew _ _) hlen ?_; intro v8 w8 ho8 hb8; obtain ⟨HO8, HB8, G1, G0, a8, c8, hv8⟩ := added HRe ho8 hb8 F1 F0; clear ho8 hb8; subst v8; have c80 := cell_of_row w8 _ 0 _ _ _ G0.out; have c810 := cell_of_row w8 _ 0 _ _ _ G1.out; have c811 := cell_of_row w8 _ 1 _ _ _ G1.out; have z810 := frozen_of_row w8 _ 0 _ _ G1.out; have z811 := frozen_of_row w8 _ 1 _ _ G1.out; simp at c80 c810 c811))
      all_goals (try go_wp2_with fail)
      all_goals exact bodyPost_ret (v := .agg #[.int .i64 (n + 1), .slice a8 r c8]) (by simp [results, Tryd.results17, go_sem, c810, c811]) rfl ⟨.slice a8 r c8, rfl, OwnS.mono (own_set_low (own_set_low (by rw [HCa.out, HCe2.out]; exact HO8.out) _ _ (by simp)) _ _ (by simp)) (by omega), (((below2 HB5.out HB.out).trans (HB8.out.mono (by omega))).setCell (by simp) _).setCell (by simp) _⟩

theorem add_impl (n : Int) (p : List ByteArray) (t : ByteArray) (a0 : Option Addr) (cap B : Nat) (w : World) (hp : p.length ≤ 1048576) (ht : t.size ≤ maxLen) (hs : Strs w B a0 p) (ha : a0 = none → p.length = 0 ∧ cap = 0) (hB : B ≤ w.heap.size) (hV : Vars w) :
    Calls Tryd.prog 17 #[.agg #[.int .i64 n, .slice a0 p.length cap], .string t] w fun e w' => ∃ v, e = .returned (.agg #[.int .i64 (addN n p t), v]) ∧ OwnS w' w.heap.size v (addR n p t) ∧ Below w.heap.size w w' := by
  by_cases hbig : 8000 < t.size
  · exact add_impl_big n p t _ cap w ht hbig
  · by_cases hok : addOk n p t = true
    · have h0 := (rngB_facts n p (addOk_facts n p t hok).1).1
      obtain ⟨k, rfl⟩ : ∃ k : Nat, n = k := ⟨n.toNat, by omega⟩
      exact add_impl_yes k p t a0 cap B w hp ht hs ha hB hV hok
    · exact add_impl_no n p t a0 cap B w hp ht hs ha hB hbig hok
end Go.Proofs.YtghghkfhcpldhaaDoor.Tr

/- The walk of spec.RangeAdd. -/
namespace Go.Proofs.YtghghkfhcpldhaaDoor.Tr
open Go.RowKit
open Go.Proofs.YtghghkfhcpldhaaDoor.St
open Go.Proofs.YtghghkfhcpldhaaDoor.Sh (Vars leafV leafV_size l03Leaf_any l03Node_any nodeV nodeV_size step_append_own)

set_option maxRecDepth 100000 in
set_option maxHeartbeats 4000000 in
theorem add_spec_big (n : Int) (p : List ByteArray) (t : ByteArray) (a : Option Addr) (cap : Nat) (w : World) (ht : t.size ≤ maxLen) (hbig : 8000 < t.size) :
    Calls Tryd.prog 23 #[.agg #[.int .i64 n, .slice a p.length cap], .string t] w fun e w' => ∃ v, e = .returned (.agg #[.int .i64 (addN n p t), v]) ∧ OwnS w' w.heap.size v (addR n p t) ∧ Below w.heap.size w w' := by
  obtain ⟨e1, e2⟩ := add_big n p t hbig
  rw [e1, e2]
  clear e1 e2
  unfold maxLen at ht
  generalize p.length = m
  go_enter Tryd.func23, Tryd.ntmps23
  go_wp2_with fail
  refine bodyPost_ret (v := .agg #[.int .i64 0, .slice none 0 0]) (by simp [results, Tryd.results23, go_sem]) rfl ⟨.slice none 0 0, rfl, OwnS.nil _ _, ?_⟩
  exact ((Below.refl _ _).alloc (Nat.le_refl _) _).alloc (by simp) _


set_option maxRecDepth 100000 in
set_option maxHeartbeats 40000000 in
theorem add_spec_small (n : Int) (p : List ByteArray) (t : ByteArray) (a0 : Option Addr) (cap B : Nat) (w : World) (hp : p.length ≤ 1048576) (ht : t.size ≤ maxLen) (hs : Strs w B a0 p) (ha : a0 = none → p.length = 0 ∧ cap = 0) (hB : B ≤ w.heap.size) (hbig : ¬ 8000 < t.size) :
    Calls Tryd.prog 23 #[.agg #[.int .i64 n, .slice a0 p.length cap], .string t] w fun e w' => ∃ v, e = .returned (.agg #[.int .i64 (addN n p t), v]) ∧ OwnS w' w.heap.size v (addR n p t) ∧ Below w.heap.size w w' := by
  unfold maxLen at ht
  obtain ⟨i0, hif, hz0, hz1, hz2⟩ := info_parts Tryd.infoS9
  have HRt := hideT (fun (W : World) (hW : Below w.heap.size w W) => rng_spec n p a0 cap B W hp (hs.after hW hB) (Nat.le_trans hB hW.size))
  have HCe : Hid (∀ W : World, Below w.heap.size w W → ∀ d, a0 = some d → ∀ (j : Nat) (u : Value), (p.map Value.string)[j]? = some u → W.cell? (d.add j) = some u) := fun W hW d hd j u hj => by
    have hjl : j < p.length := by
      have := (List.getElem?_eq_some_iff.1 hj).1
      simpa using this
    obtain ⟨b', off', hh, hb', hc'⟩ := (hs.after hW hB).some (by omega)
    obtain rfl : d = ⟨b', off', none⟩ := Option.some.inj (hd.symm.trans hh)
    rw [show (⟨b', off', none⟩ : Addr).add j = ⟨b', off' + j, none⟩ by unfold Addr.add; split <;> simp_all, hc' j hjl]
    rw [List.getElem?_map, List.getElem?_eq_getElem hjl] at hj
    exact hj
  clear hs
  obtain ⟨m, hm⟩ : ∃ m, m = p.length := ⟨_, rfl⟩
  have HM := hideT hm
  rw [← hm] at hp HRt ha ⊢
  have HNA := hideT ha
  clear hm ha
  obtain ⟨rn, hrn⟩ : ∃ rn, rn = addN n p t := ⟨_, rfl⟩
  obtain ⟨rl, hrl⟩ : ∃ rl, rl = addR n p t := ⟨_, rfl⟩
  rw [← hrn, ← hrl]
  have HRN := hideT hrn
  have HRL := hideT hrl
  clear hrn hrl
  go_enter Tryd.func23, Tryd.ntmps23
  go_upto_region 3 with fail
  go_cut [5] from 13 to 19 (fun s5 wx => ∃ (vb : Nat) (a1 : Option Addr) (c1 : Nat), s5 = .pointer (some ⟨vb, 0, none⟩) ∧ Aft3 w wx n (.slice a0 m cap) vb (.slice a1 m c1) p)
  case first =>
    go_region_law (first | (refine step_append_opt rfl (.tmp 15) (.tmp 17) 23 rfl (w.heap.size + 2) 9 i0 (.string ⟨#[]⟩) 1 16 Tryd.underlying23 hif hz0 hz1 hz2 rfl (by decide) (.slice (some ⟨w.heap.size + 1 + 1, 0, none⟩) 0 0) 0 [] rfl (by with_reducible exact emptyAtD (new3 w _ _ _ _) (by omega)) a0 m cap HNA.out (p.map Value.string) rfl (by rw [map_len1, ← HM.out]) (HCe.out _ (by with_reducible exact (bel3 w _ _ _).drew)) (map_one1 p) (by unfold maxLen; omega) (by omega) (by simp <;> omega) ?_; intro v3 w3 hown3 hgrow3; have HG0 := hideT (grownA (n := n) (x1 := .slice a0 m cap) HM hown3 hgrow3 rfl); have HAf := hideT HG0.out.fresh; have HG := HG0; have cA := (((Below.refl _ _).alloc (Nat.le_refl _) _ : Below w3.heap.size w3 (w3.alloc (.cells #[.int .i64 0, .slice none 0 0] 34))).cell (p := ⟨w.heap.size, 0, none⟩) (lt_of_row HG0.out.r0)).trans (cell_of_row w3 _ 0 _ _ _ HG0.out.r0); simp at cA; obtain ⟨a1, c1, hv1⟩ := own_slice HM HG.out.own; subst v3; have c20 := cell_of_row w3 _ 0 _ _ _ HG.out.r0; have c21 := cell_of_row w3 _ 1 _ _ _ HG.out.r0; simp at c20 c21; clear hown3 hgrow3) | (refine step_append_opt rfl (.tmp 15) (.tmp 17) 23 rfl (w.heap.size + 2) 9 i0 (.string ⟨#[]⟩) 1 16 Tryd.underlying23 hif hz0 hz1 hz2 rfl (by decide) (.slice (some ⟨w.heap.size + 1 + 1 + 1, 0, none⟩) 0 0) 0 [] rfl (by with_reducible exact emptyAtD (new4 w _ _ _ _ _) (by omega)) a0 m cap HNA.out (p.map Value.string) rfl (by rw [map_len1, ← HM.out]) (HCe.out _ (by with_reducible exact (bel4 w _ _ _ _).drew)) (map_one1 p) (by unfold maxLen; omega) (by omega) (by simp <;> omega) ?_; intro v3 w3 hown3 hgrow3; have HGG := hideT (grownB (n := n) (x1 := .slice a0 m cap) HM hown3 hgrow3 rfl); have HAf := hideT (HGG.out.1.stored HGG.out.2 (by omega)); have HG := hideT HGG.out.1; have cv0 := cell_of_row w3 _ 0 _ _ _ HGG.out.2; have cv1 := cell_of_row w3 _ 1 _ _ _ HGG.out.2; have zv0 := frozen_of_row w3 _ 0 _ _ HGG.out.2; have zv1 := frozen_of_row w3 _ 1 _ _ HGG.out.2; simp at cv0 cv1; obtain ⟨a1, c1, hv1⟩ := own_slice HM HG.out.own; subst v3; have c20 := cell_of_row w3 _ 0 _ _ _ HG.out.r0; have c21 := cell_of_row w3 _ 1 _ _ _ HG.out.r0; simp at c20 c21; clear hown3 hgrow3) | (refine step_append_opt rfl (.tmp 15) (.tmp 17) 23 rfl (w.heap.size + 2) 9 i0 (.string ⟨#[]⟩) 1 16 Tryd.underlying23 hif hz0 hz1 hz2 rfl (by decide) (.slice (some ⟨w.heap.size + 1 + 1, 0, none⟩) 0 0) 0 [] rfl (by with_reducible exact emptyAtD ((Below.heap_alloc _ _ _ (by simp)).trans (new3 w _ _ _ _)) (by omega)) a0 m cap HNA.out (p.map Value.string) rfl (by rw [map_len1, ← HM.out]) (HCe.out _ (by with_reducible exact (bel4 w _ _ _ _).drew)) (map_one1 p) (by unfold maxLen; omega) (by omega) (by simp <;> omega) ?_; intro v3 w3 hown3 hgrow3; have HGG := hideT (grownC (n := n) (x1 := .slice a0 m cap) HM hown3 hgrow3 rfl); have HAf := hideT (HGG.out.1.stored HGG.out.2 (by omega)); have HG := hideT HGG.out.1; have cv0 := cell_of_row w3 _ 0 _ _ _ HGG.out.2; have cv1 := cell_of_row w3 _ 1 _ _ _ HGG.out.2; have zv0 := frozen_of_row w3 _ 0 _ _ HGG.out.2; have zv1 := frozen_of_row w3 _ 1 _ _ HGG.out.2; simp at cv0 cv1; obtain ⟨a1, c1, hv1⟩ := own_slice HM HG.out.own; subst v3; have c20 := cell_of_row w3 _ 0 _ _ _ HG.out.r0; have c21 := cell_of_row w3 _ 1 _ _ _ HG.out.r0; simp at c20 c21; clear hown3 hgrow3))
    all_goals (go_wp2_with fail; go_meet; exact ⟨_, a1, c1, rfl, HAf.out⟩)
  case rest =>
    obtain ⟨vb, a1, c1, rfl, hA⟩ := hcut
    have HA := hideT hA
    clear hA
    have c00 := cell_of_row wc _ 0 _ _ _ HA.out.r0
    have c01 := cell_of_row wc _ 1 _ _ _ HA.out.r0
    simp at c00 c01
    go_wp2_with fail
    refine (HRt.out _ HA.out.low).mono ?_
    rintro e w4 ⟨rfl, hb4⟩
    have HA4 := hideT (HA.out.below hb4)
    clear HA hb4 c00 c01
    have c00 := cell_of_row w4 _ 0 _ _ _ HA4.out.r0
    have c01 := cell_of_row w4 _ 1 _ _ _ HA4.out.r0
    have c10 := cell_of_row w4 _ 0 _ _ _ HA4.out.r1
    have c11 := cell_of_row w4 _ 1 _ _ _ HA4.out.r1
    have z10 := frozen_of_row w4 _ 0 _ _ HA4.out.r1
    have z11 := frozen_of_row w4 _ 1 _ _ HA4.out.r1
    have cv0 := cell_of_row w4 _ 0 _ _ _ HA4.out.rv
    have cv1 := cell_of_row w4 _ 1 _ _ _ HA4.out.rv
    have zv0 := frozen_of_row w4 _ 0 _ _ HA4.out.rv
    have zv1 := frozen_of_row w4 _ 1 _ _ HA4.out.rv
    simp at c00 c01 c10 c11 cv0 cv1
    by_cases hok : addOk n p t = true
    · obtain ⟨hr, hk1, ht1⟩ := addOk_facts n p t hok
      obtain ⟨k0, _, hl, hwd⟩ := rngB_facts n p hr
      obtain ⟨e1, e2⟩ := add_yes n p t hbig hok
      have E1 := hideT (HRN.out.trans e1)
      have E2 := hideT (HRL.out.trans e2)
      have HW := hideT ((wide_yes p).1 hwd)
      have HLS := hideT (leafV_size t)
      obtain ⟨k, hk⟩ : ∃ k : Nat, n = k := ⟨n.toNat, by omega⟩
      have HNk := hideT hk
      rw [show n.toNat = k by omega] at hl E2
      rw [← HM.out] at hl E2
      have HOn := hideT hl
      clear e1 e2 hok hwd hl hk
      have gk : decide ((1000000 : Int) ≤ n) = false := by simp; omega
      have gt : decide ((100 : Int) < (t.size : Int)) = false := by simp; omega
      rw [hr]
      clear hr
      go_wp2_with fail
      refine (l03Leaf_any t w4 (by omega)).mono ?_
      obtain ⟨ls, hls⟩ : ∃ ls, ls = leafV t := ⟨_, rfl⟩
      rw [← hls] at HLS E2 ⊢
      clear hls
      rintro e w5 ⟨rfl, hb5⟩
      have HA5 := hideT (HA4.out.below hb5)
      clear hb5 HA4 c00 c01 c10 c11 z10 z11 cv0 cv1 zv0 zv1
      have c00 := cell_of_row w5 _ 0 _ _ _ HA5.out.r0
      simp at c00
      go_wp2_with fail
      clear c00
      go_loopw [6, 7] (fun hv lv wr => ∃ (j low : Nat) (h : ByteArray), hv = .string h ∧ lv = .int .i64 (low : Int) ∧ Aft3 w wr n (.slice a0 m cap) vb (.slice a1 j c1) (p.take j) ∧ j ≤ m ∧ j = ones low ∧ h.size = 32 ∧ rl = carry p j low h ∧ low ≤ 1000000) (fun _ lv _ => (intOf lv).toNat)
      case atStart => exact ⟨m, k, ls, rfl, by rw [HNk.out], (by rw [HM.out, List.take_length, ← HM.out]; exact HA5.out), Nat.le_refl _, HOn.out, HLS.out, E2.out, by have := HNk.out; omega⟩
      case round =>
        obtain ⟨j, low, h, rfl, rfl, hA, hj, hjo, hh, hca, hlow⟩ := hrel
        have HB := hideT hA
        have HCa := hideT hca
        have HJo := hideT hjo
        clear hA hca hjo
        by_cases hodd : low % 2 = 1
        · have HO := hideT (ones_odd low hodd)
          have hj1 : 1 ≤ j := by have := HJo.out; have := HO.out; omega
          obtain ⟨i, rfl⟩ : ∃ i, j = i + 1 := ⟨j - 1, by omega⟩
          have hip : i < p.length := by have := HM.out; omega
          have hlt : (p.take (i + 1)).length = i + 1 := by rw [List.length_take]; omega
          obtain ⟨g, cap', hv, hg, hcap', ho⟩ : ∃ g cap, Value.slice a1 (i + 1) c1 = .slice (some ⟨g, 0, none⟩) (i + 1) cap ∧ w.heap.size + 2 ≤ g ∧ i + 1 ≤ cap ∧ IsO wr g 9 (p.take (i + 1)) := by
            rcases HB.out.own.split with ⟨_, h0⟩ | hh
            · rw [h0] at hlt
              simp at hlt
            · rw [hlt] at hh
              exact hh
          simp at hv
          obtain ⟨rfl, rfl⟩ := hv
          have ci : wr.cell? ⟨g, i, none⟩ = some (.string p[i]) := by
            have := ho.cell (j := i) (by omega)
            rw [List.getElem_take] at this
            exact this
          have HCo := hideT (carry_odd p i low h hodd hip)
          have HSz := hideT (HW.out i hip)
          have hs32 := HW.out i hip
          obtain ⟨s, hse⟩ : ∃ s, s = p[i] := ⟨_, rfl⟩
          rw [← hse] at ci HSz HCo hs32
          clear hse ho hlt
          have cv1 := cell_of_row wr _ 1 _ _ _ HB.out.rv
          simp at cv1
          have g1 : ((i + 1 : Nat) : Int) - 1 = i := by omega
          have m2 : (low : Int) % 2 = 1 := by omega
          go_wp2_with fail
          refine (l03Node_any s h wr (by omega) (by omega)).mono ?_
          rintro e w6 ⟨rfl, hb6⟩
          have HB6 := hideT (HB.out.below hb6)
          clear hb6 ci cv1
          have cv0 := cell_of_row w6 _ 0 _ _ _ HB6.out.rv
          have cv1 := cell_of_row w6 _ 1 _ _ _ HB6.out.rv
          have zv1 := frozen_of_row w6 _ 1 _ _ HB6.out.rv
          simp at cv0 cv1
          clear m2
          go_wp2_with fail
          go_roundw
          case rel => exact ⟨i, low / 2, nodeV s h, rfl, by simp, HB6.out.cutS hip, by omega, by have := HJo.out; have := HO.out; omega, nodeV_size _ _, by rw [HCa.out, HCo.out], by omega⟩
          case measure => simp [intOf]; omega
        · have m2 : (low : Int) % 2 = 0 := by omega
          have HCe2 := hideT (carry_even p j low h hodd)
          have hlt : (p.take j).length = j := by rw [List.length_take]; have := HM.out; omega
          have HLt := hideT hlt
          obtain ⟨r, hre⟩ : ∃ r, r = (p.take j ++ [h]).length := ⟨_, rfl⟩
          have HRe := hideT hre
          have hOw := HB.out.own
          unfold OwnS at hOw
          rw [hlt] at hOw
          have HOw := hideT hOw
          clear hre hlt hOw
          have hzr := HB.out.low.size
          have hzr1 := lt_of_row HB.out.r1
          have c00 := cell_of_row wr _ 0 _ _ _ HB.out.r0
          have cv1 := cell_of_row wr _ 1 _ _ _ HB.out.rv
          simp at c00 cv1
          have hfar := HB.out.far
          have n0 : ¬ w.heap.size = vb := by omega
          have n1 : ¬ w.heap.size + 1 = vb := by omega
          have n2 : ¬ vb = w.heap.size := by omega
          have n3 : ¬ vb = w.heap.size + 1 := by omega
          have gn : IntKind.i64.wrap (n + 1) = n + 1 := by simp [IntKind.wrap, IntKind.bits, IntKind.signed]; omega
          go_wp2_with (at_builtin; refine wpList_append_own _ rfl (.tmp 60) (.tmp 62) 23 rfl (w.heap.size + 2) 9 i0 (.string ⟨#[]⟩) 1 16 Tryd.underlying23 hif hz0 hz1 hz2 rfl (by decide) (.slice a1 j c1) j ((p.take j).map Value.string) rfl (HOw.out.alloc _) ⟨wr.heap.size, 0, none⟩ 1 1 [.string h] rfl rfl (one_newS wr _ _) (one_cellS _) ?c3 ?c4 ?c5 ?_; (case c3 => unfold maxLen; omega); (case c4 => omega); (case c5 => simp; omega); intro v8 w8 hown8 hgrow8 _; obtain ⟨b8, G0, G1, GV, O8⟩ := HB.out.app (by rw [HLt.out]; exact hown8) hgrow8; have HB8 := hideT b8; have HG0 := hideT G0; have HG1 := hideT G1; have HGV := hideT GV; have HO8 := hideT O8; obtain ⟨a8, c8, hv8⟩ := own_slice HRe HO8; clear hown8 hgrow8 b8 G0 G1 GV O8 c00 cv1; subst v8; have c00 := cell_of_row w8 _ 0 _ _ _ HG0.out; have c10 := cell_of_row w8 _ 0 _ _ _ HG1.out; have c11 := cell_of_row w8 _ 1 _ _ _ HG1.out; have z10 := frozen_of_row w8 _ 0 _ _ HG1.out; have z11 := frozen_of_row w8 _ 1 _ _ HG1.out; have cv0 := cell_of_row w8 _ 0 _ _ _ HGV.out; have cv1 := cell_of_row w8 _ 1 _ _ _ HGV.out; have zv0 := frozen_of_row w8 _ 0 _ _ HGV.out; have zv1 := frozen_of_row w8 _ 1 _ _ HGV.out; simp at c00 c10 c11 cv0 cv1)
          exact bodyPost_ret (v := .agg #[.int .i64 (n + 1), .slice a8 r c8]) (by simp [results, Tryd.results23, go_sem, c10, c11]) rfl ⟨.slice a8 r c8, by rw [E1.out], by rw [HCa.out, HCe2.out]; exact OwnS.mono (own_end HO8.out HGV.out) (by omega), (((HB8.out.setCell (by simp; omega) _).setCell (by simp; omega) _).setCell (by simp) _).setCell (by simp) _⟩
    · obtain ⟨e1, e2⟩ := add_no n p t hbig hok
      have E1 := hideT (HRN.out.trans e1)
      have E2 := hideT (HRL.out.trans e2)
      clear e1 e2
      have HF := hideT (addOk_no' n p t hok)
      clear hok
      cases hr : rngB n p with
      | false =>
        go_wp2_with fail
        refine bodyPost_ret (v := .agg #[.int .i64 n, .slice a1 m c1]) (by simp [results, Tryd.results23, go_sem, c10, c11]) rfl ⟨.slice a1 m c1, by rw [E1.out], by rw [E2.out]; exact OwnS.mono (own_set_low (own_set_low HA4.out.own _ _ (by simp)) _ _ (by simp)) (by omega), (HA4.out.low.setCell (by simp) _).setCell (by simp) _⟩
      | true =>
        by_cases h1 : 1000000 ≤ n
        · go_wp2_with fail
          refine bodyPost_ret (v := .agg #[.int .i64 n, .slice a1 m c1]) (by simp [results, Tryd.results23, go_sem, c10, c11]) rfl ⟨.slice a1 m c1, by rw [E1.out], by rw [E2.out]; exact OwnS.mono (own_set_low (own_set_low HA4.out.own _ _ (by simp)) _ _ (by simp)) (by omega), (HA4.out.low.setCell (by simp) _).setCell (by simp) _⟩
        · have h2 := HF.out hr (by omega)
          have h3 : (100 : Int) < (t.size : Int) := by omega
          have h4 : decide ((1000000 : Int) ≤ n) = false := by simp; omega
          go_wp2_with fail
          refine bodyPost_ret (v := .agg #[.int .i64 n, .slice a1 m c1]) (by simp [results, Tryd.results23, go_sem, c10, c11]) rfl ⟨.slice a1 m c1, by rw [E1.out], by rw [E2.out]; exact OwnS.mono (own_set_low (own_set_low HA4.out.own _ _ (by simp)) _ _ (by simp)) (by omega), (HA4.out.low.setCell (by simp) _).setCell (by simp) _⟩

theorem add_spec (n : Int) (p : List ByteArray) (t : ByteArray) (a0 : Option Addr) (cap B : Nat) (w : World) (hp : p.length ≤ 1048576) (ht : t.size ≤ maxLen) (hs : Strs w B a0 p) (ha : a0 = none → p.length = 0 ∧ cap = 0) (hB : B ≤ w.heap.size) :
    Calls Tryd.prog 23 #[.agg #[.int .i64 n, .slice a0 p.length cap], .string t] w fun e w' => ∃ v, e = .returned (.agg #[.int .i64 (addN n p t), v]) ∧ OwnS w' w.heap.size v (addR n p t) ∧ Below w.heap.size w w' := by
  by_cases hbig : 8000 < t.size
  · exact add_spec_big n p t _ cap w ht hbig
  · exact add_spec_small n p t a0 cap B w hp ht hs ha hB hbig
end Go.Proofs.YtghghkfhcpldhaaDoor.Tr
