/- Texts put together: FrontB, BwtImpl, UnbImpl, UnbImpl2. -/
import Derived.Test.YtjdlgpnhkfdehaaGreatDoorBu32
import Derived.Test.YtjdlgpnhkfdehaaGreatDoorBu31
import Derived.Test.YtjdlgpnhkfdehaaGreatDoorBu14
/- What both FrontBack answer. -/
namespace Go.Proofs.YtjdlgpnhkfdehaaGreatDoor.Fr
open Go.RowKit
open Go.Proofs.YtjdlgpnhkfdehaaGreatDoor.Sh (IsB rowF upd made_row strF)
open Go.Proofs.YtjdlgpnhkfdehaaGreatDoor.Ze (hideZ numsR upTo upTo_yes numsR_of numsR_long numsR_yes nums_spec)
open Go.Proofs.YtjdlgpnhkfdehaaGreatDoor.Bi (upTo_impl)
open Go.Proofs.YtjdlgpnhkfdehaaGreatDoor.St (Aft)
open Go.Proofs.YtjdlgpnhkfdehaaGreatDoor.In (Ints)
open Go.Proofs.YtjdlgpnhkfdehaaGreatDoor.Nu (ret_strJ bv own_string app_below)
def fillB (b : List UInt8) : Nat → Nat := fun j => (b.getD j 0).toNat
theorem fillB_lt (b : List UInt8) (j : Nat) : fillB b j < 256 := UInt8.toNat_lt _
theorem fillB_next (b : List UInt8) (k : Nat) (x : Int) (hk : b.length = k) (h0 : 0 ≤ x) (h1 : x < 256) (j : Nat) :
    upd (fun j => ((fillB b j : Nat) : Int)) k x j = ((fillB (b ++ [UInt8.ofNat x.toNat]) j : Nat) : Int) := by
  unfold upd fillB
  subst hk
  by_cases e : j = b.length
  · subst e
    rw [if_pos rfl, List.getD_eq_getElem?_getD, List.getElem?_append_right (Nat.le_refl _)]
    simp
    omega
  · rw [if_neg e]
    simp only [List.getD_eq_getElem?_getD]
    by_cases h : j < b.length
    · rw [List.getElem?_append_left h]
    · rw [List.getElem?_eq_none (by omega), List.getElem?_eq_none (by simp; omega)]
theorem fillB_all (b : List UInt8) : strF b.length (fillB b) = ⟨b.toArray⟩ := by
  unfold strF
  congr 1
  congr 1
  apply List.ext_getElem
  · simp
  · intro i h1 h2
    have h3 : i < b.length := by simpa using h1
    simp [fillB, List.getD_eq_getElem?_getD, List.getElem?_eq_getElem h3]
set_option maxRecDepth 100000 in
set_option maxHeartbeats 1000000 in
theorem frontBack_impl (l : List Int) (a : Option Addr) (cap B : Nat) (w : World) (hi : Ints w B a l) (hB : B ≤ w.heap.size) (hn : l.length ≤ 1048576) :
    Calls Tryz.prog 215 #[.slice a l.length cap] w fun e w' => e = .returned (.string ⟨(fbackR l).toArray⟩) ∧ Below w.heap.size w w' := by
  obtain ⟨i0, hi0, hz0, hz1, hz2⟩ := info_parts Nu.Tryz.infoJ5
  by_cases hlong : 400 < l.length
  · rw [fbackR_no (numsR_long hlong)]
    clear hi
    generalize l.length = n at hlong hn ⊢
    go_enter Tryz.func215, Tryz.ntmps215
    go_wp2_with fail
    go_ret
    exact ⟨rfl, Below.refl _ _⟩
  · have HU := hideZ (upTo_impl l 255 a cap B w hi hn)
    cases hu : upTo l 255 with
    | false =>
      rw [fbackR_no ((numsR_of (by omega)).trans hu)]
      rw [hu] at HU
      clear hi hu
      generalize l.length = n at HU hlong hn ⊢
      have hd : decide (400 < (n : Int)) = false := decide_eq_false (by omega)
      go_enter Tryz.func215, Tryz.ntmps215
      go_wp2_with fail
      refine HU.out.mono ?_
      rintro e w' ⟨rfl, hw⟩
      subst w'
      go_wp2_with fail
      go_ret
      exact ⟨rfl, Below.refl _ _⟩
    | true =>
      rw [fbackR_yes ((numsR_of (by omega)).trans hu)]
      have HUP := hideZ (upTo_yes hu)
      rw [hu] at HU
      have HS := hideZ (hi.mono hB)
      clear hi hu
      obtain ⟨n, hln⟩ : ∃ n, n = l.length := ⟨_, rfl⟩
      have HLN := hideZ hln
      rw [← hln] at HU hlong ⊢
      clear hln hn
      have hd : decide (400 < (n : Int)) = false := decide_eq_false (by omega)
      go_enter Tryz.func215, Tryz.ntmps215
      go_wp2_with fail
      refine HU.out.mono ?_
      rintro e w' ⟨rfl, hw⟩
      subst w'
      go_wp2_with fail
      refine (rising_impl w).mono ?_
      rintro e w1 ⟨rfl, hb1⟩
      have HB1 := hideZ hb1
      have z1 := hb1.size
      clear hb1
      go_wp2_with (first | ((with_reducible refine wpList_alloc_row Tryz.zeroA166 ?_); intro w2 hb2 hbel2 hs2 ho2; have G2 := hideZ hb2; have HB2 := hideZ (HB1.out.trans (hbel2 _ z1)); clear hb2 hbel2 ho2) | ((with_reducible refine Sh.wpList_store_row' G2.out Tryz.sizeA166 row0 ?_ ?_ ?_); (· rfl); (· rfl); intro w3 hb3 hbel3 hs3 ho3; have G3 := hideZ hb3; have HB3 := hideZ (HB2.out.trans (hbel3 _ z1)); clear hb3 hbel3 ho3) | (at_make; refine wpList_make_full _ rfl (.tmp 17) (.tmp 17) 22 rfl w3.heap.size 5 i0 (.int .u8 0) 1 Tryz.underlying22 hi0 hz0 hz1 .i64 .i64 _ _ n rfl rfl (by simp) (by simp) (by rw [hz2]; omega) (by unfold maxLen; omega) (Nat.le_refl _) ?_; intro w4 hown4 hgrow4; have HR4 := hideZ (made_row hown4); have hb4 := (Below.refl w3.heap.size w3).grown hgrow4 (Nat.le_refl _) (by simp); have G4 := hideZ (G3.out.below hb4 (by omega)); have HB4 := hideZ (HB3.out.trans (hb4.mono (by omega))); clear hown4 hgrow4 hb4))
      obtain ⟨g1, hg1⟩ : ∃ g1, g1 = w1.heap.size := ⟨_, rfl⟩
      have e3 : w3.heap.size = w1.heap.size + 1 := by omega
      rw [e3] at HR4
      have hgw : w.heap.size ≤ g1 := by omega
      rw [← hg1] at G4 HR4 ⊢
      obtain ⟨g2, hg2⟩ : ∃ g2, g2 = g1 + 1 := ⟨_, rfl⟩
      have hg12 : g1 < g2 := by omega
      rw [← hg2] at HR4 ⊢
      clear e3
      clear hg1 hg2 hs2 hs3 z1 HU
      go_loopw [21] (fun i wr => ∃ k : Nat, i = .int .i64 k ∧ k ≤ n ∧ IsB wr g1 166 .u8 256 (kst (l.take k)).2 ∧ IsB wr g2 5 .u8 n (fun j => ((fillB (kst (l.take k)).1 j : Nat) : Int)) ∧ Below w.heap.size w wr) (fun i _ => n - (intOf i).toNat)
      case atStart => exact ⟨0, rfl, Nat.zero_le _, G4.out, HR4.out.congr (fun j _ => by simp [fillB, kst]), HB4.out⟩
      case round =>
        obtain ⟨k, rfl, hk, hrow, htxt, hbel⟩ := hrel
        obtain ⟨hfull, hlen⟩ := kst_full l HUP.out k (by have := HLN.out; omega)
        have R1 := hideZ hrow
        have T1 := hideZ htxt
        have GB := hideZ hbel
        clear hbel
        by_cases hlt : k < n
        · have hkl : k < l.length := by rw [← HLN.out]; exact hlt
          obtain ⟨b, off, rfl, hb, hc⟩ := (HS.out.below GB.out).some (by omega)
          have ci := hc k hkl
          have hx255 := HUP.out _ (List.getElem_mem hkl)
          have HM := hideZ (kst_more hkl)
          obtain ⟨x, hx⟩ : ∃ x, x = l[k] := ⟨_, rfl⟩
          rw [← hx] at ci hx255 HM
          obtain ⟨p, rfl⟩ : ∃ p : Nat, x = p := ⟨x.toNat, by omega⟩
          have hp : p < 256 := by omega
          have hfp := hfull.2 p hp
          rw [Int.toNat_natCast] at HM
          obtain ⟨f, hf⟩ : ∃ f, f = (kst (l.take k)).2 := ⟨_, rfl⟩
          obtain ⟨bs, hbs⟩ : ∃ bs, bs = (kst (l.take k)).1 := ⟨_, rfl⟩
          rw [← hf] at R1 HM hrow hfp
          rw [← hbs] at T1 HM hlen htxt
          have c1 := hrow.cell (j := p) hp
          have c2 := htxt.cell (j := k) hlt
          have f2 := htxt.frozen k
          obtain ⟨y, hy⟩ : ∃ y, y = f p := ⟨_, rfl⟩
          have HY := hideZ hy
          rw [← hy] at c1 hfp
          have HT2 := hideZ ((htxt.set k y).congr (fun j _ => fillB_next bs k y hlen hfp.1 hfp.2 j))
          have HR2 := hideZ (hrow.set_other ⟨g2, k, none⟩ (.int .u8 y) (by simp; omega))
          have HBr := hideZ (bring_impl g1 p 166 f _ HR2.out hp)
          rw [← hy] at HM
          clear hc hx hf hbs hrow htxt hfull hlen hy
          go_wp2_with fail
          refine HBr.out.mono ?_
          rintro e w5 ⟨rfl, hb5, ha5⟩
          have G5 := hideZ hb5
          have T5 := hideZ (HT2.out.of_heap (ha5.2.2.2.2 g2 HT2.out.lt (by omega)))
          have B5 := hideZ (Aft.below (GB.out.setCell (p := ⟨g2, k, none⟩) (by simp; omega) (.int .u8 y)) ha5 (by omega) (by have := HT2.out.lt; omega))
          clear hb5 ha5
          go_wp2_with fail
          go_roundw
          case rel => exact ⟨k + 1, by go_num, by omega, by rw [HM.out]; exact G5.out, by rw [HM.out]; exact T5.out, B5.out⟩
          case measure => simp [intOf]; omega
        · obtain rfl : k = n := by omega
          have HT : Hid (l.take k = l) := by
            unfold Hid
            rw [HLN.out, List.take_length]
          rw [HT.out] at htxt hlen
          have hcv := htxt.str (P := Tryz.prog) (src := 22) (dst := 9) k k (Nat.le_refl _) (fun j _ => fillB_lt _ j) Tryz.underlying22 Tryz.underlying5 Tryz.underlying9
          have HF : Hid (strF k (fillB (kst l).1) = ⟨(kst l).1.toArray⟩) := by
            unfold Hid
            rw [← hlen]
            exact fillB_all _
          rw [HF.out] at hcv
          clear hrow htxt hfull hlen
          go_wp2_with fail
          go_ret
          exact ⟨rfl, GB.out⟩
end Go.Proofs.YtjdlgpnhkfdehaaGreatDoor.Fr


/- What the program's Bwt answers. -/
namespace Go.Proofs.YtjdlgpnhkfdehaaGreatDoor.So
open Go.RowKit Go.Sort Go.Proofs
open Go.Proofs.YtjdlgpnhkfdehaaGreatDoor.Sh (bt bt_get bt_lt strF IsB made_row)
def sOut (t : ByteArray) (a c : Nat) : Value := .agg #[.string t, .int .i64 a, .int .i64 c]
def IsR (w : World) (g : Nat) : Prop := w.heap[g]? = some (.cells #[.string ⟨#[]⟩, .int .i64 0, .int .i64 0] 115 (0, 0))
theorem IsR.cells {w : World} {g : Nat} (h : IsR w g) : w.cell? ⟨g, 0, none⟩ = some (.string ⟨#[]⟩) ∧ w.cell? ⟨g, 1, none⟩ = some (.int .i64 0) ∧ w.cell? ⟨g, 2, none⟩ = some (.int .i64 0) ∧ (∀ j, w.frozen? ⟨g, j, none⟩ = false) := by
  refine ⟨?_, ?_, ?_, fun j => frozen_of_row w g j _ _ h⟩
  · rw [cell_of_row w g 0 _ _ (0, 0) h]; rfl
  · rw [cell_of_row w g 1 _ _ (0, 0) h]; rfl
  · rw [cell_of_row w g 2 _ _ (0, 0) h]; rfl
theorem atK_next (f : Nat → Nat) (k : Nat) : (f k = 0 → atK f (k + 1) = k) ∧ (f k ≠ 0 → atK f (k + 1) = atK f k) := by
  constructor
  · intro h; rw [atK, if_pos h]
  · intro h; rw [atK, if_neg h]
set_option maxRecDepth 100000 in
set_option maxHeartbeats 1000000 in
theorem bwt_impl (t : ByteArray) (w : World) (hn : t.size ≤ 1048576) :
    Calls Tryz.prog 105 #[.string t] w fun e w' => e = .returned (sOut (bwtT t) (bwtA t) (bwtC t)) ∧ Below w.heap.size w w' := by
  obtain ⟨i0, hi0, hz0, hz1, hz2⟩ := info_parts Nu.Tryz.infoJ5
  by_cases hbig : 8000 < t.size
  · have HV : Hid (sOut (bwtT t) (bwtA t) (bwtC t) = sOut ⟨#[]⟩ 0 2) := by
      unfold Hid
      rw [(bwt_no (by omega)).1, (bwt_no (by omega)).2, bwtC, if_pos hbig]
    go_enter Tryz.func105, Tryz.ntmps105
    go_wp2_with fail
    refine bodyPost_ret (v := sOut ⟨#[]⟩ 0 2) (by simp [results, sOut, Tryz.results105, go_sem]) rfl ⟨by rw [HV.out], ?_⟩
    exact (Below.refl _ _).alloc (Nat.le_refl _) _
  · have hbig' : ¬ (8000 : Int) < (t.size : Int) := by omega
    by_cases hlong : 48 < t.size
    · have HV : Hid (sOut (bwtT t) (bwtA t) (bwtC t) = sOut ⟨#[]⟩ 0 1) := by
        unfold Hid
        rw [(bwt_no (by omega)).1, (bwt_no (by omega)).2, bwtC, if_neg hbig, if_pos hlong]
      go_enter Tryz.func105, Tryz.ntmps105
      go_wp2_with fail
      refine bodyPost_ret (v := sOut ⟨#[]⟩ 0 1) (by simp [results, sOut, Tryz.results105, go_sem]) rfl ⟨by rw [HV.out], ?_⟩
      exact (Below.refl _ _).alloc (Nat.le_refl _) _
    · have hlong' : ¬ (48 : Int) < (t.size : Int) := by omega
      obtain ⟨w0, hw0⟩ : ∃ w0, w0 = w.alloc (.cells #[.string ⟨#[]⟩, .int .i64 0, .int .i64 0] 115) := ⟨_, rfl⟩
      have z0 : w0.heap.size = w.heap.size + 1 := by rw [hw0]; simp
      have HR0 : Hid (IsR w0 w.heap.size) := by unfold Hid; rw [hw0]; exact heap_alloc_last w _
      have HB0 : Hid (Below w.heap.size w w0) := by unfold Hid; rw [hw0]; exact (Below.refl _ _).alloc (Nat.le_refl _) _
      go_enter Tryz.func105, Tryz.ntmps105
      go_wp2_with (at_make; rw [← hw0]; refine wpList_make_full _ rfl (.tmp 16) (.tmp 16) 22 rfl w0.heap.size 5 i0 (.int .u8 0) 1 Tryz.underlying22 hi0 hz0 hz1 .i64 .i64 _ _ t.size rfl rfl (by simp) (by simp) (by rw [hz2]; omega) (by unfold maxLen; omega) (Nat.le_refl _) ?_; intro w1 hown1 hgrow1; have HT1 := hideO (made_row hown1); have hb1 := (Below.refl w0.heap.size w0).grown hgrow1 (Nat.le_refl _) (by simp); have HR1 : Hid (IsR w1 w.heap.size) := (hb1.block w.heap.size (by omega)).trans HR0.out; have HB1 := hideO (HB0.out.trans (hb1.mono (by omega))); have zz1 := HT1.out.lt; clear hown1 hgrow1 hb1)
      refine (sorted_T t hn w1).mono ?_
      rintro e w2 ⟨g, cap, d, rfl, hg1, hg2, hH, hds, hp, hr, ⟨cur, hty⟩, hb2⟩
      have HH := hideO hH
      have HDS := hideO hds
      have HB2 := hideO (HB1.out.trans (hb2.mono HB1.out.size))
      have HR2 : Hid (IsR w2 w.heap.size) := (hb2.block w.heap.size (by omega)).trans HR1.out
      have HT2 := hideO (HT1.out.below hb2 zz1)
      have z2 := hb2.size
      have HXT : Hid (∀ k, k < t.size → d[k]! < t.size) := fun k hk => by
        have : dF d k ∈ seg (dF d) 0 t.size := by
          rw [seg, List.mem_map]
          exact ⟨k, by simp; omega, by simp⟩
        have := hp.mem_iff.1 this
        have h2 := List.mem_range.1 this
        exact h2
      have HE := hideO (bwt_yes (by omega) (ordF_seg (ord_seg hp hr)))
      clear hH hds hp hr hb2 hty
      go_wp2_with fail
      go_loopw [21, 4] (fun i a wr => ∃ k : Nat, i = .int .i64 k ∧ k ≤ t.size ∧ a = .int .i64 (atK (dF d) k : Nat) ∧ IsB wr (w.heap.size + 1) 5 .u8 t.size (fun j => ((fillL t (dF d) k j : Nat) : Int)) ∧ IsR wr w.heap.size ∧ wr.heap[g]? = w2.heap[g]? ∧ Below w.heap.size w wr) (fun i _ _ => t.size - (intOf i).toNat)
      case atStart => exact ⟨0, rfl, Nat.zero_le _, rfl, by rw [← z0]; exact HT2.out.congr (fun j _ => by simp [fillL]), HR2.out, rfl, HB2.out⟩
      case round =>
        obtain ⟨k, rfl, hk, rfl, htxt, hres, hbg, hbel⟩ := hrel
        have T1 := hideO htxt
        have R1 := hideO hres
        have GB := hideO hbel
        have HBG := hideO hbg
        have hsz := htxt.lt
        clear hbel
        by_cases hlt : k < t.size
        · obtain ⟨x0c, _, x1c, _⟩ := cells_T (holds_block HH.out hbg) (i := k) (by rw [HDS.out]; exact hlt)
          have hkz : (k : Int) < (t.size : Int) := by omega
          have hxt := HXT.out k hlt
          have HN := hideO (fillL_next t (dF d) k)
          have HA := hideO (atK_next (dF d) k)
          have HX : Hid (dF d k = d[k]!) := rfl
          obtain ⟨x, hx⟩ : ∃ x, x = d[k]! := ⟨_, rfl⟩
          rw [← hx] at x0c x1c hxt HX
          rw [HX.out] at HN HA
          obtain ⟨p, hp⟩ : ∃ p, t.size = p + 1 := ⟨t.size - 1, by omega⟩
          have e1 : (t.size : Int) - 1 = (p : Int) := by omega
          have hwp : IntKind.i64.wrap (p : Int) = (p : Int) := by rw [IntKind.wrap_i64]; omega
          have htz := turnV_size t x (by omega)
          have hlast := turnV_last t x hxt
          rw [show t.size - 1 = p by omega] at hlast
          have hpx : p < (turnV t x).size := by omega
          obtain ⟨y, hy, hyt⟩ : ∃ y : UInt8, (turnV t x)[p] = y ∧ y.toNat = lastB t x := ⟨_, rfl, (bt_get _ _ hpx).trans hlast⟩
          rw [← hyt] at HN
          generalize turnV t x = tx at x1c hpx hy htz
          have hpx' : (p : Int) < (tx.size : Int) := by omega
          have c2 := htxt.cell (j := k) hlt
          have f2 := htxt.frozen k
          have hgl : g < wr.heap.size := by
            have := GB.out.size
            have h2 : w2.heap[g]? ≠ none := by rw [Array.getElem?_eq_getElem hg2]; simp
            rw [← hbg] at h2
            exact Nat.lt_of_not_le fun h => h2 (Array.getElem?_eq_none h)
          have HTN := hideO fun W (h : IsB W (w.heap.size + 1) 5 .u8 t.size (fun j => ((fillL t (dF d) k j : Nat) : Int))) => (h.set k (y.toNat : Nat)).congr (fun j _ => HN.out j)
          obtain ⟨m, hm⟩ : ∃ m, m = atK (dF d) k := ⟨_, rfl⟩
          rw [← hm] at HA ⊢
          clear hx htxt hres hbg hlast hyt hm
          have TS := HTN.out wr T1.out
          have RS : IsR (wr.setCell ⟨w.heap.size + 1, k, none⟩ (.int .u8 (y.toNat : Nat))) w.heap.size := by
            unfold IsR
            rw [heap_setCell_other _ _ _ _ (by simp)]
            exact R1.out
          have GS : (wr.setCell ⟨w.heap.size + 1, k, none⟩ (.int .u8 (y.toNat : Nat))).heap[g]? = w2.heap[g]? := by
            rw [heap_setCell_other _ _ _ _ (by simp; omega)]
            exact HBG.out
          have BS := GB.out.setCell (p := ⟨w.heap.size + 1, k, none⟩) (by simp) (.int .u8 (y.toNat : Nat))
          have LS : g < (wr.setCell ⟨w.heap.size + 1, k, none⟩ (.int .u8 (y.toNat : Nat))).heap.size := by simpa using hgl
          have HS : Hid (∀ o : Obj, IsB ((wr.setCell ⟨w.heap.size + 1, k, none⟩ (.int .u8 (y.toNat : Nat))).alloc o) (w.heap.size + 1) 5 .u8 t.size (fun j => ((fillL t (dF d) (k + 1) j : Nat) : Int)) ∧ IsR ((wr.setCell ⟨w.heap.size + 1, k, none⟩ (.int .u8 (y.toNat : Nat))).alloc o) w.heap.size ∧ ((wr.setCell ⟨w.heap.size + 1, k, none⟩ (.int .u8 (y.toNat : Nat))).alloc o).heap[g]? = w2.heap[g]? ∧ Below w.heap.size w ((wr.setCell ⟨w.heap.size + 1, k, none⟩ (.int .u8 (y.toNat : Nat))).alloc o)) := by
            intro o
            generalize wr.setCell ⟨w.heap.size + 1, k, none⟩ (.int .u8 (y.toNat : Nat)) = W at TS RS GS BS LS ⊢
            have ba : Below W.heap.size W (W.alloc o) := (Below.refl _ _).alloc (Nat.le_refl _) _
            have h1 := TS.lt
            exact ⟨TS.below ba h1, (ba.block _ (by omega)).trans RS, (ba.block _ LS).trans GS, BS.trans (ba.mono BS.size)⟩
          clear TS RS GS BS LS
          by_cases hx0 : x = 0
          · subst hx0
            have HM := hideO (HA.out.1 rfl)
            go_wp2_with fail
            go_roundw
            case rel => exact ⟨k + 1, by go_num, by omega, by rw [HM.out], HS.out _⟩
            case measure => simp [intOf]; omega
          · have HM := hideO (HA.out.2 hx0)
            have hxz : ((x : Int) == 0) = false := by simpa using hx0
            go_wp2_with fail
            go_roundw
            case rel => exact ⟨k + 1, by go_num, by omega, by rw [HM.out], HS.out _⟩
            case measure => simp [intOf]; omega
        · obtain rfl : k = t.size := by omega
          have hcv := htxt.str (P := Tryz.prog) (src := 22) (dst := 9) t.size t.size (Nat.le_refl _) (fun j _ => fillL_lt _ _ _ j) Tryz.underlying22 Tryz.underlying5 Tryz.underlying9
          rw [fillL_all] at hcv
          obtain ⟨c0, c1, c2, f0⟩ := hres.cells
          have HV : Hid (sOut (bwtT t) (bwtA t) (bwtC t) = sOut (strF t.size (fun j => lastB t (dF d j))) (atK (dF d) t.size) 0) := by
            unfold Hid
            rw [HE.out.1, HE.out.2.1, HE.out.2.2]
          obtain ⟨q, hq⟩ : ∃ q, q = strF t.size (fun j => lastB t (dF d j)) := ⟨_, rfl⟩
          obtain ⟨m, hm⟩ : ∃ m, m = atK (dF d) t.size := ⟨_, rfl⟩
          rw [← hq] at hcv HV
          rw [← hm] at HV ⊢
          clear htxt hres hbg hq hm
          go_wp2_with fail
          refine bodyPost_ret (v := sOut q m 0) (by simp [results, sOut, Tryz.results105, go_sem, c0, c1, c2]) rfl ⟨by rw [HV.out], ?_⟩
          exact ((GB.out.setCell (Nat.le_refl _) _).setCell (Nat.le_refl _) _).setCell (Nat.le_refl _) _
end Go.Proofs.YtjdlgpnhkfdehaaGreatDoor.So


/- What the program's Unbwt answers. -/
namespace Go.Proofs.YtjdlgpnhkfdehaaGreatDoor.So
open Go.RowKit Go.Sort Go.Proofs
open Go.Proofs.YtjdlgpnhkfdehaaGreatDoor.Sh (bt bt_get bt_lt strF IsB made_row)
set_option maxRecDepth 100000 in
set_option maxHeartbeats 1000000 in
theorem turnBack_impl (t : ByteArray) (a : Nat) (w : World) (hn : t.size ≤ 1048576) (ha : a < t.size ∨ t.size = 0) :
    Calls Tryz.prog 245 #[.string t, .int .i64 a] w fun e w' => e = .returned (.string (backT t a)) ∧ Below w.heap.size w w' := by
  obtain ⟨i0, hi0, hz0, hz1, hz2⟩ := info_parts Nu.Tryz.infoJ5
  have HPL := hideO (places_impl t w hn)
  go_enter Tryz.func245, Tryz.ntmps245
  go_wp2_with fail
  refine HPL.out.mono ?_
  rintro e w1 ⟨g, rfl, hg1, hg2, hc, hb1⟩
  have HC := hideO hc
  have HB1 := hideO hb1
  have z1 := hb1.size
  clear hc hb1
  go_wp2_with (at_make; refine wpList_make_full _ rfl (.tmp 12) (.tmp 12) 22 rfl w1.heap.size 5 i0 (.int .u8 0) 1 Tryz.underlying22 hi0 hz0 hz1 .i64 .i64 _ _ t.size rfl rfl (by simp) (by simp) (by rw [hz2]; omega) (by unfold maxLen; omega) (Nat.le_refl _) ?_; intro w2 hown2 hgrow2; have HT2 := hideO (made_row hown2); have HB2 := hideO ((Below.refl w1.heap.size w1).grown hgrow2 (Nat.le_refl _) (by simp)); clear hown2 hgrow2)
  go_loopw [17, 7] (fun i m wr => ∃ k : Nat, i = .int .i64 k ∧ k ≤ t.size ∧ m = .int .i64 (itR t a k : Nat) ∧ IsB wr w1.heap.size 5 .u8 t.size (fun j => ((fillK t a k j : Nat) : Int)) ∧ Below w1.heap.size w1 wr) (fun i _ _ => t.size - (intOf i).toNat)
  case atStart => exact ⟨0, rfl, Nat.zero_le _, rfl, HT2.out.congr (fun j _ => by simp [fillK]), HB2.out⟩
  case round =>
    obtain ⟨k, rfl, hk, rfl, hrow, hbel⟩ := hrel
    have T1 := hideO hrow
    have GB := hideO hbel
    have hsz := hrow.lt
    clear hbel
    by_cases hlt : k < t.size
    · have hat : a < t.size := by omega
      have hr1 := itR_lt t a k hat
      have hr2 := itR_lt t a (k + 1) hat
      have e0 : itR t a (k + 1) = plF t (itR t a k) := rfl
      have c1 : wr.cell? ⟨g, itR t a k, none⟩ = some (.int .i64 (itR t a (k + 1) : Nat)) := by
        rw [GB.out.cell (p := ⟨g, itR t a k, none⟩) hg2, e0]
        exact HC.out _ hr1
      have HN := hideO (fillK_next t a k)
      obtain ⟨p, hp⟩ : ∃ p, p = itR t a k := ⟨_, rfl⟩
      obtain ⟨q, hq⟩ : ∃ q, q = itR t a (k + 1) := ⟨_, rfl⟩
      have HQ := hideO hq
      rw [← hp, ← hq] at c1
      rw [← hq] at hr2 HN
      rw [← hp] at hr1 ⊢
      have hpz : (p : Int) < (t.size : Int) := by omega
      have hqz : (q : Int) < (t.size : Int) := by omega
      have hkz : (k : Int) < (t.size : Int) := by omega
      obtain ⟨y, hy, hyt⟩ : ∃ y : UInt8, t[q] = y ∧ y.toNat = bt t q := ⟨_, rfl, bt_get _ _ hr2⟩
      rw [← hyt] at HN
      have c2 := hrow.cell (j := k) hlt
      have f2 := hrow.frozen k
      have TS := hideO ((hrow.set k (y.toNat : Nat)).congr (fun j _ => HN.out j))
      have BS := hideO (GB.out.setCell (p := ⟨w1.heap.size, k, none⟩) (Nat.le_refl _) (.int .u8 (y.toNat : Nat)))
      clear hrow hp hq hyt e0 ha
      go_wp2_with fail
      go_roundw
      case rel => exact ⟨k + 1, by go_num, by omega, by rw [← HQ.out], TS.out, BS.out⟩
      case measure => simp [intOf]; omega
    · obtain rfl : k = t.size := by omega
      have hcv := hrow.str (P := Tryz.prog) (src := 22) (dst := 9) t.size t.size (Nat.le_refl _) (fun j _ => fillK_lt _ _ _ j) Tryz.underlying22 Tryz.underlying5 Tryz.underlying9
      rw [fillK_all] at hcv
      have BZ := hideO (HB1.out.trans (GB.out.mono z1))
      generalize itR t a t.size = m
      clear hrow ha
      go_wp2_with fail
      go_ret
      exact ⟨rfl, BZ.out⟩
set_option maxHeartbeats 1000000 in
theorem isPlace_impl (t : ByteArray) (a : Int) (w : World) :
    Calls Tryz.prog 244 #[.string t, .int .i64 a] w fun e w' => e = .returned (.bool (!decide (a < 0 ∨ ((t.size : Int) ≤ a ∧ 0 < a)))) ∧ w' = w := by
  by_cases h0 : a = 0
  · subst h0
    rw [decide_eq_false (by omega)]
    go_enter Tryz.func244, Tryz.ntmps244
    go_wp2_with fail
    go_ret
    exact ⟨rfl, rfl⟩
  · have hz : (a == 0) = false := beq_eq_false_iff_ne.2 h0
    by_cases h1 : 0 < a
    · have hd : decide (0 < a) = true := decide_eq_true h1
      by_cases h2 : a < (t.size : Int)
      · have hd2 : decide (a < (t.size : Int)) = true := decide_eq_true h2
        rw [decide_eq_false (by omega)]
        clear h0
        go_enter Tryz.func244, Tryz.ntmps244
        go_wp2_with fail
        go_ret
        exact ⟨rfl, rfl⟩
      · have hd2 : decide (a < (t.size : Int)) = false := decide_eq_false h2
        rw [decide_eq_true (by omega)]
        clear h0
        go_enter Tryz.func244, Tryz.ntmps244
        go_wp2_with fail
        go_ret
        exact ⟨rfl, rfl⟩
    · have hd : decide (0 < a) = false := decide_eq_false h1
      rw [decide_eq_true (by omega)]
      clear h0
      go_enter Tryz.func244, Tryz.ntmps244
      go_wp2_with fail
      go_ret
      exact ⟨rfl, rfl⟩
end Go.Proofs.YtjdlgpnhkfdehaaGreatDoor.So


/- What the program's Unbwt answers: the whole. -/
namespace Go.Proofs.YtjdlgpnhkfdehaaGreatDoor.So
open Go.RowKit Go.Sort Go.Proofs
def IsX (w : World) (g : Nat) : Prop := w.heap[g]? = some (.cells #[.string ⟨#[]⟩, .int .i64 0, .int .i64 0] 26 (0, 0))
theorem IsX.cells {w : World} {g : Nat} (h : IsX w g) : w.cell? ⟨g, 0, none⟩ = some (.string ⟨#[]⟩) ∧ w.cell? ⟨g, 1, none⟩ = some (.int .i64 0) ∧ w.cell? ⟨g, 2, none⟩ = some (.int .i64 0) ∧ (∀ j, w.frozen? ⟨g, j, none⟩ = false) := by
  refine ⟨?_, ?_, ?_, fun j => frozen_of_row w g j _ _ h⟩
  · rw [cell_of_row w g 0 _ _ (0, 0) h]; rfl
  · rw [cell_of_row w g 1 _ _ (0, 0) h]; rfl
  · rw [cell_of_row w g 2 _ _ (0, 0) h]; rfl
theorem bwtC_no {t : ByteArray} (h : t.size ≤ 48) : bwtC t = 0 := by
  unfold bwtC
  rw [if_neg (by omega), if_neg (by omega)]
set_option maxRecDepth 100000 in
set_option maxHeartbeats 1000000 in
theorem unbwt_impl (t : ByteArray) (a : Int) (w : World) (hn : t.size ≤ 1048576) :
    Calls Tryz.prog 217 #[.string t, .int .i64 a] w fun e w' => e = .returned (unR t a) ∧ Below w.heap.size w w' := by
  by_cases hbig : 8000 < t.size
  · have HV := hideO (unR_big (a := a) hbig)
    go_enter Tryz.func217, Tryz.ntmps217
    go_wp2_with fail
    refine bodyPost_ret (v := tOut ⟨#[]⟩ 0 2) (by simp [results, tOut, Tryz.results217, go_sem]) rfl ⟨by rw [HV.out], ?_⟩
    exact (Below.refl _ _).alloc (Nat.le_refl _) _
  · have hbig' : ¬ (8000 : Int) < (t.size : Int) := by omega
    by_cases hlong : 48 < t.size
    · have HV := hideO (unR_form (a := a) hbig (Or.inl hlong))
      have hd : decide ((48 : Int) < (t.size : Int)) = true := decide_eq_true (by omega)
      go_enter Tryz.func217, Tryz.ntmps217
      go_wp2_with fail
      refine bodyPost_ret (v := tOut ⟨#[]⟩ 0 1) (by simp [results, tOut, Tryz.results217, go_sem]) rfl ⟨by rw [HV.out], ?_⟩
      exact (Below.refl _ _).alloc (Nat.le_refl _) _
    · have hlong' : ¬ (48 : Int) < (t.size : Int) := by omega
      have hd : decide ((48 : Int) < (t.size : Int)) = false := decide_eq_false (by omega)
      obtain ⟨w0, hw0⟩ : ∃ w0, w0 = w.alloc (.cells #[.string ⟨#[]⟩, .int .i64 0, .int .i64 0] 26) := ⟨_, rfl⟩
      have z0 : w0.heap.size = w.heap.size + 1 := by rw [hw0]; simp
      have HR0 : Hid (IsX w0 w.heap.size) := by unfold Hid; rw [hw0]; exact heap_alloc_last w _
      have HB0 : Hid (Below w.heap.size w w0) := by unfold Hid; rw [hw0]; exact (Below.refl _ _).alloc (Nat.le_refl _) _
      have HIP := hideO (isPlace_impl t a w0)
      by_cases hbad : a < 0 ∨ ((t.size : Int) ≤ a ∧ 0 < a)
      · have HV := hideO (unR_form hbig (Or.inr hbad))
        rw [decide_eq_true hbad] at HIP
        go_enter Tryz.func217, Tryz.ntmps217
        go_wp2_with fail
        rw [← hw0]
        refine HIP.out.mono ?_
        rintro e w' ⟨rfl, hw⟩
        subst w'
        subst hw0
        go_wp2_with fail
        refine bodyPost_ret (v := tOut ⟨#[]⟩ 0 1) (by simp [results, tOut, Tryz.results217, go_sem]) rfl ⟨by rw [HV.out], ?_⟩
        exact (Below.refl _ _).alloc (Nat.le_refl _) _
      · rw [decide_eq_false hbad] at HIP
        obtain ⟨m, rfl⟩ : ∃ m : Nat, a = m := ⟨a.toNat, by omega⟩
        have HTB := hideO (turnBack_impl t m w0 hn (by omega))
        have hbz := backT_size t m
        have HBW := hideO (fun W => bwt_impl (backT t m) W (by omega))
        rw [bwtC_no (show (backT t m).size ≤ 48 by omega)] at HBW
        have HY := hideO (fun h => unR_yes (t := t) (a := m) (by omega) (by omega) h)
        have HNO := hideO (fun h => unR_no (t := t) (a := m) (by omega) (by omega) h)
        obtain ⟨b, hb⟩ : ∃ b, b = backT t m := ⟨_, rfl⟩
        obtain ⟨bt', hbt⟩ : ∃ bt', bt' = bwtT b := ⟨_, rfl⟩
        obtain ⟨ba, hba⟩ : ∃ ba, ba = bwtA b := ⟨_, rfl⟩
        rw [← hb] at HTB HBW HY HNO
        rw [← hbt, ← hba] at HBW HY HNO
        unfold sOut at HBW
        clear hb hbt hba hbz hbad
        by_cases hq : bt' = t ∧ ba = m
        · obtain ⟨rfl, rfl⟩ := hq
          have HV := hideO (HY.out ⟨rfl, rfl⟩)
          clear HY HNO
          go_enter Tryz.func217, Tryz.ntmps217
          go_wp2_with fail
          rw [← hw0]
          refine HIP.out.mono ?_
          rintro e w' ⟨rfl, hw⟩
          subst w'
          go_wp2_with fail
          rw [← hw0]
          refine HTB.out.mono ?_
          rintro e w1 ⟨rfl, hb1⟩
          have HR1 : Hid (IsX w1 w.heap.size) := (hb1.block w.heap.size (by omega)).trans HR0.out
          have HB1 := hideO (HB0.out.trans (hb1.mono (by omega)))
          have z1 := hb1.size
          clear hb1
          go_wp2_with fail
          refine (HBW.out w1).mono ?_
          rintro e w2 ⟨rfl, hb2⟩
          have hr2 : IsX w2 w.heap.size := (hb2.block w.heap.size (by omega)).trans HR1.out
          have GB := hideO (HB1.out.trans (hb2.mono (by omega)))
          have z2 := hb2.size
          obtain ⟨c0, c1, c2, f0⟩ := hr2.cells
          clear hr2 hb2
          go_wp2_with fail
          refine bodyPost_ret (v := tOut b 0 0) (by simp [results, tOut, Tryz.results217, go_sem, c0, c1, c2]) rfl ⟨by rw [HV.out], ?_⟩
          exact ((GB.out.setCell (Nat.le_refl _) _).setCell (Nat.le_refl _) _).setCell (Nat.le_refl _) _
        · have HV := hideO (HNO.out hq)
          by_cases hqt : bt' = t
          · subst hqt
            have hqm : ((ba : Int) == (m : Int)) = false := beq_eq_false_iff_ne.2 (fun e => hq ⟨rfl, by omega⟩)
            clear hq
            clear HY HNO
            go_enter Tryz.func217, Tryz.ntmps217
            go_wp2_with fail
            rw [← hw0]
            refine HIP.out.mono ?_
            rintro e w' ⟨rfl, hw⟩
            subst w'
            go_wp2_with fail
            rw [← hw0]
            refine HTB.out.mono ?_
            rintro e w1 ⟨rfl, hb1⟩
            have HR1 : Hid (IsX w1 w.heap.size) := (hb1.block w.heap.size (by omega)).trans HR0.out
            have HB1 := hideO (HB0.out.trans (hb1.mono (by omega)))
            have z1 := hb1.size
            clear hb1
            go_wp2_with fail
            refine (HBW.out w1).mono ?_
            rintro e w2 ⟨rfl, hb2⟩
            have hr2 : IsX w2 w.heap.size := (hb2.block w.heap.size (by omega)).trans HR1.out
            have GB := hideO (HB1.out.trans (hb2.mono (by omega)))
            have z2 := hb2.size
            obtain ⟨c0, c1, c2, f0⟩ := hr2.cells
            clear hr2 hb2
            go_wp2_with fail
            refine bodyPost_ret (v := tOut ⟨#[]⟩ 0 3) (by simp [results, tOut, Tryz.results217, go_sem, c0, c1, c2]) rfl ⟨by rw [HV.out], ?_⟩
            exact ((GB.out.setCell (Nat.le_refl _) _).setCell (Nat.le_refl _) _).setCell (Nat.le_refl _) _
          · have hqe : (bt'.toList == t.toList) = false := by rw [list_eq_iff]; exact decide_eq_false hqt
            clear hq hqt
            clear HY HNO
            go_enter Tryz.func217, Tryz.ntmps217
            go_wp2_with fail
            rw [← hw0]
            refine HIP.out.mono ?_
            rintro e w' ⟨rfl, hw⟩
            subst w'
            go_wp2_with fail
            rw [← hw0]
            refine HTB.out.mono ?_
            rintro e w1 ⟨rfl, hb1⟩
            have HR1 : Hid (IsX w1 w.heap.size) := (hb1.block w.heap.size (by omega)).trans HR0.out
            have HB1 := hideO (HB0.out.trans (hb1.mono (by omega)))
            have z1 := hb1.size
            clear hb1
            go_wp2_with fail
            refine (HBW.out w1).mono ?_
            rintro e w2 ⟨rfl, hb2⟩
            have hr2 : IsX w2 w.heap.size := (hb2.block w.heap.size (by omega)).trans HR1.out
            have GB := hideO (HB1.out.trans (hb2.mono (by omega)))
            have z2 := hb2.size
            obtain ⟨c0, c1, c2, f0⟩ := hr2.cells
            clear hr2 hb2
            go_wp2_with fail
            refine bodyPost_ret (v := tOut ⟨#[]⟩ 0 3) (by simp [results, tOut, Tryz.results217, go_sem, c0, c1, c2]) rfl ⟨by rw [HV.out], ?_⟩
            exact ((GB.out.setCell (Nat.le_refl _) _).setCell (Nat.le_refl _) _).setCell (Nat.le_refl _) _
end Go.Proofs.YtjdlgpnhkfdehaaGreatDoor.So

